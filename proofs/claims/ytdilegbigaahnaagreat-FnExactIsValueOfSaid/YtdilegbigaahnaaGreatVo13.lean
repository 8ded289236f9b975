/- What is proved here: a piece of the proof of YtdilegbigaahnaaGreatExactIsValueOf (ImplValid, ValueOf, ImplValueOf, TreeSize). Condition: none beyond what each part says. -/
import Derived.Test.YtdilegbigaahnaaGreatVo10
import Derived.Test.YtdilegbigaahnaaGreatVo12
import Derived.Deep.RegionLaw
import Derived.Deep.RegionHeld3
import Derived.Test.YtdilegbigaahnaaGreatVo02
import Derived.Test.YtdilegbigaahnaaGreatVo05
import Derived.Test.YtdilegbigaahnaaGreatVo07

/- What is proved here: the program's IsValidSignature says whether a signature is valid. Condition: it lies in memory as said, and is small. -/
section
namespace Go.Proofs.YtdilegbigaahnaaGreat
open Go.RowKit

theorem below_drew_trans {a w w' : World} (h : Below a.heap.size a w.drew) (k : Below w.drew.heap.size w.drew w') : Below a.heap.size a w' := h.trans (k.mono h.size)

set_option maxRecDepth 100000 in
theorem impl_sort_nil (w : World) : Calls Tryz.prog 76 #[.slice none 0 0] w fun e w' => e = .returned (.slice none 0 0) ∧ w' = w := by
  go_enter Tryz.func76, Tryz.ntmps76
  go_wp2_with fail
  refine (Tryz.slices_Clone_string_nil 0 0 w).mono ?_
  rintro e w1 ⟨rfl, rfl⟩
  go_wp2_with fail
  refine (Tryz.slices_Sort_string_none none 0 w1).mono ?_
  rintro e w2 ⟨rfl, rfl⟩
  go_wp2_with fail
  refine (Tryz.slices_Compact_string_empty none 0 w2).mono ?_
  rintro e w3 ⟨rfl, rfl⟩
  go_wp2
  go_ret
  exact ⟨rfl, rfl⟩
set_option maxRecDepth 100000 in
theorem impl_distinct_own (w : World) (B : Nat) (v : Value) (xs : List ByteArray) (ho : w.ownsRow B 9 1 v xs.length (xs.map Value.string)) (hm : xs.length ≤ 1048576) :
    Calls Tryz.prog 48 #[v] w fun e w' => e = .returned (.bool (bl (Distinct xs))) ∧ Below w.heap.size w w' := by
  rcases ho.2 with ⟨rfl, e2⟩ | ⟨g, cap, cur, rfl, _⟩
  · have e3 : xs = [] := List.eq_nil_of_length_eq_zero e2
    subst e3
    rw [bl_true (p := Distinct []) (fun j hj => absurd hj (by simp))]
    go_enter Tryz.func48, Tryz.ntmps48
    go_wp2_with fail
    refine (impl_sort_nil w).mono ?_
    rintro e w1 ⟨rfl, rfl⟩
    go_wp2
    go_ret
    exact ⟨rfl, Below.refl _ _⟩
  · obtain ⟨_, a2, c2, hv, hr⟩ := owned_reads ho
    injection hv with h1 h2 h3
    subst h1
    exact impl_distinct w g cap xs hr hm

set_option maxHeartbeats 4000000 in
set_option maxRecDepth 100000 in
theorem impl_valid (w : World) (a : Option Addr) (cap : Nat) (s : List TypeD) (hx : Row2 TypeAt w a s) (hf : sigFits s) (hm : s.length ≤ 1048576) (hs : ∀ c ∈ s, c.cons.length ≤ 1048576 ∧ ∀ d ∈ c.cons, d.args.length ≤ 1048576) :
    Calls Tryz.prog 26 #[.agg #[.slice a s.length cap]] w fun e w' => e = .returned (.bool (bl (ValidSig s))) ∧ Below w.heap.size w w' := by
  have HX := Lib.hid hx
  have HS := Lib.hid hs
  have HSF := Lib.hid hf
  have HF := Lib.hid hf.2
  have s1 : (w.alloc (.cells #[.slice a s.length cap] 33)).heap.size = w.heap.size + 1 := Array.size_push _
  have hbA : Below w.heap.size w (w.alloc (.cells #[.slice a s.length cap] 33)) := (Below.refl _ _).alloc (Nat.le_refl _) _
  have hc0 := (one_cell (heap_at_new w (.cells #[.slice a s.length cap] 33))).1
  generalize hw1 : w.alloc (.cells #[.slice a s.length cap] 33) = w1 at *
  have hTwo : Two w (w.heap.size + 1) w.heap.size (.slice a s.length cap) [] [] (.slice none 0 0) (.slice none 0 0) w1 :=
    ⟨World.ownsRow_nil _ _ _ _, World.ownsRow_nil _ _ _ _, .inl rfl, .inl rfl, hbA, hc0, by omega, by omega, by omega⟩
  have HTW := Lib.hid hTwo
  have HW1 := Lib.hid hw1
  clear hx hs hf s1 hTwo hw1
  obtain ⟨i0, hi, hz0, hz1, hz2⟩ := info_parts (show (Tryz.prog.info? 9).map (fun i => (i.zero, i.size, i.bytes)) = some (some (.string ⟨#[]⟩), 1, 16) by kernel_rfl)
  generalize hn : s.length = n at *
  have HN := Lib.hid hn
  clear hn
  by_cases h4 : n ≤ 4
  · have h4' : ¬ (4 : Int) < (n : Int) := by omega
    clear hbA
    go_enter Tryz.func26, Tryz.ntmps26
    go_wp2
    rw [HW1.out]
    clear hc0
    go_loopw [3, 4, 16] (fun v1 v2 i wr => ∃ (k : Nat), k ≤ n ∧ i = .int .i64 k ∧ Hid (Two w (w.heap.size + 1) w.heap.size (.slice a n cap) ((s.take k).map TypeD.name) (conNames (s.take k)) v1 v2 wr) ∧ Hid ((conNames (s.take k)).length ≤ k * 5) ∧ Hid (∀ (j : Nat) y, j < k → s[j]? = some y → GoodT s y)) (fun _ _ i _ => n - (intOf i).toNat)
    case atStart => exact ⟨0, Nat.zero_le _, rfl, HTW.out, by show _ ≤ _; simp [conNames], fun j _ h => by omega⟩
    case round =>
      obtain ⟨k, hk, rfl, hT, hCL, hG⟩ := hrel
      have c0 := hT.out.box
      by_cases hlt : k < n
      · have hk' : k < s.length := by rw [HN.out]; exact hlt
        have hltz : (k : Int) < (n : Int) := by omega
        obtain ⟨y, u9, v9, rfl, hw0, hw1, hrw⟩ := HX.out k hk'
        have hx : s[k]? = some s[k] := List.getElem?_eq_getElem hk'
        have hq := HS.out _ (List.getElem_mem hk')
        have hfx := HF.out _ (List.getElem_mem hk')
        generalize s[k] = t at hx hrw hq hfx
        have HXE := Lib.hid hx
        have hr2 := hrw
        obtain ⟨ta, tc, hu, hv, hrc⟩ := hr2
        subst hu
        subst hv
        have hc0 := cell_below hw0 hT.out.base
        have hc1 := cell_below hw1 hT.out.base
        have hr1 := type_below _ _ _ _ _ hrw hT.out.base
        have HRC := Lib.hid hrc
        clear hw0 hw1 hrw hrc
        have hbD : Below wr.heap.size wr (wr.alloc (.cells #[.string t.name, .slice ta t.cons.length tc] 71)) := (Below.refl _ _).alloc (Nat.le_refl _) _
        have HT3 := Lib.hid (hT.out.below hbD)
        have H := impl_validType _ (some y) cap s t _ _ (row2_below type_below HX.out HT3.out.base) (by rw [HN.out]; exact hm) (type_below _ _ _ _ _ hr1 hbD) hfx hq.1 hq.2
        rw [HN.out] at H
        have HT1 := Lib.hid (type_below _ _ _ _ _ hr1 hbD)
        obtain ⟨e1, e2, _, _⟩ := two_cells (heap_at_new wr (.cells #[.string t.name, .slice ta t.cons.length tc] 71))
        have c3 := HT3.out.box
        have hq1 := hq.1
        have HV2 := Lib.hid (p := ∀ g, _ = some g → g < wr.heap.size) (fun g hg => (hT.out.one.lt g hg).2)
        clear hx hr1 hq hfx hbD
        by_cases hg : GoodT s t
        · rw [bl_true hg] at H
          have HG := Lib.hid hg
          have hn5 := hg.2.2.1
          clear hg
          have hnt := names_take s k t HXE.out
          have hct := cons_take s k t HXE.out
          have hpl : ((s.take k).map TypeD.name).length ≤ n := by rw [List.length_map, List.length_take]; omega
          generalize (s.take k).map TypeD.name = xs at *
          generalize conNames (s.take k) = ys at *
          have HNT := Lib.hid hnt
          have HCT := Lib.hid hct
          clear hnt hct
          generalize hn2 : t.cons.length = n2 at *
          have HN2 := Lib.hid hn2
          clear hn2
          go_wp2_with fail
          generalize wr.alloc (.cells #[.string t.name, .slice ta n2 tc] 71) = w3 at *
          refine H.mono ?_
          rintro e w4 ⟨rfl, hb4⟩
          have HT4 := Lib.hid (HT3.out.below hb4)
          have HTA := Lib.hid (type_below _ _ _ _ _ HT1.out hb4)
          have d1 := cell_below e1 hb4
          have d2 := cell_below e2 hb4
          clear hb4 H c0 hc0 hc1 e1 e2 c3
          have hal : Below w4.heap.size w4 (w4.alloc (.cells #[.string t.name] 9)) := (Below.refl _ _).alloc (Nat.le_refl _) _
          have HT5 := Lib.hid (HT4.out.below hal)
          have how := HT5.out.one
          have hle := HT5.out.le
          have d3 := cell_below d2 hal
          clear hal
          go_wp2_with (at_builtin; refine wpList_append_lies _ rfl _ _ 67 rfl (w.heap.size + 1) 9 i0 (.string ⟨#[]⟩) 1 16 Tryz.underlying67 hi hz0 hz1 hz2 rfl (by decide) _ xs.length (xs.map Value.string) rfl how ⟨w4.heap.size, 0, none⟩ 1 1 [.string t.name] rfl rfl (cell_one_new _ _ _) ?d1 (by decide) ?d2 ?d3 hle _ rfl ?_)
          case d1 => intro u hu; simp at hu; subst hu; rfl
          case d2 => unfold maxLen; omega
          case d3 => omega
          intro g cap3 w5 hown hgrow hat hlt5
          have HT6 := Lib.hid (HT5.out.app1 hown hgrow (hat.imp id (fun h => h.trans (Array.size_push _).symm)))
          have d4 := hgrow.cell d3 (fun e => by have := HV2.out _ e.symm; simp at this)
          clear how hle hown hgrow hat hlt5 d1 d2 d3
          go_wp2
          clear d4
          go_loopw [4, 32] (fun v2 i wr => ∃ (q : Nat), q ≤ n2 ∧ i = .int .i64 q ∧ Hid (Two w (w.heap.size + 1) w.heap.size (.slice (some y) n cap) (xs ++ [t.name]) (ys ++ (t.cons.take q).map ConD.name) (.slice (some ⟨g, 0, none⟩) (xs.length + 1) cap3) v2 wr)) (fun _ i _ => n2 - (intOf i).toNat)
          case atStart => exact ⟨0, Nat.zero_le _, rfl, by show Two _ _ _ _ _ _ _ _ _; simpa using HT6.out⟩
          case round =>
            obtain ⟨q, hq, rfl, hT7⟩ := hrel
            by_cases hlt2 : q < n2
            · have hq' : q < t.cons.length := by rw [HN2.out]; exact hlt2
              have hltz2 : (q : Int) < (n2 : Int) := by omega
              obtain ⟨y2, u2, v2, rfl, hd0, hd1, hr3⟩ := row2_below con_below HRC.out hT7.out.base q hq'
              have hx2 : t.cons[q]? = some t.cons[q] := List.getElem?_eq_getElem hq'
              generalize t.cons[q] = c at hx2 hr3
              obtain ⟨ca, cc, hu, hv, _⟩ := hr3
              subst hu
              subst hv
              have hkt := con_take t q c hx2
              have hzl : (ys ++ (t.cons.take q).map ConD.name).length ≤ k * 5 + q := by
                have := hCL.out
                rw [List.length_append, List.length_map, List.length_take]
                omega
              generalize hzs : ys ++ (t.cons.take q).map ConD.name = zs at *
              have HZ : Hid (ys ++ (t.cons.take (q + 1)).map ConD.name = zs ++ [c.name]) := by
                unfold Hid
                rw [hkt, ← List.append_assoc, hzs]
              clear hkt hzs hx2
              have hal1 : Below wr.heap.size wr (wr.alloc (.cells #[.string c.name, .slice ca c.args.length cc] 73)) := (Below.refl _ _).alloc (Nat.le_refl _) _
              have hal2 : Below (wr.alloc (.cells #[.string c.name, .slice ca c.args.length cc] 73)).heap.size (wr.alloc (.cells #[.string c.name, .slice ca c.args.length cc] 73)) ((wr.alloc (.cells #[.string c.name, .slice ca c.args.length cc] 73)).alloc (.cells #[.string c.name] 9)) := (Below.refl _ _).alloc (Nat.le_refl _) _
              have HT8 := Lib.hid ((hT7.out.below hal1).below hal2).swap
              have how := HT8.out.one
              have hle := HT8.out.le
              have hnw := cell_one_new (wr.alloc (.cells #[.string c.name, .slice ca c.args.length cc] 73)) (.string c.name) 9
              have hszz : (wr.alloc (.cells #[.string c.name, .slice ca c.args.length cc] 73)).heap.size = wr.heap.size + 1 := Array.size_push _
              have hsz2 : ((wr.alloc (.cells #[.string c.name, .slice ca c.args.length cc] 73)).alloc (.cells #[.string c.name] 9)).heap.size = wr.heap.size + 1 + 1 := by rw [← hszz]; exact Array.size_push _
              rw [hszz] at hnw
              have HSZ2 := Lib.hid hsz2
              clear hal1 hal2 hszz hsz2
              go_wp2_with (at_builtin; refine wpList_append_lies _ rfl _ _ 67 rfl (w.heap.size + 1) 9 i0 (.string ⟨#[]⟩) 1 16 Tryz.underlying67 hi hz0 hz1 hz2 rfl (by decide) _ zs.length (zs.map Value.string) rfl how ⟨wr.heap.size + 1, 0, none⟩ 1 1 [.string c.name] rfl rfl hnw ?d1 (by decide) ?d2 ?d3 hle (wr.heap.size + 1 + 1) HSZ2.out ?_)
              case d1 => intro u hu; simp at hu; subst hu; rfl
              case d2 => unfold maxLen; omega
              case d3 => omega
              intro g2 cap4 w6 hown hgrow hat hlt6
              have HT9 := Lib.hid (HT8.out.app1 hown hgrow (hat.imp id (fun h => h.trans HSZ2.out.symm))).swap
              clear how hle hown hgrow hat hlt6 hnw
              go_wp2
              go_roundw
              case rel => exact ⟨q + 1, by omega, by go_num, by rw [HZ.out]; exact HT9⟩
              case measure => simp [intOf]; omega
            · have hz : t.cons.take q = t.cons := List.take_of_length_le (by have := HN2.out; omega)
              rw [hz] at hT7
              have HLL : Hid ((conNames (s.take (k + 1))).length ≤ (k + 1) * 5) := by
                have := hCL.out
                have := HN2.out
                unfold Hid
                rw [HCT.out, List.length_append, List.length_map]
                omega
              clear hz
              go_wp2
              go_roundw
              case rel => exact ⟨k + 1, by omega, by go_num, by rw [HNT.out, HCT.out]; exact hT7, HLL, before_succ' hG.out HXE.out HG.out⟩
              case measure => simp [intOf]; omega
        · rw [bl_false hg] at H
          have HRES : Hid (bl (ValidSig s) = false) := bl_false (fun h => by
            obtain ⟨h4, h5⟩ := List.getElem?_eq_some_iff.1 HXE.out
            exact hg (h.1 t (h5 ▸ List.getElem_mem h4)))
          clear hg
          generalize t.cons.length = n2 at *
          go_wp2_with fail
          generalize wr.alloc (.cells #[.string t.name, .slice ta n2 tc] 71) = w3 at *
          refine H.mono ?_
          rintro e w4 ⟨rfl, hb4⟩
          have HB4 : Hid (Below w.heap.size w w4) := HT3.out.base.trans (hb4.mono HT3.out.base.size)
          clear hb4 H c0 hc0 hc1 e1 e2 c3
          go_wp2
          go_ret
          exact ⟨by rw [HRES.out]; rfl, HB4.out⟩
      · have hz : s.take k = s := List.take_of_length_le (by have := HN.out; omega)
        rw [hz] at hT hCL
        have HAL : Hid (∀ t ∈ s, GoodT s t) := all_of_index (fun j y hj hy => hG.out j y (by have := HN.out; omega) hy)
        have hkn : k = n := by omega
        subst hkn
        have hn1 : (s.map TypeD.name).length ≤ 1048576 := by rw [List.length_map, HN.out]; omega
        have hn2 : (conNames s).length ≤ 1048576 := by have := hCL.out; omega
        have H1 : Calls _ _ _ wr.drew _ := impl_distinct_own wr.drew _ _ (s.map TypeD.name) hT.out.one hn1
        have H2 := fun w' (hb : Below wr.heap.size wr w') => impl_distinct_own w' _ _ (conNames s) (own_below hT.out.two hb) hn2
        have H3 := fun w' (hb : Below wr.heap.size wr w') => impl_inhabited w' a cap s (row2_below type_below HX.out (hT.out.base.trans (hb.mono hT.out.base.size))) HSF.out (by rw [HN.out]; exact hm) HS.out
        rw [HN.out] at H3
        have HBW := Lib.hid hT.out.base
        have HV : Hid (ValidSig s ↔ Distinct (s.map TypeD.name) ∧ Distinct (conNames s) ∧ (inhabited s).length = k) := ⟨fun h => ⟨h.2.2.1, h.2.2.2.1, by rw [h.2.2.2.2, HN.out]⟩, fun h => ⟨HAL.out, by have := HN.out; omega, h.1, h.2.1, by rw [h.2.2, HN.out]⟩⟩
        have hml : (inhabited s).length ≤ 1048576 := by
          have h9 : ((s.map TypeD.name).filter fun n => bl (Inh s n)).length ≤ (s.map TypeD.name).length := List.length_filter_le _ _
          have h7 : (inhabited s).length = ((s.map TypeD.name).filter fun n => bl (Inh s n)).length := rfl
          omega
        clear hn1 hn2 hT hCL hz hG hlt
        generalize s.map TypeD.name = xs at *
        generalize conNames s = ys at *
        by_cases hd1 : Distinct xs
        · rw [bl_true hd1] at H1
          by_cases hd2 : Distinct ys
          · simp only [bl_true hd2] at H2
            have HRES : Hid (bl (ValidSig s) = (((inhabited s).length : Int) == (k : Int))) := by
              unfold Hid
              by_cases he : (inhabited s).length = k
              · rw [bl_true (HV.out.2 ⟨hd1, hd2, he⟩), he]; simp
              · rw [bl_false (fun h => he (HV.out.1 h).2.2)]
                symm
                exact beq_eq_false_iff_ne.2 (fun e => he (by omega))
            clear hd1 hd2
            generalize (inhabited s).length = m at *
            go_wp2
            go_region_held3 (fun w' => w'.cell? ⟨w.heap.size, 0, none⟩ = some (.slice a k cap))
              (first
                | go_keep
                | exact cell_below (w := w6) (cell_below (w := w5) (cell_below (w := wr.drew) c0 hb5) hb6) hb7
                | exact cell_below (w := w5) (cell_below (w := wr.drew) c0 hb5) hb6
                | exact cell_below (w := wr.drew) c0 hb5)
              (first
                | (go_at_call 48; with_reducible refine H1.mono ?_; rintro e w5 ⟨rfl, hb5⟩)
                | (go_at_call 48; with_reducible refine (H2 w5 (below_of_drew hb5)).mono ?_; rintro e w6 ⟨rfl, hb6⟩)
                | (go_at_call 49; with_reducible refine (H3 w6 ((below_of_drew hb5).trans (hb6.mono (below_of_drew hb5).size))).mono ?_; rintro e w7 ⟨⟨ia, ic, rfl⟩, hb7⟩))
            have hb56 : Below wr.heap.size wr w6 := (below_of_drew hb5).trans (hb6.mono (below_of_drew hb5).size)
            have hb57 : Below wr.heap.size wr w7 := hb56.trans (hb7.mono hb56.size)
            have HB7 : Hid (Below w.heap.size w w7) := HBW.out.trans (hb57.mono HBW.out.size)
            clear hb5 hb6 hb7 hb56 hb57 H1 H2 H3
            go_wp2
            go_ret
            exact ⟨by rw [HRES.out]; rfl, HB7.out⟩
          · simp only [bl_false hd2] at H2
            have HRES : Hid (bl (ValidSig s) = false) := bl_false (fun h => hd2 (HV.out.1 h).2.1)
            clear hd1 hd2 H3
            go_wp2
            refine wp_region_held_drew (S := fun w' => Below wr.heap.size wr w') (by kernel_rfl) ?_ (fun hHeld => ?_)
            · exact (Below.refl _ wr).drew
            refine wpAnyH_take (i := 0) (v := ?v0) rfl (by kernel_rfl) (by kernel_rfl) (by kernel_rfl) (fun _ _ _ h => h) (Or.inl ⟨by rfl, ?y0⟩) (by assumption) ?r0
            case y0 => (intro w hSw; (try dsimp only at hSw); go_simp; try with_reducible rfl)
            try simp only [Act.put, List.setIfInBounds_toArray, List.set_cons_zero, List.set_cons_succ, List.getElem_toArray, List.getElem_cons_zero]
            refine wpAnyH_ready (rs := [1]) (by kernel_rfl) (by simp) ?_
            refine AllReadyH.cons rfl (fun K hK => ?_) AllReadyH.nil
            go_simp
            refine (H1).mono ?_
            rintro e w5 ⟨rfl, hbl⟩
            go_wp2_with fail
            refine hK.out _ _ ?_ (fun hHeld => ?_)
            · exact below_drew_trans (by assumption) hbl
            clear hK K
            try simp only [Act.put, List.setIfInBounds_toArray, List.set_cons_zero, List.set_cons_succ, List.getElem_toArray, List.getElem_cons_zero, List.getElem_cons_succ]
            refine wpAnyH_take (i := 2) (v := ?v2) rfl (by kernel_rfl) (by kernel_rfl) (by kernel_rfl) (fun _ _ _ h => h) (Or.inl ⟨by rfl, ?y2⟩) (by assumption) ?r2
            case y2 => (intro w hSw; (try dsimp only at hSw); go_simp; try with_reducible rfl)
            try simp only [Act.put, List.setIfInBounds_toArray, List.set_cons_zero, List.set_cons_succ, List.getElem_toArray, List.getElem_cons_zero, List.getElem_cons_succ]
            refine wpAnyH_take (i := 3) (v := ?v3) rfl (by kernel_rfl) (by kernel_rfl) (by kernel_rfl) (fun _ _ _ h => h) (Or.inl ⟨by rfl, ?y3⟩) (by assumption) ?r3
            case y3 => (intro w hSw; (try dsimp only at hSw); go_simp; try with_reducible rfl)
            try simp only [Act.put, List.setIfInBounds_toArray, List.set_cons_zero, List.set_cons_succ, List.getElem_toArray, List.getElem_cons_zero, List.getElem_cons_succ]
            refine wpAnyH_ready (rs := [4]) (by kernel_rfl) (by simp) ?_
            refine AllReadyH.cons rfl (fun K hK => ?_) AllReadyH.nil
            go_simp
            refine (H2 _ (by assumption)).mono ?_
            rintro e w6 ⟨rfl, hbl⟩
            go_wp2_with fail
            refine hK.out _ _ ?_ (fun hHeld => ?_)
            · exact Below.trans (by assumption) (hbl.mono (Below.size (by assumption)))
            clear hK K
            try simp only [Act.put, List.setIfInBounds_toArray, List.set_cons_zero, List.set_cons_succ, List.getElem_toArray, List.getElem_cons_zero, List.getElem_cons_succ]
            refine wpAnyH_take (i := 5) (v := ?v5) rfl (by kernel_rfl) (by kernel_rfl) (by kernel_rfl) (fun _ _ _ h => h) (Or.inl ⟨by rfl, ?y5⟩) (by assumption) ?r5
            case y5 => (intro w hSw; (try dsimp only at hSw); go_simp; try with_reducible rfl)
            try simp only [Act.put, List.setIfInBounds_toArray, List.set_cons_zero, List.set_cons_succ, List.getElem_toArray, List.getElem_cons_zero, List.getElem_cons_succ]
            refine wpAnyH_take (i := 6) (v := ?v6) rfl (by kernel_rfl) (by kernel_rfl) (by kernel_rfl) (fun _ _ _ h => h) (Or.inl ⟨by rfl, ?y6⟩) (by assumption) ?r6
            case y6 => (intro w hSw; (try dsimp only at hSw); go_simp; try with_reducible rfl)
            try simp only [Act.put, List.setIfInBounds_toArray, List.set_cons_zero, List.set_cons_succ, List.getElem_toArray, List.getElem_cons_zero, List.getElem_cons_succ]
            refine wpAnyH_take (i := 7) (v := undef) rfl (by kernel_rfl) (by kernel_rfl) (by kernel_rfl) (fun _ _ _ h => h) (Or.inr ⟨by rfl, rfl⟩) (by assumption) ?_
            try simp only [Act.put, List.setIfInBounds_toArray, List.set_cons_zero, List.set_cons_succ, List.getElem_toArray, List.getElem_cons_zero, List.getElem_cons_succ]
            refine wpAnyH_take (i := 8) (v := undef) rfl (by kernel_rfl) (by kernel_rfl) (by kernel_rfl) (fun _ _ _ h => h) (Or.inr ⟨by rfl, rfl⟩) (by assumption) ?_
            try simp only [Act.put, List.setIfInBounds_toArray, List.set_cons_zero, List.set_cons_succ, List.getElem_toArray, List.getElem_cons_zero, List.getElem_cons_succ]
            refine wpAnyH_take (i := 9) (v := undef) rfl (by kernel_rfl) (by kernel_rfl) (by kernel_rfl) (fun _ _ _ h => h) (Or.inr ⟨by rfl, rfl⟩) (by assumption) ?_
            try simp only [Act.put, List.setIfInBounds_toArray, List.set_cons_zero, List.set_cons_succ, List.getElem_toArray, List.getElem_cons_zero, List.getElem_cons_succ]
            refine wpAnyH_take (i := 10) (v := undef) rfl (by kernel_rfl) (by kernel_rfl) (by kernel_rfl) (fun _ _ _ h => h) (Or.inr ⟨by rfl, rfl⟩) (by assumption) ?_
            try simp only [Act.put, List.setIfInBounds_toArray, List.set_cons_zero, List.set_cons_succ, List.getElem_toArray, List.getElem_cons_zero, List.getElem_cons_succ]
            refine wpAnyH_take (i := 11) (v := undef) rfl (by kernel_rfl) (by kernel_rfl) (by kernel_rfl) (fun _ _ _ h => h) (Or.inr ⟨by rfl, rfl⟩) (by assumption) ?_
            try simp only [Act.put, List.setIfInBounds_toArray, List.set_cons_zero, List.set_cons_succ, List.getElem_toArray, List.getElem_cons_zero, List.getElem_cons_succ]
            refine wpAnyH_take (i := 12) (v := undef) rfl (by kernel_rfl) (by kernel_rfl) (by kernel_rfl) (fun _ _ _ h => h) (Or.inr ⟨by rfl, rfl⟩) (by assumption) ?_
            try simp only [Act.put, List.setIfInBounds_toArray, List.set_cons_zero, List.set_cons_succ, List.getElem_toArray, List.getElem_cons_zero, List.getElem_cons_succ]
            refine wpAnyH_take (i := 13) (v := undef) rfl (by kernel_rfl) (by kernel_rfl) (by kernel_rfl) (fun _ _ _ h => h) (Or.inr ⟨by rfl, rfl⟩) (by assumption) ?_
            try simp only [Act.put, List.setIfInBounds_toArray, List.set_cons_zero, List.set_cons_succ, List.getElem_toArray, List.getElem_cons_zero, List.getElem_cons_succ]
            refine wpAnyH_take (i := 14) (v := ?v14) rfl (by kernel_rfl) (by kernel_rfl) (by kernel_rfl) (fun _ _ _ h => h) (Or.inl ⟨by rfl, ?y14⟩) (by assumption) ?r14
            case y14 => (intro w hSw; (try dsimp only at hSw); go_simp; try with_reducible rfl)
            try simp only [Act.put, List.setIfInBounds_toArray, List.set_cons_zero, List.set_cons_succ, List.getElem_toArray, List.getElem_cons_zero, List.getElem_cons_succ]
            refine wpAnyH_take (i := 15) (v := ?v15) rfl (by kernel_rfl) (by kernel_rfl) (by kernel_rfl) (fun _ _ _ h => h) (Or.inl ⟨by rfl, ?y15⟩) (by assumption) ?r15
            case y15 => (intro w hSw; (try dsimp only at hSw); go_simp; try with_reducible rfl)
            try simp only [Act.put, List.setIfInBounds_toArray, List.set_cons_zero, List.set_cons_succ, List.getElem_toArray, List.getElem_cons_zero, List.getElem_cons_succ]
            refine wpAnyH_done (by kernel_rfl) ?_ _
            have HB6 : Hid (Below w.heap.size w w6) := HBW.out.trans (Below.mono (by assumption) HBW.out.size)
            clear H1 H2
            go_wp2
            go_ret
            exact ⟨by rw [HRES.out]; rfl, HB6.out⟩
        · rw [bl_false hd1] at H1
          have HRES : Hid (bl (ValidSig s) = false) := bl_false (fun h => hd1 (HV.out.1 h).1)
          clear hd1 H2 H3
          go_wp2
          refine wp_region_held_drew (S := fun w' => Below wr.heap.size wr w') (by kernel_rfl) ?_ (fun hHeld => ?_)
          · exact (Below.refl _ wr).drew
          refine wpAnyH_take (i := 0) (v := ?vb0) rfl (by kernel_rfl) (by kernel_rfl) (by kernel_rfl) (fun _ _ _ h => h) (Or.inl ⟨by rfl, ?yb0⟩) (by assumption) ?rb0
          case yb0 => (intro w hSw; (try dsimp only at hSw); go_simp; try with_reducible rfl)
          try simp only [Act.put, List.setIfInBounds_toArray, List.set_cons_zero, List.set_cons_succ, List.getElem_toArray, List.getElem_cons_zero]
          refine wpAnyH_ready (rs := [1]) (by kernel_rfl) (by simp) ?_
          refine AllReadyH.cons rfl (fun K hK => ?_) AllReadyH.nil
          go_simp
          refine (H1).mono ?_
          rintro e w5 ⟨rfl, hbl⟩
          go_wp2_with fail
          refine hK.out _ _ ?_ (fun hHeld => ?_)
          · exact below_drew_trans (by assumption) hbl
          clear hK K
          try simp only [Act.put, List.setIfInBounds_toArray, List.set_cons_zero, List.set_cons_succ, List.getElem_toArray, List.getElem_cons_zero, List.getElem_cons_succ]
          refine wpAnyH_take (i := 2) (v := ?vb2) rfl (by kernel_rfl) (by kernel_rfl) (by kernel_rfl) (fun _ _ _ h => h) (Or.inl ⟨by rfl, ?yb2⟩) (by assumption) ?rb2
          case yb2 => (intro w hSw; (try dsimp only at hSw); go_simp; try with_reducible rfl)
          try simp only [Act.put, List.setIfInBounds_toArray, List.set_cons_zero, List.set_cons_succ, List.getElem_toArray, List.getElem_cons_zero, List.getElem_cons_succ]
          refine wpAnyH_take (i := 3) (v := undef) rfl (by kernel_rfl) (by kernel_rfl) (by kernel_rfl) (fun _ _ _ h => h) (Or.inr ⟨by rfl, rfl⟩) (by assumption) ?_
          try simp only [Act.put, List.setIfInBounds_toArray, List.set_cons_zero, List.set_cons_succ, List.getElem_toArray, List.getElem_cons_zero, List.getElem_cons_succ]
          refine wpAnyH_take (i := 4) (v := undef) rfl (by kernel_rfl) (by kernel_rfl) (by kernel_rfl) (fun _ _ _ h => h) (Or.inr ⟨by rfl, rfl⟩) (by assumption) ?_
          try simp only [Act.put, List.setIfInBounds_toArray, List.set_cons_zero, List.set_cons_succ, List.getElem_toArray, List.getElem_cons_zero, List.getElem_cons_succ]
          refine wpAnyH_take (i := 5) (v := ?vb5) rfl (by kernel_rfl) (by kernel_rfl) (by kernel_rfl) (fun _ _ _ h => h) (Or.inl ⟨by rfl, ?yb5⟩) (by assumption) ?rb5
          case yb5 => (intro w hSw; (try dsimp only at hSw); go_simp; try with_reducible rfl)
          try simp only [Act.put, List.setIfInBounds_toArray, List.set_cons_zero, List.set_cons_succ, List.getElem_toArray, List.getElem_cons_zero, List.getElem_cons_succ]
          refine wpAnyH_take (i := 6) (v := ?vb6) rfl (by kernel_rfl) (by kernel_rfl) (by kernel_rfl) (fun _ _ _ h => h) (Or.inl ⟨by rfl, ?yb6⟩) (by assumption) ?rb6
          case yb6 => (intro w hSw; (try dsimp only at hSw); go_simp; try with_reducible rfl)
          try simp only [Act.put, List.setIfInBounds_toArray, List.set_cons_zero, List.set_cons_succ, List.getElem_toArray, List.getElem_cons_zero, List.getElem_cons_succ]
          refine wpAnyH_take (i := 7) (v := undef) rfl (by kernel_rfl) (by kernel_rfl) (by kernel_rfl) (fun _ _ _ h => h) (Or.inr ⟨by rfl, rfl⟩) (by assumption) ?_
          try simp only [Act.put, List.setIfInBounds_toArray, List.set_cons_zero, List.set_cons_succ, List.getElem_toArray, List.getElem_cons_zero, List.getElem_cons_succ]
          refine wpAnyH_take (i := 8) (v := undef) rfl (by kernel_rfl) (by kernel_rfl) (by kernel_rfl) (fun _ _ _ h => h) (Or.inr ⟨by rfl, rfl⟩) (by assumption) ?_
          try simp only [Act.put, List.setIfInBounds_toArray, List.set_cons_zero, List.set_cons_succ, List.getElem_toArray, List.getElem_cons_zero, List.getElem_cons_succ]
          refine wpAnyH_take (i := 9) (v := undef) rfl (by kernel_rfl) (by kernel_rfl) (by kernel_rfl) (fun _ _ _ h => h) (Or.inr ⟨by rfl, rfl⟩) (by assumption) ?_
          try simp only [Act.put, List.setIfInBounds_toArray, List.set_cons_zero, List.set_cons_succ, List.getElem_toArray, List.getElem_cons_zero, List.getElem_cons_succ]
          refine wpAnyH_take (i := 10) (v := undef) rfl (by kernel_rfl) (by kernel_rfl) (by kernel_rfl) (fun _ _ _ h => h) (Or.inr ⟨by rfl, rfl⟩) (by assumption) ?_
          try simp only [Act.put, List.setIfInBounds_toArray, List.set_cons_zero, List.set_cons_succ, List.getElem_toArray, List.getElem_cons_zero, List.getElem_cons_succ]
          refine wpAnyH_take (i := 11) (v := undef) rfl (by kernel_rfl) (by kernel_rfl) (by kernel_rfl) (fun _ _ _ h => h) (Or.inr ⟨by rfl, rfl⟩) (by assumption) ?_
          try simp only [Act.put, List.setIfInBounds_toArray, List.set_cons_zero, List.set_cons_succ, List.getElem_toArray, List.getElem_cons_zero, List.getElem_cons_succ]
          refine wpAnyH_take (i := 12) (v := undef) rfl (by kernel_rfl) (by kernel_rfl) (by kernel_rfl) (fun _ _ _ h => h) (Or.inr ⟨by rfl, rfl⟩) (by assumption) ?_
          try simp only [Act.put, List.setIfInBounds_toArray, List.set_cons_zero, List.set_cons_succ, List.getElem_toArray, List.getElem_cons_zero, List.getElem_cons_succ]
          refine wpAnyH_take (i := 13) (v := undef) rfl (by kernel_rfl) (by kernel_rfl) (by kernel_rfl) (fun _ _ _ h => h) (Or.inr ⟨by rfl, rfl⟩) (by assumption) ?_
          try simp only [Act.put, List.setIfInBounds_toArray, List.set_cons_zero, List.set_cons_succ, List.getElem_toArray, List.getElem_cons_zero, List.getElem_cons_succ]
          refine wpAnyH_take (i := 14) (v := ?vb14) rfl (by kernel_rfl) (by kernel_rfl) (by kernel_rfl) (fun _ _ _ h => h) (Or.inl ⟨by rfl, ?yb14⟩) (by assumption) ?rb14
          case yb14 => (intro w hSw; (try dsimp only at hSw); go_simp; try with_reducible rfl)
          try simp only [Act.put, List.setIfInBounds_toArray, List.set_cons_zero, List.set_cons_succ, List.getElem_toArray, List.getElem_cons_zero, List.getElem_cons_succ]
          refine wpAnyH_take (i := 15) (v := ?vb15) rfl (by kernel_rfl) (by kernel_rfl) (by kernel_rfl) (fun _ _ _ h => h) (Or.inl ⟨by rfl, ?yb15⟩) (by assumption) ?rb15
          case yb15 => (intro w hSw; (try dsimp only at hSw); go_simp; try with_reducible rfl)
          try simp only [Act.put, List.setIfInBounds_toArray, List.set_cons_zero, List.set_cons_succ, List.getElem_toArray, List.getElem_cons_zero, List.getElem_cons_succ]
          refine wpAnyH_done (by kernel_rfl) ?_ _
          have HB5 : Hid (Below w.heap.size w w5) := HBW.out.trans (Below.mono (by assumption) HBW.out.size)
          clear H1
          go_wp2
          go_ret
          exact ⟨by rw [HRES.out]; rfl, HB5.out⟩
  · have HRES : Hid (bl (ValidSig s) = false) := bl_false (fun h => by have := h.2.1; have := HN.out; omega)
    have h4' : (4 : Int) < (n : Int) := by omega
    have HBA := Lib.hid hbA
    clear hbA
    go_enter Tryz.func26, Tryz.ntmps26
    go_wp2
    go_ret
    exact ⟨by rw [HRES.out]; rfl, by rw [HW1.out]; exact HBA.out⟩
end Go.Proofs.YtdilegbigaahnaaGreat
end

/- What is proved here: what it is for a value to be one of a type of a signature, within the limits (pure). No condition. -/
section
namespace Go.Proofs.YtdilegbigaahnaaGreat
open Go.RowKit

noncomputable def valueOf (s : List TypeD) (k n : Int) (t : ByteArray) (F : Trees) (nm : ByteArray) : Bool :=
  bl (ValidSig s) && (decide (1 + F.count ≤ 40 ∧ F.deep + 1 ≤ 12) && nodeHas s k n t F.length (fun l => F.has s l) nm)
end Go.Proofs.YtdilegbigaahnaaGreat
end

/- What is proved here: the program's IsValueOf says whether a value is one of a type of a valid signature, within the limits. Condition: value and signature lie in memory as said, and are small; the signature is the call's own. -/
section
namespace Go.Proofs.YtdilegbigaahnaaGreat
open Go.RowKit

set_option maxHeartbeats 2000000 in
set_option maxRecDepth 100000 in
theorem impl_value_of (w : World) (k n : Int) (t : ByteArray) (F : Trees) (p : Option Addr) (c : Nat) (a : Option Addr) (cap : Nat) (s : List TypeD) (nm : ByteArray) (hfv : F.fits) (hsz : F.size ≤ 1048576) (ht : t.size ≤ maxLen) (hx : TreesAt w F p 0) (hf : sigFits s) (hm : s.length ≤ 1048576) (hs : ∀ c ∈ s, c.cons.length ≤ 1048576 ∧ ∀ d ∈ c.cons, d.args.length ≤ 1048576) (S : Nat → Prop) (hlc : F.length ≤ c) (hO : OwnSig S w (.slice a s.length cap) s) (hS : ∀ b, S b → b < w.heap.size) :
    Calls Tryz.prog 10 #[.agg #[.slice a s.length cap], .agg #[.int .i64 k, .int .i64 n, .string t, .slice p F.length c], .string nm] w fun e w' => e = .returned (.bool (valueOf s k n t F nm)) ∧ Below w.heap.size w w' := by
  obtain ⟨hp0, hp1, hB0, hs0⟩ := two_allocs3 w (.cells #[.slice a s.length cap] 33) (.cells #[.int .i64 k, .int .i64 n, .string t, .slice p F.length c] 37)
  have HX := Lib.hid (hx.below hB0)
  have HB0 := Lib.hid hB0
  obtain ⟨c0, c1, c2, c3, _⟩ := four_cells hp1
  have d0 := (one_cell hp0).1
  have hfc : F.count ≤ 1048576 := Nat.le_trans F.count_le_size hsz
  obtain ⟨w0, hw0⟩ : ∃ w0, w0 = (w.alloc (.cells #[.slice a s.length cap] 33)).alloc (.cells #[.int .i64 k, .int .i64 n, .string t, .slice p F.length c] 37) := ⟨_, rfl⟩
  rw [← hw0] at HX HB0 c0 c1 c2 c3 d0 hs0
  have HW0 := Lib.hid hw0
  unfold valueOf
  have HSG := Lib.hid (hO.keep keeps_type (fun b hb => hB0.block b (hS b hb)))
  rw [← hw0] at HSG
  have HS : Hid (∀ b, S b → b < w0.heap.size) := fun b hb => Nat.lt_of_lt_of_le (hS b hb) HB0.out.size
  have HV := Lib.hid (impl_valid w0 a cap s (by obtain ⟨a2, cap2, h, hr⟩ := OwnSig.reads HSG.out; cases h; exact hr) hf hm hs)
  have HL := Lib.hid (fun w' (hb : Below w0.heap.size w0 w') => impl_limits 40 12 (by omega) w' k n t F p c (HX.out.below hb) hlc hfc)
  simp only [show ((40 : Nat) : Int) = 40 from rfl, show ((12 : Nat) : Int) = 12 from rfl] at HL
  have HH := Lib.hid (fun w' (hb : Below w0.heap.size w0 w') => impl_has s hm hs F ⟨hfv, hsz⟩ S w' k n t p c a cap nm ht (HX.out.below hb) (HSG.out.keep keeps_type (fun b hb2 => hb.block b (HS.out b hb2))) (fun b hb2 => Nat.lt_of_lt_of_le (HS.out b hb2) hb.size))
  generalize nodeHas s k n t F.length (fun l => F.has s l) nm = bh at *
  clear hw0 hB0 hp0 hp1 hs0 hx hO hS hfv hf hs ht
  generalize bl (ValidSig s) = bv at *
  generalize decide (1 + F.count ≤ 40 ∧ F.deep + 1 ≤ 12) = bd at *
  cases bv with
  | false =>
    go_enter Tryz.func10, Tryz.ntmps10
    go_wp2_with fail
    rw [← HW0.out]
    refine HV.out.mono ?_
    rintro e w1 ⟨rfl, hb1⟩
    have HB1 := Lib.hid hb1
    clear hb1
    go_wp2
    go_ret
    exact ⟨rfl, HB0.out.trans (HB1.out.mono HB0.out.size)⟩
  | true =>
    cases bd with
    | true =>
      go_enter Tryz.func10, Tryz.ntmps10
      go_wp2_with fail
      rw [← HW0.out]
      refine HV.out.mono ?_
      rintro e w1 ⟨rfl, hb1⟩
      have HB1 := Lib.hid hb1
      have c0 := cell_below c0 hb1
      have c1 := cell_below c1 hb1
      have c2 := cell_below c2 hb1
      have c3 := cell_below c3 hb1
      have d0 := cell_below d0 hb1
      clear hb1
      go_wp2_with fail
      refine (HL.out w1 HB1.out).mono ?_
      rintro e w2 ⟨rfl, hb2⟩
      have HB2 : Hid (Below w0.heap.size w0 w2) := HB1.out.trans (hb2.mono HB1.out.size)
      have c0 := cell_below c0 hb2
      have c1 := cell_below c1 hb2
      have c2 := cell_below c2 hb2
      have c3 := cell_below c3 hb2
      have d0 := cell_below d0 hb2
      clear hb2
      go_wp2_with fail
      refine (HH.out w2 HB2.out).mono ?_
      rintro e w4 ⟨rfl, hb4⟩
      have HB4 : Hid (Below w0.heap.size w0 w4) := HB2.out.trans (hb4.mono HB2.out.size)
      clear hb4
      go_wp2
      go_ret
      exact ⟨rfl, HB0.out.trans (HB4.out.mono HB0.out.size)⟩
    | false =>
      go_enter Tryz.func10, Tryz.ntmps10
      go_wp2_with fail
      rw [← HW0.out]
      refine HV.out.mono ?_
      rintro e w1 ⟨rfl, hb1⟩
      have HB1 := Lib.hid hb1
      have c0 := cell_below c0 hb1
      have c1 := cell_below c1 hb1
      have c2 := cell_below c2 hb1
      have c3 := cell_below c3 hb1
      have d0 := cell_below d0 hb1
      clear hb1
      go_wp2_with fail
      refine (HL.out w1 HB1.out).mono ?_
      rintro e w2 ⟨rfl, hb2⟩
      have HB2 : Hid (Below w0.heap.size w0 w2) := HB1.out.trans (hb2.mono HB1.out.size)
      clear hb2
      go_wp2
      go_ret
      exact ⟨rfl, HB0.out.trans (HB2.out.mono HB0.out.size)⟩
end Go.Proofs.YtdilegbigaahnaaGreat
end

/- What is proved here: the laws' bound on a value (szValue and szValueS) counts its size. Condition: the value lies in memory as said. -/
section
namespace Go.Proofs.YtdilegbigaahnaaGreat
open Go.RowKit

set_option maxHeartbeats 1000000 in
set_option maxRecDepth 100000 in
theorem szNode (L : Nat) (hL : L ≤ 1048576) (w : World) (k n : Int) (t : ByteArray) (c N : Nat) (p : Option Addr) (cap : Nat) (ht : t.size ≤ maxLen)
    (H : ∀ M : Nat, M ≤ 1048576 → ∀ w', Below w.heap.size w w' → Calls Tryz.prog 19 #[.slice p c cap, .int .i64 (M : Int)] w' fun e w'' => e = .returned (.int .i64 (left M N)) ∧ Below w'.heap.size w' w'') :
    Calls Tryz.prog 6 #[.agg #[.int .i64 k, .int .i64 n, .string t, .slice p c cap], .int .i64 (L : Int)] w fun e w' => e = .returned (.int .i64 (left L (t.size + N))) ∧ Below w.heap.size w w' := by
  unfold maxLen at ht
  have hc : left L (t.size + N) = if t.size ≤ L then left (L - t.size) N else -1 := by unfold left; split <;> split <;> (try split) <;> omega
  generalize left L (t.size + N) = z at hc ⊢
  have hb : Below w.heap.size w (w.alloc (.cells #[.int .i64 k, .int .i64 n, .string t, .slice p c cap] 27)) := (Below.refl _ _).alloc (Nat.le_refl _) _
  have HB := Lib.hid hb
  clear hb
  by_cases hn : t.size ≤ L
  · rw [if_pos hn] at hc
    have H1 := H (L - t.size) (by omega)
    have hMb : L - t.size ≤ 1048576 := by omega
    clear H
    have hM2 : (L : Int) - (t.size : Int) = ((L - t.size : Nat) : Int) := by omega
    generalize L - t.size = M at *
    have HZ := Lib.hid hc
    have HL := Lib.hid hL
    clear hc hL
    by_cases hN : N ≤ M
    · rw [left_yes hN] at H1
      have HZ : Hid (z = ((M - N : Nat) : Int)) := by unfold Hid; rw [HZ.out, left_yes hN]
      have hqb : M - N ≤ 1048576 := by omega
      generalize M - N = q at *
      clear hN
      go_enter Tryz.func6, Tryz.ntmps6
      go_wp2_with fail
      refine (H1 _ HB.out).mono ?_
      rintro e w1 ⟨rfl, hb1⟩
      have HB1 : Hid (Below w.heap.size w w1) := HB.out.trans (hb1.mono HB.out.size)
      clear hb1 H1
      go_wp2
      go_ret
      exact ⟨by rw [HZ.out]; rfl, HB1.out⟩
    · rw [left_no hN] at H1
      have HZ : Hid (z = -1) := by unfold Hid; rw [HZ.out, left_no hN]
      clear hN
      go_enter Tryz.func6, Tryz.ntmps6
      go_wp2_with fail
      refine (H1 _ HB.out).mono ?_
      rintro e w1 ⟨rfl, hb1⟩
      have HB1 : Hid (Below w.heap.size w w1) := HB.out.trans (hb1.mono HB.out.size)
      clear hb1 H1
      go_wp2
      go_ret
      exact ⟨by rw [HZ.out]; rfl, HB1.out⟩
  · rw [if_neg hn] at hc
    subst hc
    have hM2 : (L : Int) - (t.size : Int) < 0 := by omega
    clear H
    go_enter Tryz.func6, Tryz.ntmps6
    go_wp2
    go_ret
    exact ⟨rfl, HB.out⟩

set_option maxHeartbeats 1000000 in
set_option maxRecDepth 100000 in
theorem szValueS_any : ∀ F : Trees, F.fits → F.length ≤ maxLen → ∀ (L : Nat), L ≤ 1048576 → ∀ (w : World) (a : Option Addr) (cap : Nat), TreesAt w F a 0 →
    Calls Tryz.prog 19 #[.slice a F.length cap, .int .i64 (L : Int)] w fun e w' => e = .returned (.int .i64 (left L F.size)) ∧ Below w.heap.size w w' := by
  refine Trees.ind fun F hall hfit hm L hL w a cap hx => ?_
  unfold maxLen at hm
  have HX := Lib.hid hx
  have HALL := Lib.hid hall
  have HF := Lib.hid hfit
  clear hx hall hfit
  have hz := congrArg (left L) F.size_eq
  generalize left L F.size = z at hz ⊢
  generalize hn : F.length = n at *
  have HN := Lib.hid hn
  have HZ := Lib.hid hz
  clear hn hz
  by_cases h0 : L < n
  · have HE : Hid (z = -1) := by unfold Hid; rw [HZ.out]; exact left_no (by omega)
    go_enter Tryz.func19, Tryz.ntmps19
    go_wp2
    go_ret
    exact ⟨by rw [HE.out]; rfl, Below.refl _ _⟩
  · have hLn : (L : Int) - (n : Int) = ((L - n : Nat) : Int) := by omega
    have HZ2 : Hid (z = left (L - n) F.inner) := by
      unfold Hid
      rw [HZ.out]
      unfold left
      split <;> split <;> omega
    have hMb : L - n ≤ 1048576 := by omega
    generalize L - n = M at *
    go_enter Tryz.func19, Tryz.ntmps19
    go_wp2
    go_loopw [1, 5] (fun l i wr => ∃ (k m : Nat) (rest : Trees), i = .int .i64 k ∧ l = .int .i64 m ∧ m ≤ 1048576 ∧ k + rest.length = n ∧ Hid (z = left m rest.inner) ∧ Hid (TreesAt w rest a k) ∧ Hid (rest.All (fun G => G.fits → G.length ≤ maxLen → ∀ (L : Nat), L ≤ 1048576 → ∀ (w : World) (a : Option Addr) (cap : Nat), TreesAt w G a 0 → Calls Tryz.prog 19 #[.slice a G.length cap, .int .i64 (L : Int)] w fun e w' => e = .returned (.int .i64 (left L G.size)) ∧ Below w.heap.size w w')) ∧ Hid rest.fits ∧ Hid (Below w.heap.size w wr)) (fun _ i _ => n - (intOf i).toNat)
    case atStart => exact ⟨0, M, F, rfl, rfl, hMb, by rw [HN.out]; omega, HZ2, HX, HALL, HF, Below.refl _ _⟩
    case round =>
      obtain ⟨k, m, rest, rfl, rfl, hmL, hkn, hzr, hxr, hall, hfr, hB⟩ := hrel
      cases rest with
      | cons kd nu t ar r =>
        have hkl : k < n := by simp only [Trees.length] at hkn; omega
        have hkn2 : k + 1 + r.length = n := by simp only [Trees.length] at hkn; omega
        have hzr' := hzr.out
        simp only [Trees.inner] at hzr'
        obtain ⟨y, p, cp, rfl, h1, h2, h3, h4, hs, hr⟩ := (hxr.out.below hB.out).open
        obtain ⟨hfk, hfn, hft, hfl, hfa, hfr2⟩ := hfr.out
        obtain ⟨ha1, ha2⟩ := hall.out
        have hxr2 : Hid (TreesAt w r (some y) (k + 1)) := hxr.out.2
        have H := szNode m hmL wr kd nu t ar.length ar.size p cp hft (fun M hM w' hbw => ha1 hfa hfl M hM w' p cp (hs.below hbw))
        have HR2 := Lib.hid hfr2
        have HA2 := Lib.hid ha2
        generalize t.size + ar.size = s at *
        clear hzr hxr hall hfr hs hr hfk hfn hft hfl hfa hfr2 ha1 ha2 hkn
        by_cases hbad : s ≤ m
        · rw [left_yes hbad] at H
          have HZ3 : Hid (z = left (m - s) r.inner) := by
            unfold Hid
            rw [hzr']
            unfold left
            split <;> split <;> omega
          have hq : m - s ≤ 1048576 := by omega
          generalize m - s = q at *
          clear hzr'
          go_wp2_with fail
          refine H.mono ?_
          rintro e w1 ⟨rfl, hb1⟩
          have HB1 : Hid (Below w.heap.size w w1) := hB.out.trans (hb1.mono hB.out.size)
          clear hb1 H
          go_wp2
          go_roundw
          case rel => exact ⟨k + 1, q, r, by go_num, rfl, hq, hkn2, HZ3, hxr2, HA2, HR2, HB1⟩
          case measure => simp [intOf]; omega
        · rw [left_no hbad] at H
          have HE : Hid (z = -1) := by
            unfold Hid
            rw [hzr']
            exact left_no (by omega)
          clear hzr' hbad
          go_wp2_with fail
          refine H.mono ?_
          rintro e w1 ⟨rfl, hb1⟩
          have HB1 : Hid (Below w.heap.size w w1) := hB.out.trans (hb1.mono hB.out.size)
          clear hb1 H
          go_wp2
          go_ret
          exact ⟨by rw [HE.out]; rfl, HB1.out⟩
      | nil =>
        obtain rfl : k = n := by simp only [Trees.length] at hkn; omega
        have HE : Hid (z = m) := by
          have h := hzr.out
          simp only [Trees.inner] at h
          unfold Hid
          rw [h, left_yes (Nat.zero_le _)]
          rfl
        clear hzr hxr hall hfr
        go_wp2
        go_ret
        exact ⟨by rw [HE.out]; rfl, hB.out⟩

/-- The size of a value. -/
theorem szValue_any (L : Nat) (hL : L ≤ 1048576) (w : World) (k n : Int) (t : ByteArray) (ar : Trees) (p : Option Addr) (cap : Nat) (ht : t.size ≤ maxLen) (hf : ar.fits) (hm : ar.length ≤ maxLen) (hx : TreesAt w ar p 0) :
    Calls Tryz.prog 6 #[.agg #[.int .i64 k, .int .i64 n, .string t, .slice p ar.length cap], .int .i64 (L : Int)] w fun e w' => e = .returned (.int .i64 (left L (t.size + ar.size))) ∧ Below w.heap.size w w' :=
  szNode L hL w k n t ar.length ar.size p cap ht (fun M hM w' hb => szValueS_any ar hf hm M hM w' p cap (hx.below hb))
end Go.Proofs.YtdilegbigaahnaaGreat
end
