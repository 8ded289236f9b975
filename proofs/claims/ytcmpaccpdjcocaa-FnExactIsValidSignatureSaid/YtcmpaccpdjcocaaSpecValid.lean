/- What is proved here: the model's IsValidSignature (package spec) says whether a signature is valid. Condition: it lies in memory as said, and is small. -/
import Derived.Test.YtcmpaccpdjcocaaTwoRows
import Derived.Test.YtcmpaccpdjcocaaSpecGood
import Derived.Test.YtcmpaccpdjcocaaSpecInhab
import Derived.Deep.RegionLaw
namespace Go.Proofs.Ytcmpaccpdjcocaa
open Go.RowKit

set_option maxHeartbeats 4000000 in
set_option maxRecDepth 100000 in
theorem spec_valid (w : World) (a : Option Addr) (cap : Nat) (s : List TypeD) (hx : Row2 TypeAt w a s) (hf : sigFits s) (hm : s.length ≤ 1048576) (hs : ∀ c ∈ s, c.cons.length ≤ 1048576 ∧ ∀ d ∈ c.cons, d.args.length ≤ 1048576) :
    Calls Try.prog 23 #[.agg #[.slice a s.length cap]] w fun e w' => e = .returned (.bool (bl (ValidSig s))) ∧ Below w.heap.size w w' := by
  have HX := Lib.hid hx
  have HS := Lib.hid hs
  have HF := Lib.hid hf.2
  have s1 : (w.alloc (.cells #[.slice a s.length cap] 33)).heap.size = w.heap.size + 1 := Array.size_push _
  have hbA : Below w.heap.size w (w.alloc (.cells #[.slice a s.length cap] 33)) := (Below.refl _ _).alloc (Nat.le_refl _) _
  have hc0 := (one_cell (heap_at_new w (.cells #[.slice a s.length cap] 33))).1
  generalize hw1 : w.alloc (.cells #[.slice a s.length cap] 33) = w1 at *
  have s2 : (w1.alloc (.cells #[] 9)).heap.size = w1.heap.size + 1 := Array.size_push _
  have hb2 : Below w1.heap.size w1 (w1.alloc (.cells #[] 9)) := (Below.refl _ _).alloc (Nat.le_refl _) _
  have ho1 := World.ownsRow_made (base := w.heap.size + 1) (e := 9) (size := 1) w1 #[] 0 (by omega) (by decide) (by simp)
  have ho2 := World.ownsRow_made (base := w.heap.size + 1) (e := 9) (size := 1) (w1.alloc (.cells #[] 9)) #[] 0 (by omega) (by decide) (by simp)
  have hb3 : Below (w1.alloc (.cells #[] 9)).heap.size (w1.alloc (.cells #[] 9)) ((w1.alloc (.cells #[] 9)).alloc (.cells #[] 9)) := (Below.refl _ _).alloc (Nat.le_refl _) _
  rw [s2, s1] at ho2
  rw [s1] at ho1
  have hTwo : Two w (w.heap.size + 1) w.heap.size (.slice a s.length cap) [] [] (.slice (some ⟨w.heap.size + 1, 0, none⟩) 0 0) (.slice (some ⟨w.heap.size + 1 + 1, 0, none⟩) 0 0) ((w1.alloc (.cells #[] 9)).alloc (.cells #[] 9)) :=
    ⟨own_below ho1 hb3, ho2, .inr (by simp [Value.ownBlock]), .inr (by simp [Value.ownBlock]), (hbA.trans (hb2.mono hbA.size)).trans (hb3.mono (by omega)), cell_below (cell_below hc0 hb2) hb3, by omega, by have := hb3.size; omega, by omega⟩
  have HTW := Lib.hid hTwo
  have HW1 := Lib.hid hw1
  clear hx hs hf s1 hbA hc0 s2 hb2 ho1 ho2 hb3 hTwo hw1
  obtain ⟨i0, hi, hz0, hz1, hz2⟩ := info_parts (show (Try.prog.info? 9).map (fun i => (i.zero, i.size, i.bytes)) = some (some (.string ⟨#[]⟩), 1, 16) by kernel_rfl)
  generalize hn : s.length = n at *
  have HN := Lib.hid hn
  clear hn
  go_enter Try.func23, Try.ntmps23
  go_wp2
  rw [HW1.out]
  generalize (w1.alloc (.cells #[] 9)).alloc (.cells #[] 9) = w3 at *
  go_loopw [3, 4, 5] (fun v1 v2 i wr => ∃ (k : Nat), k ≤ n ∧ i = .int .i64 k ∧ Hid (Two w (w.heap.size + 1) w.heap.size (.slice a n cap) ((s.take k).map TypeD.name) (conNames (s.take k)) v1 v2 wr) ∧ Hid ((conNames (s.take k)).length ≤ k * 1048576) ∧ Hid (∀ (j : Nat) y, j < k → s[j]? = some y → GoodT s y)) (fun _ _ i _ => n - (intOf i).toNat)
  case atStart => exact ⟨0, Nat.zero_le _, rfl, HTW.out, by show _ ≤ _; simp [conNames], fun j _ h => by omega⟩
  case round =>
    obtain ⟨k, hk, rfl, hT, hCL, hG⟩ := hrel
    have c0 := hT.out.box
    by_cases hlt : k < n
    · have hk' : k < s.length := by rw [HN.out]; exact hlt
      have hltz : (k : Int) < (n : Int) := by omega
      obtain ⟨y, u9, v9, rfl, hc0, hc1, hr1⟩ := row2_below type_below HX.out hT.out.base k hk'
      have hx : s[k]? = some s[k] := List.getElem?_eq_getElem hk'
      have hq := HS.out _ (List.getElem_mem hk')
      have hfx := HF.out _ (List.getElem_mem hk')
      generalize s[k] = t at hx hr1 hq hfx
      have HXE := Lib.hid hx
      have H := spec_good wr.drew (some y) cap s t u9 v9 (row2_below type_below HX.out hT.out.base.drew) (by rw [HN.out]; exact hm) HS.out hr1 hfx hq.1 hq.2
      rw [HN.out] at H
      have hr2 := hr1
      obtain ⟨ta, tc, hu, hv, _⟩ := hr2
      subst hu
      subst hv
      have HT1 := Lib.hid hr1
      have hq1 := hq.1
      clear hx hr1 hq hfx
      by_cases hg : GoodT s t
      · rw [bl_true hg] at H
        have HG := Lib.hid hg
        clear hg
        have hnt := names_take s k t HXE.out
        have hct := cons_take s k t HXE.out
        have hpl : ((s.take k).map TypeD.name).length ≤ n := by rw [List.length_map, List.length_take]; omega
        generalize (s.take k).map TypeD.name = xs at *
        generalize conNames (s.take k) = ys at *
        have HNT := Lib.hid hnt
        have HCT := Lib.hid hct
        clear hnt hct
        generalize hn2 : t.cons.length = n2 at *
        have HN2 := Lib.hid hn2
        clear hn2
        go_wp2
        go_region_held3 (fun w' => w'.cell? ⟨w.heap.size, 0, none⟩ = some (.slice (some y) n cap) ∧ w'.cell? (y.add (k * 2)) = some (.string t.name) ∧ w'.cell? ⟨(y.add (k * 2)).block, (y.add (k * 2)).off + 1, none⟩ = some (.slice ta n2 tc))
          (first
            | go_keep
            | exact ⟨cell_below (w := wr.drew) c0 hb4, cell_below (w := wr.drew) hc0 hb4, cell_below (w := wr.drew) hc1 hb4⟩)
          (first
            | (go_at_call 42; refine H.mono ?_; rintro e w4 ⟨rfl, hb4⟩))
        have hb4' := below_of_drew hb4
        have HT4 := Lib.hid (hT.out.below hb4')
        have d0 := cell_below c0 hb4'
        have d1 := cell_below hc0 hb4'
        have d2 := cell_below hc1 hb4'
        have HD1 := Lib.hid (row2_below type_below HX.out HT4.out.base)
        clear hb4 hb4' H c0 hc0 hc1
        have hal : Below w4.heap.size w4 (w4.alloc (.cells #[.string t.name] 9)) := (Below.refl _ _).alloc (Nat.le_refl _) _
        have HT5 := Lib.hid (HT4.out.below hal)
        have how := HT5.out.one
        have hle := HT5.out.le
        clear hal
        go_wp2_with (at_builtin; refine wpList_append_lies _ rfl _ _ 40 rfl (w.heap.size + 1) 9 i0 (.string ⟨#[]⟩) 1 16 Try.underlying40 hi hz0 hz1 hz2 rfl (by decide) _ xs.length (xs.map Value.string) rfl how ⟨w4.heap.size, 0, none⟩ 1 1 [.string t.name] rfl rfl (cell_one_new _ _ _) ?d1 (by decide) ?d2 ?d3 hle _ rfl ?_)
        case d1 => intro u hu; simp at hu; subst hu; rfl
        case d2 => unfold maxLen; omega
        case d3 => omega
        intro g cap3 w5 hown hgrow hat hlt5
        have HT6 := Lib.hid (HT5.out.app1 hown hgrow (hat.imp id (fun h => h.trans (Array.size_push _).symm)))
        clear how hle hown hgrow hat hlt5 d0 d1 d2
        go_wp2
        go_loopw [4, 6] (fun v2 i wr => ∃ (q : Nat), q ≤ n2 ∧ i = .int .i64 q ∧ Hid (Two w (w.heap.size + 1) w.heap.size (.slice (some y) n cap) (xs ++ [t.name]) (ys ++ (t.cons.take q).map ConD.name) (.slice (some ⟨g, 0, none⟩) (xs.length + 1) cap3) v2 wr)) (fun _ i _ => n2 - (intOf i).toNat)
        case atStart => exact ⟨0, Nat.zero_le _, rfl, by show Two _ _ _ _ _ _ _ _ _; simpa using HT6.out⟩
        case round =>
          obtain ⟨q, hq, rfl, hT7⟩ := hrel
          have c0 := hT7.out.box
          obtain ⟨y', u9, v9, hy', hc0, hc1, hr1⟩ := row2_below type_below HX.out hT7.out.base k hk'
          obtain rfl := Option.some.inj hy'
          have hst : s[k] = t := by
            have := HXE.out
            rw [List.getElem?_eq_getElem hk'] at this
            exact Option.some.inj this
          rw [hst] at hr1
          obtain ⟨ta', tc', rfl, rfl, hr2⟩ := hr1
          rw [HN2.out] at hc1
          clear hst hy'
          by_cases hlt2 : q < n2
          · have hq' : q < t.cons.length := by rw [HN2.out]; exact hlt2
            have hltz2 : (q : Int) < (n2 : Int) := by omega
            obtain ⟨y2, u2, v2, rfl, hd0, hd1, hr3⟩ := hr2 q hq'
            have hx2 : t.cons[q]? = some t.cons[q] := List.getElem?_eq_getElem hq'
            generalize t.cons[q] = c at hx2 hr3
            obtain ⟨ca, cc, hu, hv, _⟩ := hr3
            subst hu
            subst hv
            have hkt := con_take t q c hx2
            have hzl : (ys ++ (t.cons.take q).map ConD.name).length ≤ k * 1048576 + q := by
              have := hCL.out
              rw [List.length_append, List.length_map, List.length_take]
              omega
            generalize hzs : ys ++ (t.cons.take q).map ConD.name = zs at *
            have HZ : Hid (ys ++ (t.cons.take (q + 1)).map ConD.name = zs ++ [c.name]) := by
              unfold Hid
              rw [hkt, ← List.append_assoc, hzs]
            clear hkt hzs hx2 hr2
            have hal : Below wr.heap.size wr (wr.alloc (.cells #[.string c.name] 9)) := (Below.refl _ _).alloc (Nat.le_refl _) _
            have HT8 := Lib.hid (hT7.out.below hal).swap
            have how := HT8.out.one
            have hle := HT8.out.le
            clear hal
            go_wp2_with (at_builtin; refine wpList_append_lies _ rfl _ _ 40 rfl (w.heap.size + 1) 9 i0 (.string ⟨#[]⟩) 1 16 Try.underlying40 hi hz0 hz1 hz2 rfl (by decide) _ zs.length (zs.map Value.string) rfl how ⟨wr.heap.size, 0, none⟩ 1 1 [.string c.name] rfl rfl (cell_one_new _ _ _) ?d1 (by decide) ?d2 ?d3 hle _ rfl ?_)
            case d1 => intro u hu; simp at hu; subst hu; rfl
            case d2 => unfold maxLen; omega
            case d3 => omega
            intro g2 cap4 w6 hown hgrow hat hlt6
            have HT9 := Lib.hid (HT8.out.app1 hown hgrow (hat.imp id (fun h => h.trans (Array.size_push _).symm))).swap
            clear how hle hown hgrow hat hlt6
            go_wp2
            go_roundw
            case rel => exact ⟨q + 1, by omega, by go_num, by rw [HZ.out]; exact HT9⟩
            case measure => simp [intOf]; omega
          · have hz : t.cons.take q = t.cons := List.take_of_length_le (by have := HN2.out; omega)
            rw [hz] at hT7
            have HLL : Hid ((conNames (s.take (k + 1))).length ≤ (k + 1) * 1048576) := by
              have := hCL.out
              have := HN2.out
              unfold Hid
              rw [HCT.out, List.length_append, List.length_map]
              omega
            clear hz hr2
            go_wp2
            go_roundw
            case rel => exact ⟨k + 1, by omega, by go_num, by rw [HNT.out, HCT.out]; exact hT7, HLL, before_succ' hG.out HXE.out HG.out⟩
            case measure => simp [intOf]; omega
      · rw [bl_false hg] at H
        have HRES : Hid (bl (ValidSig s) = false) := bl_false (fun h => by
          obtain ⟨h4, h5⟩ := List.getElem?_eq_some_iff.1 HXE.out
          exact hg (h.1 t (h5 ▸ List.getElem_mem h4)))
        clear hg
        generalize t.cons.length = n2 at *
        go_wp2
        go_region_held3 (fun w' => w'.cell? ⟨w.heap.size, 0, none⟩ = some (.slice (some y) n cap) ∧ w'.cell? (y.add (k * 2)) = some (.string t.name) ∧ w'.cell? ⟨(y.add (k * 2)).block, (y.add (k * 2)).off + 1, none⟩ = some (.slice ta n2 tc))
          (first
            | go_keep
            | exact ⟨cell_below (w := wr.drew) c0 hb4, cell_below (w := wr.drew) hc0 hb4, cell_below (w := wr.drew) hc1 hb4⟩)
          (first
            | (go_at_call 42; refine H.mono ?_; rintro e w4 ⟨rfl, hb4⟩))
        have HB4 : Hid (Below w.heap.size w w4) := hT.out.base.trans ((below_of_drew hb4).mono hT.out.base.size)
        clear hb4 H c0 hc0 hc1
        go_wp2
        go_ret
        exact ⟨by rw [HRES.out]; rfl, HB4.out⟩
    · have hz : s.take k = s := List.take_of_length_le (by have := HN.out; omega)
      rw [hz] at hT hCL
      have HAL : Hid (∀ t ∈ s, GoodT s t) := all_of_index (fun j y hj hy => hG.out j y (by have := HN.out; omega) hy)
      have hkn : k = n := by omega
      subst hkn
      clear hz hG
      obtain ⟨_, la, lc, rfl, hl1⟩ := owned_reads hT.out.one
      obtain ⟨_, ma, mc, rfl, hl2⟩ := owned_reads hT.out.two
      have hn1 : (s.map TypeD.name).length ≤ maxLen := by rw [List.length_map, HN.out]; unfold maxLen; omega
      have hn2 : (conNames s).length ≤ maxLen := by have := hCL.out; unfold maxLen; omega
      have H1 := fun q => spec_distinct (wr.drewN q) la lc (s.map TypeD.name) hl1 hn1
      have H2 := fun q => spec_distinct (wr.drewN q) ma mc (conNames s) hl2 hn2
      have H1d : Calls _ _ _ wr.drew _ := spec_distinct wr.drew la lc (s.map TypeD.name) hl1 hn1
      have H2d : Calls _ _ _ wr.drew _ := spec_distinct wr.drew ma mc (conNames s) hl2 hn2
      have H3 := spec_inhabited wr.drew a cap s (row2_below type_below HX.out hT.out.base.drew) (by rw [HN.out]; exact hm) HS.out
      rw [HN.out] at H3
      have HBW := Lib.hid hT.out.base
      have HV : Hid (ValidSig s ↔ k ≤ 4 ∧ Distinct (s.map TypeD.name) ∧ Distinct (conNames s) ∧ (inhabited s).length = k) := ⟨fun h => ⟨by have := h.2.1; have := HN.out; omega, h.2.2.1, h.2.2.2.1, by rw [h.2.2.2.2, HN.out]⟩, fun h => ⟨HAL.out, by have := HN.out; omega, h.2.1, h.2.2.1, by rw [h.2.2.2, HN.out]⟩⟩
      have hil := inhabited_len s s.length
      clear hl1 hl2 hn1 hn2 hT hCL
      generalize s.map TypeD.name = xs at *
      generalize conNames s = ys at *
      by_cases h4 : k ≤ 4
      · have h4' : decide ((k : Int) ≤ 4) = true := by simp; omega
        by_cases hd1 : Distinct xs
        · rw [bl_true hd1] at H1d
          simp only [bl_true hd1] at H1
          by_cases hd2 : Distinct ys
          · rw [bl_true hd2] at H2d
            simp only [bl_true hd2] at H2
            have HRES : Hid (bl (ValidSig s) = (((inhabited s).length : Int) == (k : Int))) := by
              unfold Hid
              by_cases he : (inhabited s).length = k
              · rw [bl_true (HV.out.2 ⟨h4, hd1, hd2, he⟩), he]; simp
              · rw [bl_false (fun h => he (HV.out.1 h).2.2.2)]
                symm
                exact beq_eq_false_iff_ne.2 (fun e => he (by omega))
            have hml : (inhabited s).length ≤ 1048576 := by
              have h9 : ((s.map TypeD.name).filter fun n => bl (Inh s n)).length ≤ (s.map TypeD.name).length := List.length_filter_le _ _
              have h8 : (s.map TypeD.name).length = s.length := List.length_map _
              have h7 : (inhabited s).length = ((s.map TypeD.name).filter fun n => bl (Inh s n)).length := rfl
              have := HN.out
              omega
            clear hd1 hd2 hil H1 H2
            generalize (inhabited s).length = m at *
            go_wp2
            go_region_held3 (fun w' => w'.cell? ⟨w.heap.size, 0, none⟩ = some (.slice a k cap))
              (first
                | go_keep
                | exact cell_below (w := wr.drew) c0 hb5)
              (first
                | (go_at_call 43; with_reducible refine H1d.mono ?_; rintro e w4 ⟨rfl, rfl⟩)
                | (go_at_call 43; with_reducible refine H2d.mono ?_; rintro e w4 ⟨rfl, rfl⟩)
                | (go_at_call 44; refine H3.mono ?_; rintro e w5 ⟨⟨ia, ic, rfl⟩, hb5⟩))
            have HB5 : Hid (Below w.heap.size w w5) := HBW.out.trans ((below_of_drew hb5).mono HBW.out.size)
            clear hb5 H1d H2d H3
            go_wp2
            go_ret
            exact ⟨by rw [HRES.out]; rfl, HB5.out⟩
          · simp only [bl_false hd2] at H2
            have HRES : Hid (bl (ValidSig s) = false) := bl_false (fun h => hd2 (HV.out.1 h).2.2.1)
            clear hd1 hd2 hil H1d H2d H3
            go_wp2
            go_quiet (first
              | (go_at_call 43; with_reducible refine Calls.quiet_of_same (H1 _))
              | (go_at_call 43; with_reducible refine Calls.quiet_of_same (H2 _)))
            go_wp2
            go_ret
            exact ⟨by rw [HRES.out]; rfl, below_drewN HBW.out _⟩
        · simp only [bl_false hd1] at H1
          have HRES : Hid (bl (ValidSig s) = false) := bl_false (fun h => hd1 (HV.out.1 h).2.1)
          clear hd1 hil H1d H2d H3 H2
          go_wp2
          go_quiet (first
            | (go_at_call 43; with_reducible refine Calls.quiet_of_same (H1 _)))
          go_wp2
          go_ret
          exact ⟨by rw [HRES.out]; rfl, below_drewN HBW.out _⟩
      · have h4' : decide ((k : Int) ≤ 4) = false := by simp; omega
        have HRES : Hid (bl (ValidSig s) = false) := bl_false (fun h => h4 (HV.out.1 h).1)
        clear h4 hil H1 H2 H1d H2d H3
        go_wp2
        go_quiet (fail)
        go_wp2
        go_ret
        exact ⟨by rw [HRES.out]; rfl, below_drewN HBW.out _⟩
end Go.Proofs.Ytcmpaccpdjcocaa
