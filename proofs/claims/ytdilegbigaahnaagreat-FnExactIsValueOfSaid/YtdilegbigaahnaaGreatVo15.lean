/- What is proved here: a piece of the proof of YtdilegbigaahnaaGreatExactIsValueOf (SpecValid, SpecValueOf, Only, Marked). Condition: none beyond what each part says. -/
import Derived.Test.YtdilegbigaahnaaGreatVo10
import Derived.Test.YtdilegbigaahnaaGreatVo14
import Derived.Test.YtdilegbigaahnaaGreatVo12
import Derived.Deep.RegionLaw
import Derived.Test.YtdilegbigaahnaaGreatVo13
import Derived.Test.YtdilegbigaahnaaGreatVo01

/- What is proved here: the model's IsValidSignature (package spec) says whether a signature is valid. Condition: it lies in memory as said, and is small. -/
section
namespace Go.Proofs.YtdilegbigaahnaaGreat
open Go.RowKit

set_option maxHeartbeats 4000000 in
set_option maxRecDepth 100000 in
theorem spec_valid (w : World) (a : Option Addr) (cap : Nat) (s : List TypeD) (hx : Row2 TypeAt w a s) (hf : sigFits s) (hm : s.length ≤ 1048576) (hs : ∀ c ∈ s, c.cons.length ≤ 1048576 ∧ ∀ d ∈ c.cons, d.args.length ≤ 1048576) :
    Calls Tryz.prog 20 #[.agg #[.slice a s.length cap]] w fun e w' => e = .returned (.bool (bl (ValidSig s))) ∧ Below w.heap.size w w' := by
  have HX := Lib.hid hx
  have HS := Lib.hid hs
  have HF := Lib.hid hf.2
  have s1 : (w.alloc (.cells #[.slice a s.length cap] 33)).heap.size = w.heap.size + 1 := Array.size_push _
  have hbA : Below w.heap.size w (w.alloc (.cells #[.slice a s.length cap] 33)) := (Below.refl _ _).alloc (Nat.le_refl _) _
  have hc0 := (one_cell (heap_at_new w (.cells #[.slice a s.length cap] 33))).1
  generalize hw1 : w.alloc (.cells #[.slice a s.length cap] 33) = w1 at *
  have s2 : (w1.alloc (.cells #[] 9)).heap.size = w1.heap.size + 1 := Array.size_push _
  have hb2 : Below w1.heap.size w1 (w1.alloc (.cells #[] 9)) := (Below.refl _ _).alloc (Nat.le_refl _) _
  have ho1 := World.ownsRow_made (base := w.heap.size + 1) (e := 9) (size := 1) w1 #[] 0 (by omega) (by decide) (by simp)
  have ho2 := World.ownsRow_made (base := w.heap.size + 1) (e := 9) (size := 1) (w1.alloc (.cells #[] 9)) #[] 0 (by omega) (by decide) (by simp)
  have hb3 : Below (w1.alloc (.cells #[] 9)).heap.size (w1.alloc (.cells #[] 9)) ((w1.alloc (.cells #[] 9)).alloc (.cells #[] 9)) := (Below.refl _ _).alloc (Nat.le_refl _) _
  rw [s2, s1] at ho2
  rw [s1] at ho1
  have hTwo : Two w (w.heap.size + 1) w.heap.size (.slice a s.length cap) [] [] (.slice (some ⟨w.heap.size + 1, 0, none⟩) 0 0) (.slice (some ⟨w.heap.size + 1 + 1, 0, none⟩) 0 0) ((w1.alloc (.cells #[] 9)).alloc (.cells #[] 9)) :=
    ⟨own_below ho1 hb3, ho2, .inr (by simp [Value.ownBlock]), .inr (by simp [Value.ownBlock]), (hbA.trans (hb2.mono hbA.size)).trans (hb3.mono (by omega)), cell_below (cell_below hc0 hb2) hb3, by omega, by have := hb3.size; omega, by omega⟩
  have HTW := Lib.hid hTwo
  have HW1 := Lib.hid hw1
  clear hx hs hf s1 hbA hc0 s2 hb2 ho1 ho2 hb3 hTwo hw1
  obtain ⟨i0, hi, hz0, hz1, hz2⟩ := info_parts (show (Tryz.prog.info? 9).map (fun i => (i.zero, i.size, i.bytes)) = some (some (.string ⟨#[]⟩), 1, 16) by kernel_rfl)
  generalize hn : s.length = n at *
  have HN := Lib.hid hn
  clear hn
  go_enter Tryz.func20, Tryz.ntmps20
  go_wp2
  rw [HW1.out]
  generalize (w1.alloc (.cells #[] 9)).alloc (.cells #[] 9) = w3 at *
  go_loopw [3, 4, 5] (fun v1 v2 i wr => ∃ (k : Nat), k ≤ n ∧ i = .int .i64 k ∧ Hid (Two w (w.heap.size + 1) w.heap.size (.slice a n cap) ((s.take k).map TypeD.name) (conNames (s.take k)) v1 v2 wr) ∧ Hid ((conNames (s.take k)).length ≤ k * 1048576) ∧ Hid (∀ (j : Nat) y, j < k → s[j]? = some y → GoodT s y)) (fun _ _ i _ => n - (intOf i).toNat)
  case atStart => exact ⟨0, Nat.zero_le _, rfl, HTW.out, by show _ ≤ _; simp [conNames], fun j _ h => by omega⟩
  case round =>
    obtain ⟨k, hk, rfl, hT, hCL, hG⟩ := hrel
    have c0 := hT.out.box
    by_cases hlt : k < n
    · have hk' : k < s.length := by rw [HN.out]; exact hlt
      have hltz : (k : Int) < (n : Int) := by omega
      obtain ⟨y, u9, v9, rfl, hc0, hc1, hr1⟩ := row2_below type_below HX.out hT.out.base k hk'
      have hx : s[k]? = some s[k] := List.getElem?_eq_getElem hk'
      have hq := HS.out _ (List.getElem_mem hk')
      have hfx := HF.out _ (List.getElem_mem hk')
      generalize s[k] = t at hx hr1 hq hfx
      have HXE := Lib.hid hx
      have H := spec_good wr.drew (some y) cap s t u9 v9 (row2_below type_below HX.out hT.out.base.drew) (by rw [HN.out]; exact hm) HS.out hr1 hfx hq.1 hq.2
      rw [HN.out] at H
      have hr2 := hr1
      obtain ⟨ta, tc, hu, hv, _⟩ := hr2
      subst hu
      subst hv
      have HT1 := Lib.hid hr1
      have hq1 := hq.1
      clear hx hr1 hq hfx
      by_cases hg : GoodT s t
      · rw [bl_true hg] at H
        have HG := Lib.hid hg
        clear hg
        have hnt := names_take s k t HXE.out
        have hct := cons_take s k t HXE.out
        have hpl : ((s.take k).map TypeD.name).length ≤ n := by rw [List.length_map, List.length_take]; omega
        generalize (s.take k).map TypeD.name = xs at *
        generalize conNames (s.take k) = ys at *
        have HNT := Lib.hid hnt
        have HCT := Lib.hid hct
        clear hnt hct
        generalize hn2 : t.cons.length = n2 at *
        have HN2 := Lib.hid hn2
        clear hn2
        go_wp2
        go_region_held3 (fun w' => w'.cell? ⟨w.heap.size, 0, none⟩ = some (.slice (some y) n cap) ∧ w'.cell? (y.add (k * 2)) = some (.string t.name) ∧ w'.cell? ⟨(y.add (k * 2)).block, (y.add (k * 2)).off + 1, none⟩ = some (.slice ta n2 tc))
          (first
            | go_keep
            | exact ⟨cell_below (w := wr.drew) c0 hb4, cell_below (w := wr.drew) hc0 hb4, cell_below (w := wr.drew) hc1 hb4⟩)
          (first
            | (go_at_call 39; refine H.mono ?_; rintro e w4 ⟨rfl, hb4⟩))
        have hb4' := below_of_drew hb4
        have HT4 := Lib.hid (hT.out.below hb4')
        have d0 := cell_below c0 hb4'
        have d1 := cell_below hc0 hb4'
        have d2 := cell_below hc1 hb4'
        have HD1 := Lib.hid (row2_below type_below HX.out HT4.out.base)
        clear hb4 hb4' H c0 hc0 hc1
        have hal : Below w4.heap.size w4 (w4.alloc (.cells #[.string t.name] 9)) := (Below.refl _ _).alloc (Nat.le_refl _) _
        have HT5 := Lib.hid (HT4.out.below hal)
        have how := HT5.out.one
        have hle := HT5.out.le
        clear hal
        go_wp2_with (at_builtin; refine wpList_append_lies _ rfl _ _ 67 rfl (w.heap.size + 1) 9 i0 (.string ⟨#[]⟩) 1 16 Tryz.underlying67 hi hz0 hz1 hz2 rfl (by decide) _ xs.length (xs.map Value.string) rfl how ⟨w4.heap.size, 0, none⟩ 1 1 [.string t.name] rfl rfl (cell_one_new _ _ _) ?d1 (by decide) ?d2 ?d3 hle _ rfl ?_)
        case d1 => intro u hu; simp at hu; subst hu; rfl
        case d2 => unfold maxLen; omega
        case d3 => omega
        intro g cap3 w5 hown hgrow hat hlt5
        have HT6 := Lib.hid (HT5.out.app1 hown hgrow (hat.imp id (fun h => h.trans (Array.size_push _).symm)))
        clear how hle hown hgrow hat hlt5 d0 d1 d2
        go_wp2
        go_loopw [4, 6] (fun v2 i wr => ∃ (q : Nat), q ≤ n2 ∧ i = .int .i64 q ∧ Hid (Two w (w.heap.size + 1) w.heap.size (.slice (some y) n cap) (xs ++ [t.name]) (ys ++ (t.cons.take q).map ConD.name) (.slice (some ⟨g, 0, none⟩) (xs.length + 1) cap3) v2 wr)) (fun _ i _ => n2 - (intOf i).toNat)
        case atStart => exact ⟨0, Nat.zero_le _, rfl, by show Two _ _ _ _ _ _ _ _ _; simpa using HT6.out⟩
        case round =>
          obtain ⟨q, hq, rfl, hT7⟩ := hrel
          have c0 := hT7.out.box
          obtain ⟨y', u9, v9, hy', hc0, hc1, hr1⟩ := row2_below type_below HX.out hT7.out.base k hk'
          obtain rfl := Option.some.inj hy'
          have hst : s[k] = t := by
            have := HXE.out
            rw [List.getElem?_eq_getElem hk'] at this
            exact Option.some.inj this
          rw [hst] at hr1
          obtain ⟨ta', tc', rfl, rfl, hr2⟩ := hr1
          rw [HN2.out] at hc1
          clear hst hy'
          by_cases hlt2 : q < n2
          · have hq' : q < t.cons.length := by rw [HN2.out]; exact hlt2
            have hltz2 : (q : Int) < (n2 : Int) := by omega
            obtain ⟨y2, u2, v2, rfl, hd0, hd1, hr3⟩ := hr2 q hq'
            have hx2 : t.cons[q]? = some t.cons[q] := List.getElem?_eq_getElem hq'
            generalize t.cons[q] = c at hx2 hr3
            obtain ⟨ca, cc, hu, hv, _⟩ := hr3
            subst hu
            subst hv
            have hkt := con_take t q c hx2
            have hzl : (ys ++ (t.cons.take q).map ConD.name).length ≤ k * 1048576 + q := by
              have := hCL.out
              rw [List.length_append, List.length_map, List.length_take]
              omega
            generalize hzs : ys ++ (t.cons.take q).map ConD.name = zs at *
            have HZ : Hid (ys ++ (t.cons.take (q + 1)).map ConD.name = zs ++ [c.name]) := by
              unfold Hid
              rw [hkt, ← List.append_assoc, hzs]
            clear hkt hzs hx2 hr2
            have hal : Below wr.heap.size wr (wr.alloc (.cells #[.string c.name] 9)) := (Below.refl _ _).alloc (Nat.le_refl _) _
            have HT8 := Lib.hid (hT7.out.below hal).swap
            have how := HT8.out.one
            have hle := HT8.out.le
            clear hal
            go_wp2_with (at_builtin; refine wpList_append_lies _ rfl _ _ 67 rfl (w.heap.size + 1) 9 i0 (.string ⟨#[]⟩) 1 16 Tryz.underlying67 hi hz0 hz1 hz2 rfl (by decide) _ zs.length (zs.map Value.string) rfl how ⟨wr.heap.size, 0, none⟩ 1 1 [.string c.name] rfl rfl (cell_one_new _ _ _) ?d1 (by decide) ?d2 ?d3 hle _ rfl ?_)
            case d1 => intro u hu; simp at hu; subst hu; rfl
            case d2 => unfold maxLen; omega
            case d3 => omega
            intro g2 cap4 w6 hown hgrow hat hlt6
            have HT9 := Lib.hid (HT8.out.app1 hown hgrow (hat.imp id (fun h => h.trans (Array.size_push _).symm))).swap
            clear how hle hown hgrow hat hlt6
            go_wp2
            go_roundw
            case rel => exact ⟨q + 1, by omega, by go_num, by rw [HZ.out]; exact HT9⟩
            case measure => simp [intOf]; omega
          · have hz : t.cons.take q = t.cons := List.take_of_length_le (by have := HN2.out; omega)
            rw [hz] at hT7
            have HLL : Hid ((conNames (s.take (k + 1))).length ≤ (k + 1) * 1048576) := by
              have := hCL.out
              have := HN2.out
              unfold Hid
              rw [HCT.out, List.length_append, List.length_map]
              omega
            clear hz hr2
            go_wp2
            go_roundw
            case rel => exact ⟨k + 1, by omega, by go_num, by rw [HNT.out, HCT.out]; exact hT7, HLL, before_succ' hG.out HXE.out HG.out⟩
            case measure => simp [intOf]; omega
      · rw [bl_false hg] at H
        have HRES : Hid (bl (ValidSig s) = false) := bl_false (fun h => by
          obtain ⟨h4, h5⟩ := List.getElem?_eq_some_iff.1 HXE.out
          exact hg (h.1 t (h5 ▸ List.getElem_mem h4)))
        clear hg
        generalize t.cons.length = n2 at *
        go_wp2
        go_region_held3 (fun w' => w'.cell? ⟨w.heap.size, 0, none⟩ = some (.slice (some y) n cap) ∧ w'.cell? (y.add (k * 2)) = some (.string t.name) ∧ w'.cell? ⟨(y.add (k * 2)).block, (y.add (k * 2)).off + 1, none⟩ = some (.slice ta n2 tc))
          (first
            | go_keep
            | exact ⟨cell_below (w := wr.drew) c0 hb4, cell_below (w := wr.drew) hc0 hb4, cell_below (w := wr.drew) hc1 hb4⟩)
          (first
            | (go_at_call 39; refine H.mono ?_; rintro e w4 ⟨rfl, hb4⟩))
        have HB4 : Hid (Below w.heap.size w w4) := hT.out.base.trans ((below_of_drew hb4).mono hT.out.base.size)
        clear hb4 H c0 hc0 hc1
        go_wp2
        go_ret
        exact ⟨by rw [HRES.out]; rfl, HB4.out⟩
    · have hz : s.take k = s := List.take_of_length_le (by have := HN.out; omega)
      rw [hz] at hT hCL
      have HAL : Hid (∀ t ∈ s, GoodT s t) := all_of_index (fun j y hj hy => hG.out j y (by have := HN.out; omega) hy)
      have hkn : k = n := by omega
      subst hkn
      clear hz hG
      obtain ⟨_, la, lc, rfl, hl1⟩ := owned_reads hT.out.one
      obtain ⟨_, ma, mc, rfl, hl2⟩ := owned_reads hT.out.two
      have hn1 : (s.map TypeD.name).length ≤ maxLen := by rw [List.length_map, HN.out]; unfold maxLen; omega
      have hn2 : (conNames s).length ≤ maxLen := by have := hCL.out; unfold maxLen; omega
      have H1 := fun q => spec_distinct (wr.drewN q) la lc (s.map TypeD.name) hl1 hn1
      have H2 := fun q => spec_distinct (wr.drewN q) ma mc (conNames s) hl2 hn2
      have H1d : Calls _ _ _ wr.drew _ := spec_distinct wr.drew la lc (s.map TypeD.name) hl1 hn1
      have H2d : Calls _ _ _ wr.drew _ := spec_distinct wr.drew ma mc (conNames s) hl2 hn2
      have H3 := spec_inhabited wr.drew a cap s (row2_below type_below HX.out hT.out.base.drew) (by rw [HN.out]; exact hm) HS.out
      rw [HN.out] at H3
      have HBW := Lib.hid hT.out.base
      have HV : Hid (ValidSig s ↔ k ≤ 4 ∧ Distinct (s.map TypeD.name) ∧ Distinct (conNames s) ∧ (inhabited s).length = k) := ⟨fun h => ⟨by have := h.2.1; have := HN.out; omega, h.2.2.1, h.2.2.2.1, by rw [h.2.2.2.2, HN.out]⟩, fun h => ⟨HAL.out, by have := HN.out; omega, h.2.1, h.2.2.1, by rw [h.2.2.2, HN.out]⟩⟩
      have hil := inhabited_len s s.length
      clear hl1 hl2 hn1 hn2 hT hCL
      generalize s.map TypeD.name = xs at *
      generalize conNames s = ys at *
      by_cases h4 : k ≤ 4
      · have h4' : decide ((k : Int) ≤ 4) = true := by simp; omega
        by_cases hd1 : Distinct xs
        · rw [bl_true hd1] at H1d
          simp only [bl_true hd1] at H1
          by_cases hd2 : Distinct ys
          · rw [bl_true hd2] at H2d
            simp only [bl_true hd2] at H2
            have HRES : Hid (bl (ValidSig s) = (((inhabited s).length : Int) == (k : Int))) := by
              unfold Hid
              by_cases he : (inhabited s).length = k
              · rw [bl_true (HV.out.2 ⟨h4, hd1, hd2, he⟩), he]; simp
              · rw [bl_false (fun h => he (HV.out.1 h).2.2.2)]
                symm
                exact beq_eq_false_iff_ne.2 (fun e => he (by omega))
            have hml : (inhabited s).length ≤ 1048576 := by
              have h9 : ((s.map TypeD.name).filter fun n => bl (Inh s n)).length ≤ (s.map TypeD.name).length := List.length_filter_le _ _
              have h8 : (s.map TypeD.name).length = s.length := List.length_map _
              have h7 : (inhabited s).length = ((s.map TypeD.name).filter fun n => bl (Inh s n)).length := rfl
              have := HN.out
              omega
            clear hd1 hd2 hil H1 H2
            generalize (inhabited s).length = m at *
            go_wp2
            go_region_held3 (fun w' => w'.cell? ⟨w.heap.size, 0, none⟩ = some (.slice a k cap))
              (first
                | go_keep
                | exact cell_below (w := wr.drew) c0 hb5)
              (first
                | (go_at_call 40; with_reducible refine H1d.mono ?_; rintro e w4 ⟨rfl, rfl⟩)
                | (go_at_call 40; with_reducible refine H2d.mono ?_; rintro e w4 ⟨rfl, rfl⟩)
                | (go_at_call 41; refine H3.mono ?_; rintro e w5 ⟨⟨ia, ic, rfl⟩, hb5⟩))
            have HB5 : Hid (Below w.heap.size w w5) := HBW.out.trans ((below_of_drew hb5).mono HBW.out.size)
            clear hb5 H1d H2d H3
            go_wp2
            go_ret
            exact ⟨by rw [HRES.out]; rfl, HB5.out⟩
          · simp only [bl_false hd2] at H2
            have HRES : Hid (bl (ValidSig s) = false) := bl_false (fun h => hd2 (HV.out.1 h).2.2.1)
            clear hd1 hd2 hil H1d H2d H3
            go_wp2
            go_quiet (first
              | (go_at_call 40; with_reducible refine Calls.quiet_of_same (H1 _))
              | (go_at_call 40; with_reducible refine Calls.quiet_of_same (H2 _)))
            go_wp2
            go_ret
            exact ⟨by rw [HRES.out]; rfl, below_drewN HBW.out _⟩
        · simp only [bl_false hd1] at H1
          have HRES : Hid (bl (ValidSig s) = false) := bl_false (fun h => hd1 (HV.out.1 h).2.1)
          clear hd1 hil H1d H2d H3 H2
          go_wp2
          go_quiet (first
            | (go_at_call 40; with_reducible refine Calls.quiet_of_same (H1 _)))
          go_wp2
          go_ret
          exact ⟨by rw [HRES.out]; rfl, below_drewN HBW.out _⟩
      · have h4' : decide ((k : Int) ≤ 4) = false := by simp; omega
        have HRES : Hid (bl (ValidSig s) = false) := bl_false (fun h => h4 (HV.out.1 h).1)
        clear h4 hil H1 H2 H1d H2d H3
        go_wp2
        go_quiet (fail)
        go_wp2
        go_ret
        exact ⟨by rw [HRES.out]; rfl, below_drewN HBW.out _⟩
end Go.Proofs.YtdilegbigaahnaaGreat
end

/- What is proved here: the model's IsValueOf says whether a value is one of a type of a valid signature, within the limits. Condition: value and signature lie in memory as said, and are small. -/
section
namespace Go.Proofs.YtdilegbigaahnaaGreat
open Go.RowKit

set_option maxHeartbeats 2000000 in
set_option maxRecDepth 100000 in
theorem spec_value_of (w : World) (k n : Int) (t : ByteArray) (F : Trees) (p : Option Addr) (c : Nat) (a : Option Addr) (cap : Nat) (s : List TypeD) (nm : ByteArray) (hfv : F.fits) (hsz : F.size ≤ 1048576) (ht : t.size ≤ maxLen) (hx : TreesAt w F p 0) (hf : sigFits s) (hm : s.length ≤ 1048576) (hs : ∀ c ∈ s, c.cons.length ≤ 1048576 ∧ ∀ d ∈ c.cons, d.args.length ≤ 1048576) (hsg : Row2 TypeAt w a s) :
    Calls Tryz.prog 7 #[.agg #[.slice a s.length cap], .agg #[.int .i64 k, .int .i64 n, .string t, .slice p F.length c], .string nm] w fun e w' => e = .returned (.bool (valueOf s k n t F nm)) ∧ Below w.heap.size w w' := by
  obtain ⟨hp0, hp1, hB0, hs0⟩ := two_allocs w (.cells #[.slice a s.length cap] 33) (.cells #[.int .i64 k, .int .i64 n, .string t, .slice p F.length c] 37)
  have HX := Lib.hid (hx.below hB0)
  have HB0 := Lib.hid hB0
  obtain ⟨c0, c1, c2, c3, _⟩ := four_cells hp1
  have d0 := (one_cell hp0).1
  have hfc : F.count ≤ 1048576 := Nat.le_trans F.count_le_size hsz
  obtain ⟨w0, hw0⟩ : ∃ w0, w0 = (w.alloc (.cells #[.slice a s.length cap] 33)).alloc (.cells #[.int .i64 k, .int .i64 n, .string t, .slice p F.length c] 37) := ⟨_, rfl⟩
  rw [← hw0] at HX HB0 c0 c1 c2 c3 d0 hs0
  have HW0 := Lib.hid hw0
  unfold valueOf
  have HSG := Lib.hid (row2_below type_below hsg hB0)
  rw [← hw0] at HSG
  have HV := Lib.hid (spec_valid w0 a cap s HSG.out hf hm hs)
  have HL := Lib.hid (fun w' (hb : Below w0.heap.size w0 w') => spec_left F hfc 40 (by omega) w' k n t p c (HX.out.below hb))
  have HD := Lib.hid (fun w' (hb : Below w0.heap.size w0 w') => spec_depth F hfc w' k n t p c (HX.out.below hb))
  have HH := Lib.hid (fun w' (hb : Below w0.heap.size w0 w') => spec_has s hm hs F hfv hsz w' k n t p c a cap nm ht (HX.out.below hb) (row2_below type_below HSG.out hb))
  generalize nodeHas s k n t F.length (fun l => F.has s l) nm = bh at *
  clear hw0 hB0 hp0 hp1 hs0 hx hsg hfv hf hs ht
  generalize bl (ValidSig s) = bv at *
  cases bv with
  | false =>
    go_enter Tryz.func7, Tryz.ntmps7
    go_wp2_with fail
    rw [← HW0.out]
    refine HV.out.mono ?_
    rintro e w1 ⟨rfl, hb1⟩
    have HB1 := Lib.hid hb1
    clear hb1
    go_wp2
    go_ret
    exact ⟨rfl, HB0.out.trans (HB1.out.mono HB0.out.size)⟩
  | true =>
    have hd40 : decide (1 + F.count ≤ 40 ∧ F.deep + 1 ≤ 12) = (decide (1 + F.count ≤ 40) && decide (F.deep + 1 ≤ 12)) := by simp
    rw [hd40]
    clear hd40
    by_cases hL : 1 + F.count ≤ 40
    · rw [left_yes hL] at HL
      have hlz : 40 - (1 + F.count) ≤ 40 := by omega
      rw [decide_eq_true hL]
      generalize 40 - (1 + F.count) = q at *
      by_cases hD : F.deep + 1 ≤ 12
      · rw [decide_eq_true hD]
        generalize F.deep + 1 = dp at *
        have hdz : (dp : Int) ≤ 12 := by omega
        clear hL hD
        go_enter Tryz.func7, Tryz.ntmps7
        go_wp2_with fail
        rw [← HW0.out]
        refine HV.out.mono ?_
        rintro e w1 ⟨rfl, hb1⟩
        have HB1 := Lib.hid hb1
        have c0 := cell_below c0 hb1
        have c1 := cell_below c1 hb1
        have c2 := cell_below c2 hb1
        have c3 := cell_below c3 hb1
        have d0 := cell_below d0 hb1
        clear hb1
        go_wp2_with fail
        refine (HL.out w1 HB1.out).mono ?_
        rintro e w2 ⟨rfl, hb2⟩
        have HB2 : Hid (Below w0.heap.size w0 w2) := HB1.out.trans (hb2.mono HB1.out.size)
        have c0 := cell_below c0 hb2
        have c1 := cell_below c1 hb2
        have c2 := cell_below c2 hb2
        have c3 := cell_below c3 hb2
        have d0 := cell_below d0 hb2
        clear hb2
        go_wp2_with fail
        refine (HD.out w2 HB2.out).mono ?_
        rintro e w3 ⟨rfl, hb3⟩
        have HB3 : Hid (Below w0.heap.size w0 w3) := HB2.out.trans (hb3.mono HB2.out.size)
        have c0 := cell_below c0 hb3
        have c1 := cell_below c1 hb3
        have c2 := cell_below c2 hb3
        have c3 := cell_below c3 hb3
        have d0 := cell_below d0 hb3
        clear hb3
        go_wp2_with fail
        refine (HH.out w3 HB3.out).mono ?_
        rintro e w4 ⟨rfl, hb4⟩
        have HB4 : Hid (Below w0.heap.size w0 w4) := HB3.out.trans (hb4.mono HB3.out.size)
        clear hb4
        go_wp2
        go_ret
        exact ⟨rfl, HB0.out.trans (HB4.out.mono HB0.out.size)⟩
      · rw [decide_eq_false hD]
        generalize F.deep + 1 = dp at *
        have hdz : ¬ (dp : Int) ≤ 12 := by omega
        clear hL hD
        go_enter Tryz.func7, Tryz.ntmps7
        go_wp2_with fail
        rw [← HW0.out]
        refine HV.out.mono ?_
        rintro e w1 ⟨rfl, hb1⟩
        have HB1 := Lib.hid hb1
        have c0 := cell_below c0 hb1
        have c1 := cell_below c1 hb1
        have c2 := cell_below c2 hb1
        have c3 := cell_below c3 hb1
        have d0 := cell_below d0 hb1
        clear hb1
        go_wp2_with fail
        refine (HL.out w1 HB1.out).mono ?_
        rintro e w2 ⟨rfl, hb2⟩
        have HB2 : Hid (Below w0.heap.size w0 w2) := HB1.out.trans (hb2.mono HB1.out.size)
        have c0 := cell_below c0 hb2
        have c1 := cell_below c1 hb2
        have c2 := cell_below c2 hb2
        have c3 := cell_below c3 hb2
        have d0 := cell_below d0 hb2
        clear hb2
        go_wp2_with fail
        refine (HD.out w2 HB2.out).mono ?_
        rintro e w3 ⟨rfl, hb3⟩
        have HB3 : Hid (Below w0.heap.size w0 w3) := HB2.out.trans (hb3.mono HB2.out.size)
        clear hb3
        go_wp2
        go_ret
        exact ⟨rfl, HB0.out.trans (HB3.out.mono HB0.out.size)⟩
    · rw [left_no hL] at HL
      rw [decide_eq_false hL]
      clear hL
      go_enter Tryz.func7, Tryz.ntmps7
      go_wp2_with fail
      rw [← HW0.out]
      refine HV.out.mono ?_
      rintro e w1 ⟨rfl, hb1⟩
      have HB1 := Lib.hid hb1
      have c0 := cell_below c0 hb1
      have c1 := cell_below c1 hb1
      have c2 := cell_below c2 hb1
      have c3 := cell_below c3 hb1
      have d0 := cell_below d0 hb1
      clear hb1
      go_wp2_with fail
      refine (HL.out w1 HB1.out).mono ?_
      rintro e w2 ⟨rfl, hb2⟩
      have HB2 : Hid (Below w0.heap.size w0 w2) := HB1.out.trans (hb2.mono HB1.out.size)
      clear hb2
      go_wp2
      go_ret
      exact ⟨rfl, HB0.out.trans (HB2.out.mono HB0.out.size)⟩
end Go.Proofs.YtdilegbigaahnaaGreat
end

/- What is proved here: worlds between which only some blocks have changed. No condition. -/
section
namespace Go.Proofs.YtdilegbigaahnaaGreat
open Go.RowKit

/-- Only the blocks F (and new ones) have changed. -/
structure Only (F : Nat → Prop) (w w' : World) : Prop where
  os : w'.os = w.os
  tape : w'.tape = w.tape
  output : w'.output = w.output
  size : w.heap.size ≤ w'.heap.size
  block : ∀ b, b < w.heap.size → ¬ F b → w'.heap[b]? = w.heap[b]?
theorem Only.refl (F : Nat → Prop) (w : World) : Only F w w := ⟨rfl, rfl, rfl, Nat.le_refl _, fun _ _ _ => rfl⟩
theorem Only.trans {F : Nat → Prop} {a b c : World} (h : Only F a b) (k : Only F b c) : Only F a c :=
  ⟨k.os.trans h.os, k.tape.trans h.tape, k.output.trans h.output, Nat.le_trans h.size k.size, fun i hi hn => (k.block i (Nat.lt_of_lt_of_le hi h.size) hn).trans (h.block i hi hn)⟩
theorem Only.wider {F F' : Nat → Prop} {w w' : World} (h : Only F w w') (hF : ∀ b, F b → F' b) : Only F' w w' := ⟨h.os, h.tape, h.output, h.size, fun b hb hn => h.block b hb (fun e => hn (hF b e))⟩
theorem Only.of_below {F : Nat → Prop} {w w' : World} (h : Below w.heap.size w w') : Only F w w' := ⟨h.os, h.tape, h.output, h.size, fun b hb _ => h.block b hb⟩
theorem Only.of_grown {w w' : World} {g : Nat} (h : w.grownBy w' (some g)) : Only (fun b => b = g) w w' := ⟨h.os, h.tape, h.output, h.size, fun b hb hn => h.block b hb (fun e => hn (Option.some.inj e))⟩
theorem Only.setCell {F : Nat → Prop} {w : World} {p : Addr} (hp : F p.block) (v : Value) : Only F w (w.setCell p v) := ⟨rfl, rfl, rfl, by simp [World.setCell], fun b _ hn => Below.heap_setCell _ _ _ _ (fun e => hn (e ▸ hp))⟩
theorem Only.below {F : Nat → Prop} {B : Nat} {w w' : World} (h : Only F w w') (hF : ∀ b, F b → B ≤ b) (hB : B ≤ w.heap.size) : Below B w w' := ⟨h.os, h.tape, h.output, h.size, fun b hb => h.block b (by omega) (fun e => by have := hF b e; omega)⟩
end Go.Proofs.YtdilegbigaahnaaGreat
end

/- What is proved here: marks on the parts of a signature in memory of the call's own: what a marked list is; that marking one part leaves the others alone. No condition. -/
section
namespace Go.Proofs.YtdilegbigaahnaaGreat
open Go.RowKit


/-- A list whose elements are marked one after another, from k on; each takes as many marks as cnt says. -/
def markedList {α : Type} (mk : Nat → α → α) (cnt : α → Nat) : Nat → List α → List α
  | _, [] => []
  | k, x :: r => mk k x :: markedList mk cnt (k + cnt x) r
theorem markedList_length {α : Type} (mk : Nat → α → α) (cnt : α → Nat) (l : List α) : ∀ k, (markedList mk cnt k l).length = l.length := by
  induction l with
  | nil => intro k; rfl
  | cons x r ih => intro k; simp [markedList, ih]
theorem markedList_at {α : Type} (mk : Nat → α → α) (cnt : α → Nat) (l : List α) : ∀ (k j : Nat) (x : α), l[j]? = some x → (markedList mk cnt k l)[j]? = some (mk (k + sumBy cnt (l.take j)) x) := by
  induction l with
  | nil => intro k j x h; simp at h
  | cons y r ih =>
    intro k j x h
    cases j with
    | zero => simp at h; subst h; simp [markedList, sumBy]
    | succ j =>
      have := ih (k + cnt y) j x (by simpa using h)
      simp only [markedList, List.getElem?_cons_succ, this, List.take_succ_cons]
      have e : sumBy cnt (y :: r.take j) = cnt y + sumBy cnt (r.take j) := by simp [sumBy]
      rw [e, Nat.add_assoc]
/-- The first j elements are marked. -/
def mixed {α : Type} (mk : Nat → α → α) (cnt : α → Nat) (k : Nat) (l : List α) (j : Nat) : List α := (markedList mk cnt k l).take j ++ l.drop j
theorem mixed_zero {α : Type} (mk : Nat → α → α) (cnt : α → Nat) (k : Nat) (l : List α) : mixed mk cnt k l 0 = l := by simp [mixed]
theorem mixed_all {α : Type} (mk : Nat → α → α) (cnt : α → Nat) (k : Nat) (l : List α) : mixed mk cnt k l l.length = markedList mk cnt k l := by
  unfold mixed
  rw [List.take_of_length_le (by rw [markedList_length]; exact Nat.le_refl _), List.drop_length, List.append_nil]
theorem mixed_length {α : Type} (mk : Nat → α → α) (cnt : α → Nat) (k : Nat) (l : List α) (j : Nat) (h : j ≤ l.length) : (mixed mk cnt k l j).length = l.length := by
  unfold mixed
  rw [List.length_append, List.length_take, List.length_drop, markedList_length]
  omega
theorem mixed_at {α : Type} (mk : Nat → α → α) (cnt : α → Nat) (k : Nat) (l : List α) (j : Nat) (h : j ≤ l.length) : (mixed mk cnt k l j)[j]? = l[j]? := by
  unfold mixed
  have e : ((markedList mk cnt k l).take j).length = j := by rw [List.length_take, markedList_length]; omega
  rw [List.getElem?_append_right (by omega), e, Nat.sub_self, List.getElem?_drop, Nat.add_zero]
theorem mixed_set {α : Type} (mk : Nat → α → α) (cnt : α → Nat) (k : Nat) (l : List α) (j : Nat) (x : α) (h : l[j]? = some x) : (mixed mk cnt k l j).set j (mk (k + sumBy cnt (l.take j)) x) = mixed mk cnt k l (j + 1) := by
  obtain ⟨hj, hx⟩ := List.getElem?_eq_some_iff.1 h
  have hm := markedList_at mk cnt l k j x h
  obtain ⟨hj2, hx2⟩ := List.getElem?_eq_some_iff.1 hm
  unfold mixed
  have e : ((markedList mk cnt k l).take j).length = j := by rw [List.length_take, markedList_length]; omega
  rw [List.set_append_right j _ (by omega), e, Nat.sub_self, List.drop_eq_getElem_cons hj, List.set_cons_zero, List.take_succ_eq_append_getElem hj2, hx2, List.append_assoc]
  rfl

/-- Block g holds a row whose parts are the list l, each in blocks of its own (G). -/
def RowOf {α : Type} (T : TypeId) (E : (Nat → Prop) → World → α → Value → Value → Prop) (F : Nat → Prop) (g : Nat) (G : Nat → Nat → Prop) (w : World) (l : List α) : Prop :=
  ∃ (ps : List (Value × Value)) (rest : List Value), ps.length = l.length ∧ Pairs T w g ps rest ∧ Parts E w F g G l ps l.length
theorem flat_set1 (ps : List (Value × Value)) (rest : List Value) (j : Nat) (u : Value) (p : Value × Value) (h : ps[j]? = some p) : (flat ps ++ rest).set (j * 2) u = flat (ps.set j (u, p.2)) ++ rest := by
  induction ps generalizing j with
  | nil => simp at h
  | cons q r ih =>
    have e : flat (q :: r) ++ rest = q.1 :: q.2 :: (flat r ++ rest) := by simp [flat]
    cases j with
    | zero => simp at h; subst h; simp [flat]
    | succ j =>
      rw [e, show (j + 1) * 2 = j * 2 + 1 + 1 by omega]
      simp only [List.set_cons_succ]
      rw [ih j (by simpa using h)]
      simp [flat]
/-- One part: its cells, and the row when its name and its own blocks have changed. -/
theorem RowOf.part {α : Type} {T : TypeId} {E : (Nat → Prop) → World → α → Value → Value → Prop} (hK : Keeps E) {F : Nat → Prop} {g : Nat} {G : Nat → Nat → Prop} {w : World} {l : List α} (h : RowOf T E F g G w l) (hF : ∀ b, F b → b < w.heap.size) {j : Nat} {x : α} (hj : l[j]? = some x) :
    ∃ u v, w.cell? ⟨g, j * 2, none⟩ = some u ∧ w.cell? ⟨g, j * 2 + 1, none⟩ = some v ∧ w.frozen? ⟨g, j * 2, none⟩ = false ∧ E (G j) w x u v ∧ (∀ b, G j b → F b ∧ b ≠ g) ∧ g < w.heap.size ∧
      ∀ w1 w2 m x', Below w.heap.size w w1 → Only (G j) (w1.setCell ⟨g, j * 2, none⟩ m) w2 → E (G j) w2 x' m v → RowOf T E F g G w2 (l.set j x') := by
  obtain ⟨ps, rest, hl, hp, h1, h2, h3⟩ := h
  obtain ⟨hjl, _⟩ := List.getElem?_eq_some_iff.1 hj
  obtain ⟨c1, c2, c3, _⟩ := hp.cells j (by omega)
  have hpj : ps[j]? = some ps[j] := List.getElem?_eq_getElem (by omega)
  refine ⟨_, _, c1, c2, c3, h3 j x _ hjl hj hpj, h1 j hjl, hp.lt, ?_⟩
  intro w1 w2 m x' hb ho hE
  have hgl := hp.lt
  have hs := hb.size
  have hsz : (w1.setCell ⟨g, j * 2, none⟩ m).heap.size = w1.heap.size := by simp [World.setCell]
  have hall : ∀ b, b < w.heap.size → ¬ G j b → b ≠ g → w2.heap[b]? = w.heap[b]? := fun b hl hn hne => by
    rw [ho.block b (by omega) hn, Below.heap_setCell _ _ _ _ hne, hb.block b hl]
  refine ⟨ps.set j (m, ps[j].2), rest, by simp [hl], ?_, ?_, ?_, ?_⟩
  · have hng : ¬ G j g := fun e => (h1 j hjl g e).2 rfl
    unfold Pairs at hp ⊢
    rw [ho.block g (by omega) hng, ← flat_set1 ps rest j m ps[j] hpj]
    rw [← hb.block g hgl] at hp
    simp [World.setCell, Array.getElem?_modify, hp]
  · intro i hi b hb'
    exact h1 i (by simpa using hi) b hb'
  · intro i k hik hk b hb1 hb2
    exact h2 i k hik (by simpa using hk) b hb1 hb2
  · intro i y p hi hy hpi
    rw [List.length_set] at hi
    by_cases e : i = j
    · subst e
      rw [List.getElem?_set_self hjl] at hy
      rw [List.getElem?_set_self (by omega)] at hpi
      obtain rfl := Option.some.inj hy
      obtain rfl := Option.some.inj hpi
      exact hE
    · rw [List.getElem?_set_ne (fun h => e h.symm)] at hy hpi
      refine hK _ _ _ _ _ _ (h3 i y p hi hy hpi) (fun b hb' => ?_)
      obtain ⟨f1, f2⟩ := h1 i hi b hb'
      refine hall b (hF b f1) (fun e2 => ?_) f2
      rcases Nat.lt_or_gt_of_ne e with h | h
      · exact h2 i j h hjl b hb' e2
      · exact h2 j i h hi b e2 hb'
end Go.Proofs.YtdilegbigaahnaaGreat
end
