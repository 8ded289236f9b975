/- What is proved here: the program's ValueAt returns a copy of the part at an occurrence. Condition: the value lies in memory as said, and is small; the list reads as said. -/
import Derived.Test.YtcalgjggmgnofaaImplCopyV
import Derived.Test.YtcalgjggmgnofaaSpecValueAt
namespace Go.Proofs.Ytcalgjggmgnofaa
open Go.RowKit

set_option maxHeartbeats 4000000 in
set_option maxRecDepth 100000 in
theorem impl_valueAt (w : World) (d : NodeD) (p : Option Addr) (cap : Nat) (hx : TreesAt w d.args p 0) (hc : d.args.count ≤ 1048576) (hcap : d.args.length ≤ cap) (a : Option Addr) (cap2 : Nat) (zs : List Int) (hz : ReadsI w a zs) (hm : zs.length ≤ 1048576) :
    Calls Try.prog 11 #[.agg #[.int .i64 d.k, .int .i64 d.n, .string d.t, .slice p d.args.length cap], .slice a zs.length cap2] w (AtEnd w (d.at zs)) := by
  have h2 := two_boxes w (.cells #[.int .i64 d.k, .int .i64 d.n, .string d.t, .slice p d.args.length cap] 29) (.cells #[.int .i64 0, .int .i64 0, .string ⟨#[]⟩, .slice none 0 0] 29)
  obtain ⟨w2, hw2⟩ : ∃ w2, w2 = (w.alloc (.cells #[.int .i64 d.k, .int .i64 d.n, .string d.t, .slice p d.args.length cap] 29)).alloc (.cells #[.int .i64 0, .int .i64 0, .string ⟨#[]⟩, .slice none 0 0] 29) := ⟨_, rfl⟩
  rw [← hw2] at h2
  obtain ⟨ha, hb, hs, hB⟩ := h2
  have HW2 := Lib.hid hw2
  have HZ := Lib.hid hz
  have HI : Hid (BoxAt w2 w.heap.size d.k d.n d.t p d.args.length cap 29 ∧ BoxAt w2 (w.heap.size + 1) 0 0 ⟨#[]⟩ none 0 0 29 ∧ Below w.heap.size w w2 ∧ TreesAt w d.args p 0 ∧ d.args.count ≤ 1048576 ∧ d.args.length ≤ cap) := ⟨ha, hb, hB, hx, hc, hcap⟩
  have HD : Hid (d.at (zs.drop 0) = d.at zs) := rfl
  generalize d.at zs = q at *
  clear hx hz hc hcap ha hb hs hB hw2
  generalize hn : zs.length = m at *
  have HN := Lib.hid hn
  clear hn
  go_enter Try.func11, Try.ntmps11
  go_wp2
  rw [← HW2.out]
  clear HW2
  go_loopw [10] (fun i wr => ∃ (j : Nat) (f : NodeD) (p2 : Option Addr) (c2 : Nat), i = .int .i64 j ∧ j ≤ m ∧ Hid (f.at (zs.drop j) = q) ∧ Hid (BoxAt wr w.heap.size f.k f.n f.t p2 f.args.length c2 29 ∧ BoxAt wr (w.heap.size + 1) 0 0 ⟨#[]⟩ none 0 0 29 ∧ Below w.heap.size w wr ∧ TreesAt w f.args p2 0 ∧ f.args.count ≤ 1048576 ∧ f.args.length ≤ c2)) (fun i _ => m - (intOf i).toNat)
  case atStart => exact ⟨0, d, p, cap, rfl, Nat.zero_le _, HD, HI⟩
  case round =>
    obtain ⟨j, f, p2, c2, rfl, hj, hD, hI⟩ := hrel
    obtain ⟨v0, v1, v2, v3, g0, g1, g2, g3⟩ := four_cells hI.out.1
    obtain ⟨x0, x1, x2, x3, f0, f1, f2, f3⟩ := four_cells hI.out.2.1
    by_cases hlt : j < m
    · obtain ⟨y, rfl, hcz⟩ := (readsI_below HZ.out hI.out.2.2.1) j (by rw [HN.out]; exact hlt)
      have hst := fun e h1 h2 he => at_step f e zs j (by rw [HN.out]; exact hlt) h1 h2 he
      have hno := at_none f zs j (by rw [HN.out]; exact hlt)
      rw [hD.out] at hst hno
      generalize zs[j]'(by rw [HN.out]; exact hlt) = z at hcz hst hno
      have hal := f.args.length_le_count
      have hal2 := hI.out.2.2.2.2.1
      have hlen : f.args.length ≤ 1048576 := by omega
      clear hal
      by_cases hin : 0 ≤ z ∧ z < (f.args.length : Int)
      · obtain ⟨e, he⟩ := f.args.pick_some z.toNat (by omega)
        have HST := Lib.hid (hst e hin.1 hin.2 he).symm
        obtain ⟨y2, q2, cq, hy2, h1, h2, h3, h4, hl5, hx5⟩ := hI.out.2.2.2.1.pick0 he
        subst hy2
        have hcnt : e.args.count ≤ 1048576 := by have := Trees.pick_count he; omega
        obtain ⟨zn, rfl⟩ : ∃ zn : Nat, z = zn := ⟨z.toNat, by omega⟩
        rw [Int.toNat_natCast] at h1 h2 h3 h4
        have hzl : zn < f.args.length := by omega
        have hb1 := hI.out.2.2.1
        have k1 := cell_below h1 hb1
        have k2 := cell_below h2 hb1
        have k3 := cell_below h3 hb1
        have k4 := cell_below h4 hb1
        have HX5 := Lib.hid hx5
        have HL5 := Lib.hid hl5
        have HCN := Lib.hid hcnt
        have hcp := hI.out.2.2.2.2.2
        clear hst hno hin he h1 h2 h3 h4 hx5 hl5 hcnt hb1 hal2
        clear x0 x1 x2 x3 f0 f1 f2 f3
        go_wp2
        go_roundw
        case rel =>
          refine ⟨j + 1, e, q2, cq, by go_num, by omega, HST, (four_set (four_set (four_set (four_set hI.out.1 _).1 _).2.1 _).2.2.1 _).2.2.2, ?_, (((hI.out.2.2.1.setCell (Nat.le_refl _) _).setCell (Nat.le_refl _) _).setCell (Nat.le_refl _) _).setCell (Nat.le_refl _) _, HX5.out, HCN.out, HL5.out⟩
          exact (far_box wr w.heap.size (w.heap.size + 1) _ _ _ _ (by omega)).trans hI.out.2.1
        case measure => simp [intOf]; omega
      · have hq := hno hin
        subst hq
        by_cases hz0 : z < 0
        · clear hst hno hin hal2 hD
          go_wp2
          refine bodyPost_ret (results_row_one rfl _ _ (w.heap.size + 1) _ _ _ _ rfl (four_set (four_set (four_set (four_set hI.out.2.1 _).1 _).2.1 _).2.2.1 _).2.2.2 Try.underlying29 rfl (by kernel_rfl)) rfl ?_
          exact AtEnd.zero rfl ((((hI.out.2.2.1.setCell (by show _ ≤ w.heap.size + 1; omega) _).setCell (by show _ ≤ w.heap.size + 1; omega) _).setCell (by show _ ≤ w.heap.size + 1; omega) _).setCell (by show _ ≤ w.heap.size + 1; omega) _)
        · have hz1 : ((f.args.length : Int) ≤ z) := by omega
          clear hst hno hin hal2 hD
          go_wp2
          refine bodyPost_ret (results_row_one rfl _ _ (w.heap.size + 1) _ _ _ _ rfl (four_set (four_set (four_set (four_set hI.out.2.1 _).1 _).2.1 _).2.2.1 _).2.2.2 Try.underlying29 rfl (by kernel_rfl)) rfl ?_
          exact AtEnd.zero rfl ((((hI.out.2.2.1.setCell (by show _ ≤ w.heap.size + 1; omega) _).setCell (by show _ ≤ w.heap.size + 1; omega) _).setCell (by show _ ≤ w.heap.size + 1; omega) _).setCell (by show _ ≤ w.heap.size + 1; omega) _)
    · obtain rfl : j = m := by omega
      have hq := hD.out
      rw [at_end f zs j (by rw [HN.out]; exact Nat.le_refl _)] at hq
      have HQ := Lib.hid hq
      have HC := Lib.hid (impl_copy wr f.k f.n f.t f.args p2 c2 (hI.out.2.2.2.1.below hI.out.2.2.1) hI.out.2.2.2.2.1 hI.out.2.2.2.2.2)
      clear hD hq
      go_wp2_with fail
      refine HC.out.mono ?_
      rintro e w1 ⟨⟨v, bs, rfl, ho, hnd, hfr⟩, hb1⟩
      obtain ⟨p3, c3, rfl, _, _⟩ := ho.reads
      have hr1 := hI.out.2.1.below hb1
      have HR1 := Lib.hid hr1
      have HO := Lib.hid ho
      have HND := Lib.hid hnd
      have HFR := Lib.hid hfr
      have hws := hI.out.2.2.1.size
      have hlt2 : w.heap.size + 1 < wr.heap.size := (Array.getElem?_eq_some_iff.1 hI.out.2.1).1
      have HLT := Lib.hid hlt2
      have HB1 : Hid (Below w.heap.size w w1) := hI.out.2.2.1.trans (hb1.mono hI.out.2.2.1.size)
      clear v0 v1 v2 v3 g0 g1 g2 g3 x0 x1 x2 x3 f0 f1 f2 f3 ho hnd hfr hb1 HC hws hlt2
      obtain ⟨x0, x1, x2, x3, f0, f1, f2, f3⟩ := four_cells hr1
      clear hr1
      go_wp2
      refine bodyPost_ret (results_row_one rfl _ _ (w.heap.size + 1) _ _ _ _ rfl (four_set (four_set (four_set (four_set HR1.out _).1 _).2.1 _).2.2.1 _).2.2.2 Try.underlying29 rfl (by kernel_rfl)) rfl ?_
      rw [← HQ.out]
      refine ⟨⟨_, bs, rfl, HO.out.keep (fun b hb => ?_), HND.out, fun b hb => ?_⟩, (((HB1.out.setCell (by show _ ≤ w.heap.size + 1; omega) _).setCell (by show _ ≤ w.heap.size + 1; omega) _).setCell (by show _ ≤ w.heap.size + 1; omega) _).setCell (by show _ ≤ w.heap.size + 1; omega) _⟩
      · have := HFR.out b hb
        have := HLT.out
        rw [Below.heap_setCell _ _ _ _ (by show b ≠ w.heap.size + 1; omega), Below.heap_setCell _ _ _ _ (by show b ≠ w.heap.size + 1; omega), Below.heap_setCell _ _ _ _ (by show b ≠ w.heap.size + 1; omega), Below.heap_setCell _ _ _ _ (by show b ≠ w.heap.size + 1; omega)]
      · have := HFR.out b hb
        have := HLT.out
        exact ⟨by omega, by simpa [World.setCell] using (HFR.out b hb).2⟩
end Go.Proofs.Ytcalgjggmgnofaa
