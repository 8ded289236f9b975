/- What is proved here: a piece of the proof of YtdifefgigcjgeaaGreatDoorExactParsePat (SPat). Condition: none beyond what each part says. -/
import Derived.Test.YtdifefgigcjgeaaGreatDoorPp10

/- What is proved here: the specification's l6Pat. Condition: it answers as said at the next depth. -/
section
namespace Go.Proofs.YtdifefgigcjgeaaGreatDoor.Sp
open Go.RowKit

theorem quoted_drop {s : ByteArray} {k : Nat} {a z : List UInt8} (h : quoted (s.data.toList.drop k) = some (a, z)) (hk : k ≤ s.size) : s.data.toList.drop (s.size - z.length) = z ∧ s.size - z.length ≤ s.size := by
  have e := (quoted_ok h).1
  have hl : s.data.toList.length = s.size := rfl
  have h1 := congrArg List.length e
  rw [List.length_append, List.length_drop, hl] at h1
  simp only [List.length_cons] at h1
  have e2 : s.data.toList.drop (k + (a.length + 1)) = z := by
    rw [← List.drop_drop, e, ← List.drop_drop, List.drop_left]
    rfl
  rw [show s.size - z.length = k + (a.length + 1) by omega]
  exact ⟨e2, by omega⟩

set_option maxHeartbeats 8000000 in
set_option maxRecDepth 100000 in
theorem spec_pat (b d : Nat) (hd9 : d ≤ 9) (HR : d ≤ 8 → SReadOk b (d + 1)) : SReadOk b d := fun w s k m h hs hk hm => by
  have hlt := h.lt
  obtain ⟨w1, hw1⟩ : ∃ w1, w1 = w.alloc (.cells #[.int .i64 0, .int .i64 0, .string ⟨#[]⟩, .slice none 0 0] 49) := ⟨_, rfl⟩
  have hb1 : PBox w1 w.heap.size 0 0 ⟨#[]⟩ (.slice none 0 0) := by rw [hw1]; exact heap_at_new w _
  have hB1 : Only (Just b) w w1 := by rw [hw1]; exact (Only.refl _ _).more _
  have hS1 : SAt w1 b s k false := by rw [hw1]; exact h.below ((Below.refl _ _).alloc (Nat.le_refl _) _)
  obtain ⟨c0, c1, c2, f1, f2⟩ := hS1.cells
  have HQ : Hid (b < w.heap.size ∧ s.size ≤ 1048576 ∧ k ≤ s.size ∧ m ≤ k ∧ m + 1 ≤ 2097152) := ⟨hlt, hs, hk, hm, by omega⟩
  by_cases hd : d ≤ 8
  rotate_left
  · -- too deep
    have hgt : (8 : Int) < (d : Int) := by omega
    have HN : Hid (NoneP (s.data.toList.drop k) m d) := none_begin (fun h => hd h.2)
    have hS2 := hS1.fail true
    have hb2 : PBox (w1.setCell ⟨b, 2, none⟩ (.bool true)) w.heap.size 0 0 ⟨#[]⟩ (.slice none 0 0) := (Below.heap_setCell _ _ _ _ (by show w.heap.size ≠ b; omega)).trans hb1
    have hB2 : Only (Just b) w (w1.setCell ⟨b, 2, none⟩ (.bool true)) := hB1.trans ⟨rfl, rfl, rfl, by simp [World.setCell], fun c _ hn => Below.heap_setCell _ _ _ _ (by show c ≠ b; exact hn)⟩
    obtain ⟨d0, d1, d2, g1, g2⟩ := hS2.cells
    obtain ⟨x0, x1, x2, x3, i0, i1, i2, i3⟩ := four_cells hb2
    have H2 : Hid (SAt (w1.setCell ⟨b, 2, none⟩ (.bool true)) b s k true ∧ PBox (w1.setCell ⟨b, 2, none⟩ (.bool true)) w.heap.size 0 0 ⟨#[]⟩ (.slice none 0 0) ∧ Only (Just b) w (w1.setCell ⟨b, 2, none⟩ (.bool true))) := ⟨hS2, hb2, hB2⟩
    rw [hw1] at c0 c1 c2 f1 f2 d0 d1 d2 g1 g2 x0 x1 x2 x3 i0 i1 i2 i3 H2
    clear hb1 hB1 hS1 hS2 hb2 hB2 h hw1 hlt hd HR hs hk hm
    go_enter Tryz.func60, Tryz.ntmps60
    go_wp2
    refine bodyPost_ret (results_cell_row rfl _ _ w.heap.size _ _ _ _ rfl (set4_box H2.out.2.1 _ _ _ _) Tryz.underlying49 rfl (by kernel_rfl)) rfl ?_
    exact sp_none rfl H2.out.1 HQ.out.2.2.1 HN.out H2.out.2.2 (Nat.le_refl _) (by have := HQ.out.1; omega)
  have hng : ¬ (8 : Int) < (d : Int) := by omega
  have HRO' : ∀ W k m, SAt W b s k false → k ≤ s.size → m ≤ k → Calls Tryz.prog 60 #[.pointer (some ⟨b, 0, none⟩), .int .i64 ((d : Int) + 1)] W fun e w' => SpAns W b s k m (d + 1) e w' ∧ Only (Just b) W w' := fun W k m h1 h2 h3 => HR hd W s k m h1 hs h2 h3
  have HRO := Lib.hid HRO'
  have HARGS : Hid (∀ W k m, SAt W b s k false → k ≤ s.size → m ≤ k → Calls Tryz.prog 118 #[.pointer (some ⟨b, 0, none⟩), .int .i64 (d : Int)] W fun e w' => SArgs W b s k m d e w' ∧ Only (Just b) W w') := fun W k m h1 h2 h3 => spec_args b d (HR hd) W s k m hd h1 hs h2 h3
  obtain ⟨w2, hw2⟩ : ∃ w2, w2 = w1.setCell ⟨b, 2, none⟩ (.bool false) := ⟨_, rfl⟩
  have hS2 : SAt w2 b s k false := by rw [hw2]; exact hS1.fail false
  have hb2 : PBox w2 w.heap.size 0 0 ⟨#[]⟩ (.slice none 0 0) := by rw [hw2]; exact (Below.heap_setCell _ _ _ _ (by show w.heap.size ≠ b; omega)).trans hb1
  have hB2 : Only (Just b) w w2 := by rw [hw2]; exact hB1.trans ⟨rfl, rfl, rfl, by simp [World.setCell], fun c _ hn => Below.heap_setCell _ _ _ _ (by show c ≠ b; exact hn)⟩
  have hs2 : w.heap.size + 1 ≤ w2.heap.size := by have := (Array.getElem?_eq_some_iff.1 hb2).1; omega
  obtain ⟨d0, d1, d2, g1, g2⟩ := hS2.cells
  have H2 : Hid (PBox w2 w.heap.size 0 0 ⟨#[]⟩ (.slice none 0 0) ∧ Only (Just b) w w2 ∧ w.heap.size ≠ b ∧ w.heap.size + 1 ≤ w2.heap.size) := ⟨hb2, hB2, by omega, hs2⟩
  rw [hw2, hw1] at d0 d1 d2 g1 g2
  rw [hw1] at c0 c1 c2 f1 f2 hw2
  have HW2 := Lib.hid hw2
  have HS2 := Lib.hid hS2
  have HD : Hid (d ≤ 8) := hd
  clear hb1 hB1 hS1 hS2 hb2 hB2 h hw1 hw2 hlt hd HR HRO' hs hk hm hs2
  cases hse : sees s k [34] with
  | true =>
    have HS := Lib.hid (take_yes w2 b s k [34] HS2.out HQ.out.2.1 HQ.out.2.2.1 (by simp) hse)
    have HDR := Lib.hid (sees_true hse HQ.out.2.2.1)
    clear hse HRO HARGS
    go_enter Tryz.func60, Tryz.ntmps60
    go_wp2_with fail
    rw [← HW2.out]
    refine HS.out.mono ?_
    clear HS c0 c1 c2 f1 f2 d0 d1 d2 g1 g2
    rintro e w3 ⟨rfl, hS3, hO3⟩
    have HC := Lib.hid (spec_quote w3 b s (k + 1) hS3 HQ.out.2.1 HDR.out.2)
    have H3 : Hid (PBox w3 w.heap.size 0 0 ⟨#[]⟩ (.slice none 0 0) ∧ Only (Just b) w w3) := ⟨pb_keep H2.out.1 hO3 H2.out.2.2.1, H2.out.2.1.trans hO3⟩
    clear hS3 hO3
    go_wp2_with fail
    refine HC.out.mono ?_
    clear HC
    rintro e w4 ⟨hq, hO4⟩
    have hp4 := pb_keep H3.out.1 hO4 H2.out.2.2.1
    rcases hq with ⟨⟨a, z⟩, hQ, rfl, hS4⟩ | ⟨hQ, t, j, rfl, _, hj, hS4⟩
    · have hz := quoted_drop hQ HDR.out.2
      have HI : Hid (OkP (s.data.toList.drop k) m d (leaf 4 0 (str a)) (s.data.toList.drop (s.size - z.length)) (m + 1)) := by
        unfold Hid
        rw [hz.1, HDR.out.1]
        exact text_step_ok HQ.out.2.2.2.2 HD.out hQ
      have H10 : Hid (PBox w4 w.heap.size 0 0 ⟨#[]⟩ (.slice none 0 0) ∧ Only (Just b) w w4 ∧ SAt w4 b s (s.size - z.length) false ∧ s.size - z.length ≤ s.size) := ⟨hp4, H3.out.2.trans hO4, hS4, hz.2⟩
      obtain ⟨x0, x1, x2, x3, i0, i1, i2, i3⟩ := four_cells hp4
      dsimp only
      generalize str a = ta at *
      clear hz hQ hS4 hO4 hp4
      go_wp2
      refine bodyPost_ret (results_cell_row rfl _ _ w.heap.size _ _ _ _ rfl (set4_box H10.out.1 _ _ _ _) Tryz.underlying49 rfl (by kernel_rfl)) rfl ?_
      exact sp_leaf rfl H10.out.2.2.1 H10.out.2.2.2 HI.out H10.out.2.1 (Nat.le_refl _) (by have := HQ.out.1; omega)
    · have HNO : Hid (NoneP (s.data.toList.drop k) m d) := by unfold Hid; rw [HDR.out.1]; exact text_step_none hQ
      have H10 : Hid (PBox w4 w.heap.size 0 0 ⟨#[]⟩ (.slice none 0 0) ∧ Only (Just b) w w4 ∧ SAt w4 b s j true ∧ j ≤ s.size) := ⟨hp4, H3.out.2.trans hO4, hS4, hj⟩
      obtain ⟨x0, x1, x2, x3, i0, i1, i2, i3⟩ := four_cells hp4
      clear hQ hS4 hO4 hp4 hj
      go_wp2
      refine bodyPost_ret (results_cell_row rfl _ _ w.heap.size _ _ _ _ rfl (set4_box H10.out.1 _ _ _ _) Tryz.underlying49 rfl (by kernel_rfl)) rfl ?_
      exact sp_none rfl H10.out.2.2.1 H10.out.2.2.2 HNO.out H10.out.2.1 (Nat.le_refl _) (by have := HQ.out.1; omega)
  | false =>
    have HS := Lib.hid (take_no w2 b s k [34] HS2.out HQ.out.2.1 HQ.out.2.2.1 (by simp) hse)
    have HN34 : Hid (∀ x, s.data.toList.drop k ≠ 34 :: x) := fun x => sees_false hse x
    clear hse
    cases hse : sees s k [40] with
    | true =>
      have HTK := Lib.hid (fun W hW => take_yes W b s k [40] hW HQ.out.2.1 HQ.out.2.2.1 (by simp) hse)
      have HDR := Lib.hid (sees_true hse HQ.out.2.2.1)
      clear hse
      go_enter Tryz.func60, Tryz.ntmps60
      go_wp2_with fail
      rw [← HW2.out]
      refine HS.out.mono ?_
      clear HS c0 c1 c2 f1 f2 d0 d1 d2 g1 g2
      rintro e w3 ⟨rfl, hS3, hO3⟩
      have HS := Lib.hid (HTK.out w3 hS3)
      have H3 : Hid (PBox w3 w.heap.size 0 0 ⟨#[]⟩ (.slice none 0 0) ∧ Only (Just b) w w3 ∧ w.heap.size + 1 ≤ w3.heap.size) := ⟨pb_keep H2.out.1 hO3 H2.out.2.2.1, H2.out.2.1.trans hO3, by have := hO3.size; have := H2.out; omega⟩
      clear hS3 hO3 HTK
      go_wp2_with fail
      refine HS.out.mono ?_
      clear HS
      rintro e w4 ⟨rfl, hS4, hO4⟩
      have HC := Lib.hid (HRO.out w4 (k + 1) (m + 1) hS4 HDR.out.2 (by have := HQ.out; omega))
      have H4 : Hid (PBox w4 w.heap.size 0 0 ⟨#[]⟩ (.slice none 0 0) ∧ Only (Just b) w w4 ∧ w.heap.size + 1 ≤ w4.heap.size) := ⟨pb_keep H3.out.1 hO4 H2.out.2.2.1, H3.out.2.1.trans hO4, by have := hO4.size; have := H3.out; omega⟩
      clear hS4 hO4
      go_wp2_with fail
      refine HC.out.mono ?_
      clear HC
      rintro e w5 ⟨hAns, hO5⟩
      have H5 : Hid (PBox w5 w.heap.size 0 0 ⟨#[]⟩ (.slice none 0 0) ∧ Only (Just b) w w5 ∧ w.heap.size + 1 ≤ w5.heap.size) := ⟨pb_keep H4.out.1 hO5 H2.out.2.2.1, H4.out.2.1.trans hO5, by have := hO5.size; have := H4.out; omega⟩
      rcases hAns with ⟨p, k5, m5, v, bs, rfl, ho, hnd, hbs, hS5, hk5, hP⟩ | ⟨kk, nn, t, a, l, c, k5, rfl, hS5, hk5, hN⟩
      rotate_left
      · -- the first is none
        obtain ⟨w6, hw6⟩ : ∃ w6, w6 = w5.alloc (.cells #[.int .i64 kk, .int .i64 nn, .string t, .slice a l c] 49) := ⟨_, rfl⟩
        have hB6 : Below w5.heap.size w5 w6 := by rw [hw6]; exact (Below.refl _ _).alloc (Nat.le_refl _) _
        have hn6 : w6.heap[w5.heap.size]? = some (.cells #[.int .i64 kk, .int .i64 nn, .string t, .slice a l c] 49 (0, 0)) := by rw [hw6]; exact heap_at_new w5 _
        have hs6 : w6.heap.size = w5.heap.size + 1 := by rw [hw6]; exact Array.size_push _
        have hS6 := hS5.below hB6
        have H6 : Hid (PBox w6 w.heap.size 0 0 ⟨#[]⟩ (.slice none 0 0) ∧ Only (Just b) w w6 ∧ w6.heap[w5.heap.size]? = some (.cells #[.int .i64 kk, .int .i64 nn, .string t, .slice a l c] 49 (0, 0)) ∧ w.heap.size + 1 ≤ w5.heap.size ∧ w6.heap.size = w5.heap.size + 1 ∧ k5 ≤ s.size) := ⟨(hB6.block _ (Array.getElem?_eq_some_iff.1 H5.out.1).1).trans H5.out.1, H5.out.2.1.trans (Only.of_below hB6), hn6, H5.out.2.2, hs6, hk5⟩
        have HW6 := Lib.hid hw6
        have HS6 := Lib.hid hS6

        have HNO : Hid (NoneP (s.data.toList.drop k) m d) := by unfold Hid; rw [HDR.out.1]; exact or_none1 hN

        obtain ⟨w6b, hww6b⟩ : ∃ w6b, w6b = w6.setCell ⟨b, 2, none⟩ (.bool true) := ⟨_, rfl⟩
        have hSw6b : SAt w6b b s k5 true := by rw [hww6b]; exact SAt.fail hS6 true
        have hOw6b : Only (Just b) w6 w6b := by rw [hww6b]; exact only_set _ _ _ _
        obtain ⟨c0, c1, c2, f1, f2⟩ := SAt.cells hS6
        obtain ⟨d0, d1, d2, g1, g2⟩ := SAt.cells hSw6b
        rw [hww6b] at d0 d1 d2 g1 g2
        rw [hw6] at c0 c1 c2 f1 f2 d0 d1 d2 g1 g2 hww6b
        have HWB := Lib.hid hww6b

        have HC := Lib.hid (spec_pat_bad b ((d : Int) + 1) w6b s k5 hSw6b)
        have HO6b := Lib.hid hOw6b
        clear hB6 hn6 hs6 hS6 hw6 hS5 hk5 hN hO5 H5 hww6b hSw6b hOw6b HRO
        go_wp2_with fail
        rw [← HWB.out]
        refine HC.out.mono ?_
        clear HC c0 c1 c2 f1 f2 d0 d1 d2 g1 g2
        rintro e w7 ⟨⟨rfl, hS7⟩, hO7'⟩
        have hO7 := HO6b.out.trans hO7'

        have hsz7 := Only.size hO7
        have H7 : Hid (PBox w7 w.heap.size 0 0 ⟨#[]⟩ (.slice none 0 0) ∧ Only (Just b) w w7 ∧ (w7.heap[w5.heap.size]? = some (.cells #[.int .i64 kk, .int .i64 nn, .string t, .slice a l c] 49 (0, 0)) ∧ w5.heap.size ≠ b) ∧ w5.heap.size + 1 ≤ w7.heap.size) := ⟨pb_keep H6.out.1 hO7 H2.out.2.2.1, H6.out.2.1.trans hO7, ⟨pb_keep H6.out.2.2.1 hO7 (by have := HQ.out.1; have := H6.out.2.2.2.1; omega), by have := HQ.out.1; have := H6.out.2.2.2.1; omega⟩, by have := H6.out.2.2.2.2.1; omega⟩

        have HS7 := Lib.hid hS7
        have HK := Lib.hid H6.out.2.2.2.2.2
        clear hO7 hO7' hS7 hsz7

        obtain ⟨w8, hw8⟩ : ∃ w8, w8 = w7.alloc (.cells #[.int .i64 0, .int .i64 0, .string ⟨#[]⟩, .slice none 0 0] 49) := ⟨_, rfl⟩
        have hB8 : Below w7.heap.size w7 w8 := by rw [hw8]; exact (Below.refl _ _).alloc (Nat.le_refl _) _
        have hn8 : w8.heap[w7.heap.size]? = some (.cells #[.int .i64 0, .int .i64 0, .string ⟨#[]⟩, .slice none 0 0] 49 (0, 0)) := by rw [hw8]; exact heap_at_new w7 _
        have hs8 : w8.heap.size = w7.heap.size + 1 := by rw [hw8]; exact Array.size_push _
        have hS8 := SAt.below HS7.out hB8
        obtain ⟨w9, hw9⟩ : ∃ w9, w9 = w8.setCell ⟨b, 2, none⟩ (.bool true) := ⟨_, rfl⟩
        have k9 : ∀ c, c ≠ b → w9.heap[c]? = w8.heap[c]? := fun c hc => by rw [hw9]; exact Below.heap_setCell _ _ _ _ (by show c ≠ b; exact hc)
        have hs9 : w9.heap.size = w8.heap.size := by rw [hw9]; simp [World.setCell]
        have hS9 : SAt w9 b s k5 true := by rw [hw9]; exact hS8.fail _
        have hsw := Only.size H7.out.2.1
        have hlb := HQ.out.1
        have hA9 : w9.heap[w5.heap.size]? = some (.cells #[.int .i64 kk, .int .i64 nn, .string t, .slice a l c] 49 (0, 0)) := (k9 _ (by have := H7.out.2.2.1.2; omega)).trans ((hB8.block _ (Array.getElem?_eq_some_iff.1 H7.out.2.2.1.1).1).trans H7.out.2.2.1.1)
        have hB9 : w9.heap[w7.heap.size]? = some (.cells #[.int .i64 0, .int .i64 0, .string ⟨#[]⟩, .slice none 0 0] 49 (0, 0)) := (k9 _ (by omega)).trans hn8
        have hP9 : PBox w9 w.heap.size 0 0 ⟨#[]⟩ (.slice none 0 0) := (k9 _ (by omega)).trans ((hB8.block _ (Array.getElem?_eq_some_iff.1 H7.out.1).1).trans H7.out.1)
        have hO9 : Only (Just b) w w9 := (Only.trans H7.out.2.1 (Only.of_below (F := Just b) hB8)).trans ⟨by rw [hw9]; rfl, by rw [hw9]; rfl, by rw [hw9]; rfl, by omega, fun c _ hn => k9 c hn⟩
        obtain ⟨w10, hw10⟩ : ∃ w10, w10 = w9.alloc (.cells #[.int .i64 kk, .int .i64 nn, .string t, .slice a l c, .int .i64 0, .int .i64 0, .string ⟨#[]⟩, .slice none 0 0] 49) := ⟨_, rfl⟩
        have hB10 : Below w9.heap.size w9 w10 := by rw [hw10]; exact (Below.refl _ _).alloc (Nat.le_refl _) _
        have hn10 : w10.heap[w9.heap.size]? = some (.cells #[.int .i64 kk, .int .i64 nn, .string t, .slice a l c, .int .i64 0, .int .i64 0, .string ⟨#[]⟩, .slice none 0 0] 49 (0, 0)) := by rw [hw10]; exact heap_at_new w9 _
        have hs10 : w10.heap.size = w9.heap.size + 1 := by rw [hw10]; exact Array.size_push _
        have hP10 : PBox w10 w.heap.size 0 0 ⟨#[]⟩ (.slice none 0 0) := (hB10.block _ (Array.getElem?_eq_some_iff.1 hP9).1).trans hP9
        have hS10 := hS9.below hB10
        have hO10 : Only (Just b) w w10 := hO9.trans (Only.of_below hB10)
        obtain ⟨c0, c1, c2, f1, f2⟩ := hS8.cells
        obtain ⟨x0, x1, x2, x3, _, _, _, _⟩ := four_cells hA9
        obtain ⟨y0, y1, y2, y3, _, _, _, _⟩ := four_cells hB9
        obtain ⟨i0, i1, i2, i3, j0, j1, j2, j3⟩ := four_cells hP10
        have H10 : Hid (PBox w10 w.heap.size 0 0 ⟨#[]⟩ (.slice none 0 0) ∧ SAt w10 b s k5 true ∧ Only (Just b) w w10) := ⟨hP10, hS10, hO10⟩

        clear hB8 hn8 hs8 hS8 k9 hs9 hS9 hsw hA9 hB9 hP9 hO9 hB10 hn10 hs10 hP10 hS10 hO10
        subst hw10 hw9 hw8
        go_wp2
        refine bodyPost_ret (results_cell_row rfl _ _ w.heap.size _ _ _ _ rfl (set4_box H10.out.1 _ _ _ _) Tryz.underlying49 rfl (by kernel_rfl)) rfl ?_
        exact sp_none rfl H10.out.2.1 HK.out HNO.out H10.out.2.2 (Nat.le_refl _) (by have := HQ.out.1; omega)
      · obtain ⟨p2, cap2, rfl, _, _⟩ := ho.reads
        obtain ⟨w6, hw6⟩ : ∃ w6, w6 = w5.alloc (.cells #[.int .i64 p.k, .int .i64 p.n, .string p.t, .slice p2 p.F.length cap2] 49) := ⟨_, rfl⟩
        have hB6 : Below w5.heap.size w5 w6 := by rw [hw6]; exact (Below.refl _ _).alloc (Nat.le_refl _) _
        have hn6 : w6.heap[w5.heap.size]? = some (.cells #[.int .i64 p.k, .int .i64 p.n, .string p.t, .slice p2 p.F.length cap2] 49 (0, 0)) := by rw [hw6]; exact heap_at_new w5 _
        have hs6 : w6.heap.size = w5.heap.size + 1 := by rw [hw6]; exact Array.size_push _
        have hS6 := hS5.below hB6
        have H6 : Hid (PBox w6 w.heap.size 0 0 ⟨#[]⟩ (.slice none 0 0) ∧ Only (Just b) w w6 ∧ w6.heap[w5.heap.size]? = some (.cells #[.int .i64 p.k, .int .i64 p.n, .string p.t, .slice p2 p.F.length cap2] 49 (0, 0)) ∧ w.heap.size + 1 ≤ w5.heap.size ∧ w6.heap.size = w5.heap.size + 1 ∧ k5 ≤ s.size) := ⟨(hB6.block _ (Array.getElem?_eq_some_iff.1 H5.out.1).1).trans H5.out.1, H5.out.2.1.trans (Only.of_below hB6), hn6, H5.out.2.2, hs6, hk5⟩
        have HW6 := Lib.hid hw6
        have HS6 := Lib.hid hS6

        have hs45 := hO5.size
        have HOA : Hid (Pt.OwnV w6 (.slice p2 p.F.length cap2) p.F bs ∧ bs.Nodup ∧ (∀ c ∈ bs, w.heap.size + 1 ≤ c ∧ c < w5.heap.size)) := ⟨ho.keep (fun c hc => hB6.block c (hbs c hc).2), hnd, fun c hc => by have := hbs c hc; have := H4.out; omega⟩
        have HPA : Hid (OkP (s.data.toList.drop (k + 1)) (m + 1) (d + 1) p (s.data.toList.drop k5) m5) := hP
        have HM5 : Hid (m5 ≤ k5) := okp_le hP (by have := HQ.out; omega) HDR.out.2 hk5
        obtain ⟨c0, c1, c2, f1, f2⟩ := hS6.cells
        rw [hw6] at c0 c1 c2 f1 f2
        clear hB6 hn6 hs6 hS6 hw6 hS5 hk5 hP ho hnd hbs hO5 H5 hs45
        cases hse : sees s k5 [32, 124, 32] with
        | false =>
          have HTK := Lib.hid (take_no w6 b s k5 [32, 124, 32] HS6.out HQ.out.2.1 H6.out.2.2.2.2.2 (by simp) hse)
          have HNO : Hid (NoneP (s.data.toList.drop k) m d) := by unfold Hid; rw [HDR.out.1]; exact or_none2 HPA.out (fun r => sees_false hse r)
          clear hse HPA HM5 HOA HRO
          go_wp2_with fail
          rw [← HW6.out]
          refine HTK.out.mono ?_
          clear HTK c0 c1 c2 f1 f2
          rintro e w6a ⟨rfl, hS6a, hO6a⟩
          obtain ⟨w6b, hww6b⟩ : ∃ w6b, w6b = w6a.setCell ⟨b, 2, none⟩ (.bool true) := ⟨_, rfl⟩
          have hSw6b : SAt w6b b s k5 true := by rw [hww6b]; exact SAt.fail hS6a true
          have hOw6b : Only (Just b) w6a w6b := by rw [hww6b]; exact only_set _ _ _ _
          obtain ⟨c0, c1, c2, f1, f2⟩ := SAt.cells hS6a
          obtain ⟨d0, d1, d2, g1, g2⟩ := SAt.cells hSw6b
          rw [hww6b] at d0 d1 d2 g1 g2

          have HWB := Lib.hid hww6b

          have HC := Lib.hid (spec_pat_bad b ((d : Int) + 1) w6b s k5 hSw6b)
          have HO6b : Hid (Only (Just b) w6 w6b) := hO6a.trans hOw6b
          clear hS6a hO6a hww6b hSw6b hOw6b
          go_wp2_with fail
          rw [← HWB.out]
          refine HC.out.mono ?_
          clear HC c0 c1 c2 f1 f2 d0 d1 d2 g1 g2
          rintro e w7 ⟨⟨rfl, hS7⟩, hO7'⟩
          have hO7 := HO6b.out.trans hO7'
          have hsz7 := Only.size hO7
          have H7 : Hid (PBox w7 w.heap.size 0 0 ⟨#[]⟩ (.slice none 0 0) ∧ Only (Just b) w w7 ∧ (w7.heap[w5.heap.size]? = some (.cells #[.int .i64 p.k, .int .i64 p.n, .string p.t, .slice p2 p.F.length cap2] 49 (0, 0)) ∧ w5.heap.size ≠ b) ∧ w5.heap.size + 1 ≤ w7.heap.size) := ⟨pb_keep H6.out.1 hO7 H2.out.2.2.1, H6.out.2.1.trans hO7, ⟨pb_keep H6.out.2.2.1 hO7 (by have := HQ.out.1; have := H6.out.2.2.2.1; omega), by have := HQ.out.1; have := H6.out.2.2.2.1; omega⟩, by have := H6.out.2.2.2.2.1; omega⟩

          have HS7 := Lib.hid hS7
          have HK := Lib.hid H6.out.2.2.2.2.2
          clear hO7 hO7' hS7 hsz7
          obtain ⟨w8, hw8⟩ : ∃ w8, w8 = w7.alloc (.cells #[.int .i64 0, .int .i64 0, .string ⟨#[]⟩, .slice none 0 0] 49) := ⟨_, rfl⟩
          have hB8 : Below w7.heap.size w7 w8 := by rw [hw8]; exact (Below.refl _ _).alloc (Nat.le_refl _) _
          have hn8 : w8.heap[w7.heap.size]? = some (.cells #[.int .i64 0, .int .i64 0, .string ⟨#[]⟩, .slice none 0 0] 49 (0, 0)) := by rw [hw8]; exact heap_at_new w7 _
          have hs8 : w8.heap.size = w7.heap.size + 1 := by rw [hw8]; exact Array.size_push _
          have hS8 := SAt.below HS7.out hB8
          obtain ⟨w9, hw9⟩ : ∃ w9, w9 = w8.setCell ⟨b, 2, none⟩ (.bool true) := ⟨_, rfl⟩
          have k9 : ∀ c, c ≠ b → w9.heap[c]? = w8.heap[c]? := fun c hc => by rw [hw9]; exact Below.heap_setCell _ _ _ _ (by show c ≠ b; exact hc)
          have hs9 : w9.heap.size = w8.heap.size := by rw [hw9]; simp [World.setCell]
          have hS9 : SAt w9 b s k5 true := by rw [hw9]; exact hS8.fail _
          have hsw := Only.size H7.out.2.1
          have hlb := HQ.out.1
          have hA9 : w9.heap[w5.heap.size]? = some (.cells #[.int .i64 p.k, .int .i64 p.n, .string p.t, .slice p2 p.F.length cap2] 49 (0, 0)) := (k9 _ (by have := H7.out.2.2.1.2; omega)).trans ((hB8.block _ (Array.getElem?_eq_some_iff.1 H7.out.2.2.1.1).1).trans H7.out.2.2.1.1)
          have hB9 : w9.heap[w7.heap.size]? = some (.cells #[.int .i64 0, .int .i64 0, .string ⟨#[]⟩, .slice none 0 0] 49 (0, 0)) := (k9 _ (by omega)).trans hn8
          have hP9 : PBox w9 w.heap.size 0 0 ⟨#[]⟩ (.slice none 0 0) := (k9 _ (by omega)).trans ((hB8.block _ (Array.getElem?_eq_some_iff.1 H7.out.1).1).trans H7.out.1)
          have hO9 : Only (Just b) w w9 := (Only.trans H7.out.2.1 (Only.of_below (F := Just b) hB8)).trans ⟨by rw [hw9]; rfl, by rw [hw9]; rfl, by rw [hw9]; rfl, by omega, fun c _ hn => k9 c hn⟩
          obtain ⟨w10, hw10⟩ : ∃ w10, w10 = w9.alloc (.cells #[.int .i64 p.k, .int .i64 p.n, .string p.t, .slice p2 p.F.length cap2, .int .i64 0, .int .i64 0, .string ⟨#[]⟩, .slice none 0 0] 49) := ⟨_, rfl⟩
          have hB10 : Below w9.heap.size w9 w10 := by rw [hw10]; exact (Below.refl _ _).alloc (Nat.le_refl _) _
          have hn10 : w10.heap[w9.heap.size]? = some (.cells #[.int .i64 p.k, .int .i64 p.n, .string p.t, .slice p2 p.F.length cap2, .int .i64 0, .int .i64 0, .string ⟨#[]⟩, .slice none 0 0] 49 (0, 0)) := by rw [hw10]; exact heap_at_new w9 _
          have hs10 : w10.heap.size = w9.heap.size + 1 := by rw [hw10]; exact Array.size_push _
          have hP10 : PBox w10 w.heap.size 0 0 ⟨#[]⟩ (.slice none 0 0) := (hB10.block _ (Array.getElem?_eq_some_iff.1 hP9).1).trans hP9
          have hS10 := hS9.below hB10
          have hO10 : Only (Just b) w w10 := hO9.trans (Only.of_below hB10)
          obtain ⟨c0, c1, c2, f1, f2⟩ := hS8.cells
          obtain ⟨x0, x1, x2, x3, _, _, _, _⟩ := four_cells hA9
          obtain ⟨y0, y1, y2, y3, _, _, _, _⟩ := four_cells hB9
          obtain ⟨i0, i1, i2, i3, j0, j1, j2, j3⟩ := four_cells hP10
          have H10 : Hid (PBox w10 w.heap.size 0 0 ⟨#[]⟩ (.slice none 0 0) ∧ SAt w10 b s k5 true ∧ Only (Just b) w w10) := ⟨hP10, hS10, hO10⟩

          clear hB8 hn8 hs8 hS8 k9 hs9 hS9 hsw hA9 hB9 hP9 hO9 hB10 hn10 hs10 hP10 hS10 hO10
          subst hw10 hw9 hw8
          go_wp2
          refine bodyPost_ret (results_cell_row rfl _ _ w.heap.size _ _ _ _ rfl (set4_box H10.out.1 _ _ _ _) Tryz.underlying49 rfl (by kernel_rfl)) rfl ?_
          exact sp_none rfl H10.out.2.1 HK.out HNO.out H10.out.2.2 (Nat.le_refl _) (by have := HQ.out.1; omega)

        | true =>
          have HTK := Lib.hid (take_yes w6 b s k5 [32, 124, 32] HS6.out HQ.out.2.1 H6.out.2.2.2.2.2 (by simp) hse)
          have HD5 := Lib.hid (sees_true hse H6.out.2.2.2.2.2)
          have HPA2 : Hid (OkP (s.data.toList.drop (k + 1)) (m + 1) (d + 1) p (32 :: 124 :: 32 :: s.data.toList.drop (k5 + 3)) m5) := by have h := HPA.out; rw [HD5.out.1] at h; exact h
          have HM6 : Hid (m5 ≤ k5 + 3) := by have := HM5.out; unfold Hid; omega
          clear hse HPA HM5
          go_wp2_with fail
          rw [← HW6.out]
          refine HTK.out.mono ?_
          clear HTK c0 c1 c2 f1 f2
          rintro e w6a ⟨rfl, hS6a', hO6a⟩
          have hS6a : SAt w6a b s (k5 + 3) false := hS6a'
          obtain ⟨w6b, hww6b⟩ : ∃ w6b, w6b = w6a.setCell ⟨b, 2, none⟩ (.bool false) := ⟨_, rfl⟩
          have hSw6b : SAt w6b b s (k5 + 3) false := by rw [hww6b]; exact SAt.fail hS6a false
          have hOw6b : Only (Just b) w6a w6b := by rw [hww6b]; exact only_set _ _ _ _
          obtain ⟨c0, c1, c2, f1, f2⟩ := SAt.cells hS6a
          obtain ⟨d0, d1, d2, g1, g2⟩ := SAt.cells hSw6b
          rw [hww6b] at d0 d1 d2 g1 g2

          have HWB := Lib.hid hww6b

          have HC := Lib.hid (HRO.out w6b (k5 + 3) m5 hSw6b HD5.out.2 HM6.out)
          have HO10 : Hid (Only (Just b) w6 w6b) := hO6a.trans hOw6b
          clear hS6a hS6a' hO6a hww6b hSw6b hOw6b HRO
          go_wp2_with fail
          rw [← HWB.out]
          refine HC.out.mono ?_
          clear HC c0 c1 c2 f1 f2 d0 d1 d2 g1 g2
          rintro e w7 ⟨hAns, hO7'⟩
          have hO7 := HO10.out.trans hO7'
          have hsz7 := Only.size hO7
          have H7 : Hid (PBox w7 w.heap.size 0 0 ⟨#[]⟩ (.slice none 0 0) ∧ Only (Just b) w w7 ∧ (w7.heap[w5.heap.size]? = some (.cells #[.int .i64 p.k, .int .i64 p.n, .string p.t, .slice p2 p.F.length cap2] 49 (0, 0)) ∧ w5.heap.size ≠ b) ∧ w5.heap.size + 1 ≤ w7.heap.size) := ⟨pb_keep H6.out.1 hO7 H2.out.2.2.1, H6.out.2.1.trans hO7, ⟨pb_keep H6.out.2.2.1 hO7 (by have := HQ.out.1; have := H6.out.2.2.2.1; omega), by have := HQ.out.1; have := H6.out.2.2.2.1; omega⟩, by have := H6.out.2.2.2.2.1; omega⟩

          have h107 := hO7'.size
          have hs610 := HO10.out.size
          rcases hAns with ⟨q, k7, m7, v7, bs7, rfl, ho7, hnd7, hbs7, hS7, hk7, hQ⟩ | ⟨kk, nn, t, a, l, c, k7, rfl, hS7, hk7, hN⟩
          rotate_left
          · have HS7 := Lib.hid hS7
            have HK : Hid (k7 ≤ s.size) := hk7
            have HNO : Hid (NoneP (s.data.toList.drop k) m d) := by unfold Hid; rw [HDR.out.1]; exact or_none3 HPA2.out hN
            clear hS7 hk7 hN hO7 hO7' hsz7 h107 hs610
            obtain ⟨w8, hw8⟩ : ∃ w8, w8 = w7.alloc (.cells #[.int .i64 kk, .int .i64 nn, .string t, .slice a l c] 49) := ⟨_, rfl⟩
            have hB8 : Below w7.heap.size w7 w8 := by rw [hw8]; exact (Below.refl _ _).alloc (Nat.le_refl _) _
            have hn8 : w8.heap[w7.heap.size]? = some (.cells #[.int .i64 kk, .int .i64 nn, .string t, .slice a l c] 49 (0, 0)) := by rw [hw8]; exact heap_at_new w7 _
            have hs8 : w8.heap.size = w7.heap.size + 1 := by rw [hw8]; exact Array.size_push _
            have hS8 := SAt.below HS7.out hB8
            obtain ⟨w9, hw9⟩ : ∃ w9, w9 = w8.setCell ⟨b, 2, none⟩ (.bool true) := ⟨_, rfl⟩
            have k9 : ∀ c, c ≠ b → w9.heap[c]? = w8.heap[c]? := fun c hc => by rw [hw9]; exact Below.heap_setCell _ _ _ _ (by show c ≠ b; exact hc)
            have hs9 : w9.heap.size = w8.heap.size := by rw [hw9]; simp [World.setCell]
            have hS9 : SAt w9 b s k7 true := by rw [hw9]; exact hS8.fail _
            have hsw := Only.size H7.out.2.1
            have hlb := HQ.out.1
            have hA9 : w9.heap[w5.heap.size]? = some (.cells #[.int .i64 p.k, .int .i64 p.n, .string p.t, .slice p2 p.F.length cap2] 49 (0, 0)) := (k9 _ (by have := H7.out.2.2.1.2; omega)).trans ((hB8.block _ (Array.getElem?_eq_some_iff.1 H7.out.2.2.1.1).1).trans H7.out.2.2.1.1)
            have hB9 : w9.heap[w7.heap.size]? = some (.cells #[.int .i64 kk, .int .i64 nn, .string t, .slice a l c] 49 (0, 0)) := (k9 _ (by omega)).trans hn8
            have hP9 : PBox w9 w.heap.size 0 0 ⟨#[]⟩ (.slice none 0 0) := (k9 _ (by omega)).trans ((hB8.block _ (Array.getElem?_eq_some_iff.1 H7.out.1).1).trans H7.out.1)
            have hO9 : Only (Just b) w w9 := (Only.trans H7.out.2.1 (Only.of_below (F := Just b) hB8)).trans ⟨by rw [hw9]; rfl, by rw [hw9]; rfl, by rw [hw9]; rfl, by omega, fun c _ hn => k9 c hn⟩
            obtain ⟨w10, hw10⟩ : ∃ w10, w10 = w9.alloc (.cells #[.int .i64 p.k, .int .i64 p.n, .string p.t, .slice p2 p.F.length cap2, .int .i64 kk, .int .i64 nn, .string t, .slice a l c] 49) := ⟨_, rfl⟩
            have hB10 : Below w9.heap.size w9 w10 := by rw [hw10]; exact (Below.refl _ _).alloc (Nat.le_refl _) _
            have hn10 : w10.heap[w9.heap.size]? = some (.cells #[.int .i64 p.k, .int .i64 p.n, .string p.t, .slice p2 p.F.length cap2, .int .i64 kk, .int .i64 nn, .string t, .slice a l c] 49 (0, 0)) := by rw [hw10]; exact heap_at_new w9 _
            have hs10 : w10.heap.size = w9.heap.size + 1 := by rw [hw10]; exact Array.size_push _
            have hP10 : PBox w10 w.heap.size 0 0 ⟨#[]⟩ (.slice none 0 0) := (hB10.block _ (Array.getElem?_eq_some_iff.1 hP9).1).trans hP9
            have hS10 := hS9.below hB10
            have hO10 : Only (Just b) w w10 := hO9.trans (Only.of_below hB10)
            obtain ⟨c0, c1, c2, f1, f2⟩ := hS8.cells
            obtain ⟨x0, x1, x2, x3, _, _, _, _⟩ := four_cells hA9
            obtain ⟨y0, y1, y2, y3, _, _, _, _⟩ := four_cells hB9
            obtain ⟨i0, i1, i2, i3, j0, j1, j2, j3⟩ := four_cells hP10
            have H10 : Hid (PBox w10 w.heap.size 0 0 ⟨#[]⟩ (.slice none 0 0) ∧ SAt w10 b s k7 true ∧ Only (Just b) w w10) := ⟨hP10, hS10, hO10⟩

            clear hB8 hn8 hs8 hS8 k9 hs9 hS9 hsw hA9 hB9 hP9 hO9 hB10 hn10 hs10 hP10 hS10 hO10
            subst hw10 hw9 hw8
            go_wp2
            refine bodyPost_ret (results_cell_row rfl _ _ w.heap.size _ _ _ _ rfl (set4_box H10.out.1 _ _ _ _) Tryz.underlying49 rfl (by kernel_rfl)) rfl ?_
            exact sp_none rfl H10.out.2.1 HK.out HNO.out H10.out.2.2 (Nat.le_refl _) (by have := HQ.out.1; omega)

          · obtain ⟨p7, cap7, rfl, _, _⟩ := ho7.reads
            have HOA7 : Hid (Pt.OwnV w7 (.slice p2 p.F.length cap2) p.F bs) := HOA.out.1.keep (fun c hc => hO7.block c (by have := HOA.out.2.2 c hc; have := H6.out.2.2.2.2.1; omega) (by have := HOA.out.2.2 c hc; have := HQ.out.1; show ¬ c = b; omega))
            have HOB7 : Hid (Pt.OwnV w7 (.slice p7 q.F.length cap7) q.F bs7 ∧ bs7.Nodup ∧ ∀ c ∈ bs7, w6.heap.size ≤ c ∧ c < w7.heap.size) := ⟨ho7, hnd7, fun c hc => by have := hbs7 c hc; omega⟩
            have HOKQ : Hid (OkP (s.data.toList.drop (k5 + 3)) m5 (d + 1) q (s.data.toList.drop k7) m7) := hQ
            have HK7 : Hid (k7 ≤ s.size) := hk7
            obtain ⟨w8b, hw8b⟩ : ∃ w8b, w8b = w7.alloc (.cells #[.int .i64 q.k, .int .i64 q.n, .string q.t, .slice p7 q.F.length cap7] 49) := ⟨_, rfl⟩
            have hB8b : Below w7.heap.size w7 w8b := by rw [hw8b]; exact (Below.refl _ _).alloc (Nat.le_refl _) _
            have hn8b : w8b.heap[w7.heap.size]? = some (.cells #[.int .i64 q.k, .int .i64 q.n, .string q.t, .slice p7 q.F.length cap7] 49 (0, 0)) := by rw [hw8b]; exact heap_at_new w7 _
            have hs8b : w8b.heap.size = w7.heap.size + 1 := by rw [hw8b]; exact Array.size_push _
            have hS8b := hS7.below hB8b
            obtain ⟨c0, c1, c2, f1, f2⟩ := hS8b.cells
            have HS8 := Lib.hid hS8b
            have H8 : Hid (PBox w8b w.heap.size 0 0 ⟨#[]⟩ (.slice none 0 0) ∧ Only (Just b) w w8b ∧ w8b.heap[w5.heap.size]? = some (.cells #[.int .i64 p.k, .int .i64 p.n, .string p.t, .slice p2 p.F.length cap2] 49 (0, 0)) ∧ w8b.heap[w7.heap.size]? = some (.cells #[.int .i64 q.k, .int .i64 q.n, .string q.t, .slice p7 q.F.length cap7] 49 (0, 0)) ∧ w8b.heap.size = w7.heap.size + 1 ∧ Pt.OwnV w8b (.slice p2 p.F.length cap2) p.F bs ∧ Pt.OwnV w8b (.slice p7 q.F.length cap7) q.F bs7) :=
              ⟨(hB8b.block _ (Array.getElem?_eq_some_iff.1 H7.out.1).1).trans H7.out.1, H7.out.2.1.trans (Only.of_below hB8b), (hB8b.block _ (Array.getElem?_eq_some_iff.1 H7.out.2.2.1.1).1).trans H7.out.2.2.1.1, hn8b, hs8b, HOA7.out.keep (fun c hc => hB8b.block c (by have := HOA.out.2.2 c hc; have := H7.out.2.2.2; omega)), ho7.keep (fun c hc => hB8b.block c (hbs7 c hc).2)⟩
            have HW8 := Lib.hid hw8b
            rw [hw8b] at c0 c1 c2 f1 f2
            clear hB8b hn8b hs8b hS8b hw8b ho7 hnd7 hbs7 hS7 hk7 hQ hO7 hO7' hsz7 h107 hs610 HOA7
            cases hse : sees s k7 [41] with
            | false =>
              have HTK := Lib.hid (take_no w8b b s k7 [41] HS8.out HQ.out.2.1 HK7.out (by simp) hse)
              have HNO : Hid (NoneP (s.data.toList.drop k) m d) := by unfold Hid; rw [HDR.out.1]; exact or_none4 HPA2.out HOKQ.out (fun x => sees_false hse x)
              clear hse
              go_wp2_with fail
              rw [← HW8.out]
              refine HTK.out.mono ?_
              clear HTK c0 c1 c2 f1 f2
              rintro e w9 ⟨rfl, hS9, hO9⟩
              have hlb := HQ.out.1
              have hsz9 := hO9.size
              have k9 : ∀ c, c < w8b.heap.size → c ≠ b → w9.heap[c]? = w8b.heap[c]? := fun c hc hn => hO9.block c hc hn
              obtain ⟨w9b, hw9b⟩ : ∃ w9b, w9b = w9.setCell ⟨b, 2, none⟩ (.bool true) := ⟨_, rfl⟩
              have k9b : ∀ c, c ≠ b → w9b.heap[c]? = w9.heap[c]? := fun c hc => by rw [hw9b]; exact Below.heap_setCell _ _ _ _ (by show c ≠ b; exact hc)
              have hs9b : w9b.heap.size = w9.heap.size := by rw [hw9b]; simp [World.setCell]
              have hS9b : SAt w9b b s (k7) true := by rw [hw9b]; exact hS9.fail _
              obtain ⟨b1, b2, b3, b4, b5, b6, b7⟩ := H8.out
              have b8 := H7.out.2.2.2
              have b9 := H6.out.2.2.2.1
              have hA9 := (k9b w5.heap.size (by omega)).trans ((k9 _ (by omega) (by omega)).trans b3)
              have hB9 := (k9b w7.heap.size (by omega)).trans ((k9 _ (by omega) (by omega)).trans b4)
              have hP9 : PBox w9b w.heap.size 0 0 ⟨#[]⟩ (.slice none 0 0) := (k9b _ (by omega)).trans ((k9 _ (by omega) (by omega)).trans b1)
              have hO9b : Only (Just b) w w9b := (b2.trans hO9).trans ⟨by rw [hw9b]; rfl, by rw [hw9b]; rfl, by rw [hw9b]; rfl, by omega, fun c _ hn => k9b c hn⟩
              have oA : Pt.OwnV w9b (.slice p2 p.F.length cap2) p.F bs := b6.keep (fun c hc => (k9b c (by have := HOA.out.2.2 c hc; omega)).trans (k9 c (by have := HOA.out.2.2 c hc; omega) (by have := HOA.out.2.2 c hc; omega)))
              have oB : Pt.OwnV w9b (.slice p7 q.F.length cap7) q.F bs7 := b7.keep (fun c hc => (k9b c (by have := HOB7.out.2.2 c hc; have := H6.out.2.2.2.2.1; omega)).trans (k9 c (by have := HOB7.out.2.2 c hc; omega) (by have := HOB7.out.2.2 c hc; have := H6.out.2.2.2.2.1; omega)))
              obtain ⟨w10b, hw10b⟩ : ∃ w10b, w10b = w9b.alloc (.cells #[.int .i64 p.k, .int .i64 p.n, .string p.t, .slice p2 p.F.length cap2, .int .i64 q.k, .int .i64 q.n, .string q.t, .slice p7 q.F.length cap7] 49) := ⟨_, rfl⟩
              have hB10 : Below w9b.heap.size w9b w10b := by rw [hw10b]; exact (Below.refl _ _).alloc (Nat.le_refl _) _
              have hn10 : w10b.heap[w9b.heap.size]? = some (.cells #[.int .i64 p.k, .int .i64 p.n, .string p.t, .slice p2 p.F.length cap2, .int .i64 q.k, .int .i64 q.n, .string q.t, .slice p7 q.F.length cap7] 49 (0, 0)) := by rw [hw10b]; exact heap_at_new w9b _
              have hs10 : w10b.heap.size = w9b.heap.size + 1 := by rw [hw10b]; exact Array.size_push _
              have hP10 : PBox w10b w.heap.size 0 0 ⟨#[]⟩ (.slice none 0 0) := (hB10.block _ (Array.getElem?_eq_some_iff.1 hP9).1).trans hP9
              have hn10' : w10b.heap[w9.heap.size]? = some (.cells #[.int .i64 p.k, .int .i64 p.n, .string p.t, .slice p2 p.F.length cap2, .int .i64 q.k, .int .i64 q.n, .string q.t, .slice p7 q.F.length cap7] 49 (0, 0)) := by rw [← hs9b]; exact hn10
              have lA : ∀ c ∈ bs, w.heap.size + 1 ≤ c ∧ c < w9.heap.size := fun c hc => by have := HOA.out.2.2 c hc; omega
              have lB : ∀ c ∈ bs7, w.heap.size + 1 ≤ c ∧ c < w9.heap.size := fun c hc => by have := HOB7.out.2.2 c hc; have := H6.out.2.2.2.2.1; omega
              have HROW : Hid (Pt.OwnV w10b (.slice (some ⟨w9.heap.size, 0, none⟩) 2 2) (p.one (q.one .nil)) (w9.heap.size :: (bs ++ bs7)) ∧ w10b.heap.size = w9.heap.size + 1 ∧ (∀ c ∈ bs, w.heap.size + 1 ≤ c ∧ c < w9.heap.size) ∧ (∀ c ∈ bs7, w.heap.size + 1 ≤ c ∧ c < w9.heap.size) ∧ w.heap.size + 1 ≤ w9.heap.size) := ⟨own_two hn10' (oA.keep (fun c hc => hB10.block c (by have := (lA c hc).2; omega))) (oB.keep (fun c hc => hB10.block c (by have := (lB c hc).2; omega))), by omega, lA, lB, by omega⟩
              have H10 : Hid (PBox w10b w.heap.size 0 0 ⟨#[]⟩ (.slice none 0 0) ∧ SAt w10b b s (k7) true ∧ Only (Just b) w w10b) := ⟨hP10, hS9b.below hB10, hO9b.trans (Only.of_below hB10)⟩
              obtain ⟨c0, c1, c2, f1, f2⟩ := hS9.cells
              obtain ⟨x0, x1, x2, x3, _, _, _, _⟩ := four_cells hA9
              obtain ⟨y0, y1, y2, y3, _, _, _, _⟩ := four_cells hB9
              obtain ⟨i0, i1, i2, i3, j0, j1, j2, j3⟩ := four_cells hP10
              clear hS9 hO9 hsz9 k9 k9b hs9b hS9b b1 b2 b3 b4 b5 b6 b7 b8 b9 hA9 hB9 hP9 hO9b oA oB hB10 hn10 hn10' hs10 hP10 lA lB
              subst hw10b hw9b
              go_wp2
              refine bodyPost_ret (results_cell_row rfl _ _ w.heap.size _ _ _ _ rfl (set4_box H10.out.1 _ _ _ _) Tryz.underlying49 rfl (by kernel_rfl)) rfl ?_
              exact sp_none rfl H10.out.2.1 HK7.out HNO.out H10.out.2.2 (Nat.le_refl _) (by have := HQ.out.1; omega)
            | true =>
              have HTK := Lib.hid (take_yes w8b b s k7 [41] HS8.out HQ.out.2.1 HK7.out (by simp) hse)
              have HK := Lib.hid (sees_true hse HK7.out)
              have HOK : Hid (OkP (s.data.toList.drop k) m d ⟨6, 0, ⟨#[]⟩, p.one (q.one .nil)⟩ (s.data.toList.drop (k7 + 1)) m7) := by
                have hq2 := HOKQ.out
                rw [HK.out.1] at hq2
                unfold Hid
                rw [HDR.out.1]
                exact or_ok HPA2.out hq2
              clear hse
              go_wp2_with fail
              rw [← HW8.out]
              refine HTK.out.mono ?_
              clear HTK c0 c1 c2 f1 f2
              rintro e w9 ⟨rfl, hS9, hO9⟩
              have HSZ9 := Lib.hid hO9.size
              have hlb := HQ.out.1
              have hsz9 := hO9.size
              have k9 : ∀ c, c < w8b.heap.size → c ≠ b → w9.heap[c]? = w8b.heap[c]? := fun c hc hn => hO9.block c hc hn
              obtain ⟨w9b, hw9b⟩ : ∃ w9b, w9b = w9.setCell ⟨b, 2, none⟩ (.bool false) := ⟨_, rfl⟩
              have k9b : ∀ c, c ≠ b → w9b.heap[c]? = w9.heap[c]? := fun c hc => by rw [hw9b]; exact Below.heap_setCell _ _ _ _ (by show c ≠ b; exact hc)
              have hs9b : w9b.heap.size = w9.heap.size := by rw [hw9b]; simp [World.setCell]
              have hS9b : SAt w9b b s (k7 + 1) false := by rw [hw9b]; exact hS9.fail _
              obtain ⟨b1, b2, b3, b4, b5, b6, b7⟩ := H8.out
              have b8 := H7.out.2.2.2
              have b9 := H6.out.2.2.2.1
              have hA9 := (k9b w5.heap.size (by omega)).trans ((k9 _ (by omega) (by omega)).trans b3)
              have hB9 := (k9b w7.heap.size (by omega)).trans ((k9 _ (by omega) (by omega)).trans b4)
              have hP9 : PBox w9b w.heap.size 0 0 ⟨#[]⟩ (.slice none 0 0) := (k9b _ (by omega)).trans ((k9 _ (by omega) (by omega)).trans b1)
              have hO9b : Only (Just b) w w9b := (b2.trans hO9).trans ⟨by rw [hw9b]; rfl, by rw [hw9b]; rfl, by rw [hw9b]; rfl, by omega, fun c _ hn => k9b c hn⟩
              have oA : Pt.OwnV w9b (.slice p2 p.F.length cap2) p.F bs := b6.keep (fun c hc => (k9b c (by have := HOA.out.2.2 c hc; omega)).trans (k9 c (by have := HOA.out.2.2 c hc; omega) (by have := HOA.out.2.2 c hc; omega)))
              have oB : Pt.OwnV w9b (.slice p7 q.F.length cap7) q.F bs7 := b7.keep (fun c hc => (k9b c (by have := HOB7.out.2.2 c hc; have := H6.out.2.2.2.2.1; omega)).trans (k9 c (by have := HOB7.out.2.2 c hc; omega) (by have := HOB7.out.2.2 c hc; have := H6.out.2.2.2.2.1; omega)))
              obtain ⟨w10b, hw10b⟩ : ∃ w10b, w10b = w9b.alloc (.cells #[.int .i64 p.k, .int .i64 p.n, .string p.t, .slice p2 p.F.length cap2, .int .i64 q.k, .int .i64 q.n, .string q.t, .slice p7 q.F.length cap7] 49) := ⟨_, rfl⟩
              have hB10 : Below w9b.heap.size w9b w10b := by rw [hw10b]; exact (Below.refl _ _).alloc (Nat.le_refl _) _
              have hn10 : w10b.heap[w9b.heap.size]? = some (.cells #[.int .i64 p.k, .int .i64 p.n, .string p.t, .slice p2 p.F.length cap2, .int .i64 q.k, .int .i64 q.n, .string q.t, .slice p7 q.F.length cap7] 49 (0, 0)) := by rw [hw10b]; exact heap_at_new w9b _
              have hs10 : w10b.heap.size = w9b.heap.size + 1 := by rw [hw10b]; exact Array.size_push _
              have hP10 : PBox w10b w.heap.size 0 0 ⟨#[]⟩ (.slice none 0 0) := (hB10.block _ (Array.getElem?_eq_some_iff.1 hP9).1).trans hP9
              have hn10' : w10b.heap[w9.heap.size]? = some (.cells #[.int .i64 p.k, .int .i64 p.n, .string p.t, .slice p2 p.F.length cap2, .int .i64 q.k, .int .i64 q.n, .string q.t, .slice p7 q.F.length cap7] 49 (0, 0)) := by rw [← hs9b]; exact hn10
              have lA : ∀ c ∈ bs, w.heap.size + 1 ≤ c ∧ c < w9.heap.size := fun c hc => by have := HOA.out.2.2 c hc; omega
              have lB : ∀ c ∈ bs7, w.heap.size + 1 ≤ c ∧ c < w9.heap.size := fun c hc => by have := HOB7.out.2.2 c hc; have := H6.out.2.2.2.2.1; omega
              have HROW : Hid (Pt.OwnV w10b (.slice (some ⟨w9.heap.size, 0, none⟩) 2 2) (p.one (q.one .nil)) (w9.heap.size :: (bs ++ bs7)) ∧ w10b.heap.size = w9.heap.size + 1 ∧ (∀ c ∈ bs, w.heap.size + 1 ≤ c ∧ c < w9.heap.size) ∧ (∀ c ∈ bs7, w.heap.size + 1 ≤ c ∧ c < w9.heap.size) ∧ w.heap.size + 1 ≤ w9.heap.size) := ⟨own_two hn10' (oA.keep (fun c hc => hB10.block c (by have := (lA c hc).2; omega))) (oB.keep (fun c hc => hB10.block c (by have := (lB c hc).2; omega))), by omega, lA, lB, by omega⟩
              have H10 : Hid (PBox w10b w.heap.size 0 0 ⟨#[]⟩ (.slice none 0 0) ∧ SAt w10b b s (k7 + 1) false ∧ Only (Just b) w w10b) := ⟨hP10, hS9b.below hB10, hO9b.trans (Only.of_below hB10)⟩
              obtain ⟨c0, c1, c2, f1, f2⟩ := hS9.cells
              obtain ⟨x0, x1, x2, x3, _, _, _, _⟩ := four_cells hA9
              obtain ⟨y0, y1, y2, y3, _, _, _, _⟩ := four_cells hB9
              obtain ⟨i0, i1, i2, i3, j0, j1, j2, j3⟩ := four_cells hP10
              clear hS9 hO9 hsz9 k9 k9b hs9b hS9b b1 b2 b3 b4 b5 b6 b7 b8 b9 hA9 hB9 hP9 hO9b oA oB hB10 hn10 hn10' hs10 hP10 lA lB
              subst hw10b hw9b
              go_wp2
              refine bodyPost_ret (results_cell_row rfl _ _ w.heap.size _ _ _ _ rfl (set4_box H10.out.1 _ _ _ _) Tryz.underlying49 rfl (by kernel_rfl)) rfl ?_
              obtain ⟨q1, q2, q3, q4, q5⟩ := HROW.out
              refine sp_some (p := ⟨6, 0, ⟨#[]⟩, p.one (q.one .nil)⟩) rfl q1 (List.nodup_cons.2 ⟨fun hc => ?_, List.nodup_append.2 ⟨HOA.out.2.1, HOB7.out.2.1, fun x hx y hy e => ?_⟩⟩) (fun c hc => ?_) (fun c hc => ?_) H10.out.2.1 HK.out.2 HOK.out H10.out.2.2 (Nat.le_refl _) (by have := HQ.out.1; omega)
              · rcases List.mem_append.1 hc with hc | hc
                · have := q3 _ hc; omega
                · have := q4 _ hc; omega
              · have := HOA.out.2.2 _ hx; have := HOB7.out.2.2 _ hy; have := H6.out.2.2.2.2.1; omega
              · rcases List.mem_cons.1 hc with rfl | hc
                · exact ⟨by omega, Nat.lt_of_lt_of_eq (Nat.lt_succ_self _) q2.symm⟩
                · rcases List.mem_append.1 hc with hc | hc
                  · have := q3 _ hc; exact ⟨by omega, Nat.lt_of_lt_of_eq (Nat.lt_succ_of_lt this.2) q2.symm⟩
                  · have := q4 _ hc; exact ⟨by omega, Nat.lt_of_lt_of_eq (Nat.lt_succ_of_lt this.2) q2.symm⟩
              · rcases List.mem_cons.1 hc with rfl | hc
                · omega
                · rcases List.mem_append.1 hc with hc | hc
                  · have := q3 _ hc; omega
                  · have := q4 _ hc; omega
    | false =>
      have HTK := Lib.hid (fun W hW => take_no W b s k [40] hW HQ.out.2.1 HQ.out.2.2.1 (by simp) hse)
      have HN40 : Hid (∀ x, s.data.toList.drop k ≠ 40 :: x) := fun x => sees_false hse x
      clear hse
      go_enter Tryz.func60, Tryz.ntmps60
      go_wp2_with fail
      rw [← HW2.out]
      refine HS.out.mono ?_
      clear HS c0 c1 c2 f1 f2 d0 d1 d2 g1 g2
      rintro e w3 ⟨rfl, hS3, hO3⟩
      have HS := Lib.hid (HTK.out w3 hS3)
      have H3 : Hid (PBox w3 w.heap.size 0 0 ⟨#[]⟩ (.slice none 0 0) ∧ Only (Just b) w w3) := ⟨pb_keep H2.out.1 hO3 H2.out.2.2.1, H2.out.2.1.trans hO3⟩
      clear hS3 hO3 HTK
      go_wp2_with fail
      refine HS.out.mono ?_
      clear HS
      rintro e w4 ⟨rfl, hS4, hO4⟩
      have HC := Lib.hid (spec_word_loop w4 b s k hS4 HQ.out.2.1 HQ.out.2.2.1)
      have H4 : Hid (PBox w4 w.heap.size 0 0 ⟨#[]⟩ (.slice none 0 0) ∧ Only (Just b) w w4) := ⟨pb_keep H3.out.1 hO4 H2.out.2.2.1, H3.out.2.trans hO4⟩
      clear hS4 hO4
      go_wp2_with fail
      refine HC.out.mono ?_
      clear HC
      rintro e w5 ⟨⟨j, hj1, hj2, hj3, hj4, rfl, hS5⟩, hO5⟩
      have HA : Hid (AtWord (s.data.toList.drop k) (s.extract k j).data.toList (s.data.toList.drop j)) := by
        obtain ⟨e1, e2⟩ := extract_leadS HQ.out.2.2.1 hj1 hj2 hj3 hj4
        exact ⟨e2, e1.symm, HN34.out, HN40.out⟩
      have hkj : k ≤ j := by unfold begins at hj1; split at hj1 <;> omega
      have H5 : Hid (PBox w5 w.heap.size 0 0 ⟨#[]⟩ (.slice none 0 0) ∧ Only (Just b) w w5 ∧ SAt w5 b s j false ∧ j ≤ s.size ∧ k ≤ j) := ⟨pb_keep H4.out.1 hO5 H2.out.2.2.1, H4.out.2.trans hO5, hS5, hj2, hkj⟩
      have htl : (s.extract k j).size ≤ 1048576 := by have := HQ.out.2.1; rw [ByteArray.size_extract]; omega
      clear hj1 hj2 hj3 hj4 hS5 hO5 H4 H3 HN34 HN40 hkj
      generalize s.extract k j = t at *
      have HP := Lib.hid (spec_ParseInt t htl w5)
      have HNm := Lib.hid (fun W => spec_name t (by unfold maxLen; omega) W)
      have HCn := Lib.hid (fun W => spec_con t (by unfold maxLen; omega) W)
      have hin : ∀ n, (-999999999999 ≤ n ∧ n ≤ 999999999999) ↔ inInt n = true := fun n => by simp [inInt]
      have HBk : Hid (∀ W, Below w5.heap.size w5 W → PBox W w.heap.size 0 0 ⟨#[]⟩ (.slice none 0 0) ∧ Only (Just b) w W ∧ SAt W b s j false) := fun W hb => ⟨(hb.block _ (Array.getElem?_eq_some_iff.1 H5.out.1).1).trans H5.out.1, H5.out.2.1.trans (Only.of_below hb), H5.out.2.2.1.below hb⟩
      have HJ : Hid (j ≤ s.size ∧ k ≤ j ∧ w.heap.size + 1 ≤ w5.heap.size) := ⟨H5.out.2.2.2.1, H5.out.2.2.2.2, (Array.getElem?_eq_some_iff.1 H5.out.1).1⟩
      clear htl H5
      cases hRd : readOf (-999999999999) 999999999999 t.data.toList with
      | some n =>
        rw [hRd] at HP
        obtain ⟨i1, i2, i3⟩ := (readOf_iff (by omega) (by omega)).1 hRd
        have HI := Lib.hid (int_ok (m := m) (d := d) HA.out HQ.out.2.2.2.2 HD.out ((hin n).1 ⟨i1, i2⟩) i3)
        have h95 : (t.toList == [95]) = false := by
          rw [ByteArray.toList_eq]
          cases h : (t.data.toList == [95]) with
          | false => rfl
          | true => exact absurd ((eq_of_beq h).symm.trans i3.symm) (any_no_int n)
        clear hRd i1 i2 i3 hin HNm HCn HRO
        go_wp2_with fail
        refine HP.out.mono ?_
        clear HP
        rintro e w6 ⟨he, hb⟩
        obtain rfl : e = .returned (.tuple #[.int .i64 n, .bool true]) := he
        have H10 := Lib.hid (HBk.out w6 hb)
        obtain ⟨x0, x1, x2, x3, f0, f1, f2, f3⟩ := four_cells H10.out.1
        clear hb HBk
        go_wp2
        refine bodyPost_ret (results_cell_row rfl _ _ w.heap.size _ _ _ _ rfl (set4_box H10.out.1 _ _ _ _) Tryz.underlying49 rfl (by kernel_rfl)) rfl ?_
        exact sp_leaf rfl H10.out.2.2 HJ.out.1 HI.out H10.out.2.1 (Nat.le_refl _) (by have := HQ.out.1; omega)
      | none =>
        rw [hRd] at HP
        have HNI : Hid (∀ n, inInt n = true → Lib.itoa n ≠ t.data.toList) := fun n hn he => by
          have := (readOf_iff (by omega) (by omega)).2 ⟨((hin n).2 hn).1, ((hin n).2 hn).2, he⟩
          rw [hRd] at this
          cases this
        clear hRd hin
        by_cases h95 : t = ⟨#[95]⟩
        · subst h95
          have HI := Lib.hid (any_ok (m := m) (d := d) HA.out HQ.out.2.2.2.2 HD.out)
          clear HNm HCn HRO
          go_wp2_with fail
          refine HP.out.mono ?_
          clear HP
          rintro e w6 ⟨he, hb⟩
          obtain rfl : e = .returned (.tuple #[.int .i64 0, .bool false]) := he
          have H10 := Lib.hid (HBk.out w6 hb)
          obtain ⟨x0, x1, x2, x3, f0, f1, f2, f3⟩ := four_cells H10.out.1
          clear hb HBk
          go_wp2
          refine bodyPost_ret (results_cell_row rfl _ _ w.heap.size _ _ _ _ rfl (set4_box H10.out.1 _ _ _ _) Tryz.underlying49 rfl (by kernel_rfl)) rfl ?_
          exact sp_leaf rfl H10.out.2.2 HJ.out.1 HI.out H10.out.2.1 (Nat.le_refl _) (by have := HQ.out.1; omega)
        have H95 : Hid (t.data.toList ≠ [95]) := fun e => h95 (data_inj (u := ⟨#[95]⟩) e)
        have h95b : (t.toList == [95]) = false := by rw [ByteArray.toList_eq]; simpa using H95.out
        clear h95
        by_cases hW : Word 65 90 t
        · -- a constructor
          rw [bl_true hW] at HCn
          have HWD : Hid (Word 65 90 t) := hW
          clear hW HNm
          go_wp2_with fail
          refine HP.out.mono ?_
          clear HP
          rintro e w6 ⟨he, hb⟩
          obtain rfl : e = .returned (.tuple #[.int .i64 0, .bool false]) := he
          have HB6 := Lib.hid hb
          clear hb
          go_wp2_with fail
          refine (HCn.out w6).mono ?_
          clear HCn
          rintro e w7 ⟨rfl, hb7⟩
          have hb57 := HB6.out.trans (hb7.mono HB6.out.size)
          obtain ⟨e1, e2, e3⟩ := HBk.out w7 hb57
          obtain ⟨w8, hw8⟩ : ∃ w8, w8 = w7.alloc (.cells #[.int .i64 5, .int .i64 0, .string t, .slice none 0 0] 49) := ⟨_, rfl⟩
          have hB8 : Below w7.heap.size w7 w8 := by rw [hw8]; exact (Below.refl _ _).alloc (Nat.le_refl _) _
          have hn8 : w8.heap[w7.heap.size]? = some (.cells #[.int .i64 5, .int .i64 0, .string t, .slice none 0 0] 49 (0, 0)) := by rw [hw8]; exact heap_at_new w7 _
          have hs8 : w8.heap.size = w7.heap.size + 1 := by rw [hw8]; exact Array.size_push _
          have H8 : Hid (PBox w8 w.heap.size 0 0 ⟨#[]⟩ (.slice none 0 0) ∧ Only (Just b) w w8 ∧ SAt w8 b s j false ∧ PBox w8 w7.heap.size 5 0 t (.slice none 0 0) ∧ w8.heap.size = w7.heap.size + 1 ∧ w.heap.size + 1 ≤ w7.heap.size) := ⟨(hB8.block _ (Array.getElem?_eq_some_iff.1 e1).1).trans e1, e2.trans (Only.of_below hB8), e3.below hB8, hn8, hs8, by have := HJ.out; have := hb57.size; omega⟩
          have HW8 := Lib.hid hw8
          clear e1 e2 e3 hB8 hn8 hs8 hw8 hb7 hb57 HBk HB6
          cases hse : sees s j [40] with
          | false =>
            have HTK := Lib.hid (take_no w8 b s j [40] H8.out.2.2.1 HQ.out.2.1 HJ.out.1 (by simp) hse)
            have HI := Lib.hid (con0_ok (m := m) (d := d) HA.out HWD.out HQ.out.2.2.2.2 HD.out (fun x => sees_false hse x))
            clear hse HRO
            go_wp2_with fail
            rw [← HW8.out]
            refine HTK.out.mono ?_
            clear HTK
            rintro e w9 ⟨rfl, hS9, hO9⟩
            have hlb := HQ.out.1
            have hb9 : PBox w9 w7.heap.size 5 0 t (.slice none 0 0) := pb_keep H8.out.2.2.2.1 hO9 (by have := H8.out.2.2.2.2.2; omega)
            have hp9 : PBox w9 w.heap.size 0 0 ⟨#[]⟩ (.slice none 0 0) := pb_keep H8.out.1 hO9 H2.out.2.2.1
            obtain ⟨y0, y1, y2, y3, _, _, _, _⟩ := four_cells hb9
            obtain ⟨x0, x1, x2, x3, f0, f1, f2, f3⟩ := four_cells hp9
            have H10 : Hid (PBox w9 w.heap.size 0 0 ⟨#[]⟩ (.slice none 0 0) ∧ Only (Just b) w w9 ∧ SAt w9 b s j false) := ⟨hp9, H8.out.2.1.trans hO9, hS9⟩
            clear hb9 hp9 hS9 hO9
            go_wp2
            refine bodyPost_ret (results_cell_row rfl _ _ w.heap.size _ _ _ _ rfl (set4_box H10.out.1 _ _ _ _) Tryz.underlying49 rfl (by kernel_rfl)) rfl ?_
            exact sp_leaf rfl H10.out.2.2 HJ.out.1 HI.out H10.out.2.1 (Nat.le_refl _) (by have := HQ.out.1; omega)
          | true =>
            have HTK := Lib.hid (take_yes w8 b s j [40] H8.out.2.2.1 HQ.out.2.1 HJ.out.1 (by simp) hse)
            have HDR := Lib.hid (sees_true hse HJ.out.1)
            have HA2 : Hid (AtWord (s.data.toList.drop k) t.data.toList (40 :: s.data.toList.drop (j + 1))) := by have h := HA.out; rw [HDR.out.1] at h; exact h
            clear hse HRO
            go_wp2_with fail
            rw [← HW8.out]
            refine HTK.out.mono ?_
            clear HTK
            rintro e w9 ⟨rfl, hS9, hO9⟩
            have hlb := HQ.out.1
            have HC := Lib.hid (HARGS.out w9 (j + 1) (m + 1) hS9 HDR.out.2 (by have := HJ.out; have := HQ.out; omega))
            have H9 : Hid (PBox w9 w.heap.size 0 0 ⟨#[]⟩ (.slice none 0 0) ∧ Only (Just b) w w9 ∧ PBox w9 w7.heap.size 5 0 t (.slice none 0 0) ∧ w7.heap.size + 1 ≤ w9.heap.size) := ⟨pb_keep H8.out.1 hO9 H2.out.2.2.1, H8.out.2.1.trans hO9, pb_keep H8.out.2.2.2.1 hO9 (by have := H8.out.2.2.2.2.2; omega), by have := hO9.size; have := H8.out.2.2.2.2.1; omega⟩
            clear hS9 hO9
            go_wp2_with fail
            refine HC.out.mono ?_
            clear HC
            rintro e w10 ⟨hAns, hO10⟩
            have hs9 := hO10.size
            have hb10 : PBox w10 w7.heap.size 5 0 t (.slice none 0 0) := pb_keep H9.out.2.2.1 hO10 (by have := H8.out.2.2.2.2.2; omega)
            have hp10 : PBox w10 w.heap.size 0 0 ⟨#[]⟩ (.slice none 0 0) := pb_keep H9.out.1 hO10 H2.out.2.2.1
            have hO10' := H9.out.2.1.trans hO10
            rcases hAns with ⟨Gt, k11, m11, v, bs, rfl, ho, hnd, hbs, hS11, hk11, hP⟩ | ⟨a, l, c, k11, rfl, hS11, hk11, hN⟩
            · obtain ⟨p11, cap11, rfl, _, _⟩ := ho.reads
              have HP : Hid (OkP (s.data.toList.drop k) m d ⟨5, 0, t, Gt⟩ (s.data.toList.drop k11) m11) := con_ok HA2.out HWD.out hP
              obtain ⟨w11, hw11⟩ : ∃ w11, w11 = w10.setCell ⟨w7.heap.size, 3, none⟩ (.slice p11 Gt.length cap11) := ⟨_, rfl⟩
              have k11' : ∀ c, c ≠ w7.heap.size → w11.heap[c]? = w10.heap[c]? := fun c hc => by rw [hw11]; exact Below.heap_setCell _ _ _ _ (by show c ≠ w7.heap.size; exact hc)
              have hs11 : w11.heap.size = w10.heap.size := by rw [hw11]; simp [World.setCell]
              have hlw := H8.out.2.2.2.2.2
              have hb11 : PBox w11 w7.heap.size 5 0 t (.slice p11 Gt.length cap11) := by rw [hw11]; exact (four_set hb10 _).2.2.2
              have hp11 : PBox w11 w.heap.size 0 0 ⟨#[]⟩ (.slice none 0 0) := (k11' _ (by omega)).trans hp10
              have hS11' : SAt w11 b s k11 false := hS11.at (k11' b (by omega))
              have hO11 : Only (Just b) w w11 := ⟨by rw [hw11]; exact hO10'.os, by rw [hw11]; exact hO10'.tape, by rw [hw11]; exact hO10'.output, by have := hO10'.size; omega, fun c hc hn => (k11' c (by omega)).trans (hO10'.block c hc hn)⟩

              have HOWN : Hid (Pt.OwnV w11 (.slice p11 Gt.length cap11) Gt bs ∧ bs.Nodup ∧ (∀ c ∈ bs, w7.heap.size + 1 ≤ c) ∧ (∀ c ∈ bs, c < w11.heap.size) ∧ k11 ≤ s.size) := ⟨ho.keep (fun c hc => k11' c (by have := hbs c hc; have := H9.out.2.2.2; omega)), hnd, fun c hc => by have := hbs c hc; have := H9.out.2.2.2; omega, fun c hc => by rw [hs11]; exact (hbs c hc).2, hk11⟩

              have H10 : Hid (PBox w11 w.heap.size 0 0 ⟨#[]⟩ (.slice none 0 0) ∧ Only (Just b) w w11 ∧ SAt w11 b s k11 false) := ⟨hp11, hO11, hS11'⟩
              obtain ⟨z0, z1, z2, z3, j0, j1, j2, j3⟩ := four_cells hb10
              obtain ⟨y0, y1, y2, y3, _, _, _, _⟩ := four_cells hb11
              obtain ⟨x0, x1, x2, x3, f0, f1, f2, f3⟩ := four_cells hp11
              clear k11' hs11 hlw hb11 hp11 hS11' hO11 hS11 hk11 hb10 hp10 hO10 hO10' hs9 ho hnd hbs hP
              subst hw11
              go_wp2
              refine bodyPost_ret (results_cell_row rfl _ _ w.heap.size _ _ _ _ rfl (set4_box H10.out.1 _ _ _ _) Tryz.underlying49 rfl (by kernel_rfl)) rfl ?_
              obtain ⟨q1, q2, q3, q4, q5⟩ := HOWN.out
              have hlw := H8.out.2.2.2.2.2
              refine sp_some (p := ⟨5, 0, t, Gt⟩) rfl q1 q2 (fun c hc => ⟨by have := q3 c hc; omega, q4 c hc⟩) (fun c hc => by have := q3 c hc; omega) H10.out.2.2 q5 HP.out H10.out.2.1 (Nat.le_refl _) (by have := HQ.out.1; omega)
            · have HNO : Hid (NoneP (s.data.toList.drop k) m d) := con_none HA2.out HWD.out hN
              obtain ⟨w11, hw11⟩ : ∃ w11, w11 = w10.setCell ⟨w7.heap.size, 3, none⟩ (.slice a l c) := ⟨_, rfl⟩
              have k11' : ∀ c, c ≠ w7.heap.size → w11.heap[c]? = w10.heap[c]? := fun c hc => by rw [hw11]; exact Below.heap_setCell _ _ _ _ (by show c ≠ w7.heap.size; exact hc)
              have hs11 : w11.heap.size = w10.heap.size := by rw [hw11]; simp [World.setCell]
              have hlw := H8.out.2.2.2.2.2
              have hb11 : PBox w11 w7.heap.size 5 0 t (.slice a l c) := by rw [hw11]; exact (four_set hb10 _).2.2.2
              have hp11 : PBox w11 w.heap.size 0 0 ⟨#[]⟩ (.slice none 0 0) := (k11' _ (by omega)).trans hp10
              have hS11' : SAt w11 b s k11 true := hS11.at (k11' b (by omega))
              have hO11 : Only (Just b) w w11 := ⟨by rw [hw11]; exact hO10'.os, by rw [hw11]; exact hO10'.tape, by rw [hw11]; exact hO10'.output, by have := hO10'.size; omega, fun c hc hn => (k11' c (by omega)).trans (hO10'.block c hc hn)⟩

              have HOWN : Hid (k11 ≤ s.size) := hk11

              have H10 : Hid (PBox w11 w.heap.size 0 0 ⟨#[]⟩ (.slice none 0 0) ∧ Only (Just b) w w11 ∧ SAt w11 b s k11 true) := ⟨hp11, hO11, hS11'⟩
              obtain ⟨z0, z1, z2, z3, j0, j1, j2, j3⟩ := four_cells hb10
              obtain ⟨y0, y1, y2, y3, _, _, _, _⟩ := four_cells hb11
              obtain ⟨x0, x1, x2, x3, f0, f1, f2, f3⟩ := four_cells hp11
              clear k11' hs11 hlw hb11 hp11 hS11' hO11 hS11 hk11 hb10 hp10 hO10 hO10' hs9 hN
              subst hw11
              go_wp2
              refine bodyPost_ret (results_cell_row rfl _ _ w.heap.size _ _ _ _ rfl (set4_box H10.out.1 _ _ _ _) Tryz.underlying49 rfl (by kernel_rfl)) rfl ?_
              exact sp_none rfl H10.out.2.2 HOWN.out HNO.out H10.out.2.1 (Nat.le_refl _) (by have := HQ.out.1; omega)
        · -- a name, or none
          rw [bl_false hW] at HCn
          have HNW : Hid (¬ Word 65 90 t) := hW
          clear hW
          go_wp2_with fail
          refine HP.out.mono ?_
          clear HP
          rintro e w6 ⟨he, hb⟩
          obtain rfl : e = .returned (.tuple #[.int .i64 0, .bool false]) := he
          have HB6 := Lib.hid hb
          clear hb
          go_wp2_with fail
          refine (HCn.out w6).mono ?_
          clear HCn
          rintro e w6c ⟨rfl, hb6c⟩
          have HB6c : Hid (Below w5.heap.size w5 w6c) := HB6.out.trans (hb6c.mono HB6.out.size)
          obtain ⟨c0, c1, c2, f1, f2⟩ := (HBk.out w6c HB6c.out).2.2.cells
          clear hb6c HB6
          by_cases hN : Name t
          · rw [bl_true hN] at HNm
            have HNA : Hid (Name t) := hN
            clear hN
            go_wp2_with fail
            refine (HNm.out w6c).mono ?_
            clear HNm c0 c1 c2 f1 f2
            rintro e w7 ⟨rfl, hb7⟩
            obtain ⟨e1, e2, e3⟩ := HBk.out w7 (HB6c.out.trans (hb7.mono HB6c.out.size))
            obtain ⟨w8, hw8⟩ : ∃ w8, w8 = w7.setCell ⟨b, 2, none⟩ (.bool false) := ⟨_, rfl⟩
            have hO8 : Only (Just b) w7 w8 := by rw [hw8]; exact only_set _ _ _ _
            have H8 : Hid (PBox w8 w.heap.size 0 0 ⟨#[]⟩ (.slice none 0 0) ∧ Only (Just b) w w8 ∧ SAt w8 b s j false) := ⟨pb_keep e1 hO8 H2.out.2.2.1, e2.trans hO8, by rw [hw8]; exact e3.fail _⟩
            obtain ⟨c0, c1, c2, f1, f2⟩ := e3.cells
            obtain ⟨d0, d1, d2, g1, g2⟩ := H8.out.2.2.cells
            rw [hw8] at d0 d1 d2 g1 g2
            have HW8 := Lib.hid hw8
            clear hw8 hO8 e1 e2 e3 hb7 HBk HB6c
            cases hse : sees s j [32, 64, 32] with
            | false =>
              have HTK := Lib.hid (take_no w8 b s j [32, 64, 32] H8.out.2.2 HQ.out.2.1 HJ.out.1 (by simp) hse)
              have HI := Lib.hid (var_ok (m := m) (d := d) HA.out HNA.out HQ.out.2.2.2.2 HD.out (fun x => sees_false hse x))
              clear hse HRO
              go_wp2_with fail
              rw [← HW8.out]
              refine HTK.out.mono ?_
              clear HTK c0 c1 c2 f1 f2 d0 d1 d2 g1 g2
              rintro e w9 ⟨rfl, hS9, hO9⟩
              have hp9 : PBox w9 w.heap.size 0 0 ⟨#[]⟩ (.slice none 0 0) := pb_keep H8.out.1 hO9 H2.out.2.2.1
              obtain ⟨x0, x1, x2, x3, i0, i1, i2, i3⟩ := four_cells hp9
              have H10 : Hid (PBox w9 w.heap.size 0 0 ⟨#[]⟩ (.slice none 0 0) ∧ Only (Just b) w w9 ∧ SAt w9 b s j false) := ⟨hp9, H8.out.2.1.trans hO9, hS9⟩
              clear hp9 hS9 hO9
              go_wp2
              refine bodyPost_ret (results_cell_row rfl _ _ w.heap.size _ _ _ _ rfl (set4_box H10.out.1 _ _ _ _) Tryz.underlying49 rfl (by kernel_rfl)) rfl ?_
              exact sp_leaf rfl H10.out.2.2 HJ.out.1 HI.out H10.out.2.1 (Nat.le_refl _) (by have := HQ.out.1; omega)
            | true =>
              have HTK := Lib.hid (take_yes w8 b s j [32, 64, 32] H8.out.2.2 HQ.out.2.1 HJ.out.1 (by simp) hse)
              have HDR := Lib.hid (sees_true hse HJ.out.1)
              have HA2 : Hid (AtWord (s.data.toList.drop k) t.data.toList (32 :: 64 :: 32 :: s.data.toList.drop (j + 3))) := by have h := HA.out; rw [HDR.out.1] at h; exact h
              clear hse
              go_wp2_with fail
              rw [← HW8.out]
              refine HTK.out.mono ?_
              clear HTK c0 c1 c2 f1 f2 d0 d1 d2 g1 g2
              rintro e w3 ⟨rfl, hS3, hO3⟩
              have HC := Lib.hid (HRO.out w3 (j + 3) (m + 1) hS3 HDR.out.2 (by have := HJ.out; have := HQ.out; omega))
              have H3 : Hid (PBox w3 w.heap.size 0 0 ⟨#[]⟩ (.slice none 0 0) ∧ Only (Just b) w w3 ∧ w.heap.size + 1 ≤ w3.heap.size) := ⟨pb_keep H8.out.1 hO3 H2.out.2.2.1, H8.out.2.1.trans hO3, (Array.getElem?_eq_some_iff.1 (pb_keep H8.out.1 hO3 H2.out.2.2.1)).1⟩
              clear hS3 hO3
              go_wp2_with fail
              refine HC.out.mono ?_
              clear HC
              rintro e w4 ⟨hAns, hO4⟩
              have hb4 := pb_keep H3.out.1 hO4 H2.out.2.2.1
              have hlb := HQ.out.1
              rcases hAns with ⟨p, k4, m4, v, bs, rfl, ho, hnd, hbs, hS4, hk4, hP⟩ | ⟨kk, nn, tx, a, l, c, k4, rfl, hS4, hk4, hN⟩
              · obtain ⟨p2, cap2, rfl, _, _⟩ := ho.reads
                obtain ⟨w5, hw5⟩ : ∃ w5, w5 = w4.alloc (.cells #[.int .i64 p.k, .int .i64 p.n, .string p.t, .slice p2 p.F.length cap2] 49) := ⟨_, rfl⟩
                have hB5 : Below w4.heap.size w4 w5 := by rw [hw5]; exact (Below.refl _ _).alloc (Nat.le_refl _) _
                have hn5 : w5.heap[w4.heap.size]? = some (.cells #[.int .i64 p.k, .int .i64 p.n, .string p.t, .slice p2 p.F.length cap2] 49 (0, 0)) := by rw [hw5]; exact heap_at_new w4 _
                have hs5 : w5.heap.size = w4.heap.size + 1 := by rw [hw5]; exact Array.size_push _
                have hP5 := (hB5.block _ (Array.getElem?_eq_some_iff.1 hb4).1).trans hb4
                have hS5 := hS4.below hB5
                have hO5 : Only (Just b) w w5 := (H3.out.2.1.trans hO4).trans (Only.of_below hB5)
                obtain ⟨i0, i1, i2, i3, j0, j1, j2, j3⟩ := four_cells hP5
                have hs4 := hO4.size
                have HP : Hid (OkP (s.data.toList.drop k) m d ⟨7, 0, t, p.one .nil⟩ (s.data.toList.drop k4) m4) := as_ok HA2.out HNA.out hP
                have H10 : Hid (PBox w5 w.heap.size 0 0 ⟨#[]⟩ (.slice none 0 0) ∧ SAt w5 b s k4 false ∧ Only (Just b) w w5 ∧ Pt.OwnV w5 (.slice (some ⟨w4.heap.size, 0, none⟩) 1 1) (p.one .nil) (w4.heap.size :: bs) ∧ bs.Nodup ∧ (∀ c ∈ bs, w.heap.size + 1 ≤ c ∧ c < w4.heap.size) ∧ w5.heap.size = w4.heap.size + 1 ∧ k4 ≤ s.size ∧ w.heap.size + 1 ≤ w4.heap.size) :=
                  ⟨hP5, hS5, hO5, own_one hn5 (ho.keep (fun c hc => hB5.block c (hbs c hc).2)), hnd, fun c hc => by have := hbs c hc; have := H3.out; omega, hs5, hk4, by have := H3.out; omega⟩
                clear hB5 hn5 hs5 hP5 hS5 hO5 ho hnd hbs hS4 hk4 hP hO4 hb4 hs4
                subst hw5
                go_wp2
                refine bodyPost_ret (results_cell_row rfl _ _ w.heap.size _ _ _ _ rfl (set4_box H10.out.1 _ _ _ _) Tryz.underlying49 rfl (by kernel_rfl)) rfl ?_
                obtain ⟨a1, a2, a3, a4, a5, a6, a7, a8, a9⟩ := H10.out
                refine sp_some (p := ⟨7, 0, t, p.one .nil⟩) rfl a4 (List.nodup_cons.2 ⟨fun hc => ?_, a5⟩) (fun c hc => ?_) (fun c hc => ?_) a2 a8 HP.out a3 (Nat.le_refl _) (by omega)
                · have := a6 _ hc; omega
                · rcases List.mem_cons.1 hc with rfl | hc
                  · exact ⟨by omega, Nat.lt_of_lt_of_eq (Nat.lt_succ_self _) a7.symm⟩
                  · have := a6 c hc
                    exact ⟨by omega, Nat.lt_of_lt_of_eq (m := w4.heap.size + 1) (by omega) a7.symm⟩
                · rcases List.mem_cons.1 hc with rfl | hc
                  · omega
                  · have := a6 c hc; omega
              · obtain ⟨w5, hw5⟩ : ∃ w5, w5 = w4.alloc (.cells #[.int .i64 kk, .int .i64 nn, .string tx, .slice a l c] 49) := ⟨_, rfl⟩
                have hB5 : Below w4.heap.size w4 w5 := by rw [hw5]; exact (Below.refl _ _).alloc (Nat.le_refl _) _
                have hP5 := (hB5.block _ (Array.getElem?_eq_some_iff.1 hb4).1).trans hb4
                obtain ⟨i0, i1, i2, i3, j0, j1, j2, j3⟩ := four_cells hP5
                have HN : Hid (NoneP (s.data.toList.drop k) m d) := as_none HA2.out HNA.out hN
                have H10 : Hid (PBox w5 w.heap.size 0 0 ⟨#[]⟩ (.slice none 0 0) ∧ SAt w5 b s k4 true ∧ Only (Just b) w w5 ∧ k4 ≤ s.size) := ⟨hP5, hS4.below hB5, (H3.out.2.1.trans hO4).trans (Only.of_below hB5), hk4⟩
                clear hB5 hP5 hS4 hk4 hN hO4 hb4
                subst hw5
                go_wp2
                refine bodyPost_ret (results_cell_row rfl _ _ w.heap.size _ _ _ _ rfl (set4_box H10.out.1 _ _ _ _) Tryz.underlying49 rfl (by kernel_rfl)) rfl ?_
                exact sp_none rfl H10.out.2.1 H10.out.2.2.2 HN.out H10.out.2.2.1 (Nat.le_refl _) (by omega)
          · rw [bl_false hN] at HNm
            have HNO : Hid (NoneP (s.data.toList.drop k) m d) := word_none HA.out H95.out (by rw [str_data]; exact hN) (by rw [str_data]; exact HNW.out) HNI.out
            clear hN HRO
            go_wp2_with fail
            refine (HNm.out w6c).mono ?_
            clear HNm c0 c1 c2 f1 f2
            rintro e w7 ⟨rfl, hb7⟩
            obtain ⟨e1, e2, e3⟩ := HBk.out w7 (HB6c.out.trans (hb7.mono HB6c.out.size))
            obtain ⟨w8, hw8⟩ : ∃ w8, w8 = w7.setCell ⟨b, 2, none⟩ (.bool true) := ⟨_, rfl⟩
            have hO8 : Only (Just b) w7 w8 := by rw [hw8]; exact only_set _ _ _ _
            have H8 : Hid (PBox w8 w.heap.size 0 0 ⟨#[]⟩ (.slice none 0 0) ∧ Only (Just b) w w8 ∧ SAt w8 b s j true) := ⟨pb_keep e1 hO8 H2.out.2.2.1, e2.trans hO8, by rw [hw8]; exact e3.fail _⟩
            obtain ⟨c0, c1, c2, f1, f2⟩ := e3.cells
            obtain ⟨d0, d1, d2, g1, g2⟩ := H8.out.2.2.cells
            rw [hw8] at d0 d1 d2 g1 g2
            have HW8 := Lib.hid hw8
            clear hw8 hO8 e1 e2 e3 hb7 HBk HB6c
            have HTK := Lib.hid (take_bad w8 b s j [32, 64, 32] H8.out.2.2 HQ.out.2.1 HJ.out.1 (by simp))
            go_wp2_with fail
            rw [← HW8.out]
            refine HTK.out.mono ?_
            clear HTK c0 c1 c2 f1 f2 d0 d1 d2 g1 g2
            rintro e w9 ⟨rfl, hS9, hO9⟩
            have hp9 : PBox w9 w.heap.size 0 0 ⟨#[]⟩ (.slice none 0 0) := pb_keep H8.out.1 hO9 H2.out.2.2.1
            obtain ⟨x0, x1, x2, x3, i0, i1, i2, i3⟩ := four_cells hp9
            have H10 : Hid (PBox w9 w.heap.size 0 0 ⟨#[]⟩ (.slice none 0 0) ∧ Only (Just b) w w9 ∧ SAt w9 b s j true) := ⟨hp9, H8.out.2.1.trans hO9, hS9⟩
            clear hp9 hS9 hO9
            go_wp2
            refine bodyPost_ret (results_cell_row rfl _ _ w.heap.size _ _ _ _ rfl (set4_box H10.out.1 _ _ _ _) Tryz.underlying49 rfl (by kernel_rfl)) rfl ?_
            exact sp_none rfl H10.out.2.2 HJ.out.1 HNO.out H10.out.2.1 (Nat.le_refl _) (by have := HQ.out.1; omega)

theorem spec_read_ok (b : Nat) : SReadOk b 1 := by
  have h9 : SReadOk b 9 := spec_pat b 9 (by omega) (fun h => by omega)
  have h8 := spec_pat b 8 (by omega) (fun _ => h9)
  have h7 := spec_pat b 7 (by omega) (fun _ => h8)
  have h6 := spec_pat b 6 (by omega) (fun _ => h7)
  have h5 := spec_pat b 5 (by omega) (fun _ => h6)
  have h4 := spec_pat b 4 (by omega) (fun _ => h5)
  have h3 := spec_pat b 3 (by omega) (fun _ => h4)
  have h2 := spec_pat b 2 (by omega) (fun _ => h3)
  exact spec_pat b 1 (by omega) (fun _ => h2)
end Go.Proofs.YtdifefgigcjgeaaGreatDoor.Sp
end
