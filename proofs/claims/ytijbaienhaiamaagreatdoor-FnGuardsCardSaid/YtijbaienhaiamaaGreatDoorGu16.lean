/- What is proved here: a piece of the proof of YtijbaienhaiamaaGreatDoorGuards (ExSExpr). Condition: none beyond what each part says. -/
import Derived.Test.YtijbaienhaiamaaGreatDoorGu15
import Derived.Test.YtijbaienhaiamaaGreatDoorGu09
import Derived.Deep.LoopGhost

/- What is proved here: the specification's l7Expr. Condition: it answers as said at the next depth. -/
section
namespace Go.Proofs.YtijbaienhaiamaaGreatDoor.Ex
open Go.RowKit

theorem pb_keep {b g : Nat} {W W' : World} {k n : Int} {t : ByteArray} {v : Value} (h : PBox W g k n t v) (hO : Only (Just b) W W') (hg : g ≠ b) : PBox W' g k n t v := (hO.block g (Array.getElem?_eq_some_iff.1 h).1 (by show ¬ g = b; exact hg)).trans h
/-- The word at a place, as the specification reads it. -/
theorem at_wordS {s : ByteArray} {k j : Nat} (hk : k ≤ s.size) (h1 : begins s k ≤ j) (h2 : j ≤ s.size) (h3 : ∀ i (hi : i < s.size), begins s k ≤ i → i < j → isLD s[i] = true) (h4 : ∀ hj : j < s.size, isLD s[j] = false) (h33 : ∀ x, s.data.toList.drop k ≠ 33 :: x) (h40 : ∀ x, s.data.toList.drop k ≠ 40 :: x) : AtWord (s.data.toList.drop k) (s.extract k j).data.toList (s.data.toList.drop j) := by
  obtain ⟨e1, e2⟩ := extract_leadS hk h1 h2 h3 h4
  refine ⟨e2, fun x y hx hy he => ?_, h33, h40⟩
  rw [e1, he]
  refine leadS_all ?_ hy
  rcases hx with ⟨n, rfl⟩ | ⟨t, hN, rfl⟩
  · exact isW_int n
  · exact isW_word (.inl hN.1)
theorem begins_le {s : ByteArray} {k j : Nat} (h : begins s k ≤ j) : k ≤ j := by unfold begins at h; split at h <;> omega

set_option maxHeartbeats 8000000 in
set_option maxRecDepth 100000 in
theorem spec_expr (b d : Nat) (hd9 : d ≤ 9) (HR : d ≤ 6 → SReadOk b (d + 1)) : SReadOk b d := fun w s k m h hs hk hm => by
  have hlt := h.lt
  obtain ⟨w1, hw1⟩ : ∃ w1, w1 = w.alloc (.cells #[.int .i64 0, .int .i64 0, .string ⟨#[]⟩, .slice none 0 0] 54) := ⟨_, rfl⟩
  have hb1 : PBox w1 w.heap.size 0 0 ⟨#[]⟩ (.slice none 0 0) := by rw [hw1]; exact heap_at_new w _
  have hB1 : Only (Just b) w w1 := by rw [hw1]; exact (Only.refl _ _).more _
  have hS1 : SAt w1 b s k false := by rw [hw1]; exact h.below ((Below.refl _ _).alloc (Nat.le_refl _) _)
  obtain ⟨c0, c1, c2, f1, f2⟩ := hS1.cells
  have HQ : Hid (b < w.heap.size ∧ s.size ≤ 1048576 ∧ k ≤ s.size ∧ m ≤ k ∧ m + 1 ≤ 2097152) := ⟨hlt, hs, hk, hm, by omega⟩
  by_cases hd : d ≤ 6
  rotate_left
  · -- too deep
    have hgt : (6 : Int) < (d : Int) := by omega
    have HN : Hid (NoneP 2097152 (s.data.toList.drop k) m d) := none_begin (fun h => hd h.2)
    have hS2 := hS1.fail true
    have hb2 : PBox (w1.setCell ⟨b, 2, none⟩ (.bool true)) w.heap.size 0 0 ⟨#[]⟩ (.slice none 0 0) := (Below.heap_setCell _ _ _ _ (by show w.heap.size ≠ b; omega)).trans hb1
    have hB2 : Only (Just b) w (w1.setCell ⟨b, 2, none⟩ (.bool true)) := hB1.trans ⟨rfl, rfl, rfl, by simp [World.setCell], fun c _ hn => Below.heap_setCell _ _ _ _ (by show c ≠ b; exact hn)⟩
    obtain ⟨d0, d1, d2, g1, g2⟩ := hS2.cells
    obtain ⟨x0, x1, x2, x3, i0, i1, i2, i3⟩ := four_cells hb2
    have H2 : Hid (SAt (w1.setCell ⟨b, 2, none⟩ (.bool true)) b s k true ∧ PBox (w1.setCell ⟨b, 2, none⟩ (.bool true)) w.heap.size 0 0 ⟨#[]⟩ (.slice none 0 0) ∧ Only (Just b) w (w1.setCell ⟨b, 2, none⟩ (.bool true))) := ⟨hS2, hb2, hB2⟩
    rw [hw1] at c0 c1 c2 f1 f2 d0 d1 d2 g1 g2 x0 x1 x2 x3 i0 i1 i2 i3 H2
    clear hb1 hB1 hS1 hS2 hb2 hB2 h hw1 hlt hd HR hs hk hm
    go_enter Tryz.func94, Tryz.ntmps94
    go_wp2
    refine bodyPost_ret (results_cell_row rfl _ _ w.heap.size _ _ _ _ rfl (set4_box H2.out.2.1 _ _ _ _) Tryz.underlying54 rfl (by kernel_rfl)) rfl ?_
    exact sp_none rfl H2.out.1 HQ.out.2.2.1 HN.out H2.out.2.2 (Nat.le_refl _) (by have := HQ.out.1; omega)
  have hng : ¬ (6 : Int) < (d : Int) := by omega
  have HRO' : ∀ W k m, SAt W b s k false → k ≤ s.size → m ≤ k → Calls Tryz.prog 94 #[.pointer (some ⟨b, 0, none⟩), .int .i64 ((d : Int) + 1)] W fun e w' => SpAns W b s k m (d + 1) e w' ∧ Only (Just b) W w' := fun W k m h1 h2 h3 => HR hd W s k m h1 hs h2 h3
  have HRO := Lib.hid HRO'
  obtain ⟨w2, hw2⟩ : ∃ w2, w2 = w1.setCell ⟨b, 2, none⟩ (.bool false) := ⟨_, rfl⟩
  have hS2 : SAt w2 b s k false := by rw [hw2]; exact hS1.fail false
  have hb2 : PBox w2 w.heap.size 0 0 ⟨#[]⟩ (.slice none 0 0) := by rw [hw2]; exact (Below.heap_setCell _ _ _ _ (by show w.heap.size ≠ b; omega)).trans hb1
  have hB2 : Only (Just b) w w2 := by rw [hw2]; exact hB1.trans ⟨rfl, rfl, rfl, by simp [World.setCell], fun c _ hn => Below.heap_setCell _ _ _ _ (by show c ≠ b; exact hn)⟩
  have hs2 : w.heap.size + 1 ≤ w2.heap.size := by have := (Array.getElem?_eq_some_iff.1 hb2).1; omega
  obtain ⟨d0, d1, d2, g1, g2⟩ := hS2.cells
  have H2 : Hid (PBox w2 w.heap.size 0 0 ⟨#[]⟩ (.slice none 0 0) ∧ Only (Just b) w w2 ∧ w.heap.size ≠ b ∧ w.heap.size + 1 ≤ w2.heap.size) := ⟨hb2, hB2, by omega, hs2⟩
  rw [hw2, hw1] at d0 d1 d2 g1 g2
  rw [hw1] at c0 c1 c2 f1 f2 hw2
  have HW2 := Lib.hid hw2
  have HS2 := Lib.hid hS2
  have HD : Hid (d ≤ 6) := hd
  clear hb1 hB1 hS1 hS2 hb2 hB2 h hw1 hw2 hlt hd HR HRO' hs hk hm hs2
  cases hse : sees s k [33] with
  | true =>
    have HS := Lib.hid (take_yes w2 b s k [33] HS2.out HQ.out.2.1 HQ.out.2.2.1 (by simp) hse)
    have HDR := Lib.hid (sees_true hse HQ.out.2.2.1)
    clear hse
    go_enter Tryz.func94, Tryz.ntmps94
    go_wp2_with fail
    rw [← HW2.out]
    refine HS.out.mono ?_
    clear HS c0 c1 c2 f1 f2 d0 d1 d2 g1 g2
    rintro e w3 ⟨rfl, hS3, hO3⟩
    have HC := Lib.hid (HRO.out w3 (k + 1) (m + 1) hS3 HDR.out.2 (by have := HQ.out; omega))
    have H3 : Hid (PBox w3 w.heap.size 0 0 ⟨#[]⟩ (.slice none 0 0) ∧ Only (Just b) w w3 ∧ w.heap.size + 1 ≤ w3.heap.size) := ⟨pb_keep H2.out.1 hO3 H2.out.2.2.1, H2.out.2.1.trans hO3, by have := hO3.size; have := H2.out; omega⟩
    clear hS3 hO3
    go_wp2_with fail
    refine HC.out.mono ?_
    clear HC
    rintro e w4 ⟨hAns, hO4⟩
    have hb4 := pb_keep H3.out.1 hO4 H2.out.2.2.1
    have hlb := HQ.out.1
    rcases hAns with ⟨p, k4, m4, v, bs, rfl, ho, hnd, hbs, hS4, hk4, hP⟩ | ⟨kk, nn, t, a, l, c, k4, rfl, hS4, hk4, hN⟩
    · obtain ⟨p2, cap2, rfl, _, _⟩ := ho.reads
      obtain ⟨w5, hw5⟩ : ∃ w5, w5 = w4.alloc (.cells #[.int .i64 p.k, .int .i64 p.n, .string p.t, .slice p2 p.F.length cap2] 54) := ⟨_, rfl⟩
      have hB5 : Below w4.heap.size w4 w5 := by rw [hw5]; exact (Below.refl _ _).alloc (Nat.le_refl _) _
      have hn5 : w5.heap[w4.heap.size]? = some (.cells #[.int .i64 p.k, .int .i64 p.n, .string p.t, .slice p2 p.F.length cap2] 54 (0, 0)) := by rw [hw5]; exact heap_at_new w4 _
      have hs5 : w5.heap.size = w4.heap.size + 1 := by rw [hw5]; exact Array.size_push _
      have hP5 := (hB5.block _ (Array.getElem?_eq_some_iff.1 hb4).1).trans hb4
      have hS5 := hS4.below hB5
      have hO5 : Only (Just b) w w5 := (H3.out.2.1.trans hO4).trans (Only.of_below hB5)
      obtain ⟨i0, i1, i2, i3, j0, j1, j2, j3⟩ := four_cells hP5
      have hs4 := hO4.size
      have HP : Hid (OkP 2097152 (s.data.toList.drop k) m d ⟨4, 0, ⟨#[]⟩, p.one .nil⟩ (s.data.toList.drop k4) m4) := by unfold Hid; rw [HDR.out.1]; exact not_ok hP
      have H10 : Hid (PBox w5 w.heap.size 0 0 ⟨#[]⟩ (.slice none 0 0) ∧ SAt w5 b s k4 false ∧ Only (Just b) w w5 ∧ OwnV w5 (.slice (some ⟨w4.heap.size, 0, none⟩) 1 1) (p.one .nil) (w4.heap.size :: bs) ∧ bs.Nodup ∧ (∀ c ∈ bs, w.heap.size + 1 ≤ c ∧ c < w4.heap.size) ∧ w5.heap.size = w4.heap.size + 1 ∧ k4 ≤ s.size ∧ w.heap.size + 1 ≤ w4.heap.size) :=
        ⟨hP5, hS5, hO5, own_one hn5 (ho.keep (fun c hc => hB5.block c (hbs c hc).2)), hnd, fun c hc => by have := hbs c hc; have := H3.out; omega, hs5, hk4, by have := H3.out; omega⟩
      clear hB5 hn5 hs5 hP5 hS5 hO5 ho hnd hbs hS4 hk4 hP hO4 hb4 hs4
      subst hw5
      go_wp2
      refine bodyPost_ret (results_cell_row rfl _ _ w.heap.size _ _ _ _ rfl (set4_box H10.out.1 _ _ _ _) Tryz.underlying54 rfl (by kernel_rfl)) rfl ?_
      obtain ⟨a1, a2, a3, a4, a5, a6, a7, a8, a9⟩ := H10.out
      refine sp_some (p := ⟨4, 0, ⟨#[]⟩, p.one .nil⟩) rfl a4 (List.nodup_cons.2 ⟨fun hc => ?_, a5⟩) (fun c hc => ?_) (fun c hc => ?_) a2 a8 HP.out a3 (Nat.le_refl _) (by omega)
      · have := a6 _ hc; omega
      · rcases List.mem_cons.1 hc with rfl | hc
        · exact ⟨by omega, Nat.lt_of_lt_of_eq (Nat.lt_succ_self _) a7.symm⟩
        · have := a6 c hc
          exact ⟨by omega, Nat.lt_of_lt_of_eq (m := w4.heap.size + 1) (by omega) a7.symm⟩
      · rcases List.mem_cons.1 hc with rfl | hc
        · omega
        · have := a6 c hc; omega
    · obtain ⟨w5, hw5⟩ : ∃ w5, w5 = w4.alloc (.cells #[.int .i64 kk, .int .i64 nn, .string t, .slice a l c] 54) := ⟨_, rfl⟩
      have hB5 : Below w4.heap.size w4 w5 := by rw [hw5]; exact (Below.refl _ _).alloc (Nat.le_refl _) _
      have hP5 := (hB5.block _ (Array.getElem?_eq_some_iff.1 hb4).1).trans hb4
      obtain ⟨i0, i1, i2, i3, j0, j1, j2, j3⟩ := four_cells hP5
      have HN : Hid (NoneP 2097152 (s.data.toList.drop k) m d) := by unfold Hid; rw [HDR.out.1]; exact not_none hN
      have H10 : Hid (PBox w5 w.heap.size 0 0 ⟨#[]⟩ (.slice none 0 0) ∧ SAt w5 b s k4 true ∧ Only (Just b) w w5 ∧ k4 ≤ s.size) := ⟨hP5, hS4.below hB5, (H3.out.2.1.trans hO4).trans (Only.of_below hB5), hk4⟩
      clear hB5 hP5 hS4 hk4 hN hO4 hb4
      subst hw5
      go_wp2
      refine bodyPost_ret (results_cell_row rfl _ _ w.heap.size _ _ _ _ rfl (set4_box H10.out.1 _ _ _ _) Tryz.underlying54 rfl (by kernel_rfl)) rfl ?_
      exact sp_none rfl H10.out.2.1 H10.out.2.2.2 HN.out H10.out.2.2.1 (Nat.le_refl _) (by omega)
  | false =>
    have HS := Lib.hid (take_no w2 b s k [33] HS2.out HQ.out.2.1 HQ.out.2.2.1 (by simp) hse)
    have HN33 : Hid (∀ x, s.data.toList.drop k ≠ 33 :: x) := fun x => sees_false hse x
    clear hse
    cases hse : sees s k [40] with
    | true =>
      have HTK := Lib.hid (fun W hW => take_yes W b s k [40] hW HQ.out.2.1 HQ.out.2.2.1 (by simp) hse)
      have HDR := Lib.hid (sees_true hse HQ.out.2.2.1)
      clear hse
      go_enter Tryz.func94, Tryz.ntmps94
      go_wp2_with fail
      rw [← HW2.out]
      refine HS.out.mono ?_
      clear HS c0 c1 c2 f1 f2 d0 d1 d2 g1 g2
      rintro e w3 ⟨rfl, hS3, hO3⟩
      have HS := Lib.hid (HTK.out w3 hS3)
      have H3 : Hid (PBox w3 w.heap.size 0 0 ⟨#[]⟩ (.slice none 0 0) ∧ Only (Just b) w w3 ∧ w.heap.size + 1 ≤ w3.heap.size) := ⟨pb_keep H2.out.1 hO3 H2.out.2.2.1, H2.out.2.1.trans hO3, by have := hO3.size; have := H2.out; omega⟩
      clear hS3 hO3 HTK
      go_wp2_with fail
      refine HS.out.mono ?_
      clear HS
      rintro e w4 ⟨rfl, hS4, hO4⟩
      have HC := Lib.hid (HRO.out w4 (k + 1) (m + 1) hS4 HDR.out.2 (by have := HQ.out; omega))
      have H4 : Hid (PBox w4 w.heap.size 0 0 ⟨#[]⟩ (.slice none 0 0) ∧ Only (Just b) w w4 ∧ w.heap.size + 1 ≤ w4.heap.size) := ⟨pb_keep H3.out.1 hO4 H2.out.2.2.1, H3.out.2.1.trans hO4, by have := hO4.size; have := H3.out; omega⟩
      clear hS4 hO4
      go_wp2_with fail
      refine HC.out.mono ?_
      clear HC
      rintro e w5 ⟨hAns, hO5⟩
      have H5 : Hid (PBox w5 w.heap.size 0 0 ⟨#[]⟩ (.slice none 0 0) ∧ Only (Just b) w w5 ∧ w.heap.size + 1 ≤ w5.heap.size) := ⟨pb_keep H4.out.1 hO5 H2.out.2.2.1, H4.out.2.1.trans hO5, by have := hO5.size; have := H4.out; omega⟩
      rcases hAns with ⟨p, k5, m5, v, bs, rfl, ho, hnd, hbs, hS5, hk5, hP⟩ | ⟨kk, nn, t, a, l, c, k5, rfl, hS5, hk5, hN⟩
      rotate_left
      · -- the first is none
        obtain ⟨w6, hw6⟩ : ∃ w6, w6 = w5.alloc (.cells #[.int .i64 kk, .int .i64 nn, .string t, .slice a l c] 54) := ⟨_, rfl⟩
        have hB6 : Below w5.heap.size w5 w6 := by rw [hw6]; exact (Below.refl _ _).alloc (Nat.le_refl _) _
        have hn6 : w6.heap[w5.heap.size]? = some (.cells #[.int .i64 kk, .int .i64 nn, .string t, .slice a l c] 54 (0, 0)) := by rw [hw6]; exact heap_at_new w5 _
        have hs6 : w6.heap.size = w5.heap.size + 1 := by rw [hw6]; exact Array.size_push _
        have hS6 := hS5.below hB6
        have H6 : Hid (PBox w6 w.heap.size 0 0 ⟨#[]⟩ (.slice none 0 0) ∧ Only (Just b) w w6 ∧ w6.heap[w5.heap.size]? = some (.cells #[.int .i64 kk, .int .i64 nn, .string t, .slice a l c] 54 (0, 0)) ∧ w.heap.size + 1 ≤ w5.heap.size ∧ w6.heap.size = w5.heap.size + 1 ∧ k5 ≤ s.size) := ⟨(hB6.block _ (Array.getElem?_eq_some_iff.1 H5.out.1).1).trans H5.out.1, H5.out.2.1.trans (Only.of_below hB6), hn6, H5.out.2.2, hs6, hk5⟩
        have HW6 := Lib.hid hw6
        have HS6 := Lib.hid hS6

        have HNO : Hid (NoneP 2097152 (s.data.toList.drop k) m d) := by unfold Hid; rw [HDR.out.1]; exact op_none1 hN
        clear hB6 hn6 hs6 hS6 hw6 hS5 hk5 hN hO5 H5
        go_wp2
        rw [← HW6.out]
        go_loopw [6] (fun i wr => ∃ n : Nat, i = .int .i64 n ∧ n ≤ 7 ∧ Hid (SAt wr b s k5 true ∧ Only (Just b) w6 wr)) (fun i _ => (intOf i).toNat)
        case atStart => exact ⟨7, rfl, by omega, HS6.out, Only.refl _ _⟩
        case round =>
          obtain ⟨n, rfl, hn7, hR⟩ := hrel
          by_cases hn0 : n = 0
          · subst hn0
            have HC := Lib.hid (spec_expr_bad b ((d : Int) + 1) wr s k5 hR.out.1)
            go_wp2_with fail
            refine HC.out.mono ?_
            clear HC
            rintro e w7 ⟨⟨rfl, hS7⟩, hO7'⟩
            have hO7 := hR.out.2.trans hO7'
            have hsz7 := Only.size hO7
            have H7 : Hid (PBox w7 w.heap.size 0 0 ⟨#[]⟩ (.slice none 0 0) ∧ Only (Just b) w w7 ∧ (w7.heap[w5.heap.size]? = some (.cells #[.int .i64 kk, .int .i64 nn, .string t, .slice a l c] 54 (0, 0)) ∧ w5.heap.size ≠ b) ∧ w5.heap.size + 1 ≤ w7.heap.size) := ⟨pb_keep H6.out.1 hO7 H2.out.2.2.1, H6.out.2.1.trans hO7, ⟨pb_keep H6.out.2.2.1 hO7 (by have := HQ.out.1; have := H6.out.2.2.2.1; omega), by have := HQ.out.1; have := H6.out.2.2.2.1; omega⟩, by have := H6.out.2.2.2.2.1; omega⟩

            have HS7 := Lib.hid hS7
            have HK := Lib.hid H6.out.2.2.2.2.2
            clear hO7 hO7' hS7 hsz7 HRO
            obtain ⟨w8, hw8⟩ : ∃ w8, w8 = w7.alloc (.cells #[.int .i64 0, .int .i64 0, .string ⟨#[]⟩, .slice none 0 0] 54) := ⟨_, rfl⟩
            have hB8 : Below w7.heap.size w7 w8 := by rw [hw8]; exact (Below.refl _ _).alloc (Nat.le_refl _) _
            have hn8 : w8.heap[w7.heap.size]? = some (.cells #[.int .i64 0, .int .i64 0, .string ⟨#[]⟩, .slice none 0 0] 54 (0, 0)) := by rw [hw8]; exact heap_at_new w7 _
            have hs8 : w8.heap.size = w7.heap.size + 1 := by rw [hw8]; exact Array.size_push _
            have hS8 := SAt.below HS7.out hB8
            obtain ⟨w9, hw9⟩ : ∃ w9, w9 = w8.setCell ⟨b, 2, none⟩ (.bool true) := ⟨_, rfl⟩
            have k9 : ∀ c, c ≠ b → w9.heap[c]? = w8.heap[c]? := fun c hc => by rw [hw9]; exact Below.heap_setCell _ _ _ _ (by show c ≠ b; exact hc)
            have hs9 : w9.heap.size = w8.heap.size := by rw [hw9]; simp [World.setCell]
            have hS9 : SAt w9 b s k5 true := by rw [hw9]; exact hS8.fail _
            have hsw := Only.size H7.out.2.1
            have hlb := HQ.out.1
            have hA9 : w9.heap[w5.heap.size]? = some (.cells #[.int .i64 kk, .int .i64 nn, .string t, .slice a l c] 54 (0, 0)) := (k9 _ (by have := H7.out.2.2.1.2; omega)).trans ((hB8.block _ (Array.getElem?_eq_some_iff.1 H7.out.2.2.1.1).1).trans H7.out.2.2.1.1)
            have hB9 : w9.heap[w7.heap.size]? = some (.cells #[.int .i64 0, .int .i64 0, .string ⟨#[]⟩, .slice none 0 0] 54 (0, 0)) := (k9 _ (by omega)).trans hn8
            have hP9 : PBox w9 w.heap.size 0 0 ⟨#[]⟩ (.slice none 0 0) := (k9 _ (by omega)).trans ((hB8.block _ (Array.getElem?_eq_some_iff.1 H7.out.1).1).trans H7.out.1)
            have hO9 : Only (Just b) w w9 := (Only.trans H7.out.2.1 (Only.of_below (F := Just b) hB8)).trans ⟨by rw [hw9]; rfl, by rw [hw9]; rfl, by rw [hw9]; rfl, by omega, fun c _ hn => k9 c hn⟩
            obtain ⟨w10, hw10⟩ : ∃ w10, w10 = w9.alloc (.cells #[.int .i64 kk, .int .i64 nn, .string t, .slice a l c, .int .i64 0, .int .i64 0, .string ⟨#[]⟩, .slice none 0 0] 54) := ⟨_, rfl⟩
            have hB10 : Below w9.heap.size w9 w10 := by rw [hw10]; exact (Below.refl _ _).alloc (Nat.le_refl _) _
            have hn10 : w10.heap[w9.heap.size]? = some (.cells #[.int .i64 kk, .int .i64 nn, .string t, .slice a l c, .int .i64 0, .int .i64 0, .string ⟨#[]⟩, .slice none 0 0] 54 (0, 0)) := by rw [hw10]; exact heap_at_new w9 _
            have hs10 : w10.heap.size = w9.heap.size + 1 := by rw [hw10]; exact Array.size_push _
            have hP10 : PBox w10 w.heap.size 0 0 ⟨#[]⟩ (.slice none 0 0) := (hB10.block _ (Array.getElem?_eq_some_iff.1 hP9).1).trans hP9
            have hS10 := hS9.below hB10
            have hO10 : Only (Just b) w w10 := hO9.trans (Only.of_below hB10)
            obtain ⟨c0, c1, c2, f1, f2⟩ := hS8.cells
            obtain ⟨x0, x1, x2, x3, _, _, _, _⟩ := four_cells hA9
            obtain ⟨y0, y1, y2, y3, _, _, _, _⟩ := four_cells hB9
            obtain ⟨i0, i1, i2, i3, j0, j1, j2, j3⟩ := four_cells hP10
            have H10 : Hid (PBox w10 w.heap.size 0 0 ⟨#[]⟩ (.slice none 0 0) ∧ SAt w10 b s k5 true ∧ Only (Just b) w w10) := ⟨hP10, hS10, hO10⟩

            clear hB8 hn8 hs8 hS8 k9 hs9 hS9 hsw hA9 hB9 hP9 hO9 hB10 hn10 hs10 hP10 hS10 hO10
            subst hw10 hw9 hw8
            go_wp2
            refine bodyPost_ret (results_cell_row rfl _ _ w.heap.size _ _ _ _ rfl (set4_box H10.out.1 _ _ _ _) Tryz.underlying54 rfl (by kernel_rfl)) rfl ?_
            exact sp_none rfl H10.out.2.1 HK.out HNO.out H10.out.2.2 (Nat.le_refl _) (by have := HQ.out.1; omega)

          · have hgt : (0 : Int) < (n : Int) := by omega
            have hin : inOp (n : Int) = true := by unfold inOp; simp only [Bool.and_eq_true, decide_eq_true_eq]; omega
            have HSG := Lib.hid (spec_sign (n : Int) hin wr)
            have hl4 := signE_len (n : Int)
            have HTB := Lib.hid (fun W (hW : SAt W b s k5 true) => take_bad W b s k5 (signE (n : Int)) hW HQ.out.2.1 H6.out.2.2.2.2.2 (by omega))
            generalize str (signE (n : Int)) = us at *
            clear hin hl4
            go_wp2_with fail
            refine HSG.out.mono ?_
            clear HSG
            rintro e w7 ⟨rfl, hb7⟩
            have HTK := Lib.hid (HTB.out w7 (hR.out.1.below hb7))
            have hO7 : Only (Just b) w6 w7 := hR.out.2.trans (Only.of_below hb7)
            have HO7 := Lib.hid hO7
            clear hb7 HTB hO7
            go_wp2_with fail
            refine HTK.out.mono ?_
            clear HTK
            rintro e w8 ⟨rfl, hS8, hO8⟩
            have HR8 : Hid (SAt w8 b s k5 true ∧ Only (Just b) w6 w8) := ⟨hS8, HO7.out.trans hO8⟩
            clear hS8 hO8
            go_wp2
            go_roundw
            case rel => exact ⟨n - 1, by congr 1; omega, by omega, HR8⟩
            case measure => simp [intOf]; omega
      · obtain ⟨p2, cap2, rfl, _, _⟩ := ho.reads
        obtain ⟨w6, hw6⟩ : ∃ w6, w6 = w5.alloc (.cells #[.int .i64 p.k, .int .i64 p.n, .string p.t, .slice p2 p.F.length cap2] 54) := ⟨_, rfl⟩
        have hB6 : Below w5.heap.size w5 w6 := by rw [hw6]; exact (Below.refl _ _).alloc (Nat.le_refl _) _
        have hn6 : w6.heap[w5.heap.size]? = some (.cells #[.int .i64 p.k, .int .i64 p.n, .string p.t, .slice p2 p.F.length cap2] 54 (0, 0)) := by rw [hw6]; exact heap_at_new w5 _
        have hs6 : w6.heap.size = w5.heap.size + 1 := by rw [hw6]; exact Array.size_push _
        have hS6 := hS5.below hB6
        have H6 : Hid (PBox w6 w.heap.size 0 0 ⟨#[]⟩ (.slice none 0 0) ∧ Only (Just b) w w6 ∧ w6.heap[w5.heap.size]? = some (.cells #[.int .i64 p.k, .int .i64 p.n, .string p.t, .slice p2 p.F.length cap2] 54 (0, 0)) ∧ w.heap.size + 1 ≤ w5.heap.size ∧ w6.heap.size = w5.heap.size + 1 ∧ k5 ≤ s.size) := ⟨(hB6.block _ (Array.getElem?_eq_some_iff.1 H5.out.1).1).trans H5.out.1, H5.out.2.1.trans (Only.of_below hB6), hn6, H5.out.2.2, hs6, hk5⟩
        have HW6 := Lib.hid hw6
        have HS6 := Lib.hid hS6

        have hs45 := hO5.size
        have HOA : Hid (OwnV w6 (.slice p2 p.F.length cap2) p.F bs ∧ bs.Nodup ∧ (∀ c ∈ bs, w.heap.size + 1 ≤ c ∧ c < w5.heap.size)) := ⟨ho.keep (fun c hc => hB6.block c (hbs c hc).2), hnd, fun c hc => by have := hbs c hc; have := H4.out; omega⟩
        have HPA : Hid (OkP 2097152 (s.data.toList.drop (k + 1)) (m + 1) (d + 1) p (s.data.toList.drop k5) m5) := hP
        have HM5 : Hid (m5 ≤ k5) := okp_le hP (by have := HQ.out; omega) HDR.out.2 hk5
        clear hB6 hn6 hs6 hS6 hw6 hS5 hk5 hP ho hnd hbs hO5 H5 hs45
        go_wp2
        rw [← HW6.out]
        go_loopw [6] (fun i wr => ∃ n : Nat, i = .int .i64 n ∧ n ≤ 7 ∧ Hid (SAt wr b s k5 false ∧ Only (Just b) w6 wr) ∧ Hid (∀ j : Nat, n < j → j ≤ 7 → sees s k5 (signE (j : Int)) = false)) (fun i _ => (intOf i).toNat)
        case atStart => exact ⟨7, rfl, by omega, ⟨HS6.out, Only.refl _ _⟩, fun j h1 h2 => by omega⟩
        case round =>
          obtain ⟨n, rfl, hn7, hR, hno⟩ := hrel
          by_cases hn0 : n = 0
          · subst hn0
            have HNO : Hid (NoneP 2097152 (s.data.toList.drop k) m d) := by
              unfold Hid
              rw [HDR.out.1]
              refine op_none2 HPA.out (fun n hn x => ?_)
              rcases (inOp_iff n).1 hn with rfl | rfl | rfl | rfl | rfl | rfl | rfl
              · exact sees_false (hno.out 1 (by omega) (by omega)) x
              · exact sees_false (hno.out 2 (by omega) (by omega)) x
              · exact sees_false (hno.out 3 (by omega) (by omega)) x
              · exact sees_false (hno.out 4 (by omega) (by omega)) x
              · exact sees_false (hno.out 5 (by omega) (by omega)) x
              · exact sees_false (hno.out 6 (by omega) (by omega)) x
              · exact sees_false (hno.out 7 (by omega) (by omega)) x

            have HC := Lib.hid (HRO.out wr k5 m5 hR.out.1 H6.out.2.2.2.2.2 HM5.out)
            clear hno
            go_wp2_with fail
            refine HC.out.mono ?_
            clear HC
            rintro e w7 ⟨hAns, hO7'⟩
            have hO7 := hR.out.2.trans hO7'
            have hsz7 := Only.size hO7
            have H7 : Hid (PBox w7 w.heap.size 0 0 ⟨#[]⟩ (.slice none 0 0) ∧ Only (Just b) w w7 ∧ (w7.heap[w5.heap.size]? = some (.cells #[.int .i64 p.k, .int .i64 p.n, .string p.t, .slice p2 p.F.length cap2] 54 (0, 0)) ∧ w5.heap.size ≠ b) ∧ w5.heap.size + 1 ≤ w7.heap.size) := ⟨pb_keep H6.out.1 hO7 H2.out.2.2.1, H6.out.2.1.trans hO7, ⟨pb_keep H6.out.2.2.1 hO7 (by have := HQ.out.1; have := H6.out.2.2.2.1; omega), by have := HQ.out.1; have := H6.out.2.2.2.1; omega⟩, by have := H6.out.2.2.2.2.1; omega⟩

            clear hO7 hO7' hsz7 HRO
            rcases hAns with ⟨q, k7, m7, v7, bs7, rfl, ho7, _, _, hS7, hk7, _⟩ | ⟨kk, nn, t, a, l, c, k7, rfl, hS7, hk7, _⟩
            · obtain ⟨p7, cap7, rfl, _, _⟩ := ho7.reads
              have HS7 := Lib.hid hS7
              have HK : Hid (k7 ≤ s.size) := hk7
              clear hS7 hk7 ho7
              obtain ⟨w8, hw8⟩ : ∃ w8, w8 = w7.alloc (.cells #[.int .i64 q.k, .int .i64 q.n, .string q.t, .slice p7 q.F.length cap7] 54) := ⟨_, rfl⟩
              have hB8 : Below w7.heap.size w7 w8 := by rw [hw8]; exact (Below.refl _ _).alloc (Nat.le_refl _) _
              have hn8 : w8.heap[w7.heap.size]? = some (.cells #[.int .i64 q.k, .int .i64 q.n, .string q.t, .slice p7 q.F.length cap7] 54 (0, 0)) := by rw [hw8]; exact heap_at_new w7 _
              have hs8 : w8.heap.size = w7.heap.size + 1 := by rw [hw8]; exact Array.size_push _
              have hS8 := SAt.below HS7.out hB8
              obtain ⟨w9, hw9⟩ : ∃ w9, w9 = w8.setCell ⟨b, 2, none⟩ (.bool true) := ⟨_, rfl⟩
              have k9 : ∀ c, c ≠ b → w9.heap[c]? = w8.heap[c]? := fun c hc => by rw [hw9]; exact Below.heap_setCell _ _ _ _ (by show c ≠ b; exact hc)
              have hs9 : w9.heap.size = w8.heap.size := by rw [hw9]; simp [World.setCell]
              have hS9 : SAt w9 b s k7 true := by rw [hw9]; exact hS8.fail _
              have hsw := Only.size H7.out.2.1
              have hlb := HQ.out.1
              have hA9 : w9.heap[w5.heap.size]? = some (.cells #[.int .i64 p.k, .int .i64 p.n, .string p.t, .slice p2 p.F.length cap2] 54 (0, 0)) := (k9 _ (by have := H7.out.2.2.1.2; omega)).trans ((hB8.block _ (Array.getElem?_eq_some_iff.1 H7.out.2.2.1.1).1).trans H7.out.2.2.1.1)
              have hB9 : w9.heap[w7.heap.size]? = some (.cells #[.int .i64 q.k, .int .i64 q.n, .string q.t, .slice p7 q.F.length cap7] 54 (0, 0)) := (k9 _ (by omega)).trans hn8
              have hP9 : PBox w9 w.heap.size 0 0 ⟨#[]⟩ (.slice none 0 0) := (k9 _ (by omega)).trans ((hB8.block _ (Array.getElem?_eq_some_iff.1 H7.out.1).1).trans H7.out.1)
              have hO9 : Only (Just b) w w9 := (Only.trans H7.out.2.1 (Only.of_below (F := Just b) hB8)).trans ⟨by rw [hw9]; rfl, by rw [hw9]; rfl, by rw [hw9]; rfl, by omega, fun c _ hn => k9 c hn⟩
              obtain ⟨w10, hw10⟩ : ∃ w10, w10 = w9.alloc (.cells #[.int .i64 p.k, .int .i64 p.n, .string p.t, .slice p2 p.F.length cap2, .int .i64 q.k, .int .i64 q.n, .string q.t, .slice p7 q.F.length cap7] 54) := ⟨_, rfl⟩
              have hB10 : Below w9.heap.size w9 w10 := by rw [hw10]; exact (Below.refl _ _).alloc (Nat.le_refl _) _
              have hn10 : w10.heap[w9.heap.size]? = some (.cells #[.int .i64 p.k, .int .i64 p.n, .string p.t, .slice p2 p.F.length cap2, .int .i64 q.k, .int .i64 q.n, .string q.t, .slice p7 q.F.length cap7] 54 (0, 0)) := by rw [hw10]; exact heap_at_new w9 _
              have hs10 : w10.heap.size = w9.heap.size + 1 := by rw [hw10]; exact Array.size_push _
              have hP10 : PBox w10 w.heap.size 0 0 ⟨#[]⟩ (.slice none 0 0) := (hB10.block _ (Array.getElem?_eq_some_iff.1 hP9).1).trans hP9
              have hS10 := hS9.below hB10
              have hO10 : Only (Just b) w w10 := hO9.trans (Only.of_below hB10)
              obtain ⟨c0, c1, c2, f1, f2⟩ := hS8.cells
              obtain ⟨x0, x1, x2, x3, _, _, _, _⟩ := four_cells hA9
              obtain ⟨y0, y1, y2, y3, _, _, _, _⟩ := four_cells hB9
              obtain ⟨i0, i1, i2, i3, j0, j1, j2, j3⟩ := four_cells hP10
              have H10 : Hid (PBox w10 w.heap.size 0 0 ⟨#[]⟩ (.slice none 0 0) ∧ SAt w10 b s k7 true ∧ Only (Just b) w w10) := ⟨hP10, hS10, hO10⟩

              clear hB8 hn8 hs8 hS8 k9 hs9 hS9 hsw hA9 hB9 hP9 hO9 hB10 hn10 hs10 hP10 hS10 hO10
              subst hw10 hw9 hw8
              go_wp2
              refine bodyPost_ret (results_cell_row rfl _ _ w.heap.size _ _ _ _ rfl (set4_box H10.out.1 _ _ _ _) Tryz.underlying54 rfl (by kernel_rfl)) rfl ?_
              exact sp_none rfl H10.out.2.1 HK.out HNO.out H10.out.2.2 (Nat.le_refl _) (by have := HQ.out.1; omega)

            · have HS7 := Lib.hid hS7
              have HK : Hid (k7 ≤ s.size) := hk7
              clear hS7 hk7
              obtain ⟨w8, hw8⟩ : ∃ w8, w8 = w7.alloc (.cells #[.int .i64 kk, .int .i64 nn, .string t, .slice a l c] 54) := ⟨_, rfl⟩
              have hB8 : Below w7.heap.size w7 w8 := by rw [hw8]; exact (Below.refl _ _).alloc (Nat.le_refl _) _
              have hn8 : w8.heap[w7.heap.size]? = some (.cells #[.int .i64 kk, .int .i64 nn, .string t, .slice a l c] 54 (0, 0)) := by rw [hw8]; exact heap_at_new w7 _
              have hs8 : w8.heap.size = w7.heap.size + 1 := by rw [hw8]; exact Array.size_push _
              have hS8 := SAt.below HS7.out hB8
              obtain ⟨w9, hw9⟩ : ∃ w9, w9 = w8.setCell ⟨b, 2, none⟩ (.bool true) := ⟨_, rfl⟩
              have k9 : ∀ c, c ≠ b → w9.heap[c]? = w8.heap[c]? := fun c hc => by rw [hw9]; exact Below.heap_setCell _ _ _ _ (by show c ≠ b; exact hc)
              have hs9 : w9.heap.size = w8.heap.size := by rw [hw9]; simp [World.setCell]
              have hS9 : SAt w9 b s k7 true := by rw [hw9]; exact hS8.fail _
              have hsw := Only.size H7.out.2.1
              have hlb := HQ.out.1
              have hA9 : w9.heap[w5.heap.size]? = some (.cells #[.int .i64 p.k, .int .i64 p.n, .string p.t, .slice p2 p.F.length cap2] 54 (0, 0)) := (k9 _ (by have := H7.out.2.2.1.2; omega)).trans ((hB8.block _ (Array.getElem?_eq_some_iff.1 H7.out.2.2.1.1).1).trans H7.out.2.2.1.1)
              have hB9 : w9.heap[w7.heap.size]? = some (.cells #[.int .i64 kk, .int .i64 nn, .string t, .slice a l c] 54 (0, 0)) := (k9 _ (by omega)).trans hn8
              have hP9 : PBox w9 w.heap.size 0 0 ⟨#[]⟩ (.slice none 0 0) := (k9 _ (by omega)).trans ((hB8.block _ (Array.getElem?_eq_some_iff.1 H7.out.1).1).trans H7.out.1)
              have hO9 : Only (Just b) w w9 := (Only.trans H7.out.2.1 (Only.of_below (F := Just b) hB8)).trans ⟨by rw [hw9]; rfl, by rw [hw9]; rfl, by rw [hw9]; rfl, by omega, fun c _ hn => k9 c hn⟩
              obtain ⟨w10, hw10⟩ : ∃ w10, w10 = w9.alloc (.cells #[.int .i64 p.k, .int .i64 p.n, .string p.t, .slice p2 p.F.length cap2, .int .i64 kk, .int .i64 nn, .string t, .slice a l c] 54) := ⟨_, rfl⟩
              have hB10 : Below w9.heap.size w9 w10 := by rw [hw10]; exact (Below.refl _ _).alloc (Nat.le_refl _) _
              have hn10 : w10.heap[w9.heap.size]? = some (.cells #[.int .i64 p.k, .int .i64 p.n, .string p.t, .slice p2 p.F.length cap2, .int .i64 kk, .int .i64 nn, .string t, .slice a l c] 54 (0, 0)) := by rw [hw10]; exact heap_at_new w9 _
              have hs10 : w10.heap.size = w9.heap.size + 1 := by rw [hw10]; exact Array.size_push _
              have hP10 : PBox w10 w.heap.size 0 0 ⟨#[]⟩ (.slice none 0 0) := (hB10.block _ (Array.getElem?_eq_some_iff.1 hP9).1).trans hP9
              have hS10 := hS9.below hB10
              have hO10 : Only (Just b) w w10 := hO9.trans (Only.of_below hB10)
              obtain ⟨c0, c1, c2, f1, f2⟩ := hS8.cells
              obtain ⟨x0, x1, x2, x3, _, _, _, _⟩ := four_cells hA9
              obtain ⟨y0, y1, y2, y3, _, _, _, _⟩ := four_cells hB9
              obtain ⟨i0, i1, i2, i3, j0, j1, j2, j3⟩ := four_cells hP10
              have H10 : Hid (PBox w10 w.heap.size 0 0 ⟨#[]⟩ (.slice none 0 0) ∧ SAt w10 b s k7 true ∧ Only (Just b) w w10) := ⟨hP10, hS10, hO10⟩

              clear hB8 hn8 hs8 hS8 k9 hs9 hS9 hsw hA9 hB9 hP9 hO9 hB10 hn10 hs10 hP10 hS10 hO10
              subst hw10 hw9 hw8
              go_wp2
              refine bodyPost_ret (results_cell_row rfl _ _ w.heap.size _ _ _ _ rfl (set4_box H10.out.1 _ _ _ _) Tryz.underlying54 rfl (by kernel_rfl)) rfl ?_
              exact sp_none rfl H10.out.2.1 HK.out HNO.out H10.out.2.2 (Nat.le_refl _) (by have := HQ.out.1; omega)

          · have hgt : (0 : Int) < (n : Int) := by omega
            have hin : inOp (n : Int) = true := by unfold inOp; simp only [Bool.and_eq_true, decide_eq_true_eq]; omega
            have HSG := Lib.hid (spec_sign (n : Int) hin wr)
            have HIN := Lib.hid hin
            have hl4 := signE_len (n : Int)
            clear hin
            cases hse : sees s k5 (signE (n : Int)) with
            | false =>
              have HTB := Lib.hid (fun W (hW : SAt W b s k5 false) => take_no W b s k5 (signE (n : Int)) hW HQ.out.2.1 H6.out.2.2.2.2.2 (by omega) hse)
              have HNO : Hid (∀ j : Nat, n - 1 < j → j ≤ 7 → sees s k5 (signE (j : Int)) = false) := fun j h1 h2 => by
                by_cases hj : j = n
                · subst hj; exact hse
                · exact hno.out j (by omega) h2
              clear hse hno hl4
              generalize str (signE (n : Int)) = us at *
              go_wp2_with fail
              refine HSG.out.mono ?_
              clear HSG
              rintro e w7 ⟨rfl, hb7⟩
              have HTK := Lib.hid (HTB.out w7 (hR.out.1.below hb7))
              have HO7 : Hid (Only (Just b) w6 w7) := hR.out.2.trans (Only.of_below hb7)
              clear hb7 HTB
              go_wp2_with fail
              refine HTK.out.mono ?_
              clear HTK
              rintro e w8 ⟨rfl, hS8, hO8⟩
              have HR8 : Hid (SAt w8 b s k5 false ∧ Only (Just b) w6 w8) := ⟨hS8, HO7.out.trans hO8⟩
              clear hS8 hO8
              go_wp2
              go_roundw
              case rel => exact ⟨n - 1, by congr 1; omega, by omega, HR8, HNO⟩
              case measure => simp [intOf]; omega
            | true =>
              have HTB := Lib.hid (fun W (hW : SAt W b s k5 false) => take_yes W b s k5 (signE (n : Int)) hW HQ.out.2.1 H6.out.2.2.2.2.2 (by omega) hse)
              have HD5 := Lib.hid (sees_true hse H6.out.2.2.2.2.2)
              have HPA2 : Hid (OkP 2097152 (s.data.toList.drop (k + 1)) (m + 1) (d + 1) p (signE (n : Int) ++ s.data.toList.drop (k5 + (signE (n : Int)).length)) m5) := by unfold Hid; rw [← HD5.out.1]; exact HPA.out
              clear hse hno hl4 HPA
              generalize hk6 : k5 + (signE (n : Int)).length = k6 at *
              have HM6 : Hid (m5 ≤ k6) := by have := HM5.out; unfold Hid; omega
              clear hk6
              generalize str (signE (n : Int)) = us at *
              go_wp2_with fail
              refine HSG.out.mono ?_
              clear HSG
              rintro e w9 ⟨rfl, hb9⟩
              have HTK := Lib.hid (HTB.out w9 (hR.out.1.below hb9))
              have HO9 : Hid (Only (Just b) w6 w9) := hR.out.2.trans (Only.of_below hb9)
              clear hb9 HTB
              go_wp2_with fail
              refine HTK.out.mono ?_
              clear HTK
              rintro e w10 ⟨rfl, hS10, hO10⟩
              have HO10 : Hid (Only (Just b) w6 w10) := HO9.out.trans hO10
              have HC := Lib.hid (HRO.out w10 k6 m5 hS10 HD5.out.2 HM6.out)
              clear hS10 hO10 HO9 HRO
              go_wp2_with fail
              refine HC.out.mono ?_
              clear HC
              rintro e w7 ⟨hAns, hO7'⟩
              have hO7 := HO10.out.trans hO7'
              have hsz7 := Only.size hO7
              have H7 : Hid (PBox w7 w.heap.size 0 0 ⟨#[]⟩ (.slice none 0 0) ∧ Only (Just b) w w7 ∧ (w7.heap[w5.heap.size]? = some (.cells #[.int .i64 p.k, .int .i64 p.n, .string p.t, .slice p2 p.F.length cap2] 54 (0, 0)) ∧ w5.heap.size ≠ b) ∧ w5.heap.size + 1 ≤ w7.heap.size) := ⟨pb_keep H6.out.1 hO7 H2.out.2.2.1, H6.out.2.1.trans hO7, ⟨pb_keep H6.out.2.2.1 hO7 (by have := HQ.out.1; have := H6.out.2.2.2.1; omega), by have := HQ.out.1; have := H6.out.2.2.2.1; omega⟩, by have := H6.out.2.2.2.2.1; omega⟩

              have h107 := hO7'.size
              have hs610 := HO10.out.size
              rcases hAns with ⟨q, k7, m7, v7, bs7, rfl, ho7, hnd7, hbs7, hS7, hk7, hQ⟩ | ⟨kk, nn, t, a, l, c, k7, rfl, hS7, hk7, hN⟩
              rotate_left
              · have HS7 := Lib.hid hS7
                have HK : Hid (k7 ≤ s.size) := hk7
                have HNO : Hid (NoneP 2097152 (s.data.toList.drop k) m d) := by unfold Hid; rw [HDR.out.1]; exact op_none3 HIN.out HPA2.out hN
                clear hS7 hk7 hN hO7 hO7' hsz7 h107 hs610
                obtain ⟨w8, hw8⟩ : ∃ w8, w8 = w7.alloc (.cells #[.int .i64 kk, .int .i64 nn, .string t, .slice a l c] 54) := ⟨_, rfl⟩
                have hB8 : Below w7.heap.size w7 w8 := by rw [hw8]; exact (Below.refl _ _).alloc (Nat.le_refl _) _
                have hn8 : w8.heap[w7.heap.size]? = some (.cells #[.int .i64 kk, .int .i64 nn, .string t, .slice a l c] 54 (0, 0)) := by rw [hw8]; exact heap_at_new w7 _
                have hs8 : w8.heap.size = w7.heap.size + 1 := by rw [hw8]; exact Array.size_push _
                have hS8 := SAt.below HS7.out hB8
                obtain ⟨w9, hw9⟩ : ∃ w9, w9 = w8.setCell ⟨b, 2, none⟩ (.bool true) := ⟨_, rfl⟩
                have k9 : ∀ c, c ≠ b → w9.heap[c]? = w8.heap[c]? := fun c hc => by rw [hw9]; exact Below.heap_setCell _ _ _ _ (by show c ≠ b; exact hc)
                have hs9 : w9.heap.size = w8.heap.size := by rw [hw9]; simp [World.setCell]
                have hS9 : SAt w9 b s k7 true := by rw [hw9]; exact hS8.fail _
                have hsw := Only.size H7.out.2.1
                have hlb := HQ.out.1
                have hA9 : w9.heap[w5.heap.size]? = some (.cells #[.int .i64 p.k, .int .i64 p.n, .string p.t, .slice p2 p.F.length cap2] 54 (0, 0)) := (k9 _ (by have := H7.out.2.2.1.2; omega)).trans ((hB8.block _ (Array.getElem?_eq_some_iff.1 H7.out.2.2.1.1).1).trans H7.out.2.2.1.1)
                have hB9 : w9.heap[w7.heap.size]? = some (.cells #[.int .i64 kk, .int .i64 nn, .string t, .slice a l c] 54 (0, 0)) := (k9 _ (by omega)).trans hn8
                have hP9 : PBox w9 w.heap.size 0 0 ⟨#[]⟩ (.slice none 0 0) := (k9 _ (by omega)).trans ((hB8.block _ (Array.getElem?_eq_some_iff.1 H7.out.1).1).trans H7.out.1)
                have hO9 : Only (Just b) w w9 := (Only.trans H7.out.2.1 (Only.of_below (F := Just b) hB8)).trans ⟨by rw [hw9]; rfl, by rw [hw9]; rfl, by rw [hw9]; rfl, by omega, fun c _ hn => k9 c hn⟩
                obtain ⟨w10, hw10⟩ : ∃ w10, w10 = w9.alloc (.cells #[.int .i64 p.k, .int .i64 p.n, .string p.t, .slice p2 p.F.length cap2, .int .i64 kk, .int .i64 nn, .string t, .slice a l c] 54) := ⟨_, rfl⟩
                have hB10 : Below w9.heap.size w9 w10 := by rw [hw10]; exact (Below.refl _ _).alloc (Nat.le_refl _) _
                have hn10 : w10.heap[w9.heap.size]? = some (.cells #[.int .i64 p.k, .int .i64 p.n, .string p.t, .slice p2 p.F.length cap2, .int .i64 kk, .int .i64 nn, .string t, .slice a l c] 54 (0, 0)) := by rw [hw10]; exact heap_at_new w9 _
                have hs10 : w10.heap.size = w9.heap.size + 1 := by rw [hw10]; exact Array.size_push _
                have hP10 : PBox w10 w.heap.size 0 0 ⟨#[]⟩ (.slice none 0 0) := (hB10.block _ (Array.getElem?_eq_some_iff.1 hP9).1).trans hP9
                have hS10 := hS9.below hB10
                have hO10 : Only (Just b) w w10 := hO9.trans (Only.of_below hB10)
                obtain ⟨c0, c1, c2, f1, f2⟩ := hS8.cells
                obtain ⟨x0, x1, x2, x3, _, _, _, _⟩ := four_cells hA9
                obtain ⟨y0, y1, y2, y3, _, _, _, _⟩ := four_cells hB9
                obtain ⟨i0, i1, i2, i3, j0, j1, j2, j3⟩ := four_cells hP10
                have H10 : Hid (PBox w10 w.heap.size 0 0 ⟨#[]⟩ (.slice none 0 0) ∧ SAt w10 b s k7 true ∧ Only (Just b) w w10) := ⟨hP10, hS10, hO10⟩

                clear hB8 hn8 hs8 hS8 k9 hs9 hS9 hsw hA9 hB9 hP9 hO9 hB10 hn10 hs10 hP10 hS10 hO10
                subst hw10 hw9 hw8
                go_wp2
                refine bodyPost_ret (results_cell_row rfl _ _ w.heap.size _ _ _ _ rfl (set4_box H10.out.1 _ _ _ _) Tryz.underlying54 rfl (by kernel_rfl)) rfl ?_
                exact sp_none rfl H10.out.2.1 HK.out HNO.out H10.out.2.2 (Nat.le_refl _) (by have := HQ.out.1; omega)

              · obtain ⟨p7, cap7, rfl, _, _⟩ := ho7.reads
                have HOA7 : Hid (OwnV w7 (.slice p2 p.F.length cap2) p.F bs) := HOA.out.1.keep (fun c hc => hO7.block c (by have := HOA.out.2.2 c hc; have := H6.out.2.2.2.2.1; omega) (by have := HOA.out.2.2 c hc; have := HQ.out.1; show ¬ c = b; omega))
                have HOB7 : Hid (OwnV w7 (.slice p7 q.F.length cap7) q.F bs7 ∧ bs7.Nodup ∧ ∀ c ∈ bs7, w6.heap.size ≤ c ∧ c < w7.heap.size) := ⟨ho7, hnd7, fun c hc => by have := hbs7 c hc; omega⟩
                have HOKQ : Hid (OkP 2097152 (s.data.toList.drop k6) m5 (d + 1) q (s.data.toList.drop k7) m7) := hQ
                have HK7 : Hid (k7 ≤ s.size) := hk7
                obtain ⟨w8b, hw8b⟩ : ∃ w8b, w8b = w7.alloc (.cells #[.int .i64 q.k, .int .i64 q.n, .string q.t, .slice p7 q.F.length cap7] 54) := ⟨_, rfl⟩
                have hB8b : Below w7.heap.size w7 w8b := by rw [hw8b]; exact (Below.refl _ _).alloc (Nat.le_refl _) _
                have hn8b : w8b.heap[w7.heap.size]? = some (.cells #[.int .i64 q.k, .int .i64 q.n, .string q.t, .slice p7 q.F.length cap7] 54 (0, 0)) := by rw [hw8b]; exact heap_at_new w7 _
                have hs8b : w8b.heap.size = w7.heap.size + 1 := by rw [hw8b]; exact Array.size_push _
                have hS8b := hS7.below hB8b
                obtain ⟨c0, c1, c2, f1, f2⟩ := hS8b.cells
                have HS8 := Lib.hid hS8b
                have H8 : Hid (PBox w8b w.heap.size 0 0 ⟨#[]⟩ (.slice none 0 0) ∧ Only (Just b) w w8b ∧ w8b.heap[w5.heap.size]? = some (.cells #[.int .i64 p.k, .int .i64 p.n, .string p.t, .slice p2 p.F.length cap2] 54 (0, 0)) ∧ w8b.heap[w7.heap.size]? = some (.cells #[.int .i64 q.k, .int .i64 q.n, .string q.t, .slice p7 q.F.length cap7] 54 (0, 0)) ∧ w8b.heap.size = w7.heap.size + 1 ∧ OwnV w8b (.slice p2 p.F.length cap2) p.F bs ∧ OwnV w8b (.slice p7 q.F.length cap7) q.F bs7) :=
                  ⟨(hB8b.block _ (Array.getElem?_eq_some_iff.1 H7.out.1).1).trans H7.out.1, H7.out.2.1.trans (Only.of_below hB8b), (hB8b.block _ (Array.getElem?_eq_some_iff.1 H7.out.2.2.1.1).1).trans H7.out.2.2.1.1, hn8b, hs8b, HOA7.out.keep (fun c hc => hB8b.block c (by have := HOA.out.2.2 c hc; have := H7.out.2.2.2; omega)), ho7.keep (fun c hc => hB8b.block c (hbs7 c hc).2)⟩
                have HW8 := Lib.hid hw8b
                rw [hw8b] at c0 c1 c2 f1 f2
                clear hB8b hn8b hs8b hS8b hw8b ho7 hnd7 hbs7 hS7 hk7 hQ hO7 hO7' hsz7 h107 hs610 HOA7
                have hn00 : ((n : Int) == 0) = false := by simp; omega
                cases hse : sees s k7 [41] with
                | false =>
                  have HTK := Lib.hid (take_no w8b b s k7 [41] HS8.out HQ.out.2.1 HK7.out (by simp) hse)
                  have HNO : Hid (NoneP 2097152 (s.data.toList.drop k) m d) := by unfold Hid; rw [HDR.out.1]; exact op_none4 HIN.out HPA2.out HOKQ.out (fun x => sees_false hse x)
                  clear hse
                  go_wp2_with fail
                  rw [← HW8.out]
                  refine HTK.out.mono ?_
                  clear HTK c0 c1 c2 f1 f2
                  rintro e w9 ⟨rfl, hS9, hO9⟩
                  have hlb := HQ.out.1
                  have hsz9 := hO9.size
                  have k9 : ∀ c, c < w8b.heap.size → c ≠ b → w9.heap[c]? = w8b.heap[c]? := fun c hc hn => hO9.block c hc hn
                  obtain ⟨w9b, hw9b⟩ : ∃ w9b, w9b = w9.setCell ⟨b, 2, none⟩ (.bool true) := ⟨_, rfl⟩
                  have k9b : ∀ c, c ≠ b → w9b.heap[c]? = w9.heap[c]? := fun c hc => by rw [hw9b]; exact Below.heap_setCell _ _ _ _ (by show c ≠ b; exact hc)
                  have hs9b : w9b.heap.size = w9.heap.size := by rw [hw9b]; simp [World.setCell]
                  have hS9b : SAt w9b b s (k7) true := by rw [hw9b]; exact hS9.fail _
                  obtain ⟨b1, b2, b3, b4, b5, b6, b7⟩ := H8.out
                  have b8 := H7.out.2.2.2
                  have b9 := H6.out.2.2.2.1
                  have hA9 := (k9b w5.heap.size (by omega)).trans ((k9 _ (by omega) (by omega)).trans b3)
                  have hB9 := (k9b w7.heap.size (by omega)).trans ((k9 _ (by omega) (by omega)).trans b4)
                  have hP9 : PBox w9b w.heap.size 0 0 ⟨#[]⟩ (.slice none 0 0) := (k9b _ (by omega)).trans ((k9 _ (by omega) (by omega)).trans b1)
                  have hO9b : Only (Just b) w w9b := (b2.trans hO9).trans ⟨by rw [hw9b]; rfl, by rw [hw9b]; rfl, by rw [hw9b]; rfl, by omega, fun c _ hn => k9b c hn⟩
                  have oA : OwnV w9b (.slice p2 p.F.length cap2) p.F bs := b6.keep (fun c hc => (k9b c (by have := HOA.out.2.2 c hc; omega)).trans (k9 c (by have := HOA.out.2.2 c hc; omega) (by have := HOA.out.2.2 c hc; omega)))
                  have oB : OwnV w9b (.slice p7 q.F.length cap7) q.F bs7 := b7.keep (fun c hc => (k9b c (by have := HOB7.out.2.2 c hc; have := H6.out.2.2.2.2.1; omega)).trans (k9 c (by have := HOB7.out.2.2 c hc; omega) (by have := HOB7.out.2.2 c hc; have := H6.out.2.2.2.2.1; omega)))
                  obtain ⟨w10b, hw10b⟩ : ∃ w10b, w10b = w9b.alloc (.cells #[.int .i64 p.k, .int .i64 p.n, .string p.t, .slice p2 p.F.length cap2, .int .i64 q.k, .int .i64 q.n, .string q.t, .slice p7 q.F.length cap7] 54) := ⟨_, rfl⟩
                  have hB10 : Below w9b.heap.size w9b w10b := by rw [hw10b]; exact (Below.refl _ _).alloc (Nat.le_refl _) _
                  have hn10 : w10b.heap[w9b.heap.size]? = some (.cells #[.int .i64 p.k, .int .i64 p.n, .string p.t, .slice p2 p.F.length cap2, .int .i64 q.k, .int .i64 q.n, .string q.t, .slice p7 q.F.length cap7] 54 (0, 0)) := by rw [hw10b]; exact heap_at_new w9b _
                  have hs10 : w10b.heap.size = w9b.heap.size + 1 := by rw [hw10b]; exact Array.size_push _
                  have hP10 : PBox w10b w.heap.size 0 0 ⟨#[]⟩ (.slice none 0 0) := (hB10.block _ (Array.getElem?_eq_some_iff.1 hP9).1).trans hP9
                  have hn10' : w10b.heap[w9.heap.size]? = some (.cells #[.int .i64 p.k, .int .i64 p.n, .string p.t, .slice p2 p.F.length cap2, .int .i64 q.k, .int .i64 q.n, .string q.t, .slice p7 q.F.length cap7] 54 (0, 0)) := by rw [← hs9b]; exact hn10
                  have lA : ∀ c ∈ bs, w.heap.size + 1 ≤ c ∧ c < w9.heap.size := fun c hc => by have := HOA.out.2.2 c hc; omega
                  have lB : ∀ c ∈ bs7, w.heap.size + 1 ≤ c ∧ c < w9.heap.size := fun c hc => by have := HOB7.out.2.2 c hc; have := H6.out.2.2.2.2.1; omega
                  have HROW : Hid (OwnV w10b (.slice (some ⟨w9.heap.size, 0, none⟩) 2 2) (p.one (q.one .nil)) (w9.heap.size :: (bs ++ bs7)) ∧ w10b.heap.size = w9.heap.size + 1 ∧ (∀ c ∈ bs, w.heap.size + 1 ≤ c ∧ c < w9.heap.size) ∧ (∀ c ∈ bs7, w.heap.size + 1 ≤ c ∧ c < w9.heap.size) ∧ w.heap.size + 1 ≤ w9.heap.size) := ⟨own_two hn10' (oA.keep (fun c hc => hB10.block c (by have := (lA c hc).2; omega))) (oB.keep (fun c hc => hB10.block c (by have := (lB c hc).2; omega))), by omega, lA, lB, by omega⟩
                  have H10 : Hid (PBox w10b w.heap.size 0 0 ⟨#[]⟩ (.slice none 0 0) ∧ SAt w10b b s (k7) true ∧ Only (Just b) w w10b) := ⟨hP10, hS9b.below hB10, hO9b.trans (Only.of_below hB10)⟩
                  obtain ⟨c0, c1, c2, f1, f2⟩ := hS9.cells
                  obtain ⟨x0, x1, x2, x3, _, _, _, _⟩ := four_cells hA9
                  obtain ⟨y0, y1, y2, y3, _, _, _, _⟩ := four_cells hB9
                  obtain ⟨i0, i1, i2, i3, j0, j1, j2, j3⟩ := four_cells hP10
                  clear hS9 hO9 hsz9 k9 k9b hs9b hS9b b1 b2 b3 b4 b5 b6 b7 b8 b9 hA9 hB9 hP9 hO9b oA oB hB10 hn10 hn10' hs10 hP10 lA lB
                  subst hw10b hw9b
                  go_wp2
                  refine bodyPost_ret (results_cell_row rfl _ _ w.heap.size _ _ _ _ rfl (set4_box H10.out.1 _ _ _ _) Tryz.underlying54 rfl (by kernel_rfl)) rfl ?_
                  exact sp_none rfl H10.out.2.1 HK7.out HNO.out H10.out.2.2 (Nat.le_refl _) (by have := HQ.out.1; omega)
                | true =>
                  have HTK := Lib.hid (take_yes w8b b s k7 [41] HS8.out HQ.out.2.1 HK7.out (by simp) hse)
                  have HK := Lib.hid (sees_true hse HK7.out)
                  have HOK : Hid (OkP 2097152 (s.data.toList.drop k) m d ⟨3, (n : Int), ⟨#[]⟩, p.one (q.one .nil)⟩ (s.data.toList.drop (k7 + 1)) m7) := by
                    have hq2 := HOKQ.out
                    rw [HK.out.1] at hq2
                    unfold Hid
                    rw [HDR.out.1]
                    exact op_ok HIN.out HPA2.out hq2
                  clear hse
                  go_wp2_with fail
                  rw [← HW8.out]
                  refine HTK.out.mono ?_
                  clear HTK c0 c1 c2 f1 f2
                  rintro e w9 ⟨rfl, hS9, hO9⟩
                  have HSZ9 := Lib.hid hO9.size
                  have hlb := HQ.out.1
                  have hsz9 := hO9.size
                  have k9 : ∀ c, c < w8b.heap.size → c ≠ b → w9.heap[c]? = w8b.heap[c]? := fun c hc hn => hO9.block c hc hn
                  obtain ⟨w9b, hw9b⟩ : ∃ w9b, w9b = w9.setCell ⟨b, 2, none⟩ (.bool false) := ⟨_, rfl⟩
                  have k9b : ∀ c, c ≠ b → w9b.heap[c]? = w9.heap[c]? := fun c hc => by rw [hw9b]; exact Below.heap_setCell _ _ _ _ (by show c ≠ b; exact hc)
                  have hs9b : w9b.heap.size = w9.heap.size := by rw [hw9b]; simp [World.setCell]
                  have hS9b : SAt w9b b s (k7 + 1) false := by rw [hw9b]; exact hS9.fail _
                  obtain ⟨b1, b2, b3, b4, b5, b6, b7⟩ := H8.out
                  have b8 := H7.out.2.2.2
                  have b9 := H6.out.2.2.2.1
                  have hA9 := (k9b w5.heap.size (by omega)).trans ((k9 _ (by omega) (by omega)).trans b3)
                  have hB9 := (k9b w7.heap.size (by omega)).trans ((k9 _ (by omega) (by omega)).trans b4)
                  have hP9 : PBox w9b w.heap.size 0 0 ⟨#[]⟩ (.slice none 0 0) := (k9b _ (by omega)).trans ((k9 _ (by omega) (by omega)).trans b1)
                  have hO9b : Only (Just b) w w9b := (b2.trans hO9).trans ⟨by rw [hw9b]; rfl, by rw [hw9b]; rfl, by rw [hw9b]; rfl, by omega, fun c _ hn => k9b c hn⟩
                  have oA : OwnV w9b (.slice p2 p.F.length cap2) p.F bs := b6.keep (fun c hc => (k9b c (by have := HOA.out.2.2 c hc; omega)).trans (k9 c (by have := HOA.out.2.2 c hc; omega) (by have := HOA.out.2.2 c hc; omega)))
                  have oB : OwnV w9b (.slice p7 q.F.length cap7) q.F bs7 := b7.keep (fun c hc => (k9b c (by have := HOB7.out.2.2 c hc; have := H6.out.2.2.2.2.1; omega)).trans (k9 c (by have := HOB7.out.2.2 c hc; omega) (by have := HOB7.out.2.2 c hc; have := H6.out.2.2.2.2.1; omega)))
                  obtain ⟨w10b, hw10b⟩ : ∃ w10b, w10b = w9b.alloc (.cells #[.int .i64 p.k, .int .i64 p.n, .string p.t, .slice p2 p.F.length cap2, .int .i64 q.k, .int .i64 q.n, .string q.t, .slice p7 q.F.length cap7] 54) := ⟨_, rfl⟩
                  have hB10 : Below w9b.heap.size w9b w10b := by rw [hw10b]; exact (Below.refl _ _).alloc (Nat.le_refl _) _
                  have hn10 : w10b.heap[w9b.heap.size]? = some (.cells #[.int .i64 p.k, .int .i64 p.n, .string p.t, .slice p2 p.F.length cap2, .int .i64 q.k, .int .i64 q.n, .string q.t, .slice p7 q.F.length cap7] 54 (0, 0)) := by rw [hw10b]; exact heap_at_new w9b _
                  have hs10 : w10b.heap.size = w9b.heap.size + 1 := by rw [hw10b]; exact Array.size_push _
                  have hP10 : PBox w10b w.heap.size 0 0 ⟨#[]⟩ (.slice none 0 0) := (hB10.block _ (Array.getElem?_eq_some_iff.1 hP9).1).trans hP9
                  have hn10' : w10b.heap[w9.heap.size]? = some (.cells #[.int .i64 p.k, .int .i64 p.n, .string p.t, .slice p2 p.F.length cap2, .int .i64 q.k, .int .i64 q.n, .string q.t, .slice p7 q.F.length cap7] 54 (0, 0)) := by rw [← hs9b]; exact hn10
                  have lA : ∀ c ∈ bs, w.heap.size + 1 ≤ c ∧ c < w9.heap.size := fun c hc => by have := HOA.out.2.2 c hc; omega
                  have lB : ∀ c ∈ bs7, w.heap.size + 1 ≤ c ∧ c < w9.heap.size := fun c hc => by have := HOB7.out.2.2 c hc; have := H6.out.2.2.2.2.1; omega
                  have HROW : Hid (OwnV w10b (.slice (some ⟨w9.heap.size, 0, none⟩) 2 2) (p.one (q.one .nil)) (w9.heap.size :: (bs ++ bs7)) ∧ w10b.heap.size = w9.heap.size + 1 ∧ (∀ c ∈ bs, w.heap.size + 1 ≤ c ∧ c < w9.heap.size) ∧ (∀ c ∈ bs7, w.heap.size + 1 ≤ c ∧ c < w9.heap.size) ∧ w.heap.size + 1 ≤ w9.heap.size) := ⟨own_two hn10' (oA.keep (fun c hc => hB10.block c (by have := (lA c hc).2; omega))) (oB.keep (fun c hc => hB10.block c (by have := (lB c hc).2; omega))), by omega, lA, lB, by omega⟩
                  have H10 : Hid (PBox w10b w.heap.size 0 0 ⟨#[]⟩ (.slice none 0 0) ∧ SAt w10b b s (k7 + 1) false ∧ Only (Just b) w w10b) := ⟨hP10, hS9b.below hB10, hO9b.trans (Only.of_below hB10)⟩
                  obtain ⟨c0, c1, c2, f1, f2⟩ := hS9.cells
                  obtain ⟨x0, x1, x2, x3, _, _, _, _⟩ := four_cells hA9
                  obtain ⟨y0, y1, y2, y3, _, _, _, _⟩ := four_cells hB9
                  obtain ⟨i0, i1, i2, i3, j0, j1, j2, j3⟩ := four_cells hP10
                  clear hS9 hO9 hsz9 k9 k9b hs9b hS9b b1 b2 b3 b4 b5 b6 b7 b8 b9 hA9 hB9 hP9 hO9b oA oB hB10 hn10 hn10' hs10 hP10 lA lB
                  subst hw10b hw9b
                  go_wp2
                  refine bodyPost_ret (results_cell_row rfl _ _ w.heap.size _ _ _ _ rfl (set4_box H10.out.1 _ _ _ _) Tryz.underlying54 rfl (by kernel_rfl)) rfl ?_
                  obtain ⟨q1, q2, q3, q4, q5⟩ := HROW.out
                  refine sp_some (p := ⟨3, (n : Int), ⟨#[]⟩, p.one (q.one .nil)⟩) rfl q1 (List.nodup_cons.2 ⟨fun hc => ?_, List.nodup_append.2 ⟨HOA.out.2.1, HOB7.out.2.1, fun x hx y hy e => ?_⟩⟩) (fun c hc => ?_) (fun c hc => ?_) H10.out.2.1 HK.out.2 HOK.out H10.out.2.2 (Nat.le_refl _) (by have := HQ.out.1; omega)
                  · rcases List.mem_append.1 hc with hc | hc
                    · have := q3 _ hc; omega
                    · have := q4 _ hc; omega
                  · have := HOA.out.2.2 _ hx; have := HOB7.out.2.2 _ hy; have := H6.out.2.2.2.2.1; omega
                  · rcases List.mem_cons.1 hc with rfl | hc
                    · exact ⟨by omega, Nat.lt_of_lt_of_eq (Nat.lt_succ_self _) q2.symm⟩
                    · rcases List.mem_append.1 hc with hc | hc
                      · have := q3 _ hc; exact ⟨by omega, Nat.lt_of_lt_of_eq (Nat.lt_succ_of_lt this.2) q2.symm⟩
                      · have := q4 _ hc; exact ⟨by omega, Nat.lt_of_lt_of_eq (Nat.lt_succ_of_lt this.2) q2.symm⟩
                  · rcases List.mem_cons.1 hc with rfl | hc
                    · omega
                    · rcases List.mem_append.1 hc with hc | hc
                      · have := q3 _ hc; omega
                      · have := q4 _ hc; omega
    | false =>
      have HTK := Lib.hid (fun W hW => take_no W b s k [40] hW HQ.out.2.1 HQ.out.2.2.1 (by simp) hse)
      have HN40 : Hid (∀ x, s.data.toList.drop k ≠ 40 :: x) := fun x => sees_false hse x
      clear hse
      go_enter Tryz.func94, Tryz.ntmps94
      go_wp2_with fail
      rw [← HW2.out]
      refine HS.out.mono ?_
      clear HS c0 c1 c2 f1 f2 d0 d1 d2 g1 g2
      rintro e w3 ⟨rfl, hS3, hO3⟩
      have HS := Lib.hid (HTK.out w3 hS3)
      have H3 : Hid (PBox w3 w.heap.size 0 0 ⟨#[]⟩ (.slice none 0 0) ∧ Only (Just b) w w3) := ⟨pb_keep H2.out.1 hO3 H2.out.2.2.1, H2.out.2.1.trans hO3⟩
      clear hS3 hO3 HTK HRO
      go_wp2_with fail
      refine HS.out.mono ?_
      clear HS
      rintro e w4 ⟨rfl, hS4, hO4⟩
      have HC := Lib.hid (spec_word_loop w4 b s k hS4 HQ.out.2.1 HQ.out.2.2.1)
      have H4 : Hid (PBox w4 w.heap.size 0 0 ⟨#[]⟩ (.slice none 0 0) ∧ Only (Just b) w w4) := ⟨pb_keep H3.out.1 hO4 H2.out.2.2.1, H3.out.2.trans hO4⟩
      clear hS4 hO4
      go_wp2_with fail
      refine HC.out.mono ?_
      clear HC
      rintro e w5 ⟨⟨j, hj1, hj2, hj3, hj4, rfl, hS5⟩, hO5⟩
      have HA : Hid (AtWord (s.data.toList.drop k) (s.extract k j).data.toList (s.data.toList.drop j)) := at_wordS HQ.out.2.2.1 hj1 hj2 hj3 hj4 HN33.out HN40.out
      have H5 : Hid (PBox w5 w.heap.size 0 0 ⟨#[]⟩ (.slice none 0 0) ∧ Only (Just b) w w5 ∧ SAt w5 b s j false ∧ j ≤ s.size) := ⟨pb_keep H4.out.1 hO5 H2.out.2.2.1, H4.out.2.trans hO5, hS5, hj2⟩
      have htl : (s.extract k j).size ≤ 1048576 := by have := HQ.out.2.1; rw [ByteArray.size_extract]; omega
      clear hj1 hj2 hj3 hj4 hS5 hO5 H4 H3 HN33 HN40
      generalize s.extract k j = t at *
      have HP := Lib.hid (spec_ParseInt t htl w5)
      have HNm := Lib.hid (fun W => spec_name t (by unfold maxLen; omega) W)
      have hin : ∀ n, (-999999999999 ≤ n ∧ n ≤ 999999999999) ↔ inInt n = true := fun n => by simp [inInt]
      have HBk : Hid (∀ W, Below w5.heap.size w5 W → PBox W w.heap.size 0 0 ⟨#[]⟩ (.slice none 0 0) ∧ Only (Just b) w W ∧ SAt W b s j false) := fun W hb => ⟨(hb.block _ (Array.getElem?_eq_some_iff.1 H5.out.1).1).trans H5.out.1, H5.out.2.1.trans (Only.of_below hb), H5.out.2.2.1.below hb⟩
      have HJ : Hid (j ≤ s.size) := H5.out.2.2.2
      clear htl H5
      cases hRd : readOf (-999999999999) 999999999999 t.data.toList with
      | some n =>
        rw [hRd] at HP
        obtain ⟨i1, i2, i3⟩ := (readOf_iff (by omega) (by omega)).1 hRd
        have HI := Lib.hid (int_ok (N := 2097152) (m := m) (d := d) HA.out HQ.out.2.2.2.2 HD.out ((hin n).1 ⟨i1, i2⟩) i3)
        clear hRd i1 i2 i3 hin HNm
        go_wp2_with fail
        refine HP.out.mono ?_
        clear HP
        rintro e w6 ⟨he, hb⟩
        obtain rfl : e = .returned (.tuple #[.int .i64 n, .bool true]) := he
        have H10 := Lib.hid (HBk.out w6 hb)
        obtain ⟨x0, x1, x2, x3, f0, f1, f2, f3⟩ := four_cells H10.out.1
        clear hb HBk
        go_wp2
        refine bodyPost_ret (results_cell_row rfl _ _ w.heap.size _ _ _ _ rfl (set4_box H10.out.1 _ _ _ _) Tryz.underlying54 rfl (by kernel_rfl)) rfl ?_
        exact sp_leaf rfl H10.out.2.2 HJ.out HI.out H10.out.2.1 (Nat.le_refl _) (by have := HQ.out.1; omega)
      | none =>
        rw [hRd] at HP
        have HNI : Hid (∀ n, inInt n = true → Lib.itoa n ≠ t.data.toList) := fun n hn he => by
          have := (readOf_iff (by omega) (by omega)).2 ⟨((hin n).2 hn).1, ((hin n).2 hn).2, he⟩
          rw [hRd] at this
          cases this
        clear hRd hin
        go_wp2_with fail
        refine HP.out.mono ?_
        clear HP
        rintro e w6 ⟨he, hb⟩
        obtain rfl : e = .returned (.tuple #[.int .i64 0, .bool false]) := he
        have HB6 := Lib.hid hb
        obtain ⟨c0, c1, c2, f1, f2⟩ := (HBk.out w6 hb).2.2.cells
        clear hb
        by_cases hN : Name t
        · have HI := Lib.hid (var_ok (N := 2097152) (m := m) (d := d) HA.out hN HQ.out.2.2.2.2 HD.out)
          rw [bl_true hN] at HNm
          clear hN
          go_wp2_with fail
          refine (HNm.out w6).mono ?_
          clear HNm
          rintro e w7 ⟨rfl, hb7⟩
          obtain ⟨e1, e2, e3⟩ := HBk.out w7 (HB6.out.trans (hb7.mono HB6.out.size))
          obtain ⟨w8, hw8⟩ : ∃ w8, w8 = w7.setCell ⟨b, 2, none⟩ (.bool false) := ⟨_, rfl⟩
          have k8 : ∀ c, c ≠ b → w8.heap[c]? = w7.heap[c]? := fun c hc => by rw [hw8]; exact Below.heap_setCell _ _ _ _ (by show c ≠ b; exact hc)
          have hP8 : PBox w8 w.heap.size 0 0 ⟨#[]⟩ (.slice none 0 0) := (k8 _ H2.out.2.2.1).trans e1
          have H10 : Hid (PBox w8 w.heap.size 0 0 ⟨#[]⟩ (.slice none 0 0) ∧ Only (Just b) w w8 ∧ SAt w8 b s j false) := ⟨hP8, e2.trans ⟨by rw [hw8]; rfl, by rw [hw8]; rfl, by rw [hw8]; rfl, by rw [hw8]; simp [World.setCell], fun c _ hn => k8 c hn⟩, by rw [hw8]; exact e3.fail _⟩
          obtain ⟨c0, c1, c2, f1, f2⟩ := e3.cells
          obtain ⟨x0, x1, x2, x3, i0, i1, i2, i3⟩ := four_cells hP8
          clear k8 hP8 e1 e2 e3 hb7 HBk HB6
          subst hw8
          go_wp2
          refine bodyPost_ret (results_cell_row rfl _ _ w.heap.size _ _ _ _ rfl (set4_box H10.out.1 _ _ _ _) Tryz.underlying54 rfl (by kernel_rfl)) rfl ?_
          exact sp_leaf rfl H10.out.2.2 HJ.out HI.out H10.out.2.1 (Nat.le_refl _) (by have := HQ.out.1; omega)
        · have HNO : Hid (NoneP 2097152 (s.data.toList.drop k) m d) := word_none HA.out (by rw [str_data]; exact hN) HNI.out
          rw [bl_false hN] at HNm
          clear hN
          go_wp2_with fail
          refine (HNm.out w6).mono ?_
          clear HNm
          rintro e w7 ⟨rfl, hb7⟩
          obtain ⟨e1, e2, e3⟩ := HBk.out w7 (HB6.out.trans (hb7.mono HB6.out.size))
          obtain ⟨w8, hw8⟩ : ∃ w8, w8 = w7.setCell ⟨b, 2, none⟩ (.bool true) := ⟨_, rfl⟩
          have k8 : ∀ c, c ≠ b → w8.heap[c]? = w7.heap[c]? := fun c hc => by rw [hw8]; exact Below.heap_setCell _ _ _ _ (by show c ≠ b; exact hc)
          have hP8 : PBox w8 w.heap.size 0 0 ⟨#[]⟩ (.slice none 0 0) := (k8 _ H2.out.2.2.1).trans e1
          have H10 : Hid (PBox w8 w.heap.size 0 0 ⟨#[]⟩ (.slice none 0 0) ∧ Only (Just b) w w8 ∧ SAt w8 b s j true) := ⟨hP8, e2.trans ⟨by rw [hw8]; rfl, by rw [hw8]; rfl, by rw [hw8]; rfl, by rw [hw8]; simp [World.setCell], fun c _ hn => k8 c hn⟩, by rw [hw8]; exact e3.fail _⟩
          obtain ⟨c0, c1, c2, f1, f2⟩ := e3.cells
          obtain ⟨x0, x1, x2, x3, i0, i1, i2, i3⟩ := four_cells hP8
          clear k8 hP8 e1 e2 e3 hb7 HBk HB6
          subst hw8
          go_wp2
          refine bodyPost_ret (results_cell_row rfl _ _ w.heap.size _ _ _ _ rfl (set4_box H10.out.1 _ _ _ _) Tryz.underlying54 rfl (by kernel_rfl)) rfl ?_
          exact sp_none rfl H10.out.2.2 HJ.out HNO.out H10.out.2.1 (Nat.le_refl _) (by have := HQ.out.1; omega)

theorem spec_read_ok (b : Nat) : SReadOk b 1 := by
  have h7 : SReadOk b 7 := spec_expr b 7 (by omega) (fun h => by omega)
  have h6 := spec_expr b 6 (by omega) (fun _ => h7)
  have h5 := spec_expr b 5 (by omega) (fun _ => h6)
  have h4 := spec_expr b 4 (by omega) (fun _ => h5)
  have h3 := spec_expr b 3 (by omega) (fun _ => h4)
  have h2 := spec_expr b 2 (by omega) (fun _ => h3)
  exact spec_expr b 1 (by omega) (fun _ => h2)
end Go.Proofs.YtijbaienhaiamaaGreatDoor.Ex
end
