/- What is proved here: the model's l6Node says whether a node has one of the seven forms. Condition: its text fits. -/
import Derived.Test.YtdifefgigcjgeaaDoorPatForm
import Derived.Test.YtdifefgigcjgeaaDoorTreeCells
namespace Go.Proofs.YtdifefgigcjgeaaDoor
open Go.RowKit

set_option maxHeartbeats 4000000 in
set_option maxRecDepth 100000 in
theorem spec_form (w : World) (k n : Int) (t : ByteArray) (p : Option Addr) (l c : Nat) (ht : t.size ≤ maxLen) :
    Calls Tryd.prog 89 #[.agg #[.int .i64 k, .int .i64 n, .string t, .slice p l c]] w fun e w' => e = .returned (.bool (patForm k n t l)) ∧ Below w.heap.size w w' := by
  have hB0 : Below w.heap.size w (w.alloc (.cells #[.int .i64 k, .int .i64 n, .string t, .slice p l c] 29)) := (Below.refl _ _).alloc (Nat.le_refl _) _
  obtain ⟨c0, c1, c2, c3, _⟩ := four_cells (heap_at_new w (.cells #[.int .i64 k, .int .i64 n, .string t, .slice p l c] 29))
  obtain ⟨w0, hw0⟩ : ∃ w0, w0 = w.alloc (.cells #[.int .i64 k, .int .i64 n, .string t, .slice p l c] 29) := ⟨_, rfl⟩
  rw [← hw0] at hB0 c0 c1 c2 c3
  have HW0 := Lib.hid hw0
  have HB0 := Lib.hid hB0
  obtain ⟨z, hz⟩ : ∃ z, patForm k n t l = z := ⟨_, rfl⟩
  rw [hz]
  clear hw0 hB0
  by_cases hk1 : k = 1
  · have hk := hk1
    subst hk1
    clear hk
    by_cases hn : n = 0
    · subst hn
      by_cases he : t.size = 0
      · have hE := bl_true he
        obtain ⟨q, hl⟩ : ∃ q, bl (l = 0) = q := ⟨_, rfl⟩
        have hl0 : ((l : Int) == 0) = q := by rw [← hl]; exact bl_len l 0
        have HZ : Hid (z = q) := by unfold Hid; rw [← hz]; unfold patForm; generalize bl (t.size = 0) = e at hE ⊢; subst hE; simp [hl]
        clear hz hE
        obtain rfl := empty_of t he
        clear ht he
        go_enter Tryd.func89, Tryd.ntmps89
        go_wp2
        go_ret
        exact ⟨by rw [HZ.out]; rfl, by first | exact HB0.out | (rw [← HW0.out]; exact HB0.out)⟩
      · have hE := bl_false he
        have hne := ne_empty t (by omega)
        have hne2 := bl_empty t (by omega)
        have HZ : Hid (z = false) := by unfold Hid; rw [← hz]; unfold patForm; generalize bl (t.size = 0) = e at hE ⊢; subst hE; simp
        clear hz ht
        go_enter Tryd.func89, Tryd.ntmps89
        go_wp2
        go_ret
        exact ⟨by rw [HZ.out]; rfl, by first | exact HB0.out | (rw [← HW0.out]; exact HB0.out)⟩
    · have hn2 : (n == 0) = false := by simpa using hn
      have hn3 : (n != 0) = true := by simpa using hn
      have HZ : Hid (z = false) := by unfold Hid; rw [← hz]; unfold patForm; simp [hn]
      clear hz ht
      go_enter Tryd.func89, Tryd.ntmps89
      go_wp2
      go_ret
      exact ⟨by rw [HZ.out]; rfl, by first | exact HB0.out | (rw [← HW0.out]; exact HB0.out)⟩
  by_cases hk2 : k = 2
  · have hk := hk2
    subst hk2
    clear hk
    by_cases hn : n = 0
    · subst hn
      have HC : Hid (∀ w, Calls Tryd.prog 72 #[.string t] w fun e w' => e = .returned (.bool (bl (Name t))) ∧ Below w.heap.size w w') := fun w => spec_name t ht w
      cases hq : bl (Name t) with
      | false =>
        simp only [hq] at HC
        have HZ : Hid (z = false) := by unfold Hid; rw [← hz]; unfold patForm; simp [hq]
        clear hz ht
        go_enter Tryd.func89, Tryd.ntmps89
        go_wp2_with fail
        rw [← HW0.out]
        refine (HC.out w0).mono ?_
        rintro e w1 ⟨rfl, hb1⟩
        have c3 := cell_below c3 hb1
        have c2 := cell_below c2 hb1
        have c1 := cell_below c1 hb1
        have HB1 : Hid (Below w.heap.size w w1) := HB0.out.trans (hb1.mono HB0.out.size)
        clear hb1
        go_wp2
        go_ret
        exact ⟨by rw [HZ.out]; rfl, HB1.out⟩
      | true =>
        simp only [hq] at HC
        obtain ⟨q, hl⟩ : ∃ q, bl (l = 0) = q := ⟨_, rfl⟩
        have hl0 : ((l : Int) == 0) = q := by rw [← hl]; exact bl_len l 0
        have HZ : Hid (z = q) := by unfold Hid; rw [← hz]; unfold patForm; simp [hq, hl]
        clear hz ht
        go_enter Tryd.func89, Tryd.ntmps89
        go_wp2_with fail
        rw [← HW0.out]
        refine (HC.out w0).mono ?_
        rintro e w1 ⟨rfl, hb1⟩
        have c3 := cell_below c3 hb1
        have c2 := cell_below c2 hb1
        have c1 := cell_below c1 hb1
        have HB1 : Hid (Below w.heap.size w w1) := HB0.out.trans (hb1.mono HB0.out.size)
        clear hb1
        go_wp2
        go_ret
        exact ⟨by rw [HZ.out]; rfl, HB1.out⟩
    · have hn2 : (n == 0) = false := by simpa using hn
      have hn3 : (n != 0) = true := by simpa using hn
      have HZ : Hid (z = false) := by unfold Hid; rw [← hz]; unfold patForm; simp [hn]
      clear hz ht
      go_enter Tryd.func89, Tryd.ntmps89
      go_wp2
      go_ret
      exact ⟨by rw [HZ.out]; rfl, by first | exact HB0.out | (rw [← HW0.out]; exact HB0.out)⟩
  by_cases hk3 : k = 3
  · have hk := hk3
    subst hk3
    clear hk
    have HC : Hid (∀ w, Calls Tryd.prog 96 #[.int .i64 n, .int .i64 (-999999999999), .int .i64 999999999999] w fun e w' => e = .returned (.bool (inInt n)) ∧ Below w.heap.size w w') := fun w => (spec_inInt n w).mono (by rintro e w' ⟨rfl, rfl⟩; exact ⟨rfl, Below.refl _ _⟩)
    cases hq : inInt n with
    | false =>
      simp only [hq] at HC
      have HZ : Hid (z = false) := by unfold Hid; rw [← hz]; unfold patForm; simp [hq]
      clear hz ht
      go_enter Tryd.func89, Tryd.ntmps89
      go_wp2_with fail
      rw [← HW0.out]
      refine (HC.out w0).mono ?_
      rintro e w1 ⟨rfl, hb1⟩
      have c3 := cell_below c3 hb1
      have c2 := cell_below c2 hb1
      have c1 := cell_below c1 hb1
      have HB1 : Hid (Below w.heap.size w w1) := HB0.out.trans (hb1.mono HB0.out.size)
      clear hb1
      go_wp2
      go_ret
      exact ⟨by rw [HZ.out]; rfl, HB1.out⟩
    | true =>
      simp only [hq] at HC
      by_cases he : t.size = 0
      · have hE := bl_true he
        obtain ⟨q, hl⟩ : ∃ q, bl (l = 0) = q := ⟨_, rfl⟩
        have hl0 : ((l : Int) == 0) = q := by rw [← hl]; exact bl_len l 0
        have HZ : Hid (z = q) := by unfold Hid; rw [← hz]; unfold patForm; generalize bl (t.size = 0) = e at hE ⊢; subst hE; simp [hq, hl]
        clear hz hE
        obtain rfl := empty_of t he
        clear ht he
        go_enter Tryd.func89, Tryd.ntmps89
        go_wp2_with fail
        rw [← HW0.out]
        refine (HC.out w0).mono ?_
        rintro e w1 ⟨rfl, hb1⟩
        have c3 := cell_below c3 hb1
        have c2 := cell_below c2 hb1
        have c1 := cell_below c1 hb1
        have HB1 : Hid (Below w.heap.size w w1) := HB0.out.trans (hb1.mono HB0.out.size)
        clear hb1
        go_wp2
        go_ret
        exact ⟨by rw [HZ.out]; rfl, HB1.out⟩
      · have hE := bl_false he
        have hne := ne_empty t (by omega)
        have hne2 := bl_empty t (by omega)
        have HZ : Hid (z = false) := by unfold Hid; rw [← hz]; unfold patForm; generalize bl (t.size = 0) = e at hE ⊢; subst hE; simp [hq]
        clear hz ht
        go_enter Tryd.func89, Tryd.ntmps89
        go_wp2_with fail
        rw [← HW0.out]
        refine (HC.out w0).mono ?_
        rintro e w1 ⟨rfl, hb1⟩
        have c3 := cell_below c3 hb1
        have c2 := cell_below c2 hb1
        have c1 := cell_below c1 hb1
        have HB1 : Hid (Below w.heap.size w w1) := HB0.out.trans (hb1.mono HB0.out.size)
        clear hb1
        go_wp2
        go_ret
        exact ⟨by rw [HZ.out]; rfl, HB1.out⟩
  by_cases hk4 : k = 4
  · have hk := hk4
    subst hk4
    clear hk
    by_cases hn : n = 0
    · subst hn
      have HC : Hid (∀ w, Calls Tryd.prog 109 #[.string t] w fun e w' => e = .returned (.bool (bl (ValidText t))) ∧ Below w.heap.size w w') := fun w => spec_text t ht w
      cases hq : bl (ValidText t) with
      | false =>
        simp only [hq] at HC
        have HZ : Hid (z = false) := by unfold Hid; rw [← hz]; unfold patForm; simp [hq]
        clear hz ht
        go_enter Tryd.func89, Tryd.ntmps89
        go_wp2_with fail
        rw [← HW0.out]
        refine (HC.out w0).mono ?_
        rintro e w1 ⟨rfl, hb1⟩
        have c3 := cell_below c3 hb1
        have c2 := cell_below c2 hb1
        have c1 := cell_below c1 hb1
        have HB1 : Hid (Below w.heap.size w w1) := HB0.out.trans (hb1.mono HB0.out.size)
        clear hb1
        go_wp2
        go_ret
        exact ⟨by rw [HZ.out]; rfl, HB1.out⟩
      | true =>
        simp only [hq] at HC
        obtain ⟨q, hl⟩ : ∃ q, bl (l = 0) = q := ⟨_, rfl⟩
        have hl0 : ((l : Int) == 0) = q := by rw [← hl]; exact bl_len l 0
        have HZ : Hid (z = q) := by unfold Hid; rw [← hz]; unfold patForm; simp [hq, hl]
        clear hz ht
        go_enter Tryd.func89, Tryd.ntmps89
        go_wp2_with fail
        rw [← HW0.out]
        refine (HC.out w0).mono ?_
        rintro e w1 ⟨rfl, hb1⟩
        have c3 := cell_below c3 hb1
        have c2 := cell_below c2 hb1
        have c1 := cell_below c1 hb1
        have HB1 : Hid (Below w.heap.size w w1) := HB0.out.trans (hb1.mono HB0.out.size)
        clear hb1
        go_wp2
        go_ret
        exact ⟨by rw [HZ.out]; rfl, HB1.out⟩
    · have hn2 : (n == 0) = false := by simpa using hn
      have hn3 : (n != 0) = true := by simpa using hn
      have HZ : Hid (z = false) := by unfold Hid; rw [← hz]; unfold patForm; simp [hn]
      clear hz ht
      go_enter Tryd.func89, Tryd.ntmps89
      go_wp2
      go_ret
      exact ⟨by rw [HZ.out]; rfl, by first | exact HB0.out | (rw [← HW0.out]; exact HB0.out)⟩
  by_cases hk5 : k = 5
  · have hk := hk5
    subst hk5
    clear hk
    by_cases hn : n = 0
    · subst hn
      have HC : Hid (∀ w, Calls Tryd.prog 80 #[.string t] w fun e w' => e = .returned (.bool (bl (Word 65 90 t))) ∧ Below w.heap.size w w') := fun w => spec_con t ht w
      cases hq : bl (Word 65 90 t) with
      | false =>
        simp only [hq] at HC
        have HZ : Hid (z = false) := by unfold Hid; rw [← hz]; unfold patForm; simp [hq]
        clear hz ht
        go_enter Tryd.func89, Tryd.ntmps89
        go_wp2_with fail
        rw [← HW0.out]
        refine (HC.out w0).mono ?_
        rintro e w1 ⟨rfl, hb1⟩
        have c3 := cell_below c3 hb1
        have c2 := cell_below c2 hb1
        have c1 := cell_below c1 hb1
        have HB1 : Hid (Below w.heap.size w w1) := HB0.out.trans (hb1.mono HB0.out.size)
        clear hb1
        go_wp2
        go_ret
        exact ⟨by rw [HZ.out]; rfl, HB1.out⟩
      | true =>
        simp only [hq] at HC
        have HZ : Hid (z = true) := by unfold Hid; rw [← hz]; unfold patForm; simp [hq]
        clear hz ht
        go_enter Tryd.func89, Tryd.ntmps89
        go_wp2_with fail
        rw [← HW0.out]
        refine (HC.out w0).mono ?_
        rintro e w1 ⟨rfl, hb1⟩
        have c3 := cell_below c3 hb1
        have c2 := cell_below c2 hb1
        have c1 := cell_below c1 hb1
        have HB1 : Hid (Below w.heap.size w w1) := HB0.out.trans (hb1.mono HB0.out.size)
        clear hb1
        go_wp2
        go_ret
        exact ⟨by rw [HZ.out]; rfl, HB1.out⟩
    · have hn2 : (n == 0) = false := by simpa using hn
      have hn3 : (n != 0) = true := by simpa using hn
      have HZ : Hid (z = false) := by unfold Hid; rw [← hz]; unfold patForm; simp [hn]
      clear hz ht
      go_enter Tryd.func89, Tryd.ntmps89
      go_wp2
      go_ret
      exact ⟨by rw [HZ.out]; rfl, by first | exact HB0.out | (rw [← HW0.out]; exact HB0.out)⟩
  by_cases hk6 : k = 6
  · have hk := hk6
    subst hk6
    clear hk
    by_cases hn : n = 0
    · subst hn
      by_cases he : t.size = 0
      · have hE := bl_true he
        obtain ⟨q, hl⟩ : ∃ q, bl (l = 2) = q := ⟨_, rfl⟩
        have hl0 : ((l : Int) == 2) = q := by rw [← hl]; exact bl_len l 2
        have HZ : Hid (z = q) := by unfold Hid; rw [← hz]; unfold patForm; generalize bl (t.size = 0) = e at hE ⊢; subst hE; simp [hl]
        clear hz hE
        obtain rfl := empty_of t he
        clear ht he
        go_enter Tryd.func89, Tryd.ntmps89
        go_wp2
        go_ret
        exact ⟨by rw [HZ.out]; rfl, by first | exact HB0.out | (rw [← HW0.out]; exact HB0.out)⟩
      · have hE := bl_false he
        have hne := ne_empty t (by omega)
        have hne2 := bl_empty t (by omega)
        have HZ : Hid (z = false) := by unfold Hid; rw [← hz]; unfold patForm; generalize bl (t.size = 0) = e at hE ⊢; subst hE; simp
        clear hz ht
        go_enter Tryd.func89, Tryd.ntmps89
        go_wp2
        go_ret
        exact ⟨by rw [HZ.out]; rfl, by first | exact HB0.out | (rw [← HW0.out]; exact HB0.out)⟩
    · have hn2 : (n == 0) = false := by simpa using hn
      have hn3 : (n != 0) = true := by simpa using hn
      have HZ : Hid (z = false) := by unfold Hid; rw [← hz]; unfold patForm; simp [hn]
      clear hz ht
      go_enter Tryd.func89, Tryd.ntmps89
      go_wp2
      go_ret
      exact ⟨by rw [HZ.out]; rfl, by first | exact HB0.out | (rw [← HW0.out]; exact HB0.out)⟩
  by_cases hk7 : k = 7
  · have hk := hk7
    subst hk7
    clear hk
    by_cases hn : n = 0
    · subst hn
      have HC : Hid (∀ w, Calls Tryd.prog 72 #[.string t] w fun e w' => e = .returned (.bool (bl (Name t))) ∧ Below w.heap.size w w') := fun w => spec_name t ht w
      cases hq : bl (Name t) with
      | false =>
        simp only [hq] at HC
        have HZ : Hid (z = false) := by unfold Hid; rw [← hz]; unfold patForm; simp [hq]
        clear hz ht
        go_enter Tryd.func89, Tryd.ntmps89
        go_wp2_with fail
        rw [← HW0.out]
        refine (HC.out w0).mono ?_
        rintro e w1 ⟨rfl, hb1⟩
        have c3 := cell_below c3 hb1
        have c2 := cell_below c2 hb1
        have c1 := cell_below c1 hb1
        have HB1 : Hid (Below w.heap.size w w1) := HB0.out.trans (hb1.mono HB0.out.size)
        clear hb1
        go_wp2
        go_ret
        exact ⟨by rw [HZ.out]; rfl, HB1.out⟩
      | true =>
        simp only [hq] at HC
        obtain ⟨q, hl⟩ : ∃ q, bl (l = 1) = q := ⟨_, rfl⟩
        have hl0 : ((l : Int) == 1) = q := by rw [← hl]; exact bl_len l 1
        have HZ : Hid (z = q) := by unfold Hid; rw [← hz]; unfold patForm; simp [hq, hl]
        clear hz ht
        go_enter Tryd.func89, Tryd.ntmps89
        go_wp2_with fail
        rw [← HW0.out]
        refine (HC.out w0).mono ?_
        rintro e w1 ⟨rfl, hb1⟩
        have c3 := cell_below c3 hb1
        have c2 := cell_below c2 hb1
        have c1 := cell_below c1 hb1
        have HB1 : Hid (Below w.heap.size w w1) := HB0.out.trans (hb1.mono HB0.out.size)
        clear hb1
        go_wp2
        go_ret
        exact ⟨by rw [HZ.out]; rfl, HB1.out⟩
    · have hn2 : (n == 0) = false := by simpa using hn
      have hn3 : (n != 0) = true := by simpa using hn
      have HZ : Hid (z = false) := by unfold Hid; rw [← hz]; unfold patForm; simp [hn]
      clear hz ht
      go_enter Tryd.func89, Tryd.ntmps89
      go_wp2
      go_ret
      exact ⟨by rw [HZ.out]; rfl, by first | exact HB0.out | (rw [← HW0.out]; exact HB0.out)⟩
  have hb1 : (k == 1) = false := by simpa using hk1
  have hb2 : (k == 2) = false := by simpa using hk2
  have hb3 : (k == 3) = false := by simpa using hk3
  have hb4 : (k == 4) = false := by simpa using hk4
  have hb5 : (k == 5) = false := by simpa using hk5
  have hb6 : (k == 6) = false := by simpa using hk6
  have hb7 : (k == 7) = false := by simpa using hk7
  have hb8 : (k != 3) = true := by simpa using hk3
  cases hq : (n == 0) with
  | true =>
    have hq2 : (n != 0) = false := by simp [bne, hq]
    have HZ : Hid (z = false) := by unfold Hid; rw [← hz]; unfold patForm; simp [hk1, hk2, hk3, hk4, hk5, hk6, hk7]
    clear hz ht
    go_enter Tryd.func89, Tryd.ntmps89
    go_wp2
    go_ret
    exact ⟨by rw [HZ.out]; rfl, by first | exact HB0.out | (rw [← HW0.out]; exact HB0.out)⟩
  | false =>
    have hq2 : (n != 0) = true := by simp [bne, hq]
    have HZ : Hid (z = false) := by unfold Hid; rw [← hz]; unfold patForm; simp [hk1, hk2, hk3, hk4, hk5, hk6, hk7]
    clear hz ht
    go_enter Tryd.func89, Tryd.ntmps89
    go_wp2
    go_ret
    exact ⟨by rw [HZ.out]; rfl, by first | exact HB0.out | (rw [← HW0.out]; exact HB0.out)⟩
end Go.Proofs.YtdifefgigcjgeaaDoor
