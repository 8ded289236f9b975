/- What is proved here: the program's hasExprForm says whether a node has one of the four forms. Condition: its text fits. -/
import Derived.Test.YtdifefgigcjgeaaImplInOp
import Derived.Test.YtdifefgigcjgeaaImplInInt
import Derived.Test.YtdifefgigcjgeaaTreeCells
namespace Go.Proofs.Ytdifefgigcjgeaa.Ex
open Go.RowKit

set_option maxHeartbeats 4000000 in
set_option maxRecDepth 100000 in
theorem impl_form (w : World) (k n : Int) (t : ByteArray) (p : Option Addr) (l c : Nat) (ht : t.size ≤ maxLen) :
    Calls Try.prog 47 #[.agg #[.int .i64 k, .int .i64 n, .string t, .slice p l c]] w fun e w' => e = .returned (.bool (exprForm k n t l)) ∧ Below w.heap.size w w' := by
  have hB0 : Below w.heap.size w (w.alloc (.cells #[.int .i64 k, .int .i64 n, .string t, .slice p l c] 40)) := (Below.refl _ _).alloc (Nat.le_refl _) _
  obtain ⟨c0, c1, c2, c3, _⟩ := four_cells (heap_at_new w (.cells #[.int .i64 k, .int .i64 n, .string t, .slice p l c] 40))
  obtain ⟨w0, hw0⟩ : ∃ w0, w0 = w.alloc (.cells #[.int .i64 k, .int .i64 n, .string t, .slice p l c] 40) := ⟨_, rfl⟩
  rw [← hw0] at hB0 c0 c1 c2 c3
  have HW0 := Lib.hid hw0
  have HB0 := Lib.hid hB0
  obtain ⟨z, hz⟩ : ∃ z, exprForm k n t l = z := ⟨_, rfl⟩
  rw [hz]
  clear hw0 hB0
  by_cases hk1 : k = 1
  · have hk := hk1
    subst hk1
    clear hk
    have HC : Hid (∀ w, Calls Try.prog 66 #[.int .i64 n] w fun e w' => e = .returned (.bool (inInt n)) ∧ Below w.heap.size w w') := fun w => (impl_inInt n w).mono (by rintro e w' ⟨rfl, rfl⟩; exact ⟨rfl, Below.refl _ _⟩)
    cases hq : inInt n with
    | false =>
      simp only [hq] at HC
      have HZ : Hid (z = false) := by unfold Hid; rw [← hz]; unfold exprForm; simp [hq]
      clear hz ht
      go_enter Try.func47, Try.ntmps47
      go_wp2_with fail
      rw [← HW0.out]
      refine (HC.out w0).mono ?_
      rintro e w1 ⟨rfl, hb1⟩
      have c3 := cell_below c3 hb1
      have c2 := cell_below c2 hb1
      have c1 := cell_below c1 hb1
      have HB1 : Hid (Below w.heap.size w w1) := HB0.out.trans (hb1.mono HB0.out.size)
      clear hb1
      go_wp2
      go_ret
      exact ⟨by rw [HZ.out]; rfl, HB1.out⟩
    | true =>
      simp only [hq] at HC
      by_cases he : t.size = 0
      · have hE := bl_true he
        obtain ⟨q, hl⟩ : ∃ q, bl (l = 0) = q := ⟨_, rfl⟩
        have hl0 : ((l : Int) == 0) = q := by rw [← hl]; exact bl_len l 0
        have HZ : Hid (z = q) := by unfold Hid; rw [← hz]; unfold exprForm; generalize bl (t.size = 0) = e at hE ⊢; subst hE; simp [hq, hl]
        clear hz hE
        obtain rfl := empty_of t he
        clear ht he
        go_enter Try.func47, Try.ntmps47
        go_wp2_with fail
        rw [← HW0.out]
        refine (HC.out w0).mono ?_
        rintro e w1 ⟨rfl, hb1⟩
        have c3 := cell_below c3 hb1
        have c2 := cell_below c2 hb1
        have c1 := cell_below c1 hb1
        have HB1 : Hid (Below w.heap.size w w1) := HB0.out.trans (hb1.mono HB0.out.size)
        clear hb1
        go_wp2
        go_ret
        exact ⟨by rw [HZ.out]; rfl, HB1.out⟩
      · have hE := bl_false he
        have hne := ne_empty t (by omega)
        have hne2 := bl_empty t (by omega)
        have HZ : Hid (z = false) := by unfold Hid; rw [← hz]; unfold exprForm; generalize bl (t.size = 0) = e at hE ⊢; subst hE; simp [hq]
        clear hz ht
        go_enter Try.func47, Try.ntmps47
        go_wp2_with fail
        rw [← HW0.out]
        refine (HC.out w0).mono ?_
        rintro e w1 ⟨rfl, hb1⟩
        have c3 := cell_below c3 hb1
        have c2 := cell_below c2 hb1
        have c1 := cell_below c1 hb1
        have HB1 : Hid (Below w.heap.size w w1) := HB0.out.trans (hb1.mono HB0.out.size)
        clear hb1
        go_wp2
        go_ret
        exact ⟨by rw [HZ.out]; rfl, HB1.out⟩
  by_cases hk2 : k = 2
  · have hk := hk2
    subst hk2
    clear hk
    by_cases hn : n = 0
    · subst hn
      have HC : Hid (∀ w, Calls Try.prog 65 #[.string t] w fun e w' => e = .returned (.bool (bl (Name t))) ∧ Below w.heap.size w w') := fun w => impl_name t ht w
      cases hq : bl (Name t) with
      | false =>
        simp only [hq] at HC
        have HZ : Hid (z = false) := by unfold Hid; rw [← hz]; unfold exprForm; simp [hq]
        clear hz ht
        go_enter Try.func47, Try.ntmps47
        go_wp2_with fail
        rw [← HW0.out]
        refine (HC.out w0).mono ?_
        rintro e w1 ⟨rfl, hb1⟩
        have c3 := cell_below c3 hb1
        have c2 := cell_below c2 hb1
        have c1 := cell_below c1 hb1
        have HB1 : Hid (Below w.heap.size w w1) := HB0.out.trans (hb1.mono HB0.out.size)
        clear hb1
        go_wp2
        go_ret
        exact ⟨by rw [HZ.out]; rfl, HB1.out⟩
      | true =>
        simp only [hq] at HC
        obtain ⟨q, hl⟩ : ∃ q, bl (l = 0) = q := ⟨_, rfl⟩
        have hl0 : ((l : Int) == 0) = q := by rw [← hl]; exact bl_len l 0
        have HZ : Hid (z = q) := by unfold Hid; rw [← hz]; unfold exprForm; simp [hq, hl]
        clear hz ht
        go_enter Try.func47, Try.ntmps47
        go_wp2_with fail
        rw [← HW0.out]
        refine (HC.out w0).mono ?_
        rintro e w1 ⟨rfl, hb1⟩
        have c3 := cell_below c3 hb1
        have c2 := cell_below c2 hb1
        have c1 := cell_below c1 hb1
        have HB1 : Hid (Below w.heap.size w w1) := HB0.out.trans (hb1.mono HB0.out.size)
        clear hb1
        go_wp2
        go_ret
        exact ⟨by rw [HZ.out]; rfl, HB1.out⟩
    · have hn2 : (n == 0) = false := by simpa using hn
      have hn3 : (n != 0) = true := by simpa using hn
      have HZ : Hid (z = false) := by unfold Hid; rw [← hz]; unfold exprForm; simp [hn]
      clear hz ht
      go_enter Try.func47, Try.ntmps47
      go_wp2
      go_ret
      exact ⟨by rw [HZ.out]; rfl, by first | exact HB0.out | (rw [← HW0.out]; exact HB0.out)⟩
  by_cases hk3 : k = 3
  · have hk := hk3
    subst hk3
    clear hk
    have HC : Hid (∀ w, Calls Try.prog 71 #[.int .i64 n] w fun e w' => e = .returned (.bool (inOp n)) ∧ Below w.heap.size w w') := fun w => (impl_inOp n w).mono (by rintro e w' ⟨rfl, rfl⟩; exact ⟨rfl, Below.refl _ _⟩)
    cases hq : inOp n with
    | false =>
      simp only [hq] at HC
      have HZ : Hid (z = false) := by unfold Hid; rw [← hz]; unfold exprForm; simp [hq]
      clear hz ht
      go_enter Try.func47, Try.ntmps47
      go_wp2_with fail
      rw [← HW0.out]
      refine (HC.out w0).mono ?_
      rintro e w1 ⟨rfl, hb1⟩
      have c3 := cell_below c3 hb1
      have c2 := cell_below c2 hb1
      have c1 := cell_below c1 hb1
      have HB1 : Hid (Below w.heap.size w w1) := HB0.out.trans (hb1.mono HB0.out.size)
      clear hb1
      go_wp2
      go_ret
      exact ⟨by rw [HZ.out]; rfl, HB1.out⟩
    | true =>
      simp only [hq] at HC
      by_cases he : t.size = 0
      · have hE := bl_true he
        obtain ⟨q, hl⟩ : ∃ q, bl (l = 2) = q := ⟨_, rfl⟩
        have hl0 : ((l : Int) == 2) = q := by rw [← hl]; exact bl_len l 2
        have HZ : Hid (z = q) := by unfold Hid; rw [← hz]; unfold exprForm; generalize bl (t.size = 0) = e at hE ⊢; subst hE; simp [hq, hl]
        clear hz hE
        obtain rfl := empty_of t he
        clear ht he
        go_enter Try.func47, Try.ntmps47
        go_wp2_with fail
        rw [← HW0.out]
        refine (HC.out w0).mono ?_
        rintro e w1 ⟨rfl, hb1⟩
        have c3 := cell_below c3 hb1
        have c2 := cell_below c2 hb1
        have c1 := cell_below c1 hb1
        have HB1 : Hid (Below w.heap.size w w1) := HB0.out.trans (hb1.mono HB0.out.size)
        clear hb1
        go_wp2
        go_ret
        exact ⟨by rw [HZ.out]; rfl, HB1.out⟩
      · have hE := bl_false he
        have hne := ne_empty t (by omega)
        have hne2 := bl_empty t (by omega)
        have HZ : Hid (z = false) := by unfold Hid; rw [← hz]; unfold exprForm; generalize bl (t.size = 0) = e at hE ⊢; subst hE; simp [hq]
        clear hz ht
        go_enter Try.func47, Try.ntmps47
        go_wp2_with fail
        rw [← HW0.out]
        refine (HC.out w0).mono ?_
        rintro e w1 ⟨rfl, hb1⟩
        have c3 := cell_below c3 hb1
        have c2 := cell_below c2 hb1
        have c1 := cell_below c1 hb1
        have HB1 : Hid (Below w.heap.size w w1) := HB0.out.trans (hb1.mono HB0.out.size)
        clear hb1
        go_wp2
        go_ret
        exact ⟨by rw [HZ.out]; rfl, HB1.out⟩
  by_cases hk4 : k = 4
  · have hk := hk4
    subst hk4
    clear hk
    by_cases hn : n = 0
    · subst hn
      by_cases he : t.size = 0
      · have hE := bl_true he
        obtain ⟨q, hl⟩ : ∃ q, bl (l = 1) = q := ⟨_, rfl⟩
        have hl0 : ((l : Int) == 1) = q := by rw [← hl]; exact bl_len l 1
        have HZ : Hid (z = q) := by unfold Hid; rw [← hz]; unfold exprForm; generalize bl (t.size = 0) = e at hE ⊢; subst hE; simp [hl]
        clear hz hE
        obtain rfl := empty_of t he
        clear ht he
        go_enter Try.func47, Try.ntmps47
        go_wp2
        go_ret
        exact ⟨by rw [HZ.out]; rfl, by first | exact HB0.out | (rw [← HW0.out]; exact HB0.out)⟩
      · have hE := bl_false he
        have hne := ne_empty t (by omega)
        have hne2 := bl_empty t (by omega)
        have HZ : Hid (z = false) := by unfold Hid; rw [← hz]; unfold exprForm; generalize bl (t.size = 0) = e at hE ⊢; subst hE; simp
        clear hz ht
        go_enter Try.func47, Try.ntmps47
        go_wp2
        go_ret
        exact ⟨by rw [HZ.out]; rfl, by first | exact HB0.out | (rw [← HW0.out]; exact HB0.out)⟩
    · have hn2 : (n == 0) = false := by simpa using hn
      have hn3 : (n != 0) = true := by simpa using hn
      have HZ : Hid (z = false) := by unfold Hid; rw [← hz]; unfold exprForm; simp [hn]
      clear hz ht
      go_enter Try.func47, Try.ntmps47
      go_wp2
      go_ret
      exact ⟨by rw [HZ.out]; rfl, by first | exact HB0.out | (rw [← HW0.out]; exact HB0.out)⟩
  have hb1 : (k == 1) = false := by simpa using hk1
  have hb2 : (k == 2) = false := by simpa using hk2
  have hb3 : (k == 3) = false := by simpa using hk3
  have hb4 : (k == 4) = false := by simpa using hk4
  cases hq : (n == 0) with
  | true =>
    have hq2 : (n != 0) = false := by simp [bne, hq]
    have HZ : Hid (z = false) := by unfold Hid; rw [← hz]; unfold exprForm; simp [hk1, hk2, hk3, hk4]
    clear hz ht
    go_enter Try.func47, Try.ntmps47
    go_wp2
    go_ret
    exact ⟨by rw [HZ.out]; rfl, by first | exact HB0.out | (rw [← HW0.out]; exact HB0.out)⟩
  | false =>
    have hq2 : (n != 0) = true := by simp [bne, hq]
    have HZ : Hid (z = false) := by unfold Hid; rw [← hz]; unfold exprForm; simp [hk1, hk2, hk3, hk4]
    clear hz ht
    go_enter Try.func47, Try.ntmps47
    go_wp2
    go_ret
    exact ⟨by rw [HZ.out]; rfl, by first | exact HB0.out | (rw [← HW0.out]; exact HB0.out)⟩
end Go.Proofs.Ytdifefgigcjgeaa.Ex
