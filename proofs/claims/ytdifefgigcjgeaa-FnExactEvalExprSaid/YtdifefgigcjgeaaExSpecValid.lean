/- What is proved here: the model's IsValidExpr says whether an expression is valid. Condition: the pattern lies in memory as said, and is small. -/
import Derived.Test.YtdifefgigcjgeaaExSpecAll
import Derived.Test.YtdifefgigcjgeaaExSpecLeft
import Derived.Test.YtdifefgigcjgeaaExSpecDepth
import Derived.Test.YtdifefgigcjgeaaExprForm
namespace Go.Proofs.Ytdifefgigcjgeaa.Ex
open Go.RowKit

set_option maxHeartbeats 2000000 in
set_option maxRecDepth 100000 in
theorem spec_valid_expr (w : World) (k n : Int) (t : ByteArray) (F : Trees) (p : Option Addr) (c : Nat) (hfv : F.fits) (hfc : F.count ≤ 1048576) (ht : t.size ≤ maxLen) (hx : TreesAt w F p 0) :
    Calls Try.prog 14 #[.agg #[.int .i64 k, .int .i64 n, .string t, .slice p F.length c]] w fun e w' => e = .returned (.bool (validExpr k n t F)) ∧ Below w.heap.size w w' := by
  have hB0 : Below w.heap.size w (w.alloc (.cells #[.int .i64 k, .int .i64 n, .string t, .slice p F.length c] 40)) := (Below.refl _ _).alloc (Nat.le_refl _) _
  obtain ⟨c0, c1, c2, c3, _⟩ := four_cells (heap_at_new w (.cells #[.int .i64 k, .int .i64 n, .string t, .slice p F.length c] 40))
  have HX := Lib.hid (hx.below hB0)
  obtain ⟨w0, hw0⟩ : ∃ w0, w0 = w.alloc (.cells #[.int .i64 k, .int .i64 n, .string t, .slice p F.length c] 40) := ⟨_, rfl⟩
  rw [← hw0] at HX hB0 c0 c1 c2 c3
  have HW0 := Lib.hid hw0
  have HB0 := Lib.hid hB0
  have HL := Lib.hid (fun w' (hb : Below w0.heap.size w0 w') => Ex.spec_left F hfc 12 (by omega) w' k n t p c (HX.out.below hb))
  have HD := Lib.hid (fun w' (hb : Below w0.heap.size w0 w') => Ex.spec_depth F hfc w' k n t p c (HX.out.below hb))
  have HH := Lib.hid (fun w' (hb : Below w0.heap.size w0 w') => spec_all F hfv hfc w' k n t p c ht (HX.out.below hb))
  have HV : Hid (validExpr k n t F = (decide (1 + F.count ≤ 12) && (decide (F.deep + 1 ≤ 6) && (F.formedE && exprForm k n t F.length)))) := by
    unfold Hid validExpr
    rw [Bool.decide_and, Bool.and_assoc, Bool.and_comm F.formedE]
  have hdb := F.deep_le_count
  generalize (F.formedE && exprForm k n t F.length) = bh at *
  generalize validExpr k n t F = z at *
  clear hw0 hB0 hx hfv ht
  by_cases hL : 1 + F.count ≤ 12
  · rw [left_yes hL] at HL
    have hlz : 12 - (1 + F.count) ≤ 12 := by omega
    rw [decide_eq_true hL] at HV
    generalize 12 - (1 + F.count) = q at *
    by_cases hD : F.deep + 1 ≤ 6
    · rw [decide_eq_true hD] at HV
      generalize F.deep + 1 = dp at *
      have hdz : (dp : Int) ≤ 6 := by omega
      have HE : Hid (z = bh) := HV.out
      clear hL hD hfc hdb HV
      go_enter Try.func14, Try.ntmps14
      go_wp2_with fail
      rw [← HW0.out]
      refine (HL.out w0 (Below.refl _ _)).mono ?_
      rintro e w1 ⟨rfl, hb1⟩
      have HB1 := Lib.hid hb1
      have c0 := cell_below c0 hb1
      have c1 := cell_below c1 hb1
      have c2 := cell_below c2 hb1
      have c3 := cell_below c3 hb1
      clear hb1
      go_wp2_with fail
      refine (HD.out w1 HB1.out).mono ?_
      rintro e w2 ⟨rfl, hb2⟩
      have HB2 : Hid (Below w0.heap.size w0 w2) := HB1.out.trans (hb2.mono HB1.out.size)
      have c0 := cell_below c0 hb2
      have c1 := cell_below c1 hb2
      have c2 := cell_below c2 hb2
      have c3 := cell_below c3 hb2
      clear hb2
      go_wp2_with fail
      refine (HH.out w2 HB2.out).mono ?_
      rintro e w4 ⟨rfl, hb4⟩
      have HB4 : Hid (Below w0.heap.size w0 w4) := HB2.out.trans (hb4.mono HB2.out.size)
      clear hb4
      go_wp2
      go_ret
      exact ⟨by rw [HE.out]; rfl, HB0.out.trans (HB4.out.mono HB0.out.size)⟩
    · have HE : Hid (z = false) := by unfold Hid; rw [HV.out, decide_eq_false hD]; rfl
      have hdz : ¬ ((F.deep + 1 : Nat) : Int) ≤ 6 := by omega
      have hdm : F.deep + 1 ≤ 1048577 := by omega
      generalize F.deep + 1 = dp at *
      clear hL hD hfc hdb HV HH
      go_enter Try.func14, Try.ntmps14
      go_wp2_with fail
      rw [← HW0.out]
      refine (HL.out w0 (Below.refl _ _)).mono ?_
      rintro e w1 ⟨rfl, hb1⟩
      have HB1 := Lib.hid hb1
      have c0 := cell_below c0 hb1
      have c1 := cell_below c1 hb1
      have c2 := cell_below c2 hb1
      have c3 := cell_below c3 hb1
      clear hb1
      go_wp2_with fail
      refine (HD.out w1 HB1.out).mono ?_
      rintro e w2 ⟨rfl, hb2⟩
      have HB2 : Hid (Below w0.heap.size w0 w2) := HB1.out.trans (hb2.mono HB1.out.size)
      clear hb2
      go_wp2
      go_ret
      exact ⟨by rw [HE.out]; rfl, HB0.out.trans (HB2.out.mono HB0.out.size)⟩
  · rw [left_no (by omega)] at HL
    have HE : Hid (z = false) := by unfold Hid; rw [HV.out, decide_eq_false hL]; rfl
    clear hL hfc hdb HV HH HD
    go_enter Try.func14, Try.ntmps14
    go_wp2_with fail
    rw [← HW0.out]
    refine (HL.out w0 (Below.refl _ _)).mono ?_
    rintro e w1 ⟨rfl, hb1⟩
    have HB1 := Lib.hid hb1
    clear hb1
    go_wp2
    go_ret
    exact ⟨by rw [HE.out]; rfl, HB0.out.trans (HB1.out.mono HB0.out.size)⟩
end Go.Proofs.Ytdifefgigcjgeaa.Ex
