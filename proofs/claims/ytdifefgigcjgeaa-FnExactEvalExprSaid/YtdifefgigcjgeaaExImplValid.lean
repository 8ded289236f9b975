/- What is proved here: the program's IsValidExpr says whether an expression is valid. Condition: the expression lies in memory as said, and is small. -/
import Derived.Test.YtdifefgigcjgeaaExAllParts
import Derived.Test.YtdifefgigcjgeaaExImplLimits
namespace Go.Proofs.Ytdifefgigcjgeaa.Ex
open Go.RowKit

set_option maxHeartbeats 2000000 in
set_option maxRecDepth 100000 in
theorem impl_valid_expr (w : World) (k nu : Int) (t : ByteArray) (F : Trees) (p : Option Addr) (cap : Nat) (hfv : F.fits) (hc : F.count ≤ 1048576) (ht : t.size ≤ maxLen) (hx : TreesAt w F p 0) (hcap : F.length ≤ cap) :
    Calls Try.prog 16 #[.agg #[.int .i64 k, .int .i64 nu, .string t, .slice p F.length cap]] w fun e w' => e = .returned (.bool (validExpr k nu t F)) ∧ Below w.heap.size w w' := by
  have HL := Lib.hid (fun w' (hb : Below w.heap.size w w') => impl_limits 12 6 (by omega) w' k nu t F p cap (hx.below hb) hcap hc)
  simp only [show ((12 : Nat) : Int) = 12 from rfl, show ((6 : Nat) : Int) = 6 from rfl] at HL
  have HA := Lib.hid (fun w' (hb : Below w.heap.size w w') => all_parts w' k nu t F p cap hfv hc ht (hx.below hb) hcap)
  have HV : Hid (validExpr k nu t F = (decide (1 + F.count ≤ 12 ∧ F.deep + 1 ≤ 6) && (exprForm k nu t F.length && F.formedE))) := rfl
  generalize decide (1 + F.count ≤ 12 ∧ F.deep + 1 ≤ 6) = bd at *
  generalize (exprForm k nu t F.length && F.formedE) = q at *
  obtain ⟨z, hz⟩ : ∃ z, validExpr k nu t F = z := ⟨_, rfl⟩
  rw [hz] at HV ⊢
  have hB0 : Below w.heap.size w (w.alloc (.cells #[.int .i64 k, .int .i64 nu, .string t, .slice p F.length cap] 40)) := (Below.refl _ _).alloc (Nat.le_refl _) _
  obtain ⟨c0, c1, c2, c3, _⟩ := four_cells (heap_at_new w (.cells #[.int .i64 k, .int .i64 nu, .string t, .slice p F.length cap] 40))
  obtain ⟨w0, hw0⟩ : ∃ w0, w0 = w.alloc (.cells #[.int .i64 k, .int .i64 nu, .string t, .slice p F.length cap] 40) := ⟨_, rfl⟩
  rw [← hw0] at hB0 c0 c1 c2 c3
  have HW0 := Lib.hid hw0
  have HB0 := Lib.hid hB0
  clear hz hx hfv hc ht hcap hw0 hB0
  cases bd with
  | false =>
    obtain rfl : z = false := HV.out
    go_enter Try.func16, Try.ntmps16
    go_wp2_with fail
    first | rw [← HW0.out] | skip
    refine (HL.out _ (by first | exact HB0.out | exact Below.refl _ _)).mono ?_
    rintro e w1 ⟨rfl, hb1⟩
    have HB1 : Hid (Below w.heap.size w w1) := by first | exact HB0.out.trans (hb1.mono HB0.out.size) | exact hb1
    clear hb1
    go_wp2
    go_ret
    exact ⟨rfl, HB1.out⟩
  | true =>
    have HZ : Hid (z = q) := by unfold Hid; rw [HV.out]; rfl
    go_enter Try.func16, Try.ntmps16
    go_wp2_with fail
    first | rw [← HW0.out] | skip
    refine (HL.out _ (by first | exact HB0.out | exact Below.refl _ _)).mono ?_
    rintro e w1 ⟨rfl, hb1⟩
    have HB1 : Hid (Below w.heap.size w w1) := by first | exact HB0.out.trans (hb1.mono HB0.out.size) | exact hb1
    have c0 := cell_below c0 hb1
    have c1 := cell_below c1 hb1
    have c2 := cell_below c2 hb1
    have c3 := cell_below c3 hb1
    clear hb1
    go_wp2_with fail
    refine (HA.out w1 HB1.out).mono ?_
    rintro e w2 ⟨rfl, hb2⟩
    have HB2 : Hid (Below w.heap.size w w2) := HB1.out.trans (hb2.mono HB1.out.size)
    clear hb2
    go_wp2
    go_ret
    exact ⟨by rw [HZ.out]; rfl, HB2.out⟩
end Go.Proofs.Ytdifefgigcjgeaa.Ex
