/- What is proved here: the program's test of two patterns (EqualPat$1) says whether two nodes agree but for what is below. No condition. -/
import Derived.Test.YtcimdhmmgneljaaEqualFields
namespace Go.Proofs.Ytcimdhmmgneljaa.Pt
open Go.RowKit

/-- The program's test of two patterns: how many are below is not asked. -/
def hd (k n : Int) (t : ByteArray) (_a : Nat) (k2 n2 : Int) (t2 : ByteArray) (_a2 : Nat) : Bool := (k == k2) && ((n == n2) && (t.toList == t2.toList))
theorem hd_one (k n : Int) (t : ByteArray) (a : Nat) (k2 n2 : Int) (t2 : ByteArray) (a2 : Nat) (h : hd k n t a k2 n2 t2 a2 = true) : k = k2 ∧ n = n2 ∧ t = t2 := by
  unfold hd at h
  simp only [Bool.and_eq_true, beq_iff_eq] at h
  obtain ⟨h1, h2, h3⟩ := h
  exact ⟨h1, h2, by cases t; cases t2; simpa [ByteArray.toList_eq] using h3⟩
theorem hd_refl (k n : Int) (t : ByteArray) (a : Nat) : hd k n t a k n t a = true := by simp [hd]

set_option maxHeartbeats 1000000 in
set_option maxRecDepth 100000 in
theorem impl_fields (w : World) (k n : Int) (t : ByteArray) (p : Option Addr) (a c : Nat) (k2 n2 : Int) (t2 : ByteArray) (p2 : Option Addr) (a2 c2 : Nat) :
    Calls Try.prog 26 #[.agg #[.int .i64 k, .int .i64 n, .string t, .slice p a c], .agg #[.int .i64 k2, .int .i64 n2, .string t2, .slice p2 a2 c2]] w fun e w' => e = .returned (.bool (hd k n t a k2 n2 t2 a2)) ∧ Below w.heap.size w w' := by
  have HB := Lib.hid (alloc2 w (.cells #[.int .i64 k, .int .i64 n, .string t, .slice p a c] 35) (.cells #[.int .i64 k2, .int .i64 n2, .string t2, .slice p2 a2 c2] 35))
  have HE : Hid (hd k n t a k2 n2 t2 a2 = ((k == k2) && ((n == n2) && (t.toList == t2.toList)))) := rfl
  generalize hd k n t a k2 n2 t2 a2 = z at *
  generalize h1 : (k == k2) = b1 at *
  generalize h2 : (n == n2) = b2 at *
  generalize h3 : (t.toList == t2.toList) = b3 at *
  cases b1 with
  | false =>
    have HZ : Hid (z = false) := by unfold Hid; rw [HE.out]; rfl
    go_enter Try.func26, Try.ntmps26
    go_wp2
    go_ret
    exact ⟨by rw [HZ.out]; rfl, HB.out⟩
  | true =>
    cases b2 with
    | false =>
      have HZ : Hid (z = false) := by unfold Hid; rw [HE.out]; rfl
      go_enter Try.func26, Try.ntmps26
      go_wp2
      go_ret
      exact ⟨by rw [HZ.out]; rfl, HB.out⟩
    | true =>
      have HZ : Hid (z = b3) := by unfold Hid; rw [HE.out]; rfl
      go_enter Try.func26, Try.ntmps26
      go_wp2
      go_ret
      exact ⟨by rw [HZ.out]; rfl, HB.out⟩
end Go.Proofs.Ytcimdhmmgneljaa.Pt
