/- What is proved here: what the program's operators do. No condition. -/
import Derived.Test.YtdifefgigcjgeaaExVals
import Derived.Test.YtdifefgigcjgeaaOperators
namespace Go.Proofs.Ytdifefgigcjgeaa.Ex
open Go.RowKit

set_option maxRecDepth 100000 in
theorem impl_truth (b : Bool) (w : World) :
    Calls Try.prog 83 #[.bool b] w fun e w' => e = .returned (.int .i64 (bit b)) ∧ w' = w := by
  cases b with
  | false =>
    go_enter Try.func83, Try.ntmps83
    go_wp2
    go_ret
    exact ⟨rfl, rfl⟩
  | true =>
    go_enter Try.func83, Try.ntmps83
    go_wp2
    go_ret
    exact ⟨rfl, rfl⟩

set_option maxHeartbeats 1000000 in
set_option maxRecDepth 100000 in
theorem impl_op1 (a b : Int) (w : World) :
    Calls Try.prog 98 #[.int .i64 a, .int .i64 b] w fun e w' => e = .returned (.int .i64 (opV 1 a b)) ∧ w' = w := by
  have HE : Hid (opV 1 a b = wrap64 (a + b)) := rfl
  go_enter Try.func98, Try.ntmps98
  go_wp2
  go_ret
  exact ⟨by rw [HE.out]; rfl, rfl⟩

set_option maxHeartbeats 1000000 in
set_option maxRecDepth 100000 in
theorem impl_op2 (a b : Int) (w : World) :
    Calls Try.prog 99 #[.int .i64 a, .int .i64 b] w fun e w' => e = .returned (.int .i64 (opV 2 a b)) ∧ w' = w := by
  have HE : Hid (opV 2 a b = wrap64 (a - b)) := rfl
  go_enter Try.func99, Try.ntmps99
  go_wp2
  go_ret
  exact ⟨by rw [HE.out]; rfl, rfl⟩

set_option maxHeartbeats 1000000 in
set_option maxRecDepth 100000 in
theorem impl_op3 (a b : Int) (w : World) :
    Calls Try.prog 100 #[.int .i64 a, .int .i64 b] w fun e w' => e = .returned (.int .i64 (opV 3 a b)) ∧ w' = w := by
  have HE : Hid (opV 3 a b = wrap64 (a * b)) := rfl
  go_enter Try.func100, Try.ntmps100
  go_wp2
  go_ret
  exact ⟨by rw [HE.out]; rfl, rfl⟩

set_option maxHeartbeats 1000000 in
set_option maxRecDepth 100000 in
theorem impl_op4 (a b : Int) (w : World) :
    Calls Try.prog 101 #[.int .i64 a, .int .i64 b] w fun e w' => e = .returned (.int .i64 (opV 4 a b)) ∧ w' = w := by
  have HB := impl_truth
  have HE : Hid (opV 4 a b = bit (decide (a < b))) := rfl
  generalize hp : decide (a < b) = p at *
  go_enter Try.func101, Try.ntmps101
  go_wp2_with fail
  refine (HB p _).mono ?_
  rintro e w1 ⟨rfl, rfl⟩
  clear hp
  go_wp2
  go_ret
  exact ⟨by rw [HE.out]; rfl, rfl⟩

set_option maxHeartbeats 1000000 in
set_option maxRecDepth 100000 in
theorem impl_op5 (a b : Int) (w : World) :
    Calls Try.prog 102 #[.int .i64 a, .int .i64 b] w fun e w' => e = .returned (.int .i64 (opV 5 a b)) ∧ w' = w := by
  have HB := impl_truth
  have HE : Hid (opV 5 a b = bit ((a == b))) := rfl
  generalize hp : (a == b) = p at *
  go_enter Try.func102, Try.ntmps102
  go_wp2_with fail
  refine (HB p _).mono ?_
  rintro e w1 ⟨rfl, rfl⟩
  clear hp
  go_wp2
  go_ret
  exact ⟨by rw [HE.out]; rfl, rfl⟩

set_option maxHeartbeats 1000000 in
set_option maxRecDepth 100000 in
theorem impl_op6 (a b : Int) (w : World) :
    Calls Try.prog 103 #[.int .i64 a, .int .i64 b] w fun e w' => e = .returned (.int .i64 (opV 6 a b)) ∧ w' = w := by
  have HB := impl_truth
  have HE : Hid (opV 6 a b = bit ((a != 0) && (b != 0))) := rfl
  generalize hp : (a != 0) = p at *
  generalize hq : (b != 0) = q at *
  generalize opV 6 a b = z at *
  cases p with
  | false =>
    have HZ : Hid (z = bit false) := by unfold Hid; rw [HE.out]; rfl
    go_enter Try.func103, Try.ntmps103
    go_wp2_with fail
    refine (HB false _).mono ?_
    rintro e w1 ⟨rfl, rfl⟩
    go_wp2
    go_ret
    exact ⟨by rw [HZ.out]; rfl, rfl⟩
  | true =>
    have HZ : Hid (z = bit q) := by unfold Hid; rw [HE.out]; rfl
    go_enter Try.func103, Try.ntmps103
    go_wp2_with fail
    refine (HB q _).mono ?_
    rintro e w1 ⟨rfl, rfl⟩
    go_wp2
    go_ret
    exact ⟨by rw [HZ.out]; rfl, rfl⟩

set_option maxHeartbeats 1000000 in
set_option maxRecDepth 100000 in
theorem impl_op7 (a b : Int) (w : World) :
    Calls Try.prog 104 #[.int .i64 a, .int .i64 b] w fun e w' => e = .returned (.int .i64 (opV 7 a b)) ∧ w' = w := by
  have HB := impl_truth
  have HE : Hid (opV 7 a b = bit ((a != 0) || (b != 0))) := rfl
  generalize hp : (a != 0) = p at *
  generalize hq : (b != 0) = q at *
  generalize opV 7 a b = z at *
  cases p with
  | true =>
    have HZ : Hid (z = bit true) := by unfold Hid; rw [HE.out]; rfl
    go_enter Try.func104, Try.ntmps104
    go_wp2_with fail
    refine (HB true _).mono ?_
    rintro e w1 ⟨rfl, rfl⟩
    go_wp2
    go_ret
    exact ⟨by rw [HZ.out]; rfl, rfl⟩
  | false =>
    have HZ : Hid (z = bit q) := by unfold Hid; rw [HE.out]; rfl
    go_enter Try.func104, Try.ntmps104
    go_wp2_with fail
    refine (HB q _).mono ?_
    rintro e w1 ⟨rfl, rfl⟩
    go_wp2
    go_ret
    exact ⟨by rw [HZ.out]; rfl, rfl⟩
end Go.Proofs.Ytdifefgigcjgeaa.Ex
