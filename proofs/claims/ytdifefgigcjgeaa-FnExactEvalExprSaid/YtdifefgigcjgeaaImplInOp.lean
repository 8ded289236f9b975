/- What is proved here: the program tells whether a number is one of an operator. No condition. -/
import Derived.Test.YtdifefgigcjgeaaExprForm
namespace Go.Proofs.Ytdifefgigcjgeaa
open Go.RowKit

set_option maxRecDepth 100000 in
theorem impl_inOp (n : Int) (w : World) :
    Calls Try.prog 71 #[.int .i64 n] w fun e w' => e = .returned (.bool (inOp n)) ∧ w' = w := by
  unfold inOp
  by_cases h1 : 1 ≤ n
  · have e1 : decide (1 ≤ n) = true := by simpa using h1
    rw [e1]
    clear h1
    go_enter Try.func71, Try.ntmps71
    go_wp2
    go_ret
    exact ⟨rfl, rfl⟩
  · have e1 : decide (1 ≤ n) = false := by simpa using h1
    rw [e1]
    clear h1
    go_enter Try.func71, Try.ntmps71
    go_wp2
    go_ret
    exact ⟨rfl, rfl⟩
end Go.Proofs.Ytdifefgigcjgeaa
