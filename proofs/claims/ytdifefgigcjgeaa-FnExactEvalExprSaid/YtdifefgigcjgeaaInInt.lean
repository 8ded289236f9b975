/- What is proved here: whether an integer is within the bounds of the document, as model and program tell it. No condition. -/
import Derived.Test.YtdifefgigcjgeaaReads
namespace Go.Proofs.Ytdifefgigcjgeaa
open Go.RowKit

def inInt (n : Int) : Bool := decide (-999999999999 ≤ n) && decide (n ≤ 999999999999)
set_option maxRecDepth 100000 in
theorem spec_inInt (n : Int) (w : World) :
    Calls Try.prog 69 #[.int .i64 n, .int .i64 (-999999999999), .int .i64 999999999999] w fun e w' => e = .returned (.bool (inInt n)) ∧ w' = w := by
  unfold inInt
  by_cases h1 : -999999999999 ≤ n
  · have e1 : decide (-999999999999 ≤ n) = true := by simpa using h1
    rw [e1]
    clear h1
    go_enter Try.func69, Try.ntmps69
    go_wp2
    go_ret
    exact ⟨rfl, rfl⟩
  · have e1 : decide (-999999999999 ≤ n) = false := by simpa using h1
    rw [e1]
    clear h1
    go_enter Try.func69, Try.ntmps69
    go_wp2
    go_ret
    exact ⟨rfl, rfl⟩
end Go.Proofs.Ytdifefgigcjgeaa
