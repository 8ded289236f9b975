/- What is proved here: the program tells whether an integer is within the bounds of the document. No condition. -/
import Derived.Test.YtdifefgigcjgeaaInInt
namespace Go.Proofs.Ytdifefgigcjgeaa
open Go.RowKit

set_option maxRecDepth 100000 in
theorem impl_inInt (n : Int) (w : World) :
    Calls Try.prog 66 #[.int .i64 n] w fun e w' => e = .returned (.bool (inInt n)) ∧ w' = w := by
  unfold inInt
  by_cases h1 : -999999999999 ≤ n
  · have e1 : decide (-999999999999 ≤ n) = true := by simpa using h1
    rw [e1]
    clear h1
    go_enter Try.func66, Try.ntmps66
    go_wp2
    go_ret
    exact ⟨rfl, rfl⟩
  · have e1 : decide (-999999999999 ≤ n) = false := by simpa using h1
    rw [e1]
    clear h1
    go_enter Try.func66, Try.ntmps66
    go_wp2
    go_ret
    exact ⟨rfl, rfl⟩
end Go.Proofs.Ytdifefgigcjgeaa
