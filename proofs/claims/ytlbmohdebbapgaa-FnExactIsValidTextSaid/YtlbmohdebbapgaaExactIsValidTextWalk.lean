/- What is proved here: the text of FnExactIsValidText returns true for every text. Condition: none. -/
import Derived.Test.YtlbmohdebbapgaaValidText
namespace Go.Proofs.Ytlbmohdebbapgaa
open Go.RowKit

set_option maxHeartbeats 1000000 in
set_option maxRecDepth 100000 in
theorem fnExactIsValidText_walk (s : ByteArray) (hs : s.size ≤ maxLen) (w : World) :
    Calls Try.prog 5 #[.string s] w fun e w' => e = .returned (.bool true) ∧ Below w.heap.size w w' := by
  have hs' := hs
  unfold maxLen at hs'
  by_cases hbig : 1048576 < s.size
  · go_enter Try.func5, Try.ntmps5
    go_wp2
    go_ret
    exact ⟨rfl, Below.refl _ _⟩
  · have hS := fun w => spec_text s hs w
    have hI := fun w => impl_text s hs w
    generalize bl (ValidText s) = q at hS hI
    go_enter Try.func5, Try.ntmps5
    go_wp2_with fail
    refine (hS w).mono ?_
    rintro e w1 ⟨rfl, hb1⟩
    go_wp2_with fail
    refine (hI w1).mono ?_
    rintro e w2 ⟨rfl, hb2⟩
    have hb3 := hb1.trans (hb2.mono hb1.size)
    go_wp2
    go_ret
    exact ⟨rfl, hb3⟩
end Go.Proofs.Ytlbmohdebbapgaa
