/- What is proved here: the program's SortNames of a nil slice is nil. No condition. -/
import Derived.Test.YtdifefgigcjgeaaImplSort
namespace Go.Proofs.Ytdifefgigcjgeaa
open Go.RowKit

set_option maxRecDepth 100000 in
theorem impl_sort_nil (w : World) : Calls Try.prog 52 #[.slice none 0 0] w fun e w' => e = .returned (.slice none 0 0) ∧ w' = w := by
  go_enter Try.func52, Try.ntmps52
  go_wp2_with fail
  refine (Try.slices_Clone_string_nil 0 0 w).mono ?_
  rintro e w1 ⟨rfl, rfl⟩
  go_wp2_with fail
  refine (Try.slices_Sort_string_none none 0 w1).mono ?_
  rintro e w2 ⟨rfl, rfl⟩
  go_wp2_with fail
  refine (Try.slices_Compact_string_empty none 0 w2).mono ?_
  rintro e w3 ⟨rfl, rfl⟩
  go_wp2
  go_ret
  exact ⟨rfl, rfl⟩
end Go.Proofs.Ytdifefgigcjgeaa
