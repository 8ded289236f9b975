/- What is proved here: lengths and emptiness as Booleans. No condition. -/
import Derived.Test.YtdifefgigcjgeaaNames
namespace Go.Proofs.Ytdifefgigcjgeaa
open Go.RowKit

theorem bl_len (l c : Nat) : ((l : Int) == (c : Int)) = bl (l = c) := by
  by_cases h : l = c
  · rw [bl_true h, h]; simp
  · rw [bl_false h]; simp; omega
theorem bl_empty_eq (t : ByteArray) : (t.toList == []) = bl (t.size = 0) := by
  by_cases h : t.size = 0
  · rw [bl_true h, empty_of t h, ByteArray.toList_eq]; rfl
  · rw [bl_false h]; exact ne_empty t (by omega)
end Go.Proofs.Ytdifefgigcjgeaa
