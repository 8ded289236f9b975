/- What is proved here: when a pattern is valid (pure). No condition. -/
import Derived.Test.YtdifefgigcjgeaaDoorPatForm
namespace Go.Proofs.YtdifefgigcjgeaaDoor
open Go.RowKit

/-- At most 24 nodes, a depth of at most 8, and every node has one of the seven forms. -/
noncomputable def validPat (k n : Int) (t : ByteArray) (F : Trees) : Bool := decide (1 + F.count ≤ 24 ∧ F.deep + 1 ≤ 8) && (patForm k n t F.length && F.formed)
end Go.Proofs.YtdifefgigcjgeaaDoor
