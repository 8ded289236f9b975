/- What is proved here: what it is for a new slice of texts to come back. No condition. -/
import Derived.Test.YtdifefgigcjgeaaReads
namespace Go.Proofs.Ytdifefgigcjgeaa
open Go.RowKit

/-- A new slice that reads as the texts xs, in a block of its own. -/
def NewTexts (w : World) (xs : List ByteArray) (e : Ending) (w' : World) : Prop :=
  ∃ g, w.heap.size ≤ g ∧ e = .returned (.slice (some ⟨g, 0, none⟩) xs.length xs.length) ∧ w'.heap[g]? = some (.cells (xs.map Value.string).toArray 9 (0, 0)) ∧ Below w.heap.size w w'

end Go.Proofs.Ytdifefgigcjgeaa
