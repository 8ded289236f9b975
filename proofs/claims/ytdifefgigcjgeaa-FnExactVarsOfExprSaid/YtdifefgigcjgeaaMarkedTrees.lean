/- What is proved here: a row of nodes as the laws mark it (pure). No condition. -/
import Derived.Test.YtdifefgigcjgeaaTrees
import Derived.Test.YtdifefgigcjgeaaMarkText
namespace Go.Proofs.Ytdifefgigcjgeaa
open Go.RowKit

/-- A row that is marked from k on: three marks a node. -/
def Trees.marked : Trees → Nat → Trees
  | .nil, _ => .nil
  | .cons _ _ _ ar r, k => .cons (k : Int) ((k + 1 : Nat) : Int) (mt (k + 2)) (ar.marked (k + 3)) (r.marked (k + 3 + 3 * ar.count))
theorem Trees.marked_length (F : Trees) : ∀ k, (F.marked k).length = F.length := by
  induction F with
  | nil => intro _; rfl
  | cons _ _ _ ar r _ ih => intro k; simp [Trees.marked, Trees.length, ih]

end Go.Proofs.Ytdifefgigcjgeaa
