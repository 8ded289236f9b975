/- What is proved here: the seven forms of a pattern's node (pure). No condition. -/
import Derived.Test.YtdifefgigcjgeaaDoorTrees
import Derived.Test.YtdifefgigcjgeaaDoorTreesOn
import Derived.Test.YtdifefgigcjgeaaDoorBlLen
import Derived.Test.YtdifefgigcjgeaaDoorValidText
import Derived.Test.YtdifefgigcjgeaaDoorInInt
namespace Go.Proofs.YtdifefgigcjgeaaDoor
open Go.RowKit

/-- One of the seven forms; l nodes are below. -/
noncomputable def patForm (k n : Int) (t : ByteArray) (l : Nat) : Bool :=
  if k = 1 then (n == 0) && (bl (t.size = 0) && bl (l = 0))
  else if k = 2 then (n == 0) && (bl (Name t) && bl (l = 0))
  else if k = 3 then inInt n && (bl (t.size = 0) && bl (l = 0))
  else if k = 4 then (n == 0) && (bl (ValidText t) && bl (l = 0))
  else if k = 5 then (n == 0) && bl (Word 65 90 t)
  else if k = 6 then (n == 0) && (bl (t.size = 0) && bl (l = 2))
  else if k = 7 then (n == 0) && (bl (Name t) && bl (l = 1))
  else false
/-- Every node of a row has one of the forms. -/
noncomputable def Trees.formed : Trees → Bool
  | .nil => true
  | .cons k n t ar r => patForm k n t ar.length && (ar.formed && r.formed)
theorem formed_pre (F : Trees) : ∀ d, (F.pre d).all (fun x => patForm x.2.1 x.2.2.1 x.2.2.2.1 x.2.2.2.2) = F.formed := by
  induction F with
  | nil => intro d; rfl
  | cons k n t ar r ih1 ih2 => intro d; simp only [Trees.pre, Trees.formed, List.all_cons, List.all_append, ih1, ih2]
theorem allForm_node (k n : Int) (t : ByteArray) (F : Trees) : (((1, k, n, t, F.length) :: F.pre 2 : List Part)).all (fun x => patForm x.2.1 x.2.2.1 x.2.2.2.1 x.2.2.2.2) = (patForm k n t F.length && F.formed) := by
  rw [List.all_cons, formed_pre]
end Go.Proofs.YtdifefgigcjgeaaDoor
