/- What is proved here: the four forms of an expression's node, and when an expression is valid (pure); whether a number is an operator, as model and program tell it. No condition. -/
import Derived.Test.YtdifefgigcjgeaaTrees
import Derived.Test.YtdifefgigcjgeaaTreesOn
import Derived.Test.YtdifefgigcjgeaaBlLen
import Derived.Test.YtdifefgigcjgeaaInInt
namespace Go.Proofs.Ytdifefgigcjgeaa
open Go.RowKit

def inOp (n : Int) : Bool := decide (1 ≤ n) && decide (n ≤ 7)
/-- One of the four forms; l nodes are below. -/
noncomputable def exprForm (k n : Int) (t : ByteArray) (l : Nat) : Bool :=
  if k = 1 then inInt n && (bl (t.size = 0) && bl (l = 0))
  else if k = 2 then (n == 0) && (bl (Name t) && bl (l = 0))
  else if k = 3 then inOp n && (bl (t.size = 0) && bl (l = 2))
  else if k = 4 then (n == 0) && (bl (t.size = 0) && bl (l = 1))
  else false
/-- Every node of a row has one of the forms. -/
noncomputable def Trees.formedE : Trees → Bool
  | .nil => true
  | .cons k n t ar r => exprForm k n t ar.length && (ar.formedE && r.formedE)
theorem formedE_pre (F : Trees) : ∀ d, (F.pre d).all (fun x => exprForm x.2.1 x.2.2.1 x.2.2.2.1 x.2.2.2.2) = F.formedE := by
  induction F with
  | nil => intro d; rfl
  | cons k n t ar r ih1 ih2 => intro d; simp only [Trees.pre, Trees.formedE, List.all_cons, List.all_append, ih1, ih2]
theorem allExpr_node (k n : Int) (t : ByteArray) (F : Trees) : (((1, k, n, t, F.length) :: F.pre 2 : List Part)).all (fun x => exprForm x.2.1 x.2.2.1 x.2.2.2.1 x.2.2.2.2) = (exprForm k n t F.length && F.formedE) := by
  rw [List.all_cons, formedE_pre]
/-- At most 12 nodes, a depth of at most 6, and every node has one of the four forms. -/
noncomputable def validExpr (k n : Int) (t : ByteArray) (F : Trees) : Bool := decide (1 + F.count ≤ 12 ∧ F.deep + 1 ≤ 6) && (exprForm k n t F.length && F.formedE)
set_option maxRecDepth 100000 in
theorem spec_inOp (n : Int) (w : World) :
    Calls Try.prog 69 #[.int .i64 n, .int .i64 1, .int .i64 7] w fun e w' => e = .returned (.bool (inOp n)) ∧ w' = w := by
  unfold inOp
  by_cases h1 : 1 ≤ n
  · have e1 : decide (1 ≤ n) = true := by simpa using h1
    rw [e1]
    clear h1
    go_enter Try.func69, Try.ntmps69
    go_wp2
    go_ret
    exact ⟨rfl, rfl⟩
  · have e1 : decide (1 ≤ n) = false := by simpa using h1
    rw [e1]
    clear h1
    go_enter Try.func69, Try.ntmps69
    go_wp2
    go_ret
    exact ⟨rfl, rfl⟩
end Go.Proofs.Ytdifefgigcjgeaa
