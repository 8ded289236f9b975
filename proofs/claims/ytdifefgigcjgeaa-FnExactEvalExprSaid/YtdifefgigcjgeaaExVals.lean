/- What is proved here: the value of an expression (pure). No condition. -/
import Derived.Test.YtdifefgigcjgeaaExprText
import Derived.Test.YtdifefgigcjgeaaBinds
namespace Go.Proofs.Ytdifefgigcjgeaa
open Go.RowKit

def bit (b : Bool) : Int := if b = true then 1 else 0
/-- The integer of the first binding of a name. -/
noncomputable def varV : List BindD → ByteArray → Int
  | [], _ => 0
  | x :: r, t => if (x.nm.toList == t.toList) = true then (if (x.k == 1) = true then x.n else 0) else varV r t
def opV (n a b : Int) : Int :=
  if n = 1 then wrap64 (a + b) else if n = 2 then wrap64 (a - b) else if n = 3 then wrap64 (a * b)
  else if n = 4 then bit (decide (a < b)) else if n = 5 then bit (a == b) else if n = 6 then bit ((a != 0) && (b != 0)) else bit ((a != 0) || (b != 0))
/-- A node, given the values of what is below it. -/
noncomputable def nodeI (env : List BindD) (k n : Int) (t : ByteArray) (vs : List Int) : Int :=
  if k = 1 then n else if k = 2 then varV env t else if k = 4 then bit (vs.headD 0 == 0) else opV n (vs.headD 0) (vs.tail.headD 0)
noncomputable def Trees.vals (env : List BindD) : Trees → List Int
  | .nil => []
  | .cons k n t ar r => nodeI env k n t (ar.vals env) :: r.vals env
/-- The value of a valid expression, and 0 for others. -/
noncomputable def exprV (env : List BindD) (k n : Int) (t : ByteArray) (F : Trees) : Int := if validExpr k n t F = true then nodeI env k n t (F.vals env) else 0
end Go.Proofs.Ytdifefgigcjgeaa
