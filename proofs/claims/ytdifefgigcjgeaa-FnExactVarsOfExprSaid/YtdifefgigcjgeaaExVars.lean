/- What is proved here: the names of an expression's variables in the order in which a walk over all nodes meets them (pure); what comes back of sorting. No condition. -/
import Derived.Test.YtdifefgigcjgeaaVars
import Derived.Test.YtdifefgigcjgeaaOwned
namespace Go.Proofs.Ytdifefgigcjgeaa
open Go.RowKit

/-- The name that a node binds. -/
def nodeVarsE (k : Int) (t : ByteArray) : List ByteArray := if k = 2 then [t] else []
def Trees.varsE : Trees → List ByteArray
  | .nil => []
  | .cons k _ t ar r => nodeVarsE k t ++ (ar.varsE ++ r.varsE)
def partVarsE (x : Part) : List ByteArray := nodeVarsE x.2.1 x.2.2.2.1
theorem pre_varsE (F : Trees) : ∀ d, (F.pre d).flatMap partVarsE = F.varsE := by
  induction F with
  | nil => intro d; rfl
  | cons k n t ar r ih1 ih2 => intro d; simp only [Trees.pre, Trees.varsE, List.flatMap_cons, List.flatMap_append, ih1, ih2]; rfl
theorem seq_varsE (k n : Int) (t : ByteArray) (F : Trees) : ((1, k, n, t, F.length) :: F.pre 2 : List Part).flatMap partVarsE = nodeVarsE k t ++ F.varsE := by
  rw [List.flatMap_cons, pre_varsE]
  rfl
theorem take_varsE (l : List Part) (j : Nat) (x : Part) (h : l[j]? = some x) : (l.take (j + 1)).flatMap partVarsE = (l.take j).flatMap partVarsE ++ partVarsE x := by
  obtain ⟨hj, rfl⟩ := List.getElem?_eq_some_iff.1 h
  rw [List.take_succ_eq_append_getElem hj, List.flatMap_append]
  simp
theorem nodeVarsE_len (k : Int) (t : ByteArray) : (nodeVarsE k t).length ≤ 1 := by unfold nodeVarsE; split <;> simp
theorem varsE_len (F : Trees) : F.varsE.length ≤ F.count := by
  induction F with
  | nil => simp [Trees.varsE, Trees.count]
  | cons k n t ar r ih1 ih2 =>
    have := nodeVarsE_len k t
    simp only [Trees.varsE, Trees.count, List.length_append]
    omega
theorem take_varsE_len (l : List Part) (j : Nat) : ((l.take j).flatMap partVarsE).length ≤ j := by
  induction j with
  | zero => simp
  | succ j ih =>
    by_cases h : j < l.length
    · rw [take_varsE l j _ (List.getElem?_eq_getElem h), List.length_append]
      have h2 : (partVarsE l[j]).length ≤ 1 := nodeVarsE_len _ _
      omega
    · rw [List.take_of_length_le (by omega)]
      rw [List.take_of_length_le (by omega)] at ih
      omega
end Go.Proofs.Ytdifefgigcjgeaa
