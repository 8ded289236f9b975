/- What is proved here: the names of a pattern's variables in the order in which a walk over all nodes meets them (pure); what comes back of sorting. No condition. -/
import Derived.Test.YtdifefgigcjgeaaTreesOn
import Derived.Test.YtdifefgigcjgeaaOwned
namespace Go.Proofs.Ytdifefgigcjgeaa
open Go.RowKit

/-- The name that a node binds. -/
def nodeVars (k : Int) (t : ByteArray) : List ByteArray := if k = 2 ∨ k = 7 then [t] else []
def Trees.vars : Trees → List ByteArray
  | .nil => []
  | .cons k _ t ar r => nodeVars k t ++ (ar.vars ++ r.vars)
def partVars (x : Part) : List ByteArray := nodeVars x.2.1 x.2.2.2.1
theorem pre_vars (F : Trees) : ∀ d, (F.pre d).flatMap partVars = F.vars := by
  induction F with
  | nil => intro d; rfl
  | cons k n t ar r ih1 ih2 => intro d; simp only [Trees.pre, Trees.vars, List.flatMap_cons, List.flatMap_append, ih1, ih2]; rfl
theorem seq_vars (k n : Int) (t : ByteArray) (F : Trees) : ((1, k, n, t, F.length) :: F.pre 2 : List Part).flatMap partVars = nodeVars k t ++ F.vars := by
  rw [List.flatMap_cons, pre_vars]
  rfl
theorem take_vars (l : List Part) (j : Nat) (x : Part) (h : l[j]? = some x) : (l.take (j + 1)).flatMap partVars = (l.take j).flatMap partVars ++ partVars x := by
  obtain ⟨hj, rfl⟩ := List.getElem?_eq_some_iff.1 h
  rw [List.take_succ_eq_append_getElem hj, List.flatMap_append]
  simp
theorem nodeVars_len (k : Int) (t : ByteArray) : (nodeVars k t).length ≤ 1 := by unfold nodeVars; split <;> simp
theorem vars_len (F : Trees) : F.vars.length ≤ F.count := by
  induction F with
  | nil => simp [Trees.vars, Trees.count]
  | cons k n t ar r ih1 ih2 =>
    have := nodeVars_len k t
    simp only [Trees.vars, Trees.count, List.length_append]
    omega
theorem take_vars_len (l : List Part) (j : Nat) : ((l.take j).flatMap partVars).length ≤ j := by
  induction j with
  | zero => simp
  | succ j ih =>
    by_cases h : j < l.length
    · rw [take_vars l j _ (List.getElem?_eq_getElem h), List.length_append]
      have h2 : (partVars l[j]).length ≤ 1 := nodeVars_len _ _
      omega
    · rw [List.take_of_length_le (by omega)]
      rw [List.take_of_length_le (by omega)] at ih
      omega
/-- A slice of the texts ys comes back, nil or in a block of the call's own. -/
def OutT (w : World) (ys : List ByteArray) (e : Ending) (w' : World) : Prop := OutTexts w ys e w' ∨ (ys = [] ∧ e = .returned (.slice none 0 0) ∧ Below w.heap.size w w')
end Go.Proofs.Ytdifefgigcjgeaa
