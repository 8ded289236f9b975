/- What is proved here: the representation of an expression as bytes (pure). No condition. -/
import Derived.Test.YtdifefgigcjgeaaExprForm
import Derived.Test.YtdifefgigcjgeaaStr
namespace Go.Proofs.Ytdifefgigcjgeaa
open Go.RowKit

theorem inOp_iff (n : Int) : inOp n = true ↔ n = 1 ∨ n = 2 ∨ n = 3 ∨ n = 4 ∨ n = 5 ∨ n = 6 ∨ n = 7 := by
  unfold inOp
  simp only [Bool.and_eq_true, decide_eq_true_eq]
  omega
theorem exprForm_iff (k n : Int) (t : ByteArray) (l : Nat) : exprForm k n t l = true ↔ (k = 1 ∧ inInt n = true ∧ t.size = 0 ∧ l = 0) ∨ (k = 2 ∧ n = 0 ∧ Name t ∧ l = 0) ∨ (k = 3 ∧ inOp n = true ∧ t.size = 0 ∧ l = 2) ∨ (k = 4 ∧ n = 0 ∧ t.size = 0 ∧ l = 1) := by
  unfold exprForm
  by_cases h1 : k = 1
  · subst h1; simp [bl_iff]
  by_cases h2 : k = 2
  · subst h2; simp [bl_iff]
  by_cases h3 : k = 3
  · subst h3; simp [bl_iff]
  by_cases h4 : k = 4
  · subst h4; simp [bl_iff]
  simp [h1, h2, h3, h4]
/-- What stands between the two below an operator. -/
def signE (n : Int) : List UInt8 := if n = 1 then [32, 43, 32] else if n = 2 then [32, 45, 32] else if n = 3 then [32, 42, 32] else if n = 4 then [32, 60, 32] else if n = 5 then [32, 61, 61, 32] else if n = 6 then [32, 38, 32] else if n = 7 then [32, 124, 32] else []
theorem signE_len (n : Int) : (signE n).length ≤ 4 := by
  unfold signE
  repeat' split
  all_goals simp
/-- A node, given the representations of what is below it. -/
def nodeE (k n : Int) (t : ByteArray) (xs : List (List UInt8)) : List UInt8 :=
  if k = 1 then Lib.itoa n
  else if k = 2 then t.data.toList
  else if k = 4 then [33] ++ xs.headD []
  else [40] ++ xs.headD [] ++ signE n ++ xs.tail.headD [] ++ [41]
def Trees.textsE : Trees → List (List UInt8)
  | .nil => []
  | .cons k n t ar r => nodeE k n t ar.textsE :: r.textsE
theorem textsE_length (F : Trees) : F.textsE.length = F.length := by
  induction F with
  | nil => rfl
  | cons k n t ar r _ ih => simp [Trees.textsE, Trees.length, ih]
def roomE (xs : List (List UInt8)) : Nat := (xs.map fun x => x.length).sum
theorem headE_room (xs : List (List UInt8)) : (xs.headD []).length + (xs.tail.headD []).length ≤ roomE xs := by
  match xs with
  | [] => simp [roomE]
  | [x] => simp [roomE]
  | x :: y :: r => simp [roomE] <;> omega
theorem nodeE_len (k n : Int) (t : ByteArray) (l : Nat) (xs : List (List UInt8)) (h : exprForm k n t l = true) : (nodeE k n t xs).length ≤ 21 + roomE xs := by
  have e : t.data.toList.length = t.size := rfl
  have h1 := headE_room xs
  have h2 := signE_len n
  unfold nodeE
  rcases (exprForm_iff k n t l).1 h with ⟨rfl, hi, _⟩ | ⟨rfl, _, hN, _⟩ | ⟨rfl, _⟩ | ⟨rfl, _⟩
  · unfold inInt at hi
    simp only [Bool.and_eq_true, decide_eq_true_eq] at hi
    have := itoa_len n (by omega) (by omega)
    simp only [if_true]
    omega
  · have : t.size ≤ 8 := hN.1.2.1
    simp only [show ¬ (2 : Int) = 1 by decide, if_false, if_true]
    omega
  · simp only [show ¬ (3 : Int) = 1 by decide, show ¬ (3 : Int) = 2 by decide, show ¬ (3 : Int) = 4 by decide, if_false, List.length_append, List.length_singleton]
    omega
  · simp only [show ¬ (4 : Int) = 1 by decide, show ¬ (4 : Int) = 2 by decide, if_false, if_true, List.length_append, List.length_singleton]
    omega
theorem textsE_room (F : Trees) (h : F.formedE = true) : roomE F.textsE ≤ 21 * F.count := by
  induction F with
  | nil => simp [Trees.textsE, roomE]
  | cons k n t ar r ih1 ih2 =>
    simp only [Trees.formedE, Bool.and_eq_true] at h
    have h1 := nodeE_len k n t ar.length ar.textsE h.1
    have h2 := ih1 h.2.1
    have h3 := ih2 h.2.2
    simp only [Trees.textsE, Trees.count, roomE, List.map_cons, List.sum_cons] at h1 h2 h3 ⊢
    omega
theorem textE_len (k n : Int) (t : ByteArray) (F : Trees) (h : F.formedE = true) (h0 : exprForm k n t F.length = true) : (nodeE k n t F.textsE).length ≤ 21 * (1 + F.count) := by
  have h1 := nodeE_len k n t F.length F.textsE h0
  have h2 := textsE_room F h
  omega
/-- The representation of an expression; none of what is no valid one. -/
noncomputable def exprFmt (k n : Int) (t : ByteArray) (F : Trees) : ByteArray := if validExpr k n t F = true then str (nodeE k n t F.textsE) else ⟨#[]⟩
end Go.Proofs.Ytdifefgigcjgeaa
