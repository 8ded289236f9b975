/- What is proved here: the representation of a pattern as bytes (pure). No condition. -/
import Derived.Test.YtdifefgigcjgeaaDoorPatForm
import Derived.Test.YtdifefgigcjgeaaDoorValidPat
import Derived.Test.YtdifefgigcjgeaaDoorStr
import Derived.Lib.Join
namespace Go.Proofs.YtdifefgigcjgeaaDoor
open Go.RowKit

theorem patForm_iff (k n : Int) (t : ByteArray) (l : Nat) : patForm k n t l = true ↔ (k = 1 ∧ n = 0 ∧ t.size = 0 ∧ l = 0) ∨ (k = 2 ∧ n = 0 ∧ Name t ∧ l = 0) ∨ (k = 3 ∧ inInt n = true ∧ t.size = 0 ∧ l = 0) ∨ (k = 4 ∧ n = 0 ∧ ValidText t ∧ l = 0) ∨ (k = 5 ∧ n = 0 ∧ Word 65 90 t) ∨ (k = 6 ∧ n = 0 ∧ t.size = 0 ∧ l = 2) ∨ (k = 7 ∧ n = 0 ∧ Name t ∧ l = 1) := by
  unfold patForm
  by_cases h1 : k = 1
  · subst h1; simp [bl_iff]
  by_cases h2 : k = 2
  · subst h2; simp [bl_iff]
  by_cases h3 : k = 3
  · subst h3; simp [bl_iff]
  by_cases h4 : k = 4
  · subst h4; simp [bl_iff]
  by_cases h5 : k = 5
  · subst h5; simp [bl_iff]
  by_cases h6 : k = 6
  · subst h6; simp [bl_iff]
  by_cases h7 : k = 7
  · subst h7; simp [bl_iff]
  simp [h1, h2, h3, h4, h5, h6, h7]
/-- A node, given the representations of what is below it. -/
def nodeP (k n : Int) (t : ByteArray) (xs : List (List UInt8)) : List UInt8 :=
  if k = 1 then [95]
  else if k = 3 then Lib.itoa n
  else if k = 4 then [34] ++ t.data.toList ++ [34]
  else if k = 6 then [40] ++ Lib.join xs [32, 124, 32] ++ [41]
  else if k = 7 then t.data.toList ++ [32, 64, 32] ++ xs.headD []
  else if xs = [] then t.data.toList else t.data.toList ++ [40] ++ Lib.join xs [44, 32] ++ [41]
def Trees.texts : Trees → List (List UInt8)
  | .nil => []
  | .cons k n t ar r => nodeP k n t ar.texts :: r.texts
theorem texts_length (F : Trees) : F.texts.length = F.length := by
  induction F with
  | nil => rfl
  | cons k n t ar r _ ih => simp [Trees.texts, Trees.length, ih]
/-- The lengths, three more for each. -/
def room (xs : List (List UInt8)) : Nat := (xs.map fun x => x.length + 3).sum
theorem joinTail_room (sep : List UInt8) (h : sep.length ≤ 3) (r : List (List UInt8)) : (Lib.joinTail sep r).length ≤ room r := by
  induction r with
  | nil => simp [Lib.joinTail, room]
  | cons x r ih =>
    simp only [Lib.joinTail, room, List.map_cons, List.flatten_cons, List.length_append, List.sum_cons] at ih ⊢
    omega
theorem join_room (sep : List UInt8) (h : sep.length ≤ 3) (xs : List (List UInt8)) : (Lib.join xs sep).length ≤ room xs := by
  cases xs with
  | nil => simp [Lib.join_nil]
  | cons x r =>
    have := joinTail_room sep h r
    rw [Lib.join_cons, List.length_append]
    simp only [room, List.map_cons, List.sum_cons] at this ⊢
    omega
theorem head_room (xs : List (List UInt8)) : (xs.headD []).length ≤ room xs := by
  cases xs with
  | nil => simp
  | cons x r => simp only [List.headD_cons, room, List.map_cons, List.sum_cons]; omega
theorem word_size {lo hi : Nat} {t : ByteArray} (h : Word lo hi t) : t.size ≤ 8 := h.2.1
theorem nodeP_len (k n : Int) (t : ByteArray) (l : Nat) (xs : List (List UInt8)) (h : patForm k n t l = true) : (nodeP k n t xs).length + 3 ≤ 40 + room xs := by
  have e : t.data.toList.length = t.size := rfl
  have h1 := join_room [32, 124, 32] (by simp) xs
  have h2 := join_room [44, 32] (by simp) xs
  have h3 := head_room xs
  unfold nodeP
  rcases (patForm_iff k n t l).1 h with ⟨rfl, _⟩ | ⟨rfl, _, hN, _⟩ | ⟨rfl, hi, _⟩ | ⟨rfl, _, hv, _⟩ | ⟨rfl, _, hw⟩ | ⟨rfl, _⟩ | ⟨rfl, _, hN, _⟩
  · simp; omega
  · have := word_size hN.1
    simp only [show ¬ (2 : Int) = 1 by decide, show ¬ (2 : Int) = 3 by decide, show ¬ (2 : Int) = 4 by decide, show ¬ (2 : Int) = 6 by decide, show ¬ (2 : Int) = 7 by decide, if_false]
    split
    · omega
    · simp only [List.length_append, List.length_singleton]; omega
  · unfold inInt at hi
    simp only [Bool.and_eq_true, decide_eq_true_eq] at hi
    have := itoa_len n (by omega) (by omega)
    simp only [show ¬ (3 : Int) = 1 by decide, if_false, if_true]
    omega
  · have := hv.1
    simp only [show ¬ (4 : Int) = 1 by decide, show ¬ (4 : Int) = 3 by decide, if_false, if_true, List.length_append, List.length_singleton]
    omega
  · have := word_size hw
    simp only [show ¬ (5 : Int) = 1 by decide, show ¬ (5 : Int) = 3 by decide, show ¬ (5 : Int) = 4 by decide, show ¬ (5 : Int) = 6 by decide, show ¬ (5 : Int) = 7 by decide, if_false]
    split
    · omega
    · simp only [List.length_append, List.length_singleton]; omega
  · simp only [show ¬ (6 : Int) = 1 by decide, show ¬ (6 : Int) = 3 by decide, show ¬ (6 : Int) = 4 by decide, if_false, if_true, List.length_append, List.length_singleton]
    omega
  · have := word_size hN.1
    simp only [show ¬ (7 : Int) = 1 by decide, show ¬ (7 : Int) = 3 by decide, show ¬ (7 : Int) = 4 by decide, show ¬ (7 : Int) = 6 by decide, if_false, if_true, List.length_append, List.length_cons, List.length_nil]
    omega
theorem texts_room (F : Trees) (h : F.formed = true) : room F.texts ≤ 40 * F.count := by
  induction F with
  | nil => simp [Trees.texts, room]
  | cons k n t ar r ih1 ih2 =>
    simp only [Trees.formed, Bool.and_eq_true] at h
    have h1 := nodeP_len k n t ar.length ar.texts h.1
    have h2 := ih1 h.2.1
    have h3 := ih2 h.2.2
    simp only [Trees.texts, Trees.count, room, List.map_cons, List.sum_cons] at h1 h2 h3 ⊢
    omega
theorem text_len (k n : Int) (t : ByteArray) (F : Trees) (h : F.formed = true) (h0 : patForm k n t F.length = true) : (nodeP k n t F.texts).length + 3 ≤ 40 * (1 + F.count) := by
  have h1 := nodeP_len k n t F.length F.texts h0
  have h2 := texts_room F h
  omega
/-- The representation of a pattern; none of what is no valid one. -/
noncomputable def patFmt (k n : Int) (t : ByteArray) (F : Trees) : ByteArray := if validPat k n t F = true then str (nodeP k n t F.texts) else ⟨#[]⟩
end Go.Proofs.YtdifefgigcjgeaaDoor
