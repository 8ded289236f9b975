/- What is proved here: the greatest depth of what partsOf yields (pure). No condition. -/
import Derived.Test.YtdifefgigcjgeaaTreesOn
namespace Go.Proofs.Ytdifefgigcjgeaa
open Go.RowKit

def most (l : List Part) : Nat := (l.map Prod.fst).foldl max 0
theorem foldl_max (l : List Nat) : ∀ a, l.foldl max a = max a (l.foldl max 0) := by
  induction l with
  | nil => intro a; simp
  | cons x r ih => intro a; rw [List.foldl_cons, List.foldl_cons, ih, ih (max 0 x)]; omega
theorem most_append (a b : List Part) : most (a ++ b) = max (most a) (most b) := by
  unfold most
  rw [List.map_append, List.foldl_append, foldl_max]
theorem most_cons (x : Part) (r : List Part) : most (x :: r) = max x.1 (most r) := by
  unfold most
  rw [List.map_cons, List.foldl_cons, foldl_max]
  omega
theorem most_pre (F : Trees) : ∀ d, (F.deep = 0 → most (F.pre (d + 1)) = 0) ∧ (F.deep ≠ 0 → most (F.pre (d + 1)) = d + F.deep) := by
  induction F with
  | nil => intro d; exact ⟨fun _ => rfl, fun h => absurd rfl h⟩
  | cons k n t ar r ih1 ih2 =>
    intro d
    have h1 := ih1 (d + 1)
    have h2 := ih2 d
    have e : most (Trees.pre (.cons k n t ar r) (d + 1)) = max (d + 1) (max (most (ar.pre (d + 1 + 1))) (most (r.pre (d + 1)))) := by
      rw [Trees.pre, most_cons, most_append]
    have e2 : (Trees.cons k n t ar r).deep = max (ar.deep + 1) r.deep := rfl
    rw [e, e2]
    refine ⟨fun h => by omega, fun _ => ?_⟩
    by_cases ha : ar.deep = 0 <;> by_cases hr : r.deep = 0
    · rw [h1.1 ha, h2.1 hr]; omega
    · rw [h1.1 ha, h2.2 hr]; omega
    · rw [h1.2 ha, h2.1 hr]; omega
    · rw [h1.2 ha, h2.2 hr]; omega
theorem most_seq (x : Part) (F : Trees) (hx : x.1 = 1) : most (x :: F.pre 2) = F.deep + 1 := by
  rw [most_cons, hx]
  by_cases h : F.deep = 0
  · rw [(most_pre F 1).1 h]; omega
  · rw [(most_pre F 1).2 h]; omega
theorem most_take (l : List Part) (j : Nat) (x : Part) (h : l[j]? = some x) : most (l.take (j + 1)) = max (most (l.take j)) x.1 := by
  obtain ⟨hj, rfl⟩ := List.getElem?_eq_some_iff.1 h
  rw [List.take_succ_eq_append_getElem hj, most_append, most_cons]
  simp [most]
theorem most_le (l : List Part) (j : Nat) : most (l.take j) ≤ most l := by
  have e : most l = max (most (l.take j)) (most (l.drop j)) := by rw [← most_append, List.take_append_drop]
  omega
theorem le_most (l : List Part) (j : Nat) (x : Part) (h : l[j]? = some x) : x.1 ≤ most l := by
  have := most_le l (j + 1)
  rw [most_take l j x h] at this
  omega

end Go.Proofs.Ytdifefgigcjgeaa
