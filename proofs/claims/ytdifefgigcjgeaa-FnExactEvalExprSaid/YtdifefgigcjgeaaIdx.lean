/- What is proved here: the first index of a text in a list; when texts are distinct (pure). No condition. -/
import Derived.Test.YtdifefgigcjgeaaReads
import Derived.Test.YtdifefgigcjgeaaBl
import Derived.Lib.SlicesS
namespace Go.Proofs.Ytdifefgigcjgeaa
open Go.RowKit

theorem getD_at (xs : List ByteArray) (k : Nat) (h : k < xs.length) : xs.getD k ByteArray.empty = xs[k] := by
  rw [List.getD_eq_getElem?_getD, List.getElem?_eq_getElem h]; rfl
theorem idx_hit (xs : List ByteArray) (k : Nat) (x : ByteArray) (hk : k < xs.length) (h : xs[k] = x) (hne : ∀ j (hj : j < xs.length), j < k → xs[j] ≠ x) : Lib.idxOfS xs x = k := by
  have := Lib.idxOfS_hit xs xs.length k x hk (Nat.le_refl _) (by rw [getD_at _ _ hk]; exact h) (fun j hj => by rw [getD_at _ _ (by omega)]; exact hne j (by omega) hj)
  rwa [List.take_length] at this
theorem idx_miss (xs : List ByteArray) (x : ByteArray) (hne : ∀ j (hj : j < xs.length), xs[j] ≠ x) : Lib.idxOfS xs x = -1 := by
  have := Lib.idxOfS_miss xs xs.length x (fun j hj => by rw [getD_at _ _ hj]; exact hne j hj)
  rwa [List.take_length] at this
theorem idx_lo (xs : List ByteArray) (x : ByteArray) : -1 ≤ Lib.idxOfS xs x ∧ Lib.idxOfS xs x < (xs.length : Int) ∨ Lib.idxOfS xs x = -1 := by
  by_cases h : x ∈ xs
  · obtain ⟨k, hk, hx, hmin⟩ : ∃ k, ∃ hk : k < xs.length, xs[k] = x ∧ ∀ j (hj : j < xs.length), j < k → xs[j] ≠ x := by
      have hex : ∃ k, ∃ hk : k < xs.length, xs[k] = x := by
        obtain ⟨k, hk, e⟩ := List.mem_iff_getElem.1 h
        exact ⟨k, hk, e⟩
      have key : ∀ n k, k ≤ n → (∃ hk : k < xs.length, xs[k] = x) → ∃ k, ∃ hk : k < xs.length, xs[k] = x ∧ ∀ j (hj : j < xs.length), j < k → xs[j] ≠ x := by
        intro n
        induction n with
        | zero =>
          intro k hk ⟨h1, h2⟩
          exact ⟨k, h1, h2, fun j hj h3 => by omega⟩
        | succ n ih =>
          intro k hk ⟨h1, h2⟩
          by_cases hex : ∃ j, ∃ hj : j < xs.length, j < k ∧ xs[j] = x
          · obtain ⟨j, hj, h3, h4⟩ := hex
            exact ih j (by omega) ⟨hj, h4⟩
          · exact ⟨k, h1, h2, fun j hj h3 h4 => hex ⟨j, hj, h3, h4⟩⟩
      obtain ⟨k, hk⟩ := hex
      exact key k k (Nat.le_refl _) hk
    rw [idx_hit xs k x hk hx hmin]
    left
    omega
  · right
    exact idx_miss xs x (fun j hj e => h (e ▸ List.getElem_mem hj))
theorem idx_mem (xs : List ByteArray) (x : ByteArray) : Lib.idxOfS xs x < 0 ↔ ¬ x ∈ xs := by
  rw [← Lib.idxOfS_nonneg_iff]
  omega

def Distinct (xs : List ByteArray) : Prop := ∀ j (hj : j < xs.length), Lib.idxOfS xs xs[j] = j
end Go.Proofs.Ytdifefgigcjgeaa
