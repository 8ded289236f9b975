/- What is proved here: impl.Join returns the texts with the separator between them. Conditions: the slice reads as the list; the result is not greater than 2^46 bytes. -/
import Derived.Test.YtdifefgigcjgeaaDoorReads
import Derived.Test.YtdifefgigcjgeaaDoorShelf
import Derived.Lib.AppendStr
import Derived.Lib.Join
import Derived.Laws.IdiomStrings
namespace Go.Proofs.YtdifefgigcjgeaaDoor
open Go.RowKit

/-- The texts with the separator between them, as bytes. -/
def joined (xs : List ByteArray) (by' : ByteArray) : List UInt8 := Lib.join (xs.map (·.data.toList)) by'.data.toList
theorem joined_snoc (xs : List ByteArray) (b : ByteArray) (k : Nat) (h : k < xs.length) : joined (xs.take (k + 1)) b = joined (xs.take k) b ++ (if k = 0 then [] else b.data.toList) ++ xs[k].data.toList := by
  unfold joined
  rw [List.take_succ_eq_append_getElem h, List.map_append]
  cases k with
  | zero => simp [Lib.join, List.intercalate]
  | succ k =>
    cases xs with
    | nil => simp at h
    | cons x r =>
      simp only [List.take_succ_cons, List.map_cons, List.cons_append, Lib.join_cons]
      simp [Lib.joinTail]
theorem joined_zero (xs : List ByteArray) (b : ByteArray) : joined (xs.take 0) b = [] := rfl
theorem joined_le (xs : List ByteArray) (b : ByteArray) (k : Nat) : (joined (xs.take k) b).length ≤ (joined xs b).length := by
  by_cases h : k < xs.length
  · have e : ∀ m, k ≤ m → m ≤ xs.length → (joined (xs.take k) b).length ≤ (joined (xs.take m) b).length := by
      intro m
      induction m with
      | zero => intro h1 _; rw [show k = 0 by omega]; exact Nat.le_refl _
      | succ m ih =>
        intro h1 h2
        by_cases e : k = m + 1
        · rw [e]; exact Nat.le_refl _
        · have := ih (by omega) (by omega)
          rw [joined_snoc xs b m (by omega)]
          simp
          omega
    have := e xs.length (by omega) (Nat.le_refl _)
    rwa [List.take_length] at this
  · rw [List.take_of_length_le (by omega)]; exact Nat.le_refl _

/-- No text is longer than what it is joined into. -/
theorem piece_short (xs : List ByteArray) (b : ByteArray) (j : Nat) (h : j < xs.length) : xs[j].data.toList.length ≤ (joined xs b).length := by
  have h1 := joined_snoc xs b j h
  have h2 := joined_le xs b (j + 1)
  rw [h1] at h2
  simp only [List.length_append] at h2
  omega
theorem joined_len (xs : List ByteArray) (b : ByteArray) : (joined xs b).length ≤ total xs + xs.length * b.size := by
  have all : ∀ k, k ≤ xs.length → (joined (xs.take k) b).length ≤ total (xs.take k) + k * b.size := by
    intro k
    induction k with
    | zero => intro _; rw [joined_zero]; simp
    | succ k ih =>
      intro hk
      have := ih (by omega)
      rw [joined_snoc xs b k (by omega), total_take xs k (by omega), Nat.succ_mul]
      have e1 : xs[k].data.toList.length = xs[k].size := rfl
      have e2 : (if k = 0 then [] else b.data.toList).length ≤ b.size := by
        split
        · simp
        · exact Nat.le_refl _
      simp only [List.length_append]
      omega
  have := all xs.length (Nat.le_refl _)
  rwa [List.take_length] at this

set_option maxRecDepth 100000 in
theorem impl_join (w : World) (g : Nat) (xs : List ByteArray) (b : ByteArray) (hg : w.heap[g]? = some (.cells (xs.map Value.string).toArray 9 (0, 0))) (hm : xs.length ≤ 1048576) (hj : (joined xs b).length ≤ 70368744177664) :
    Calls Tryd.prog 60 #[.slice (some ⟨g, 0, none⟩) xs.length xs.length, .string b] w fun e w' => e = .returned (.string ⟨(joined xs b).toArray⟩) ∧ Below w.heap.size w w' := by
  have hlt : g < w.heap.size := by
    rcases Nat.lt_or_ge g w.heap.size with h | h
    · exact h
    · rw [Array.getElem?_eq_none h] at hg
      cases hg
  have H := Tryd.strings_Join g 0 xs.length xs b w (fun j x hx => by
    have hj2 : j < xs.length := by
      rcases Nat.lt_or_ge j xs.length with h | h
      · exact h
      · rw [List.getElem?_eq_none h] at hx
        cases hx
    rw [List.getElem?_eq_getElem hj2] at hx
    injection hx with hx
    simp [World.cell?, hg, hj2, hx]) hlt (by omega) (Nat.le_refl _) (Nat.le_trans hj (by omega))
  have HG := Lib.hid hg
  clear hg
  go_enter Tryd.func60, Tryd.ntmps60
  go_wp2_with fail
  refine H.mono ?_
  rintro e w' ⟨rfl, hb⟩
  go_wp2
  go_ret
  exact ⟨rfl, hb⟩
end Go.Proofs.YtdifefgigcjgeaaDoor
