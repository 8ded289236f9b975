/- What is proved here: texts in a block of the call's own with room behind them. No condition. -/
import Derived.Test.YtdifefgigcjgeaaDoorReads
namespace Go.Proofs.YtdifefgigcjgeaaDoor
open Go.RowKit

/-- Block g holds the texts xs, and 'rest' behind them. -/
def Block (w : World) (g : Nat) (xs : List ByteArray) (rest : List Value) : Prop := w.heap[g]? = some (.cells (xs.map Value.string ++ rest).toArray 9 (0, 0))
theorem Block.lt {w : World} {g : Nat} {xs : List ByteArray} {rest : List Value} (h : Block w g xs rest) : g < w.heap.size := by
  rcases Nat.lt_or_ge g w.heap.size with h1 | h1
  · exact h1
  · unfold Block at h
    rw [Array.getElem?_eq_none h1] at h
    cases h
theorem Block.reads {w : World} {g : Nat} {xs : List ByteArray} {rest : List Value} (h : Block w g xs rest) : Reads w (some ⟨g, 0, none⟩) xs := by
  intro j hj
  refine ⟨_, rfl, ?_⟩
  have e : (⟨g, 0, none⟩ : Addr).add j = ⟨g, j, none⟩ := by simp [Addr.add]; intro h; omega
  rw [e]
  have := cells_cell h j (by simp; omega)
  rw [this]
  rw [List.getElem_append_left (by simpa using hj)]
  simp
theorem Block.below {w w' : World} {g : Nat} {xs : List ByteArray} {rest : List Value} (h : Block w g xs rest) (hb : Below w.heap.size w w') : Block w' g xs rest := by
  unfold Block
  rw [hb.block g h.lt]
  exact h

/-- What 'ownsRow' says of a slice that is not nil. -/
theorem block_of_owned {w : World} {B : Nat} {v : Value} {n : Nat} {ys : List ByteArray} (h : w.ownsRow B 9 1 v n (ys.map Value.string)) (hv : v ≠ .slice none 0 0) :
    ∃ g cap rest, v = .slice (some ⟨g, 0, none⟩) ys.length cap ∧ B ≤ g ∧ Block w g ys rest ∧ n = ys.length := by
  have hl : n = ys.length := by simpa using h.1.symm
  subst hl
  rcases h.2 with ⟨h1, _⟩ | ⟨g, cap, cur, rfl, hb, hg, _, _, _, ht⟩
  · exact absurd h1 hv
  · refine ⟨g, cap, cur.toList.drop ys.length, rfl, hb, ?_, rfl⟩
    unfold Block
    rw [hg, ← ht, Nat.mul_one, List.take_append_drop, Array.toArray_toList]
end Go.Proofs.YtdifefgigcjgeaaDoor
