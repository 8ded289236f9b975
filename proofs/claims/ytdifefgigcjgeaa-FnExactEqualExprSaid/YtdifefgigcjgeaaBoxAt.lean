/- What is proved here: a node in a block of its own. No condition. -/
import Derived.Test.YtdifefgigcjgeaaTreeCells
namespace Go.Proofs.Ytdifefgigcjgeaa
open Go.RowKit

/-- The cells of a node in a block of its own. -/
def BoxAt (w : World) (b : Nat) (k n : Int) (t : ByteArray) (a : Option Addr) (l c : Nat) (T : TypeId) : Prop := w.heap[b]? = some (.cells #[.int .i64 k, .int .i64 n, .string t, .slice a l c] T (0, 0))
theorem BoxAt.below {w w' : World} {b : Nat} {k n : Int} {t : ByteArray} {a : Option Addr} {l c : Nat} {T : TypeId} (h : BoxAt w b k n t a l c T) (hb : Below w.heap.size w w') : BoxAt w' b k n t a l c T :=
  (hb.block b (Array.getElem?_eq_some_iff.1 h).1).trans h
theorem BoxAt.cells {w : World} {b : Nat} {k n : Int} {t : ByteArray} {a : Option Addr} {l c : Nat} {T : TypeId} (h : BoxAt w b k n t a l c T) : w.cell? ⟨b, 0, none⟩ = some (.int .i64 k) ∧ w.cell? ⟨b, 1, none⟩ = some (.int .i64 n) ∧ w.cell? ⟨b, 2, none⟩ = some (.string t) ∧ w.cell? ⟨b, 3, none⟩ = some (.slice a l c) := by
  obtain ⟨h0, h1, h2, h3, _⟩ := four_cells h
  exact ⟨h0, h1, h2, h3⟩

/-- One value in a block of its own. -/
def OneAt (w : World) (b : Nat) (v : Value) : Prop := w.cell? ⟨b, 0, none⟩ = some v ∧ b < w.heap.size
theorem OneAt.below {w w' : World} {b : Nat} {v : Value} (h : OneAt w b v) (hb : Below w.heap.size w w') : OneAt w' b v :=
  ⟨(World.cell?_of_block (hb.block b h.2)).trans h.1, Nat.lt_of_lt_of_le h.2 hb.size⟩
theorem one_at {w : World} {b : Nat} {v : Value} {T : TypeId} {fr : Nat × Nat} (h : w.heap[b]? = some (.cells #[v] T fr)) : w.cell? ⟨b, 0, none⟩ = some v := by
  simp [World.cell?, h]
theorem OneAt.new (w : World) (v : Value) (T : TypeId) : OneAt (w.alloc (.cells #[v] T)) w.heap.size v := by
  refine ⟨?_, by simp⟩
  exact one_at (heap_at_new w (.cells #[v] T))
end Go.Proofs.Ytdifefgigcjgeaa
