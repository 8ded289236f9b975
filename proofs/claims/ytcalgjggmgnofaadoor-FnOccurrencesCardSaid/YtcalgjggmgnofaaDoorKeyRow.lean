/- What is proved here: lists of keys as they lie in memory. No condition. -/
import Derived.Test.YtcalgjggmgnofaaDoorKeySmall
namespace Go.Proofs.YtcalgjggmgnofaaDoor
open Go.RowKit

/-- A key: its kind, its number, its text. -/
abbrev KeyD := Int × Int × ByteArray
/-- The fields behind the first of a key in a row. -/
abbrev keyField (y : Addr) (i j : Nat) : Addr := { block := (y.add (i * 3)).block, off := (y.add (i * 3)).off + j }
/-- The slice at a reads as the keys. -/
def KeysAt (w : World) (a : Option Addr) (l : List KeyD) : Prop := ∀ j (h : j < l.length), ∃ y, a = some y ∧ w.cell? (y.add (j * 3)) = some (.int .i64 l[j].1) ∧ w.cell? (keyField y j 1) = some (.int .i64 l[j].2.1) ∧ w.cell? (keyField y j 2) = some (.string l[j].2.2)
theorem KeysAt.below {w w' : World} {a : Option Addr} {l : List KeyD} (h : KeysAt w a l) (hb : Below w.heap.size w w') : KeysAt w' a l := by
  intro j hj
  obtain ⟨y, e, h1, h2, h3⟩ := h j hj
  exact ⟨y, e, cell_below h1 hb, cell_below h2 hb, cell_below h3 hb⟩
/-- The bytes of the texts. -/
def inK (l : List KeyD) : Nat := (l.map fun x => x.2.2.size).sum
theorem inK_take (l : List KeyD) (k : Nat) (h : k < l.length) : inK (l.take (k + 1)) = inK (l.take k) + l[k].2.2.size := by
  unfold inK
  rw [List.take_succ_eq_append_getElem h, List.map_append, List.sum_append]
  simp only [List.map_cons, List.map_nil, List.sum_cons, List.sum_nil, Nat.add_zero]
theorem inK_take_le (l : List KeyD) (k : Nat) : inK (l.take k) ≤ inK l := by
  have e : inK l = inK (l.take k) + inK (l.drop k) := by
    unfold inK
    rw [← List.sum_append, ← List.map_append, List.take_append_drop]
  omega

end Go.Proofs.YtcalgjggmgnofaaDoor
