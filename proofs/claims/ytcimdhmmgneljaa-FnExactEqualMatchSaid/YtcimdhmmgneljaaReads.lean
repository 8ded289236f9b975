/- What is proved here: lists of texts as they lie in memory. No condition. -/
import Derived.Test.YtcimdhmmgneljaaProg
import Derived.WalkKit
import Derived.ProofKit
import Derived.Below
import Derived.Laws.AppendOwn
import Derived.Laws.OwnMore
import Derived.Laws.MakeOwn
import Derived.Deep.Draws
import Derived.Deep.QuietTactic
import Derived.BigQuiet
import Derived.WalkLawsBesides
import Derived.WalkSpells
import Derived.Outline
import Derived.Lib.Hide
import Derived.Lib.Walk
import Derived.OwnWalk
import Derived.Maps.AppendAt
namespace Go.Proofs.Ytcimdhmmgneljaa
open Go.RowKit

theorem below_drewN {B : Nat} {a w : World} (h : Below B a w) (n : Nat) : Below B a (w.drewN n) := ⟨h.os, h.tape, h.output, h.size, h.block⟩

/-- The slice at a reads as the texts xs. -/
def Reads (w : World) (a : Option Addr) (xs : List ByteArray) : Prop := ∀ j (h : j < xs.length), ∃ y, a = some y ∧ w.cell? (y.add j) = some (.string xs[j])

def total (xs : List ByteArray) : Nat := (xs.map ByteArray.size).sum
theorem total_take (xs : List ByteArray) (k : Nat) (h : k < xs.length) : total (xs.take (k + 1)) = total (xs.take k) + xs[k].size := by
  unfold total
  rw [List.take_succ_eq_append_getElem h, List.map_append, List.sum_append]
  simp only [List.map_cons, List.map_nil, List.sum_cons, List.sum_nil, Nat.add_zero]
theorem total_take_le (xs : List ByteArray) (k : Nat) : total (xs.take k) ≤ total xs := by
  have e : total xs = total (xs.take k) + total (xs.drop k) := by
    unfold total
    rw [← List.sum_append, ← List.map_append, List.take_append_drop]
  omega


theorem reads_drewN {w : World} {a : Option Addr} {xs : List ByteArray} (h : Reads w a xs) (n : Nat) : Reads (w.drewN n) a xs := h

theorem addr_block (x : Addr) (i : Nat) : (x.add i).block = x.block := by unfold Addr.add; split <;> rfl
theorem reads_below {w w' : World} {a : Option Addr} {xs : List ByteArray} (h : Reads w a xs) (hb : Below w.heap.size w w') : Reads w' a xs := by
  intro j hj
  obtain ⟨y, rfl, hc⟩ := h j hj
  refine ⟨y, rfl, ?_⟩
  rw [← hc]
  have hlt : (y.add j).block < w.heap.size := by
    rcases Nat.lt_or_ge (y.add j).block w.heap.size with h | h
    · exact h
    · simp [World.cell?, Array.getElem?_eq_none h] at hc
  exact World.cell?_of_block (hb.block _ hlt)
theorem reads_new {w : World} {g : Nat} {T : TypeId} {xs : List ByteArray} (hb : w.heap[g]? = some (.cells (xs.map Value.string).toArray T (0, 0))) : Reads w (some ⟨g, 0, none⟩) xs := by
  intro j hj
  refine ⟨_, rfl, ?_⟩
  have e : (⟨g, 0, none⟩ : Addr).add j = ⟨g, j, none⟩ := by simp [Addr.add]; intro h; omega
  rw [e]
  simp [World.cell?, hb, hj]
theorem cells_set {w : World} {g : Nat} {T : TypeId} {l : List Value} (hb : w.heap[g]? = some (.cells l.toArray T (0, 0))) (k : Nat) (v : Value) : (w.setCell ⟨g, k, none⟩ v).heap[g]? = some (.cells (l.set k v).toArray T (0, 0)) := by
  simp [World.setCell, Array.getElem?_modify, hb]
theorem cells_cell {w : World} {g : Nat} {T : TypeId} {l : List Value} (hb : w.heap[g]? = some (.cells l.toArray T (0, 0))) (k : Nat) (hk : k < l.length) : w.cell? ⟨g, k, none⟩ = some l[k] := by
  simp [World.cell?, hb, hk]
theorem cells_free {w : World} {g : Nat} {T : TypeId} {l : List Value} (hb : w.heap[g]? = some (.cells l.toArray T (0, 0))) (k : Nat) : w.frozen? ⟨g, k, none⟩ = false := by
  simp [World.frozen?, hb]
theorem heap_at_new (w : World) (o : Obj) : (w.alloc o).heap[w.heap.size]? = some o := by
  show (w.heap.push o)[w.heap.size]? = _
  simp

end Go.Proofs.Ytcimdhmmgneljaa
