/- What is proved here: a key in a block of its own; the laws' bound on a key and its copy (szKey, toKey). No condition. -/
import Derived.Test.YtcalgjggmgnofaaDoorReads
import Derived.Test.YtcalgjggmgnofaaDoorSigBase
import Derived.Laws.Rows
namespace Go.Proofs.YtcalgjggmgnofaaDoor
open Go.RowKit

/-- A struct of three fields in a block of the call's own. -/
theorem three_cells {w : World} {b : Nat} {x y z : Value} {T : TypeId} (h : w.heap[b]? = some (.cells #[x, y, z] T (0, 0))) : w.cell? ⟨b, 0, none⟩ = some x ∧ w.cell? ⟨b, 1, none⟩ = some y ∧ w.cell? ⟨b, 2, none⟩ = some z ∧ w.frozen? ⟨b, 0, none⟩ = false ∧ w.frozen? ⟨b, 1, none⟩ = false ∧ w.frozen? ⟨b, 2, none⟩ = false := by
  refine ⟨?_, ?_, ?_, ?_, ?_, ?_⟩ <;> simp [World.cell?, World.frozen?, h]
theorem three_set {w : World} {b : Nat} {x y z : Value} {T : TypeId} (h : w.heap[b]? = some (.cells #[x, y, z] T (0, 0))) (v : Value) : (w.setCell ⟨b, 0, none⟩ v).heap[b]? = some (.cells #[v, y, z] T (0, 0)) ∧ (w.setCell ⟨b, 1, none⟩ v).heap[b]? = some (.cells #[x, v, z] T (0, 0)) ∧ (w.setCell ⟨b, 2, none⟩ v).heap[b]? = some (.cells #[x, y, v] T (0, 0)) := by
  refine ⟨?_, ?_, ?_⟩ <;> simp [World.setCell, Array.getElem?_modify, h]

theorem two_above (w : World) (o0 o1 : Obj) : ((w.alloc o0).alloc o1).heap[w.heap.size + 1]? = some o1 ∧ Below w.heap.size w ((w.alloc o0).alloc o1) := by
  have hs1 : (w.alloc o0).heap.size = w.heap.size + 1 := Array.size_push _
  have hp := heap_at_new (w.alloc o0) o1
  rw [hs1] at hp
  exact ⟨hp, ((Below.refl _ _).alloc (Nat.le_refl _) _).alloc (by omega) _⟩

/-- The cells of a key in a block of its own. -/
def KeyAt (w : World) (b : Nat) (k n : Int) (t : ByteArray) (T : TypeId) : Prop := w.heap[b]? = some (.cells #[.int .i64 k, .int .i64 n, .string t] T (0, 0))
theorem KeyAt.below {w w' : World} {b : Nat} {k n : Int} {t : ByteArray} {T : TypeId} (h : KeyAt w b k n t T) (hb : Below w.heap.size w w') : KeyAt w' b k n t T :=
  (hb.block b (Array.getElem?_eq_some_iff.1 h).1).trans h
theorem KeyAt.cells {w : World} {b : Nat} {k n : Int} {t : ByteArray} {T : TypeId} (h : KeyAt w b k n t T) : w.cell? ⟨b, 0, none⟩ = some (.int .i64 k) ∧ w.cell? ⟨b, 1, none⟩ = some (.int .i64 n) ∧ w.cell? ⟨b, 2, none⟩ = some (.string t) := by
  obtain ⟨h0, h1, h2, _⟩ := three_cells h
  exact ⟨h0, h1, h2⟩
set_option maxHeartbeats 1000000 in
set_option maxRecDepth 100000 in
theorem szKey_any (L : Nat) (hL : L ≤ 1048576) (w : World) (k n : Int) (t : ByteArray) (ht : t.size ≤ maxLen) :
    Calls Tryd.prog 34 #[.agg #[.int .i64 k, .int .i64 n, .string t], .int .i64 (L : Int)] w fun e w' => e = .returned (.int .i64 (left L t.size)) ∧ Below w.heap.size w w' := by
  unfold maxLen at ht
  have HB := Lib.hid ((Below.refl w.heap.size w).alloc (Nat.le_refl _) (.cells #[.int .i64 k, .int .i64 n, .string t] 52))
  by_cases hn : t.size ≤ L
  · have hZ := left_yes hn
    have hM2 : (L : Int) - (t.size : Int) = ((L - t.size : Nat) : Int) := by omega
    have hM3 : L - t.size ≤ 1048576 := by omega
    rw [hZ]
    generalize L - t.size = M at *
    clear hZ hn
    go_enter Tryd.func34, Tryd.ntmps34
    go_wp2
    go_ret
    exact ⟨rfl, HB.out⟩
  · have hM2 : (L : Int) - (t.size : Int) < 0 := by omega
    rw [left_no hn]
    clear hn
    go_enter Tryd.func34, Tryd.ntmps34
    go_wp2
    go_ret
    exact ⟨rfl, HB.out⟩

theorem three_above (w : World) (o0 o1 o2 : Obj) : (((w.alloc o0).alloc o1).alloc o2).heap[w.heap.size + 1]? = some o1 ∧ Below w.heap.size w (((w.alloc o0).alloc o1).alloc o2) := by
  obtain ⟨h1, h2⟩ := two_above w o0 o1
  have s2 : ((w.alloc o0).alloc o1).heap.size = w.heap.size + 1 + 1 := by simp
  refine ⟨?_, h2.alloc (by omega) _⟩
  rw [Below.heap_alloc _ _ _ (by omega)]
  exact h1

set_option maxHeartbeats 1000000 in
set_option maxRecDepth 100000 in
theorem toKey_any (w : World) (k n : Int) (t : ByteArray) :
    Calls Tryd.prog 35 #[.agg #[.int .i64 k, .int .i64 n, .string t]] w fun e w' => e = .returned (.agg #[.int .i64 k, .int .i64 n, .string t]) ∧ Below w.heap.size w w' := by
  have H := Lib.hid (three_above w (.cells #[.int .i64 k, .int .i64 n, .string t] 52) (.cells #[.int .i64 k, .int .i64 n, .string t] 40) (.cells #[.int .i64 k, .int .i64 n, .string t] 40))
  go_enter Tryd.func35, Tryd.ntmps35
  go_wp2
  refine bodyPost_ret (results_cell_row rfl _ _ (w.heap.size + 1) _ _ _ _ rfl H.out.1 Tryd.underlying40 rfl (by kernel_rfl)) rfl ?_
  exact ⟨rfl, H.out.2⟩

end Go.Proofs.YtcalgjggmgnofaaDoor
