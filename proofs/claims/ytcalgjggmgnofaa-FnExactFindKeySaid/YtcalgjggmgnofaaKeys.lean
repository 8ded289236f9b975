/- What is proved here: keys: the model's and the program's KeyOf, the laws' copy and comparison of keys. Condition: none. -/
import Derived.Test.YtcalgjggmgnofaaImplKind
import Derived.Test.YtcalgjggmgnofaaAssert
import Derived.Laws.Rows
namespace Go.Proofs.Ytcalgjggmgnofaa
open Go.RowKit

/-- A key as a value. -/
def keyV (k n : Int) (t : ByteArray) : Value := .agg #[.int .i64 k, .int .i64 n, .string t]
/-- The key of a node. -/
def keyOfV (k n : Int) (t : ByteArray) : Value := if k = 1 then keyV 1 n ⟨#[]⟩ else if k = 2 then keyV 2 0 t else if k = 3 then keyV 3 0 t else keyV 0 0 ⟨#[]⟩

/-- A struct of three fields in a block of the call's own. -/
theorem three_cells {w : World} {b : Nat} {x y z : Value} {T : TypeId} (h : w.heap[b]? = some (.cells #[x, y, z] T (0, 0))) : w.cell? ⟨b, 0, none⟩ = some x ∧ w.cell? ⟨b, 1, none⟩ = some y ∧ w.cell? ⟨b, 2, none⟩ = some z ∧ w.frozen? ⟨b, 0, none⟩ = false ∧ w.frozen? ⟨b, 1, none⟩ = false ∧ w.frozen? ⟨b, 2, none⟩ = false := by
  refine ⟨?_, ?_, ?_, ?_, ?_, ?_⟩ <;> simp [World.cell?, World.frozen?, h]
theorem three_set {w : World} {b : Nat} {x y z : Value} {T : TypeId} (h : w.heap[b]? = some (.cells #[x, y, z] T (0, 0))) (v : Value) : (w.setCell ⟨b, 0, none⟩ v).heap[b]? = some (.cells #[v, y, z] T (0, 0)) ∧ (w.setCell ⟨b, 1, none⟩ v).heap[b]? = some (.cells #[x, v, z] T (0, 0)) ∧ (w.setCell ⟨b, 2, none⟩ v).heap[b]? = some (.cells #[x, y, v] T (0, 0)) := by
  refine ⟨?_, ?_, ?_⟩ <;> simp [World.setCell, Array.getElem?_modify, h]

theorem two_above (w : World) (o0 o1 : Obj) : ((w.alloc o0).alloc o1).heap[w.heap.size + 1]? = some o1 ∧ Below w.heap.size w ((w.alloc o0).alloc o1) := by
  have hs1 : (w.alloc o0).heap.size = w.heap.size + 1 := Array.size_push _
  have hp := heap_at_new (w.alloc o0) o1
  rw [hs1] at hp
  exact ⟨hp, ((Below.refl _ _).alloc (Nat.le_refl _) _).alloc (by omega) _⟩

/-- The cells of a key in a block of its own. -/
def KeyAt (w : World) (b : Nat) (k n : Int) (t : ByteArray) (T : TypeId) : Prop := w.heap[b]? = some (.cells #[.int .i64 k, .int .i64 n, .string t] T (0, 0))
theorem KeyAt.below {w w' : World} {b : Nat} {k n : Int} {t : ByteArray} {T : TypeId} (h : KeyAt w b k n t T) (hb : Below w.heap.size w w') : KeyAt w' b k n t T :=
  (hb.block b (Array.getElem?_eq_some_iff.1 h).1).trans h
theorem KeyAt.cells {w : World} {b : Nat} {k n : Int} {t : ByteArray} {T : TypeId} (h : KeyAt w b k n t T) : w.cell? ⟨b, 0, none⟩ = some (.int .i64 k) ∧ w.cell? ⟨b, 1, none⟩ = some (.int .i64 n) ∧ w.cell? ⟨b, 2, none⟩ = some (.string t) := by
  obtain ⟨h0, h1, h2, _⟩ := three_cells h
  exact ⟨h0, h1, h2⟩
theorem keyOf_some (k n : Int) (t : ByteArray) : ∃ k' n' t', keyOfV k n t = keyV k' n' t' := by
  unfold keyOfV
  split
  · exact ⟨_, _, _, rfl⟩
  · split
    · exact ⟨_, _, _, rfl⟩
    · split
      · exact ⟨_, _, _, rfl⟩
      · exact ⟨_, _, _, rfl⟩

set_option maxHeartbeats 1000000 in
set_option maxRecDepth 100000 in
theorem spec_keyOf (w : World) (k n : Int) (t : ByteArray) (p : Option Addr) (l c : Nat) :
    Calls Try.prog 19 #[.agg #[.int .i64 k, .int .i64 n, .string t, .slice p l c]] w fun e w' => e = .returned (keyOfV k n t) ∧ Below w.heap.size w w' := by
  have H := fun a b s => two_above w (.cells #[.int .i64 k, .int .i64 n, .string t, .slice p l c] 29) (.cells #[.int .i64 a, .int .i64 b, .string s] 41)
  have HH := Lib.hid H
  clear H
  by_cases h1 : k = 1
  · subst h1
    have HK : Hid (keyOfV 1 n t = keyV 1 n ⟨#[]⟩) := by unfold Hid keyOfV; rw [if_pos rfl]
    go_enter Try.func19, Try.ntmps19
    go_wp2
    refine bodyPost_ret (results_cell_row rfl _ _ (w.heap.size + 1) _ _ _ _ rfl (HH.out 1 n ⟨#[]⟩).1 Try.underlying41 rfl (by kernel_rfl)) rfl ?_
    exact ⟨by rw [HK.out]; rfl, (HH.out 1 n ⟨#[]⟩).2⟩
  · have e1 : (k == 1) = false := by simpa using h1
    by_cases h2 : k = 2
    · subst h2
      have HK : Hid (keyOfV 2 n t = keyV 2 0 t) := by unfold Hid keyOfV; rw [if_neg (by decide), if_pos rfl]
      go_enter Try.func19, Try.ntmps19
      go_wp2
      refine bodyPost_ret (results_cell_row rfl _ _ (w.heap.size + 1) _ _ _ _ rfl (HH.out 2 0 t).1 Try.underlying41 rfl (by kernel_rfl)) rfl ?_
      exact ⟨by rw [HK.out]; rfl, (HH.out 2 0 t).2⟩
    · have e2 : (k == 2) = false := by simpa using h2
      by_cases h3 : k = 3
      · subst h3
        have HK : Hid (keyOfV 3 n t = keyV 3 0 t) := by unfold Hid keyOfV; rw [if_neg (by decide), if_neg (by decide), if_pos rfl]
        go_enter Try.func19, Try.ntmps19
        go_wp2
        refine bodyPost_ret (results_cell_row rfl _ _ (w.heap.size + 1) _ _ _ _ rfl (HH.out 3 0 t).1 Try.underlying41 rfl (by kernel_rfl)) rfl ?_
        exact ⟨by rw [HK.out]; rfl, (HH.out 3 0 t).2⟩
      · have e3 : (k == 3) = false := by simpa using h3
        have HK : Hid (keyOfV k n t = keyV 0 0 ⟨#[]⟩) := by unfold Hid keyOfV; rw [if_neg h1, if_neg h2, if_neg h3]
        clear h1 h2 h3
        go_enter Try.func19, Try.ntmps19
        go_wp2
        refine bodyPost_ret (results_cell_row rfl _ _ (w.heap.size + 1) _ _ _ _ rfl (HH.out 0 0 ⟨#[]⟩).1 Try.underlying41 rfl (by kernel_rfl)) rfl ?_
        exact ⟨by rw [HK.out]; rfl, (HH.out 0 0 ⟨#[]⟩).2⟩

set_option maxHeartbeats 1000000 in
set_option maxRecDepth 100000 in
/-- eqKey at one key twice. -/
theorem eqKey_same (w : World) (k n : Int) (t : ByteArray) : Calls Try.prog 21 #[keyV k n t, keyV k n t] w fun e w' => e = .returned (.bool true) ∧ Below w.heap.size w w' := by
  have HB := Lib.hid (two_above w (.cells #[.int .i64 k, .int .i64 n, .string t] 41) (.cells #[.int .i64 k, .int .i64 n, .string t] 41)).2
  have he : (t.toList == t.toList) = true := by simp
  unfold keyV
  go_enter Try.func21, Try.ntmps21
  go_wp2
  go_ret
  exact ⟨rfl, HB.out⟩
end Go.Proofs.Ytcalgjggmgnofaa
