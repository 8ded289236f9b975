/- What is proved here: drawn keys (package spec, l5Key) and lists of keys that append makes longer. Condition: the cursor's block holds a cursor. -/
import Derived.Test.YtcalgjggmgnofaaDoorPick
import Derived.Test.YtcalgjggmgnofaaDoorKeyRow
import Derived.Test.YtcalgjggmgnofaaDoorDrawTame
namespace Go.Proofs.YtcalgjggmgnofaaDoor
open Go.RowKit

def keyTexts : List ByteArray := [⟨#[]⟩, ⟨#[78, 105, 108]⟩, ⟨#[97]⟩]
theorem keyTexts_small : ∀ x ∈ keyTexts, x.size ≤ 16 := by
  intro s hs
  simp only [keyTexts, List.mem_cons, List.mem_nil_iff, or_false] at hs
  rcases hs with rfl | rfl | rfl <;> decide
/-- A small key. -/
def SmallKey (x : KeyD) : Prop := (0 ≤ x.1 ∧ x.1 ≤ 9) ∧ (0 ≤ x.2.1 ∧ x.2.1 ≤ 9) ∧ x.2.2.size ≤ 16

set_option maxHeartbeats 1000000 in
set_option maxRecDepth 100000 in
theorem l5Key_any (N : Nat) (w : World) (hc : Cur N w) : Calls Tryd.prog 48 #[.pointer (some ⟨N, 0, none⟩)] w fun e w' => ∃ x : KeyD, SmallKey x ∧ e = .returned (.agg #[.int .i64 x.1, .int .i64 x.2.1, .string x.2.2]) ∧ CurStep N w w' := by
  have hNw := hc.lt
  have hs1 := CurStep.alloc hc (.cells #[.int .i64 0, .int .i64 0, .string ⟨#[]⟩] 40)
  have hr1 := heap_at_new w (.cells #[.int .i64 0, .int .i64 0, .string ⟨#[]⟩] 40)
  have hz : (w.alloc (.cells #[.int .i64 0, .int .i64 0, .string ⟨#[]⟩] 40)).heap.size = w.heap.size + 1 := Array.size_push _
  have HB := Lib.hid (below_any N 5 (by omega) (by omega) _ hs1.1)
  have HS1 := Lib.hid hs1
  have HR1 := Lib.hid hr1
  have HZ := Lib.hid hz
  have HNW := Lib.hid hNw
  clear hs1 hr1 hz hNw hc
  go_enter Tryd.func48, Tryd.ntmps48
  go_wp2_with fail
  refine HB.out.mono ?_
  rintro e w2 ⟨k, k0, k1, rfl, hs2⟩
  have hr2 : w2.heap[w.heap.size]? = _ := (hs2.2.block _ (by have := HZ.out; omega) (fun e => by injection e with e; have := HNW.out; omega)).trans HR1.out
  have HZ2 : Hid (w.heap.size < w2.heap.size) := by unfold Hid; have := HZ.out; have := hs2.size; omega
  have HS2 := Lib.hid (HS1.out.trans hs2)
  have HR2 := Lib.hid hr2
  have HB2 := Lib.hid (below_any N 2 (by omega) (by omega) w2 hs2.1)
  clear hs2 hr2 HB HS1 HR1 HZ
  go_wp2_with fail
  refine HB2.out.mono ?_
  rintro e w3 ⟨n, n0, n1, rfl, hs3⟩
  have hr3 : w3.heap[w.heap.size]? = _ := (hs3.2.block _ HZ2.out (fun e => by injection e with e; have := HNW.out; omega)).trans HR2.out
  have HZ3 : Hid (w.heap.size < w3.heap.size) := by unfold Hid; have := HZ2.out; have := hs3.size; omega
  have hs4 := CurStep.alloc hs3.1 (.cells (keyTexts.map Value.string).toArray 9)
  have hal : Below w3.heap.size w3 (w3.alloc (.cells (keyTexts.map Value.string).toArray 9)) := (Below.refl _ _).alloc (Nat.le_refl _) _
  have HR4 : Hid ((w3.alloc (.cells (keyTexts.map Value.string).toArray 9)).heap[w.heap.size]? = _) := (hal.block _ HZ3.out).trans hr3
  have HS4 := Lib.hid ((HS2.out.trans hs3).trans hs4)
  have HP := Lib.hid (pick_any N w3.heap.size keyTexts 3 9 _ hs4.1 (heap_new w3 _) (by have := HZ3.out; have := HNW.out; omega) (by decide) (by decide))
  have HZ4 : Hid (w.heap.size < (w3.alloc (.cells (keyTexts.map Value.string).toArray 9)).heap.size) := by unfold Hid; have := HZ3.out; have := hal.size; omega
  clear hs3 hs4 hal hr3 HB2 HS2 HR2 HZ2
  go_wp2_with fail
  refine HP.out.mono ?_
  rintro e w5 ⟨t, ht, rfl, hs5⟩
  have hr5 : w5.heap[w.heap.size]? = _ := (hs5.2.block _ HZ4.out (fun e => by injection e with e; have := HNW.out; omega)).trans HR4.out
  have HS5 := Lib.hid (HS4.out.trans hs5)
  have HR5 := Lib.hid hr5
  have HT := Lib.hid (keyTexts_small t ht)
  obtain ⟨c0, c1, c2, f0, f1, f2⟩ := three_cells hr5
  clear ht hs5 hr5 HP HS4 HR4 HZ4
  go_wp2
  refine bodyPost_ret (results_cell_row rfl _ _ w.heap.size _ _ _ _ rfl (three_set (three_set (three_set HR5.out _).1 _).2.1 _).2.2 Tryd.underlying40 rfl (by kernel_rfl)) rfl ?_
  have hg : ∀ (W : World) (o : Nat) (u : Value), W.grownBy (W.setCell ⟨w.heap.size, o, none⟩ u) (some w.heap.size) := fun W o u => grown_set W w.heap.size o u
  have hl : ∀ g, some w.heap.size = some g → N < g := fun g e => by injection e with e; have := HNW.out; omega
  have hj : ∀ g, some w.heap.size = some g → g = N ∨ w.heap.size ≤ g := fun g e => by injection e with e; omega
  exact ⟨(k, n, t), ⟨⟨k0, by show k ≤ 9; omega⟩, ⟨n0, by show n ≤ 9; omega⟩, HT.out⟩, rfl, (((HS5.out.1.later (hg _ _ _) hl).later (hg _ _ _) hl).later (hg _ _ _) hl), grown_join (grown_join (grown_join HS5.out.2 (hg _ _ _) hj) (hg _ _ _) hj) (hg _ _ _) hj⟩

/-- The cells of a list of keys. -/
def keyCells (l : List KeyD) : List Value := l.flatMap fun x => [.int .i64 x.1, .int .i64 x.2.1, .string x.2.2]
theorem keyCells_snoc (l : List KeyD) (x : KeyD) : keyCells (l ++ [x]) = keyCells l ++ [.int .i64 x.1, .int .i64 x.2.1, .string x.2.2] := by simp [keyCells]
theorem keyCells_length (l : List KeyD) : (keyCells l).length = l.length * 3 := by
  induction l with
  | nil => rfl
  | cons x l ih => simp [keyCells] at ih ⊢; omega
theorem keyCells_at (l : List KeyD) (j : Nat) (h : j < l.length) : (keyCells l)[j * 3]? = some (.int .i64 l[j].1) ∧ (keyCells l)[j * 3 + 1]? = some (.int .i64 l[j].2.1) ∧ (keyCells l)[j * 3 + 2]? = some (.string l[j].2.2) := by
  induction l generalizing j with
  | nil => simp at h
  | cons x l ih =>
    have e : keyCells (x :: l) = .int .i64 x.1 :: .int .i64 x.2.1 :: .string x.2.2 :: keyCells l := rfl
    cases j with
    | zero => rw [e]; exact ⟨rfl, rfl, rfl⟩
    | succ j =>
      have h2 := ih j (by simpa using h)
      rw [e, show (j + 1) * 3 = j * 3 + 1 + 1 + 1 by omega, show j * 3 + 1 + 1 + 1 + 1 = (j * 3 + 1) + 1 + 1 + 1 by omega, show j * 3 + 1 + 1 + 1 + 2 = (j * 3 + 2) + 1 + 1 + 1 by omega]
      simpa using h2
theorem keys_of_own {w : World} {B g cap : Nat} {l : List KeyD} (h : w.ownsRow B 40 3 (.slice (some ⟨g, 0, none⟩) l.length cap) l.length (keyCells l)) : KeysAt w (some ⟨g, 0, none⟩) l := by
  intro j hj
  obtain ⟨h0, h1, h2⟩ := keyCells_at l j hj
  have ha : ∀ i, (⟨g, 0, none⟩ : Addr).add i = ⟨g, i, none⟩ := fun i => by simp [Addr.add]; intro h; omega
  refine ⟨_, rfl, ?_, ?_, ?_⟩
  · rw [ha, h.cellAt _ (by omega)]; exact h0
  · unfold keyField; rw [ha]; exact (h.cellAt (j * 3 + 1) (by omega)).trans h1
  · unfold keyField; rw [ha]; exact (h.cellAt (j * 3 + 2) (by omega)).trans h2
end Go.Proofs.YtcalgjggmgnofaaDoor
