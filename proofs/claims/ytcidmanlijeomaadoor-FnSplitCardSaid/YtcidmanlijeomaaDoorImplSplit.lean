/- What is proved here: impl.SplitByte returns the pieces of the text between the occurrences of the byte, in a block of its own. Conditions: at most 1048576 bytes; the library's variable bytealg.MaxLen holds an integer. -/
import Derived.Test.YtcidmanlijeomaaDoorSpecSplit
import Derived.Test.YtcidmanlijeomaaDoorShelf
import Derived.Laws.IdiomStrings
namespace Go.Proofs.YtcidmanlijeomaaDoor
open Go.RowKit

/-- The library's variable bytealg.MaxLen holds an integer. -/
def MaxLenVar (w : World) : Prop := ∃ m, w.cell? ⟨3, 0, none⟩ = some (.int .i64 m)
theorem MaxLenVar.stays {B : Nat} {w w' : World} (h : MaxLenVar w) (hb : Below B w w') (hB : w.heap.size ≤ B) : MaxLenVar w' := by
  obtain ⟨m, h⟩ := h
  refine ⟨m, ?_⟩
  have hlt : 3 < w.heap.size := World.block_lt_of_cell? w _ h
  rw [← h]
  exact World.cell?_of_block (hb.block _ (by show 3 < B; omega))

/-- 'string([]byte{by})' off a new block. -/
theorem conv_sep (c : UInt8) (w : World) :
    (convert 22 9 (.slice (some ⟨w.heap.size, 0, none⟩) 1 1)).run Tryd.prog (w.alloc (.cells #[.int .u8 (c.toNat : Int)] 5)) = .ok (.string ⟨#[c]⟩) (w.alloc (.cells #[.int .u8 (c.toNat : Int)] 5)) := by
  have h := run_convert_bytes_back (P := Tryd.prog) (w.alloc (.cells #[.int .u8 (c.toNat : Int)] 5)) 22 9 5 ⟨w.heap.size, 0, none⟩ 1 [c] Tryd.underlying22 Tryd.underlying5 Tryd.underlying9 (fun j hj => by
    have hj0 : j = 0 := by simpa using hj
    subst hj0
    simp [Addr.add, World.cell?_alloc_new])
  simpa using h

/-- The texts come back in a block of their own. -/
def OwnTexts (w : World) (xs : List ByteArray) (e : Ending) (w' : World) : Prop :=
  ∃ g, w.heap.size ≤ g ∧ e = .returned (.slice (some ⟨g, 0, none⟩) xs.length xs.length) ∧ w'.heap[g]? = some (.cells (xs.map Value.string).toArray 9 (0, 0)) ∧ Below w.heap.size w w'

set_option maxHeartbeats 1000000 in
set_option maxRecDepth 100000 in
theorem impl_split (s : ByteArray) (c : UInt8) (hs : s.size ≤ 1048576) (w : World) (hv : MaxLenVar w) (ys : List ByteArray) (hy : ys.map (·.data.toList) = pieces c s.data.toList) :
    Calls Tryd.prog 18 #[.string s, .int .u8 (c.toNat : Int)] w (OwnTexts w ys) := by
  have hsp := split_pieces c ⟨#[c]⟩ rfl s.size s (Nat.le_refl _)
  have hlist : Lib.splitB ⟨#[c]⟩ 0 (Lib.countB s ⟨#[c]⟩) s = ys := by
    have := hsp.1.trans hy.symm
    exact List.map_inj_right (fun a b h => Go.WideShapes.bytes_inj h) |>.1 this
  have hlen := hsp.2
  rw [hlist] at hlen
  have hcv := conv_sep c w
  have hv1 : MaxLenVar (w.alloc (.cells #[.int .u8 (c.toNat : Int)] 5)) := hv.stays ((Below.refl _ _).alloc (Nat.le_refl _) _) (Nat.le_refl _)
  obtain ⟨m, hm⟩ := hv1
  have H := Tryd.strings_Split s ⟨#[c]⟩ m _ (by omega) hm (Nat.le_refl _)
  rw [hlist, ← hlen] at H
  have HL := Lib.hid hlen
  clear hsp hy hlist hlen hm
  go_enter Tryd.func18, Tryd.ntmps18
  go_wp2_with fail
  refine H.mono ?_
  rintro e w1 ⟨rfl, rfl⟩
  go_wp2
  go_ret
  refine ⟨w.heap.size + 1, by omega, by simp, ?_, ((Below.refl _ _).alloc (Nat.le_refl _) _).alloc (by simp) _⟩
  have := heap_at_new (w.alloc (.cells #[.int .u8 (c.toNat : Int)] 5)) (.cells (ys.map Value.string).toArray 9)
  simpa using this
end Go.Proofs.YtcidmanlijeomaaDoor
