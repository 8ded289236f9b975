/- What is proved here: the text of FnExactSplitByte returns true for every text and byte. Condition: the library's variable bytealg.MaxLen holds an integer. -/
import Derived.Test.YtcidmanlijeomaaDoorImplSplit
import Derived.Test.YtcidmanlijeomaaDoorMarks
namespace Go.Proofs.YtcidmanlijeomaaDoor
open Go.RowKit

/-- What was read below block g reads as before where only g has changed. -/
theorem reads_grown {w w' : World} {a : Option Addr} {xs : List ByteArray} {g B : Nat} (h : Reads w a xs) (hlt : ∀ j (_ : j < xs.length) y, a = some y → (y.add j).block < B) (hB : B ≤ g) (hw : B ≤ w.heap.size) (hg : w.grownBy w' (some g)) : Reads w' a xs := by
  intro j hj
  obtain ⟨y, rfl, hc⟩ := h j hj
  have := hlt j hj y rfl
  refine ⟨y, rfl, ?_⟩
  rw [← hc]
  exact World.cell?_of_block (hg.block _ (by omega) (by intro e; injection e with e; omega))
theorem reads_lt {w : World} {a : Option Addr} {xs : List ByteArray} (h : Reads w a xs) : ∀ j (_ : j < xs.length) y, a = some y → (y.add j).block < w.heap.size := by
  intro j hj y hy
  obtain ⟨z, hz, hc⟩ := h j hj
  obtain rfl : y = z := by rw [hy] at hz; injection hz
  exact World.block_lt_of_cell? w _ hc

set_option maxHeartbeats 2000000 in
set_option maxRecDepth 100000 in
theorem exactSplit_small (s : ByteArray) (c : UInt8) (hs : s.size ≤ 1048576) (w : World) (hv : MaxLenVar w) :
    Calls Tryd.prog 8 #[.string s, .int .u8 (c.toNat : Int)] w fun e w' => e = .returned (.bool true) ∧ Below w.heap.size w w' := by
  have hnb : ¬ 1048576 < s.size := by omega
  go_enter Tryd.func8, Tryd.ntmps8
  go_wp2_with fail
  refine (spec_split s c hs _).mono ?_
  rintro e w1 ⟨ys, hy, a1, c1, rfl, hr1, hb1⟩
  have hyl : ys.length ≤ 1048577 := by
    have h1 := pieces_len c s.data.toList
    rw [← hy] at h1
    have h2 : s.data.toList.length = s.size := rfl
    simp only [List.length_map] at h1
    omega
  have hlt1 := reads_lt hr1
  have HY := Lib.hid hy
  have HR1 := Lib.hid hr1
  have HLT := Lib.hid hlt1
  clear hy hr1 hlt1
  go_wp2_with fail
  refine (impl_split s c hs w1 (hv.stays hb1 (Nat.le_refl _)) ys HY.out).mono ?_
  rintro e w2 ⟨g, hg, rfl, hc2, hb2⟩
  have hb2' : Below w.heap.size w w2 := hb1.trans (hb2.mono hb1.size)
  have HR2 := Lib.hid (reads_below HR1.out hb2)
  have HG2 := Lib.hid (reads_new hc2)
  have HC2 := Lib.hid hc2
  clear hc2
  go_wp2_with fail
  refine (eqS_same w2 _ _ _ _ ys HG2.out HR2.out (by unfold maxLen; omega)).mono ?_
  rintro e w3 ⟨rfl, q3, rfl⟩
  go_wp2_with fail
  refine (markS_any (w2.drewN q3) g _ 1 ys HC2.out hyl (by omega) (by omega)).mono ?_
  rintro e w4 ⟨rfl, hc4, hg4⟩
  have hs1 := hb1.size
  have hs2 := hb2.size
  have hb4' : Below w.heap.size w w4 := (below_drewN hb2' q3).grown hg4 (by have := hb2'.size; exact this) (fun k e => by injection e with e; omega)
  have HR4 := Lib.hid (reads_grown (reads_drewN HR2.out q3) HLT.out hg (by exact hs2) hg4)
  have HM4 := Lib.hid (reads_new hc4)
  have HC4 := Lib.hid hc4
  clear hc4
  have hnn : ¬ ((1 + ys.length : Nat) : Int) < 0 := by omega
  go_wp2_with fail
  have HH := heldS_any w4 (some ⟨g, 0, none⟩) ys.length 1 ys.length (by exact HM4.out) hyl (by omega) (by omega)
  refine HH.mono ?_
  clear HH
  rintro e w5 ⟨rfl, hb5⟩
  have hb5' : Below w.heap.size w w5 := hb4'.trans (hb5.mono hb4'.size)
  have HR5 := Lib.hid (reads_below HR4.out hb5)
  have HM5 := Lib.hid (reads_below HM4.out hb5)
  go_wp2_with fail
  refine (impl_split s c hs w5 (hv.stays hb5' (Nat.le_refl _)) ys HY.out).mono ?_
  rintro e w6 ⟨g6, hg6, rfl, hc6, hb6⟩
  have hb6' : Below w.heap.size w w6 := hb5'.trans (hb6.mono hb5'.size)
  have HR6 := Lib.hid (reads_below HR5.out hb6)
  have HM6 := Lib.hid (reads_below HM5.out hb6)
  have HG6 := Lib.hid (reads_new hc6)
  clear hc6
  go_wp2_with fail
  refine (eqS_same w6 _ _ _ _ ys HG6.out HR6.out (by unfold maxLen; omega)).mono ?_
  rintro e w7 ⟨rfl, q7, rfl⟩
  go_wp2_with fail
  have HH := heldS_any (w6.drewN q7) (some ⟨g, 0, none⟩) ys.length 1 ys.length (by exact HM6.out) hyl (by omega) (by omega)
  refine HH.mono ?_
  clear HH
  rintro e w8 ⟨rfl, hb8⟩
  have hb8' : Below w.heap.size w w8 := (below_drewN hb6' q7).trans (hb8.mono hb6'.size)
  go_wp2
  go_ret
  exact ⟨rfl, hb8'⟩

set_option maxRecDepth 100000 in
theorem fnExactSplitByte_walk (s : ByteArray) (hs : s.size ≤ maxLen) (b : Int) (b0 : 0 ≤ b) (b1 : b ≤ 255) (w : World) (hv : MaxLenVar w) :
    Calls Tryd.prog 8 #[.string s, .int .u8 b] w fun e w' => e = .returned (.bool true) ∧ Below w.heap.size w w' := by
  unfold maxLen at hs
  by_cases h : s.size ≤ 1048576
  · obtain ⟨c, rfl⟩ : ∃ c : UInt8, b = (c.toNat : Int) := ⟨UInt8.ofNat b.toNat, by simp; omega⟩
    exact exactSplit_small s c h w hv
  · have hnb : 1048576 < s.size := by omega
    go_enter Tryd.func8, Tryd.ntmps8
    go_wp2
    go_ret
    exact ⟨rfl, Below.refl _ _⟩
end Go.Proofs.YtcidmanlijeomaaDoor
