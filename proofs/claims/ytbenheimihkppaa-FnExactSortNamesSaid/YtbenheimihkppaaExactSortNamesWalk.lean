/- What is proved here: the text of FnExactSortNames returns true for every list. Condition: none. -/
import Derived.Test.YtbenheimihkppaaImplSort
import Derived.Test.YtbenheimihkppaaSpecSort
namespace Go.Proofs.Ytbenheimihkppaa
open Go.RowKit

theorem Block.grown {w w' : World} {g g' : Nat} {xs : List ByteArray} {rest : List Value} (h : Block w g xs rest) (hg : w.grownBy w' (some g')) (hne : g ≠ g') : Block w' g xs rest := by
  unfold Block
  rw [hg.block g h.lt (fun e => hne (by injection e))]
  exact h
theorem Block.drewN {w : World} {g : Nat} {xs : List ByteArray} {rest : List Value} (h : Block w g xs rest) (q : Nat) : Block (w.drewN q) g xs rest := h
theorem below_row {B : Nat} {w0 w w' : World} {g : Nat} (h : Below B w0 w) (hg : w.grownBy w' (some g)) (hB : B ≤ g) (hs : B ≤ w.heap.size) : Below B w0 w' := h.grown hg hs (fun k e => by injection e with e; omega)
theorem block_new {w : World} {g : Nat} {xs : List ByteArray} (h : w.heap[g]? = some (.cells (xs.map Value.string).toArray 9 (0, 0))) : Block w g xs [] := by
  unfold Block
  rw [List.append_nil]
  exact h

set_option maxHeartbeats 2000000 in
set_option maxRecDepth 100000 in
theorem fnExactSortNames_walk (a : Option Addr) (cap : Nat) (xs : List ByteArray) (w : World) (hx : Reads w a xs) (hm : xs.length ≤ maxLen) (hs : ∀ x ∈ xs, x.size ≤ maxLen) :
    Calls Try.prog 9 #[.slice a xs.length cap] w fun e w' => e = .returned (.bool true) ∧ Below w.heap.size w w' := by
  have H0 := sz_any w a cap xs hx hm hs
  by_cases hsz : xs.length + total xs ≤ 1048576
  · have he : szEnd xs = 1048576 - (xs.length : Int) - (total xs : Int) := if_pos hsz
    have hn : ¬ szEnd xs < 0 := by omega
    have hn2 : xs.length ≤ 1048576 := by omega
    have HX := Lib.hid hx
    have HM := Lib.hid hm
    have hyn : (sorted xs).length ≤ 1048576 := Nat.le_trans (sorted_length_le xs) hn2
    have hI := fun w g cap hr => impl_sort w g cap xs hr hn2
    have HU : Hid (∀ zs, SortOf xs zs → zs = sorted xs) := fun zs h => sortOf_unique h (sorted_ok xs)
    clear hx hs he
    generalize szEnd xs = q at *
    generalize sorted xs = ys at hyn hI HU
    have HYM : Hid (ys.length ≤ maxLen) := by unfold Hid maxLen; omega
    go_enter Try.func9, Try.ntmps9
    go_wp2_with fail
    refine H0.mono ?_
    rintro e w0 ⟨rfl, rfl⟩
    go_wp2_with fail
    refine (toS_any w a cap xs HX.out hn2).mono ?_
    rintro e w1 ⟨g1, hg1, rfl, hc1, hb1⟩
    have HR1 := Lib.hid (reads_new hc1)
    clear hc1
    go_wp2_with fail
    refine (spec_sort w1 _ _ xs HR1.out hn2).mono ?_
    rintro e w2 ⟨zs, hso, g2, c2, r2, hg2, rfl, hc2, hb2⟩
    obtain rfl := HU.out zs hso
    have hB2 : Below w.heap.size w w2 := hb1.trans (hb2.mono hb1.size)
    have HB2 := Lib.hid hB2
    have hl2 := hc2.lt
    have HC2 := Lib.hid hc2
    clear hso hc2 hB2
    go_wp2_with fail
    refine (toS_any w2 a cap xs (reads_below HX.out HB2.out) hn2).mono ?_
    rintro e w3 ⟨g3, hg3, rfl, hc3, hb3⟩
    have HB3 : Hid (Below w.heap.size w w3) := HB2.out.trans (hb3.mono HB2.out.size)
    have HC3 := Lib.hid (block_new hc3)
    have HC2 := Lib.hid (HC2.out.below hb3)
    have hl3 := HC3.out.lt
    clear hc3 hb3
    go_wp2_with fail
    refine (hI w3 g3 _ HC3.out.reads).mono ?_
    rintro e w4 ⟨g4, c4, r4, hg4, rfl, hc4, hb4⟩
    have HB4 : Hid (Below w.heap.size w w4) := HB3.out.trans (hb4.mono HB3.out.size)
    have HC4 := Lib.hid hc4
    have HC2 := Lib.hid (HC2.out.below hb4)
    have HC3 := Lib.hid (HC3.out.below hb4)
    clear hc4 hb4
    go_wp2_with fail
    refine (eqS_same w4 _ _ _ _ zs HC4.out.reads HC2.out.reads HYM.out).mono ?_
    rintro e w5 ⟨rfl, q5, rfl⟩
    go_wp2_with fail
    refine (toS_any (w4.drewN q5) a cap xs (reads_below HX.out (below_drewN HB4.out q5)) hn2).mono ?_
    rintro e w6 ⟨g6, hg6, rfl, hc6, hb6⟩
    have HB6 : Hid (Below w.heap.size w w6) := (below_drewN HB4.out q5).trans (hb6.mono HB4.out.size)
    have HC6 := Lib.hid (block_new hc6)
    have HC2 := Lib.hid ((HC2.out.drewN q5).below hb6)
    have HC3 := Lib.hid ((HC3.out.drewN q5).below hb6)
    have HC4 := Lib.hid ((HC4.out.drewN q5).below hb6)
    clear hc6 hb6
    go_wp2_with fail
    refine (eqS_same w6 _ _ _ _ xs HC3.out.reads HC6.out.reads HM.out).mono ?_
    rintro e w7 ⟨rfl, q7, rfl⟩
    go_wp2_with fail
    refine (markB_any (w6.drewN q7) g3 _ 1 xs [] (HC3.out.drewN q7) (by omega) (by omega) (by omega)).mono ?_
    rintro e w8 ⟨rfl, hc8, hg8⟩
    have hs1 := hb1.size
    have hs2 := hb2.size
    have HB8 : Hid (Below w.heap.size w w8) := below_row (below_drewN HB6.out q7) hg8 (by omega) HB6.out.size
    have HC2 := Lib.hid ((HC2.out.drewN q7).grown hg8 (by omega))
    have HC4 := Lib.hid ((HC4.out.drewN q7).grown hg8 (by omega))
    clear hc8 hg8
    have hk8 : ¬ ((1 + xs.length : Nat) : Int) < 0 := by omega
    go_wp2_with fail
    refine (eqS_same w8 _ _ _ _ zs HC4.out.reads HC2.out.reads HYM.out).mono ?_
    rintro e w9 ⟨rfl, q9, rfl⟩
    go_wp2_with fail
    refine (markB_any (w8.drewN q9) g4 _ 1 zs r4 (HC4.out.drewN q9) (by omega) (by omega) (by omega)).mono ?_
    rintro e w10 ⟨rfl, hc10, hg10⟩
    have HB10 : Hid (Below w.heap.size w w10) := below_row (below_drewN HB8.out q9) hg10 (by omega) HB8.out.size
    have HC2 := Lib.hid ((HC2.out.drewN q9).grown hg10 (by omega))
    have HC4 := Lib.hid hc10
    clear hc10 hg10
    go_wp2_with fail
    have HH := heldS_any w10 (some ⟨g4, 0, none⟩) c4 1 zs.length (by exact HC4.out.reads) (by omega) (by omega) (by omega)
    refine HH.mono ?_
    clear HH
    rintro e w11 ⟨rfl, hb11⟩
    have HB11 : Hid (Below w.heap.size w w11) := HB10.out.trans (hb11.mono HB10.out.size)
    have HC2 := Lib.hid (HC2.out.below hb11)
    have HC4 := Lib.hid (HC4.out.below hb11)
    have hnn : ¬ ((1 + zs.length : Nat) : Int) < 0 := by omega
    clear hb11
    go_wp2_with fail
    refine (toS_any w11 a cap xs (reads_below HX.out HB11.out) hn2).mono ?_
    rintro e w12 ⟨g12, hg12, rfl, hc12, hb12⟩
    have HB12 : Hid (Below w.heap.size w w12) := HB11.out.trans (hb12.mono HB11.out.size)
    have HC12 := Lib.hid (block_new hc12)
    have HC2 := Lib.hid (HC2.out.below hb12)
    have HC4 := Lib.hid (HC4.out.below hb12)
    clear hc12 hb12
    go_wp2_with fail
    refine (hI w12 g12 _ HC12.out.reads).mono ?_
    rintro e w13 ⟨g13, c13, r13, hg13, rfl, hc13, hb13⟩
    have HB13 : Hid (Below w.heap.size w w13) := HB12.out.trans (hb13.mono HB12.out.size)
    have HC13 := Lib.hid hc13
    have HC2 := Lib.hid (HC2.out.below hb13)
    have HC4 := Lib.hid (HC4.out.below hb13)
    clear hc13 hb13
    go_wp2_with fail
    refine (eqS_same w13 _ _ _ _ zs HC13.out.reads HC2.out.reads HYM.out).mono ?_
    rintro e w14 ⟨rfl, q14, rfl⟩
    go_wp2_with fail
    have HH := heldS_any (w13.drewN q14) (some ⟨g4, 0, none⟩) c4 1 zs.length (by exact (HC4.out.drewN q14).reads) (by omega) (by omega) (by omega)
    refine HH.mono ?_
    clear HH
    rintro e w15 ⟨rfl, hb15⟩
    have hB15 : Below w.heap.size w w15 := (below_drewN HB13.out q14).trans (hb15.mono HB13.out.size)
    go_wp2
    go_ret
    exact ⟨rfl, hB15⟩
  · have he : szEnd xs = -1 := if_neg hsz
    rw [he] at H0
    clear hx hs he
    go_enter Try.func9, Try.ntmps9
    go_wp2_with fail
    refine H0.mono ?_
    rintro e w0 ⟨rfl, rfl⟩
    go_wp2
    go_ret
    exact ⟨rfl, Below.refl _ _⟩
end Go.Proofs.Ytbenheimihkppaa
