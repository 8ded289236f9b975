/- What is proved here: the text of FnExactCompareOccurrences returns true for every two lists of integers. Condition: none. -/
import Derived.Test.YtcalgjggmgnofaaCompareInts
namespace Go.Proofs.Ytcalgjggmgnofaa
open Go.RowKit

set_option maxHeartbeats 1000000 in
set_option maxRecDepth 100000 in
theorem fnExactCompareOccurrences_walk (a : Option Addr) (cap : Nat) (xs : List Int) (b : Option Addr) (cap2 : Nat) (ys : List Int) (w : World) (hx : ReadsI w a xs) (hm : xs.length ≤ maxLen) (hy : ReadsI w b ys) (hm2 : ys.length ≤ maxLen) :
    Calls Try.prog 4 #[.slice a xs.length cap, .slice b ys.length cap2] w fun e w' => e = .returned (.bool true) ∧ Below w.heap.size w w' := by
  have hmm := hm
  have hmm2 := hm2
  unfold maxLen at hmm hmm2
  by_cases hs1 : 1048576 < xs.length
  · clear hx hy
    go_enter Try.func4, Try.ntmps4
    go_wp2
    go_ret
    exact ⟨rfl, Below.refl _ _⟩
  · by_cases hs2 : 1048576 < ys.length
    · clear hx hy
      go_enter Try.func4, Try.ntmps4
      go_wp2
      go_ret
      exact ⟨rfl, Below.refl _ _⟩
    · have hn1 : xs.length ≤ 1048576 := by omega
      have hn2 : ys.length ≤ 1048576 := by omega
      have HX := Lib.hid hx
      have HY := Lib.hid hy
      have HS := Lib.hid (fun w a b c d (hx : ReadsI w a xs) (hy : ReadsI w b ys) => spec_compareI w a b c d xs ys hx hy hm hm2)
      have HI := Lib.hid (fun w a b c d (hx : ReadsI w a xs) (hy : ReadsI w b ys) => impl_compareI w a b c d xs ys hx hy hm hm2)
      generalize cmpI xs ys = q at HS HI
      have HTX := Lib.hid (fun w' (hb : Below w.heap.size w w') => toI_any w' a cap xs (readsI_below hx hb) hn1)
      have HTY := Lib.hid (fun w' (hb : Below w.heap.size w w') => toI_any w' b cap2 ys (readsI_below hy hb) hn2)
      have HEX := Lib.hid (fun w a b c d (hx : ReadsI w a xs) (hy : ReadsI w b xs) => eqI_same w a b c d xs hx hy hm)
      have HEY := Lib.hid (fun w a b c d (hx : ReadsI w a ys) (hy : ReadsI w b ys) => eqI_same w a b c d ys hx hy hm2)
      clear hx hy hm hm2
      go_enter Try.func4, Try.ntmps4
      go_wp2_with fail
      refine (HTX.out w (Below.refl _ _)).mono ?_
      rintro e w1 ⟨g1, hg1, rfl, hc1, hb1⟩
      have HR1 := Lib.hid (readsI_new hc1)
      have HB1 := Lib.hid hb1
      clear hc1 hb1
      go_wp2_with fail
      refine (HTY.out w1 HB1.out).mono ?_
      rintro e w2 ⟨g2, hg2, rfl, hc2, hb2⟩
      have HR2 := Lib.hid (readsI_new hc2)
      have HR1b := Lib.hid (readsI_below HR1.out hb2)
      have HB2 : Hid (Below w.heap.size w w2) := HB1.out.trans (hb2.mono HB1.out.size)
      clear hc2 hb2 HR1 HB1
      go_wp2_with fail
      refine (HS.out w2 _ _ _ _ HR1b.out HR2.out).mono ?_
      rintro e w3 ⟨rfl, hb3⟩
      have HB3 : Hid (Below w.heap.size w w3) := HB2.out.trans (hb3.mono HB2.out.size)
      clear hb3
      clear HR1b HR2
      go_wp2_with fail
      refine (HTX.out _ HB3.out).mono ?_
      rintro e w4 ⟨g4, hg4, rfl, hc4, hb4⟩
      have HR4 := Lib.hid (readsI_new hc4)
      have HB4 : Hid (Below w.heap.size w w4) := HB3.out.trans (hb4.mono HB3.out.size)
      clear hc4 hb4
      go_wp2_with fail
      refine (HTY.out _ HB4.out).mono ?_
      rintro e w5 ⟨g5, hg5, rfl, hc5, hb5⟩
      have HR5 := Lib.hid (readsI_new hc5)
      have HR4b := Lib.hid (readsI_below HR4.out hb5)
      have HB5 : Hid (Below w.heap.size w w5) := HB4.out.trans (hb5.mono HB4.out.size)
      clear hc5 hb5 HR4
      go_wp2_with fail
      refine (HI.out w5 _ _ _ _ HR4b.out HR5.out).mono ?_
      rintro e w6 ⟨rfl, rfl⟩
      go_wp2_with fail
      refine (HTX.out _ HB5.out).mono ?_
      rintro e w7 ⟨g7, hg7, rfl, hc7, hb7⟩
      have HR7 := Lib.hid (readsI_new hc7)
      have HR4c := Lib.hid (readsI_below HR4b.out hb7)
      have HR5b := Lib.hid (readsI_below HR5.out hb7)
      have HB7 : Hid (Below w.heap.size w w7) := HB5.out.trans (hb7.mono HB5.out.size)
      clear hc7 hb7
      go_wp2_with fail
      refine (HEX.out w7 _ _ _ _ HR4c.out HR7.out).mono ?_
      rintro e w8 ⟨rfl, n8, rfl⟩
      have HB8 : Hid (Below w.heap.size w (w7.drewN n8)) := below_drewN HB7.out n8
      have HR8 : Hid (ReadsI (w7.drewN n8) _ ys) := HR5b
      go_wp2_with fail
      refine (HTY.out _ HB8.out).mono ?_
      rintro e w9 ⟨g9, hg9, rfl, hc9, hb9⟩
      have HR9 := Lib.hid (readsI_new hc9)
      have HR8b := Lib.hid (readsI_below HR8.out hb9)
      have HB9 : Hid (Below w.heap.size w w9) := HB8.out.trans (hb9.mono HB8.out.size)
      clear hc9 hb9
      go_wp2_with fail
      refine (HEY.out w9 _ _ _ _ HR8b.out HR9.out).mono ?_
      rintro e w10 ⟨rfl, n10, rfl⟩
      go_wp2
      go_ret
      exact ⟨rfl, below_drewN HB9.out n10⟩
end Go.Proofs.Ytcalgjggmgnofaa
