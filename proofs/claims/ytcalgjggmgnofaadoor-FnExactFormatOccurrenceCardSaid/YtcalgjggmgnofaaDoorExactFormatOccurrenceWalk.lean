/- What is proved here: the text of FnExactFormatOccurrence returns true for every list of integers. Condition: the table of the powers of ten is as listed. -/
import Derived.Test.YtcalgjggmgnofaaDoorFormatOcc
namespace Go.Proofs.YtcalgjggmgnofaaDoor
open Go.RowKit

set_option maxHeartbeats 1000000 in
set_option maxRecDepth 100000 in
theorem fnExactFormatOccurrence_walk (a : Option Addr) (cap : Nat) (zs : List Int) (w : World) (hx : ReadsI w a zs) (hm : zs.length ≤ maxLen) (hf : fitsI zs) (htab : Lib.TabIs Tryd.prog w "internal/strconv.uint64pow10" .u64 Lib.pow10Tab) :
    Calls Tryd.prog 6 #[.slice a zs.length cap] w fun e w' => e = .returned (.bool true) ∧ Below w.heap.size w w' := by
  have hmm := hm
  unfold maxLen at hmm
  by_cases hs1 : 1048576 < zs.length
  · clear hx hf htab hm
    go_enter Tryd.func6, Tryd.ntmps6
    go_wp2
    go_ret
    exact ⟨rfl, Below.refl _ _⟩
  · have hn1 : zs.length ≤ 1048576 := by omega
    have HT := Lib.hid (fun w' (hb : Below w.heap.size w w') => toI_any w' a cap zs (readsI_below hx hb) hn1)
    have HE := Lib.hid (fun w a b c d (hx : ReadsI w a zs) (hy : ReadsI w b zs) => eqI_same w a b c d zs hx hy hm)
    have HS := Lib.hid (fun w a c (hx : ReadsI w a zs) => spec_formatOcc w a c zs hx hf hn1)
    have HI := Lib.hid (fun w' (hb : Below w.heap.size w w') a c (hx : ReadsI w' a zs) => impl_formatOcc w' a c zs hx hf hn1 (Go.Joins.tab_stays (g := 0) (by kernel_rfl) htab hb (Nat.le_refl _)))
    generalize str (occOf zs) = s at HS HI
    clear hx hf htab hm
    go_enter Tryd.func6, Tryd.ntmps6
    go_wp2_with fail
    refine (HT.out w (Below.refl _ _)).mono ?_
    rintro e w1 ⟨g1, hg1, rfl, hc1, hb1⟩
    have HR1 := Lib.hid (readsI_new hc1)
    have HB1 := Lib.hid hb1
    clear hc1 hb1
    go_wp2_with fail
    refine (HS.out w1 _ _ HR1.out).mono ?_
    rintro e w2 ⟨rfl, hb2⟩
    have HB2 : Hid (Below w.heap.size w w2) := HB1.out.trans (hb2.mono HB1.out.size)
    clear hb2 HR1
    go_wp2_with fail
    refine (HT.out w2 HB2.out).mono ?_
    rintro e w3 ⟨g3, hg3, rfl, hc3, hb3⟩
    have HR3 := Lib.hid (readsI_new hc3)
    have HB3 : Hid (Below w.heap.size w w3) := HB2.out.trans (hb3.mono HB2.out.size)
    clear hc3 hb3
    go_wp2_with fail
    refine (HI.out w3 HB3.out _ _ HR3.out).mono ?_
    rintro e w4 ⟨rfl, hb4⟩
    have HR4 := Lib.hid (readsI_below HR3.out hb4)
    have HB4 : Hid (Below w.heap.size w w4) := HB3.out.trans (hb4.mono HB3.out.size)
    clear hb4
    go_wp2_with fail
    refine (HT.out w4 HB4.out).mono ?_
    rintro e w5 ⟨g5, hg5, rfl, hc5, hb5⟩
    have HR5 := Lib.hid (readsI_new hc5)
    have HR4b := Lib.hid (readsI_below HR4.out hb5)
    have HB5 : Hid (Below w.heap.size w w5) := HB4.out.trans (hb5.mono HB4.out.size)
    clear hc5 hb5
    go_wp2_with fail
    refine (HE.out w5 _ _ _ _ HR4b.out HR5.out).mono ?_
    rintro e w6 ⟨rfl, n6, rfl⟩
    go_wp2
    go_ret
    exact ⟨rfl, below_drewN HB5.out n6⟩
end Go.Proofs.YtcalgjggmgnofaaDoor
