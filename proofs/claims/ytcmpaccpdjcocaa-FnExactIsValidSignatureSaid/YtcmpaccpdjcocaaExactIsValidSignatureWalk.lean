/- What is proved here: the text of FnExactIsValidSignature returns true for every signature and text. Condition: none. -/
import Derived.Test.YtcmpaccpdjcocaaImplValid
import Derived.Test.YtcmpaccpdjcocaaSpecValid
import Derived.Test.YtcmpaccpdjcocaaSmall
import Derived.Test.YtcmpaccpdjcocaaSigSize
import Derived.Test.YtcmpaccpdjcocaaSigEq
import Derived.Deep.RegionHeld3
namespace Go.Proofs.Ytcmpaccpdjcocaa
open Go.RowKit

set_option maxHeartbeats 1000000 in
set_option maxRecDepth 100000 in
theorem fnExactIsValidSignature_walk (a : Option Addr) (cap : Nat) (s : List TypeD) (w : World) (hx : Row2 TypeAt w a s) (hf : sigFits s) :
    Calls Try.prog 6 #[.agg #[.slice a s.length cap]] w fun e w' => e = .returned (.bool true) ∧ Below w.heap.size w w' := by
  have HX := Lib.hid hx
  have hB : Below w.heap.size w (w.alloc (.cells #[.slice a s.length cap] 24)) := (Below.refl _ _).alloc (Nat.le_refl _) _
  have hc0 : (w.alloc (.cells #[.slice a s.length cap] 24)).cell? ⟨w.heap.size, 0, none⟩ = some (.slice a s.length cap) := (one_cell (heap_at_new w _)).1
  have HB := Lib.hid hB
  have H0 := szSig_any 1048576 (Nat.le_refl _) (w.alloc (.cells #[.slice a s.length cap] 24)) a cap s (row2_below type_below hx hB) hf
  generalize hw0 : w.alloc (.cells #[.slice a s.length cap] 24) = w0 at *
  have HW0 := Lib.hid hw0
  clear hw0 hB
  by_cases hsz : sigSize s ≤ 1048576
  · rw [left_yes hsz] at H0
    have hsm := smalls_of hsz
    have HSM := Lib.hid hsm
    have HMX := Lib.hid (bigs_of hsm)
    have hS := fun w a cap hr => spec_valid w a cap s hr hf hsm.1 hsm.2
    have hI := fun w a cap hr => impl_valid w a cap s hr hf hsm.1 hsm.2
    have hqb : 1048576 - sigSize s ≤ 1048576 := by omega
    generalize 1048576 - sigSize s = q at *
    generalize bl (ValidSig s) = b at hS hI
    clear hsz hx hf hsm
    go_enter Try.func6, Try.ntmps6
    go_wp2_with fail
    rw [HW0.out]
    refine H0.mono ?_
    rintro e w1 ⟨rfl, hb1⟩
    have hc1 := cell_below hc0 hb1
    have HB1 : Hid (Below w.heap.size w w1) := HB.out.trans (hb1.mono HB.out.size)
    clear hb1 H0 hc0
    go_wp2_with fail
    refine (toSig_any w1 a cap s (row2_below type_below HX.out HB1.out) HSM.out.1 HSM.out.2).mono ?_
    rintro e w2 ⟨⟨v2, rfl, ho2⟩, hb2⟩
    obtain ⟨a2, cap2, rfl, hr2⟩ := ho2.reads
    have HR2 := Lib.hid hr2
    have hc2 := cell_below hc1 hb2
    have HB2 : Hid (Below w.heap.size w w2) := HB1.out.trans (hb2.mono HB1.out.size)
    clear hb2 hc1 hr2 ho2
    go_wp2_with fail
    refine (hS w2 a2 cap2 HR2.out).mono ?_
    rintro e w3 ⟨rfl, hb3⟩
    have hc3 := cell_below hc2 hb3
    have HB3 : Hid (Below w.heap.size w w3) := HB2.out.trans (hb3.mono HB2.out.size)
    clear hb3 hc2 hS HR2
    go_wp2_with fail
    refine (toSig_any w3 a cap s (row2_below type_below HX.out HB3.out) HSM.out.1 HSM.out.2).mono ?_
    rintro e w4 ⟨⟨v4, rfl, ho4⟩, hb4⟩
    obtain ⟨a4, cap4, rfl, hr4⟩ := ho4.reads
    have hB5 : Below w4.heap.size w4 (w4.alloc (.cells #[.slice a4 s.length cap4] 33)) := (Below.refl _ _).alloc (Nat.le_refl _) _
    have HR5 := Lib.hid (row2_below type_below hr4 hB5)
    have hc4 := cell_below hc3 hb4
    have hc5 := cell_below hc4 hB5
    have hd5 : (w4.alloc (.cells #[.slice a4 s.length cap4] 33)).cell? ⟨w4.heap.size, 0, none⟩ = some (.slice a4 s.length cap4) := (one_cell (heap_at_new w4 _)).1
    have HB4 : Hid (Below w.heap.size w w4) := HB3.out.trans (hb4.mono HB3.out.size)
    have HB5 : Hid (Below w.heap.size w (w4.alloc (.cells #[.slice a4 s.length cap4] 33))) := HB4.out.trans (hB5.mono HB4.out.size)
    clear hb4 hc3 hr4 ho4 hB5 hc4
    go_wp2_with fail
    generalize w4.alloc (.cells #[.slice a4 s.length cap4] 33) = w5 at *
    refine (hI w5 a4 cap4 HR5.out).mono ?_
    rintro e w6 ⟨rfl, hb6⟩
    have hc6 := cell_below hc5 hb6
    have hd6 := cell_below hd5 hb6
    have HR6 := Lib.hid (row2_below type_below HR5.out hb6)
    have HB6 : Hid (Below w.heap.size w w6) := HB5.out.trans (hb6.mono HB5.out.size)
    clear hb6 hc5 hd5 HR5 hI
    have HB6d : Hid (Below w.heap.size w w6.drew) := HB6.out.drew
    go_wp2
    go_region_held3 (fun w' => w'.cell? ⟨w.heap.size, 0, none⟩ = some (.slice a s.length cap) ∧ w'.cell? ⟨w4.heap.size, 0, none⟩ = some (.slice a4 s.length cap4))
      (first
        | go_keep
        | exact ⟨cell_below (w := w7) (cell_below (w := w6.drew) hc6 hb7) hb8, cell_below (w := w7) (cell_below (w := w6.drew) hd6 hb7) hb8⟩
        | exact ⟨cell_below (w := w6.drew) hc6 hb7, cell_below (w := w6.drew) hd6 hb7⟩)
      (first
        | (go_at_call 9; refine (toSig_any w6.drew a cap s (row2_below type_below HX.out HB6d.out) HSM.out.1 HSM.out.2).mono ?_; rintro e w7 ⟨⟨v7, rfl, ho7⟩, hb7⟩; obtain ⟨a7, cap7, rfl, hr7⟩ := ho7.reads; have HR7 := Lib.hid hr7; clear ho7 hr7)
        | (go_at_call 12; refine (eqSig_same w7 a4 a7 cap4 cap7 s (row2_below type_below HR6.out (below_of_drew hb7)) HR7.out HMX.out.1 HMX.out.2).mono ?_; rintro e w8 ⟨rfl, hb8⟩))
    have HB8 : Hid (Below w.heap.size w w8) := (HB6.out.trans ((below_of_drew hb7).mono HB6.out.size)).trans (hb8.mono (Nat.le_trans HB6.out.size hb7.size))
    clear hb7 hb8
    go_wp2
    go_ret
    exact ⟨rfl, HB8.out⟩
  · rw [left_no hsz] at H0
    clear hsz
    go_enter Try.func6, Try.ntmps6
    go_wp2_with fail
    rw [HW0.out]
    refine H0.mono ?_
    rintro e w1 ⟨rfl, hb1⟩
    have HB1 : Hid (Below w.heap.size w w1) := HB.out.trans (hb1.mono HB.out.size)
    clear hb1 H0 hc0
    go_wp2
    go_ret
    exact ⟨rfl, HB1.out⟩
end Go.Proofs.Ytcmpaccpdjcocaa
