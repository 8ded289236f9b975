/- What is proved here: the text of FnExactKeyOf returns true for every value. Condition: none. -/
import Derived.Test.YtcalgjggmgnofaaImplKey
import Derived.Test.YtcalgjggmgnofaaBoxAt
import Derived.Test.YtcalgjggmgnofaaTreeSize
import Derived.Test.YtcalgjggmgnofaaTreeEq
import Derived.Test.YtcalgjggmgnofaaTreeMake
namespace Go.Proofs.Ytcalgjggmgnofaa
open Go.RowKit

set_option maxHeartbeats 1000000 in
set_option maxRecDepth 100000 in
theorem fnExactKeyOf_walk (k n : Int) (t : ByteArray) (F : Trees) (a : Option Addr) (cap : Nat) (w : World) (hx : TreesAt w F a 0) (hf : F.fits) (hm : F.length ≤ maxLen) (_hk : -9223372036854775808 ≤ k ∧ k ≤ 9223372036854775807) (_hn : -9223372036854775808 ≤ n ∧ n ≤ 9223372036854775807) (ht : t.size ≤ maxLen) :
    Calls Try.prog 5 #[.agg #[.int .i64 k, .int .i64 n, .string t, .slice a F.length cap]] w fun e w' => e = .returned (.bool true) ∧ Below w.heap.size w w' := by
  have hB0 : Below w.heap.size w (w.alloc (.cells #[.int .i64 k, .int .i64 n, .string t, .slice a F.length cap] 24)) := (Below.refl _ _).alloc (Nat.le_refl _) _
  have hv := heap_at_new w (.cells #[.int .i64 k, .int .i64 n, .string t, .slice a F.length cap] 24)
  have H0 := szValue_any 1048576 (Nat.le_refl _) (w.alloc (.cells #[.int .i64 k, .int .i64 n, .string t, .slice a F.length cap] 24)) k n t F a cap ht hf hm (hx.below hB0)
  generalize hw0 : w.alloc (.cells #[.int .i64 k, .int .i64 n, .string t, .slice a F.length cap] 24) = w0 at *
  have HW0 := Lib.hid hw0
  have HB0 := Lib.hid hB0
  have HX := Lib.hid (hx.below hB0)
  clear hw0 hB0 hx
  by_cases hsz : t.size + F.size ≤ 1048576
  · rw [left_yes hsz] at H0
    have hq : 1048576 - (t.size + F.size) ≤ 1048576 := by omega
    have hfs : F.size ≤ 1048576 := by omega
    have HT := fun w' (hb : Below w0.heap.size w0 w') => toValue_any w' k n t F a cap hf hfs (HX.out.below hb)
    have HS := fun w' p cp => spec_keyOf w' k n t p F.length cp
    have HI := fun w' p cp => impl_keyOf w' k n t p F.length cp
    have HQ := Lib.hid (fun w' => eqKey_same w')
    unfold keyV at HQ
    have HE := fun w' p p2 cp cp2 (hx : TreesAt w' F p 0) (hy : TreesAt w' F p2 0) => eqValue_same w' k n t F p p2 cp cp2 hf hm hx hy
    have HV := Lib.hid hv
    obtain ⟨v0, v1, v2, v3, _⟩ := four_cells hv
    have HHT := Lib.hid HT
    have HHE := Lib.hid HE
    obtain ⟨k', n', t', hc⟩ := keyOf_some k n t
    rw [hc] at HS HI
    unfold keyV at HS HI
    have HHS := Lib.hid HS
    have HHI := Lib.hid HI
    generalize 1048576 - (t.size + F.size) = q at *
    clear hsz hf hm hfs hv HT HS HI HE _hk _hn ht hc
    go_enter Try.func5, Try.ntmps5
    go_wp2_with fail
    rw [HW0.out]
    refine H0.mono ?_
    rintro e w1 ⟨rfl, hb1⟩
    have HB1 := Lib.hid hb1
    have hv1 := (hb1.block w.heap.size (Array.getElem?_eq_some_iff.1 HV.out).1).trans HV.out
    have HV1 := Lib.hid hv1
    clear v0 v1 v2 v3
    obtain ⟨v0, v1, v2, v3, _⟩ := four_cells hv1
    clear hb1 H0 hv1
    go_wp2_with fail
    refine (HHT.out w1 HB1.out).mono ?_
    rintro e w2 ⟨⟨va, ba, rfl, hoa, _, _⟩, hb2⟩
    obtain ⟨pa, ca, rfl, _, hra⟩ := hoa.reads
    have HRA := Lib.hid hra
    have HB2 : Hid (Below w0.heap.size w0 w2) := HB1.out.trans (hb2.mono HB1.out.size)
    have hv2 := (hb2.block w.heap.size (Array.getElem?_eq_some_iff.1 HV1.out).1).trans HV1.out
    have HV2 := Lib.hid hv2
    clear v0 v1 v2 v3 hoa hra hb2
    obtain ⟨v0, v1, v2, v3, _⟩ := four_cells hv2
    clear hv2
    go_wp2_with fail
    refine (HHS.out w2 pa ca).mono ?_
    rintro e w3 ⟨rfl, hb3⟩
    have HB3 : Hid (Below w0.heap.size w0 w3) := HB2.out.trans (hb3.mono HB2.out.size)
    have hv3 := (hb3.block w.heap.size (Array.getElem?_eq_some_iff.1 HV2.out).1).trans HV2.out
    have hB4 : Below w3.heap.size w3 (w3.alloc (.cells #[.int .i64 k', .int .i64 n', .string t'] 41)) := (Below.refl _ _).alloc (Nat.le_refl _) _
    have hk4 : KeyAt (w3.alloc (.cells #[.int .i64 k', .int .i64 n', .string t'] 41)) w3.heap.size k' n' t' 41 := heap_at_new w3 _
    have hv4 : BoxAt _ w.heap.size k n t a F.length cap 24 := (hB4.block w.heap.size (Array.getElem?_eq_some_iff.1 hv3).1).trans hv3
    have HB4 : Hid (Below w0.heap.size w0 (w3.alloc (.cells #[.int .i64 k', .int .i64 n', .string t'] 41))) := HB3.out.trans (hB4.mono HB3.out.size)
    have HV4 := Lib.hid hv4
    have HK4 := Lib.hid hk4
    clear v0 v1 v2 v3 hb3 hv3 hB4 hk4 HHS HB3
    obtain ⟨v0, v1, v2, v3⟩ := hv4.cells
    clear hv4
    go_wp2_with fail
    generalize w3.alloc (.cells #[.int .i64 k', .int .i64 n', .string t'] 41) = w4 at *
    refine (HHT.out w4 HB4.out).mono ?_
    rintro e w5 ⟨⟨vb, bb, rfl, hob, _, _⟩, hb5⟩
    obtain ⟨pb, cb, rfl, hlb, hrb⟩ := hob.reads
    have hB6 : Below w5.heap.size w5 (w5.alloc (.cells #[.int .i64 k, .int .i64 n, .string t, .slice pb F.length cb] 29)) := (Below.refl _ _).alloc (Nat.le_refl _) _
    have hx6 : BoxAt (w5.alloc (.cells #[.int .i64 k, .int .i64 n, .string t, .slice pb F.length cb] 29)) w5.heap.size k n t pb F.length cb 29 := heap_at_new w5 _
    have HX6 := Lib.hid hx6
    have HB5 : Below w0.heap.size w0 w5 := HB4.out.trans (hb5.mono HB4.out.size)
    have HB6 : Hid (Below w0.heap.size w0 (w5.alloc (.cells #[.int .i64 k, .int .i64 n, .string t, .slice pb F.length cb] 29))) := HB5.trans (hB6.mono HB5.size)
    have HV6 := Lib.hid ((HV4.out.below hb5).below hB6)
    have HK6 := Lib.hid ((HK4.out.below hb5).below hB6)
    have HR6 := Lib.hid (hrb.below hB6)
    clear v0 v1 v2 v3 hob hrb hb5 hlb hB6 HB5
    obtain ⟨x0, x1, x2, x3⟩ := hx6.cells
    clear hx6
    go_wp2_with fail
    generalize w5.alloc (.cells #[.int .i64 k, .int .i64 n, .string t, .slice pb F.length cb] 29) = w6 at *
    refine (HHI.out w6 pb cb).mono ?_
    rintro e w7 ⟨rfl, hb7⟩
    have hB8 : Below w7.heap.size w7 (w7.alloc (.cells #[.int .i64 k', .int .i64 n', .string t'] 41)) := (Below.refl _ _).alloc (Nat.le_refl _) _
    have hk8 : KeyAt (w7.alloc (.cells #[.int .i64 k', .int .i64 n', .string t'] 41)) w7.heap.size k' n' t' 41 := heap_at_new w7 _
    have HB7 : Below w0.heap.size w0 w7 := HB6.out.trans (hb7.mono HB6.out.size)
    have HB8 : Hid (Below w0.heap.size w0 (w7.alloc (.cells #[.int .i64 k', .int .i64 n', .string t'] 41))) := HB7.trans (hB8.mono HB7.size)
    have HV8 := Lib.hid ((HV6.out.below hb7).below hB8)
    have hk8b := (HK6.out.below hb7).below hB8
    have HX8 := Lib.hid ((HX6.out.below hb7).below hB8)
    have HR8 := Lib.hid ((HR6.out.below hb7).below hB8)
    clear x0 x1 x2 x3 hb7 hB8 HB7 HHI
    obtain ⟨y0, y1, y2⟩ := hk8.cells
    obtain ⟨z0, z1, z2⟩ := hk8b.cells
    clear hk8 hk8b
    go_wp2_with fail
    generalize w7.alloc (.cells #[.int .i64 k', .int .i64 n', .string t'] 41) = w8 at *
    refine (HQ.out w8 k' n' t').mono ?_
    rintro e w9 ⟨rfl, hb9⟩
    have HB9 : Hid (Below w0.heap.size w0 w9) := HB8.out.trans (hb9.mono HB8.out.size)
    have HV9 := Lib.hid (HV8.out.below hb9)
    have HX9 := Lib.hid (HX8.out.below hb9)
    have HR9 := Lib.hid (HR8.out.below hb9)
    clear y0 y1 y2 z0 z1 z2 hb9
    obtain ⟨v0, v1, v2, v3⟩ := HV9.out.cells
    obtain ⟨u0, u1, u2, u3⟩ := HX9.out.cells
    go_wp2
    go_region_held3 (fun w' => (w'.cell? ⟨w.heap.size, 0, none⟩ = some (.int .i64 k) ∧ w'.cell? ⟨w.heap.size, 1, none⟩ = some (.int .i64 n) ∧ w'.cell? ⟨w.heap.size, 2, none⟩ = some (.string t) ∧ w'.cell? ⟨w.heap.size, 3, none⟩ = some (.slice a F.length cap)) ∧ w'.cell? ⟨w5.heap.size, 0, none⟩ = some (.int .i64 k) ∧ w'.cell? ⟨w5.heap.size, 1, none⟩ = some (.int .i64 n) ∧ w'.cell? ⟨w5.heap.size, 2, none⟩ = some (.string t) ∧ w'.cell? ⟨w5.heap.size, 3, none⟩ = some (.slice pb F.length cb))
      (first
        | go_keep
        | (refine ⟨⟨cell_below (w := w10) (cell_below (w := w9.drew) v0 hb10) hb11, cell_below (w := w10) (cell_below (w := w9.drew) v1 hb10) hb11, cell_below (w := w10) (cell_below (w := w9.drew) v2 hb10) hb11, cell_below (w := w10) (cell_below (w := w9.drew) v3 hb10) hb11⟩, cell_below (w := w10) (cell_below (w := w9.drew) u0 hb10) hb11, cell_below (w := w10) (cell_below (w := w9.drew) u1 hb10) hb11, cell_below (w := w10) (cell_below (w := w9.drew) u2 hb10) hb11, cell_below (w := w10) (cell_below (w := w9.drew) u3 hb10) hb11⟩)
        | (refine ⟨⟨cell_below (w := w9.drew) v0 hb10, cell_below (w := w9.drew) v1 hb10, cell_below (w := w9.drew) v2 hb10, cell_below (w := w9.drew) v3 hb10⟩, cell_below (w := w9.drew) u0 hb10, cell_below (w := w9.drew) u1 hb10, cell_below (w := w9.drew) u2 hb10, cell_below (w := w9.drew) u3 hb10⟩))
      (first
        | (go_at_call 9; refine (HHT.out w9.drew HB9.out.drew).mono ?_; rintro e w10 ⟨⟨vc, bc, rfl, hoc, _, _⟩, hb10⟩; obtain ⟨pc, cc, rfl, _, hrc⟩ := hoc.reads; have HRC := Lib.hid hrc; clear hoc hrc)
        | (go_at_call 12; refine (HHE.out w10 pb pc cb cc (HR9.out.below (below_of_drew hb10)) HRC.out).mono ?_; rintro e w11 ⟨rfl, hb11⟩))
    have HB11 : Hid (Below w0.heap.size w0 w11) := (HB9.out.trans ((below_of_drew hb10).mono HB9.out.size)).trans (hb11.mono (Nat.le_trans HB9.out.size hb10.size))
    clear hb10 hb11
    go_wp2
    go_ret
    exact ⟨rfl, HB0.out.trans (HB11.out.mono HB0.out.size)⟩
  · rw [left_no hsz] at H0
    clear hsz hf hm hv _hk _hn ht
    go_enter Try.func5, Try.ntmps5
    go_wp2_with fail
    rw [HW0.out]
    refine H0.mono ?_
    rintro e w1 ⟨rfl, hb1⟩
    have HB1 := Lib.hid hb1
    clear hb1 H0
    go_wp2
    go_ret
    exact ⟨rfl, HB0.out.trans (HB1.out.mono HB0.out.size)⟩
end Go.Proofs.Ytcalgjggmgnofaa
