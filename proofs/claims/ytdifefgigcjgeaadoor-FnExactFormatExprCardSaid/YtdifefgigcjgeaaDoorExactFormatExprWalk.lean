/- What is proved here: the text of FnExactFormatExpr returns true for every value. Condition: none. -/
import Derived.Test.YtdifefgigcjgeaaDoorExSpecFmt
import Derived.Test.YtdifefgigcjgeaaDoorExImplFmt
import Derived.Test.YtdifefgigcjgeaaDoorExTreeSize
import Derived.Test.YtdifefgigcjgeaaDoorExTreeEq
import Derived.Test.YtdifefgigcjgeaaDoorExTreeMake
namespace Go.Proofs.YtdifefgigcjgeaaDoor
open Ex
open Go.RowKit

set_option maxHeartbeats 1000000 in
set_option maxRecDepth 100000 in
theorem fnExactFormatExpr_walk (k n : Int) (t : ByteArray) (F : Trees) (a : Option Addr) (cap : Nat) (w : World) (hx : TreesAt w F a 0) (hf : F.fits) (hm : F.length ≤ maxLen) (_hk : -9223372036854775808 ≤ k ∧ k ≤ 9223372036854775807) (_hn : -9223372036854775808 ≤ n ∧ n ≤ 9223372036854775807) (ht : t.size ≤ maxLen) (htab0 : Lib.TabIs Tryd.prog w "internal/strconv.uint64pow10" .u64 Lib.pow10Tab) :
    Calls Tryd.prog 4 #[.agg #[.int .i64 k, .int .i64 n, .string t, .slice a F.length cap]] w fun e w' => e = .returned (.bool true) ∧ Below w.heap.size w w' := by
  have hB0 : Below w.heap.size w (w.alloc (.cells #[.int .i64 k, .int .i64 n, .string t, .slice a F.length cap] 35)) := (Below.refl _ _).alloc (Nat.le_refl _) _
  have hv := heap_at_new w (.cells #[.int .i64 k, .int .i64 n, .string t, .slice a F.length cap] 35)
  have H0 := szValue_any 1048576 (Nat.le_refl _) (w.alloc (.cells #[.int .i64 k, .int .i64 n, .string t, .slice a F.length cap] 35)) k n t F a cap ht hf hm (hx.below hB0)
  generalize hw0 : w.alloc (.cells #[.int .i64 k, .int .i64 n, .string t, .slice a F.length cap] 35) = w0 at *
  have HW0 := Lib.hid hw0
  have HB0 := Lib.hid hB0
  have HX := Lib.hid (hx.below hB0)
  clear hw0 hB0 hx
  by_cases hsz : t.size + F.size ≤ 1048576
  · rw [left_yes hsz] at H0
    have hq : 1048576 - (t.size + F.size) ≤ 1048576 := by omega
    have hfs : F.size ≤ 1048576 := by omega
    have hts : t.size ≤ 1048576 := by omega
    have hfc : F.count ≤ 1048576 := by have := F.count_le_size; omega
    have htab := fun w' (hb : Below w0.heap.size w0 w') => Go.Joins.tab_stays (g := 1) (by kernel_rfl) htab0 (HB0.out.trans (hb.mono HB0.out.size)) (Nat.le_refl _)
    have HT := fun w' (hb : Below w0.heap.size w0 w') => toValue_any w' k n t F a cap hf hfs (HX.out.below hb)
    have HS := fun w' p cp (hb : Below w0.heap.size w0 w') (hx : TreesAt w' F p 0) => spec_format_expr w' k n t F p cp hf hfc ht hx
    have HI := fun w' p cp (hb : Below w0.heap.size w0 w') (hx : TreesAt w' F p 0) (hl : F.length ≤ cp) => impl_format_expr w' k n t F p cp hf hfc ht hx hl (htab w' hb)
    have HE := fun w' p p2 cp cp2 (hx : TreesAt w' F p 0) (hy : TreesAt w' F p2 0) => eqValue_same w' k n t F p p2 cp cp2 hf hm hx hy
    have HV := Lib.hid hv
    obtain ⟨v0, v1, v2, v3, _⟩ := four_cells hv
    have HHT := Lib.hid HT
    have HHE := Lib.hid HE
    generalize hc : exprFmt k n t F = c at HS HI
    have HHS := Lib.hid HS
    have HHI := Lib.hid HI
    generalize 1048576 - (t.size + F.size) = q at *
    clear htab htab0 hsz hf hm hfs hfc hts hv HT HS HI HE _hk _hn ht hc
    go_enter Tryd.func4, Tryd.ntmps4
    go_wp2_with fail
    rw [HW0.out]
    refine H0.mono ?_
    rintro e w1 ⟨rfl, hb1⟩
    have HB1 := Lib.hid hb1
    have hv1 := (hb1.block w.heap.size (Array.getElem?_eq_some_iff.1 HV.out).1).trans HV.out
    have HV1 := Lib.hid hv1
    clear v0 v1 v2 v3
    obtain ⟨v0, v1, v2, v3, _⟩ := four_cells hv1
    clear hb1 H0 hv1
    go_wp2_with fail
    refine (HHT.out w1 HB1.out).mono ?_
    rintro e w2 ⟨⟨va, ba, rfl, hoa, _, _⟩, hb2⟩
    obtain ⟨pa, ca, rfl, _, hra⟩ := hoa.reads
    have HRA := Lib.hid hra
    have HB2 : Hid (Below w0.heap.size w0 w2) := HB1.out.trans (hb2.mono HB1.out.size)
    have hv2 := (hb2.block w.heap.size (Array.getElem?_eq_some_iff.1 HV1.out).1).trans HV1.out
    have HV2 := Lib.hid hv2
    clear v0 v1 v2 v3 hoa hra hb2
    obtain ⟨v0, v1, v2, v3, _⟩ := four_cells hv2
    clear hv2
    go_wp2_with fail
    refine (HHS.out w2 pa ca HB2.out HRA.out).mono ?_
    rintro e w3 ⟨rfl, hb3⟩
    have HB3 : Hid (Below w0.heap.size w0 w3) := HB2.out.trans (hb3.mono HB2.out.size)
    have hv3 := (hb3.block w.heap.size (Array.getElem?_eq_some_iff.1 HV2.out).1).trans HV2.out
    have HV3 := Lib.hid hv3
    clear v0 v1 v2 v3 hb3
    obtain ⟨v0, v1, v2, v3, _⟩ := four_cells hv3
    clear hv3 HHS
    go_wp2_with fail
    refine (HHT.out w3 HB3.out).mono ?_
    rintro e w4 ⟨⟨vb, bb, rfl, hob, _, _⟩, hb4⟩
    obtain ⟨pb, cb, rfl, hlb, hrb⟩ := hob.reads
    have HB4 : Hid (Below w0.heap.size w0 w4) := HB3.out.trans (hb4.mono HB3.out.size)
    have hv4 := (hb4.block w.heap.size (Array.getElem?_eq_some_iff.1 HV3.out).1).trans HV3.out
    have hB5 : Below w4.heap.size w4 (w4.alloc (.cells #[.int .i64 k, .int .i64 n, .string t, .slice pb F.length cb] 40)) := (Below.refl _ _).alloc (Nat.le_refl _) _
    have hv5 := (hB5.block w.heap.size (Array.getElem?_eq_some_iff.1 hv4).1).trans hv4
    have hu5 := heap_at_new w4 (.cells #[.int .i64 k, .int .i64 n, .string t, .slice pb F.length cb] 40)
    have HU5 := Lib.hid hu5
    have HV5 := Lib.hid hv5
    have HRB := Lib.hid (hrb.below hB5)
    have HLB := Lib.hid hlb
    have HB5 : Hid (Below w0.heap.size w0 (w4.alloc (.cells #[.int .i64 k, .int .i64 n, .string t, .slice pb F.length cb] 40))) := HB4.out.trans (hB5.mono HB4.out.size)
    have HBU : Hid (w4.heap.size < (w4.alloc (.cells #[.int .i64 k, .int .i64 n, .string t, .slice pb F.length cb] 40)).heap.size) := by unfold Hid; simp
    clear v0 v1 v2 v3 hob hrb hb4 hlb hv4 hB5
    obtain ⟨v0, v1, v2, v3, _⟩ := four_cells hv5
    obtain ⟨u0, u1, u2, u3, _⟩ := four_cells hu5
    clear hv5 hu5
    go_wp2_with fail
    generalize w4.alloc (.cells #[.int .i64 k, .int .i64 n, .string t, .slice pb F.length cb] 40) = w5 at *
    refine (HHI.out w5 pb cb HB5.out HRB.out HLB.out).mono ?_
    rintro e w6 ⟨rfl, hb6⟩
    have HB6 : Hid (Below w0.heap.size w0 w6) := HB5.out.trans (hb6.mono HB5.out.size)
    have hv6 := (hb6.block w.heap.size (Array.getElem?_eq_some_iff.1 HV5.out).1).trans HV5.out
    have hu6 := (hb6.block w4.heap.size HBU.out).trans HU5.out
    have HV6 := Lib.hid hv6
    have HU6 := Lib.hid hu6
    have HRB6 := Lib.hid (HRB.out.below hb6)
    clear v0 v1 v2 v3 u0 u1 u2 u3 hb6
    obtain ⟨v0, v1, v2, v3, _⟩ := four_cells hv6
    obtain ⟨u0, u1, u2, u3, _⟩ := four_cells hu6
    clear hv6 hu6 HHI
    go_wp2
    go_region_held3 (fun w' => (w'.cell? ⟨w.heap.size, 0, none⟩ = some (.int .i64 k) ∧ w'.cell? ⟨w.heap.size, 1, none⟩ = some (.int .i64 n) ∧ w'.cell? ⟨w.heap.size, 2, none⟩ = some (.string t) ∧ w'.cell? ⟨w.heap.size, 3, none⟩ = some (.slice a F.length cap)) ∧ w'.cell? ⟨w4.heap.size, 0, none⟩ = some (.int .i64 k) ∧ w'.cell? ⟨w4.heap.size, 1, none⟩ = some (.int .i64 n) ∧ w'.cell? ⟨w4.heap.size, 2, none⟩ = some (.string t) ∧ w'.cell? ⟨w4.heap.size, 3, none⟩ = some (.slice pb F.length cb))
      (first
        | go_keep
        | (refine ⟨⟨cell_below (w := w7) (cell_below (w := w6.drew) v0 hb7) hb8, cell_below (w := w7) (cell_below (w := w6.drew) v1 hb7) hb8, cell_below (w := w7) (cell_below (w := w6.drew) v2 hb7) hb8, cell_below (w := w7) (cell_below (w := w6.drew) v3 hb7) hb8⟩, cell_below (w := w7) (cell_below (w := w6.drew) u0 hb7) hb8, cell_below (w := w7) (cell_below (w := w6.drew) u1 hb7) hb8, cell_below (w := w7) (cell_below (w := w6.drew) u2 hb7) hb8, cell_below (w := w7) (cell_below (w := w6.drew) u3 hb7) hb8⟩)
        | (refine ⟨⟨cell_below (w := w6.drew) v0 hb7, cell_below (w := w6.drew) v1 hb7, cell_below (w := w6.drew) v2 hb7, cell_below (w := w6.drew) v3 hb7⟩, cell_below (w := w6.drew) u0 hb7, cell_below (w := w6.drew) u1 hb7, cell_below (w := w6.drew) u2 hb7, cell_below (w := w6.drew) u3 hb7⟩))
      (first
        | (go_at_call 14; refine (HHT.out w6.drew HB6.out.drew).mono ?_; rintro e w7 ⟨⟨vc, bc, rfl, hoc, _, _⟩, hb7⟩; obtain ⟨pc, cc, rfl, _, hrc⟩ := hoc.reads; have HRC := Lib.hid hrc; clear hoc hrc)
        | (go_at_call 16; refine (HHE.out w7 pb pc cb cc (HRB6.out.below (below_of_drew hb7)) HRC.out).mono ?_; rintro e w8 ⟨rfl, hb8⟩))
    have HB8 : Hid (Below w0.heap.size w0 w8) := (HB6.out.trans ((below_of_drew hb7).mono HB6.out.size)).trans (hb8.mono (Nat.le_trans HB6.out.size hb7.size))
    clear hb7 hb8
    go_wp2
    go_ret
    exact ⟨rfl, HB0.out.trans (HB8.out.mono HB0.out.size)⟩
  · rw [left_no hsz] at H0
    clear htab0 hsz hf hm hv _hk _hn ht
    go_enter Tryd.func4, Tryd.ntmps4
    go_wp2_with fail
    rw [HW0.out]
    refine H0.mono ?_
    rintro e w1 ⟨rfl, hb1⟩
    have HB1 := Lib.hid hb1
    clear hb1 H0
    go_wp2
    go_ret
    exact ⟨rfl, HB0.out.trans (HB1.out.mono HB0.out.size)⟩
end Go.Proofs.YtdifefgigcjgeaaDoor
