/- What is proved here: the text of FnExactVarsOfExpr returns true for every pattern. Condition: none. -/
import Derived.Test.YtdifefgigcjgeaaExImplVars
import Derived.Test.YtdifefgigcjgeaaExSpecVars
import Derived.Test.YtdifefgigcjgeaaTextsV
import Derived.Test.YtdifefgigcjgeaaTexts
import Derived.Test.YtdifefgigcjgeaaExTreeSize
import Derived.Test.YtdifefgigcjgeaaExTreeEq
import Derived.Test.YtdifefgigcjgeaaExTreeMake
import Derived.Test.YtdifefgigcjgeaaExTreeMark
import Derived.Deep.RegionHeld3
namespace Go.Proofs.Ytdifefgigcjgeaa
open Go.RowKit
open Ex

/-- What stays through the walk: what lies below the start; the argument's box; the box of the program's argument; the model's answer. -/
structure VSt (w0 W : World) (V X : Obj) (hV hX g2 : Nat) (zs : List ByteArray) (r2 : List Value) : Prop where
  low : Below w0.heap.size w0 W
  box : W.heap[hV]? = some V
  x0 : W.heap[hX]? = some X
  want : Block W g2 zs r2
theorem VSt.keep {w0 W W' : World} {V X : Obj} {hV hX g2 : Nat} {zs : List ByteArray} {r2 : List Value} {S : Nat → Prop} (h : VSt w0 W V X hV hX g2 zs r2) (ho : Only S W W') (hS : ∀ b, S b → w0.heap.size ≤ b ∧ b ≠ hV ∧ b ≠ hX ∧ b ≠ g2) : VSt w0 W' V X hV hX g2 zs r2 :=
  ⟨h.low.trans (ho.below (fun b hb => (hS b hb).1) h.low.size), (ho.block _ (Array.getElem?_eq_some_iff.1 h.box).1 (fun hb => (hS _ hb).2.1 rfl)).trans h.box, (ho.block _ (Array.getElem?_eq_some_iff.1 h.x0).1 (fun hb => (hS _ hb).2.2.1 rfl)).trans h.x0, (ho.block _ h.want.lt (fun hb => (hS _ hb).2.2.2 rfl)).trans h.want⟩
theorem VSt.below {w0 W W' : World} {V X : Obj} {hV hX g2 : Nat} {zs : List ByteArray} {r2 : List Value} (h : VSt w0 W V X hV hX g2 zs r2) (hb : Below W.heap.size W W') : VSt w0 W' V X hV hX g2 zs r2 := h.keep (S := fun _ => False) (Only.of_below hb) (fun _ h => h.elim)

set_option maxHeartbeats 4000000 in
set_option maxRecDepth 100000 in
theorem fnExactVarsOfExpr_walk (k n : Int) (t : ByteArray) (F : Trees) (a : Option Addr) (cap : Nat) (w : World) (hx : TreesAt w F a 0) (hf : F.fits) (hm : F.length ≤ maxLen) (_hk : -9223372036854775808 ≤ k ∧ k ≤ 9223372036854775807) (_hn : -9223372036854775808 ≤ n ∧ n ≤ 9223372036854775807) (ht : t.size ≤ maxLen) :
    Calls Try.prog 5 #[.agg #[.int .i64 k, .int .i64 n, .string t, .slice a F.length cap]] w fun e w' => e = .returned (.bool true) ∧ Below w.heap.size w w' := by
  have hB0 : Below w.heap.size w (w.alloc (.cells #[.int .i64 k, .int .i64 n, .string t, .slice a F.length cap] 35)) := (Below.refl _ _).alloc (Nat.le_refl _) _
  have hv := heap_at_new w (.cells #[.int .i64 k, .int .i64 n, .string t, .slice a F.length cap] 35)
  have hs0 : (w.alloc (.cells #[.int .i64 k, .int .i64 n, .string t, .slice a F.length cap] 35)).heap.size = w.heap.size + 1 := Array.size_push _
  have H0 := szValue_any 1048576 (Nat.le_refl _) (w.alloc (.cells #[.int .i64 k, .int .i64 n, .string t, .slice a F.length cap] 35)) k n t F a cap ht hf hm (hx.below hB0)
  generalize hw0 : w.alloc (.cells #[.int .i64 k, .int .i64 n, .string t, .slice a F.length cap] 35) = w0 at *
  have HW0 := Lib.hid hw0
  have HB0 := Lib.hid hB0
  have HX := Lib.hid (hx.below hB0)
  clear hw0 hB0 hx
  by_cases hsz : t.size + F.size ≤ 1048576
  · rw [left_yes hsz] at H0
    have hq : 1048576 - (t.size + F.size) ≤ 1048576 := by omega
    have hfs : F.size ≤ 1048576 := by omega
    have hfc : F.count ≤ 1048576 := by have := F.count_le_size; omega
    have HHT := Lib.hid (fun w' (hb : Below w0.heap.size w0 w') => toValue_any w' k n t F a cap hf hfs (HX.out.below hb))
    have HHE := Lib.hid (fun w' p p2 cp cp2 (hx : TreesAt w' F p 0) (hy : TreesAt w' F p2 0) => eqValue_same w' k n t F p p2 cp cp2 hf hm hx hy)
    have HHM := Lib.hid (fun w' v bs hO hnd => markValue_any w' k n t F 1 v bs hfc (by omega) (by omega) hO hnd)
    have HS := fun w' p cp (hx : TreesAt w' F p 0) => spec_vars w' k n t F p cp hfc hx
    have HI := fun w' p cp (hx : TreesAt w' F p 0) (hl : F.length ≤ cp) => impl_vars w' k n t F p cp hfc hx hl
    have HU : Hid (∀ zs, SortOf (nodeVarsE k t ++ F.varsE) zs → zs = sorted (nodeVarsE k t ++ F.varsE)) := fun zs h => sortOf_unique h (sorted_ok _)
    have hzl : (sorted (nodeVarsE k t ++ F.varsE)).length ≤ 1048577 := by
      have h1 := sorted_length_le (nodeVarsE k t ++ F.varsE)
      have h2 := nodeVarsE_len k t
      have h3 := varsE_len F
      rw [List.length_append] at h1
      omega
    generalize nodeVarsE k t ++ F.varsE = us at *
    have HHS := Lib.hid HS
    generalize sorted us = ys at *
    have HHI := Lib.hid HI
    have hyl : ys.length ≤ maxLen := by unfold maxLen; omega
    have HYL := Lib.hid hyl
    have HKM : Hid (1 + 3 * F.count ≤ 4194304) := by unfold Hid; omega
    have HV := Lib.hid hv
    have HS0 := Lib.hid hs0
    obtain ⟨v0, v1, v2, v3, _⟩ := four_cells hv
    generalize hkm : 1 + 3 * F.count = km at *
    have hkm1 : ¬ (km : Int) < 0 := by omega
    have hkm2 : km ≤ 4194304 := HKM.out
    generalize 1048576 - (t.size + F.size) = q at *
    clear hsz hf hm hfs hfc hv HS HI _hk _hn ht hyl hs0 hkm
    go_enter Try.func5, Try.ntmps5
    go_wp2_with fail
    rw [HW0.out]
    refine H0.mono ?_
    rintro e w1 ⟨rfl, hb1⟩
    have HB1 := Lib.hid hb1
    have hv1 := (hb1.block w.heap.size (Array.getElem?_eq_some_iff.1 HV.out).1).trans HV.out
    have HV1 := Lib.hid hv1
    clear v0 v1 v2 v3
    obtain ⟨v0, v1, v2, v3, _⟩ := four_cells hv1
    clear hb1 H0 hv1
    go_wp2_with fail
    refine (HHT.out w1 HB1.out).mono ?_
    rintro e w2 ⟨⟨va, ba, rfl, hoa, _, _⟩, hb2⟩
    obtain ⟨pa, ca, rfl, _, hra⟩ := hoa.reads
    have HRA := Lib.hid hra
    have HB2 : Hid (Below w0.heap.size w0 w2) := HB1.out.trans (hb2.mono HB1.out.size)
    have hv2 := (hb2.block w.heap.size (Array.getElem?_eq_some_iff.1 HV1.out).1).trans HV1.out
    have HV2 := Lib.hid hv2
    clear v0 v1 v2 v3 hoa hra hb2
    go_wp2_with fail
    refine (HHS.out w2 pa ca HRA.out).mono ?_
    rintro e w3 ⟨zs, hso, g2, c2, r2, hg2, rfl, hc2, hb3⟩
    obtain rfl := HU.out zs hso
    have HB3 : Hid (Below w0.heap.size w0 w3) := HB2.out.trans (hb3.mono HB2.out.size)
    have hv3 := (hb3.block w.heap.size (Array.getElem?_eq_some_iff.1 HV2.out).1).trans HV2.out
    have HV3 := Lib.hid hv3
    have HC3 := Lib.hid hc2
    have HG2 : Hid (w0.heap.size ≤ g2 ∧ g2 < w3.heap.size) := ⟨Nat.le_trans HB2.out.size hg2, hc2.lt⟩
    clear hb3 hso hc2 hg2 hv2 HHS HU
    obtain ⟨v0, v1, v2, v3, _⟩ := four_cells hv3
    clear hv3
    go_wp2_with fail
    refine (HHT.out w3 HB3.out).mono ?_
    rintro e w4 ⟨⟨vb, bb, rfl, hob, hnb, hbb⟩, hb4⟩
    obtain ⟨pb, cb, rfl, hlb, hrb⟩ := hob.reads
    have hB5 : Below w4.heap.size w4 (w4.alloc (.cells #[.int .i64 k, .int .i64 n, .string t, .slice pb F.length cb] 40)) := (Below.refl _ _).alloc (Nat.le_refl _) _
    have hs5 : (w4.alloc (.cells #[.int .i64 k, .int .i64 n, .string t, .slice pb F.length cb] 40)).heap.size = w4.heap.size + 1 := Array.size_push _
    have hu5 := heap_at_new w4 (.cells #[.int .i64 k, .int .i64 n, .string t, .slice pb F.length cb] 40)
    have HBB : Hid (∀ b ∈ bb, w3.heap.size ≤ b ∧ b < w4.heap.size) := hbb
    have HST5 : Hid (VSt w0 (w4.alloc (.cells #[.int .i64 k, .int .i64 n, .string t, .slice pb F.length cb] 40)) (.cells #[.int .i64 k, .int .i64 n, .string t, .slice a F.length cap] 35 (0, 0)) (.cells #[.int .i64 k, .int .i64 n, .string t, .slice pb F.length cb] 40 (0, 0)) w.heap.size w4.heap.size g2 zs r2) :=
      ⟨(HB3.out.trans (hb4.mono HB3.out.size)).trans (hB5.mono (Nat.le_trans HB3.out.size hb4.size)), (hB5.block _ (by have := (Array.getElem?_eq_some_iff.1 HV3.out).1; have := hb4.size; omega)).trans ((hb4.block _ (Array.getElem?_eq_some_iff.1 HV3.out).1).trans HV3.out), hu5, (HC3.out.below hb4).below hB5⟩
    have HOB5 : Hid (OwnV (w4.alloc (.cells #[.int .i64 k, .int .i64 n, .string t, .slice pb F.length cb] 40)) (.slice pb F.length cb) F bb) := hob.keep (fun b hb => hB5.block b (hbb b hb).2)
    have HNB := Lib.hid hnb
    have HRB := Lib.hid (hrb.below hB5)
    have HLB := Lib.hid hlb
    have HW34 : Hid (w3.heap.size ≤ w4.heap.size) := hb4.size
    have HS5 := Lib.hid hs5
    clear v0 v1 v2 v3 hob hrb hb4 hlb hB5 hbb hnb hu5 HC3
    obtain ⟨v0, v1, v2, v3, _⟩ := four_cells HST5.out.box
    obtain ⟨u0, u1, u2, u3, _⟩ := four_cells HST5.out.x0
    go_wp2_with fail
    generalize w4.alloc (.cells #[.int .i64 k, .int .i64 n, .string t, .slice pb F.length cb] 40) = w5 at *
    refine (HHI.out w5 pb cb HRB.out HLB.out).mono ?_
    rintro e w6 hout
    obtain ⟨⟨v6, o6, rfl, ht6, ho6⟩, hb6⟩ := outT_texts hout
    have HST6 := Lib.hid (HST5.out.below hb6)
    have HT6 := Lib.hid ht6
    have HO6 := Lib.hid ho6
    have HOB6 : Hid (OwnV w6 (.slice pb F.length cb) F bb) := HOB5.out.keep (fun b hb => hb6.block b (by have := HBB.out b hb; have := HS5.out; omega))
    have HW56 : Hid (w5.heap.size ≤ w6.heap.size) := hb6.size
    obtain ⟨a6, c6, rfl, hr6⟩ := ht6.reads
    have HR6 := Lib.hid hr6
    clear v0 v1 v2 v3 u0 u1 u2 u3 hout ht6 ho6 hb6 hr6
    obtain ⟨v0, v1, v2, v3, _⟩ := four_cells HST6.out.box
    obtain ⟨u0, u1, u2, u3, _⟩ := four_cells HST6.out.x0
    go_wp2_with fail
    refine (eqS_same w6 _ _ _ _ zs HR6.out HST6.out.want.reads HYL.out).mono ?_
    rintro e w7 ⟨rfl, q7, rfl⟩
    have hb7 : Below w6.heap.size w6 (w6.drewN q7) := below_drewN (Below.refl _ _) q7
    have HST7 := Lib.hid (HST6.out.below hb7)
    have HT7 := Lib.hid (HT6.out.below hb7)
    have HOB7 : Hid (OwnV (w6.drewN q7) (.slice pb F.length cb) F bb) := OwnV.keep (w := w6) HOB6.out (fun _ _ => rfl)
    have HW57 : Hid (w5.heap.size ≤ (w6.drewN q7).heap.size) := HW56.out
    clear v0 v1 v2 v3 u0 u1 u2 u3 hb7
    generalize w6.drewN q7 = w7 at *
    obtain ⟨v0, v1, v2, v3, _⟩ := four_cells HST7.out.box
    obtain ⟨u0, u1, u2, u3, _⟩ := four_cells HST7.out.x0
    have HF : Hid (∀ W, Below w7.heap.size w7 W → (W.cell? ⟨w.heap.size, 0, none⟩ = some (.int .i64 k) ∧ W.cell? ⟨w.heap.size, 1, none⟩ = some (.int .i64 n) ∧ W.cell? ⟨w.heap.size, 2, none⟩ = some (.string t) ∧ W.cell? ⟨w.heap.size, 3, none⟩ = some (.slice a F.length cap)) ∧ W.cell? ⟨w4.heap.size, 0, none⟩ = some (.int .i64 k) ∧ W.cell? ⟨w4.heap.size, 1, none⟩ = some (.int .i64 n) ∧ W.cell? ⟨w4.heap.size, 2, none⟩ = some (.string t) ∧ W.cell? ⟨w4.heap.size, 3, none⟩ = some (.slice pb F.length cb)) := fun W hb => by
      obtain ⟨a0, a1, a2, a3, _⟩ := four_cells (HST7.out.below hb).box
      obtain ⟨b0, b1, b2, b3, _⟩ := four_cells (HST7.out.below hb).x0
      exact ⟨⟨a0, a1, a2, a3⟩, b0, b1, b2, b3⟩
    have HD7 : Hid (Below w7.heap.size w7 w7.drew) := (Below.refl _ _).drew
    have HTO : Hid (Calls Try.prog 15 #[.agg #[.int .i64 k, .int .i64 n, .string t, .slice a F.length cap]] w7.drew fun e w' => (∃ v bs, e = .returned (.agg #[.int .i64 k, .int .i64 n, .string t, v]) ∧ OwnV w' v F bs ∧ bs.Nodup ∧ ∀ b ∈ bs, w7.drew.heap.size ≤ b ∧ b < w'.heap.size) ∧ Below w7.drew.heap.size w7.drew w') := HHT.out w7.drew HST7.out.low.drew
    have HEQ : Hid (∀ W p2 c2, Below w7.heap.size w7 W → TreesAt W F p2 0 → Calls Try.prog 17 #[.agg #[.int .i64 k, .int .i64 n, .string t, .slice pb F.length cb], .agg #[.int .i64 k, .int .i64 n, .string t, .slice p2 F.length c2]] W fun e w' => e = .returned (.bool true) ∧ Below W.heap.size W w') := fun W p2 c2 hb hx => by
      obtain ⟨p3, c3, e3, _, hr3⟩ := (HOB7.out.keep (w' := W) (fun b hb2 => hb.block b (by have := HBB.out b hb2; have := HW57.out; have := HS5.out; omega))).reads
      cases e3
      exact HHE.out W pb p2 cb c2 hr3 hx
    go_wp2
    go_region_held3 (fun W => (W.cell? ⟨w.heap.size, 0, none⟩ = some (.int .i64 k) ∧ W.cell? ⟨w.heap.size, 1, none⟩ = some (.int .i64 n) ∧ W.cell? ⟨w.heap.size, 2, none⟩ = some (.string t) ∧ W.cell? ⟨w.heap.size, 3, none⟩ = some (.slice a F.length cap)) ∧ W.cell? ⟨w4.heap.size, 0, none⟩ = some (.int .i64 k) ∧ W.cell? ⟨w4.heap.size, 1, none⟩ = some (.int .i64 n) ∧ W.cell? ⟨w4.heap.size, 2, none⟩ = some (.string t) ∧ W.cell? ⟨w4.heap.size, 3, none⟩ = some (.slice pb F.length cb))
      (first
        | go_keep
        | (have hkeep := HF.out _ HB9.out; exact hkeep)
        | (have hkeep := HF.out _ HB8.out; exact hkeep)
        | fail "no arm")
      (first
        | (go_at_call 15; (with_reducible refine HTO.out.mono ?_); rintro e w8 ⟨⟨vc, bc, rfl, hoc, _, _⟩, hb8⟩; obtain ⟨pc, cc, rfl, _, hrc⟩ := hoc.reads; have HRC := Lib.hid hrc; have HB8 : Hid (Below w7.heap.size w7 w8) := Below.trans HD7.out (hb8.mono HD7.out.size); clear hoc hrc hb8)
        | (go_at_call 17; (with_reducible refine (HEQ.out w8 pc cc HB8.out HRC.out).mono ?_); rintro e w9 ⟨rfl, hb9⟩; have HB9 : Hid (Below w7.heap.size w7 w9) := Below.trans HB8.out (hb9.mono HB8.out.size); clear hb9)
        | fail "no arm")
    have HST9 := Lib.hid (HST7.out.below HB9.out)
    have HT9 := Lib.hid (HT7.out.below HB9.out)
    have HOB9 : Hid (OwnV w9 (.slice pb F.length cb) F bb) := HOB7.out.keep (fun b hb2 => HB9.out.block b (by have := HBB.out b hb2; have := HW57.out; have := HS5.out; omega))
    have HW59 : Hid (w5.heap.size ≤ w9.heap.size) := Nat.le_trans HW57.out HB9.out.size
    clear v0 v1 v2 v3 u0 u1 u2 u3 HF HTO HEQ HD7 HRC HB8 HB9 HOB7
    obtain ⟨v0, v1, v2, v3, _⟩ := four_cells HST9.out.box
    obtain ⟨u0, u1, u2, u3, _⟩ := four_cells HST9.out.x0
    go_wp2_with fail
    refine (HHM.out w9 (.slice pb F.length cb) bb HOB9.out HNB.out).mono ?_
    rintro e w10 ⟨rfl, _, hon⟩
    have hS10 : ∀ b, b ∈ bb → w0.heap.size ≤ b ∧ b ≠ w.heap.size ∧ b ≠ w4.heap.size ∧ b ≠ g2 := fun b hb => by
      have h1 := HBB.out b hb
      have h2 := HG2.out
      have h3 := HS0.out
      have h4 := HB3.out.size
      omega
    have HST10 := Lib.hid (HST9.out.keep hon hS10)
    have HT10 : Hid (TextsV w10 (.slice a6 zs.length c6) zs o6) := HT9.out.keep (fun g hg => hon.block g (HT9.out.lt g hg) (fun hb => by have := HBB.out g hb; have := HO6.out g hg; have := HS5.out; omega))
    clear v0 v1 v2 v3 u0 u1 u2 u3 hon hS10 HOB9 HHM HNB
    obtain ⟨a10, c10, e10, hr10⟩ := HT10.out.reads
    cases e10
    have HR10 := Lib.hid hr10
    clear hr10
    go_wp2_with fail
    refine (eqS_same w10 _ _ _ _ zs HR10.out HST10.out.want.reads HYL.out).mono ?_
    rintro e w11 ⟨rfl, q11, rfl⟩
    have hb11 : Below w10.heap.size w10 (w10.drewN q11) := below_drewN (Below.refl _ _) q11
    have HST11 := Lib.hid (HST10.out.below hb11)
    have HT11 := Lib.hid (HT10.out.below hb11)
    clear hb11
    generalize w10.drewN q11 = w11 at *
    go_wp2_with fail
    refine (markV_any w11 _ zs o6 1 HT11.out hzl (by omega) (by omega)).mono ?_
    rintro e w12 ⟨rfl, ht12, hg12⟩
    have HST12 : Hid (VSt w0 w12 (.cells #[.int .i64 k, .int .i64 n, .string t, .slice a F.length cap] 35 (0, 0)) (.cells #[.int .i64 k, .int .i64 n, .string t, .slice pb F.length cb] 40 (0, 0)) w.heap.size w4.heap.size g2 zs r2) :=
      HST11.out.keep (S := fun b => o6 = some b) ⟨hg12.os, hg12.tape, hg12.output, hg12.size, fun b hb hn => hg12.block b hb (fun e => hn e.symm)⟩ (fun b hb => by
        have h1 := HO6.out b hb
        have h2 := HG2.out
        have h3 := HS0.out
        have h4 := HB3.out.size
        have h5 := HS5.out
        have h6 := HW34.out
        omega)
    have HT12 := Lib.hid ht12
    obtain ⟨a12, c12, e12, hr12⟩ := ht12.reads
    rw [marks_length] at e12
    cases e12
    have HR12 := Lib.hid hr12
    clear ht12 hg12 hr12
    go_wp2_with fail
    refine (heldS_any w12 _ _ 1 zs.length HR12.out hzl (by omega) (by omega)).mono ?_
    rintro e w13 ⟨rfl, hb13⟩
    have HST13 := Lib.hid (HST12.out.below hb13)
    have HT13 := Lib.hid (HT12.out.below hb13)
    have hnn : ¬ ((1 + zs.length : Nat) : Int) < 0 := by omega
    clear hb13
    obtain ⟨v0, v1, v2, v3, _⟩ := four_cells HST13.out.box
    go_wp2_with fail
    refine (HHT.out w13 HST13.out.low).mono ?_
    rintro e w14 ⟨⟨vd, bd, rfl, hod, _, _⟩, hb14⟩
    obtain ⟨pd, cd, rfl, hld, hrd⟩ := hod.reads
    have HST14 := Lib.hid (HST13.out.below hb14)
    have HT14 := Lib.hid (HT13.out.below hb14)
    have HRD := Lib.hid hrd
    have HLD := Lib.hid hld
    clear hod hrd hld hb14 v0 v1 v2 v3
    go_wp2_with fail
    refine (HHI.out w14 pd cd HRD.out HLD.out).mono ?_
    rintro e w15 hout
    obtain ⟨⟨v15, o15, rfl, ht15, ho15⟩, hb15⟩ := outT_texts hout
    have HST15 := Lib.hid (HST14.out.below hb15)
    have HT15 := Lib.hid (HT14.out.below hb15)
    obtain ⟨a15, c15, rfl, hr15⟩ := ht15.reads
    have HR15 := Lib.hid hr15
    clear hout ht15 ho15 hb15 hr15
    go_wp2_with fail
    refine (eqS_same w15 _ _ _ _ zs HR15.out HST15.out.want.reads HYL.out).mono ?_
    rintro e w16 ⟨rfl, q16, rfl⟩
    have hb16 : Below w15.heap.size w15 (w15.drewN q16) := below_drewN (Below.refl _ _) q16
    have HST16 := Lib.hid (HST15.out.below hb16)
    have HT16 := Lib.hid (HT15.out.below hb16)
    clear hb16
    generalize w15.drewN q16 = w16 at *
    obtain ⟨a17, c17, e17, hr17⟩ := HT16.out.reads
    rw [marks_length] at e17
    cases e17
    have HR17 := Lib.hid hr17
    clear hr17
    go_wp2_with fail
    refine (heldS_any w16 _ _ 1 zs.length HR17.out hzl (by omega) (by omega)).mono ?_
    rintro e w17 ⟨rfl, hb17⟩
    have HBZ : Hid (Below w0.heap.size w0 w17) := (HST16.out.below hb17).low
    clear hb17
    go_wp2
    go_ret
    exact ⟨rfl, HB0.out.trans (HBZ.out.mono HB0.out.size)⟩
  · rw [left_no hsz] at H0
    clear hsz hf hm hv _hk _hn ht hs0
    go_enter Try.func5, Try.ntmps5
    go_wp2_with fail
    rw [HW0.out]
    refine H0.mono ?_
    rintro e w1 ⟨rfl, hb1⟩
    have HB1 := Lib.hid hb1
    clear hb1 H0
    go_wp2
    go_ret
    exact ⟨rfl, HB0.out.trans (HB1.out.mono HB0.out.size)⟩
end Go.Proofs.Ytdifefgigcjgeaa
