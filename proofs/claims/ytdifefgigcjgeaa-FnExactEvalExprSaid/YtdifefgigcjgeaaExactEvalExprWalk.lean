/- What is proved here: the text of FnExactEvalExpr returns true for every expression and bindings. Condition: none. -/
import Derived.Test.YtdifefgigcjgeaaExSpecEval
import Derived.Test.YtdifefgigcjgeaaExImplEval
import Derived.Test.YtdifefgigcjgeaaExTreeSize
import Derived.Test.YtdifefgigcjgeaaExTreeEq
import Derived.Test.YtdifefgigcjgeaaExTreeMake
import Derived.Test.YtdifefgigcjgeaaBindSize
import Derived.Test.YtdifefgigcjgeaaBindEq
import Derived.Test.YtdifefgigcjgeaaBindMake
namespace Go.Proofs.Ytdifefgigcjgeaa
open Ex
open Go.RowKit

abbrev evBox (k n : Int) (t : ByteArray) (v : Value) (T : TypeId) : Obj := .cells #[.int .i64 k, .int .i64 n, .string t, v] T
set_option maxHeartbeats 2000000 in
set_option maxRecDepth 100000 in
theorem fnExactEvalExpr_walk (k n : Int) (t : ByteArray) (F : Trees) (a : Option Addr) (cap : Nat) (a2 : Option Addr) (cap2 : Nat) (env : List BindD) (w : World) (hx : TreesAt w F a 0) (hf : F.fits) (hm : F.length ≤ maxLen) (_hk : -9223372036854775808 ≤ k ∧ k ≤ 9223372036854775807) (_hn : -9223372036854775808 ≤ n ∧ n ≤ 9223372036854775807) (ht : t.size ≤ maxLen) (hbx : BindsAt w env a2 0) (hbm : env.length ≤ maxLen) (hbf : ∀ x ∈ env, x.fits) :
    Calls Try.prog 7 #[.agg #[.int .i64 k, .int .i64 n, .string t, .slice a F.length cap], .slice a2 env.length cap2] w fun e w' => e = .returned (.bool true) ∧ Below w.heap.size w w' := by
  have hB0 : Below w.heap.size w (w.alloc (.cells #[.int .i64 k, .int .i64 n, .string t, .slice a F.length cap] 35)) := (Below.refl _ _).alloc (Nat.le_refl _) _
  have hv := heap_at_new w (.cells #[.int .i64 k, .int .i64 n, .string t, .slice a F.length cap] 35)
  have H0 := Ex.szValue_any 1048576 (Nat.le_refl _) (w.alloc (.cells #[.int .i64 k, .int .i64 n, .string t, .slice a F.length cap] 35)) k n t F a cap ht hf hm (hx.below hB0)
  generalize hw0 : w.alloc (.cells #[.int .i64 k, .int .i64 n, .string t, .slice a F.length cap] 35) = w0 at *
  have HW0 := Lib.hid hw0
  have HB0 := Lib.hid hB0
  have HX := Lib.hid (hx.below hB0)
  have HBX := Lib.hid (hbx.below hB0)
  have HV : Hid (∀ W, Below w0.heap.size w0 W → W.cell? ⟨w.heap.size, 0, none⟩ = some (.int .i64 k) ∧ W.cell? ⟨w.heap.size, 1, none⟩ = some (.int .i64 n) ∧ W.cell? ⟨w.heap.size, 2, none⟩ = some (.string t) ∧ W.cell? ⟨w.heap.size, 3, none⟩ = some (.slice a F.length cap)) := fun W hb => by
    obtain ⟨v0, v1, v2, v3, _⟩ := four_cells ((hb.block w.heap.size (Array.getElem?_eq_some_iff.1 hv).1).trans hv)
    exact ⟨v0, v1, v2, v3⟩
  obtain ⟨v0, v1, v2, v3⟩ := HV.out w0 (Below.refl _ _)
  clear hw0 hB0 hx hbx hv
  by_cases hsz : t.size + F.size ≤ 1048576
  · rw [left_yes hsz] at H0
    have hq : 1048576 - (t.size + F.size) ≤ 1048576 := by omega
    have HS1 := fun W (hb : Below w0.heap.size w0 W) => szBindS_any env hbf hbm (1048576 - (t.size + F.size)) hq W a2 cap2 (HBX.out.below hb)
    have hfs : F.size ≤ 1048576 := by omega
    have hfc : F.count ≤ 1048576 := by have := F.count_le_size; omega
    generalize 1048576 - (t.size + F.size) = q at *
    by_cases hsb : bindsSize env ≤ q
    · have hbl : env.length ≤ 1048576 := by unfold bindsSize at hsb; omega
      have hbs : bindsSize env ≤ 1048576 := by omega
      have HT := Lib.hid (fun w' (hb : Below w0.heap.size w0 w') => Ex.toValue_any w' k n t F a cap hf hfs (HX.out.below hb))
      have HTB := Lib.hid (fun w' (hb : Below w0.heap.size w0 w') => toBindS_any env hbf hbl hbs w' a2 cap2 (HBX.out.below hb))
      have HS := fun w' p cp p2 cp2 (hx : TreesAt w' F p 0) (hy : BindsAt w' env p2 0) => spec_eval env hbl p2 cp2 w' k n t F p cp hf hfc ht hx hy
      have HI := fun w' p cp p2 cp2 (hx : TreesAt w' F p 0) (hl : F.length ≤ cp) (hy : BindsAt w' env p2 0) => impl_eval env hbl p2 cp2 w' k n t F p cp hf hfc ht hx hl hy
      have HE := Lib.hid (fun w' p p2 cp cp2 (hx : TreesAt w' F p 0) (hy : TreesAt w' F p2 0) => Ex.eqValue_same w' k n t F p p2 cp cp2 hf hm hx hy)
      have HEB := Lib.hid (fun w' p p2 cp cp2 (hx : BindsAt w' env p 0) (hy : BindsAt w' env p2 0) => eqBindS_same env hbf hbm w' p p2 cp cp2 hx hy)
      generalize hc : exprV env k n t F = c at HS HI
      have HHS := Lib.hid HS
      have HHI := Lib.hid HI
      rw [left_yes hsb] at HS1
      have HSZ := Lib.hid HS1
      have hq2 : q - bindsSize env ≤ 1048576 := by omega
      generalize q - bindsSize env = q2 at *
      clear hsz hf hm hfs hfc HS HI HS1 _hk _hn ht hc hbf hbm hbl hbs hsb
      go_enter Try.func7, Try.ntmps7
      go_wp2_with fail
      rw [HW0.out]
      refine H0.mono ?_
      rintro e w1 ⟨rfl, hb1⟩
      have HB1 := Lib.hid hb1
      clear hb1 H0 v0 v1 v2 v3
      go_wp2_with fail
      refine (HSZ.out w1 HB1.out).mono ?_
      rintro e w2 ⟨rfl, hb2⟩
      have HB2 : Hid (Below w0.heap.size w0 w2) := HB1.out.trans (hb2.mono HB1.out.size)
      clear hb2 HSZ
      obtain ⟨v0, v1, v2, v3⟩ := HV.out w2 HB2.out
      go_wp2_with fail
      refine (HT.out w2 HB2.out).mono ?_
      rintro e w3 ⟨⟨va, ba, rfl, hoa, _, _⟩, hb3⟩
      obtain ⟨pa, ca, rfl, _, hra⟩ := hoa.reads
      have HRA := Lib.hid hra
      have HB3 : Hid (Below w0.heap.size w0 w3) := HB2.out.trans (hb3.mono HB2.out.size)
      clear hoa hra hb3 v0 v1 v2 v3
      go_wp2_with fail
      refine (HTB.out w3 HB3.out).mono ?_
      rintro e w4 ⟨⟨vb, bb, rfl, hob, _, _⟩, hb4⟩
      obtain ⟨pb, cb, rfl, _, hrb⟩ := hob.reads
      have HRB := Lib.hid hrb
      have HRA4 := Lib.hid (HRA.out.below hb4)
      have HB4 : Hid (Below w0.heap.size w0 w4) := HB3.out.trans (hb4.mono HB3.out.size)
      clear hob hrb hb4 HRA
      go_wp2_with fail
      refine (HHS.out w4 pa ca pb cb HRA4.out HRB.out).mono ?_
      rintro e w5 ⟨rfl, hb5⟩
      have HB5 : Hid (Below w0.heap.size w0 w5) := HB4.out.trans (hb5.mono HB4.out.size)
      clear hb5 HRA4 HRB HHS
      obtain ⟨v0, v1, v2, v3⟩ := HV.out w5 HB5.out
      go_wp2_with fail
      refine (HT.out w5 HB5.out).mono ?_
      rintro e w6 ⟨⟨vx, bx, rfl, hox, _, _⟩, hb6⟩
      obtain ⟨px, cx, rfl, hlx, hrx⟩ := hox.reads
      have hB7 : Below w6.heap.size w6 (w6.alloc (.cells #[.int .i64 k, .int .i64 n, .string t, .slice px F.length cx] 40)) := (Below.refl _ _).alloc (Nat.le_refl _) _
      have hu7 := heap_at_new w6 (.cells #[.int .i64 k, .int .i64 n, .string t, .slice px F.length cx] 40)
      obtain ⟨w7, hw7⟩ : ∃ w7, w7 = w6.alloc (.cells #[.int .i64 k, .int .i64 n, .string t, .slice px F.length cx] 40) := ⟨_, rfl⟩
      rw [← hw7] at hB7 hu7
      have HW7 := Lib.hid hw7
      have HU : Hid (∀ W, Below w7.heap.size w7 W → W.cell? ⟨w6.heap.size, 0, none⟩ = some (.int .i64 k) ∧ W.cell? ⟨w6.heap.size, 1, none⟩ = some (.int .i64 n) ∧ W.cell? ⟨w6.heap.size, 2, none⟩ = some (.string t) ∧ W.cell? ⟨w6.heap.size, 3, none⟩ = some (.slice px F.length cx)) := fun W hb => by
        obtain ⟨u0, u1, u2, u3, _⟩ := four_cells ((hb.block w6.heap.size (Array.getElem?_eq_some_iff.1 hu7).1).trans hu7)
        exact ⟨u0, u1, u2, u3⟩
      have HRX := Lib.hid (hrx.below hB7)
      have HLX := Lib.hid hlx
      have HB7 : Hid (Below w0.heap.size w0 w7) := (HB5.out.trans (hb6.mono HB5.out.size)).trans (hB7.mono (Nat.le_trans HB5.out.size hb6.size))
      clear hox hrx hb6 hlx hB7 hu7 hw7 v0 v1 v2 v3
      go_wp2_with fail
      rw [← HW7.out]
      refine (HTB.out w7 HB7.out).mono ?_
      rintro e w8 ⟨⟨vy, by', rfl, hoy, _, _⟩, hb8⟩
      obtain ⟨py, cy, rfl, _, hry⟩ := hoy.reads
      have HRY := Lib.hid hry
      have HRX8 := Lib.hid (HRX.out.below hb8)
      have HB78 : Hid (Below w7.heap.size w7 w8) := hb8
      clear hoy hry hb8 HRX
      obtain ⟨u0, u1, u2, u3⟩ := HU.out w8 HB78.out
      go_wp2_with fail
      refine (HHI.out w8 px cx py cy HRX8.out HLX.out HRY.out).mono ?_
      rintro e w9 ⟨rfl, hb9⟩
      have HB79 : Hid (Below w7.heap.size w7 w9) := HB78.out.trans (hb9.mono HB78.out.size)
      have HRX9 := Lib.hid (HRX8.out.below hb9)
      have HRY9 := Lib.hid (HRY.out.below hb9)
      have HB9 : Hid (Below w0.heap.size w0 w9) := HB7.out.trans (HB79.out.mono HB7.out.size)
      clear hb9 HRX8 HRY HHI u0 u1 u2 u3
      obtain ⟨v0, v1, v2, v3⟩ := HV.out w9 HB9.out
      obtain ⟨u0, u1, u2, u3⟩ := HU.out w9 HB79.out
      have HF : Hid (∀ W, Below w9.heap.size w9 W → (W.cell? ⟨w.heap.size, 0, none⟩ = some (.int .i64 k) ∧ W.cell? ⟨w.heap.size, 1, none⟩ = some (.int .i64 n) ∧ W.cell? ⟨w.heap.size, 2, none⟩ = some (.string t) ∧ W.cell? ⟨w.heap.size, 3, none⟩ = some (.slice a F.length cap)) ∧ W.cell? ⟨w6.heap.size, 0, none⟩ = some (.int .i64 k) ∧ W.cell? ⟨w6.heap.size, 1, none⟩ = some (.int .i64 n) ∧ W.cell? ⟨w6.heap.size, 2, none⟩ = some (.string t) ∧ W.cell? ⟨w6.heap.size, 3, none⟩ = some (.slice px F.length cx)) := fun W hb => ⟨HV.out W (HB9.out.trans (hb.mono HB9.out.size)), HU.out W (HB79.out.trans (hb.mono HB79.out.size))⟩
      have HD : Hid (Below w9.heap.size w9 w9.drew) := (Below.refl _ _).drew
      have HTO : Hid (Calls Try.prog 15 #[.agg #[.int .i64 k, .int .i64 n, .string t, .slice a F.length cap]] w9.drew fun e w' => (∃ v bs, e = .returned (.agg #[.int .i64 k, .int .i64 n, .string t, v]) ∧ Ex.OwnV w' v F bs ∧ bs.Nodup ∧ ∀ b ∈ bs, w9.drew.heap.size ≤ b ∧ b < w'.heap.size) ∧ Below w9.drew.heap.size w9.drew w') := HT.out w9.drew HB9.out.drew
      clear HV HU
      go_wp2
      go_region_held3 (fun W => (W.cell? ⟨w.heap.size, 0, none⟩ = some (.int .i64 k) ∧ W.cell? ⟨w.heap.size, 1, none⟩ = some (.int .i64 n) ∧ W.cell? ⟨w.heap.size, 2, none⟩ = some (.string t) ∧ W.cell? ⟨w.heap.size, 3, none⟩ = some (.slice a F.length cap)) ∧ W.cell? ⟨w6.heap.size, 0, none⟩ = some (.int .i64 k) ∧ W.cell? ⟨w6.heap.size, 1, none⟩ = some (.int .i64 n) ∧ W.cell? ⟨w6.heap.size, 2, none⟩ = some (.string t) ∧ W.cell? ⟨w6.heap.size, 3, none⟩ = some (.slice px F.length cx))
        (first
          | go_keep
          | (have hkeep := HF.out _ HB11.out; exact hkeep)
          | (have hkeep := HF.out _ HB10.out; exact hkeep)
          | fail "no arm")
        (first
          | (go_at_call 15; (with_reducible refine HTO.out.mono ?_); rintro e w10 ⟨⟨vc, bc, rfl, hoc, _, _⟩, hb10⟩; obtain ⟨pc, cc, rfl, _, hrc⟩ := hoc.reads; have HRC := Lib.hid hrc; have HB10 : Hid (Below w9.heap.size w9 w10) := Below.trans HD.out (hb10.mono HD.out.size); clear hoc hrc hb10)
          | (go_at_call 17; (with_reducible refine (HE.out w10 px pc cx cc (HRX9.out.below HB10.out) HRC.out).mono ?_); rintro e w11 ⟨rfl, hb11⟩; have HB11 : Hid (Below w9.heap.size w9 w11) := Below.trans HB10.out (hb11.mono HB10.out.size); clear hb11)
          | fail "no arm")
      have HB011 : Hid (Below w0.heap.size w0 w11) := HB9.out.trans (HB11.out.mono HB9.out.size)
      have HRY11 := Lib.hid (HRY9.out.below HB11.out)
      clear v0 v1 v2 v3 u0 u1 u2 u3 HF HTO HD
      go_wp2_with fail
      refine (HTB.out w11 HB011.out).mono ?_
      rintro e w12 ⟨⟨vz, bz, rfl, hoz, _, _⟩, hb12⟩
      obtain ⟨pz, cz, rfl, _, hrz⟩ := hoz.reads
      have HRZ := Lib.hid hrz
      have HRY12 := Lib.hid (HRY11.out.below hb12)
      have HB12 : Hid (Below w0.heap.size w0 w12) := HB011.out.trans (hb12.mono HB011.out.size)
      clear hoz hrz hb12
      go_wp2_with fail
      refine (HEB.out w12 py pz cy cz HRY12.out HRZ.out).mono ?_
      rintro e w13 ⟨rfl, hb13⟩
      have HB13 : Hid (Below w0.heap.size w0 w13) := HB12.out.trans (hb13.mono HB12.out.size)
      clear hb13
      go_wp2
      go_ret
      exact ⟨rfl, HB0.out.trans (HB13.out.mono HB0.out.size)⟩
    · rw [left_no hsb] at HS1
      have HSZ := Lib.hid HS1
      clear hsz hf hm HS1 _hk _hn ht hbf hbm hfs hfc hsb
      go_enter Try.func7, Try.ntmps7
      go_wp2_with fail
      rw [HW0.out]
      refine H0.mono ?_
      rintro e w1 ⟨rfl, hb1⟩
      have HB1 := Lib.hid hb1
      clear hb1 H0
      go_wp2_with fail
      refine (HSZ.out w1 HB1.out).mono ?_
      rintro e w2 ⟨rfl, hb2⟩
      have HB2 : Hid (Below w0.heap.size w0 w2) := HB1.out.trans (hb2.mono HB1.out.size)
      clear hb2
      go_wp2
      go_ret
      exact ⟨rfl, HB0.out.trans (HB2.out.mono HB0.out.size)⟩
  · rw [left_no hsz] at H0
    clear hsz hf hm _hk _hn ht hbf hbm
    go_enter Try.func7, Try.ntmps7
    go_wp2_with fail
    rw [HW0.out]
    refine H0.mono ?_
    rintro e w1 ⟨rfl, hb1⟩
    have HB1 := Lib.hid hb1
    clear hb1 H0
    go_wp2
    go_ret
    exact ⟨rfl, HB0.out.trans (HB1.out.mono HB0.out.size)⟩
end Go.Proofs.Ytdifefgigcjgeaa
