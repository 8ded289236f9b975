/- What is proved here: a piece of the proof of YtijbaienhaiamaaGreatDoorGuards (ExImplEval). Condition: none beyond what each part says. -/
import Derived.Test.YtijbaienhaiamaaGreatDoorGu22
import Derived.Test.YtijbaienhaiamaaGreatDoorGu21
import Derived.Test.YtijbaienhaiamaaGreatDoorGu02
import Derived.Deep.RegionHeld3

/- What is proved here: the program's EvalExpr gives the value of an expression. Conditions: expression and bindings lie in memory as said, and are small. -/
section
namespace Go.Proofs.YtijbaienhaiamaaGreatDoor.Ex
open Go.RowKit

set_option maxHeartbeats 1000000 in
set_option maxRecDepth 100000 in
theorem impl_var (env : List BindD) (hm : env.length ≤ 1048576) (t : ByteArray) (w : World) (a : Option Addr) (cap : Nat) (hx : BindsAt w env a 0) :
    Calls Tryz.prog 151 #[.slice a env.length cap, .string t] w fun e w' => e = .returned (.int .i64 (varV env t)) ∧ Below w.heap.size w w' := by
  have HX := Lib.hid hx
  obtain ⟨z, hz⟩ : ∃ z, varV env t = z := ⟨_, rfl⟩
  rw [hz]
  have HZ := Lib.hid hz
  generalize hn : env.length = n at *
  have HN := Lib.hid hn
  clear hx hz hn
  go_enter Tryz.func151, Tryz.ntmps151
  go_wp2
  go_loopw [9] (fun i wr => ∃ (k : Nat) (rest : List BindD), i = .int .i64 k ∧ k + rest.length = n ∧ Hid (varV rest t = z) ∧ Hid (BindsAt w rest a k) ∧ Hid (Below w.heap.size w wr)) (fun i _ => n - (intOf i).toNat)
  case atStart => exact ⟨0, env, rfl, by rw [HN.out]; omega, HZ, HX, Below.refl _ _⟩
  case round =>
    obtain ⟨k, rest, rfl, hkn, hzr, hxr, hB⟩ := hrel
    cases rest with
    | cons x r =>
      have hkl : k < n := by simp only [List.length_cons] at hkn; omega
      have hkn2 : k + 1 + r.length = n := by simp only [List.length_cons] at hkn; omega
      obtain ⟨⟨y, p, cp, rfl, h1, h2, h3, h4, h5, _, _⟩, hr⟩ := hxr.out.below hB.out
      have hxr2 : Hid (BindsAt w r (some y) (k + 1)) := hxr.out.2
      have hz2 := hzr.out
      unfold varV at hz2
      obtain ⟨nm, kd, nu, tx, F⟩ := x
      clear hzr hxr hr hkn
      dsimp only at *
      have HBA : Hid (Below w.heap.size w (wr.alloc (.cells #[.string nm, .int .i64 kd, .int .i64 nu, .string tx, .slice p F.length cp] 68))) := hB.out.alloc hB.out.size _
      obtain ⟨x0, x1, x2, x3, x4, _, _, _, _, _⟩ := five_cells (heap_at_new wr (.cells #[.string nm, .int .i64 kd, .int .i64 nu, .string tx, .slice p F.length cp] 68))
      generalize hq : (nm.toList == t.toList) = q at *
      cases q with
      | false =>
        have HZ2 : Hid (varV r t = z) := by unfold Hid; simpa using hz2
        have hq2 : (nm.toList != t.toList) = true := by simp [bne, hq]
        clear hz2
        go_wp2
        go_roundw
        case rel => exact ⟨k + 1, r, by go_num, hkn2, HZ2, hxr2, HBA⟩
        case measure => simp [intOf]; omega
      | true =>
        rw [if_pos rfl] at hz2
        have hq2 : (nm.toList != t.toList) = false := by simp [bne, hq]
        generalize hk1 : (kd == 1) = c at *
        cases c with
        | false =>
          have HZ2 : Hid (z = 0) := by unfold Hid; simpa using hz2.symm
          have hk2 : (kd != 1) = true := by simp [bne, hk1]
          clear hz2
          go_wp2
          go_ret
          exact ⟨by rw [HZ2.out]; rfl, HBA.out⟩
        | true =>
          have HZ2 : Hid (z = nu) := by unfold Hid; simpa using hz2.symm
          have hk2 : (kd != 1) = false := by simp [bne, hk1]
          clear hz2
          go_wp2
          go_ret
          exact ⟨by rw [HZ2.out]; rfl, HBA.out⟩
    | nil =>
      obtain rfl : k = n := by simp only [List.length_nil] at hkn; omega
      have HZ2 : Hid (z = 0) := hzr.out.symm
      clear hzr hxr
      go_wp2
      go_ret
      exact ⟨by rw [HZ2.out]; rfl, hB.out⟩

set_option maxHeartbeats 4000000 in
set_option maxRecDepth 100000 in
theorem impl_eval_tree (env : List BindD) (hm : env.length ≤ 1048576) (ae : Option Addr) (ce : Nat) : ∀ G : Trees, G.formedE = true → G.count ≤ 1048576 → ∀ (w : World) (k n : Int) (t : ByteArray) (p : Option Addr) (cap : Nat), exprForm k n t G.length = true → TreesAt w G p 0 → BindsAt w env ae 0 →
    Calls Tryz.prog 96 #[.agg #[.int .i64 k, .int .i64 n, .string t, .slice p G.length cap], .slice ae env.length ce] w fun e w' => e = .returned (.int .i64 (nodeI env k n t (G.vals env))) ∧ Below w.heap.size w w' := by
  refine Trees.ind fun F hall hfm hc w k n t p cap hpf hx hbe => ?_
  have hB0 : Below w.heap.size w (w.alloc (.cells #[.int .i64 k, .int .i64 n, .string t, .slice p F.length cap] 54)) := (Below.refl _ _).alloc (Nat.le_refl _) _
  have HB0 := Lib.hid hB0
  obtain ⟨c0, c1, c2, c3, _⟩ := four_cells (heap_at_new w (.cells #[.int .i64 k, .int .i64 n, .string t, .slice p F.length cap] 54))
  rcases (exprForm_iff k n t F.length).1 hpf with ⟨rfl, hi, -⟩ | ⟨rfl, -, -, -⟩ | ⟨rfl, ho, -, hl2⟩ | ⟨rfl, -, -, hl1⟩
  · have e : nodeI env 1 n t (F.vals env) = n := rfl
    rw [e]
    clear hall hx hB0 e hfm hc hpf hi hbe hm
    go_enter Tryz.func96, Tryz.ntmps96
    go_wp2
    go_ret
    exact ⟨rfl, HB0.out⟩
  · have e : nodeI env 2 n t (F.vals env) = varV env t := rfl
    rw [e]
    have HV := impl_var env hm t _ ae ce (hbe.below hB0)
    generalize varV env t = z at *
    clear hall hx hB0 e hfm hc hpf hbe
    go_enter Tryz.func96, Tryz.ntmps96
    go_wp2_with fail
    refine HV.mono ?_
    rintro e w1 ⟨rfl, hb1⟩
    have HB1 : Hid (Below w.heap.size w w1) := HB0.out.trans (hb1.mono HB0.out.size)
    clear HV hb1
    go_wp2
    go_ret
    exact ⟨rfl, HB1.out⟩
  · cases F with
    | nil => cases hl2
    | cons ka na ta Fa R =>
      cases R with
      | nil => cases hl2
      | cons kb nb tb Fb R2 =>
        cases R2 with
        | cons _ _ _ _ _ => simp [Trees.length] at hl2
        | nil =>
          have e : nodeI env 3 n t (Trees.vals env (.cons ka na ta Fa (.cons kb nb tb Fb .nil))) = opV n (nodeI env ka na ta (Fa.vals env)) (nodeI env kb nb tb (Fb.vals env)) := rfl
          rw [e]
          simp only [Trees.formedE, Bool.and_eq_true] at hfm
          simp only [Trees.count] at hc
          rw [show (Trees.length (.cons ka na ta Fa (.cons kb nb tb Fb .nil))) = 2 from rfl] at *
          obtain ⟨y, pa, ca, rfl, a0, a1, a2, a3, hsa, hxb⟩ := (hx.below hB0).open
          obtain ⟨y', pb, cb, e', b0, b1, b2, b3, hsb, _⟩ := hxb.open
          cases e'
          have HBE := Lib.hid (hbe.below hB0)
          have HCA := Lib.hid (fun W (hb : Below (w.alloc (.cells #[.int .i64 3, .int .i64 n, .string t, .slice (some y) 2 cap] 54)).heap.size (w.alloc (.cells #[.int .i64 3, .int .i64 n, .string t, .slice (some y) 2 cap] 54)) W) => hall.1 hfm.2.1 (by omega) W ka na ta pa ca hfm.1 (hsa.below hb) (HBE.out.below hb))
          have HCB := Lib.hid (fun W (hb : Below (w.alloc (.cells #[.int .i64 3, .int .i64 n, .string t, .slice (some y) 2 cap] 54)).heap.size (w.alloc (.cells #[.int .i64 3, .int .i64 n, .string t, .slice (some y) 2 cap] 54)) W) => hall.2.1 hfm.2.2.2.1 (by omega) W kb nb tb pb cb hfm.2.2.1 (hsb.below hb) (HBE.out.below hb))
          generalize nodeI env ka na ta (Fa.vals env) = va at *
          generalize nodeI env kb nb tb (Fb.vals env) = vb at *
          have HOL := impl_operators
          unfold opsV at HOL
          have hif := op_func
          generalize hw0 : w.alloc (.cells #[.int .i64 3, .int .i64 n, .string t, .slice (some y) 2 cap] 54) = w0 at *
          have HW0 := Lib.hid hw0
          have HF : Hid (∀ W, Below w0.heap.size w0 W → (W.cell? ⟨w.heap.size, 1, none⟩ = some (.int .i64 n) ∧ W.cell? ⟨w.heap.size, 3, none⟩ = some (.slice (some y) 2 cap)) ∧ (W.cell? y = some (.int .i64 ka) ∧ W.cell? { block := y.block, off := y.off + 1 } = some (.int .i64 na) ∧ W.cell? { block := y.block, off := y.off + 2 } = some (.string ta) ∧ W.cell? { block := y.block, off := y.off + 3 } = some (.slice pa Fa.length ca)) ∧ W.cell? { block := y.block, off := y.off + 4 } = some (.int .i64 kb) ∧ W.cell? { block := y.block, off := y.off + 4 + 1 } = some (.int .i64 nb) ∧ W.cell? { block := y.block, off := y.off + 4 + 2 } = some (.string tb) ∧ W.cell? { block := y.block, off := y.off + 4 + 3 } = some (.slice pb Fb.length cb)) := fun W hb => ⟨⟨cell_below c1 hb, cell_below c3 hb⟩, ⟨cell_below a0 hb, cell_below a1 hb, cell_below a2 hb, cell_below a3 hb⟩, cell_below b0 hb, cell_below b1 hb, cell_below b2 hb, cell_below b3 hb⟩
          obtain ⟨⟨d1, d3⟩, ⟨a0', a1', a2', a3'⟩, b0', b1', b2', b3'⟩ := HF.out w0 (Below.refl _ _)
          have HD : Hid (Below w0.heap.size w0 w0.drew) := (Below.refl _ _).drew
          clear hall hx e hfm hc hpf hB0 hsa hsb hxb hw0 a0 a1 a2 a3 b0 b1 b2 b3 hl2 hbe HBE hm c0 c1 c2 c3
          rcases (inOp_iff n).1 ho with rfl | rfl | rfl | rfl | rfl | rfl | rfl
          · have hix := ops_at1
            unfold opsV at hix
            have HOP := Lib.hid (fun W => impl_op1 va vb W)
            clear ho
            go_enter Tryz.func96, Tryz.ntmps96
            go_wp2
            rw [HW0.out]
            go_region_held3 (fun W => (W.cell? ⟨w.heap.size, 1, none⟩ = some (.int .i64 1) ∧ W.cell? ⟨w.heap.size, 3, none⟩ = some (.slice (some y) 2 cap)) ∧ (W.cell? y = some (.int .i64 ka) ∧ W.cell? { block := y.block, off := y.off + 1 } = some (.int .i64 na) ∧ W.cell? { block := y.block, off := y.off + 2 } = some (.string ta) ∧ W.cell? { block := y.block, off := y.off + 3 } = some (.slice pa Fa.length ca)) ∧ W.cell? { block := y.block, off := y.off + 4 } = some (.int .i64 kb) ∧ W.cell? { block := y.block, off := y.off + 4 + 1 } = some (.int .i64 nb) ∧ W.cell? { block := y.block, off := y.off + 4 + 2 } = some (.string tb) ∧ W.cell? { block := y.block, off := y.off + 4 + 3 } = some (.slice pb Fb.length cb))
              (first
                | go_keep
                | (have hkeep := HF.out _ HB4.out; exact hkeep)
                | (have hkeep := HF.out _ HB3.out; exact hkeep)
                | (have hkeep := HF.out _ HB2.out; exact hkeep)
                | (have hkeep := HF.out _ HB1.out; exact hkeep)
                | fail "no arm")
              (first
                | (go_at_call 153; (with_reducible refine (HOL w0.drew).mono ?_); rintro e w1 ⟨rfl, hb1⟩; have HB1 : Hid (Below w0.heap.size w0 w1) := Below.trans HD.out (hb1.mono HD.out.size); clear hb1)
                | (go_at_call 96; (with_reducible refine (HCA.out w1 HB1.out).mono ?_); rintro e w2 ⟨rfl, hb2⟩; have HB2 : Hid (Below w0.heap.size w0 w2) := Below.trans HB1.out (hb2.mono HB1.out.size); clear hb2)
                | (go_at_call 96; (with_reducible refine (HCB.out w2 HB2.out).mono ?_); rintro e w3 ⟨rfl, hb3⟩; have HB3 : Hid (Below w0.heap.size w0 w3) := Below.trans HB2.out (hb3.mono HB2.out.size); clear hb3)
                | (go_at_call 188; (with_reducible refine (HOP.out w3).mono ?_); rintro e w4 ⟨rfl, rfl⟩; have HB4 := HB3)
                | fail "no arm")
            all_goals
              go_wp2
              go_ret
              exact ⟨rfl, HB0.out.trans (HB3.out.mono HB0.out.size)⟩
          · have hix := ops_at2
            unfold opsV at hix
            have HOP := Lib.hid (fun W => impl_op2 va vb W)
            clear ho
            go_enter Tryz.func96, Tryz.ntmps96
            go_wp2
            rw [HW0.out]
            go_region_held3 (fun W => (W.cell? ⟨w.heap.size, 1, none⟩ = some (.int .i64 2) ∧ W.cell? ⟨w.heap.size, 3, none⟩ = some (.slice (some y) 2 cap)) ∧ (W.cell? y = some (.int .i64 ka) ∧ W.cell? { block := y.block, off := y.off + 1 } = some (.int .i64 na) ∧ W.cell? { block := y.block, off := y.off + 2 } = some (.string ta) ∧ W.cell? { block := y.block, off := y.off + 3 } = some (.slice pa Fa.length ca)) ∧ W.cell? { block := y.block, off := y.off + 4 } = some (.int .i64 kb) ∧ W.cell? { block := y.block, off := y.off + 4 + 1 } = some (.int .i64 nb) ∧ W.cell? { block := y.block, off := y.off + 4 + 2 } = some (.string tb) ∧ W.cell? { block := y.block, off := y.off + 4 + 3 } = some (.slice pb Fb.length cb))
              (first
                | go_keep
                | (have hkeep := HF.out _ HB4.out; exact hkeep)
                | (have hkeep := HF.out _ HB3.out; exact hkeep)
                | (have hkeep := HF.out _ HB2.out; exact hkeep)
                | (have hkeep := HF.out _ HB1.out; exact hkeep)
                | fail "no arm")
              (first
                | (go_at_call 153; (with_reducible refine (HOL w0.drew).mono ?_); rintro e w1 ⟨rfl, hb1⟩; have HB1 : Hid (Below w0.heap.size w0 w1) := Below.trans HD.out (hb1.mono HD.out.size); clear hb1)
                | (go_at_call 96; (with_reducible refine (HCA.out w1 HB1.out).mono ?_); rintro e w2 ⟨rfl, hb2⟩; have HB2 : Hid (Below w0.heap.size w0 w2) := Below.trans HB1.out (hb2.mono HB1.out.size); clear hb2)
                | (go_at_call 96; (with_reducible refine (HCB.out w2 HB2.out).mono ?_); rintro e w3 ⟨rfl, hb3⟩; have HB3 : Hid (Below w0.heap.size w0 w3) := Below.trans HB2.out (hb3.mono HB2.out.size); clear hb3)
                | (go_at_call 189; (with_reducible refine (HOP.out w3).mono ?_); rintro e w4 ⟨rfl, rfl⟩; have HB4 := HB3)
                | fail "no arm")
            all_goals
              go_wp2
              go_ret
              exact ⟨rfl, HB0.out.trans (HB3.out.mono HB0.out.size)⟩
          · have hix := ops_at3
            unfold opsV at hix
            have HOP := Lib.hid (fun W => impl_op3 va vb W)
            clear ho
            go_enter Tryz.func96, Tryz.ntmps96
            go_wp2
            rw [HW0.out]
            go_region_held3 (fun W => (W.cell? ⟨w.heap.size, 1, none⟩ = some (.int .i64 3) ∧ W.cell? ⟨w.heap.size, 3, none⟩ = some (.slice (some y) 2 cap)) ∧ (W.cell? y = some (.int .i64 ka) ∧ W.cell? { block := y.block, off := y.off + 1 } = some (.int .i64 na) ∧ W.cell? { block := y.block, off := y.off + 2 } = some (.string ta) ∧ W.cell? { block := y.block, off := y.off + 3 } = some (.slice pa Fa.length ca)) ∧ W.cell? { block := y.block, off := y.off + 4 } = some (.int .i64 kb) ∧ W.cell? { block := y.block, off := y.off + 4 + 1 } = some (.int .i64 nb) ∧ W.cell? { block := y.block, off := y.off + 4 + 2 } = some (.string tb) ∧ W.cell? { block := y.block, off := y.off + 4 + 3 } = some (.slice pb Fb.length cb))
              (first
                | go_keep
                | (have hkeep := HF.out _ HB4.out; exact hkeep)
                | (have hkeep := HF.out _ HB3.out; exact hkeep)
                | (have hkeep := HF.out _ HB2.out; exact hkeep)
                | (have hkeep := HF.out _ HB1.out; exact hkeep)
                | fail "no arm")
              (first
                | (go_at_call 153; (with_reducible refine (HOL w0.drew).mono ?_); rintro e w1 ⟨rfl, hb1⟩; have HB1 : Hid (Below w0.heap.size w0 w1) := Below.trans HD.out (hb1.mono HD.out.size); clear hb1)
                | (go_at_call 96; (with_reducible refine (HCA.out w1 HB1.out).mono ?_); rintro e w2 ⟨rfl, hb2⟩; have HB2 : Hid (Below w0.heap.size w0 w2) := Below.trans HB1.out (hb2.mono HB1.out.size); clear hb2)
                | (go_at_call 96; (with_reducible refine (HCB.out w2 HB2.out).mono ?_); rintro e w3 ⟨rfl, hb3⟩; have HB3 : Hid (Below w0.heap.size w0 w3) := Below.trans HB2.out (hb3.mono HB2.out.size); clear hb3)
                | (go_at_call 190; (with_reducible refine (HOP.out w3).mono ?_); rintro e w4 ⟨rfl, rfl⟩; have HB4 := HB3)
                | fail "no arm")
            all_goals
              go_wp2
              go_ret
              exact ⟨rfl, HB0.out.trans (HB3.out.mono HB0.out.size)⟩
          · have hix := ops_at4
            unfold opsV at hix
            have HOP := Lib.hid (fun W => impl_op4 va vb W)
            clear ho
            go_enter Tryz.func96, Tryz.ntmps96
            go_wp2
            rw [HW0.out]
            go_region_held3 (fun W => (W.cell? ⟨w.heap.size, 1, none⟩ = some (.int .i64 4) ∧ W.cell? ⟨w.heap.size, 3, none⟩ = some (.slice (some y) 2 cap)) ∧ (W.cell? y = some (.int .i64 ka) ∧ W.cell? { block := y.block, off := y.off + 1 } = some (.int .i64 na) ∧ W.cell? { block := y.block, off := y.off + 2 } = some (.string ta) ∧ W.cell? { block := y.block, off := y.off + 3 } = some (.slice pa Fa.length ca)) ∧ W.cell? { block := y.block, off := y.off + 4 } = some (.int .i64 kb) ∧ W.cell? { block := y.block, off := y.off + 4 + 1 } = some (.int .i64 nb) ∧ W.cell? { block := y.block, off := y.off + 4 + 2 } = some (.string tb) ∧ W.cell? { block := y.block, off := y.off + 4 + 3 } = some (.slice pb Fb.length cb))
              (first
                | go_keep
                | (have hkeep := HF.out _ HB4.out; exact hkeep)
                | (have hkeep := HF.out _ HB3.out; exact hkeep)
                | (have hkeep := HF.out _ HB2.out; exact hkeep)
                | (have hkeep := HF.out _ HB1.out; exact hkeep)
                | fail "no arm")
              (first
                | (go_at_call 153; (with_reducible refine (HOL w0.drew).mono ?_); rintro e w1 ⟨rfl, hb1⟩; have HB1 : Hid (Below w0.heap.size w0 w1) := Below.trans HD.out (hb1.mono HD.out.size); clear hb1)
                | (go_at_call 96; (with_reducible refine (HCA.out w1 HB1.out).mono ?_); rintro e w2 ⟨rfl, hb2⟩; have HB2 : Hid (Below w0.heap.size w0 w2) := Below.trans HB1.out (hb2.mono HB1.out.size); clear hb2)
                | (go_at_call 96; (with_reducible refine (HCB.out w2 HB2.out).mono ?_); rintro e w3 ⟨rfl, hb3⟩; have HB3 : Hid (Below w0.heap.size w0 w3) := Below.trans HB2.out (hb3.mono HB2.out.size); clear hb3)
                | (go_at_call 191; (with_reducible refine (HOP.out w3).mono ?_); rintro e w4 ⟨rfl, rfl⟩; have HB4 := HB3)
                | fail "no arm")
            all_goals
              go_wp2
              go_ret
              exact ⟨rfl, HB0.out.trans (HB3.out.mono HB0.out.size)⟩
          · have hix := ops_at5
            unfold opsV at hix
            have HOP := Lib.hid (fun W => impl_op5 va vb W)
            clear ho
            go_enter Tryz.func96, Tryz.ntmps96
            go_wp2
            rw [HW0.out]
            go_region_held3 (fun W => (W.cell? ⟨w.heap.size, 1, none⟩ = some (.int .i64 5) ∧ W.cell? ⟨w.heap.size, 3, none⟩ = some (.slice (some y) 2 cap)) ∧ (W.cell? y = some (.int .i64 ka) ∧ W.cell? { block := y.block, off := y.off + 1 } = some (.int .i64 na) ∧ W.cell? { block := y.block, off := y.off + 2 } = some (.string ta) ∧ W.cell? { block := y.block, off := y.off + 3 } = some (.slice pa Fa.length ca)) ∧ W.cell? { block := y.block, off := y.off + 4 } = some (.int .i64 kb) ∧ W.cell? { block := y.block, off := y.off + 4 + 1 } = some (.int .i64 nb) ∧ W.cell? { block := y.block, off := y.off + 4 + 2 } = some (.string tb) ∧ W.cell? { block := y.block, off := y.off + 4 + 3 } = some (.slice pb Fb.length cb))
              (first
                | go_keep
                | (have hkeep := HF.out _ HB4.out; exact hkeep)
                | (have hkeep := HF.out _ HB3.out; exact hkeep)
                | (have hkeep := HF.out _ HB2.out; exact hkeep)
                | (have hkeep := HF.out _ HB1.out; exact hkeep)
                | fail "no arm")
              (first
                | (go_at_call 153; (with_reducible refine (HOL w0.drew).mono ?_); rintro e w1 ⟨rfl, hb1⟩; have HB1 : Hid (Below w0.heap.size w0 w1) := Below.trans HD.out (hb1.mono HD.out.size); clear hb1)
                | (go_at_call 96; (with_reducible refine (HCA.out w1 HB1.out).mono ?_); rintro e w2 ⟨rfl, hb2⟩; have HB2 : Hid (Below w0.heap.size w0 w2) := Below.trans HB1.out (hb2.mono HB1.out.size); clear hb2)
                | (go_at_call 96; (with_reducible refine (HCB.out w2 HB2.out).mono ?_); rintro e w3 ⟨rfl, hb3⟩; have HB3 : Hid (Below w0.heap.size w0 w3) := Below.trans HB2.out (hb3.mono HB2.out.size); clear hb3)
                | (go_at_call 192; (with_reducible refine (HOP.out w3).mono ?_); rintro e w4 ⟨rfl, rfl⟩; have HB4 := HB3)
                | fail "no arm")
            all_goals
              go_wp2
              go_ret
              exact ⟨rfl, HB0.out.trans (HB3.out.mono HB0.out.size)⟩
          · have hix := ops_at6
            unfold opsV at hix
            have HOP := Lib.hid (fun W => impl_op6 va vb W)
            clear ho
            go_enter Tryz.func96, Tryz.ntmps96
            go_wp2
            rw [HW0.out]
            go_region_held3 (fun W => (W.cell? ⟨w.heap.size, 1, none⟩ = some (.int .i64 6) ∧ W.cell? ⟨w.heap.size, 3, none⟩ = some (.slice (some y) 2 cap)) ∧ (W.cell? y = some (.int .i64 ka) ∧ W.cell? { block := y.block, off := y.off + 1 } = some (.int .i64 na) ∧ W.cell? { block := y.block, off := y.off + 2 } = some (.string ta) ∧ W.cell? { block := y.block, off := y.off + 3 } = some (.slice pa Fa.length ca)) ∧ W.cell? { block := y.block, off := y.off + 4 } = some (.int .i64 kb) ∧ W.cell? { block := y.block, off := y.off + 4 + 1 } = some (.int .i64 nb) ∧ W.cell? { block := y.block, off := y.off + 4 + 2 } = some (.string tb) ∧ W.cell? { block := y.block, off := y.off + 4 + 3 } = some (.slice pb Fb.length cb))
              (first
                | go_keep
                | (have hkeep := HF.out _ HB4.out; exact hkeep)
                | (have hkeep := HF.out _ HB3.out; exact hkeep)
                | (have hkeep := HF.out _ HB2.out; exact hkeep)
                | (have hkeep := HF.out _ HB1.out; exact hkeep)
                | fail "no arm")
              (first
                | (go_at_call 153; (with_reducible refine (HOL w0.drew).mono ?_); rintro e w1 ⟨rfl, hb1⟩; have HB1 : Hid (Below w0.heap.size w0 w1) := Below.trans HD.out (hb1.mono HD.out.size); clear hb1)
                | (go_at_call 96; (with_reducible refine (HCA.out w1 HB1.out).mono ?_); rintro e w2 ⟨rfl, hb2⟩; have HB2 : Hid (Below w0.heap.size w0 w2) := Below.trans HB1.out (hb2.mono HB1.out.size); clear hb2)
                | (go_at_call 96; (with_reducible refine (HCB.out w2 HB2.out).mono ?_); rintro e w3 ⟨rfl, hb3⟩; have HB3 : Hid (Below w0.heap.size w0 w3) := Below.trans HB2.out (hb3.mono HB2.out.size); clear hb3)
                | (go_at_call 193; (with_reducible refine (HOP.out w3).mono ?_); rintro e w4 ⟨rfl, rfl⟩; have HB4 := HB3)
                | fail "no arm")
            all_goals
              go_wp2
              go_ret
              exact ⟨rfl, HB0.out.trans (HB3.out.mono HB0.out.size)⟩
          · have hix := ops_at7
            unfold opsV at hix
            have HOP := Lib.hid (fun W => impl_op7 va vb W)
            clear ho
            go_enter Tryz.func96, Tryz.ntmps96
            go_wp2
            rw [HW0.out]
            go_region_held3 (fun W => (W.cell? ⟨w.heap.size, 1, none⟩ = some (.int .i64 7) ∧ W.cell? ⟨w.heap.size, 3, none⟩ = some (.slice (some y) 2 cap)) ∧ (W.cell? y = some (.int .i64 ka) ∧ W.cell? { block := y.block, off := y.off + 1 } = some (.int .i64 na) ∧ W.cell? { block := y.block, off := y.off + 2 } = some (.string ta) ∧ W.cell? { block := y.block, off := y.off + 3 } = some (.slice pa Fa.length ca)) ∧ W.cell? { block := y.block, off := y.off + 4 } = some (.int .i64 kb) ∧ W.cell? { block := y.block, off := y.off + 4 + 1 } = some (.int .i64 nb) ∧ W.cell? { block := y.block, off := y.off + 4 + 2 } = some (.string tb) ∧ W.cell? { block := y.block, off := y.off + 4 + 3 } = some (.slice pb Fb.length cb))
              (first
                | go_keep
                | (have hkeep := HF.out _ HB4.out; exact hkeep)
                | (have hkeep := HF.out _ HB3.out; exact hkeep)
                | (have hkeep := HF.out _ HB2.out; exact hkeep)
                | (have hkeep := HF.out _ HB1.out; exact hkeep)
                | fail "no arm")
              (first
                | (go_at_call 153; (with_reducible refine (HOL w0.drew).mono ?_); rintro e w1 ⟨rfl, hb1⟩; have HB1 : Hid (Below w0.heap.size w0 w1) := Below.trans HD.out (hb1.mono HD.out.size); clear hb1)
                | (go_at_call 96; (with_reducible refine (HCA.out w1 HB1.out).mono ?_); rintro e w2 ⟨rfl, hb2⟩; have HB2 : Hid (Below w0.heap.size w0 w2) := Below.trans HB1.out (hb2.mono HB1.out.size); clear hb2)
                | (go_at_call 96; (with_reducible refine (HCB.out w2 HB2.out).mono ?_); rintro e w3 ⟨rfl, hb3⟩; have HB3 : Hid (Below w0.heap.size w0 w3) := Below.trans HB2.out (hb3.mono HB2.out.size); clear hb3)
                | (go_at_call 194; (with_reducible refine (HOP.out w3).mono ?_); rintro e w4 ⟨rfl, rfl⟩; have HB4 := HB3)
                | fail "no arm")
            all_goals
              go_wp2
              go_ret
              exact ⟨rfl, HB0.out.trans (HB3.out.mono HB0.out.size)⟩
  · cases F with
    | nil => cases hl1
    | cons ka na ta Fa R =>
      cases R with
      | cons _ _ _ _ _ => simp [Trees.length] at hl1
      | nil =>
        have e : nodeI env 4 n t (Trees.vals env (.cons ka na ta Fa .nil)) = bit (nodeI env ka na ta (Fa.vals env) == 0) := rfl
        rw [e]
        simp only [Trees.formedE, Bool.and_eq_true] at hfm
        simp only [Trees.count] at hc
        rw [show (Trees.length (.cons ka na ta Fa .nil)) = 1 from rfl] at *
        obtain ⟨y, pa, ca, rfl, a0, a1, a2, a3, hsa, _⟩ := (hx.below hB0).open
        have HCA := Lib.hid (hall.1 hfm.2.1 (by omega) _ ka na ta pa ca hfm.1 hsa (hbe.below hB0))
        generalize nodeI env ka na ta (Fa.vals env) = va at *
        have HBT := Lib.hid (fun W => impl_truth (va == 0) W)
        generalize hq : (va == 0) = q at *
        have a0' : (w.alloc (.cells #[.int .i64 4, .int .i64 n, .string t, .slice (some y) 1 cap] 54)).cell? y = some (.int .i64 ka) := a0
        have a1' : (w.alloc (.cells #[.int .i64 4, .int .i64 n, .string t, .slice (some y) 1 cap] 54)).cell? { block := y.block, off := y.off + 1 } = some (.int .i64 na) := a1
        have a2' : (w.alloc (.cells #[.int .i64 4, .int .i64 n, .string t, .slice (some y) 1 cap] 54)).cell? { block := y.block, off := y.off + 2 } = some (.string ta) := a2
        have a3' : (w.alloc (.cells #[.int .i64 4, .int .i64 n, .string t, .slice (some y) 1 cap] 54)).cell? { block := y.block, off := y.off + 3 } = some (.slice pa Fa.length ca) := a3
        clear hall hx e hfm hc hpf hB0 hsa a0 a1 a2 a3 hl1 hbe hm
        go_enter Tryz.func96, Tryz.ntmps96
        go_wp2_with fail
        refine HCA.out.mono ?_
        rintro e w1 ⟨rfl, hb1⟩
        have HB1 : Hid (Below w.heap.size w w1) := HB0.out.trans (hb1.mono HB0.out.size)
        clear a0' a1' a2' a3' HCA hb1
        go_wp2_with fail
        refine (HBT.out w1).mono ?_
        rintro e w2 ⟨rfl, rfl⟩
        clear HBT
        go_wp2
        go_ret
        exact ⟨rfl, HB1.out⟩

set_option maxHeartbeats 1000000 in
set_option maxRecDepth 100000 in
theorem impl_eval (env : List BindD) (hm : env.length ≤ 1048576) (ae : Option Addr) (ce : Nat) (w : World) (k n : Int) (t : ByteArray) (F : Trees) (p : Option Addr) (c : Nat) (hfv : F.fits) (hfc : F.count ≤ 1048576) (ht : t.size ≤ maxLen) (hx : TreesAt w F p 0) (hcap : F.length ≤ c) (hbe : BindsAt w env ae 0) :
    Calls Tryz.prog 41 #[.agg #[.int .i64 k, .int .i64 n, .string t, .slice p F.length c], .slice ae env.length ce] w fun e w' => e = .returned (.int .i64 (exprV env k n t F)) ∧ Below w.heap.size w w' := by
  have hB0 : Below w.heap.size w (w.alloc (.cells #[.int .i64 k, .int .i64 n, .string t, .slice p F.length c] 54)) := (Below.refl _ _).alloc (Nat.le_refl _) _
  obtain ⟨c0, c1, c2, c3, _⟩ := four_cells (heap_at_new w (.cells #[.int .i64 k, .int .i64 n, .string t, .slice p F.length c] 54))
  have HX := Lib.hid (hx.below hB0)
  have HBE := Lib.hid (hbe.below hB0)
  obtain ⟨w0, hw0⟩ : ∃ w0, w0 = w.alloc (.cells #[.int .i64 k, .int .i64 n, .string t, .slice p F.length c] 54) := ⟨_, rfl⟩
  rw [← hw0] at HX HBE hB0 c0 c1 c2 c3
  have HW0 := Lib.hid hw0
  have HB0 := Lib.hid hB0
  have HV := Lib.hid (impl_valid_expr w0 k n t F p c hfv hfc ht HX.out hcap)
  have HP : Hid (validExpr k n t F = true → F.formedE = true ∧ exprForm k n t F.length = true) := fun h => by
    unfold validExpr at h
    simp only [Bool.and_eq_true] at h
    exact ⟨h.2.2, h.2.1⟩
  unfold exprV
  cases hv : validExpr k n t F with
  | false =>
    rw [hv] at HV
    rw [if_neg (by simp)]
    clear hcap hw0 hB0 hx hfv hfc ht hv hbe hm
    go_enter Tryz.func41, Tryz.ntmps41
    go_wp2_with fail
    rw [← HW0.out]
    refine HV.out.mono ?_
    rintro e w1 ⟨rfl, hb1⟩
    have HB1 := Lib.hid hb1
    clear hb1
    go_wp2
    go_ret
    exact ⟨rfl, HB0.out.trans (HB1.out.mono HB0.out.size)⟩
  | true =>
    obtain ⟨h1, h2⟩ := HP.out hv
    rw [hv] at HV
    rw [if_pos rfl]
    have HT := Lib.hid (fun W (hb : Below w0.heap.size w0 W) => impl_eval_tree env hm ae ce F h1 hfc W k n t p c h2 (HX.out.below hb) (HBE.out.below hb))
    generalize nodeI env k n t (F.vals env) = u at *
    clear hcap hw0 hB0 hx hfv hfc ht hv h1 h2 HP hbe hm
    go_enter Tryz.func41, Tryz.ntmps41
    go_wp2_with fail
    rw [← HW0.out]
    refine HV.out.mono ?_
    rintro e w1 ⟨rfl, hb1⟩
    have HB1 := Lib.hid hb1
    have c0 := cell_below c0 hb1
    have c1 := cell_below c1 hb1
    have c2 := cell_below c2 hb1
    have c3 := cell_below c3 hb1
    clear hb1
    go_wp2_with fail
    refine (HT.out w1 HB1.out).mono ?_
    rintro e w2 ⟨rfl, hb2⟩
    have HB2 : Hid (Below w0.heap.size w0 w2) := HB1.out.trans (hb2.mono HB1.out.size)
    clear hb2
    go_wp2
    go_ret
    exact ⟨rfl, HB0.out.trans (HB2.out.mono HB0.out.size)⟩
end Go.Proofs.YtijbaienhaiamaaGreatDoor.Ex
end
