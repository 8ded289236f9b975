/- What is proved here: a piece of the proof of YtijbaienhaiamaaGreatDoorGuards (ExSpecEval, NewTexts, OutTexts, Vars, ExVars, Sorted, ImplSort, SortNil). Condition: none beyond what each part says. -/
import Derived.Test.YtijbaienhaiamaaGreatDoorGu22
import Derived.Test.YtijbaienhaiamaaGreatDoorGu09
import Derived.Test.YtijbaienhaiamaaGreatDoorGu02
import Derived.Test.YtijbaienhaiamaaGreatDoorGu01
import Derived.Test.YtijbaienhaiamaaGreatDoorGu04
import Derived.Test.YtijbaienhaiamaaGreatDoorGu08
import Derived.Lib.RowBridge
import Derived.Lib.SlicesCompact
import Derived.Test.YtijbaienhaiamaaGreatDoorGu12
import Derived.Sort.OwnSorted
import Derived.Sort.Grow
import Derived.Lib.OwnBridge

/- What is proved here: the model's EvalExpr gives the value of an expression. Conditions: expression and bindings lie in memory as said, and are small. -/
section
namespace Go.Proofs.YtijbaienhaiamaaGreatDoor.Ex
open Go.RowKit

set_option maxRecDepth 100000 in
theorem spec_bit (b : Bool) (w : World) :
    Calls Tryz.prog 156 #[.bool b] w fun e w' => e = .returned (.int .i64 (bit b)) ∧ w' = w := by
  cases b with
  | false =>
    go_enter Tryz.func156, Tryz.ntmps156
    go_wp2
    go_ret
    exact ⟨rfl, rfl⟩
  | true =>
    go_enter Tryz.func156, Tryz.ntmps156
    go_wp2
    go_ret
    exact ⟨rfl, rfl⟩

set_option maxHeartbeats 1000000 in
set_option maxRecDepth 100000 in
theorem spec_op (n a b : Int) (h : inOp n = true) (w : World) :
    Calls Tryz.prog 157 #[.int .i64 n, .int .i64 a, .int .i64 b] w fun e w' => e = .returned (.int .i64 (opV n a b)) ∧ w' = w := by
  have HB := spec_bit
  rcases (inOp_iff n).1 h with rfl | rfl | rfl | rfl | rfl | rfl | rfl
  · have HE : Hid (opV 1 a b = wrap64 (a + b)) := rfl
    go_enter Tryz.func157, Tryz.ntmps157
    go_wp2
    go_ret
    exact ⟨by rw [HE.out]; rfl, rfl⟩
  · have HE : Hid (opV 2 a b = wrap64 (a - b)) := rfl
    go_enter Tryz.func157, Tryz.ntmps157
    go_wp2
    go_ret
    exact ⟨by rw [HE.out]; rfl, rfl⟩
  · have HE : Hid (opV 3 a b = wrap64 (a * b)) := rfl
    go_enter Tryz.func157, Tryz.ntmps157
    go_wp2
    go_ret
    exact ⟨by rw [HE.out]; rfl, rfl⟩
  · have HE : Hid (opV 4 a b = bit (decide (a < b))) := rfl
    generalize hp : decide (a < b) = p at *
    go_enter Tryz.func157, Tryz.ntmps157
    go_wp2_with fail
    refine (HB p _).mono ?_
    rintro e w1 ⟨rfl, rfl⟩
    clear hp
    go_wp2
    go_ret
    exact ⟨by rw [HE.out]; rfl, rfl⟩
  · have HE : Hid (opV 5 a b = bit (a == b)) := rfl
    generalize hp : (a == b) = p at *
    go_enter Tryz.func157, Tryz.ntmps157
    go_wp2_with fail
    refine (HB p _).mono ?_
    rintro e w1 ⟨rfl, rfl⟩
    clear hp
    go_wp2
    go_ret
    exact ⟨by rw [HE.out]; rfl, rfl⟩
  · have HE : Hid (opV 6 a b = bit ((a != 0) && (b != 0))) := rfl
    generalize hp : (a != 0) = p at *
    generalize hq : (b != 0) = q at *
    generalize opV 6 a b = z at *
    cases p with
    | false =>
      have HZ : Hid (z = bit false) := HE.out
      go_enter Tryz.func157, Tryz.ntmps157
      go_wp2_with fail
      refine (HB false _).mono ?_
      rintro e w1 ⟨rfl, rfl⟩
      go_wp2
      go_ret
      exact ⟨by rw [HZ.out]; rfl, rfl⟩
    | true =>
      have HZ : Hid (z = bit q) := HE.out
      go_enter Tryz.func157, Tryz.ntmps157
      go_wp2_with fail
      refine (HB q _).mono ?_
      rintro e w1 ⟨rfl, rfl⟩
      go_wp2
      go_ret
      exact ⟨by rw [HZ.out]; rfl, rfl⟩
  · have HE : Hid (opV 7 a b = bit ((a != 0) || (b != 0))) := rfl
    generalize hp : (a != 0) = p at *
    generalize hq : (b != 0) = q at *
    generalize opV 7 a b = z at *
    cases p with
    | false =>
      have HZ : Hid (z = bit q) := HE.out
      go_enter Tryz.func157, Tryz.ntmps157
      go_wp2_with fail
      refine (HB q _).mono ?_
      rintro e w1 ⟨rfl, rfl⟩
      go_wp2
      go_ret
      exact ⟨by rw [HZ.out]; rfl, rfl⟩
    | true =>
      have HZ : Hid (z = bit true) := by unfold Hid; rw [HE.out]; rfl
      go_enter Tryz.func157, Tryz.ntmps157
      go_wp2_with fail
      refine (HB true _).mono ?_
      rintro e w1 ⟨rfl, rfl⟩
      go_wp2
      go_ret
      exact ⟨by rw [HZ.out]; rfl, rfl⟩

set_option maxHeartbeats 1000000 in
set_option maxRecDepth 100000 in
theorem spec_var (env : List BindD) (hm : env.length ≤ 1048576) (t : ByteArray) (w : World) (a : Option Addr) (cap : Nat) (hx : BindsAt w env a 0) :
    Calls Tryz.prog 155 #[.slice a env.length cap, .string t] w fun e w' => e = .returned (.int .i64 (varV env t)) ∧ w' = w := by
  have HX := Lib.hid hx
  obtain ⟨z, hz⟩ : ∃ z, varV env t = z := ⟨_, rfl⟩
  rw [hz]
  have HZ := Lib.hid hz
  generalize hn : env.length = n at *
  have HN := Lib.hid hn
  clear hx hz hn
  go_enter Tryz.func155, Tryz.ntmps155
  go_wp2
  go_loopw [5] (fun i wr => ∃ (k : Nat) (rest : List BindD), i = .int .i64 k ∧ k + rest.length = n ∧ Hid (varV rest t = z) ∧ Hid (BindsAt w rest a k) ∧ wr = w) (fun i _ => n - (intOf i).toNat)
  case atStart => exact ⟨0, env, rfl, by rw [HN.out]; omega, HZ, HX, rfl⟩
  case round =>
    obtain ⟨k, rest, rfl, hkn, hzr, hxr, rfl⟩ := hrel
    cases rest with
    | cons x r =>
      have hkl : k < n := by simp only [List.length_cons] at hkn; omega
      have hkn2 : k + 1 + r.length = n := by simp only [List.length_cons] at hkn; omega
      obtain ⟨⟨y, p, cp, rfl, h1, h2, h3, h4, h5, _, _⟩, hr⟩ := hxr.out
      have hxr2 := Lib.hid hr
      have hz2 := hzr.out
      unfold varV at hz2
      have h3' : wr.cell? { block := (y.add (k * 5)).block, off := (y.add (k * 5)).off + 1 + 1 } = some (.int .i64 x.n) := h3
      obtain ⟨nm, kd, nu, tx, F⟩ := x
      clear hzr hxr hr hkn h3 h4 h5
      dsimp only at *
      generalize hq : (nm.toList == t.toList) = q at *
      cases q with
      | false =>
        have HZ2 : Hid (varV r t = z) := by unfold Hid; simpa using hz2
        clear hz2
        go_wp2
        go_roundw
        case rel => exact ⟨k + 1, r, by go_num, hkn2, HZ2, hxr2, by trivial⟩
        case measure => simp [intOf]; omega
      | true =>
        rw [if_pos rfl] at hz2
        generalize hk1 : (kd == 1) = c at *
        cases c with
        | false =>
          have HZ2 : Hid (z = 0) := by unfold Hid; simpa using hz2.symm
          clear hz2
          go_wp2
          go_ret
          exact ⟨by rw [HZ2.out]; rfl, rfl⟩
        | true =>
          have HZ2 : Hid (z = nu) := by unfold Hid; simpa using hz2.symm
          clear hz2
          go_wp2
          go_ret
          exact ⟨by rw [HZ2.out]; rfl, rfl⟩
    | nil =>
      obtain rfl : k = n := by simp only [List.length_nil] at hkn; omega
      have HZ2 : Hid (z = 0) := hzr.out.symm
      clear hzr hxr
      go_wp2
      go_ret
      exact ⟨by rw [HZ2.out]; rfl, rfl⟩

set_option maxHeartbeats 4000000 in
set_option maxRecDepth 100000 in
theorem spec_eval_tree (env : List BindD) (hm : env.length ≤ 1048576) (ae : Option Addr) (ce : Nat) : ∀ G : Trees, G.formedE = true → G.count ≤ 1048576 → ∀ (w : World) (k n : Int) (t : ByteArray) (p : Option Addr) (cap : Nat), exprForm k n t G.length = true → TreesAt w G p 0 → BindsAt w env ae 0 →
    Calls Tryz.prog 98 #[.agg #[.int .i64 k, .int .i64 n, .string t, .slice p G.length cap], .slice ae env.length ce] w fun e w' => e = .returned (.int .i64 (nodeI env k n t (G.vals env))) ∧ Below w.heap.size w w' := by
  refine Trees.ind fun F hall hfm hc w k n t p cap hpf hx hbe => ?_
  have hB0 : Below w.heap.size w (w.alloc (.cells #[.int .i64 k, .int .i64 n, .string t, .slice p F.length cap] 54)) := (Below.refl _ _).alloc (Nat.le_refl _) _
  have HB0 := Lib.hid hB0
  obtain ⟨c0, c1, c2, c3, _⟩ := four_cells (heap_at_new w (.cells #[.int .i64 k, .int .i64 n, .string t, .slice p F.length cap] 54))
  rcases (exprForm_iff k n t F.length).1 hpf with ⟨rfl, hi, -⟩ | ⟨rfl, -, -, -⟩ | ⟨rfl, ho, -, hl2⟩ | ⟨rfl, -, -, hl1⟩
  · have e : nodeI env 1 n t (F.vals env) = n := rfl
    rw [e]
    clear hall hx hB0 e hfm hc hpf hi hbe hm
    go_enter Tryz.func98, Tryz.ntmps98
    go_wp2
    go_ret
    exact ⟨rfl, HB0.out⟩
  · have e : nodeI env 2 n t (F.vals env) = varV env t := rfl
    rw [e]
    have HV := spec_var env hm t _ ae ce (hbe.below hB0)
    generalize varV env t = z at *
    clear hall hx hB0 e hfm hc hpf hbe
    go_enter Tryz.func98, Tryz.ntmps98
    go_wp2_with fail
    refine HV.mono ?_
    rintro e w1 ⟨rfl, rfl⟩
    clear HV
    go_wp2
    go_ret
    exact ⟨rfl, HB0.out⟩
  · cases F with
    | nil => cases hl2
    | cons ka na ta Fa R =>
      cases R with
      | nil => cases hl2
      | cons kb nb tb Fb R2 =>
        cases R2 with
        | cons _ _ _ _ _ => simp [Trees.length] at hl2
        | nil =>
          have e : nodeI env 3 n t (Trees.vals env (.cons ka na ta Fa (.cons kb nb tb Fb .nil))) = opV n (nodeI env ka na ta (Fa.vals env)) (nodeI env kb nb tb (Fb.vals env)) := rfl
          rw [e]
          simp only [Trees.formedE, Bool.and_eq_true] at hfm
          simp only [Trees.count] at hc
          rw [show (Trees.length (.cons ka na ta Fa (.cons kb nb tb Fb .nil))) = 2 from rfl] at *
          obtain ⟨y, pa, ca, rfl, a0, a1, a2, a3, hsa, hxb⟩ := (hx.below hB0).open
          obtain ⟨y', pb, cb, e', b0, b1, b2, b3, hsb, _⟩ := hxb.open
          cases e'
          have HBE := Lib.hid (hbe.below hB0)
          have HCA := Lib.hid (fun W (hb : Below (w.alloc (.cells #[.int .i64 3, .int .i64 n, .string t, .slice (some y) 2 cap] 54)).heap.size (w.alloc (.cells #[.int .i64 3, .int .i64 n, .string t, .slice (some y) 2 cap] 54)) W) => hall.1 hfm.2.1 (by omega) W ka na ta pa ca hfm.1 (hsa.below hb) (HBE.out.below hb))
          have HCB := Lib.hid (fun W (hb : Below (w.alloc (.cells #[.int .i64 3, .int .i64 n, .string t, .slice (some y) 2 cap] 54)).heap.size (w.alloc (.cells #[.int .i64 3, .int .i64 n, .string t, .slice (some y) 2 cap] 54)) W) => hall.2.1 hfm.2.2.2.1 (by omega) W kb nb tb pb cb hfm.2.2.1 (hsb.below hb) (HBE.out.below hb))
          have HOP := Lib.hid (fun a b W => spec_op n a b ho W)
          generalize nodeI env ka na ta (Fa.vals env) = va at *
          generalize nodeI env kb nb tb (Fb.vals env) = vb at *
          generalize hw0 : w.alloc (.cells #[.int .i64 3, .int .i64 n, .string t, .slice (some y) 2 cap] 54) = w0 at *
          have HW0 := Lib.hid hw0
          have a0' : w0.cell? y = some (.int .i64 ka) := a0
          have a1' : w0.cell? { block := y.block, off := y.off + 1 } = some (.int .i64 na) := a1
          have a2' : w0.cell? { block := y.block, off := y.off + 2 } = some (.string ta) := a2
          have a3' : w0.cell? { block := y.block, off := y.off + 3 } = some (.slice pa Fa.length ca) := a3
          have HF : Hid (∀ W, Below w0.heap.size w0 W → (W.cell? ⟨w.heap.size, 1, none⟩ = some (.int .i64 n) ∧ W.cell? ⟨w.heap.size, 3, none⟩ = some (.slice (some y) 2 cap)) ∧ W.cell? { block := y.block, off := y.off + 4 } = some (.int .i64 kb) ∧ W.cell? { block := y.block, off := y.off + 4 + 1 } = some (.int .i64 nb) ∧ W.cell? { block := y.block, off := y.off + 4 + 2 } = some (.string tb) ∧ W.cell? { block := y.block, off := y.off + 4 + 3 } = some (.slice pb Fb.length cb)) := fun W hb => ⟨⟨cell_below c1 hb, cell_below c3 hb⟩, cell_below b0 hb, cell_below b1 hb, cell_below b2 hb, cell_below b3 hb⟩
          subst hw0
          clear hall hx e hfm hc hpf hB0 hsa hsb hxb a0 a1 a2 a3 b0 b1 b2 b3 hl2 ho hbe HBE hm
          go_enter Tryz.func98, Tryz.ntmps98
          go_wp2_with fail
          refine (HCA.out _ (Below.refl _ _)).mono ?_
          rintro e w1 ⟨rfl, hb1⟩
          have HB1 := Lib.hid hb1
          obtain ⟨⟨c1, c3⟩, b0', b1', b2', b3'⟩ := HF.out w1 hb1
          clear hb1 HCA a0' a1' a2' a3'
          go_wp2_with fail
          refine (HCB.out _ HB1.out).mono ?_
          rintro e w2 ⟨rfl, hb2⟩
          have hb2' := HB1.out.trans (hb2.mono HB1.out.size)
          have HB2 := Lib.hid hb2'
          obtain ⟨⟨c1, c3⟩, _⟩ := HF.out w2 hb2'
          clear hb2 hb2' HCB b0' b1' b2' b3'
          go_wp2_with fail
          refine (HOP.out va vb w2).mono ?_
          rintro e w3 ⟨rfl, rfl⟩
          clear HOP HF
          go_wp2
          go_ret
          exact ⟨rfl, HB0.out.trans (HB2.out.mono HB0.out.size)⟩
  · cases F with
    | nil => cases hl1
    | cons ka na ta Fa R =>
      cases R with
      | cons _ _ _ _ _ => simp [Trees.length] at hl1
      | nil =>
        have e : nodeI env 4 n t (Trees.vals env (.cons ka na ta Fa .nil)) = bit (nodeI env ka na ta (Fa.vals env) == 0) := rfl
        rw [e]
        simp only [Trees.formedE, Bool.and_eq_true] at hfm
        simp only [Trees.count] at hc
        rw [show (Trees.length (.cons ka na ta Fa .nil)) = 1 from rfl] at *
        obtain ⟨y, pa, ca, rfl, a0, a1, a2, a3, hsa, _⟩ := (hx.below hB0).open
        have HCA := Lib.hid (hall.1 hfm.2.1 (by omega) _ ka na ta pa ca hfm.1 hsa (hbe.below hB0))
        generalize nodeI env ka na ta (Fa.vals env) = va at *
        have HBT := Lib.hid (fun W => spec_bit (va == 0) W)
        generalize hq : (va == 0) = q at *
        have a0' : (w.alloc (.cells #[.int .i64 4, .int .i64 n, .string t, .slice (some y) 1 cap] 54)).cell? y = some (.int .i64 ka) := a0
        have a1' : (w.alloc (.cells #[.int .i64 4, .int .i64 n, .string t, .slice (some y) 1 cap] 54)).cell? { block := y.block, off := y.off + 1 } = some (.int .i64 na) := a1
        have a2' : (w.alloc (.cells #[.int .i64 4, .int .i64 n, .string t, .slice (some y) 1 cap] 54)).cell? { block := y.block, off := y.off + 2 } = some (.string ta) := a2
        have a3' : (w.alloc (.cells #[.int .i64 4, .int .i64 n, .string t, .slice (some y) 1 cap] 54)).cell? { block := y.block, off := y.off + 3 } = some (.slice pa Fa.length ca) := a3
        clear hall hx e hfm hc hpf hB0 hsa a0 a1 a2 a3 hl1 hbe hm
        go_enter Tryz.func98, Tryz.ntmps98
        go_wp2_with fail
        refine HCA.out.mono ?_
        rintro e w1 ⟨rfl, hb1⟩
        have HB1 : Hid (Below w.heap.size w w1) := HB0.out.trans (hb1.mono HB0.out.size)
        clear a0' a1' a2' a3' HCA hb1
        go_wp2_with fail
        refine (HBT.out w1).mono ?_
        rintro e w2 ⟨rfl, rfl⟩
        clear HBT
        go_wp2
        go_ret
        exact ⟨rfl, HB1.out⟩

set_option maxHeartbeats 1000000 in
set_option maxRecDepth 100000 in
theorem spec_eval (env : List BindD) (hm : env.length ≤ 1048576) (ae : Option Addr) (ce : Nat) (w : World) (k n : Int) (t : ByteArray) (F : Trees) (p : Option Addr) (c : Nat) (hfv : F.fits) (hfc : F.count ≤ 1048576) (ht : t.size ≤ maxLen) (hx : TreesAt w F p 0) (hbe : BindsAt w env ae 0) :
    Calls Tryz.prog 44 #[.agg #[.int .i64 k, .int .i64 n, .string t, .slice p F.length c], .slice ae env.length ce] w fun e w' => e = .returned (.int .i64 (exprV env k n t F)) ∧ Below w.heap.size w w' := by
  have hB0 : Below w.heap.size w (w.alloc (.cells #[.int .i64 k, .int .i64 n, .string t, .slice p F.length c] 54)) := (Below.refl _ _).alloc (Nat.le_refl _) _
  obtain ⟨c0, c1, c2, c3, _⟩ := four_cells (heap_at_new w (.cells #[.int .i64 k, .int .i64 n, .string t, .slice p F.length c] 54))
  have HX := Lib.hid (hx.below hB0)
  have HBE := Lib.hid (hbe.below hB0)
  obtain ⟨w0, hw0⟩ : ∃ w0, w0 = w.alloc (.cells #[.int .i64 k, .int .i64 n, .string t, .slice p F.length c] 54) := ⟨_, rfl⟩
  rw [← hw0] at HX HBE hB0 c0 c1 c2 c3
  have HW0 := Lib.hid hw0
  have HB0 := Lib.hid hB0
  have HV := Lib.hid (spec_valid_expr w0 k n t F p c hfv hfc ht HX.out)
  have HP : Hid (validExpr k n t F = true → F.formedE = true ∧ exprForm k n t F.length = true) := fun h => by
    unfold validExpr at h
    simp only [Bool.and_eq_true] at h
    exact ⟨h.2.2, h.2.1⟩
  unfold exprV
  cases hv : validExpr k n t F with
  | false =>
    rw [hv] at HV
    rw [if_neg (by simp)]
    clear hw0 hB0 hx hfv hfc ht hv hbe hm
    go_enter Tryz.func44, Tryz.ntmps44
    go_wp2_with fail
    rw [← HW0.out]
    refine HV.out.mono ?_
    rintro e w1 ⟨rfl, hb1⟩
    have HB1 := Lib.hid hb1
    clear hb1
    go_wp2
    go_ret
    exact ⟨rfl, HB0.out.trans (HB1.out.mono HB0.out.size)⟩
  | true =>
    obtain ⟨h1, h2⟩ := HP.out hv
    rw [hv] at HV
    rw [if_pos rfl]
    have HT := Lib.hid (fun W (hb : Below w0.heap.size w0 W) => spec_eval_tree env hm ae ce F h1 hfc W k n t p c h2 (HX.out.below hb) (HBE.out.below hb))
    generalize nodeI env k n t (F.vals env) = u at *
    clear hw0 hB0 hx hfv hfc ht hv h1 h2 HP hbe hm
    go_enter Tryz.func44, Tryz.ntmps44
    go_wp2_with fail
    rw [← HW0.out]
    refine HV.out.mono ?_
    rintro e w1 ⟨rfl, hb1⟩
    have HB1 := Lib.hid hb1
    have c0 := cell_below c0 hb1
    have c1 := cell_below c1 hb1
    have c2 := cell_below c2 hb1
    have c3 := cell_below c3 hb1
    clear hb1
    go_wp2_with fail
    refine (HT.out w1 HB1.out).mono ?_
    rintro e w2 ⟨rfl, hb2⟩
    have HB2 : Hid (Below w0.heap.size w0 w2) := HB1.out.trans (hb2.mono HB1.out.size)
    clear hb2
    go_wp2
    go_ret
    exact ⟨rfl, HB0.out.trans (HB2.out.mono HB0.out.size)⟩
end Go.Proofs.YtijbaienhaiamaaGreatDoor.Ex
end

/- What is proved here: what it is for a new slice of texts to come back. No condition. -/
section
namespace Go.Proofs.YtijbaienhaiamaaGreatDoor
open Go.RowKit

/-- A new slice that reads as the texts xs, in a block of its own. -/
def NewTexts (w : World) (xs : List ByteArray) (e : Ending) (w' : World) : Prop :=
  ∃ g, w.heap.size ≤ g ∧ e = .returned (.slice (some ⟨g, 0, none⟩) xs.length xs.length) ∧ w'.heap[g]? = some (.cells (xs.map Value.string).toArray 9 (0, 0)) ∧ Below w.heap.size w w'

end Go.Proofs.YtijbaienhaiamaaGreatDoor
end

/- What is proved here: texts that come back in a block of the call's own with room behind them. No condition. -/
section
namespace Go.Proofs.YtijbaienhaiamaaGreatDoor
open Go.RowKit

/-- A slice of the texts ys in a block of the call's own comes back; nothing that was there has changed. -/
def OutTexts (w : World) (ys : List ByteArray) (e : Ending) (w' : World) : Prop :=
  ∃ g cap rest, w.heap.size ≤ g ∧ e = .returned (.slice (some ⟨g, 0, none⟩) ys.length cap) ∧ Block w' g ys rest ∧ Below w.heap.size w w'
theorem out_new {w w' : World} {ys : List ByteArray} {e : Ending} (h : NewTexts w ys e w') : OutTexts w ys e w' := by
  obtain ⟨g, hg, he, hb, hB⟩ := h
  exact ⟨g, _, [], hg, he, by unfold Block; rw [List.append_nil]; exact hb, hB⟩
end Go.Proofs.YtijbaienhaiamaaGreatDoor
end

/- What is proved here: the names of a pattern's variables in the order in which a walk over all nodes meets them (pure); what comes back of sorting. No condition. -/
section
namespace Go.Proofs.YtijbaienhaiamaaGreatDoor
open Go.RowKit

/-- The name that a node binds. -/
def nodeVars (k : Int) (t : ByteArray) : List ByteArray := if k = 2 ∨ k = 7 then [t] else []
def Trees.vars : Trees → List ByteArray
  | .nil => []
  | .cons k _ t ar r => nodeVars k t ++ (ar.vars ++ r.vars)
def partVars (x : Part) : List ByteArray := nodeVars x.2.1 x.2.2.2.1
theorem pre_vars (F : Trees) : ∀ d, (F.pre d).flatMap partVars = F.vars := by
  induction F with
  | nil => intro d; rfl
  | cons k n t ar r ih1 ih2 => intro d; simp only [Trees.pre, Trees.vars, List.flatMap_cons, List.flatMap_append, ih1, ih2]; rfl
theorem seq_vars (k n : Int) (t : ByteArray) (F : Trees) : ((1, k, n, t, F.length) :: F.pre 2 : List Part).flatMap partVars = nodeVars k t ++ F.vars := by
  rw [List.flatMap_cons, pre_vars]
  rfl
theorem take_vars (l : List Part) (j : Nat) (x : Part) (h : l[j]? = some x) : (l.take (j + 1)).flatMap partVars = (l.take j).flatMap partVars ++ partVars x := by
  obtain ⟨hj, rfl⟩ := List.getElem?_eq_some_iff.1 h
  rw [List.take_succ_eq_append_getElem hj, List.flatMap_append]
  simp
theorem nodeVars_len (k : Int) (t : ByteArray) : (nodeVars k t).length ≤ 1 := by unfold nodeVars; split <;> simp
theorem vars_len (F : Trees) : F.vars.length ≤ F.count := by
  induction F with
  | nil => simp [Trees.vars, Trees.count]
  | cons k n t ar r ih1 ih2 =>
    have := nodeVars_len k t
    simp only [Trees.vars, Trees.count, List.length_append]
    omega
theorem take_vars_len (l : List Part) (j : Nat) : ((l.take j).flatMap partVars).length ≤ j := by
  induction j with
  | zero => simp
  | succ j ih =>
    by_cases h : j < l.length
    · rw [take_vars l j _ (List.getElem?_eq_getElem h), List.length_append]
      have h2 : (partVars l[j]).length ≤ 1 := nodeVars_len _ _
      omega
    · rw [List.take_of_length_le (by omega)]
      rw [List.take_of_length_le (by omega)] at ih
      omega
/-- A slice of the texts ys comes back, nil or in a block of the call's own. -/
def OutT (w : World) (ys : List ByteArray) (e : Ending) (w' : World) : Prop := OutTexts w ys e w' ∨ (ys = [] ∧ e = .returned (.slice none 0 0) ∧ Below w.heap.size w w')
end Go.Proofs.YtijbaienhaiamaaGreatDoor
end

/- What is proved here: the names of an expression's variables in the order in which a walk over all nodes meets them (pure); what comes back of sorting. No condition. -/
section
namespace Go.Proofs.YtijbaienhaiamaaGreatDoor
open Go.RowKit

/-- The name that a node binds. -/
def nodeVarsE (k : Int) (t : ByteArray) : List ByteArray := if k = 2 then [t] else []
def Trees.varsE : Trees → List ByteArray
  | .nil => []
  | .cons k _ t ar r => nodeVarsE k t ++ (ar.varsE ++ r.varsE)
def partVarsE (x : Part) : List ByteArray := nodeVarsE x.2.1 x.2.2.2.1
theorem pre_varsE (F : Trees) : ∀ d, (F.pre d).flatMap partVarsE = F.varsE := by
  induction F with
  | nil => intro d; rfl
  | cons k n t ar r ih1 ih2 => intro d; simp only [Trees.pre, Trees.varsE, List.flatMap_cons, List.flatMap_append, ih1, ih2]; rfl
theorem seq_varsE (k n : Int) (t : ByteArray) (F : Trees) : ((1, k, n, t, F.length) :: F.pre 2 : List Part).flatMap partVarsE = nodeVarsE k t ++ F.varsE := by
  rw [List.flatMap_cons, pre_varsE]
  rfl
theorem take_varsE (l : List Part) (j : Nat) (x : Part) (h : l[j]? = some x) : (l.take (j + 1)).flatMap partVarsE = (l.take j).flatMap partVarsE ++ partVarsE x := by
  obtain ⟨hj, rfl⟩ := List.getElem?_eq_some_iff.1 h
  rw [List.take_succ_eq_append_getElem hj, List.flatMap_append]
  simp
theorem nodeVarsE_len (k : Int) (t : ByteArray) : (nodeVarsE k t).length ≤ 1 := by unfold nodeVarsE; split <;> simp
theorem varsE_len (F : Trees) : F.varsE.length ≤ F.count := by
  induction F with
  | nil => simp [Trees.varsE, Trees.count]
  | cons k n t ar r ih1 ih2 =>
    have := nodeVarsE_len k t
    simp only [Trees.varsE, Trees.count, List.length_append]
    omega
theorem take_varsE_len (l : List Part) (j : Nat) : ((l.take j).flatMap partVarsE).length ≤ j := by
  induction j with
  | zero => simp
  | succ j ih =>
    by_cases h : j < l.length
    · rw [take_varsE l j _ (List.getElem?_eq_getElem h), List.length_append]
      have h2 : (partVarsE l[j]).length ≤ 1 := nodeVarsE_len _ _
      omega
    · rw [List.take_of_length_le (by omega)]
      rw [List.take_of_length_le (by omega)] at ih
      omega
end Go.Proofs.YtijbaienhaiamaaGreatDoor
end

/- What is proved here: pure facts on lists of texts: a strictly ascending list with the same elements is unique; sorting and compacting gives one; inserting keeps one; a list is distinct just if its sorted form is as long. No condition. -/
section
namespace Go.Proofs.YtijbaienhaiamaaGreatDoor
open Go.RowKit

abbrev key (s : ByteArray) : List UInt8 := s.data.toList
theorem key_inj {a b : ByteArray} (h : key a = key b) : a = b := ByteArray.ext (Array.toList_inj.1 h)

/-- Strictly ascending. -/
def Rising (ys : List ByteArray) : Prop := ys.Pairwise fun a b => key a < key b
/-- ys is xs sorted, each text once. -/
def SortOf (xs ys : List ByteArray) : Prop := Rising ys ∧ ∀ x, x ∈ ys ↔ x ∈ xs

theorem lt_irrefl' (a : List UInt8) : ¬ a < a := List.lt_irrefl a
theorem lt_trans' {a b c : List UInt8} (h : a < b) (k : b < c) : a < c := List.lt_trans h k
theorem lt_asymm' {a b : List UInt8} (h : a < b) : ¬ b < a := fun k => lt_irrefl' a (lt_trans' h k)
theorem lt_tri {a b : List UInt8} (h : ¬ a < b) (k : a ≠ b) : b < a := by
  have h1 : b ≤ a := List.not_lt.1 h
  rcases List.le_iff_lt_or_eq.1 h1 with h2 | h2
  · exact h2
  · exact absurd h2.symm k

theorem rising_unique : ∀ (l r : List ByteArray), Rising l → Rising r → (∀ x, x ∈ l ↔ x ∈ r) → l = r
  | [], [], _, _, _ => rfl
  | [], b :: r, _, _, h => absurd ((h b).2 (by simp)) (by simp)
  | a :: l, [], _, _, h => absurd ((h a).1 (by simp)) (by simp)
  | a :: l, b :: r, hl, hr, h => by
    unfold Rising at hl hr
    rw [List.pairwise_cons] at hl hr
    have e : a = b := by
      rcases List.mem_cons.1 ((h a).1 (by simp)) with h1 | h1
      · exact h1
      · rcases List.mem_cons.1 ((h b).2 (by simp)) with h2 | h2
        · exact h2.symm
        · exact absurd (hl.1 b h2) (lt_asymm' (hr.1 a h1))
    subst e
    congr 1
    refine rising_unique l r hl.2 hr.2 (fun x => ⟨fun hx => ?_, fun hx => ?_⟩)
    · rcases List.mem_cons.1 ((h x).1 (List.mem_cons_of_mem _ hx)) with h1 | h1
      · subst h1
        exact absurd (hl.1 _ hx) (lt_irrefl' _)
      · exact h1
    · rcases List.mem_cons.1 ((h x).2 (List.mem_cons_of_mem _ hx)) with h1 | h1
      · subst h1
        exact absurd (hr.1 _ hx) (lt_irrefl' _)
      · exact h1
theorem sortOf_unique {xs l r : List ByteArray} (h : SortOf xs l) (k : SortOf xs r) : l = r :=
  rising_unique l r h.1 k.1 (fun x => (h.2 x).trans (k.2 x).symm)

/-- What slices.Compact leaves of an ascending row. -/
theorem compactUpTo_rising (d : Array (List UInt8)) (hd : ∀ i j, i < j → j < d.size → d[i]! ≤ d[j]!) : ∀ m, m ≤ d.size →
    (Lib.compactUpTo d m).Pairwise (· < ·) ∧ ∀ x, x ∈ Lib.compactUpTo d m ↔ ∃ j, j < m ∧ d[j]! = x
  | 0, _ => by simp [Lib.compactUpTo]
  | m + 1, hm => by
    obtain ⟨h1, h2⟩ := compactUpTo_rising d hd m (by omega)
    rw [Lib.compactUpTo_succ]
    by_cases hk : Lib.keeps d m = true
    · rw [if_pos hk]
      refine ⟨?_, fun x => ?_⟩
      · rw [List.pairwise_append]
        refine ⟨h1, by simp, fun x hx y hy => ?_⟩
        obtain rfl : y = d[m]! := by simpa using hy
        obtain ⟨j, hj, rfl⟩ := (h2 x).1 hx
        have hne : d[m]! ≠ d[m - 1]! := by
          have := hk
          unfold Lib.keeps at this
          rw [decide_eq_true_eq] at this
          rcases this with h | h
          · omega
          · exact h
        have ha : d[m - 1]! < d[m]! := by
          rcases List.le_iff_lt_or_eq.1 (hd (m - 1) m (by omega) (by omega)) with h | h
          · exact h
          · exact absurd h.symm hne
        rcases Nat.lt_or_ge j (m - 1) with h | h
        · rcases List.le_iff_lt_or_eq.1 (hd j (m - 1) h (by omega)) with h3 | h3
          · exact lt_trans' h3 ha
          · rw [h3]; exact ha
        · obtain rfl : j = m - 1 := by omega
          exact ha
      · rw [List.mem_append, h2 x]
        constructor
        · rintro (⟨j, hj, e⟩ | h)
          · exact ⟨j, by omega, e⟩
          · exact ⟨m, by omega, (by simpa using h : x = d[m]!).symm⟩
        · rintro ⟨j, hj, e⟩
          rcases Nat.lt_or_ge j m with h | h
          · exact .inl ⟨j, h, e⟩
          · obtain rfl : j = m := by omega
            exact .inr (by simp [e])
    · rw [if_neg hk, List.append_nil]
      refine ⟨h1, fun x => ?_⟩
      rw [h2 x]
      have hk2 : 0 < m ∧ d[m]! = d[m - 1]! := by
        have := hk
        unfold Lib.keeps at this
        rw [decide_eq_true_eq] at this
        constructor
        · rcases Nat.eq_zero_or_pos m with h | h
          · exact absurd (.inl h) this
          · exact h
        · exact Classical.byContradiction fun h => this (.inr h)
      constructor
      · rintro ⟨j, hj, e⟩
        exact ⟨j, by omega, e⟩
      · rintro ⟨j, hj, e⟩
        rcases Nat.lt_or_ge j m with h | h
        · exact ⟨j, h, e⟩
        · obtain rfl : j = m := by omega
          exact ⟨j - 1, by omega, by rw [← hk2.2]; exact e⟩

/-- Sorted and compacted. -/
def sorted (xs : List ByteArray) : List ByteArray := (Lib.compact ((xs.map key).mergeSort fun x y => decide (x ≤ y))).map fun l => ⟨l.toArray⟩
theorem sorted_key (xs : List ByteArray) : (sorted xs).map key = Lib.compact ((xs.map key).mergeSort fun x y => decide (x ≤ y)) := by
  unfold sorted
  rw [List.map_map]
  exact (List.map_congr_left (fun l _ => rfl)).trans (List.map_id _)
theorem le_trans' (a b c : List UInt8) (h : decide (a ≤ b) = true) (k : decide (b ≤ c) = true) : decide (a ≤ c) = true := by
  rw [decide_eq_true_eq] at *
  exact List.le_trans h k
theorem le_total' (a b : List UInt8) : (decide (a ≤ b) || decide (b ≤ a)) = true := by
  rw [Bool.or_eq_true, decide_eq_true_eq, decide_eq_true_eq]
  exact List.le_total a b

theorem sorted_ok (xs : List ByteArray) : SortOf xs (sorted xs) := by
  have hp := List.pairwise_mergeSort le_trans' le_total' (xs.map key)
  have hm : ∀ x, x ∈ (xs.map key).mergeSort (fun x y => decide (x ≤ y)) ↔ x ∈ xs.map key := fun x => (List.mergeSort_perm (xs.map key) _).mem_iff
  have hk := sorted_key xs
  generalize (xs.map key).mergeSort (fun x y => decide (x ≤ y)) = zs at hp hm hk
  have hd : ∀ i j, i < j → j < zs.toArray.size → zs.toArray[i]! ≤ zs.toArray[j]! := by
    intro i j hij hj
    have hj' : j < zs.length := by simpa using hj
    have := (List.pairwise_iff_getElem.1 hp) i j (by omega) hj' hij
    rw [decide_eq_true_eq] at this
    simpa [getElem!_pos, hj', show i < zs.length by omega] using this
  obtain ⟨h1, h2⟩ := compactUpTo_rising zs.toArray hd zs.length (by simp)
  have hk' : (sorted xs).map key = Lib.compactUpTo zs.toArray zs.length := hk
  rw [← hk'] at h1 h2
  refine ⟨?_, fun x => ?_⟩
  · unfold Rising
    exact List.pairwise_map.1 h1
  · have e1 : x ∈ sorted xs ↔ key x ∈ (sorted xs).map key := by
      constructor
      · exact fun h => List.mem_map.2 ⟨x, h, rfl⟩
      · intro h
        obtain ⟨y, hy, e⟩ := List.mem_map.1 h
        rw [← key_inj e]; exact hy
    rw [e1, h2]
    constructor
    · rintro ⟨j, hj, e⟩
      have : key x ∈ zs := by
        rw [← e]
        have : zs.toArray[j]! = zs[j] := by simp [getElem!_pos, hj]
        rw [this]
        exact List.getElem_mem hj
      obtain ⟨y, hy, e⟩ := List.mem_map.1 ((hm _).1 this)
      rw [← key_inj e]; exact hy
    · intro h
      obtain ⟨j, hj, e⟩ := List.mem_iff_getElem.1 ((hm (key x)).2 (List.mem_map.2 ⟨x, h, rfl⟩))
      exact ⟨j, hj, by simp [getElem!_pos, hj, e]⟩

theorem sorted_length_le (xs : List ByteArray) : (sorted xs).length ≤ xs.length := by
  have h := Lib.compact_length_le ((xs.map key).mergeSort fun x y => decide (x ≤ y))
  rw [← sorted_key, List.length_map, List.length_mergeSort, List.length_map] at h
  exact h

theorem rising_nodup {ys : List ByteArray} (h : Rising ys) : ys.Nodup := by
  unfold Rising at h
  unfold List.Nodup
  exact h.imp (fun hab e => by subst e; exact lt_irrefl' _ hab)

/-- Distinct: no two are equal. -/
theorem distinct_iff_nodup (xs : List ByteArray) : Distinct xs ↔ xs.Nodup := by
  unfold Distinct
  rw [List.Nodup, List.pairwise_iff_getElem]
  constructor
  · intro h i j hi hj hij e
    have h1 := h i hi
    have h2 := h j hj
    rw [e, h2] at h1
    omega
  · intro h j hj
    exact idx_hit xs j xs[j] hj rfl (fun i hi hij e => h i j hi hj hij e)

theorem nodup_lengthK : ∀ (l r : List (List UInt8)), l.Nodup → (∀ x, x ∈ l → x ∈ r) → l.length ≤ r.length
  | [], r, _, _ => by simp
  | a :: l, r, hl, h => by
    rw [List.nodup_cons] at hl
    have ha := h a (by simp)
    have := nodup_lengthK l (r.erase a) hl.2 (fun x hx => by
      have hne : x ≠ a := fun e => hl.1 (e ▸ hx)
      exact (List.mem_erase_of_ne hne).2 (h x (List.mem_cons_of_mem _ hx)))
    rw [List.length_erase_of_mem ha] at this
    have hp : 0 < r.length := List.length_pos_of_mem ha
    rw [List.length_cons]
    omega
theorem nodup_length (l r : List ByteArray) (hl : l.Nodup) (h : ∀ x, x ∈ l → x ∈ r) : l.length ≤ r.length := by
  have hn : (l.map key).Nodup := by
    unfold List.Nodup at hl ⊢
    rw [List.pairwise_map]
    exact hl.imp (fun hne e => hne (key_inj e))
  have := nodup_lengthK (l.map key) (r.map key) hn (fun x hx => by
    obtain ⟨y, hy, rfl⟩ := List.mem_map.1 hx
    exact List.mem_map.2 ⟨y, h y hy, rfl⟩)
  simpa using this

/-- A list is distinct just if nothing is lost when it is sorted, each once. -/
theorem distinct_iff_length {xs ys : List ByteArray} (h : SortOf xs ys) : Distinct xs ↔ ys.length = xs.length := by
  have hy := rising_nodup h.1
  have h1 := nodup_length ys xs hy (fun x hx => (h.2 x).1 hx)
  rw [distinct_iff_nodup]
  constructor
  · intro hx
    have h2 := nodup_length xs ys hx (fun x hx => (h.2 x).2 hx)
    omega
  · intro hl
    refine Classical.byContradiction fun hn => ?_
    have key : ∀ zs : List ByteArray, ¬ zs.Nodup → ∃ l : List ByteArray, l.length < zs.length ∧ ∀ x, x ∈ zs → x ∈ l := by
      intro zs
      induction zs with
      | nil => intro h; exact absurd List.nodup_nil h
      | cons a r ih =>
        intro h
        by_cases ha : a ∈ r
        · exact ⟨r, by simp, fun x hx => by
            rcases List.mem_cons.1 hx with e | e
            · rw [e]; exact ha
            · exact e⟩
        · obtain ⟨l, hl, hs⟩ := ih (fun hr => h (List.nodup_cons.2 ⟨ha, hr⟩))
          refine ⟨a :: l, by simp; omega, fun x hx => ?_⟩
          rcases List.mem_cons.1 hx with e | e
          · rw [e]; simp
          · exact List.mem_cons_of_mem _ (hs x e)
    obtain ⟨l, hl2, hs⟩ := key xs hn
    have := nodup_length ys l hy (fun x hx => hs x ((h.2 x).1 hx))
    omega

/-- Inserting at the right place. -/
theorem insert_rising {ys : List ByteArray} {x : ByteArray} {a : Nat} (h : Rising ys) (ha : a ≤ ys.length) (hb : ∀ j (hj : j < ys.length), j < a → key ys[j] < key x) (hn : ∀ hl : a < ys.length, ¬ key ys[a] < key x ∧ ys[a] ≠ x) :
    Rising (ys.take a ++ [x] ++ ys.drop a) := by
  unfold Rising at h ⊢
  rw [List.pairwise_append, List.pairwise_append]
  refine ⟨⟨h.sublist (List.take_sublist _ _), by simp, ?_⟩, h.sublist (List.drop_sublist _ _), ?_⟩
  · intro u hu v hv
    obtain rfl : v = x := by simpa using hv
    obtain ⟨j, hj, e⟩ := List.mem_iff_getElem.1 hu
    rw [List.length_take] at hj
    rw [List.getElem_take] at e
    rw [← e]
    exact hb j (by omega) (by omega)
  · intro u hu v hv
    obtain ⟨i, hi, e⟩ := List.mem_iff_getElem.1 hv
    rw [List.length_drop] at hi
    rw [List.getElem_drop] at e
    have hl : a < ys.length := by omega
    have hxa : key x < key ys[a] := lt_tri (hn hl).1 (fun e => (hn hl).2 (key_inj e))
    have hxv : key x < key v := by
      rw [← e]
      rcases Nat.eq_zero_or_pos i with h0 | h0
      · subst h0; exact hxa
      · exact lt_trans' hxa ((List.pairwise_iff_getElem.1 h) a (a + i) hl (by omega) (by omega))
    rcases List.mem_append.1 hu with h1 | h1
    · obtain ⟨j, hj, e2⟩ := List.mem_iff_getElem.1 h1
      rw [List.length_take] at hj
      rw [List.getElem_take] at e2
      rw [← e2]
      exact lt_trans' (hb j (by omega) (by omega)) hxv
    · obtain rfl : u = x := by simpa using h1
      exact hxv
theorem insert_mem (ys : List ByteArray) (x : ByteArray) (a : Nat) (u : ByteArray) : u ∈ ys.take a ++ [x] ++ ys.drop a ↔ u ∈ ys ∨ u = x := by
  have e : u ∈ ys ↔ u ∈ ys.take a ∨ u ∈ ys.drop a := by rw [← List.mem_append, List.take_append_drop]
  rw [e]
  simp only [List.mem_append, List.mem_cons, List.mem_nil_iff, or_false]
  constructor
  · rintro ((h | h) | h)
    · exact .inl (.inl h)
    · exact .inr h
    · exact .inl (.inr h)
  · rintro ((h | h) | h)
    · exact .inl (.inl h)
    · exact .inr h
    · exact .inl (.inr h)
theorem insert_length (ys : List ByteArray) (x : ByteArray) (a : Nat) : (ys.take a ++ [x] ++ ys.drop a).length = ys.length + 1 := by
  simp
  omega
end Go.Proofs.YtijbaienhaiamaaGreatDoor
end

/- What is proved here: the program's SortNames gives the texts sorted, each once, in a block of its own; its AllDistinct says whether they are distinct. Condition: at most 1048576 texts, in a block of the call's own. -/
section
namespace Go.Proofs.YtijbaienhaiamaaGreatDoor
open Go.RowKit Go.Sort

theorem reads_cells {w : World} {g : Nat} {xs : List ByteArray} (hx : Reads w (some ⟨g, 0, none⟩) xs) : ∀ j, j < xs.length → w.cell? ⟨g, 0 + j, none⟩ = some (.string (xs.getD j ByteArray.empty)) := by
  intro j hj
  obtain ⟨y, hy, hc⟩ := hx j hj
  injection hy with hy
  subst hy
  have e1 : (⟨g, 0, none⟩ : Addr).add j = ⟨g, 0 + j, none⟩ := by simp [Addr.add]; intro h; omega
  rw [e1] at hc
  rw [hc, getD_at _ _ hj]

/-- Behind slices.Clone and slices.Sort. -/
theorem after_sort {B : Nat} {w w1 w2 : World} {g n cap nn : Nat} {os : Array Obj} {ss zs : List (List UInt8)} (hl : zs.length = ss.length) (hn : ss.length = n) (hown : w1.ownsRow B 9 1 (.slice (some ⟨g, 0, none⟩) n cap) n (ss.map encStr)) (hbel : Below B w w1) (hs : B ≤ w1.heap.size)
    (he : w2 = grow (putRow encStr (Sort.ahead w1 nn) g 0 zs.toArray) os) :
    w2.ownsRow B 9 1 (.slice (some ⟨g, 0, none⟩) n cap) n (zs.map encStr) ∧ Below B w w2 := by
  subst hn
  subst he
  rcases hown.2 with ⟨h0, _⟩ | ⟨g', cap', cur, hv, hbase, hb, h1, h2, h3, h4⟩
  · cases h0
  cases hv
  exact ⟨ownsRow_sorted (n := nn) (os := os) hl hbase hb h1 h2 h3, hbel.grown (grownBy_sorted _) hs (fun j hj => by cases hj; exact hbase)⟩

set_option maxHeartbeats 1000000 in
set_option maxRecDepth 100000 in
theorem impl_sort_big (w : World) (g cap : Nat) (xs : List ByteArray) (hx : Reads w (some ⟨g, 0, none⟩) xs) (hm : xs.length ≤ 1048577) :
    Calls Tryz.prog 68 #[.slice (some ⟨g, 0, none⟩) xs.length cap] w (OutTexts w (sorted xs)) := by
  have H := Tryz.slices_Clone_string g 0 xs.length cap xs w (Nat.le_refl _) (by omega) (reads_cells hx)
  rw [List.take_length] at H
  clear hx
  go_enter Tryz.func68, Tryz.ntmps68
  go_wp2_with fail
  refine H.mono ?_
  rintro e w1 ⟨v1, rfl, hown, hnn, hbel⟩
  rw [← Lib.map_encStr] at hown
  obtain ⟨g1, cap1, rfl, hbg, hgl, hncap, hcm, hlen, hH⟩ := Lib.holds_of_ownsRow hown hnn
  have hsort := Tryz.slices_Sort_string g1 0 cap1 (xs.map key) w1 hH hgl (by rw [hlen]; omega)
  rw [hlen] at hsort
  have HO := Lib.hid hown
  have HL := Lib.hid hlen
  have HB := Lib.hid hbel
  clear hown hlen hH hbel hnn H
  have hkey := sorted_key xs
  have hzl := List.length_mergeSort (le := fun x y : List UInt8 => decide (x ≤ y)) (xs.map key)
  generalize (xs.map key).mergeSort (fun x y => decide (x ≤ y)) = zs at hsort hkey hzl
  have HK := Lib.hid hkey
  have HZ := Lib.hid hzl
  clear hkey hzl
  go_wp2_with fail
  refine hsort.mono ?_
  rintro e w2 ⟨rfl, nn, os, he⟩
  obtain ⟨hown2, hB2⟩ := after_sort HZ.out HL.out HO.out HB.out HB.out.size he
  have hz : zs.length = xs.length := HZ.out.trans HL.out
  obtain ⟨_, _, hv2, _, _, _, _, _, hH2⟩ := Lib.holds_of_ownsRow hown2 (by simp)
  cases hv2
  have hcomp := Tryz.slices_Compact_string g1 0 cap1 zs w2 hH2 (by omega) (by omega)
  rw [hz] at hcomp
  have HO2 := Lib.hid hown2
  have HB2 := Lib.hid hB2
  have HZ2 := Lib.hid hz
  clear hown2 hB2 hz hH2 he hsort
  have hle := Lib.compact_length_le zs
  have hcl : (Lib.compact zs).length = (sorted xs).length := by rw [← HK.out, List.length_map]
  rw [hcl] at hcomp
  have HC := Lib.hid hcl
  have HE := Lib.hid hle
  clear hcl hle
  go_wp2_with fail
  refine hcomp.mono ?_
  rintro e w3 ⟨rfl, q, he⟩
  have hc := Lib.ownsRow_putRow (q := q) (k := (sorted xs).length) (ys := Lib.compact zs ++ List.replicate (xs.length - (sorted xs).length) []) HO2.out (by have := HZ2.out; have := HC.out; have := HE.out; simp; omega) (by have := HZ2.out; have := HC.out; have := HE.out; omega)
  rw [← HC.out, List.take_left, HC.out, ← HK.out, Lib.map_encStr, HK.out, ← he] at hc
  have hB3 : Below w.heap.size w w3 := by rw [he]; exact Lib.below_putRow HB2.out hbg
  obtain ⟨g3, cap3, rest, hv3, hg3, hblk, _⟩ := block_of_owned hc (by simp)
  cases hv3
  have HBL := Lib.hid hblk
  clear hc hcomp he hblk
  go_wp2
  go_ret
  exact ⟨g1, cap1, rest, hbg, rfl, HBL.out, hB3⟩

theorem impl_sort (w : World) (g cap : Nat) (xs : List ByteArray) (hx : Reads w (some ⟨g, 0, none⟩) xs) (hm : xs.length ≤ 1048576) :
    Calls Tryz.prog 68 #[.slice (some ⟨g, 0, none⟩) xs.length cap] w (OutTexts w (sorted xs)) := impl_sort_big w g cap xs hx (by omega)

end Go.Proofs.YtijbaienhaiamaaGreatDoor
end

/- What is proved here: the program's SortNames of a nil slice is nil. No condition. -/
section
namespace Go.Proofs.YtijbaienhaiamaaGreatDoor
open Go.RowKit

set_option maxRecDepth 100000 in
theorem impl_sort_nil (w : World) : Calls Tryz.prog 68 #[.slice none 0 0] w fun e w' => e = .returned (.slice none 0 0) ∧ w' = w := by
  go_enter Tryz.func68, Tryz.ntmps68
  go_wp2_with fail
  refine (Tryz.slices_Clone_string_nil 0 0 w).mono ?_
  rintro e w1 ⟨rfl, rfl⟩
  go_wp2_with fail
  refine (Tryz.slices_Sort_string_none none 0 w1).mono ?_
  rintro e w2 ⟨rfl, rfl⟩
  go_wp2_with fail
  refine (Tryz.slices_Compact_string_empty none 0 w2).mono ?_
  rintro e w3 ⟨rfl, rfl⟩
  go_wp2
  go_ret
  exact ⟨rfl, rfl⟩
end Go.Proofs.YtijbaienhaiamaaGreatDoor
end
