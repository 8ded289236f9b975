/- What is proved here: the model's EvalExpr gives the value of an expression. Conditions: expression and bindings lie in memory as said, and are small. -/
import Derived.Test.YtdifefgigcjgeaaExVals
import Derived.Test.YtdifefgigcjgeaaExSpecValid
import Derived.Test.YtdifefgigcjgeaaTreeCells
namespace Go.Proofs.Ytdifefgigcjgeaa.Ex
open Go.RowKit

set_option maxRecDepth 100000 in
theorem spec_bit (b : Bool) (w : World) :
    Calls Try.prog 79 #[.bool b] w fun e w' => e = .returned (.int .i64 (bit b)) ∧ w' = w := by
  cases b with
  | false =>
    go_enter Try.func79, Try.ntmps79
    go_wp2
    go_ret
    exact ⟨rfl, rfl⟩
  | true =>
    go_enter Try.func79, Try.ntmps79
    go_wp2
    go_ret
    exact ⟨rfl, rfl⟩

set_option maxHeartbeats 1000000 in
set_option maxRecDepth 100000 in
theorem spec_op (n a b : Int) (h : inOp n = true) (w : World) :
    Calls Try.prog 80 #[.int .i64 n, .int .i64 a, .int .i64 b] w fun e w' => e = .returned (.int .i64 (opV n a b)) ∧ w' = w := by
  have HB := spec_bit
  rcases (inOp_iff n).1 h with rfl | rfl | rfl | rfl | rfl | rfl | rfl
  · have HE : Hid (opV 1 a b = wrap64 (a + b)) := rfl
    go_enter Try.func80, Try.ntmps80
    go_wp2
    go_ret
    exact ⟨by rw [HE.out]; rfl, rfl⟩
  · have HE : Hid (opV 2 a b = wrap64 (a - b)) := rfl
    go_enter Try.func80, Try.ntmps80
    go_wp2
    go_ret
    exact ⟨by rw [HE.out]; rfl, rfl⟩
  · have HE : Hid (opV 3 a b = wrap64 (a * b)) := rfl
    go_enter Try.func80, Try.ntmps80
    go_wp2
    go_ret
    exact ⟨by rw [HE.out]; rfl, rfl⟩
  · have HE : Hid (opV 4 a b = bit (decide (a < b))) := rfl
    generalize hp : decide (a < b) = p at *
    go_enter Try.func80, Try.ntmps80
    go_wp2_with fail
    refine (HB p _).mono ?_
    rintro e w1 ⟨rfl, rfl⟩
    clear hp
    go_wp2
    go_ret
    exact ⟨by rw [HE.out]; rfl, rfl⟩
  · have HE : Hid (opV 5 a b = bit (a == b)) := rfl
    generalize hp : (a == b) = p at *
    go_enter Try.func80, Try.ntmps80
    go_wp2_with fail
    refine (HB p _).mono ?_
    rintro e w1 ⟨rfl, rfl⟩
    clear hp
    go_wp2
    go_ret
    exact ⟨by rw [HE.out]; rfl, rfl⟩
  · have HE : Hid (opV 6 a b = bit ((a != 0) && (b != 0))) := rfl
    generalize hp : (a != 0) = p at *
    generalize hq : (b != 0) = q at *
    generalize opV 6 a b = z at *
    cases p with
    | false =>
      have HZ : Hid (z = bit false) := HE.out
      go_enter Try.func80, Try.ntmps80
      go_wp2_with fail
      refine (HB false _).mono ?_
      rintro e w1 ⟨rfl, rfl⟩
      go_wp2
      go_ret
      exact ⟨by rw [HZ.out]; rfl, rfl⟩
    | true =>
      have HZ : Hid (z = bit q) := HE.out
      go_enter Try.func80, Try.ntmps80
      go_wp2_with fail
      refine (HB q _).mono ?_
      rintro e w1 ⟨rfl, rfl⟩
      go_wp2
      go_ret
      exact ⟨by rw [HZ.out]; rfl, rfl⟩
  · have HE : Hid (opV 7 a b = bit ((a != 0) || (b != 0))) := rfl
    generalize hp : (a != 0) = p at *
    generalize hq : (b != 0) = q at *
    generalize opV 7 a b = z at *
    cases p with
    | false =>
      have HZ : Hid (z = bit q) := HE.out
      go_enter Try.func80, Try.ntmps80
      go_wp2_with fail
      refine (HB q _).mono ?_
      rintro e w1 ⟨rfl, rfl⟩
      go_wp2
      go_ret
      exact ⟨by rw [HZ.out]; rfl, rfl⟩
    | true =>
      have HZ : Hid (z = bit true) := by unfold Hid; rw [HE.out]; rfl
      go_enter Try.func80, Try.ntmps80
      go_wp2_with fail
      refine (HB true _).mono ?_
      rintro e w1 ⟨rfl, rfl⟩
      go_wp2
      go_ret
      exact ⟨by rw [HZ.out]; rfl, rfl⟩

set_option maxHeartbeats 1000000 in
set_option maxRecDepth 100000 in
theorem spec_var (env : List BindD) (hm : env.length ≤ 1048576) (t : ByteArray) (w : World) (a : Option Addr) (cap : Nat) (hx : BindsAt w env a 0) :
    Calls Try.prog 78 #[.slice a env.length cap, .string t] w fun e w' => e = .returned (.int .i64 (varV env t)) ∧ w' = w := by
  have HX := Lib.hid hx
  obtain ⟨z, hz⟩ : ∃ z, varV env t = z := ⟨_, rfl⟩
  rw [hz]
  have HZ := Lib.hid hz
  generalize hn : env.length = n at *
  have HN := Lib.hid hn
  clear hx hz hn
  go_enter Try.func78, Try.ntmps78
  go_wp2
  go_loopw [5] (fun i wr => ∃ (k : Nat) (rest : List BindD), i = .int .i64 k ∧ k + rest.length = n ∧ Hid (varV rest t = z) ∧ Hid (BindsAt w rest a k) ∧ wr = w) (fun i _ => n - (intOf i).toNat)
  case atStart => exact ⟨0, env, rfl, by rw [HN.out]; omega, HZ, HX, rfl⟩
  case round =>
    obtain ⟨k, rest, rfl, hkn, hzr, hxr, rfl⟩ := hrel
    cases rest with
    | cons x r =>
      have hkl : k < n := by simp only [List.length_cons] at hkn; omega
      have hkn2 : k + 1 + r.length = n := by simp only [List.length_cons] at hkn; omega
      obtain ⟨⟨y, p, cp, rfl, h1, h2, h3, h4, h5, _, _⟩, hr⟩ := hxr.out
      have hxr2 := Lib.hid hr
      have hz2 := hzr.out
      unfold varV at hz2
      have h3' : wr.cell? { block := (y.add (k * 5)).block, off := (y.add (k * 5)).off + 1 + 1 } = some (.int .i64 x.n) := h3
      obtain ⟨nm, kd, nu, tx, F⟩ := x
      clear hzr hxr hr hkn h3 h4 h5
      dsimp only at *
      generalize hq : (nm.toList == t.toList) = q at *
      cases q with
      | false =>
        have HZ2 : Hid (varV r t = z) := by unfold Hid; simpa using hz2
        clear hz2
        go_wp2
        go_roundw
        case rel => exact ⟨k + 1, r, by go_num, hkn2, HZ2, hxr2, by trivial⟩
        case measure => simp [intOf]; omega
      | true =>
        rw [if_pos rfl] at hz2
        generalize hk1 : (kd == 1) = c at *
        cases c with
        | false =>
          have HZ2 : Hid (z = 0) := by unfold Hid; simpa using hz2.symm
          clear hz2
          go_wp2
          go_ret
          exact ⟨by rw [HZ2.out]; rfl, rfl⟩
        | true =>
          have HZ2 : Hid (z = nu) := by unfold Hid; simpa using hz2.symm
          clear hz2
          go_wp2
          go_ret
          exact ⟨by rw [HZ2.out]; rfl, rfl⟩
    | nil =>
      obtain rfl : k = n := by simp only [List.length_nil] at hkn; omega
      have HZ2 : Hid (z = 0) := hzr.out.symm
      clear hzr hxr
      go_wp2
      go_ret
      exact ⟨by rw [HZ2.out]; rfl, rfl⟩

set_option maxHeartbeats 4000000 in
set_option maxRecDepth 100000 in
theorem spec_eval_tree (env : List BindD) (hm : env.length ≤ 1048576) (ae : Option Addr) (ce : Nat) : ∀ G : Trees, G.formedE = true → G.count ≤ 1048576 → ∀ (w : World) (k n : Int) (t : ByteArray) (p : Option Addr) (cap : Nat), exprForm k n t G.length = true → TreesAt w G p 0 → BindsAt w env ae 0 →
    Calls Try.prog 58 #[.agg #[.int .i64 k, .int .i64 n, .string t, .slice p G.length cap], .slice ae env.length ce] w fun e w' => e = .returned (.int .i64 (nodeI env k n t (G.vals env))) ∧ Below w.heap.size w w' := by
  refine Trees.ind fun F hall hfm hc w k n t p cap hpf hx hbe => ?_
  have hB0 : Below w.heap.size w (w.alloc (.cells #[.int .i64 k, .int .i64 n, .string t, .slice p F.length cap] 40)) := (Below.refl _ _).alloc (Nat.le_refl _) _
  have HB0 := Lib.hid hB0
  obtain ⟨c0, c1, c2, c3, _⟩ := four_cells (heap_at_new w (.cells #[.int .i64 k, .int .i64 n, .string t, .slice p F.length cap] 40))
  rcases (exprForm_iff k n t F.length).1 hpf with ⟨rfl, hi, -⟩ | ⟨rfl, -, -, -⟩ | ⟨rfl, ho, -, hl2⟩ | ⟨rfl, -, -, hl1⟩
  · have e : nodeI env 1 n t (F.vals env) = n := rfl
    rw [e]
    clear hall hx hB0 e hfm hc hpf hi hbe hm
    go_enter Try.func58, Try.ntmps58
    go_wp2
    go_ret
    exact ⟨rfl, HB0.out⟩
  · have e : nodeI env 2 n t (F.vals env) = varV env t := rfl
    rw [e]
    have HV := spec_var env hm t _ ae ce (hbe.below hB0)
    generalize varV env t = z at *
    clear hall hx hB0 e hfm hc hpf hbe
    go_enter Try.func58, Try.ntmps58
    go_wp2_with fail
    refine HV.mono ?_
    rintro e w1 ⟨rfl, rfl⟩
    clear HV
    go_wp2
    go_ret
    exact ⟨rfl, HB0.out⟩
  · cases F with
    | nil => cases hl2
    | cons ka na ta Fa R =>
      cases R with
      | nil => cases hl2
      | cons kb nb tb Fb R2 =>
        cases R2 with
        | cons _ _ _ _ _ => simp [Trees.length] at hl2
        | nil =>
          have e : nodeI env 3 n t (Trees.vals env (.cons ka na ta Fa (.cons kb nb tb Fb .nil))) = opV n (nodeI env ka na ta (Fa.vals env)) (nodeI env kb nb tb (Fb.vals env)) := rfl
          rw [e]
          simp only [Trees.formedE, Bool.and_eq_true] at hfm
          simp only [Trees.count] at hc
          rw [show (Trees.length (.cons ka na ta Fa (.cons kb nb tb Fb .nil))) = 2 from rfl] at *
          obtain ⟨y, pa, ca, rfl, a0, a1, a2, a3, hsa, hxb⟩ := (hx.below hB0).open
          obtain ⟨y', pb, cb, e', b0, b1, b2, b3, hsb, _⟩ := hxb.open
          cases e'
          have HBE := Lib.hid (hbe.below hB0)
          have HCA := Lib.hid (fun W (hb : Below (w.alloc (.cells #[.int .i64 3, .int .i64 n, .string t, .slice (some y) 2 cap] 40)).heap.size (w.alloc (.cells #[.int .i64 3, .int .i64 n, .string t, .slice (some y) 2 cap] 40)) W) => hall.1 hfm.2.1 (by omega) W ka na ta pa ca hfm.1 (hsa.below hb) (HBE.out.below hb))
          have HCB := Lib.hid (fun W (hb : Below (w.alloc (.cells #[.int .i64 3, .int .i64 n, .string t, .slice (some y) 2 cap] 40)).heap.size (w.alloc (.cells #[.int .i64 3, .int .i64 n, .string t, .slice (some y) 2 cap] 40)) W) => hall.2.1 hfm.2.2.2.1 (by omega) W kb nb tb pb cb hfm.2.2.1 (hsb.below hb) (HBE.out.below hb))
          have HOP := Lib.hid (fun a b W => spec_op n a b ho W)
          generalize nodeI env ka na ta (Fa.vals env) = va at *
          generalize nodeI env kb nb tb (Fb.vals env) = vb at *
          generalize hw0 : w.alloc (.cells #[.int .i64 3, .int .i64 n, .string t, .slice (some y) 2 cap] 40) = w0 at *
          have HW0 := Lib.hid hw0
          have a0' : w0.cell? y = some (.int .i64 ka) := a0
          have a1' : w0.cell? { block := y.block, off := y.off + 1 } = some (.int .i64 na) := a1
          have a2' : w0.cell? { block := y.block, off := y.off + 2 } = some (.string ta) := a2
          have a3' : w0.cell? { block := y.block, off := y.off + 3 } = some (.slice pa Fa.length ca) := a3
          have HF : Hid (∀ W, Below w0.heap.size w0 W → (W.cell? ⟨w.heap.size, 1, none⟩ = some (.int .i64 n) ∧ W.cell? ⟨w.heap.size, 3, none⟩ = some (.slice (some y) 2 cap)) ∧ W.cell? { block := y.block, off := y.off + 4 } = some (.int .i64 kb) ∧ W.cell? { block := y.block, off := y.off + 4 + 1 } = some (.int .i64 nb) ∧ W.cell? { block := y.block, off := y.off + 4 + 2 } = some (.string tb) ∧ W.cell? { block := y.block, off := y.off + 4 + 3 } = some (.slice pb Fb.length cb)) := fun W hb => ⟨⟨cell_below c1 hb, cell_below c3 hb⟩, cell_below b0 hb, cell_below b1 hb, cell_below b2 hb, cell_below b3 hb⟩
          subst hw0
          clear hall hx e hfm hc hpf hB0 hsa hsb hxb a0 a1 a2 a3 b0 b1 b2 b3 hl2 ho hbe HBE hm
          go_enter Try.func58, Try.ntmps58
          go_wp2_with fail
          refine (HCA.out _ (Below.refl _ _)).mono ?_
          rintro e w1 ⟨rfl, hb1⟩
          have HB1 := Lib.hid hb1
          obtain ⟨⟨c1, c3⟩, b0', b1', b2', b3'⟩ := HF.out w1 hb1
          clear hb1 HCA a0' a1' a2' a3'
          go_wp2_with fail
          refine (HCB.out _ HB1.out).mono ?_
          rintro e w2 ⟨rfl, hb2⟩
          have hb2' := HB1.out.trans (hb2.mono HB1.out.size)
          have HB2 := Lib.hid hb2'
          obtain ⟨⟨c1, c3⟩, _⟩ := HF.out w2 hb2'
          clear hb2 hb2' HCB b0' b1' b2' b3'
          go_wp2_with fail
          refine (HOP.out va vb w2).mono ?_
          rintro e w3 ⟨rfl, rfl⟩
          clear HOP HF
          go_wp2
          go_ret
          exact ⟨rfl, HB0.out.trans (HB2.out.mono HB0.out.size)⟩
  · cases F with
    | nil => cases hl1
    | cons ka na ta Fa R =>
      cases R with
      | cons _ _ _ _ _ => simp [Trees.length] at hl1
      | nil =>
        have e : nodeI env 4 n t (Trees.vals env (.cons ka na ta Fa .nil)) = bit (nodeI env ka na ta (Fa.vals env) == 0) := rfl
        rw [e]
        simp only [Trees.formedE, Bool.and_eq_true] at hfm
        simp only [Trees.count] at hc
        rw [show (Trees.length (.cons ka na ta Fa .nil)) = 1 from rfl] at *
        obtain ⟨y, pa, ca, rfl, a0, a1, a2, a3, hsa, _⟩ := (hx.below hB0).open
        have HCA := Lib.hid (hall.1 hfm.2.1 (by omega) _ ka na ta pa ca hfm.1 hsa (hbe.below hB0))
        generalize nodeI env ka na ta (Fa.vals env) = va at *
        have HBT := Lib.hid (fun W => spec_bit (va == 0) W)
        generalize hq : (va == 0) = q at *
        have a0' : (w.alloc (.cells #[.int .i64 4, .int .i64 n, .string t, .slice (some y) 1 cap] 40)).cell? y = some (.int .i64 ka) := a0
        have a1' : (w.alloc (.cells #[.int .i64 4, .int .i64 n, .string t, .slice (some y) 1 cap] 40)).cell? { block := y.block, off := y.off + 1 } = some (.int .i64 na) := a1
        have a2' : (w.alloc (.cells #[.int .i64 4, .int .i64 n, .string t, .slice (some y) 1 cap] 40)).cell? { block := y.block, off := y.off + 2 } = some (.string ta) := a2
        have a3' : (w.alloc (.cells #[.int .i64 4, .int .i64 n, .string t, .slice (some y) 1 cap] 40)).cell? { block := y.block, off := y.off + 3 } = some (.slice pa Fa.length ca) := a3
        clear hall hx e hfm hc hpf hB0 hsa a0 a1 a2 a3 hl1 hbe hm
        go_enter Try.func58, Try.ntmps58
        go_wp2_with fail
        refine HCA.out.mono ?_
        rintro e w1 ⟨rfl, hb1⟩
        have HB1 : Hid (Below w.heap.size w w1) := HB0.out.trans (hb1.mono HB0.out.size)
        clear a0' a1' a2' a3' HCA hb1
        go_wp2_with fail
        refine (HBT.out w1).mono ?_
        rintro e w2 ⟨rfl, rfl⟩
        clear HBT
        go_wp2
        go_ret
        exact ⟨rfl, HB1.out⟩

set_option maxHeartbeats 1000000 in
set_option maxRecDepth 100000 in
theorem spec_eval (env : List BindD) (hm : env.length ≤ 1048576) (ae : Option Addr) (ce : Nat) (w : World) (k n : Int) (t : ByteArray) (F : Trees) (p : Option Addr) (c : Nat) (hfv : F.fits) (hfc : F.count ≤ 1048576) (ht : t.size ≤ maxLen) (hx : TreesAt w F p 0) (hbe : BindsAt w env ae 0) :
    Calls Try.prog 27 #[.agg #[.int .i64 k, .int .i64 n, .string t, .slice p F.length c], .slice ae env.length ce] w fun e w' => e = .returned (.int .i64 (exprV env k n t F)) ∧ Below w.heap.size w w' := by
  have hB0 : Below w.heap.size w (w.alloc (.cells #[.int .i64 k, .int .i64 n, .string t, .slice p F.length c] 40)) := (Below.refl _ _).alloc (Nat.le_refl _) _
  obtain ⟨c0, c1, c2, c3, _⟩ := four_cells (heap_at_new w (.cells #[.int .i64 k, .int .i64 n, .string t, .slice p F.length c] 40))
  have HX := Lib.hid (hx.below hB0)
  have HBE := Lib.hid (hbe.below hB0)
  obtain ⟨w0, hw0⟩ : ∃ w0, w0 = w.alloc (.cells #[.int .i64 k, .int .i64 n, .string t, .slice p F.length c] 40) := ⟨_, rfl⟩
  rw [← hw0] at HX HBE hB0 c0 c1 c2 c3
  have HW0 := Lib.hid hw0
  have HB0 := Lib.hid hB0
  have HV := Lib.hid (spec_valid_expr w0 k n t F p c hfv hfc ht HX.out)
  have HP : Hid (validExpr k n t F = true → F.formedE = true ∧ exprForm k n t F.length = true) := fun h => by
    unfold validExpr at h
    simp only [Bool.and_eq_true] at h
    exact ⟨h.2.2, h.2.1⟩
  unfold exprV
  cases hv : validExpr k n t F with
  | false =>
    rw [hv] at HV
    rw [if_neg (by simp)]
    clear hw0 hB0 hx hfv hfc ht hv hbe hm
    go_enter Try.func27, Try.ntmps27
    go_wp2_with fail
    rw [← HW0.out]
    refine HV.out.mono ?_
    rintro e w1 ⟨rfl, hb1⟩
    have HB1 := Lib.hid hb1
    clear hb1
    go_wp2
    go_ret
    exact ⟨rfl, HB0.out.trans (HB1.out.mono HB0.out.size)⟩
  | true =>
    obtain ⟨h1, h2⟩ := HP.out hv
    rw [hv] at HV
    rw [if_pos rfl]
    have HT := Lib.hid (fun W (hb : Below w0.heap.size w0 W) => spec_eval_tree env hm ae ce F h1 hfc W k n t p c h2 (HX.out.below hb) (HBE.out.below hb))
    generalize nodeI env k n t (F.vals env) = u at *
    clear hw0 hB0 hx hfv hfc ht hv h1 h2 HP hbe hm
    go_enter Try.func27, Try.ntmps27
    go_wp2_with fail
    rw [← HW0.out]
    refine HV.out.mono ?_
    rintro e w1 ⟨rfl, hb1⟩
    have HB1 := Lib.hid hb1
    have c0 := cell_below c0 hb1
    have c1 := cell_below c1 hb1
    have c2 := cell_below c2 hb1
    have c3 := cell_below c3 hb1
    clear hb1
    go_wp2_with fail
    refine (HT.out w1 HB1.out).mono ?_
    rintro e w2 ⟨rfl, hb2⟩
    have HB2 : Hid (Below w0.heap.size w0 w2) := HB1.out.trans (hb2.mono HB1.out.size)
    clear hb2
    go_wp2
    go_ret
    exact ⟨rfl, HB0.out.trans (HB2.out.mono HB0.out.size)⟩
end Go.Proofs.Ytdifefgigcjgeaa.Ex
