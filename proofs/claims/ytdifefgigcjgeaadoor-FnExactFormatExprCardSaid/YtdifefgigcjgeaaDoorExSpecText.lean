/- What is proved here: the model's l7Text returns the representation of an expression. Condition: the expression lies in memory as said, is valid node by node, and small. -/
import Derived.Test.YtdifefgigcjgeaaDoorExprText
import Derived.Test.YtdifefgigcjgeaaDoorCat
import Derived.Test.YtdifefgigcjgeaaDoorTreeCells
import Derived.Test.YtdifefgigcjgeaaDoorFormat
import Derived.Deep.RegionHeld3
namespace Go.Proofs.YtdifefgigcjgeaaDoor.Ex
open Go.RowKit

set_option maxHeartbeats 1000000 in
set_option maxRecDepth 100000 in
theorem spec_sign (n : Int) (h : inOp n = true) (w : World) :
    Calls Tryd.prog 64 #[.int .i64 n] w fun e w' => e = .returned (.string (str (signE n))) ∧ Below w.heap.size w w' := by
  rcases (inOp_iff n).1 h with rfl | rfl | rfl | rfl | rfl | rfl | rfl
  all_goals
    clear h
    go_enter Tryd.func64, Tryd.ntmps64
    go_wp2
    go_ret
    exact ⟨rfl, (Below.refl _ _).alloc (Nat.le_refl _) _⟩

set_option maxHeartbeats 4000000 in
set_option maxRecDepth 100000 in
theorem spec_expr_text : ∀ G : Trees, G.formedE = true → G.count ≤ 1048576 → ∀ (w : World) (k n : Int) (t : ByteArray) (p : Option Addr) (cap : Nat), exprForm k n t G.length = true → TreesAt w G p 0 →
    Calls Tryd.prog 35 #[.agg #[.int .i64 k, .int .i64 n, .string t, .slice p G.length cap]] w fun e w' => e = .returned (.string (str (nodeE k n t G.textsE))) ∧ Below w.heap.size w w' := by
  refine Trees.ind fun F hall hfm hc w k n t p cap hpf hx => ?_
  have hB0 : Below w.heap.size w (w.alloc (.cells #[.int .i64 k, .int .i64 n, .string t, .slice p F.length cap] 40)) := (Below.refl _ _).alloc (Nat.le_refl _) _
  have HB0 := Lib.hid hB0
  have hlt := textE_len k n t F hfm hpf
  rcases (exprForm_iff k n t F.length).1 hpf with ⟨rfl, hi, -⟩ | ⟨rfl, -, -, -⟩ | ⟨rfl, ho, -, hl2⟩ | ⟨rfl, -, -, hl1⟩
  · have e : nodeE 1 n t F.textsE = Lib.itoa n := rfl
    rw [e]
    unfold inInt at hi
    simp only [Bool.and_eq_true, decide_eq_true_eq] at hi
    have HF := spec_format n (by omega) (by omega)
    obtain ⟨c0, c1, c2, c3, _⟩ := four_cells (heap_at_new w (.cells #[.int .i64 1, .int .i64 n, .string t, .slice p F.length cap] 40))
    clear hall hx hB0 hlt e hfm hc hpf hi
    go_enter Tryd.func35, Tryd.ntmps35
    go_wp2_with fail
    refine (HF _).mono ?_
    rintro e w1 ⟨rfl, hb1⟩
    have HB1 := Lib.hid hb1
    clear hb1 HF
    go_wp2
    go_ret
    exact ⟨rfl, HB0.out.trans (HB1.out.mono HB0.out.size)⟩
  · have e : nodeE 2 n t F.textsE = t.data.toList := rfl
    rw [e, str_data]
    obtain ⟨c0, c1, c2, c3, _⟩ := four_cells (heap_at_new w (.cells #[.int .i64 2, .int .i64 n, .string t, .slice p F.length cap] 40))
    clear hall hx hB0 hlt e hfm hc hpf
    go_enter Tryd.func35, Tryd.ntmps35
    go_wp2
    go_ret
    exact ⟨rfl, HB0.out⟩
  · cases F with
    | nil => cases hl2
    | cons ka na ta Fa R =>
      cases R with
      | nil => cases hl2
      | cons kb nb tb Fb R2 =>
        cases R2 with
        | cons _ _ _ _ _ => simp [Trees.length] at hl2
        | nil =>
          have e : nodeE 3 n t (Trees.textsE (.cons ka na ta Fa (.cons kb nb tb Fb .nil))) = [40] ++ nodeE ka na ta Fa.textsE ++ signE n ++ nodeE kb nb tb Fb.textsE ++ [41] := rfl
          rw [e] at hlt ⊢
          simp only [Trees.formedE, Bool.and_eq_true] at hfm
          simp only [Trees.count] at hc hlt
          rw [show (Trees.length (.cons ka na ta Fa (.cons kb nb tb Fb .nil))) = 2 from rfl] at *
          obtain ⟨y, pa, ca, rfl, a0, a1, a2, a3, hsa, hxb⟩ := (hx.below hB0).open
          obtain ⟨y', pb, cb, e', b0, b1, b2, b3, hsb, _⟩ := hxb.open
          cases e'
          obtain ⟨_, c1, _, c3, _⟩ := four_cells (heap_at_new w (.cells #[.int .i64 3, .int .i64 n, .string t, .slice (some y) 2 cap] 40))
          generalize hw0 : w.alloc (.cells #[.int .i64 3, .int .i64 n, .string t, .slice (some y) 2 cap] 40) = w0 at *
          have HW0 := Lib.hid hw0
          have HF : Hid (∀ W, Below w0.heap.size w0 W → (W.cell? ⟨w.heap.size, 1, none⟩ = some (.int .i64 n) ∧ W.cell? ⟨w.heap.size, 3, none⟩ = some (.slice (some y) 2 cap)) ∧ (W.cell? y = some (.int .i64 ka) ∧ W.cell? { block := y.block, off := y.off + 1 } = some (.int .i64 na) ∧ W.cell? { block := y.block, off := y.off + 2 } = some (.string ta) ∧ W.cell? { block := y.block, off := y.off + 3 } = some (.slice pa Fa.length ca)) ∧ W.cell? { block := y.block, off := y.off + 4 } = some (.int .i64 kb) ∧ W.cell? { block := y.block, off := y.off + 4 + 1 } = some (.int .i64 nb) ∧ W.cell? { block := y.block, off := y.off + 4 + 2 } = some (.string tb) ∧ W.cell? { block := y.block, off := y.off + 4 + 3 } = some (.slice pb Fb.length cb)) := fun W hb => ⟨⟨cell_below c1 hb, cell_below c3 hb⟩, ⟨cell_below a0 hb, cell_below a1 hb, cell_below a2 hb, cell_below a3 hb⟩, cell_below b0 hb, cell_below b1 hb, cell_below b2 hb, cell_below b3 hb⟩
          have HCA := Lib.hid (fun W (hb : Below w0.heap.size w0 W) => hall.1 hfm.2.1 (by omega) W ka na ta pa ca hfm.1 (hsa.below hb))
          have HCS := Lib.hid (fun W => spec_sign n ho W)
          have HCB := Lib.hid (fun W (hb : Below w0.heap.size w0 W) => hall.2.1 hfm.2.2.2.1 (by omega) W kb nb tb pb cb hfm.2.2.1 (hsb.below hb))
          simp only [List.length_append, List.length_cons, List.length_nil] at hlt
          have hk1 := fun w => cat [40] (nodeE ka na ta Fa.textsE) (by simp; omega) w
          have hk2 := fun w => cat ([40] ++ nodeE ka na ta Fa.textsE) (signE n) (by simp; omega) w
          have hk3 := fun w => cat ([40] ++ nodeE ka na ta Fa.textsE ++ signE n) (nodeE kb nb tb Fb.textsE) (by simp; omega) w
          have hk4 := fun w => cat ([40] ++ nodeE ka na ta Fa.textsE ++ signE n ++ nodeE kb nb tb Fb.textsE) [41] (by simp; omega) w
          change ∀ w, (Op.stringOp .add ⟨#[40]⟩ _).run Tryd.prog w = _ at hk1
          change ∀ w, (Op.stringOp .add _ ⟨#[41]⟩).run Tryd.prog w = _ at hk4
          generalize hu1 : str ([40] ++ nodeE ka na ta Fa.textsE) = u1 at *
          generalize hu2 : str ([40] ++ nodeE ka na ta Fa.textsE ++ signE n) = u2 at *
          generalize hu3 : str ([40] ++ nodeE ka na ta Fa.textsE ++ signE n ++ nodeE kb nb tb Fb.textsE) = u3 at *
          generalize hu4 : str ([40] ++ nodeE ka na ta Fa.textsE ++ signE n ++ nodeE kb nb tb Fb.textsE ++ [41]) = u4 at *
          generalize str (nodeE ka na ta Fa.textsE) = ua at *
          generalize str (nodeE kb nb tb Fb.textsE) = ub at *
          generalize str (signE n) = us at *
          have a0' : w0.cell? y = some (.int .i64 ka) := a0
          have a1' : w0.cell? { block := y.block, off := y.off + 1 } = some (.int .i64 na) := a1
          have a2' : w0.cell? { block := y.block, off := y.off + 2 } = some (.string ta) := a2
          have a3' : w0.cell? { block := y.block, off := y.off + 3 } = some (.slice pa Fa.length ca) := a3
          have b0' : w0.cell? { block := y.block, off := y.off + 4 } = some (.int .i64 kb) := b0
          have b1' : w0.cell? { block := y.block, off := y.off + 4 + 1 } = some (.int .i64 nb) := b1
          have b2' : w0.cell? { block := y.block, off := y.off + 4 + 2 } = some (.string tb) := b2
          have b3' : w0.cell? { block := y.block, off := y.off + 4 + 3 } = some (.slice pb Fb.length cb) := b3
          have HD : Hid (Below w0.heap.size w0 w0.drew) := (Below.refl _ _).drew
          clear hall hx hlt e hfm hc hpf hB0 hsa hsb hxb hw0 hu1 hu2 hu3 hu4 a0 a1 a2 a3 b0 b1 b2 b3 hl2 ho
          go_enter Tryd.func35, Tryd.ntmps35
          go_wp2
          rw [HW0.out]
          go_region_held3 (fun W => (W.cell? ⟨w.heap.size, 1, none⟩ = some (.int .i64 n) ∧ W.cell? ⟨w.heap.size, 3, none⟩ = some (.slice (some y) 2 cap)) ∧ (W.cell? y = some (.int .i64 ka) ∧ W.cell? { block := y.block, off := y.off + 1 } = some (.int .i64 na) ∧ W.cell? { block := y.block, off := y.off + 2 } = some (.string ta) ∧ W.cell? { block := y.block, off := y.off + 3 } = some (.slice pa Fa.length ca)) ∧ W.cell? { block := y.block, off := y.off + 4 } = some (.int .i64 kb) ∧ W.cell? { block := y.block, off := y.off + 4 + 1 } = some (.int .i64 nb) ∧ W.cell? { block := y.block, off := y.off + 4 + 2 } = some (.string tb) ∧ W.cell? { block := y.block, off := y.off + 4 + 3 } = some (.slice pb Fb.length cb))
            (first
              | go_keep
              | (have hkeep := HF.out _ HB3.out; exact hkeep)
              | (have hkeep := HF.out _ HB2.out; exact hkeep)
              | (have hkeep := HF.out _ HB1.out; exact hkeep)
              | fail "no arm")
            (first
              | (go_at_call 35; (with_reducible refine (HCA.out w0.drew HD.out).mono ?_); rintro e w1 ⟨rfl, hb1⟩; have HB1 : Hid (Below w0.heap.size w0 w1) := Below.trans HD.out (hb1.mono HD.out.size); clear hb1)
              | (go_at_call 64; (with_reducible refine (HCS.out w1).mono ?_); rintro e w2 ⟨rfl, hb2⟩; have HB2 : Hid (Below w0.heap.size w0 w2) := Below.trans HB1.out (hb2.mono HB1.out.size); clear hb2)
              | (go_at_call 35; (with_reducible refine (HCB.out w2 HB2.out).mono ?_); rintro e w3 ⟨rfl, hb3⟩; have HB3 : Hid (Below w0.heap.size w0 w3) := Below.trans HB2.out (hb3.mono HB2.out.size); clear hb3)
              | fail "no arm")
          clear a0' a1' a2' a3' b0' b1' b2' b3' HF HCA HCB HCS HD
          go_wp2
          go_ret
          exact ⟨rfl, HB0.out.trans (HB3.out.mono HB0.out.size)⟩
  · cases F with
    | nil => cases hl1
    | cons ka na ta Fa R =>
      cases R with
      | cons _ _ _ _ _ => simp [Trees.length] at hl1
      | nil =>
        have e : nodeE 4 n t (Trees.textsE (.cons ka na ta Fa .nil)) = [33] ++ nodeE ka na ta Fa.textsE := rfl
        rw [e] at hlt ⊢
        simp only [Trees.formedE, Bool.and_eq_true] at hfm
        simp only [Trees.count] at hc hlt
        rw [show (Trees.length (.cons ka na ta Fa .nil)) = 1 from rfl] at *
        obtain ⟨y, pa, ca, rfl, a0, a1, a2, a3, hsa, _⟩ := (hx.below hB0).open
        have c3 := (four_cells (heap_at_new w (.cells #[.int .i64 4, .int .i64 n, .string t, .slice (some y) 1 cap] 40))).2.2.2.1
        have HCA := Lib.hid (fun W (hb : Below (w.alloc (.cells #[.int .i64 4, .int .i64 n, .string t, .slice (some y) 1 cap] 40)).heap.size (w.alloc (.cells #[.int .i64 4, .int .i64 n, .string t, .slice (some y) 1 cap] 40)) W) => hall.1 hfm.2.1 (by omega) W ka na ta pa ca hfm.1 (hsa.below hb))
        simp only [List.length_append, List.length_cons, List.length_nil] at hlt
        have hk1 := fun w => cat [33] (nodeE ka na ta Fa.textsE) (by simp; omega) w
        change ∀ w, (Op.stringOp .add ⟨#[33]⟩ _).run Tryd.prog w = _ at hk1
        generalize hu1 : str ([33] ++ nodeE ka na ta Fa.textsE) = u1 at *
        generalize str (nodeE ka na ta Fa.textsE) = ua at *
        have a0' : (w.alloc (.cells #[.int .i64 4, .int .i64 n, .string t, .slice (some y) 1 cap] 40)).cell? y = some (.int .i64 ka) := a0
        have a1' : (w.alloc (.cells #[.int .i64 4, .int .i64 n, .string t, .slice (some y) 1 cap] 40)).cell? { block := y.block, off := y.off + 1 } = some (.int .i64 na) := a1
        have a2' : (w.alloc (.cells #[.int .i64 4, .int .i64 n, .string t, .slice (some y) 1 cap] 40)).cell? { block := y.block, off := y.off + 2 } = some (.string ta) := a2
        have a3' : (w.alloc (.cells #[.int .i64 4, .int .i64 n, .string t, .slice (some y) 1 cap] 40)).cell? { block := y.block, off := y.off + 3 } = some (.slice pa Fa.length ca) := a3
        clear hall hx hlt e hfm hc hpf hB0 hsa hu1 a0 a1 a2 a3 hl1
        go_enter Tryd.func35, Tryd.ntmps35
        go_wp2_with fail
        refine (HCA.out _ (Below.refl _ _)).mono ?_
        rintro e w1 ⟨rfl, hb1⟩
        have HB1 : Hid (Below w.heap.size w w1) := HB0.out.trans (hb1.mono HB0.out.size)
        clear a0' a1' a2' a3' HCA hb1
        go_wp2
        go_ret
        exact ⟨rfl, HB1.out⟩
end Go.Proofs.YtdifefgigcjgeaaDoor.Ex
