/- What is proved here: a piece of the proof of YtijbaienhaiamaaGreatDoorGuards (ExSpecText, ExSpecAll, ExSpecLeft, ExSpecDepth, ExSpecValid). Condition: none beyond what each part says. -/
import Derived.Test.YtijbaienhaiamaaGreatDoorGu08
import Derived.Test.YtijbaienhaiamaaGreatDoorGu02
import Derived.Deep.RegionHeld3
import Derived.Test.YtijbaienhaiamaaGreatDoorGu01

/- What is proved here: the model's l7Text returns the representation of an expression. Condition: the expression lies in memory as said, is valid node by node, and small. -/
section
namespace Go.Proofs.YtijbaienhaiamaaGreatDoor.Ex
open Go.RowKit

set_option maxHeartbeats 1000000 in
set_option maxRecDepth 100000 in
theorem spec_sign (n : Int) (h : inOp n = true) (w : World) :
    Calls Tryz.prog 148 #[.int .i64 n] w fun e w' => e = .returned (.string (str (signE n))) ∧ Below w.heap.size w w' := by
  rcases (inOp_iff n).1 h with rfl | rfl | rfl | rfl | rfl | rfl | rfl
  all_goals
    clear h
    go_enter Tryz.func148, Tryz.ntmps148
    go_wp2
    go_ret
    exact ⟨rfl, (Below.refl _ _).alloc (Nat.le_refl _) _⟩

set_option maxHeartbeats 4000000 in
set_option maxRecDepth 100000 in
theorem spec_expr_text : ∀ G : Trees, G.formedE = true → G.count ≤ 1048576 → ∀ (w : World) (k n : Int) (t : ByteArray) (p : Option Addr) (cap : Nat), exprForm k n t G.length = true → TreesAt w G p 0 →
    Calls Tryz.prog 85 #[.agg #[.int .i64 k, .int .i64 n, .string t, .slice p G.length cap]] w fun e w' => e = .returned (.string (str (nodeE k n t G.textsE))) ∧ Below w.heap.size w w' := by
  refine Trees.ind fun F hall hfm hc w k n t p cap hpf hx => ?_
  have hB0 : Below w.heap.size w (w.alloc (.cells #[.int .i64 k, .int .i64 n, .string t, .slice p F.length cap] 54)) := (Below.refl _ _).alloc (Nat.le_refl _) _
  have HB0 := Lib.hid hB0
  have hlt := textE_len k n t F hfm hpf
  rcases (exprForm_iff k n t F.length).1 hpf with ⟨rfl, hi, -⟩ | ⟨rfl, -, -, -⟩ | ⟨rfl, ho, -, hl2⟩ | ⟨rfl, -, -, hl1⟩
  · have e : nodeE 1 n t F.textsE = Lib.itoa n := rfl
    rw [e]
    unfold inInt at hi
    simp only [Bool.and_eq_true, decide_eq_true_eq] at hi
    have HF := spec_format n (by omega) (by omega)
    obtain ⟨c0, c1, c2, c3, _⟩ := four_cells (heap_at_new w (.cells #[.int .i64 1, .int .i64 n, .string t, .slice p F.length cap] 54))
    clear hall hx hB0 hlt e hfm hc hpf hi
    go_enter Tryz.func85, Tryz.ntmps85
    go_wp2_with fail
    refine (HF _).mono ?_
    rintro e w1 ⟨rfl, hb1⟩
    have HB1 := Lib.hid hb1
    clear hb1 HF
    go_wp2
    go_ret
    exact ⟨rfl, HB0.out.trans (HB1.out.mono HB0.out.size)⟩
  · have e : nodeE 2 n t F.textsE = t.data.toList := rfl
    rw [e, str_data]
    obtain ⟨c0, c1, c2, c3, _⟩ := four_cells (heap_at_new w (.cells #[.int .i64 2, .int .i64 n, .string t, .slice p F.length cap] 54))
    clear hall hx hB0 hlt e hfm hc hpf
    go_enter Tryz.func85, Tryz.ntmps85
    go_wp2
    go_ret
    exact ⟨rfl, HB0.out⟩
  · cases F with
    | nil => cases hl2
    | cons ka na ta Fa R =>
      cases R with
      | nil => cases hl2
      | cons kb nb tb Fb R2 =>
        cases R2 with
        | cons _ _ _ _ _ => simp [Trees.length] at hl2
        | nil =>
          have e : nodeE 3 n t (Trees.textsE (.cons ka na ta Fa (.cons kb nb tb Fb .nil))) = [40] ++ nodeE ka na ta Fa.textsE ++ signE n ++ nodeE kb nb tb Fb.textsE ++ [41] := rfl
          rw [e] at hlt ⊢
          simp only [Trees.formedE, Bool.and_eq_true] at hfm
          simp only [Trees.count] at hc hlt
          rw [show (Trees.length (.cons ka na ta Fa (.cons kb nb tb Fb .nil))) = 2 from rfl] at *
          obtain ⟨y, pa, ca, rfl, a0, a1, a2, a3, hsa, hxb⟩ := (hx.below hB0).open
          obtain ⟨y', pb, cb, e', b0, b1, b2, b3, hsb, _⟩ := hxb.open
          cases e'
          obtain ⟨_, c1, _, c3, _⟩ := four_cells (heap_at_new w (.cells #[.int .i64 3, .int .i64 n, .string t, .slice (some y) 2 cap] 54))
          generalize hw0 : w.alloc (.cells #[.int .i64 3, .int .i64 n, .string t, .slice (some y) 2 cap] 54) = w0 at *
          have HW0 := Lib.hid hw0
          have HF : Hid (∀ W, Below w0.heap.size w0 W → (W.cell? ⟨w.heap.size, 1, none⟩ = some (.int .i64 n) ∧ W.cell? ⟨w.heap.size, 3, none⟩ = some (.slice (some y) 2 cap)) ∧ (W.cell? y = some (.int .i64 ka) ∧ W.cell? { block := y.block, off := y.off + 1 } = some (.int .i64 na) ∧ W.cell? { block := y.block, off := y.off + 2 } = some (.string ta) ∧ W.cell? { block := y.block, off := y.off + 3 } = some (.slice pa Fa.length ca)) ∧ W.cell? { block := y.block, off := y.off + 4 } = some (.int .i64 kb) ∧ W.cell? { block := y.block, off := y.off + 4 + 1 } = some (.int .i64 nb) ∧ W.cell? { block := y.block, off := y.off + 4 + 2 } = some (.string tb) ∧ W.cell? { block := y.block, off := y.off + 4 + 3 } = some (.slice pb Fb.length cb)) := fun W hb => ⟨⟨cell_below c1 hb, cell_below c3 hb⟩, ⟨cell_below a0 hb, cell_below a1 hb, cell_below a2 hb, cell_below a3 hb⟩, cell_below b0 hb, cell_below b1 hb, cell_below b2 hb, cell_below b3 hb⟩
          have HCA := Lib.hid (fun W (hb : Below w0.heap.size w0 W) => hall.1 hfm.2.1 (by omega) W ka na ta pa ca hfm.1 (hsa.below hb))
          have HCS := Lib.hid (fun W => spec_sign n ho W)
          have HCB := Lib.hid (fun W (hb : Below w0.heap.size w0 W) => hall.2.1 hfm.2.2.2.1 (by omega) W kb nb tb pb cb hfm.2.2.1 (hsb.below hb))
          simp only [List.length_append, List.length_cons, List.length_nil] at hlt
          have hk1 := fun w => cat [40] (nodeE ka na ta Fa.textsE) (by simp; omega) w
          have hk2 := fun w => cat ([40] ++ nodeE ka na ta Fa.textsE) (signE n) (by simp; omega) w
          have hk3 := fun w => cat ([40] ++ nodeE ka na ta Fa.textsE ++ signE n) (nodeE kb nb tb Fb.textsE) (by simp; omega) w
          have hk4 := fun w => cat ([40] ++ nodeE ka na ta Fa.textsE ++ signE n ++ nodeE kb nb tb Fb.textsE) [41] (by simp; omega) w
          change ∀ w, (Op.stringOp .add ⟨#[40]⟩ _).run Tryz.prog w = _ at hk1
          change ∀ w, (Op.stringOp .add _ ⟨#[41]⟩).run Tryz.prog w = _ at hk4
          generalize hu1 : str ([40] ++ nodeE ka na ta Fa.textsE) = u1 at *
          generalize hu2 : str ([40] ++ nodeE ka na ta Fa.textsE ++ signE n) = u2 at *
          generalize hu3 : str ([40] ++ nodeE ka na ta Fa.textsE ++ signE n ++ nodeE kb nb tb Fb.textsE) = u3 at *
          generalize hu4 : str ([40] ++ nodeE ka na ta Fa.textsE ++ signE n ++ nodeE kb nb tb Fb.textsE ++ [41]) = u4 at *
          generalize str (nodeE ka na ta Fa.textsE) = ua at *
          generalize str (nodeE kb nb tb Fb.textsE) = ub at *
          generalize str (signE n) = us at *
          have a0' : w0.cell? y = some (.int .i64 ka) := a0
          have a1' : w0.cell? { block := y.block, off := y.off + 1 } = some (.int .i64 na) := a1
          have a2' : w0.cell? { block := y.block, off := y.off + 2 } = some (.string ta) := a2
          have a3' : w0.cell? { block := y.block, off := y.off + 3 } = some (.slice pa Fa.length ca) := a3
          have b0' : w0.cell? { block := y.block, off := y.off + 4 } = some (.int .i64 kb) := b0
          have b1' : w0.cell? { block := y.block, off := y.off + 4 + 1 } = some (.int .i64 nb) := b1
          have b2' : w0.cell? { block := y.block, off := y.off + 4 + 2 } = some (.string tb) := b2
          have b3' : w0.cell? { block := y.block, off := y.off + 4 + 3 } = some (.slice pb Fb.length cb) := b3
          have HD : Hid (Below w0.heap.size w0 w0.drew) := (Below.refl _ _).drew
          clear hall hx hlt e hfm hc hpf hB0 hsa hsb hxb hw0 hu1 hu2 hu3 hu4 a0 a1 a2 a3 b0 b1 b2 b3 hl2 ho
          go_enter Tryz.func85, Tryz.ntmps85
          go_wp2
          rw [HW0.out]
          go_region_held3 (fun W => (W.cell? ⟨w.heap.size, 1, none⟩ = some (.int .i64 n) ∧ W.cell? ⟨w.heap.size, 3, none⟩ = some (.slice (some y) 2 cap)) ∧ (W.cell? y = some (.int .i64 ka) ∧ W.cell? { block := y.block, off := y.off + 1 } = some (.int .i64 na) ∧ W.cell? { block := y.block, off := y.off + 2 } = some (.string ta) ∧ W.cell? { block := y.block, off := y.off + 3 } = some (.slice pa Fa.length ca)) ∧ W.cell? { block := y.block, off := y.off + 4 } = some (.int .i64 kb) ∧ W.cell? { block := y.block, off := y.off + 4 + 1 } = some (.int .i64 nb) ∧ W.cell? { block := y.block, off := y.off + 4 + 2 } = some (.string tb) ∧ W.cell? { block := y.block, off := y.off + 4 + 3 } = some (.slice pb Fb.length cb))
            (first
              | go_keep
              | (have hkeep := HF.out _ HB3.out; exact hkeep)
              | (have hkeep := HF.out _ HB2.out; exact hkeep)
              | (have hkeep := HF.out _ HB1.out; exact hkeep)
              | fail "no arm")
            (first
              | (go_at_call 85; (with_reducible refine (HCA.out w0.drew HD.out).mono ?_); rintro e w1 ⟨rfl, hb1⟩; have HB1 : Hid (Below w0.heap.size w0 w1) := Below.trans HD.out (hb1.mono HD.out.size); clear hb1)
              | (go_at_call 148; (with_reducible refine (HCS.out w1).mono ?_); rintro e w2 ⟨rfl, hb2⟩; have HB2 : Hid (Below w0.heap.size w0 w2) := Below.trans HB1.out (hb2.mono HB1.out.size); clear hb2)
              | (go_at_call 85; (with_reducible refine (HCB.out w2 HB2.out).mono ?_); rintro e w3 ⟨rfl, hb3⟩; have HB3 : Hid (Below w0.heap.size w0 w3) := Below.trans HB2.out (hb3.mono HB2.out.size); clear hb3)
              | fail "no arm")
          clear a0' a1' a2' a3' b0' b1' b2' b3' HF HCA HCB HCS HD
          go_wp2
          go_ret
          exact ⟨rfl, HB0.out.trans (HB3.out.mono HB0.out.size)⟩
  · cases F with
    | nil => cases hl1
    | cons ka na ta Fa R =>
      cases R with
      | cons _ _ _ _ _ => simp [Trees.length] at hl1
      | nil =>
        have e : nodeE 4 n t (Trees.textsE (.cons ka na ta Fa .nil)) = [33] ++ nodeE ka na ta Fa.textsE := rfl
        rw [e] at hlt ⊢
        simp only [Trees.formedE, Bool.and_eq_true] at hfm
        simp only [Trees.count] at hc hlt
        rw [show (Trees.length (.cons ka na ta Fa .nil)) = 1 from rfl] at *
        obtain ⟨y, pa, ca, rfl, a0, a1, a2, a3, hsa, _⟩ := (hx.below hB0).open
        have c3 := (four_cells (heap_at_new w (.cells #[.int .i64 4, .int .i64 n, .string t, .slice (some y) 1 cap] 54))).2.2.2.1
        have HCA := Lib.hid (fun W (hb : Below (w.alloc (.cells #[.int .i64 4, .int .i64 n, .string t, .slice (some y) 1 cap] 54)).heap.size (w.alloc (.cells #[.int .i64 4, .int .i64 n, .string t, .slice (some y) 1 cap] 54)) W) => hall.1 hfm.2.1 (by omega) W ka na ta pa ca hfm.1 (hsa.below hb))
        simp only [List.length_append, List.length_cons, List.length_nil] at hlt
        have hk1 := fun w => cat [33] (nodeE ka na ta Fa.textsE) (by simp; omega) w
        change ∀ w, (Op.stringOp .add ⟨#[33]⟩ _).run Tryz.prog w = _ at hk1
        generalize hu1 : str ([33] ++ nodeE ka na ta Fa.textsE) = u1 at *
        generalize str (nodeE ka na ta Fa.textsE) = ua at *
        have a0' : (w.alloc (.cells #[.int .i64 4, .int .i64 n, .string t, .slice (some y) 1 cap] 54)).cell? y = some (.int .i64 ka) := a0
        have a1' : (w.alloc (.cells #[.int .i64 4, .int .i64 n, .string t, .slice (some y) 1 cap] 54)).cell? { block := y.block, off := y.off + 1 } = some (.int .i64 na) := a1
        have a2' : (w.alloc (.cells #[.int .i64 4, .int .i64 n, .string t, .slice (some y) 1 cap] 54)).cell? { block := y.block, off := y.off + 2 } = some (.string ta) := a2
        have a3' : (w.alloc (.cells #[.int .i64 4, .int .i64 n, .string t, .slice (some y) 1 cap] 54)).cell? { block := y.block, off := y.off + 3 } = some (.slice pa Fa.length ca) := a3
        clear hall hx hlt e hfm hc hpf hB0 hsa hu1 a0 a1 a2 a3 hl1
        go_enter Tryz.func85, Tryz.ntmps85
        go_wp2_with fail
        refine (HCA.out _ (Below.refl _ _)).mono ?_
        rintro e w1 ⟨rfl, hb1⟩
        have HB1 : Hid (Below w.heap.size w w1) := HB0.out.trans (hb1.mono HB0.out.size)
        clear a0' a1' a2' a3' HCA hb1
        go_wp2
        go_ret
        exact ⟨rfl, HB1.out⟩
end Go.Proofs.YtijbaienhaiamaaGreatDoor.Ex
end

/- What is proved here: the model's l7All says whether every node of an expression has one of the four forms. Condition: the pattern lies in memory as said, and is small. -/
section
namespace Go.Proofs.YtijbaienhaiamaaGreatDoor.Ex
open Go.RowKit

set_option maxHeartbeats 1000000 in
set_option maxRecDepth 100000 in
theorem spec_all : ∀ F : Trees, F.fits → F.count ≤ 1048576 → ∀ (w : World) (k n : Int) (t : ByteArray) (p : Option Addr) (cap : Nat), t.size ≤ maxLen → TreesAt w F p 0 →
    Calls Tryz.prog 88 #[.agg #[.int .i64 k, .int .i64 n, .string t, .slice p F.length cap]] w fun e w' => e = .returned (.bool (F.formedE && exprForm k n t F.length)) ∧ Below w.heap.size w w' := by
  refine Trees.ind fun F hall hfit hc w k n t p cap ht hx => ?_
  have hlc := F.length_le_count
  have HALL := Lib.hid hall
  have HFIT := Lib.hid hfit
  clear hall hfit
  generalize hz : (F.formedE && exprForm k n t F.length) = z
  have HZ := Lib.hid hz
  have HCC := Lib.hid hc
  generalize hn : F.length = nn at *
  have HN := Lib.hid hn
  clear hn hz
  generalize hfm : exprForm k n t nn = fm at *
  have HFM := Lib.hid hfm
  clear hfm
  have hB0 : Below w.heap.size w (w.alloc (.cells #[.int .i64 k, .int .i64 n, .string t, .slice p nn cap] 54)) := (Below.refl _ _).alloc (Nat.le_refl _) _
  have HX := Lib.hid (hx.below hB0)
  obtain ⟨c0, c1, c2, hc3, _⟩ := four_cells (heap_at_new w (.cells #[.int .i64 k, .int .i64 n, .string t, .slice p nn cap] 54))
  have HTS := Lib.hid ht
  clear ht
  go_enter Tryz.func88, Tryz.ntmps88
  go_wp2
  generalize w.alloc (.cells #[.int .i64 k, .int .i64 n, .string t, .slice p nn cap] 54) = w0 at *
  have HB0 := Lib.hid hB0
  have HC0 := Lib.hid c0
  have HC1 := Lib.hid c1
  have HC2 := Lib.hid c2
  have HC3 := Lib.hid hc3
  clear hB0 hx hc3 c0 c1 c2
  go_loopw [3] (fun i wr => ∃ (j : Nat) (rest : Trees), i = .int .i64 j ∧ j + rest.length = nn ∧ Hid (rest.count ≤ 1048576) ∧ Hid (rest.fits) ∧ Hid ((rest.formedE && fm) = z) ∧ Hid (TreesAt w0 rest p j) ∧ Hid (rest.All (fun G => G.fits → G.count ≤ 1048576 → ∀ (w : World) (k n : Int) (t : ByteArray) (p : Option Addr) (cap : Nat), t.size ≤ maxLen → TreesAt w G p 0 →
    Calls Tryz.prog 88 #[.agg #[.int .i64 k, .int .i64 n, .string t, .slice p G.length cap]] w fun e w' => e = .returned (.bool (G.formedE && exprForm k n t G.length)) ∧ Below w.heap.size w w')) ∧ Hid (Below w0.heap.size w0 wr)) (fun i _ => nn - (intOf i).toNat)
  case atStart => exact ⟨0, F, rfl, by rw [HN.out]; omega, HCC, HFIT, HZ, HX, HALL, Below.refl _ _⟩
  case round =>
    obtain ⟨j, rest, rfl, hjn, hcr, hfr, hz, hxr, hall, hB⟩ := hrel
    have hb3 := cell_below HC3.out hB.out
    cases rest with
    | cons kd nu tx ar r =>
      have hjl : j < nn := by simp only [Trees.length] at hjn; omega
      have hjn2 : j + 1 + r.length = nn := by simp only [Trees.length] at hjn; omega
      have hcr2 := hcr.out
      simp only [Trees.count] at hcr2
      have hz2 := hz.out
      simp only [Trees.formedE] at hz2
      obtain ⟨y, q, cq, rfl, h1, h2, h3, h4, hs, hr⟩ := (hxr.out.below hB.out).open
      have hxr2 : Hid (TreesAt w0 r (some y) (j + 1)) := hxr.out.2
      have H := hall.out.1 hfr.out.2.2.2.2.1 (by omega) wr kd nu tx q cq hfr.out.2.2.1 hs
      have HA2 := Lib.hid hall.out.2
      have HCR : Hid (r.count ≤ 1048576) := by unfold Hid; omega
      have HFR : Hid r.fits := hfr.out.2.2.2.2.2
      have HB := Lib.hid hB.out
      have hzz : (ar.formedE && exprForm kd nu tx ar.length) = false → z = false := fun h => by
        rw [← hz2]
        cases h5 : ar.formedE <;> cases h6 : exprForm kd nu tx ar.length <;> simp_all
      have hzy : (ar.formedE && exprForm kd nu tx ar.length) = true → (r.formedE && fm) = z := fun h => by
        rw [← hz2]
        cases h5 : ar.formedE <;> cases h6 : exprForm kd nu tx ar.length <;> simp_all
      have HZZ := Lib.hid hzz
      have HZY := Lib.hid hzy
      clear hxr hall hs hr hjn hz hz2 hcr hcr2 hfr hzz hzy
      cases hb : (ar.formedE && exprForm kd nu tx ar.length) with
      | false =>
        rw [hb] at H
        have HE : Hid (z = false) := HZZ.out hb
        clear hb
        go_wp2_with fail
        refine H.mono ?_
        rintro e w1 ⟨rfl, hb1⟩
        have HB1 : Hid (Below w0.heap.size w0 w1) := HB.out.trans (hb1.mono HB.out.size)
        clear hb1 H
        go_wp2
        go_ret
        exact ⟨by rw [HE.out]; rfl, HB0.out.trans (HB1.out.mono HB0.out.size)⟩
      | true =>
        rw [hb] at H
        have HE : Hid ((r.formedE && fm) = z) := HZY.out hb
        clear hb
        go_wp2_with fail
        refine H.mono ?_
        rintro e w1 ⟨rfl, hb1⟩
        have HB1 : Hid (Below w0.heap.size w0 w1) := HB.out.trans (hb1.mono HB.out.size)
        clear hb1 H
        go_wp2
        go_roundw
        case rel => exact ⟨j + 1, r, by go_num, hjn2, HCR, HFR, HE, hxr2, HA2, HB1⟩
        case measure => simp [intOf]; omega
    | nil =>
      obtain rfl : j = nn := by simp only [Trees.length] at hjn; omega
      obtain rfl : z = fm := by have := hz.out; simpa [Trees.formedE] using this.symm
      have c0 := cell_below HC0.out hB.out
      have c1 := cell_below HC1.out hB.out
      have c2 := cell_below HC2.out hB.out
      have c3 := cell_below HC3.out hB.out
      have HBW : Hid (Below w.heap.size w wr) := HB0.out.trans (hB.out.mono HB0.out.size)
      have hz := HFM.out
      have ht := HTS.out
      clear hxr hall hfr HFM HTS
      by_cases hk1 : k = 1
      · have hk := hk1
        subst hk1
        clear hk
        have HC : Hid (∀ w, Calls Tryz.prog 123 #[.int .i64 n, .int .i64 (-999999999999), .int .i64 999999999999] w fun e w' => e = .returned (.bool (inInt n)) ∧ Below w.heap.size w w') := fun w => (spec_inInt n w).mono (by rintro e w' ⟨rfl, rfl⟩; exact ⟨rfl, Below.refl _ _⟩)
        cases hq : inInt n with
        | false =>
          simp only [hq] at HC
          have HZ : Hid (z = false) := by unfold Hid; rw [← hz]; unfold exprForm; simp [hq]
          clear hz ht
          go_wp2_with fail
          refine (HC.out wr).mono ?_
          rintro e w1 ⟨rfl, hb1⟩
          have c3 := cell_below c3 hb1
          have c2 := cell_below c2 hb1
          have c1 := cell_below c1 hb1
          have HB1 : Hid (Below w.heap.size w w1) := HBW.out.trans (hb1.mono HBW.out.size)
          clear hb1
          go_wp2
          go_ret
          exact ⟨by rw [HZ.out]; rfl, HB1.out⟩
        | true =>
          simp only [hq] at HC
          by_cases he : t.size = 0
          · have hE := bl_true he
            obtain ⟨q, hl⟩ : ∃ q, bl (j = 0) = q := ⟨_, rfl⟩
            have hl0 : ((j : Int) == 0) = q := by rw [← hl]; exact bl_len j 0
            have HZ : Hid (z = q) := by unfold Hid; rw [← hz]; unfold exprForm; generalize bl (t.size = 0) = e at hE ⊢; subst hE; simp [hq, hl]
            clear hz hE
            obtain rfl := empty_of t he
            clear ht he
            go_wp2_with fail
            refine (HC.out wr).mono ?_
            rintro e w1 ⟨rfl, hb1⟩
            have c3 := cell_below c3 hb1
            have c2 := cell_below c2 hb1
            have c1 := cell_below c1 hb1
            have HB1 : Hid (Below w.heap.size w w1) := HBW.out.trans (hb1.mono HBW.out.size)
            clear hb1
            go_wp2
            go_ret
            exact ⟨by rw [HZ.out]; rfl, HB1.out⟩
          · have hE := bl_false he
            have hne := ne_empty t (by omega)
            have hne2 := bl_empty t (by omega)
            have HZ : Hid (z = false) := by unfold Hid; rw [← hz]; unfold exprForm; generalize bl (t.size = 0) = e at hE ⊢; subst hE; simp [hq]
            clear hz ht
            go_wp2_with fail
            refine (HC.out wr).mono ?_
            rintro e w1 ⟨rfl, hb1⟩
            have c3 := cell_below c3 hb1
            have c2 := cell_below c2 hb1
            have c1 := cell_below c1 hb1
            have HB1 : Hid (Below w.heap.size w w1) := HBW.out.trans (hb1.mono HBW.out.size)
            clear hb1
            go_wp2
            go_ret
            exact ⟨by rw [HZ.out]; rfl, HB1.out⟩
      by_cases hk2 : k = 2
      · have hk := hk2
        subst hk2
        clear hk
        by_cases hn : n = 0
        · subst hn
          have HC : Hid (∀ w, Calls Tryz.prog 132 #[.string t] w fun e w' => e = .returned (.bool (bl (Name t))) ∧ Below w.heap.size w w') := fun w => spec_name t ht w
          cases hq : bl (Name t) with
          | false =>
            simp only [hq] at HC
            have HZ : Hid (z = false) := by unfold Hid; rw [← hz]; unfold exprForm; simp [hq]
            clear hz ht
            go_wp2_with fail
            refine (HC.out wr).mono ?_
            rintro e w1 ⟨rfl, hb1⟩
            have c3 := cell_below c3 hb1
            have c2 := cell_below c2 hb1
            have c1 := cell_below c1 hb1
            have HB1 : Hid (Below w.heap.size w w1) := HBW.out.trans (hb1.mono HBW.out.size)
            clear hb1
            go_wp2
            go_ret
            exact ⟨by rw [HZ.out]; rfl, HB1.out⟩
          | true =>
            simp only [hq] at HC
            obtain ⟨q, hl⟩ : ∃ q, bl (j = 0) = q := ⟨_, rfl⟩
            have hl0 : ((j : Int) == 0) = q := by rw [← hl]; exact bl_len j 0
            have HZ : Hid (z = q) := by unfold Hid; rw [← hz]; unfold exprForm; simp [hq, hl]
            clear hz ht
            go_wp2_with fail
            refine (HC.out wr).mono ?_
            rintro e w1 ⟨rfl, hb1⟩
            have c3 := cell_below c3 hb1
            have c2 := cell_below c2 hb1
            have c1 := cell_below c1 hb1
            have HB1 : Hid (Below w.heap.size w w1) := HBW.out.trans (hb1.mono HBW.out.size)
            clear hb1
            go_wp2
            go_ret
            exact ⟨by rw [HZ.out]; rfl, HB1.out⟩
        · have hn2 : (n == 0) = false := by simpa using hn
          have hn3 : (n != 0) = true := by simpa using hn
          have HZ : Hid (z = false) := by unfold Hid; rw [← hz]; unfold exprForm; simp [hn]
          clear hz ht
          go_wp2
          go_ret
          exact ⟨by rw [HZ.out]; rfl, HBW.out⟩
      by_cases hk3 : k = 3
      · have hk := hk3
        subst hk3
        clear hk
        by_cases he : t.size = 0
        · have hE := bl_true he
          have HC : Hid (∀ w, Calls Tryz.prog 123 #[.int .i64 n, .int .i64 1, .int .i64 7] w fun e w' => e = .returned (.bool (inOp n)) ∧ Below w.heap.size w w') := fun w => (spec_inOp n w).mono (by rintro e w' ⟨rfl, rfl⟩; exact ⟨rfl, Below.refl _ _⟩)
          cases hq : inOp n with
          | false =>
            simp only [hq] at HC
            have HZ : Hid (z = false) := by unfold Hid; rw [← hz]; unfold exprForm; simp [hq]
            clear hz hE
            obtain rfl := empty_of t he
            clear ht he
            go_wp2_with fail
            refine (HC.out wr).mono ?_
            rintro e w1 ⟨rfl, hb1⟩
            have c3 := cell_below c3 hb1
            have HB1 : Hid (Below w.heap.size w w1) := HBW.out.trans (hb1.mono HBW.out.size)
            clear hb1
            go_wp2
            go_ret
            exact ⟨by rw [HZ.out]; rfl, HB1.out⟩
          | true =>
            simp only [hq] at HC
            obtain ⟨q, hl⟩ : ∃ q, bl (j = 2) = q := ⟨_, rfl⟩
            have hl0 : ((j : Int) == 2) = q := by rw [← hl]; exact bl_len j 2
            have HZ : Hid (z = q) := by unfold Hid; rw [← hz]; unfold exprForm; generalize bl (t.size = 0) = e at hE ⊢; subst hE; simp [hq, hl]
            clear hz hE
            obtain rfl := empty_of t he
            clear ht he
            go_wp2_with fail
            refine (HC.out wr).mono ?_
            rintro e w1 ⟨rfl, hb1⟩
            have c3 := cell_below c3 hb1
            have HB1 : Hid (Below w.heap.size w w1) := HBW.out.trans (hb1.mono HBW.out.size)
            clear hb1
            go_wp2
            go_ret
            exact ⟨by rw [HZ.out]; rfl, HB1.out⟩
        · have hE := bl_false he
          have hne := ne_empty t (by omega)
          have hne2 := bl_empty t (by omega)
          have HZ : Hid (z = false) := by unfold Hid; rw [← hz]; unfold exprForm; generalize bl (t.size = 0) = e at hE ⊢; subst hE; simp
          clear hz ht
          go_wp2
          go_ret
          exact ⟨by rw [HZ.out]; rfl, HBW.out⟩
      by_cases hk4 : k = 4
      · have hk := hk4
        subst hk4
        clear hk
        by_cases hn : n = 0
        · subst hn
          by_cases he : t.size = 0
          · have hE := bl_true he
            obtain ⟨q, hl⟩ : ∃ q, bl (j = 1) = q := ⟨_, rfl⟩
            have hl0 : ((j : Int) == 1) = q := by rw [← hl]; exact bl_len j 1
            have HZ : Hid (z = q) := by unfold Hid; rw [← hz]; unfold exprForm; generalize bl (t.size = 0) = e at hE ⊢; subst hE; simp [hl]
            clear hz hE
            obtain rfl := empty_of t he
            clear ht he
            go_wp2
            go_ret
            exact ⟨by rw [HZ.out]; rfl, HBW.out⟩
          · have hE := bl_false he
            have hne := ne_empty t (by omega)
            have hne2 := bl_empty t (by omega)
            have HZ : Hid (z = false) := by unfold Hid; rw [← hz]; unfold exprForm; generalize bl (t.size = 0) = e at hE ⊢; subst hE; simp
            clear hz ht
            go_wp2
            go_ret
            exact ⟨by rw [HZ.out]; rfl, HBW.out⟩
        · have hn2 : (n == 0) = false := by simpa using hn
          have hn3 : (n != 0) = true := by simpa using hn
          have HZ : Hid (z = false) := by unfold Hid; rw [← hz]; unfold exprForm; simp [hn]
          clear hz ht
          go_wp2
          go_ret
          exact ⟨by rw [HZ.out]; rfl, HBW.out⟩
      have hb1 : (k == 1) = false := by simpa using hk1
      have hb2 : (k == 2) = false := by simpa using hk2
      have hb3 : (k == 3) = false := by simpa using hk3
      have hb4 : (k == 4) = false := by simpa using hk4
      cases hq : (n == 0) with
      | true =>
        have hq2 : (n != 0) = false := by simp [bne, hq]
        have HZ : Hid (z = false) := by unfold Hid; rw [← hz]; unfold exprForm; simp [hk1, hk2, hk3, hk4]
        clear hz ht
        go_wp2
        go_ret
        exact ⟨by rw [HZ.out]; rfl, HBW.out⟩
      | false =>
        have hq2 : (n != 0) = true := by simp [bne, hq]
        have HZ : Hid (z = false) := by unfold Hid; rw [← hz]; unfold exprForm; simp [hk1, hk2, hk3, hk4]
        clear hz ht
        go_wp2
        go_ret
        exact ⟨by rw [HZ.out]; rfl, HBW.out⟩
end Go.Proofs.YtijbaienhaiamaaGreatDoor.Ex
end

/- What is proved here: the model's l4Left counts a value's nodes down. Condition: the value lies in memory as said, and is small. -/
section
namespace Go.Proofs.YtijbaienhaiamaaGreatDoor.Ex
open Go.RowKit

theorem left_step (q a b : Nat) : (left q a < 0 → left q (a + b) = -1) ∧ (0 ≤ left q a → left q (a + b) = left (left q a).toNat b) := by
  by_cases h : a ≤ q
  · rw [left_yes h]
    refine ⟨fun h => by omega, fun _ => ?_⟩
    rw [Int.toNat_natCast]
    unfold left
    split <;> split <;> omega
  · rw [left_no h]
    exact ⟨fun _ => left_no (by omega), fun h => by omega⟩

set_option maxHeartbeats 1000000 in
set_option maxRecDepth 100000 in
theorem spec_left : ∀ F : Trees, F.count ≤ 1048576 → ∀ (L : Nat), L ≤ 1048576 → ∀ (w : World) (k n : Int) (t : ByteArray) (p : Option Addr) (cap : Nat), TreesAt w F p 0 →
    Calls Tryz.prog 86 #[.agg #[.int .i64 k, .int .i64 n, .string t, .slice p F.length cap], .int .i64 (L : Int)] w fun e w' => e = .returned (.int .i64 (left L (1 + F.count))) ∧ Below w.heap.size w w' := by
  refine Trees.ind fun F hall hc L hL w k n t p cap hx => ?_
  have hlc := F.length_le_count
  have HALL := Lib.hid hall
  clear hall
  generalize hn : F.length = nn at *
  have HN := Lib.hid hn
  have hB0 : Below w.heap.size w (w.alloc (.cells #[.int .i64 k, .int .i64 n, .string t, .slice p nn cap] 54)) := (Below.refl _ _).alloc (Nat.le_refl _) _
  have HX := Lib.hid (hx.below hB0)
  have hc3 := (four_cells (heap_at_new w (.cells #[.int .i64 k, .int .i64 n, .string t, .slice p nn cap] 54))).2.2.2.1
  have HB0 := Lib.hid hB0
  have hz : ((L : Int) - 1 < 0 → left L (1 + F.count) = -1) ∧ (0 ≤ (L : Int) - 1 → left L (1 + F.count) = left ((L : Int) - 1).toNat F.count) := by
    refine ⟨fun h => left_no (by omega), fun h => ?_⟩
    unfold left
    split <;> split <;> omega
  have HZ := Lib.hid hz
  have hMb : -1 ≤ (L : Int) - 1 ∧ (L : Int) - 1 ≤ 1048576 := by omega
  generalize left L (1 + F.count) = z at *
  generalize hM : (L : Int) - 1 = M at *
  have HM := Lib.hid hM
  clear hM
  clear hn hz
  go_enter Tryz.func86, Tryz.ntmps86
  go_wp2
  generalize w.alloc (.cells #[.int .i64 k, .int .i64 n, .string t, .slice p nn cap] 54) = w0 at *
  have HC3 := Lib.hid hc3
  clear hB0 hx hc3
  go_loopw [1, 5] (fun l i wr => ∃ (j : Nat) (m : Int) (rest : Trees), i = .int .i64 j ∧ l = .int .i64 m ∧ (-1 ≤ m ∧ m ≤ 1048576) ∧ j + rest.length = nn ∧ Hid (rest.count ≤ 1048576) ∧ Hid ((m < 0 → z = -1) ∧ (0 ≤ m → z = left m.toNat rest.count)) ∧ Hid (TreesAt w0 rest p j) ∧ Hid (rest.All (fun G => G.count ≤ 1048576 → ∀ (L : Nat), L ≤ 1048576 → ∀ (w : World) (k n : Int) (t : ByteArray) (p : Option Addr) (cap : Nat), TreesAt w G p 0 →
    Calls Tryz.prog 86 #[.agg #[.int .i64 k, .int .i64 n, .string t, .slice p G.length cap], .int .i64 (L : Int)] w fun e w' => e = .returned (.int .i64 (left L (1 + G.count))) ∧ Below w.heap.size w w')) ∧ Hid (Below w0.heap.size w0 wr)) (fun _ i _ => nn - (intOf i).toNat)
  case atStart => exact ⟨0, M, F, rfl, by rw [HM.out], hMb, by rw [HN.out]; omega, hc, HZ, HX, HALL, Below.refl _ _⟩
  case round =>
    obtain ⟨j, m, rest, rfl, rfl, hm, hjn, hcr, hz, hxr, hall, hB⟩ := hrel
    have hb3 := cell_below HC3.out hB.out
    cases rest with
    | cons kd nu tx ar r =>
      have hjl : j < nn := by simp only [Trees.length] at hjn; omega
      have hjn2 : j + 1 + r.length = nn := by simp only [Trees.length] at hjn; omega
      by_cases hneg : m < 0
      · have HE : Hid (z = -1) := hz.out.1 hneg
        obtain rfl : m = -1 := by omega
        clear hz hxr hall hneg hm
        go_wp2
        go_ret
        exact ⟨by rw [HE.out]; rfl, HB0.out.trans (hB.out.mono HB0.out.size)⟩
      · obtain ⟨q, rfl⟩ : ∃ q : Nat, m = q := ⟨m.toNat, by omega⟩
        have hq : q ≤ 1048576 := by omega
        have hcr2 := hcr.out
        simp only [Trees.count] at hcr2
        have hz2 := hz.out.2 (by omega)
        rw [Int.toNat_natCast] at hz2
        obtain ⟨y, q2, cq, rfl, h1, h2, h3, h4, hs, hr⟩ := (hxr.out.below hB.out).open
        have hxr2 : Hid (TreesAt w0 r (some y) (j + 1)) := hxr.out.2
        have H := hall.out.1 (by omega) q hq wr kd nu tx q2 cq hs
        have HA2 := Lib.hid hall.out.2
        have HZ2 : Hid ((left q (1 + ar.count) < 0 → z = -1) ∧ (0 ≤ left q (1 + ar.count) → z = left (left q (1 + ar.count)).toNat r.count)) := by
          unfold Hid
          rw [hz2]
          exact left_step q (1 + ar.count) r.count
        have hlr : -1 ≤ left q (1 + ar.count) ∧ left q (1 + ar.count) ≤ 1048576 := by unfold left; split <;> omega
        have HCR : Hid (r.count ≤ 1048576) := by unfold Hid; omega
        generalize left q (1 + ar.count) = d at *
        clear hxr hall hs hr hjn hz hz2 hm hneg hcr hcr2
        go_wp2_with fail
        refine H.mono ?_
        rintro e w1 ⟨rfl, hb1⟩
        have HB1 : Hid (Below w0.heap.size w0 w1) := hB.out.trans (hb1.mono hB.out.size)
        clear hb1 H
        go_wp2
        go_roundw
        case rel => exact ⟨j + 1, d, r, by go_num, rfl, hlr, hjn2, HCR, HZ2, hxr2, HA2, HB1⟩
        case measure => simp [intOf]; omega
    | nil =>
      obtain rfl : j = nn := by simp only [Trees.length] at hjn; omega
      have HE : Hid (z = m) := by
        unfold Hid
        by_cases h : m < 0
        · rw [hz.out.1 h]; omega
        · rw [hz.out.2 (by omega)]
          rw [show (Trees.nil).count = 0 from rfl, left_yes (Nat.zero_le _)]
          omega
      clear hxr hall hz
      go_wp2
      go_ret
      exact ⟨by rw [HE.out]; rfl, HB0.out.trans (hB.out.mono HB0.out.size)⟩
end Go.Proofs.YtijbaienhaiamaaGreatDoor.Ex
end

/- What is proved here: the model's DepthOfValue counts the depth of an expression. Condition: the value lies in memory as said, and is small. -/
section
namespace Go.Proofs.YtijbaienhaiamaaGreatDoor.Ex
open Go.RowKit

theorem spec_max (a b : Nat) (w : World) :
    Calls Tryz.prog 119 #[.int .i64 (a : Int), .int .i64 (b : Int)] w fun e w' => e = .returned (.int .i64 ((max a b : Nat) : Int)) ∧ w' = w := by
  by_cases h : b < a
  · rw [Nat.max_eq_left (by omega)]
    go_enter Tryz.func119, Tryz.ntmps119
    go_wp2
    go_ret
    exact ⟨rfl, rfl⟩
  · rw [Nat.max_eq_right (by omega)]
    go_enter Tryz.func119, Tryz.ntmps119
    go_wp2
    go_ret
    exact ⟨rfl, rfl⟩

set_option maxHeartbeats 1000000 in
set_option maxRecDepth 100000 in
theorem spec_depth : ∀ F : Trees, F.count ≤ 1048576 → ∀ (w : World) (k n : Int) (t : ByteArray) (p : Option Addr) (cap : Nat), TreesAt w F p 0 →
    Calls Tryz.prog 87 #[.agg #[.int .i64 k, .int .i64 n, .string t, .slice p F.length cap]] w fun e w' => e = .returned (.int .i64 ((F.deep + 1 : Nat) : Int)) ∧ Below w.heap.size w w' := by
  refine Trees.ind fun F hall hc w k n t p cap hx => ?_
  have hlc := F.length_le_count
  have hdc := F.deep_le_count
  have HALL := Lib.hid hall
  clear hall
  generalize hz : F.deep = z at *
  have HZ : Hid (F.deep = z) := hz
  have hzb : z ≤ 1048577 := by omega
  have HCC := Lib.hid hc
  generalize hn : F.length = nn at *
  have HN := Lib.hid hn
  clear hn hz hdc
  have hB0 : Below w.heap.size w (w.alloc (.cells #[.int .i64 k, .int .i64 n, .string t, .slice p nn cap] 54)) := (Below.refl _ _).alloc (Nat.le_refl _) _
  have HX := Lib.hid (hx.below hB0)
  have hc3 := (four_cells (heap_at_new w (.cells #[.int .i64 k, .int .i64 n, .string t, .slice p nn cap] 54))).2.2.2.1
  go_enter Tryz.func87, Tryz.ntmps87
  go_wp2
  generalize w.alloc (.cells #[.int .i64 k, .int .i64 n, .string t, .slice p nn cap] 54) = w0 at *
  have HB0 := Lib.hid hB0
  have HC3 := Lib.hid hc3
  clear hB0 hx hc3
  go_loopw [3, 4] (fun s i wr => ∃ (j c : Nat) (rest : Trees), i = .int .i64 j ∧ s = .int .i64 c ∧ c ≤ z ∧ j + rest.length = nn ∧ Hid (max c rest.deep = z) ∧ Hid (rest.count ≤ 1048576) ∧ Hid (TreesAt w0 rest p j) ∧ Hid (rest.All (fun G => G.count ≤ 1048576 → ∀ (w : World) (k n : Int) (t : ByteArray) (p : Option Addr) (cap : Nat), TreesAt w G p 0 →
    Calls Tryz.prog 87 #[.agg #[.int .i64 k, .int .i64 n, .string t, .slice p G.length cap]] w fun e w' => e = .returned (.int .i64 ((G.deep + 1 : Nat) : Int)) ∧ Below w.heap.size w w')) ∧ Hid (Below w0.heap.size w0 wr)) (fun _ i _ => nn - (intOf i).toNat)
  case atStart => exact ⟨0, 0, F, rfl, rfl, Nat.zero_le _, by rw [HN.out]; omega, by unfold Hid; rw [HZ.out]; omega, HCC, HX, HALL, Below.refl _ _⟩
  case round =>
    obtain ⟨j, c, rest, rfl, rfl, hcl, hjn, hcz, hcr, hxr, hall, hB⟩ := hrel
    have hb3 := cell_below HC3.out hB.out
    cases rest with
    | cons kd nu tx ar r =>
      have hjl : j < nn := by simp only [Trees.length] at hjn; omega
      have hjn2 : j + 1 + r.length = nn := by simp only [Trees.length] at hjn; omega
      have hcz2 := hcz.out
      have hcr2 := hcr.out
      simp only [Trees.deep] at hcz2
      simp only [Trees.count] at hcr2
      obtain ⟨y, q, cq, rfl, h1, h2, h3, h4, hs, hr⟩ := (hxr.out.below hB.out).open
      have hxr2 : Hid (TreesAt w0 r (some y) (j + 1)) := hxr.out.2
      have H := hall.out.1 (by omega) wr kd nu tx q cq hs
      have HA2 := Lib.hid hall.out.2
      have HCR : Hid (r.count ≤ 1048576) := by unfold Hid; omega
      generalize ar.deep + 1 = d at *
      have HCZ : Hid (max (max c d) r.deep = z) := by unfold Hid; omega
      have hcl2 : max c d ≤ z := by omega
      have HM := spec_max c d
      clear hxr hall hs hr hjn hcz hcr hcz2 hcr2
      generalize max c d = m at *
      go_wp2_with fail
      refine H.mono ?_
      rintro e w1 ⟨rfl, hb1⟩
      have HB1 : Hid (Below w0.heap.size w0 w1) := hB.out.trans (hb1.mono hB.out.size)
      clear hb1 H
      go_wp2_with fail
      refine (HM w1).mono ?_
      rintro e w2 ⟨rfl, rfl⟩
      clear HM
      go_wp2
      go_roundw
      case rel => exact ⟨j + 1, m, r, by go_num, rfl, hcl2, hjn2, HCZ, HCR, hxr2, HA2, HB1⟩
      case measure => simp [intOf]; omega
    | nil =>
      obtain rfl : j = nn := by simp only [Trees.length] at hjn; omega
      obtain rfl : c = z := by have := hcz.out; simp only [Trees.deep] at this; omega
      clear hxr hall
      go_wp2
      go_ret
      exact ⟨rfl, HB0.out.trans (hB.out.mono HB0.out.size)⟩
end Go.Proofs.YtijbaienhaiamaaGreatDoor.Ex
end

/- What is proved here: the model's IsValidExpr says whether an expression is valid. Condition: the pattern lies in memory as said, and is small. -/
section
namespace Go.Proofs.YtijbaienhaiamaaGreatDoor.Ex
open Go.RowKit

set_option maxHeartbeats 2000000 in
set_option maxRecDepth 100000 in
theorem spec_valid_expr (w : World) (k n : Int) (t : ByteArray) (F : Trees) (p : Option Addr) (c : Nat) (hfv : F.fits) (hfc : F.count ≤ 1048576) (ht : t.size ≤ maxLen) (hx : TreesAt w F p 0) :
    Calls Tryz.prog 35 #[.agg #[.int .i64 k, .int .i64 n, .string t, .slice p F.length c]] w fun e w' => e = .returned (.bool (validExpr k n t F)) ∧ Below w.heap.size w w' := by
  have hB0 : Below w.heap.size w (w.alloc (.cells #[.int .i64 k, .int .i64 n, .string t, .slice p F.length c] 54)) := (Below.refl _ _).alloc (Nat.le_refl _) _
  obtain ⟨c0, c1, c2, c3, _⟩ := four_cells (heap_at_new w (.cells #[.int .i64 k, .int .i64 n, .string t, .slice p F.length c] 54))
  have HX := Lib.hid (hx.below hB0)
  obtain ⟨w0, hw0⟩ : ∃ w0, w0 = w.alloc (.cells #[.int .i64 k, .int .i64 n, .string t, .slice p F.length c] 54) := ⟨_, rfl⟩
  rw [← hw0] at HX hB0 c0 c1 c2 c3
  have HW0 := Lib.hid hw0
  have HB0 := Lib.hid hB0
  have HL := Lib.hid (fun w' (hb : Below w0.heap.size w0 w') => Ex.spec_left F hfc 12 (by omega) w' k n t p c (HX.out.below hb))
  have HD := Lib.hid (fun w' (hb : Below w0.heap.size w0 w') => Ex.spec_depth F hfc w' k n t p c (HX.out.below hb))
  have HH := Lib.hid (fun w' (hb : Below w0.heap.size w0 w') => spec_all F hfv hfc w' k n t p c ht (HX.out.below hb))
  have HV : Hid (validExpr k n t F = (decide (1 + F.count ≤ 12) && (decide (F.deep + 1 ≤ 6) && (F.formedE && exprForm k n t F.length)))) := by
    unfold Hid validExpr
    rw [Bool.decide_and, Bool.and_assoc, Bool.and_comm F.formedE]
  have hdb := F.deep_le_count
  generalize (F.formedE && exprForm k n t F.length) = bh at *
  generalize validExpr k n t F = z at *
  clear hw0 hB0 hx hfv ht
  by_cases hL : 1 + F.count ≤ 12
  · rw [left_yes hL] at HL
    have hlz : 12 - (1 + F.count) ≤ 12 := by omega
    rw [decide_eq_true hL] at HV
    generalize 12 - (1 + F.count) = q at *
    by_cases hD : F.deep + 1 ≤ 6
    · rw [decide_eq_true hD] at HV
      generalize F.deep + 1 = dp at *
      have hdz : (dp : Int) ≤ 6 := by omega
      have HE : Hid (z = bh) := HV.out
      clear hL hD hfc hdb HV
      go_enter Tryz.func35, Tryz.ntmps35
      go_wp2_with fail
      rw [← HW0.out]
      refine (HL.out w0 (Below.refl _ _)).mono ?_
      rintro e w1 ⟨rfl, hb1⟩
      have HB1 := Lib.hid hb1
      have c0 := cell_below c0 hb1
      have c1 := cell_below c1 hb1
      have c2 := cell_below c2 hb1
      have c3 := cell_below c3 hb1
      clear hb1
      go_wp2_with fail
      refine (HD.out w1 HB1.out).mono ?_
      rintro e w2 ⟨rfl, hb2⟩
      have HB2 : Hid (Below w0.heap.size w0 w2) := HB1.out.trans (hb2.mono HB1.out.size)
      have c0 := cell_below c0 hb2
      have c1 := cell_below c1 hb2
      have c2 := cell_below c2 hb2
      have c3 := cell_below c3 hb2
      clear hb2
      go_wp2_with fail
      refine (HH.out w2 HB2.out).mono ?_
      rintro e w4 ⟨rfl, hb4⟩
      have HB4 : Hid (Below w0.heap.size w0 w4) := HB2.out.trans (hb4.mono HB2.out.size)
      clear hb4
      go_wp2
      go_ret
      exact ⟨by rw [HE.out]; rfl, HB0.out.trans (HB4.out.mono HB0.out.size)⟩
    · have HE : Hid (z = false) := by unfold Hid; rw [HV.out, decide_eq_false hD]; rfl
      have hdz : ¬ ((F.deep + 1 : Nat) : Int) ≤ 6 := by omega
      have hdm : F.deep + 1 ≤ 1048577 := by omega
      generalize F.deep + 1 = dp at *
      clear hL hD hfc hdb HV HH
      go_enter Tryz.func35, Tryz.ntmps35
      go_wp2_with fail
      rw [← HW0.out]
      refine (HL.out w0 (Below.refl _ _)).mono ?_
      rintro e w1 ⟨rfl, hb1⟩
      have HB1 := Lib.hid hb1
      have c0 := cell_below c0 hb1
      have c1 := cell_below c1 hb1
      have c2 := cell_below c2 hb1
      have c3 := cell_below c3 hb1
      clear hb1
      go_wp2_with fail
      refine (HD.out w1 HB1.out).mono ?_
      rintro e w2 ⟨rfl, hb2⟩
      have HB2 : Hid (Below w0.heap.size w0 w2) := HB1.out.trans (hb2.mono HB1.out.size)
      clear hb2
      go_wp2
      go_ret
      exact ⟨by rw [HE.out]; rfl, HB0.out.trans (HB2.out.mono HB0.out.size)⟩
  · rw [left_no (by omega)] at HL
    have HE : Hid (z = false) := by unfold Hid; rw [HV.out, decide_eq_false hL]; rfl
    clear hL hfc hdb HV HH HD
    go_enter Tryz.func35, Tryz.ntmps35
    go_wp2_with fail
    rw [← HW0.out]
    refine (HL.out w0 (Below.refl _ _)).mono ?_
    rintro e w1 ⟨rfl, hb1⟩
    have HB1 := Lib.hid hb1
    clear hb1
    go_wp2
    go_ret
    exact ⟨by rw [HE.out]; rfl, HB0.out.trans (HB1.out.mono HB0.out.size)⟩
end Go.Proofs.YtijbaienhaiamaaGreatDoor.Ex
end
