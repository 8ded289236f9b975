/- What is proved here: a piece of the proof of YtdifefgigcjgeaaDoorExactParseExpr (ExSpecText, SpecParseInt, SpWord). Condition: none beyond what each part says. -/
import Derived.Test.YtdifefgigcjgeaaDoorPe02
import Derived.Test.YtdifefgigcjgeaaDoorPe07
import Derived.Test.YtdifefgigcjgeaaDoorPe04
import Derived.Test.YtdifefgigcjgeaaDoorPe06
import Derived.Deep.RegionHeld3
import Derived.Test.YtdifefgigcjgeaaDoorPe03

/- What is proved here: the model's l7Text returns the representation of an expression. Condition: the expression lies in memory as said, is valid node by node, and small. -/
section
namespace Go.Proofs.YtdifefgigcjgeaaDoor.Ex
open Go.RowKit

set_option maxHeartbeats 1000000 in
set_option maxRecDepth 100000 in
theorem spec_sign (n : Int) (h : inOp n = true) (w : World) :
    Calls Tryd.prog 64 #[.int .i64 n] w fun e w' => e = .returned (.string (str (signE n))) ∧ Below w.heap.size w w' := by
  rcases (inOp_iff n).1 h with rfl | rfl | rfl | rfl | rfl | rfl | rfl
  all_goals
    clear h
    go_enter Tryd.func64, Tryd.ntmps64
    go_wp2
    go_ret
    exact ⟨rfl, (Below.refl _ _).alloc (Nat.le_refl _) _⟩

set_option maxHeartbeats 4000000 in
set_option maxRecDepth 100000 in
theorem spec_expr_text : ∀ G : Trees, G.formedE = true → G.count ≤ 1048576 → ∀ (w : World) (k n : Int) (t : ByteArray) (p : Option Addr) (cap : Nat), exprForm k n t G.length = true → TreesAt w G p 0 →
    Calls Tryd.prog 35 #[.agg #[.int .i64 k, .int .i64 n, .string t, .slice p G.length cap]] w fun e w' => e = .returned (.string (str (nodeE k n t G.textsE))) ∧ Below w.heap.size w w' := by
  refine Trees.ind fun F hall hfm hc w k n t p cap hpf hx => ?_
  have hB0 : Below w.heap.size w (w.alloc (.cells #[.int .i64 k, .int .i64 n, .string t, .slice p F.length cap] 40)) := (Below.refl _ _).alloc (Nat.le_refl _) _
  have HB0 := Lib.hid hB0
  have hlt := textE_len k n t F hfm hpf
  rcases (exprForm_iff k n t F.length).1 hpf with ⟨rfl, hi, -⟩ | ⟨rfl, -, -, -⟩ | ⟨rfl, ho, -, hl2⟩ | ⟨rfl, -, -, hl1⟩
  · have e : nodeE 1 n t F.textsE = Lib.itoa n := rfl
    rw [e]
    unfold inInt at hi
    simp only [Bool.and_eq_true, decide_eq_true_eq] at hi
    have HF := spec_format n (by omega) (by omega)
    obtain ⟨c0, c1, c2, c3, _⟩ := four_cells (heap_at_new w (.cells #[.int .i64 1, .int .i64 n, .string t, .slice p F.length cap] 40))
    clear hall hx hB0 hlt e hfm hc hpf hi
    go_enter Tryd.func35, Tryd.ntmps35
    go_wp2_with fail
    refine (HF _).mono ?_
    rintro e w1 ⟨rfl, hb1⟩
    have HB1 := Lib.hid hb1
    clear hb1 HF
    go_wp2
    go_ret
    exact ⟨rfl, HB0.out.trans (HB1.out.mono HB0.out.size)⟩
  · have e : nodeE 2 n t F.textsE = t.data.toList := rfl
    rw [e, str_data]
    obtain ⟨c0, c1, c2, c3, _⟩ := four_cells (heap_at_new w (.cells #[.int .i64 2, .int .i64 n, .string t, .slice p F.length cap] 40))
    clear hall hx hB0 hlt e hfm hc hpf
    go_enter Tryd.func35, Tryd.ntmps35
    go_wp2
    go_ret
    exact ⟨rfl, HB0.out⟩
  · cases F with
    | nil => cases hl2
    | cons ka na ta Fa R =>
      cases R with
      | nil => cases hl2
      | cons kb nb tb Fb R2 =>
        cases R2 with
        | cons _ _ _ _ _ => simp [Trees.length] at hl2
        | nil =>
          have e : nodeE 3 n t (Trees.textsE (.cons ka na ta Fa (.cons kb nb tb Fb .nil))) = [40] ++ nodeE ka na ta Fa.textsE ++ signE n ++ nodeE kb nb tb Fb.textsE ++ [41] := rfl
          rw [e] at hlt ⊢
          simp only [Trees.formedE, Bool.and_eq_true] at hfm
          simp only [Trees.count] at hc hlt
          rw [show (Trees.length (.cons ka na ta Fa (.cons kb nb tb Fb .nil))) = 2 from rfl] at *
          obtain ⟨y, pa, ca, rfl, a0, a1, a2, a3, hsa, hxb⟩ := (hx.below hB0).open
          obtain ⟨y', pb, cb, e', b0, b1, b2, b3, hsb, _⟩ := hxb.open
          cases e'
          obtain ⟨_, c1, _, c3, _⟩ := four_cells (heap_at_new w (.cells #[.int .i64 3, .int .i64 n, .string t, .slice (some y) 2 cap] 40))
          generalize hw0 : w.alloc (.cells #[.int .i64 3, .int .i64 n, .string t, .slice (some y) 2 cap] 40) = w0 at *
          have HW0 := Lib.hid hw0
          have HF : Hid (∀ W, Below w0.heap.size w0 W → (W.cell? ⟨w.heap.size, 1, none⟩ = some (.int .i64 n) ∧ W.cell? ⟨w.heap.size, 3, none⟩ = some (.slice (some y) 2 cap)) ∧ (W.cell? y = some (.int .i64 ka) ∧ W.cell? { block := y.block, off := y.off + 1 } = some (.int .i64 na) ∧ W.cell? { block := y.block, off := y.off + 2 } = some (.string ta) ∧ W.cell? { block := y.block, off := y.off + 3 } = some (.slice pa Fa.length ca)) ∧ W.cell? { block := y.block, off := y.off + 4 } = some (.int .i64 kb) ∧ W.cell? { block := y.block, off := y.off + 4 + 1 } = some (.int .i64 nb) ∧ W.cell? { block := y.block, off := y.off + 4 + 2 } = some (.string tb) ∧ W.cell? { block := y.block, off := y.off + 4 + 3 } = some (.slice pb Fb.length cb)) := fun W hb => ⟨⟨cell_below c1 hb, cell_below c3 hb⟩, ⟨cell_below a0 hb, cell_below a1 hb, cell_below a2 hb, cell_below a3 hb⟩, cell_below b0 hb, cell_below b1 hb, cell_below b2 hb, cell_below b3 hb⟩
          have HCA := Lib.hid (fun W (hb : Below w0.heap.size w0 W) => hall.1 hfm.2.1 (by omega) W ka na ta pa ca hfm.1 (hsa.below hb))
          have HCS := Lib.hid (fun W => spec_sign n ho W)
          have HCB := Lib.hid (fun W (hb : Below w0.heap.size w0 W) => hall.2.1 hfm.2.2.2.1 (by omega) W kb nb tb pb cb hfm.2.2.1 (hsb.below hb))
          simp only [List.length_append, List.length_cons, List.length_nil] at hlt
          have hk1 := fun w => cat [40] (nodeE ka na ta Fa.textsE) (by simp; omega) w
          have hk2 := fun w => cat ([40] ++ nodeE ka na ta Fa.textsE) (signE n) (by simp; omega) w
          have hk3 := fun w => cat ([40] ++ nodeE ka na ta Fa.textsE ++ signE n) (nodeE kb nb tb Fb.textsE) (by simp; omega) w
          have hk4 := fun w => cat ([40] ++ nodeE ka na ta Fa.textsE ++ signE n ++ nodeE kb nb tb Fb.textsE) [41] (by simp; omega) w
          change ∀ w, (Op.stringOp .add ⟨#[40]⟩ _).run Tryd.prog w = _ at hk1
          change ∀ w, (Op.stringOp .add _ ⟨#[41]⟩).run Tryd.prog w = _ at hk4
          generalize hu1 : str ([40] ++ nodeE ka na ta Fa.textsE) = u1 at *
          generalize hu2 : str ([40] ++ nodeE ka na ta Fa.textsE ++ signE n) = u2 at *
          generalize hu3 : str ([40] ++ nodeE ka na ta Fa.textsE ++ signE n ++ nodeE kb nb tb Fb.textsE) = u3 at *
          generalize hu4 : str ([40] ++ nodeE ka na ta Fa.textsE ++ signE n ++ nodeE kb nb tb Fb.textsE ++ [41]) = u4 at *
          generalize str (nodeE ka na ta Fa.textsE) = ua at *
          generalize str (nodeE kb nb tb Fb.textsE) = ub at *
          generalize str (signE n) = us at *
          have a0' : w0.cell? y = some (.int .i64 ka) := a0
          have a1' : w0.cell? { block := y.block, off := y.off + 1 } = some (.int .i64 na) := a1
          have a2' : w0.cell? { block := y.block, off := y.off + 2 } = some (.string ta) := a2
          have a3' : w0.cell? { block := y.block, off := y.off + 3 } = some (.slice pa Fa.length ca) := a3
          have b0' : w0.cell? { block := y.block, off := y.off + 4 } = some (.int .i64 kb) := b0
          have b1' : w0.cell? { block := y.block, off := y.off + 4 + 1 } = some (.int .i64 nb) := b1
          have b2' : w0.cell? { block := y.block, off := y.off + 4 + 2 } = some (.string tb) := b2
          have b3' : w0.cell? { block := y.block, off := y.off + 4 + 3 } = some (.slice pb Fb.length cb) := b3
          have HD : Hid (Below w0.heap.size w0 w0.drew) := (Below.refl _ _).drew
          clear hall hx hlt e hfm hc hpf hB0 hsa hsb hxb hw0 hu1 hu2 hu3 hu4 a0 a1 a2 a3 b0 b1 b2 b3 hl2 ho
          go_enter Tryd.func35, Tryd.ntmps35
          go_wp2
          rw [HW0.out]
          go_region_held3 (fun W => (W.cell? ⟨w.heap.size, 1, none⟩ = some (.int .i64 n) ∧ W.cell? ⟨w.heap.size, 3, none⟩ = some (.slice (some y) 2 cap)) ∧ (W.cell? y = some (.int .i64 ka) ∧ W.cell? { block := y.block, off := y.off + 1 } = some (.int .i64 na) ∧ W.cell? { block := y.block, off := y.off + 2 } = some (.string ta) ∧ W.cell? { block := y.block, off := y.off + 3 } = some (.slice pa Fa.length ca)) ∧ W.cell? { block := y.block, off := y.off + 4 } = some (.int .i64 kb) ∧ W.cell? { block := y.block, off := y.off + 4 + 1 } = some (.int .i64 nb) ∧ W.cell? { block := y.block, off := y.off + 4 + 2 } = some (.string tb) ∧ W.cell? { block := y.block, off := y.off + 4 + 3 } = some (.slice pb Fb.length cb))
            (first
              | go_keep
              | (have hkeep := HF.out _ HB3.out; exact hkeep)
              | (have hkeep := HF.out _ HB2.out; exact hkeep)
              | (have hkeep := HF.out _ HB1.out; exact hkeep)
              | fail "no arm")
            (first
              | (go_at_call 35; (with_reducible refine (HCA.out w0.drew HD.out).mono ?_); rintro e w1 ⟨rfl, hb1⟩; have HB1 : Hid (Below w0.heap.size w0 w1) := Below.trans HD.out (hb1.mono HD.out.size); clear hb1)
              | (go_at_call 64; (with_reducible refine (HCS.out w1).mono ?_); rintro e w2 ⟨rfl, hb2⟩; have HB2 : Hid (Below w0.heap.size w0 w2) := Below.trans HB1.out (hb2.mono HB1.out.size); clear hb2)
              | (go_at_call 35; (with_reducible refine (HCB.out w2 HB2.out).mono ?_); rintro e w3 ⟨rfl, hb3⟩; have HB3 : Hid (Below w0.heap.size w0 w3) := Below.trans HB2.out (hb3.mono HB2.out.size); clear hb3)
              | fail "no arm")
          clear a0' a1' a2' a3' b0' b1' b2' b3' HF HCA HCB HCS HD
          go_wp2
          go_ret
          exact ⟨rfl, HB0.out.trans (HB3.out.mono HB0.out.size)⟩
  · cases F with
    | nil => cases hl1
    | cons ka na ta Fa R =>
      cases R with
      | cons _ _ _ _ _ => simp [Trees.length] at hl1
      | nil =>
        have e : nodeE 4 n t (Trees.textsE (.cons ka na ta Fa .nil)) = [33] ++ nodeE ka na ta Fa.textsE := rfl
        rw [e] at hlt ⊢
        simp only [Trees.formedE, Bool.and_eq_true] at hfm
        simp only [Trees.count] at hc hlt
        rw [show (Trees.length (.cons ka na ta Fa .nil)) = 1 from rfl] at *
        obtain ⟨y, pa, ca, rfl, a0, a1, a2, a3, hsa, _⟩ := (hx.below hB0).open
        have c3 := (four_cells (heap_at_new w (.cells #[.int .i64 4, .int .i64 n, .string t, .slice (some y) 1 cap] 40))).2.2.2.1
        have HCA := Lib.hid (fun W (hb : Below (w.alloc (.cells #[.int .i64 4, .int .i64 n, .string t, .slice (some y) 1 cap] 40)).heap.size (w.alloc (.cells #[.int .i64 4, .int .i64 n, .string t, .slice (some y) 1 cap] 40)) W) => hall.1 hfm.2.1 (by omega) W ka na ta pa ca hfm.1 (hsa.below hb))
        simp only [List.length_append, List.length_cons, List.length_nil] at hlt
        have hk1 := fun w => cat [33] (nodeE ka na ta Fa.textsE) (by simp; omega) w
        change ∀ w, (Op.stringOp .add ⟨#[33]⟩ _).run Tryd.prog w = _ at hk1
        generalize hu1 : str ([33] ++ nodeE ka na ta Fa.textsE) = u1 at *
        generalize str (nodeE ka na ta Fa.textsE) = ua at *
        have a0' : (w.alloc (.cells #[.int .i64 4, .int .i64 n, .string t, .slice (some y) 1 cap] 40)).cell? y = some (.int .i64 ka) := a0
        have a1' : (w.alloc (.cells #[.int .i64 4, .int .i64 n, .string t, .slice (some y) 1 cap] 40)).cell? { block := y.block, off := y.off + 1 } = some (.int .i64 na) := a1
        have a2' : (w.alloc (.cells #[.int .i64 4, .int .i64 n, .string t, .slice (some y) 1 cap] 40)).cell? { block := y.block, off := y.off + 2 } = some (.string ta) := a2
        have a3' : (w.alloc (.cells #[.int .i64 4, .int .i64 n, .string t, .slice (some y) 1 cap] 40)).cell? { block := y.block, off := y.off + 3 } = some (.slice pa Fa.length ca) := a3
        clear hall hx hlt e hfm hc hpf hB0 hsa hu1 a0 a1 a2 a3 hl1
        go_enter Tryd.func35, Tryd.ntmps35
        go_wp2_with fail
        refine (HCA.out _ (Below.refl _ _)).mono ?_
        rintro e w1 ⟨rfl, hb1⟩
        have HB1 : Hid (Below w.heap.size w w1) := HB0.out.trans (hb1.mono HB0.out.size)
        clear a0' a1' a2' a3' HCA hb1
        go_wp2
        go_ret
        exact ⟨rfl, HB1.out⟩
end Go.Proofs.YtdifefgigcjgeaaDoor.Ex
end

/- What is proved here: the model's ParseInt. Condition: the text has at most 2^20 bytes. -/
section
namespace Go.Proofs.YtdifefgigcjgeaaDoor
open Go.RowKit

set_option maxRecDepth 100000 in
theorem spec_ParseInt (s : ByteArray) (hs : s.size ≤ 1048576) (w : World) :
    Calls Tryd.prog 71 #[.string s] w fun e w' => e = readEnd (readOf (-999999999999) 999999999999 s.data.toList) ∧ Below w.heap.size w w' := by
  rw [← specRead_twelve]
  have hs' : s.size ≤ maxLen := by unfold maxLen; omega
  have H := spec_read s 12 (by omega) (by omega) hs' w
  cases hR : specRead 12 s.data.toList with
  | some n =>
    rw [hR] at H
    go_enter Tryd.func71, Tryd.ntmps71
    go_wp2_with fail
    refine H.mono ?_
    rintro e w1 ⟨he, hb⟩
    obtain rfl : e = .returned (.tuple #[.int .i64 n, .bool true]) := he
    go_wp2
    go_ret2
    exact ⟨rfl, hb⟩
  | none =>
    rw [hR] at H
    go_enter Tryd.func71, Tryd.ntmps71
    go_wp2_with fail
    refine H.mono ?_
    rintro e w1 ⟨he, hb⟩
    obtain rfl : e = .returned (.tuple #[.int .i64 0, .bool false]) := he
    go_wp2
    go_ret2
    exact ⟨rfl, hb⟩

end Go.Proofs.YtdifefgigcjgeaaDoor
end

/- What is proved here: the word at a place of a text, as the specification reads it (pure). No condition. -/
section
namespace Go.Proofs.YtdifefgigcjgeaaDoor
open Go.RowKit

/-- The word at the start, as the specification reads it: a sign or '_' only in front. -/
noncomputable def leadS : List UInt8 → List UInt8
  | [] => []
  | c :: r => if c = 45 ∨ c = 95 then c :: r.takeWhile isLD else (c :: r).takeWhile isLD
theorem leadS_cons (c : UInt8) (r : List UInt8) : leadS (c :: r) = if c = 45 ∨ c = 95 then c :: r.takeWhile isLD else (c :: r).takeWhile isLD := rfl
/-- Words of patterns. -/
def IsW (x : List UInt8) : Prop := (∀ c ∈ x, isLD c = true) ∧ x ≠ [] ∨ ∃ c r, x = c :: r ∧ (c = 45 ∨ c = 95) ∧ ∀ c ∈ r, isLD c = true
theorem ld_wb {c : UInt8} (h : isLD c = true) : isWB c = true := by
  unfold isLD at h
  unfold isWB isWZ
  simp only [Bool.or_eq_true, bl_iff, Bool.and_eq_true, decide_eq_true_eq] at h ⊢
  omega
theorem ld_not {c : UInt8} (h : isLD c = true) : ¬ (c = 45 ∨ c = 95) := by
  unfold isLD at h
  simp only [Bool.or_eq_true, bl_iff, Bool.and_eq_true, decide_eq_true_eq] at h
  rintro (rfl | rfl) <;> revert h <;> decide
theorem takeWhile_all (p : UInt8 → Bool) (x y : List UInt8) (hx : ∀ c ∈ x, p c = true) (hy : ∀ c t, y = c :: t → p c = false) : (x ++ y).takeWhile p = x := by
  induction x with
  | nil =>
    cases y with
    | nil => rfl
    | cons c t => simp [hy c t rfl]
  | cons c x ih => rw [List.cons_append, List.takeWhile_cons_of_pos (hx c (by simp)), ih (fun c hc => hx c (by simp [hc]))]
theorem stop_of_lead {x y : List UInt8} (h : lead (x ++ y) = x) : ∀ c t, y = c :: t → isWB c = false := by
  intro c t e
  subst e
  cases hc : isWB c with
  | false => rfl
  | true =>
    exfalso
    have hx : ∀ u ∈ x, isWB u = true := fun u hu => by rw [← h] at hu; exact lead_word _ u hu
    have h2 : lead (x ++ c :: t) = x ++ lead (c :: t) := by
      unfold lead
      clear h
      induction x with
      | nil => rfl
      | cons a x ih => rw [List.cons_append, List.takeWhile_cons_of_pos (hx a (by simp)), ih (fun u hu => hx u (by simp [hu])), List.cons_append]
    rw [h2] at h
    have h3 := congrArg List.length h
    unfold lead at h3
    rw [List.takeWhile_cons_of_pos hc] at h3
    simp at h3
theorem leadS_all {x y : List UInt8} (hw : IsW x) (hy : ∀ c t, y = c :: t → isWB c = false) : leadS (x ++ y) = x := by
  have hy2 : ∀ c t, y = c :: t → isLD c = false := fun c t e => by
    cases hc : isLD c with
    | false => rfl
    | true => have := ld_wb hc; rw [hy c t e] at this; cases this
  rcases hw with ⟨h1, h2⟩ | ⟨c, r, rfl, hc, hr⟩
  · cases x with
    | nil => exact absurd rfl h2
    | cons c x =>
      have := takeWhile_all isLD (c :: x) y h1 hy2
      rw [List.cons_append] at this ⊢
      rw [leadS_cons, if_neg (ld_not (h1 c (by simp)))]
      exact this
  · rw [List.cons_append]
    rw [leadS_cons, if_pos hc, takeWhile_all isLD r y hr hy2]
theorem leadS_of {x y : List UInt8} (hw : IsW x) (h : lead (x ++ y) = x) : leadS (x ++ y) = x := leadS_all hw (stop_of_lead h)
theorem isW_any : IsW [95] := .inr ⟨95, [], rfl, .inr rfl, by simp⟩
theorem isW_word {t : ByteArray} (h : Word 97 122 t ∨ Word 65 90 t) : IsW t.data.toList := by
  refine .inl ⟨fun c hc => ?_, fun e => ?_⟩
  · obtain ⟨j, hj, rfl⟩ := List.mem_iff_getElem.1 hc
    have hj2 : j < t.size := hj
    unfold isLD
    simp only [Bool.or_eq_true, bl_iff, Bool.and_eq_true, decide_eq_true_eq]
    have e : (t.data.toList[j] : UInt8) = t[j] := rfl
    rw [e]
    by_cases h0 : j = 0
    · subst h0
      rcases h with h | h
      · have := h.2.2.1 hj2; omega
      · have := h.2.2.1 hj2; omega
    · have hg : Good t[j] := by
        rcases h with h | h
        · exact h.2.2.2 j hj2 (by omega)
        · exact h.2.2.2 j hj2 (by omega)
      unfold Good at hg
      omega
  · have e2 : t.data.toList.length = t.size := rfl
    rw [e] at e2
    simp at e2
    rcases h with h | h
    · have := h.1; omega
    · have := h.1; omega
theorem isW_int (n : Int) : IsW (Lib.itoa n) := by
  have hd : ∀ u : Nat, ∀ x ∈ Lib.decDigits u, isLD x = true := fun u x hx => by
    have := dec_digits u x hx
    unfold isDig at this
    unfold isLD
    simp only [Bool.or_eq_true, bl_iff, Bool.and_eq_true, decide_eq_true_eq]
    omega
  by_cases h : 0 ≤ n
  · obtain ⟨u, rfl⟩ : ∃ u : Nat, n = u := ⟨n.toNat, by omega⟩
    rw [Lib.itoa_nonneg]
    exact .inl ⟨hd u, dec_ne_nil u⟩
  · obtain ⟨u, rfl⟩ : ∃ u : Nat, n = -(u : Int) := ⟨(-n).toNat, by omega⟩
    rw [Lib.itoa_neg u (by omega)]
    exact .inr ⟨45, _, rfl, .inl rfl, hd u⟩
/-- What l4Word reads. -/
theorem extract_leadS {s : ByteArray} {k j : Nat} (hk : k ≤ s.size) (h1 : begins s k ≤ j) (h2 : j ≤ s.size) (h3 : ∀ i (hi : i < s.size), begins s k ≤ i → i < j → isLD s[i] = true) (h4 : ∀ hj : j < s.size, isLD s[j] = false) :
    (s.extract k j).data.toList = leadS (s.data.toList.drop k) ∧ s.data.toList.drop k = (s.extract k j).data.toList ++ s.data.toList.drop j := by
  have hsl : s.data.toList.length = s.size := rfl
  have hkj : k ≤ j := by unfold begins at h1; split at h1 <;> omega
  have hdec : s.data.toList.drop k = (s.extract k j).data.toList ++ s.data.toList.drop j := by
    rw [extract_toList]
    have : s.data.toList.drop j = (s.data.toList.drop k).drop (j - k) := by rw [List.drop_drop]; congr 1; omega
    rw [this, List.take_append_drop]
  refine ⟨?_, hdec⟩
  have hstop : ∀ c t, s.data.toList.drop j = c :: t → isLD c = false := fun c t e => by
    have hj : j < s.size := by
      rcases Nat.lt_or_ge j s.size with h | h
      · exact h
      · rw [List.drop_eq_nil_of_le (by omega)] at e; cases e
    have hc : c = s[j] := by
      rw [List.drop_eq_getElem_cons (by omega)] at e
      injection e with e1 _
      exact e1.symm
    rw [hc]
    exact h4 hj
  have hin : ∀ i, begins s k ≤ i → i < j → ∀ hi : i < s.data.toList.length, isLD s.data.toList[i] = true := fun i a b hi => h3 i (by omega) a b
  have hx : (s.extract k j).data.toList = (s.data.toList.drop k).take (j - k) := extract_toList s k j
  by_cases hb : (sees s k [45] || sees s k [95]) = true
  · have hbk : begins s k = k + 1 := by unfold begins; rw [if_pos hb]
    rw [hbk] at h1 hin
    obtain ⟨c, t, e, hc⟩ : ∃ c t, s.data.toList.drop k = c :: t ∧ (c = 45 ∨ c = 95) := by
      rcases Bool.or_eq_true .. |>.mp hb with h | h
      · obtain ⟨x, e⟩ := List.isPrefixOf_iff_prefix.1 h; exact ⟨45, x, e.symm, .inl rfl⟩
      · obtain ⟨x, e⟩ := List.isPrefixOf_iff_prefix.1 h; exact ⟨95, x, e.symm, .inr rfl⟩
    have ht : t = s.data.toList.drop (k + 1) := by rw [← List.drop_drop, e]; rfl
    rw [e]
    rw [leadS_cons, if_pos hc, hx, e, show j - k = (j - (k + 1)) + 1 by omega, List.take_succ_cons]
    congr 1
    have hd2 : t = t.take (j - (k + 1)) ++ s.data.toList.drop j := by
      have : s.data.toList.drop j = t.drop (j - (k + 1)) := by rw [ht, List.drop_drop]; congr 1; omega
      rw [this, List.take_append_drop]
    have := takeWhile_all isLD (t.take (j - (k + 1))) (s.data.toList.drop j) (fun c hc => by
      obtain ⟨i, hi, rfl⟩ := List.mem_iff_getElem.1 hc
      rw [List.getElem_take]
      simp only [ht, List.getElem_drop]
      simp only [List.length_take, ht, List.length_drop] at hi
      exact hin _ (by omega) (by omega) (by omega)) hstop
    rw [← hd2] at this
    exact this.symm
  · have hbk : begins s k = k := by unfold begins; rw [if_neg hb]
    rw [hbk] at h1 hin
    have hall := takeWhile_all isLD ((s.data.toList.drop k).take (j - k)) (s.data.toList.drop j) (fun c hc => by
      obtain ⟨i, hi, rfl⟩ := List.mem_iff_getElem.1 hc
      rw [List.getElem_take, List.getElem_drop]
      simp only [List.length_take, List.length_drop] at hi
      exact hin _ (by omega) (by omega) (by omega)) hstop
    rw [← hx, ← hdec] at hall
    rw [← hall]
    cases e : s.data.toList.drop k with
    | nil => rfl
    | cons c t =>
      rw [leadS_cons, if_neg]
      rintro (rfl | rfl)
      · refine hb (Bool.or_eq_true .. |>.mpr (.inl ?_))
        unfold sees
        rw [e]
        simp
      · refine hb (Bool.or_eq_true .. |>.mpr (.inr ?_))
        unfold sees
        rw [e]
        simp
end Go.Proofs.YtdifefgigcjgeaaDoor
end
