/- What is proved here: a piece of the proof of YtdifefgigcjgeaaGreatDoorExactParsePat (SpecPatText, PatVar). Condition: none beyond what each part says. -/
import Derived.Test.YtdifefgigcjgeaaGreatDoorPp02
import Derived.Test.YtdifefgigcjgeaaGreatDoorPp12
import Derived.Test.YtdifefgigcjgeaaGreatDoorPp03
import Derived.Test.YtdifefgigcjgeaaGreatDoorPp06
import Derived.Deep.RegionHeld3
import Derived.Test.YtdifefgigcjgeaaGreatDoorPp07

/- What is proved here: the model's l6Text returns the representation of a pattern. Condition: the pattern lies in memory as said, is valid node by node, and small. -/
section
namespace Go.Proofs.YtdifefgigcjgeaaGreatDoor
open Go.RowKit

/-- What stands behind a constructor: each node behind a separator, the first one behind a parenthesis (b). -/
def tailP : List (List UInt8) → Bool → List UInt8
  | [], _ => []
  | x :: r, b => (if b then [40] else [44, 32]) ++ x ++ tailP r false
theorem tailP_join (x : List UInt8) (r : List (List UInt8)) : tailP (x :: r) true = [40] ++ Lib.join (x :: r) [44, 32] := by
  have h : ∀ r : List (List UInt8), tailP r false = Lib.joinTail [44, 32] r := by
    intro r
    induction r with
    | nil => rfl
    | cons y r ih => simp [tailP, ih, Lib.joinTail]
  rw [Lib.join_cons, tailP, h]
  simp
theorem nodeP_tail (k n : Int) (t : ByteArray) (F : Trees) (h1 : ¬ k = 1) (h3 : ¬ k = 3) (h4 : ¬ k = 4) (h6 : ¬ k = 6) (h7 : ¬ k = 7) : nodeP k n t F.texts = if F.length = 0 then t.data.toList else (t.data.toList ++ tailP F.texts true) ++ [41] := by
  unfold nodeP
  rw [if_neg h1, if_neg h3, if_neg h4, if_neg h6, if_neg h7]
  cases F with
  | nil => rfl
  | cons k n t ar r =>
    rw [if_neg (by simp [Trees.texts]), if_neg (by simp [Trees.length])]
    simp only [Trees.texts]
    rw [tailP_join]
    simp

set_option maxHeartbeats 4000000 in
set_option maxRecDepth 100000 in
theorem spec_pat_text : ∀ G : Trees, G.formed = true → G.count ≤ 1048576 → ∀ (w : World) (k n : Int) (t : ByteArray) (p : Option Addr) (cap : Nat), patForm k n t G.length = true → TreesAt w G p 0 →
    Calls Tryz.prog 68 #[.agg #[.int .i64 k, .int .i64 n, .string t, .slice p G.length cap]] w fun e w' => e = .returned (.string (str (nodeP k n t G.texts))) ∧ Below w.heap.size w w' := by
  refine Trees.ind fun F hall hfm hc w k n t p cap hpf hx => ?_
  have hB0 : Below w.heap.size w (w.alloc (.cells #[.int .i64 k, .int .i64 n, .string t, .slice p F.length cap] 49)) := (Below.refl _ _).alloc (Nat.le_refl _) _
  have HB0 := Lib.hid hB0
  have hlt := text_len k n t F hfm hpf
  rcases (patForm_iff k n t F.length).1 hpf with ⟨rfl, -⟩ | ⟨rfl, -⟩ | ⟨rfl, hi, -⟩ | ⟨rfl, -, hv, -⟩ | ⟨rfl, -⟩ | ⟨rfl, -, -, hl2⟩ | ⟨rfl, -, hN, hl1⟩
  · have e : nodeP 1 n t F.texts = [95] := rfl
    rw [e]
    clear hall hx hB0 hlt e hfm hc hpf
    go_enter Tryz.func68, Tryz.ntmps68
    go_wp2
    go_ret
    exact ⟨rfl, HB0.out⟩
  ·
      have HALL := Lib.hid hall
      have HFM := Lib.hid hfm
      have HCC := Lib.hid hc
      have hlc := F.length_le_count
      have hnb : F.length ≤ 1048576 := by omega
      have hT : Hid ((nodeP 2 n t F.texts).length ≤ 104857600) := by unfold Hid; omega
      have HPT : Hid (nodeP 2 n t F.texts = if F.length = 0 then t.data.toList else (t.data.toList ++ tailP F.texts true) ++ [41]) := nodeP_tail _ n t F (by decide) (by decide) (by decide) (by decide) (by decide)
      have HX := Lib.hid (hx.below hB0)
      have htd : str t.data.toList = t := str_data t
      have hc3 := (four_cells (heap_at_new w (.cells #[.int .i64 2, .int .i64 n, .string t, .slice p F.length cap] 49))).2.2.2.1
      have htn : F.length = 0 → F.texts = [] := fun h => List.eq_nil_of_length_eq_zero (by rw [texts_length]; exact h)
      have HTN := Lib.hid htn
      generalize hTT : nodeP 2 n t F.texts = T at *
      generalize hnn : F.length = nn at *
      have HN := Lib.hid hnn
      generalize hw0 : w.alloc (.cells #[.int .i64 2, .int .i64 n, .string t, .slice p nn cap] 49) = w0 at *
      have HW0 := Lib.hid hw0
      have HC3 := Lib.hid hc3
      have HTD := Lib.hid htd
      have HAC : Hid (t.data.toList ++ tailP F.texts true = if nn = 0 then t.data.toList else t.data.toList ++ tailP F.texts true) := by
        unfold Hid
        split
        · rw [htn (by assumption)]; simp [tailP]
        · rfl
      clear hall hfm hx hB0 hlt hTT hnn hw0 hc3 htd htn hpf
      go_enter Tryz.func68, Tryz.ntmps68
      go_wp2
      rw [HW0.out]
      go_loopw [3, 4] (fun o i wr => ∃ (j : Nat) (rest : Trees) (s : ByteArray) (acc : List UInt8), i = .int .i64 j ∧ o = .string s ∧ j + rest.length = nn ∧ Hid (s = str acc) ∧ Hid (acc ++ tailP rest.texts (decide (j = 0)) = t.data.toList ++ tailP F.texts true) ∧ Hid (rest.formed = true) ∧ Hid (rest.count ≤ 1048576) ∧ Hid (TreesAt w0 rest p j) ∧ Hid (rest.All (fun G => G.formed = true → G.count ≤ 1048576 → ∀ (w : World) (k n : Int) (t : ByteArray) (p : Option Addr) (cap : Nat), patForm k n t G.length = true → TreesAt w G p 0 →
    Calls Tryz.prog 68 #[.agg #[.int .i64 k, .int .i64 n, .string t, .slice p G.length cap]] w fun e w' => e = .returned (.string (str (nodeP k n t G.texts))) ∧ Below w.heap.size w w')) ∧ Hid (Below w0.heap.size w0 wr)) (fun _ i _ => nn - (intOf i).toNat)
      case atStart => exact ⟨0, F, t, t.data.toList, rfl, rfl, by rw [HN.out]; omega, HTD.out.symm, rfl, HFM, HCC, HX, HALL, Below.refl _ _⟩
      case round =>
        obtain ⟨j, rest, s, acc, rfl, rfl, hjn, hs, hacc, hfr, hcr, hxr, hal, hB⟩ := hrel
        have hb3 := cell_below HC3.out hB.out
        cases rest with
        | cons kd nu tx ar r =>
          have hjl : j < nn := by simp only [Trees.length] at hjn; omega
          have hjn2 : j + 1 + r.length = nn := by simp only [Trees.length] at hjn; omega
          obtain ⟨y, q, cq, rfl, g1, g2, g3, g4, hsub, hrr⟩ := (hxr.out.below hB.out).open
          have hfr1 := hfr.out
          simp only [Trees.formed, Bool.and_eq_true] at hfr1
          have hcr2 := hcr.out
          simp only [Trees.count] at hcr2
          have H := hal.out.1 hfr1.2.1 (by omega) wr kd nu tx q cq hfr1.1 hsub
          have hacc2 := hacc.out
          simp only [Trees.texts, tailP] at hacc2
          have hTl : (t.data.toList ++ tailP F.texts true).length ≤ 104857600 := by
            have h1 := hT.out
            rw [HPT.out, if_neg (by omega), List.length_append] at h1
            omega
          rw [← hacc2, List.length_append, List.length_append, List.length_append] at hTl
          have hxr2 : Hid (TreesAt w0 r (some y) (j + 1)) := hxr.out.2
          have HA2 := Lib.hid hal.out.2
          have HF2 : Hid (r.formed = true) := hfr1.2.2
          have HC2 : Hid (r.count ≤ 1048576) := by unfold Hid; omega
          by_cases hj0 : j = 0
          · subst hj0
            have g1' : wr.cell? y = some (.int .i64 kd) := g1
            have g2' : wr.cell? { block := y.block, off := y.off + 1 } = some (.int .i64 nu) := g2
            have g3' : wr.cell? { block := y.block, off := y.off + 2 } = some (.string tx) := g3
            have g4' : wr.cell? { block := y.block, off := y.off + 3 } = some (.slice q ar.length cq) := g4
            clear g1 g2 g3 g4
            simp only [decide_true, if_true] at hacc2 hTl
            have hk1 := fun w => cat acc [40] (by simp; omega) w
            have hk2 := fun w => cat (acc ++ [40]) (nodeP kd nu tx ar.texts) (by rw [List.length_append]; simp at hTl ⊢; omega) w
            change ∀ w, (Op.stringOp .add (str acc) ⟨#[40]⟩).run Tryz.prog w = _ at hk1
            rw [← hs.out] at hk1
            have HACC : Hid ((acc ++ [40] ++ nodeP kd nu tx ar.texts) ++ tailP r.texts (decide (0 + 1 = 0)) = t.data.toList ++ tailP F.texts true) := by unfold Hid; rw [← hacc2]; simp
            generalize hu1 : str (acc ++ [40]) = u1 at *
            generalize hu2 : str (acc ++ [40] ++ nodeP kd nu tx ar.texts) = u2 at *
            have HU2 : Hid (u2 = str (acc ++ [40] ++ nodeP kd nu tx ar.texts)) := hu2.symm
            generalize str (nodeP kd nu tx ar.texts) = u3 at *
            clear hxr hal hsub hrr hfr hcr hcr2 hacc hacc2 hfr1 hTl hu1 hu2 hjn hs
            go_wp2_with fail
            refine H.mono ?_
            rintro e w1 ⟨rfl, hb1⟩
            have HB1 : Hid (Below w0.heap.size w0 w1) := hB.out.trans (hb1.mono hB.out.size)
            clear hb1 H
            go_wp2
            go_roundw
            case rel => exact ⟨0 + 1, r, u2, _, by go_num, rfl, hjn2, HU2, HACC, HF2, HC2, hxr2, HA2, HB1⟩
            case measure => simp [intOf]; omega
          · simp only [decide_eq_false hj0, Bool.false_eq_true, if_false] at hacc2 hTl
            have hj1 : ((j : Int) == 0) = false := by simp; omega
            have hk1 := fun w => cat acc [44, 32] (by simp at hTl ⊢; omega) w
            have hk2 := fun w => cat (acc ++ [44, 32]) (nodeP kd nu tx ar.texts) (by rw [List.length_append]; simp at hTl ⊢; omega) w
            change ∀ w, (Op.stringOp .add (str acc) ⟨#[44, 32]⟩).run Tryz.prog w = _ at hk1
            rw [← hs.out] at hk1
            have HACC : Hid ((acc ++ [44, 32] ++ nodeP kd nu tx ar.texts) ++ tailP r.texts (decide (j + 1 = 0)) = t.data.toList ++ tailP F.texts true) := by unfold Hid; rw [← hacc2]; simp
            generalize hu1 : str (acc ++ [44, 32]) = u1 at *
            generalize hu2 : str (acc ++ [44, 32] ++ nodeP kd nu tx ar.texts) = u2 at *
            have HU2 : Hid (u2 = str (acc ++ [44, 32] ++ nodeP kd nu tx ar.texts)) := hu2.symm
            generalize str (nodeP kd nu tx ar.texts) = u3 at *
            clear hxr hal hsub hrr hfr hcr hcr2 hacc hacc2 hfr1 hTl hu1 hu2 hjn hs
            go_wp2_with fail
            refine H.mono ?_
            rintro e w1 ⟨rfl, hb1⟩
            have HB1 : Hid (Below w0.heap.size w0 w1) := hB.out.trans (hb1.mono hB.out.size)
            clear hb1 H
            go_wp2
            go_roundw
            case rel => exact ⟨j + 1, r, u2, _, by go_num, rfl, hjn2, HU2, HACC, HF2, HC2, hxr2, HA2, HB1⟩
            case measure => simp [intOf]; omega
        | nil =>
          obtain rfl : j = nn := by simp only [Trees.length] at hjn; omega
          have hac3 : acc = t.data.toList ++ tailP F.texts true := by have := hacc.out; simpa [Trees.texts, tailP] using this
          by_cases h0 : j = 0
          · subst h0
            have HE : Hid (s = str T) := by unfold Hid; rw [hs.out, hac3, HPT.out, if_pos rfl, HAC.out, if_pos rfl]
            have HB1 := Lib.hid hB.out
            clear hxr hal hfr hcr hacc hac3 hs hB
            go_wp2
            go_ret
            exact ⟨by rw [HE.out]; rfl, HB0.out.trans (HB1.out.mono HB0.out.size)⟩
          · have hj1 : ((j : Int) == 0) = false := by simp; omega
            have hgt : (0 : Int) < (j : Int) := by omega
            have hTl : acc.length + 1 ≤ 104857600 := by
              have h1 := hT.out
              rw [HPT.out, if_neg h0, List.length_append, ← hac3] at h1
              simpa using h1
            have hk1 := fun w => cat acc [41] (by simp; omega) w
            change ∀ w, (Op.stringOp .add (str acc) ⟨#[41]⟩).run Tryz.prog w = _ at hk1
            rw [← hs.out] at hk1
            have HE : Hid (str (acc ++ [41]) = str T) := by unfold Hid; rw [hac3, HPT.out, if_neg h0]
            generalize str (acc ++ [41]) = u1 at *
            have HB1 := Lib.hid hB.out
            clear hxr hal hfr hcr hacc hac3 hs hB
            go_wp2
            go_ret
            exact ⟨by rw [← HE.out]; rfl, HB0.out.trans (HB1.out.mono HB0.out.size)⟩
  · have e : nodeP 3 n t F.texts = Lib.itoa n := rfl
    rw [e]
    unfold inInt at hi
    simp only [Bool.and_eq_true, decide_eq_true_eq] at hi
    have HF := spec_format n (by omega) (by omega)
    clear hall hx hB0 hlt e hfm hc hpf hi
    go_enter Tryz.func68, Tryz.ntmps68
    go_wp2_with fail
    refine (HF _).mono ?_
    rintro e w1 ⟨rfl, hb1⟩
    have HB1 := Lib.hid hb1
    clear hb1 HF
    go_wp2
    go_ret
    exact ⟨rfl, HB0.out.trans (HB1.out.mono HB0.out.size)⟩
  · have e : nodeP 4 n t F.texts = [34] ++ t.data.toList ++ [34] := rfl
    rw [e]
    have ht := hv.1
    have htl : t.data.toList.length = t.size := rfl
    have hc1 := fun w => cat [34] t.data.toList (by rw [htl]; simp; omega) w
    rw [str_data] at hc1
    have hc2 := fun w => cat ([34] ++ t.data.toList) [34] (by rw [List.length_append, htl]; simp; omega) w
    change ∀ w, (Op.stringOp .add ⟨#[34]⟩ t).run Tryz.prog w = _ at hc1
    change ∀ w, (Op.stringOp .add (str ([34] ++ t.data.toList)) ⟨#[34]⟩).run Tryz.prog w = _ at hc2
    generalize hs1 : str ([34] ++ t.data.toList) = s1 at *
    generalize hs2 : str ([34] ++ t.data.toList ++ [34]) = s2 at *
    clear hall hx hB0 hlt e hfm hc hpf htl hs1 hs2 hv ht
    go_enter Tryz.func68, Tryz.ntmps68
    go_wp2
    go_ret
    exact ⟨rfl, HB0.out⟩
  ·
      have HALL := Lib.hid hall
      have HFM := Lib.hid hfm
      have HCC := Lib.hid hc
      have hlc := F.length_le_count
      have hnb : F.length ≤ 1048576 := by omega
      have hT : Hid ((nodeP 5 n t F.texts).length ≤ 104857600) := by unfold Hid; omega
      have HPT : Hid (nodeP 5 n t F.texts = if F.length = 0 then t.data.toList else (t.data.toList ++ tailP F.texts true) ++ [41]) := nodeP_tail _ n t F (by decide) (by decide) (by decide) (by decide) (by decide)
      have HX := Lib.hid (hx.below hB0)
      have htd : str t.data.toList = t := str_data t
      have hc3 := (four_cells (heap_at_new w (.cells #[.int .i64 5, .int .i64 n, .string t, .slice p F.length cap] 49))).2.2.2.1
      have htn : F.length = 0 → F.texts = [] := fun h => List.eq_nil_of_length_eq_zero (by rw [texts_length]; exact h)
      have HTN := Lib.hid htn
      generalize hTT : nodeP 5 n t F.texts = T at *
      generalize hnn : F.length = nn at *
      have HN := Lib.hid hnn
      generalize hw0 : w.alloc (.cells #[.int .i64 5, .int .i64 n, .string t, .slice p nn cap] 49) = w0 at *
      have HW0 := Lib.hid hw0
      have HC3 := Lib.hid hc3
      have HTD := Lib.hid htd
      have HAC : Hid (t.data.toList ++ tailP F.texts true = if nn = 0 then t.data.toList else t.data.toList ++ tailP F.texts true) := by
        unfold Hid
        split
        · rw [htn (by assumption)]; simp [tailP]
        · rfl
      clear hall hfm hx hB0 hlt hTT hnn hw0 hc3 htd htn hpf
      go_enter Tryz.func68, Tryz.ntmps68
      go_wp2
      rw [HW0.out]
      go_loopw [3, 4] (fun o i wr => ∃ (j : Nat) (rest : Trees) (s : ByteArray) (acc : List UInt8), i = .int .i64 j ∧ o = .string s ∧ j + rest.length = nn ∧ Hid (s = str acc) ∧ Hid (acc ++ tailP rest.texts (decide (j = 0)) = t.data.toList ++ tailP F.texts true) ∧ Hid (rest.formed = true) ∧ Hid (rest.count ≤ 1048576) ∧ Hid (TreesAt w0 rest p j) ∧ Hid (rest.All (fun G => G.formed = true → G.count ≤ 1048576 → ∀ (w : World) (k n : Int) (t : ByteArray) (p : Option Addr) (cap : Nat), patForm k n t G.length = true → TreesAt w G p 0 →
    Calls Tryz.prog 68 #[.agg #[.int .i64 k, .int .i64 n, .string t, .slice p G.length cap]] w fun e w' => e = .returned (.string (str (nodeP k n t G.texts))) ∧ Below w.heap.size w w')) ∧ Hid (Below w0.heap.size w0 wr)) (fun _ i _ => nn - (intOf i).toNat)
      case atStart => exact ⟨0, F, t, t.data.toList, rfl, rfl, by rw [HN.out]; omega, HTD.out.symm, rfl, HFM, HCC, HX, HALL, Below.refl _ _⟩
      case round =>
        obtain ⟨j, rest, s, acc, rfl, rfl, hjn, hs, hacc, hfr, hcr, hxr, hal, hB⟩ := hrel
        have hb3 := cell_below HC3.out hB.out
        cases rest with
        | cons kd nu tx ar r =>
          have hjl : j < nn := by simp only [Trees.length] at hjn; omega
          have hjn2 : j + 1 + r.length = nn := by simp only [Trees.length] at hjn; omega
          obtain ⟨y, q, cq, rfl, g1, g2, g3, g4, hsub, hrr⟩ := (hxr.out.below hB.out).open
          have hfr1 := hfr.out
          simp only [Trees.formed, Bool.and_eq_true] at hfr1
          have hcr2 := hcr.out
          simp only [Trees.count] at hcr2
          have H := hal.out.1 hfr1.2.1 (by omega) wr kd nu tx q cq hfr1.1 hsub
          have hacc2 := hacc.out
          simp only [Trees.texts, tailP] at hacc2
          have hTl : (t.data.toList ++ tailP F.texts true).length ≤ 104857600 := by
            have h1 := hT.out
            rw [HPT.out, if_neg (by omega), List.length_append] at h1
            omega
          rw [← hacc2, List.length_append, List.length_append, List.length_append] at hTl
          have hxr2 : Hid (TreesAt w0 r (some y) (j + 1)) := hxr.out.2
          have HA2 := Lib.hid hal.out.2
          have HF2 : Hid (r.formed = true) := hfr1.2.2
          have HC2 : Hid (r.count ≤ 1048576) := by unfold Hid; omega
          by_cases hj0 : j = 0
          · subst hj0
            have g1' : wr.cell? y = some (.int .i64 kd) := g1
            have g2' : wr.cell? { block := y.block, off := y.off + 1 } = some (.int .i64 nu) := g2
            have g3' : wr.cell? { block := y.block, off := y.off + 2 } = some (.string tx) := g3
            have g4' : wr.cell? { block := y.block, off := y.off + 3 } = some (.slice q ar.length cq) := g4
            clear g1 g2 g3 g4
            simp only [decide_true, if_true] at hacc2 hTl
            have hk1 := fun w => cat acc [40] (by simp; omega) w
            have hk2 := fun w => cat (acc ++ [40]) (nodeP kd nu tx ar.texts) (by rw [List.length_append]; simp at hTl ⊢; omega) w
            change ∀ w, (Op.stringOp .add (str acc) ⟨#[40]⟩).run Tryz.prog w = _ at hk1
            rw [← hs.out] at hk1
            have HACC : Hid ((acc ++ [40] ++ nodeP kd nu tx ar.texts) ++ tailP r.texts (decide (0 + 1 = 0)) = t.data.toList ++ tailP F.texts true) := by unfold Hid; rw [← hacc2]; simp
            generalize hu1 : str (acc ++ [40]) = u1 at *
            generalize hu2 : str (acc ++ [40] ++ nodeP kd nu tx ar.texts) = u2 at *
            have HU2 : Hid (u2 = str (acc ++ [40] ++ nodeP kd nu tx ar.texts)) := hu2.symm
            generalize str (nodeP kd nu tx ar.texts) = u3 at *
            clear hxr hal hsub hrr hfr hcr hcr2 hacc hacc2 hfr1 hTl hu1 hu2 hjn hs
            go_wp2_with fail
            refine H.mono ?_
            rintro e w1 ⟨rfl, hb1⟩
            have HB1 : Hid (Below w0.heap.size w0 w1) := hB.out.trans (hb1.mono hB.out.size)
            clear hb1 H
            go_wp2
            go_roundw
            case rel => exact ⟨0 + 1, r, u2, _, by go_num, rfl, hjn2, HU2, HACC, HF2, HC2, hxr2, HA2, HB1⟩
            case measure => simp [intOf]; omega
          · simp only [decide_eq_false hj0, Bool.false_eq_true, if_false] at hacc2 hTl
            have hj1 : ((j : Int) == 0) = false := by simp; omega
            have hk1 := fun w => cat acc [44, 32] (by simp at hTl ⊢; omega) w
            have hk2 := fun w => cat (acc ++ [44, 32]) (nodeP kd nu tx ar.texts) (by rw [List.length_append]; simp at hTl ⊢; omega) w
            change ∀ w, (Op.stringOp .add (str acc) ⟨#[44, 32]⟩).run Tryz.prog w = _ at hk1
            rw [← hs.out] at hk1
            have HACC : Hid ((acc ++ [44, 32] ++ nodeP kd nu tx ar.texts) ++ tailP r.texts (decide (j + 1 = 0)) = t.data.toList ++ tailP F.texts true) := by unfold Hid; rw [← hacc2]; simp
            generalize hu1 : str (acc ++ [44, 32]) = u1 at *
            generalize hu2 : str (acc ++ [44, 32] ++ nodeP kd nu tx ar.texts) = u2 at *
            have HU2 : Hid (u2 = str (acc ++ [44, 32] ++ nodeP kd nu tx ar.texts)) := hu2.symm
            generalize str (nodeP kd nu tx ar.texts) = u3 at *
            clear hxr hal hsub hrr hfr hcr hcr2 hacc hacc2 hfr1 hTl hu1 hu2 hjn hs
            go_wp2_with fail
            refine H.mono ?_
            rintro e w1 ⟨rfl, hb1⟩
            have HB1 : Hid (Below w0.heap.size w0 w1) := hB.out.trans (hb1.mono hB.out.size)
            clear hb1 H
            go_wp2
            go_roundw
            case rel => exact ⟨j + 1, r, u2, _, by go_num, rfl, hjn2, HU2, HACC, HF2, HC2, hxr2, HA2, HB1⟩
            case measure => simp [intOf]; omega
        | nil =>
          obtain rfl : j = nn := by simp only [Trees.length] at hjn; omega
          have hac3 : acc = t.data.toList ++ tailP F.texts true := by have := hacc.out; simpa [Trees.texts, tailP] using this
          by_cases h0 : j = 0
          · subst h0
            have HE : Hid (s = str T) := by unfold Hid; rw [hs.out, hac3, HPT.out, if_pos rfl, HAC.out, if_pos rfl]
            have HB1 := Lib.hid hB.out
            clear hxr hal hfr hcr hacc hac3 hs hB
            go_wp2
            go_ret
            exact ⟨by rw [HE.out]; rfl, HB0.out.trans (HB1.out.mono HB0.out.size)⟩
          · have hj1 : ((j : Int) == 0) = false := by simp; omega
            have hgt : (0 : Int) < (j : Int) := by omega
            have hTl : acc.length + 1 ≤ 104857600 := by
              have h1 := hT.out
              rw [HPT.out, if_neg h0, List.length_append, ← hac3] at h1
              simpa using h1
            have hk1 := fun w => cat acc [41] (by simp; omega) w
            change ∀ w, (Op.stringOp .add (str acc) ⟨#[41]⟩).run Tryz.prog w = _ at hk1
            rw [← hs.out] at hk1
            have HE : Hid (str (acc ++ [41]) = str T) := by unfold Hid; rw [hac3, HPT.out, if_neg h0]
            generalize str (acc ++ [41]) = u1 at *
            have HB1 := Lib.hid hB.out
            clear hxr hal hfr hcr hacc hac3 hs hB
            go_wp2
            go_ret
            exact ⟨by rw [← HE.out]; rfl, HB0.out.trans (HB1.out.mono HB0.out.size)⟩
  · cases F with
    | nil => cases hl2
    | cons ka na ta Fa R =>
      cases R with
      | nil => cases hl2
      | cons kb nb tb Fb R2 =>
        cases R2 with
        | cons _ _ _ _ _ => simp [Trees.length] at hl2
        | nil =>
          have e : nodeP 6 n t (Trees.texts (.cons ka na ta Fa (.cons kb nb tb Fb .nil))) = [40] ++ nodeP ka na ta Fa.texts ++ [32, 124, 32] ++ nodeP kb nb tb Fb.texts ++ [41] := by
            show [40] ++ Lib.join [nodeP ka na ta Fa.texts, nodeP kb nb tb Fb.texts] [32, 124, 32] ++ [41] = _
            rw [Lib.join_cons]
            simp [Lib.joinTail]
          rw [e] at hlt ⊢
          simp only [Trees.formed, Bool.and_eq_true] at hfm
          simp only [Trees.count] at hc hlt
          rw [show (Trees.length (.cons ka na ta Fa (.cons kb nb tb Fb .nil))) = 2 from rfl] at *
          obtain ⟨y, pa, ca, rfl, a0, a1, a2, a3, hsa, hxb⟩ := (hx.below hB0).open
          obtain ⟨y', pb, cb, e', b0, b1, b2, b3, hsb, _⟩ := hxb.open
          cases e'
          have c3 := (four_cells (heap_at_new w (.cells #[.int .i64 6, .int .i64 n, .string t, .slice (some y) 2 cap] 49))).2.2.2.1
          generalize hw0 : w.alloc (.cells #[.int .i64 6, .int .i64 n, .string t, .slice (some y) 2 cap] 49) = w0 at *
          have HW0 := Lib.hid hw0
          have HF : Hid (∀ W, Below w0.heap.size w0 W → W.cell? ⟨w.heap.size, 3, none⟩ = some (.slice (some y) 2 cap) ∧ (W.cell? y = some (.int .i64 ka) ∧ W.cell? { block := y.block, off := y.off + 1 } = some (.int .i64 na) ∧ W.cell? { block := y.block, off := y.off + 2 } = some (.string ta) ∧ W.cell? { block := y.block, off := y.off + 3 } = some (.slice pa Fa.length ca)) ∧ W.cell? { block := y.block, off := y.off + 4 } = some (.int .i64 kb) ∧ W.cell? { block := y.block, off := y.off + 4 + 1 } = some (.int .i64 nb) ∧ W.cell? { block := y.block, off := y.off + 4 + 2 } = some (.string tb) ∧ W.cell? { block := y.block, off := y.off + 4 + 3 } = some (.slice pb Fb.length cb)) := fun W hb => ⟨cell_below c3 hb, ⟨cell_below a0 hb, cell_below a1 hb, cell_below a2 hb, cell_below a3 hb⟩, cell_below b0 hb, cell_below b1 hb, cell_below b2 hb, cell_below b3 hb⟩
          have HCA := Lib.hid (fun W (hb : Below w0.heap.size w0 W) => hall.1 hfm.2.1 (by omega) W ka na ta pa ca hfm.1 (hsa.below hb))
          have HCB := Lib.hid (fun W (hb : Below w0.heap.size w0 W) => hall.2.1 hfm.2.2.2.1 (by omega) W kb nb tb pb cb hfm.2.2.1 (hsb.below hb))
          simp only [List.length_append, List.length_cons, List.length_nil] at hlt
          have hk1 := fun w => cat [40] (nodeP ka na ta Fa.texts) (by simp; omega) w
          have hk2 := fun w => cat ([40] ++ nodeP ka na ta Fa.texts) [32, 124, 32] (by simp; omega) w
          have hk3 := fun w => cat ([40] ++ nodeP ka na ta Fa.texts ++ [32, 124, 32]) (nodeP kb nb tb Fb.texts) (by simp; omega) w
          have hk4 := fun w => cat ([40] ++ nodeP ka na ta Fa.texts ++ [32, 124, 32] ++ nodeP kb nb tb Fb.texts) [41] (by simp; omega) w
          change ∀ w, (Op.stringOp .add ⟨#[40]⟩ _).run Tryz.prog w = _ at hk1
          change ∀ w, (Op.stringOp .add _ ⟨#[32, 124, 32]⟩).run Tryz.prog w = _ at hk2
          change ∀ w, (Op.stringOp .add _ ⟨#[41]⟩).run Tryz.prog w = _ at hk4
          generalize hu1 : str ([40] ++ nodeP ka na ta Fa.texts) = u1 at *
          generalize hu2 : str ([40] ++ nodeP ka na ta Fa.texts ++ [32, 124, 32]) = u2 at *
          generalize hu3 : str ([40] ++ nodeP ka na ta Fa.texts ++ [32, 124, 32] ++ nodeP kb nb tb Fb.texts) = u3 at *
          generalize hu4 : str ([40] ++ nodeP ka na ta Fa.texts ++ [32, 124, 32] ++ nodeP kb nb tb Fb.texts ++ [41]) = u4 at *
          generalize str (nodeP ka na ta Fa.texts) = ua at *
          generalize str (nodeP kb nb tb Fb.texts) = ub at *
          have a0' : w0.cell? y = some (.int .i64 ka) := a0
          have a1' : w0.cell? { block := y.block, off := y.off + 1 } = some (.int .i64 na) := a1
          have a2' : w0.cell? { block := y.block, off := y.off + 2 } = some (.string ta) := a2
          have a3' : w0.cell? { block := y.block, off := y.off + 3 } = some (.slice pa Fa.length ca) := a3
          have b0' : w0.cell? { block := y.block, off := y.off + 4 } = some (.int .i64 kb) := b0
          have b1' : w0.cell? { block := y.block, off := y.off + 4 + 1 } = some (.int .i64 nb) := b1
          have b2' : w0.cell? { block := y.block, off := y.off + 4 + 2 } = some (.string tb) := b2
          have b3' : w0.cell? { block := y.block, off := y.off + 4 + 3 } = some (.slice pb Fb.length cb) := b3
          have HD : Hid (Below w0.heap.size w0 w0.drew) := (Below.refl _ _).drew
          clear hall hx hlt e hfm hc hpf hB0 hsa hsb hxb hw0 hu1 hu2 hu3 hu4 a0 a1 a2 a3 b0 b1 b2 b3 hl2
          go_enter Tryz.func68, Tryz.ntmps68
          go_wp2
          rw [HW0.out]
          go_region_held3 (fun W => W.cell? ⟨w.heap.size, 3, none⟩ = some (.slice (some y) 2 cap) ∧ (W.cell? y = some (.int .i64 ka) ∧ W.cell? { block := y.block, off := y.off + 1 } = some (.int .i64 na) ∧ W.cell? { block := y.block, off := y.off + 2 } = some (.string ta) ∧ W.cell? { block := y.block, off := y.off + 3 } = some (.slice pa Fa.length ca)) ∧ W.cell? { block := y.block, off := y.off + 4 } = some (.int .i64 kb) ∧ W.cell? { block := y.block, off := y.off + 4 + 1 } = some (.int .i64 nb) ∧ W.cell? { block := y.block, off := y.off + 4 + 2 } = some (.string tb) ∧ W.cell? { block := y.block, off := y.off + 4 + 3 } = some (.slice pb Fb.length cb))
            (first
              | go_keep
              | (have hkeep := HF.out _ HB2.out; exact hkeep)
              | (have hkeep := HF.out _ HB1.out; exact hkeep)
              | fail "no arm")
            (first
              | (go_at_call 68; (with_reducible refine (HCA.out w0.drew HD.out).mono ?_); rintro e w1 ⟨rfl, hb1⟩; have HB1 : Hid (Below w0.heap.size w0 w1) := Below.trans HD.out (hb1.mono HD.out.size); clear hb1)
              | (go_at_call 68; (with_reducible refine (HCB.out w1 HB1.out).mono ?_); rintro e w2 ⟨rfl, hb2⟩; have HB2 : Hid (Below w0.heap.size w0 w2) := Below.trans HB1.out (hb2.mono HB1.out.size); clear hb2)
              | fail "no arm")
          clear a0' a1' a2' a3' b0' b1' b2' b3' HF HCA HCB HD
          go_wp2
          go_ret
          exact ⟨rfl, HB0.out.trans (HB2.out.mono HB0.out.size)⟩
  · cases F with
    | nil => cases hl1
    | cons ka na ta Fa R =>
      cases R with
      | cons _ _ _ _ _ => simp [Trees.length] at hl1
      | nil =>
        have e : nodeP 7 n t (Trees.texts (.cons ka na ta Fa .nil)) = t.data.toList ++ [32, 64, 32] ++ nodeP ka na ta Fa.texts := rfl
        rw [e] at hlt ⊢
        have ht8 := word_size hN.1
        have htl : t.data.toList.length = t.size := rfl
        simp only [Trees.formed, Bool.and_eq_true] at hfm
        simp only [Trees.count] at hc hlt
        rw [show (Trees.length (.cons ka na ta Fa .nil)) = 1 from rfl] at *
        obtain ⟨y, pa, ca, rfl, a0, a1, a2, a3, hsa, _⟩ := (hx.below hB0).open
        have cc := four_cells (heap_at_new w (.cells #[.int .i64 7, .int .i64 n, .string t, .slice (some y) 1 cap] 49))
        have c2 := cc.2.2.1
        have c3 := cc.2.2.2.1
        generalize hw0 : w.alloc (.cells #[.int .i64 7, .int .i64 n, .string t, .slice (some y) 1 cap] 49) = w0 at *
        have HW0 := Lib.hid hw0
        have HF : Hid (∀ W, Below w0.heap.size w0 W → W.cell? ⟨w.heap.size, 2, none⟩ = some (.string t) ∧ W.cell? ⟨w.heap.size, 3, none⟩ = some (.slice (some y) 1 cap) ∧ W.cell? y = some (.int .i64 ka) ∧ W.cell? { block := y.block, off := y.off + 1 } = some (.int .i64 na) ∧ W.cell? { block := y.block, off := y.off + 2 } = some (.string ta) ∧ W.cell? { block := y.block, off := y.off + 3 } = some (.slice pa Fa.length ca)) := fun W hb => ⟨cell_below c2 hb, cell_below c3 hb, cell_below a0 hb, cell_below a1 hb, cell_below a2 hb, cell_below a3 hb⟩
        have HCA := Lib.hid (fun W (hb : Below w0.heap.size w0 W) => hall.1 hfm.2.1 (by omega) W ka na ta pa ca hfm.1 (hsa.below hb))
        simp only [List.length_append, List.length_cons, List.length_nil] at hlt
        have hk1 := fun w => cat t.data.toList [32, 64, 32] (by rw [htl]; simp; omega) w
        have hk2 := fun w => cat (t.data.toList ++ [32, 64, 32]) (nodeP ka na ta Fa.texts) (by rw [List.length_append, htl]; simp; omega) w
        rw [str_data] at hk1
        change ∀ w, (Op.stringOp .add t ⟨#[32, 64, 32]⟩).run Tryz.prog w = _ at hk1
        generalize hu1 : str (t.data.toList ++ [32, 64, 32]) = u1 at *
        generalize hu2 : str (t.data.toList ++ [32, 64, 32] ++ nodeP ka na ta Fa.texts) = u2 at *
        generalize str (nodeP ka na ta Fa.texts) = ua at *
        have a0' : w0.cell? y = some (.int .i64 ka) := a0
        have a1' : w0.cell? { block := y.block, off := y.off + 1 } = some (.int .i64 na) := a1
        have a2' : w0.cell? { block := y.block, off := y.off + 2 } = some (.string ta) := a2
        have a3' : w0.cell? { block := y.block, off := y.off + 3 } = some (.slice pa Fa.length ca) := a3
        have HD : Hid (Below w0.heap.size w0 w0.drew) := (Below.refl _ _).drew
        clear hall hx hlt e hfm hc hpf hB0 hsa hw0 hu1 hu2 a0 a1 a2 a3 hl1 hN ht8 htl cc
        go_enter Tryz.func68, Tryz.ntmps68
        go_wp2
        rw [HW0.out]
        go_region_held3 (fun W => W.cell? ⟨w.heap.size, 2, none⟩ = some (.string t) ∧ W.cell? ⟨w.heap.size, 3, none⟩ = some (.slice (some y) 1 cap) ∧ W.cell? y = some (.int .i64 ka) ∧ W.cell? { block := y.block, off := y.off + 1 } = some (.int .i64 na) ∧ W.cell? { block := y.block, off := y.off + 2 } = some (.string ta) ∧ W.cell? { block := y.block, off := y.off + 3 } = some (.slice pa Fa.length ca))
          (first
            | go_keep
            | (have hkeep := HF.out _ HB1.out; exact hkeep)
            | fail "no arm")
          (first
            | (go_at_call 68; (with_reducible refine (HCA.out w0.drew HD.out).mono ?_); rintro e w1 ⟨rfl, hb1⟩; have HB1 : Hid (Below w0.heap.size w0 w1) := Below.trans HD.out (hb1.mono HD.out.size); clear hb1)
            | fail "no arm")
        clear a0' a1' a2' a3' HF HCA HD
        go_wp2
        go_ret
        exact ⟨rfl, HB0.out.trans (HB1.out.mono HB0.out.size)⟩

set_option maxHeartbeats 1000000 in
set_option maxRecDepth 100000 in
theorem spec_format_pat (w : World) (k n : Int) (t : ByteArray) (F : Trees) (p : Option Addr) (c : Nat) (hfv : F.fits) (hfc : F.count ≤ 1048576) (ht : t.size ≤ maxLen) (hx : TreesAt w F p 0) :
    Calls Tryz.prog 30 #[.agg #[.int .i64 k, .int .i64 n, .string t, .slice p F.length c]] w fun e w' => e = .returned (.string (patFmt k n t F)) ∧ Below w.heap.size w w' := by
  have hB0 : Below w.heap.size w (w.alloc (.cells #[.int .i64 k, .int .i64 n, .string t, .slice p F.length c] 49)) := (Below.refl _ _).alloc (Nat.le_refl _) _
  obtain ⟨c0, c1, c2, c3, _⟩ := four_cells (heap_at_new w (.cells #[.int .i64 k, .int .i64 n, .string t, .slice p F.length c] 49))
  have HX := Lib.hid (hx.below hB0)
  obtain ⟨w0, hw0⟩ : ∃ w0, w0 = w.alloc (.cells #[.int .i64 k, .int .i64 n, .string t, .slice p F.length c] 49) := ⟨_, rfl⟩
  rw [← hw0] at HX hB0 c0 c1 c2 c3
  have HW0 := Lib.hid hw0
  have HB0 := Lib.hid hB0
  have HV := Lib.hid (spec_valid_pat w0 k n t F p c hfv hfc ht HX.out)
  have HP : Hid (validPat k n t F = true → F.formed = true ∧ patForm k n t F.length = true) := fun h => by
    unfold validPat at h
    simp only [Bool.and_eq_true] at h
    exact ⟨h.2.2, h.2.1⟩
  unfold patFmt
  cases hv : validPat k n t F with
  | false =>
    rw [hv] at HV
    rw [if_neg (by simp)]
    clear hw0 hB0 hx hfv hfc ht hv
    go_enter Tryz.func30, Tryz.ntmps30
    go_wp2_with fail
    rw [← HW0.out]
    refine HV.out.mono ?_
    rintro e w1 ⟨rfl, hb1⟩
    have HB1 := Lib.hid hb1
    clear hb1
    go_wp2
    go_ret
    exact ⟨rfl, HB0.out.trans (HB1.out.mono HB0.out.size)⟩
  | true =>
    obtain ⟨h1, h2⟩ := HP.out hv
    rw [hv] at HV
    rw [if_pos rfl]
    have HT := Lib.hid (fun W (hb : Below w0.heap.size w0 W) => spec_pat_text F h1 hfc W k n t p c h2 (HX.out.below hb))
    generalize str (nodeP k n t F.texts) = u at *
    clear hw0 hB0 hx hfv hfc ht hv h1 h2 HP
    go_enter Tryz.func30, Tryz.ntmps30
    go_wp2_with fail
    rw [← HW0.out]
    refine HV.out.mono ?_
    rintro e w1 ⟨rfl, hb1⟩
    have HB1 := Lib.hid hb1
    have c0 := cell_below c0 hb1
    have c1 := cell_below c1 hb1
    have c2 := cell_below c2 hb1
    have c3 := cell_below c3 hb1
    clear hb1
    go_wp2_with fail
    refine (HT.out w1 HB1.out).mono ?_
    rintro e w2 ⟨rfl, hb2⟩
    have HB2 : Hid (Below w0.heap.size w0 w2) := HB1.out.trans (hb2.mono HB1.out.size)
    clear hb2
    go_wp2
    go_ret
    exact ⟨rfl, HB0.out.trans (HB2.out.mono HB0.out.size)⟩
end Go.Proofs.YtdifefgigcjgeaaGreatDoor
end

/- What is proved here: the program's readVar. Condition: read answers as said at the next depth. -/
section
namespace Go.Proofs.YtdifefgigcjgeaaGreatDoor
open Go.RowKit

set_option maxHeartbeats 1000000 in
set_option maxRecDepth 100000 in
theorem impl_readVar (b d : Nat) (HR : ReadOk b (d + 1)) (w : World) (s r : List UInt8) (t : ByteArray) (m : Nat) (hA : AtWord s t.data.toList r) (hN : Name t) (hm : m + 1 ≤ 24) (hd : d ≤ 8) (h : RdAt w b TR r (m + 1) 24 8) (hl : s.length ≤ 1048576) (hk : Keeps b w) :
    Calls Tryz.prog 161 #[.pointer (some ⟨b, 0, none⟩), .string t, .int .i64 (d : Int)] w fun e w' => Ans w b s m d e w' ∧ Only (Just b) w w' := by
  have hlt := h.lt
  have hrl : r.length ≤ 1048576 := by have := congrArg List.length hA.eq; rw [List.length_append] at this; omega
  obtain ⟨w1, hw1⟩ : ∃ w1, w1 = w.alloc zeroBox := ⟨_, rfl⟩
  have hb1 : PBox w1 w.heap.size 0 0 ⟨#[]⟩ (.slice none 0 0) := by rw [hw1]; exact heap_at_new w _
  have hB1 : Only (Just b) w w1 := by rw [hw1]; exact (Only.refl _ _).more _
  have hR1 : RdAt w1 b TR r (m + 1) 24 8 := by rw [hw1]; exact h.below ((Below.refl _ _).alloc (Nat.le_refl _) _)
  have hs1 : w1.heap.size = w.heap.size + 1 := by rw [hw1]; exact Array.size_push _
  have HS := impl_skip w1 b TR r [32, 64, 32] (m + 1) 24 8 hR1
  have HW1 := Lib.hid hw1
  clear hw1
  rcases skip_cases r [32, 64, 32] with ⟨e1, e2, e3⟩ | ⟨e1, e2⟩
  · rw [e1, e3] at HS
    have HP := Lib.hid (var_ok (d := d) hA hN hm hd (fun x => e2 x))
    have H1 : Hid (PBox w1 w.heap.size 0 0 ⟨#[]⟩ (.slice none 0 0) ∧ Only (Just b) w w1 ∧ w1.heap.size = w.heap.size + 1 ∧ b < w.heap.size) := ⟨hb1, hB1, hs1, hlt⟩
    clear hA hN hm hd h hl hk e1 e2 e3 HR hR1 hb1 hB1 hs1 hlt hrl
    go_enter Tryz.func161, Tryz.ntmps161
    go_wp2_with fail
    rw [← HW1.out]
    refine HS.mono ?_
    rintro e w2 ⟨rfl, hR2, hO2⟩
    have hb2 : PBox w2 w.heap.size 0 0 ⟨#[]⟩ (.slice none 0 0) := (hO2.block _ (by have := H1.out.2.2.1; omega) (by have := H1.out.2.2.2; show ¬ (w.heap.size = b); omega)).trans H1.out.1
    obtain ⟨x0, x1, x2, x3, f0, f1, f2, f3⟩ := four_cells hb2
    have H2 : Hid (PBox w2 w.heap.size 0 0 ⟨#[]⟩ (.slice none 0 0) ∧ RdAt w2 b TR r (m + 1) 24 8 ∧ Only (Just b) w w2) := ⟨hb2, hR2, H1.out.2.1.trans hO2⟩
    clear hb2 hR2 hO2 HS
    go_wp2
    refine bodyPost_ret (results_row_tmp rfl _ _ w.heap.size _ _ _ _ rfl (set4_box H2.out.1 _ _ _ _) Tryz.underlying49 rfl (by kernel_rfl)) rfl ?_
    exact ans_leaf rfl H2.out.2.1 HP.out H2.out.2.2 (Nat.le_refl _) (by have := H1.out.2.2.2; omega)
  · rw [e1] at HS
    generalize skipped r [32, 64, 32] = r1 at *
    have e4 : r = 32 :: 64 :: 32 :: r1 := e2
    subst e4
    have HR' : ∀ w2, RdAt w2 b TR r1 (m + 1) 24 8 → Keeps b w2 → Calls Tryz.prog 61 #[.pointer (some ⟨b, 0, none⟩), .int .i64 ((d : Int) + 1)] w2 fun e w' => Ans w2 b r1 (m + 1) (d + 1) e w' ∧ Only (Just b) w2 w' :=
      fun w2 h1 h2 => HR w2 r1 (m + 1) h1 hm (by have := congrArg List.length e2; rw [List.length_append] at this; omega) h2
    have H1 : Hid (PBox w1 w.heap.size 0 0 ⟨#[]⟩ (.slice none 0 0) ∧ Only (Just b) w w1 ∧ w1.heap.size = w.heap.size + 1 ∧ b < w.heap.size ∧ Keeps b w1) := ⟨hb1, hB1, hs1, hlt, hk.on hB1⟩
    have HAN : Hid (AtWord s t.data.toList (32 :: 64 :: 32 :: r1) ∧ Name t) := ⟨hA, hN⟩
    clear hA hN h hl hk e1 e2 HR hR1 hb1 hB1 hs1 hlt hrl
    go_enter Tryz.func161, Tryz.ntmps161
    go_wp2_with fail
    rw [← HW1.out]
    refine HS.mono ?_
    rintro e w2 ⟨rfl, hR2, hO2⟩
    have hb2 : PBox w2 w.heap.size 0 0 ⟨#[]⟩ (.slice none 0 0) := (hO2.block _ (by have := H1.out.2.2.1; omega) (by have := H1.out.2.2.2.1; show ¬ (w.heap.size = b); omega)).trans H1.out.1
    have H2 : Hid (PBox w2 w.heap.size 0 0 ⟨#[]⟩ (.slice none 0 0) ∧ Only (Just b) w w2 ∧ w.heap.size + 1 ≤ w2.heap.size) := ⟨hb2, H1.out.2.1.trans hO2, by have := H1.out.2.2.1; have := hO2.size; omega⟩
    have HR2 := Lib.hid (HR' w2 hR2 (H1.out.2.2.2.2.on hO2))
    clear hb2 hR2 hO2 HS HR'
    go_wp2_with fail
    refine HR2.out.mono ?_
    clear HR2
    rintro e w3 ⟨hAns, hO3⟩
    have hb3 : PBox w3 w.heap.size 0 0 ⟨#[]⟩ (.slice none 0 0) := (hO3.block _ (by have := H2.out.2.2; omega) (by have := H1.out.2.2.2.1; show ¬ (w.heap.size = b); omega)).trans H2.out.1
    have HO3 : Hid (Only (Just b) w w3 ∧ w2.heap.size ≤ w3.heap.size) := ⟨H2.out.2.1.trans hO3, hO3.size⟩
    clear hO3
    rcases hAns with ⟨p, s', m', v, bs, rfl, ho, hnd, hbs, hR3, hP⟩ | ⟨s', m', rfl, hR3, hP⟩
    · obtain ⟨p2, cap2, rfl, _, _⟩ := ho.reads
      obtain ⟨n1, n2, n3, n4⟩ := two_new w3 (.cells #[.int .i64 p.k, .int .i64 p.n, .string p.t, .slice p2 p.F.length cap2] TP) (.cells #[.int .i64 p.k, .int .i64 p.n, .string p.t, .slice p2 p.F.length cap2] TP)
      have H4 : Hid (Pt.OwnV w3 (.slice p2 p.F.length cap2) p.F bs ∧ bs.Nodup ∧ (∀ c ∈ bs, w2.heap.size ≤ c ∧ c < w3.heap.size) ∧ RdAt w3 b TR s' m' 24 8 ∧ OkP r1 (m + 1) (d + 1) p s' m') := ⟨ho, hnd, hbs, hR3, hP⟩
      have hb4 := (n4.block w.heap.size (Array.getElem?_eq_some_iff.1 hb3).1).trans hb3
      have H5 : Hid (PBox ((w3.alloc (.cells #[.int .i64 p.k, .int .i64 p.n, .string p.t, .slice p2 p.F.length cap2] TP)).alloc (.cells #[.int .i64 p.k, .int .i64 p.n, .string p.t, .slice p2 p.F.length cap2] TP)) w.heap.size 0 0 ⟨#[]⟩ (.slice none 0 0) ∧ PBox ((w3.alloc (.cells #[.int .i64 p.k, .int .i64 p.n, .string p.t, .slice p2 p.F.length cap2] TP)).alloc (.cells #[.int .i64 p.k, .int .i64 p.n, .string p.t, .slice p2 p.F.length cap2] TP)) (w3.heap.size + 1) p.k p.n p.t (.slice p2 p.F.length cap2) ∧ ((w3.alloc (.cells #[.int .i64 p.k, .int .i64 p.n, .string p.t, .slice p2 p.F.length cap2] TP)).alloc (.cells #[.int .i64 p.k, .int .i64 p.n, .string p.t, .slice p2 p.F.length cap2] TP)).heap.size = w3.heap.size + 2 ∧ Below w3.heap.size w3 ((w3.alloc (.cells #[.int .i64 p.k, .int .i64 p.n, .string p.t, .slice p2 p.F.length cap2] TP)).alloc (.cells #[.int .i64 p.k, .int .i64 p.n, .string p.t, .slice p2 p.F.length cap2] TP))) := ⟨hb4, n2, n3, n4⟩
      obtain ⟨y0, y1, y2, y3, i0, i1, i2, i3⟩ := four_cells hb4
      have hbn := heap_at_new w3 (.cells #[.int .i64 p.k, .int .i64 p.n, .string p.t, .slice p2 p.F.length cap2] TP)
      obtain ⟨x0, x1, x2, x3, f0, f1, f2, f3⟩ := four_cells hbn
      clear ho hnd hbs hR3 hP hb3 hb4 n1 n2 n3 n4 hbn
      go_wp2
      refine bodyPost_ret (results_row_tmp rfl _ _ w.heap.size _ _ _ _ rfl (set4_box H5.out.1 _ _ _ _) Tryz.underlying49 rfl (by kernel_rfl)) rfl ?_
      obtain ⟨k1, k2, k3, k4, k5⟩ := H4.out
      obtain ⟨j1, j2, j3, j4⟩ := H5.out
      have q1 := H2.out.2.2
      have q2 := HO3.out.2
      have q3 := H1.out.2.2.2.1
      refine ans_some (p := ⟨7, 0, t, p.one .nil⟩) rfl (own_one j2 (k1.keep (fun c hc => j4.block c (k3 c hc).2))) (List.nodup_cons.2 ⟨fun hc => ?_, k2⟩) (fun c hc => ?_) (fun c hc => ?_) (k4.below j4) (as_ok HAN.out.1 HAN.out.2 k5) (HO3.out.1.trans (Only.of_below j4)) (Nat.le_refl _) (by omega)
      · have := k3 _ hc; omega
      · rcases List.mem_cons.1 hc with rfl | hc
        · exact ⟨by omega, Nat.lt_of_lt_of_eq (Nat.lt_succ_self _) j3.symm⟩
        · have := k3 c hc
          exact ⟨by omega, Nat.lt_of_lt_of_eq (m := w3.heap.size + 2) (by omega) j3.symm⟩
      · rcases List.mem_cons.1 hc with rfl | hc
        · omega
        · have := k3 c hc; omega
    · have H3 : Hid (PBox w3 w.heap.size 0 0 ⟨#[]⟩ (.slice none 0 0) ∧ RdAt w3 b TR s' m' 24 8 ∧ NoneP r1 (m + 1) (d + 1)) := ⟨hb3, hR3, hP⟩
      clear hR3 hP
      have hb4 : PBox (w3.alloc zeroBox) w.heap.size 0 0 ⟨#[]⟩ (.slice none 0 0) := (Below.heap_alloc _ _ _ (Array.getElem?_eq_some_iff.1 hb3).1).trans hb3
      have HB4 := Lib.hid hb4
      obtain ⟨x0, x1, x2, x3, f0, f1, f2, f3⟩ := four_cells hb4
      clear hb3 hb4
      go_wp2
      refine bodyPost_ret (results_row_tmp rfl _ _ w.heap.size _ _ _ _ rfl (set4_box HB4.out _ _ _ _) Tryz.underlying49 rfl (by kernel_rfl)) rfl ?_
      have q3 := H1.out.2.2.2.1
      exact ans_none rfl (H3.out.2.1.below ((Below.refl _ _).alloc (Nat.le_refl _) _)) (as_none HAN.out.1 HAN.out.2 H3.out.2.2) (HO3.out.1.more _) (Nat.le_refl _) (by omega)
end Go.Proofs.YtdifefgigcjgeaaGreatDoor
end
