/- What is proved here: the model's FormatValue returns the representation of a value. Condition: the value lies in memory as said, and is small. -/
import Derived.Test.YtlbmohdebbapgaaDoorTreeText
import Derived.Test.YtlbmohdebbapgaaDoorTreeCells
import Derived.Test.YtlbmohdebbapgaaDoorFormat
namespace Go.Proofs.YtlbmohdebbapgaaDoor
open Go.RowKit

theorem cat (a b : List UInt8) (h : a.length + b.length ≤ 1099511627776) (w : World) : (Op.stringOp .add (str a) (str b)).run Tryd.prog w = .ok (.string (str (a ++ b))) w := by
  rw [run_string_add_sum w _ _ (by rw [str_size, str_size]; omega), str_append]

set_option maxHeartbeats 1000000 in
set_option maxRecDepth 100000 in
theorem spec_format_value : ∀ F : Trees, F.fits → F.size ≤ 1048576 → ∀ (w : World) (k n : Int) (t : ByteArray) (p : Option Addr) (cap : Nat), (-9223372036854775808 ≤ n ∧ n ≤ 9223372036854775807) → t.size ≤ 1048576 → TreesAt w F p 0 →
    Calls Tryd.prog 6 #[.agg #[.int .i64 k, .int .i64 n, .string t, .slice p F.length cap]] w fun e w' => e = .returned (.string (str (nodeText k n t F))) ∧ Below w.heap.size w w' := by
  refine Trees.ind fun F hall hfit hsz w k n t p cap hn ht hx => ?_
  have hB0 : Below w.heap.size w (w.alloc (.cells #[.int .i64 k, .int .i64 n, .string t, .slice p F.length cap] 29)) := (Below.refl _ _).alloc (Nat.le_refl _) _
  have HB0 := Lib.hid hB0
  have hlt := nodeText_len k n t F hn hfit
  by_cases h1 : k = 1
  · subst h1
    have e : nodeText 1 n t F = Lib.itoa n := by simp [nodeText, headText]
    rw [e]
    have HF := spec_format n hn.1 hn.2
    clear hall hx hn hB0 hlt e hfit
    go_enter Tryd.func6, Tryd.ntmps6
    go_wp2_with fail
    refine (HF _).mono ?_
    rintro e w1 ⟨rfl, hb1⟩
    have HB1 := Lib.hid hb1
    clear hb1 HF
    go_wp2
    go_ret
    exact ⟨rfl, HB0.out.trans (HB1.out.mono HB0.out.size)⟩
  · have e1 : (k == 1) = false := by simpa using h1
    by_cases h2 : k = 2
    · subst h2
      have e : nodeText 2 n t F = [34] ++ t.data.toList ++ [34] := by simp [nodeText, headText]
      rw [e]
      have htl : t.data.toList.length = t.size := rfl
      have hc1 := fun w => cat [34] t.data.toList (by rw [htl]; simp; omega) w
      rw [str_data] at hc1
      have hc2 := fun w => cat ([34] ++ t.data.toList) [34] (by rw [List.length_append, htl]; simp; omega) w
      change ∀ w, (Op.stringOp .add ⟨#[34]⟩ t).run Tryd.prog w = _ at hc1
      change ∀ w, (Op.stringOp .add (str ([34] ++ t.data.toList)) ⟨#[34]⟩).run Tryd.prog w = _ at hc2
      generalize hs1 : str ([34] ++ t.data.toList) = s1 at *
      generalize hs2 : str ([34] ++ t.data.toList ++ [34]) = s2 at *
      clear hall hx hn hB0 hlt e hfit htl hs1 hs2
      go_enter Tryd.func6, Tryd.ntmps6
      go_wp2
      go_ret
      exact ⟨rfl, HB0.out⟩
    · have e2 : (k == 2) = false := by simpa using h2
      by_cases h3 : k = 3
      · subst h3
        have e : nodeText 3 n t F = t.data.toList ++ F.tail true ++ F.close := by simp [nodeText, headText]
        rw [e] at hlt ⊢
        have HALL := Lib.hid hall
        have HFIT := Lib.hid hfit
        have hlc := F.length_le_size
        have HSZ := Lib.hid hsz
        have hnb : F.length ≤ 1048576 := by omega
        have HX := Lib.hid (hx.below hB0)
        have hc3 := (four_cells (heap_at_new w (.cells #[.int .i64 3, .int .i64 n, .string t, .slice p F.length cap] 29))).2.2.2.1
        have htd : str t.data.toList = t := str_data t
        rw [List.length_append, List.length_append] at hlt
        have hT : Hid ((t.data.toList ++ F.tail true).length ≤ 104857600) := by unfold Hid; rw [List.length_append]; omega
        have HCL : Hid (F.close = if F.length = 0 then [] else [41]) := by unfold Hid; cases F with | nil => rfl | cons _ _ _ _ _ => rw [if_neg (by simp [Trees.length])]; rfl
        generalize hTT : t.data.toList ++ F.tail true = T at *
        have HTT := Lib.hid hTT
        generalize hCC : F.close = C at *
        generalize hnn : F.length = nn at *
        have HN := Lib.hid hnn
        generalize hw0 : w.alloc (.cells #[.int .i64 3, .int .i64 n, .string t, .slice p nn cap] 29) = w0 at *
        have HW0 := Lib.hid hw0
        have HC3 := Lib.hid hc3
        have HTD := Lib.hid htd
        clear hall hfit hx hB0 hlt e hTT hCC hnn hw0 hc3 hsz htd h1 h2
        go_enter Tryd.func6, Tryd.ntmps6
        go_wp2
        rw [HW0.out]
        go_loopw [3, 4] (fun o i wr => ∃ (j : Nat) (rest : Trees) (s : ByteArray) (acc : List UInt8), i = .int .i64 j ∧ o = .string s ∧ j + rest.length = nn ∧ Hid (s = str acc) ∧ Hid (acc ++ rest.tail (decide (j = 0)) = T) ∧ Hid (rest.fits) ∧ Hid (rest.size ≤ 1048576) ∧ Hid (TreesAt w0 rest p j) ∧ Hid (rest.All (fun G => G.fits → G.size ≤ 1048576 → ∀ (w : World) (k n : Int) (t : ByteArray) (p : Option Addr) (cap : Nat), (-9223372036854775808 ≤ n ∧ n ≤ 9223372036854775807) → t.size ≤ 1048576 → TreesAt w G p 0 →
    Calls Tryd.prog 6 #[.agg #[.int .i64 k, .int .i64 n, .string t, .slice p G.length cap]] w fun e w' => e = .returned (.string (str (nodeText k n t G))) ∧ Below w.heap.size w w')) ∧ Hid (Below w0.heap.size w0 wr)) (fun _ i _ => nn - (intOf i).toNat)
        case atStart => exact ⟨0, F, t, t.data.toList, rfl, rfl, by rw [HN.out]; omega, HTD.out.symm, HTT, HFIT, HSZ, HX, HALL, Below.refl _ _⟩
        case round =>
          obtain ⟨j, rest, s, acc, rfl, rfl, hjn, hs, hacc, hfr, hsr, hxr, hal, hB⟩ := hrel
          have hb3 := cell_below HC3.out hB.out
          cases rest with
          | cons kd nu tx ar r =>
            have hjl : j < nn := by simp only [Trees.length] at hjn; omega
            have hjn2 : j + 1 + r.length = nn := by simp only [Trees.length] at hjn; omega
            obtain ⟨y, q, cq, rfl, g1, g2, g3, g4, hsub, hrr⟩ := (hxr.out.below hB.out).open
            obtain ⟨_, hnu, _, _, hfa, hfr2⟩ := hfr.out
            have hsr2 := hsr.out
            simp only [Trees.size] at hsr2
            have H := hal.out.1 hfa (by omega) wr kd nu tx q cq hnu (by omega) hsub
            have hacc2 := hacc.out
            rw [tail_cons] at hacc2
            have hTl := hT.out
            rw [← hacc2, List.length_append, List.length_append, List.length_append] at hTl
            have hxr2 : Hid (TreesAt w0 r (some y) (j + 1)) := hxr.out.2
            have HA2 := Lib.hid hal.out.2
            have HF2 := Lib.hid hfr2
            have HS2 : Hid (r.size ≤ 1048576) := by unfold Hid; omega
            by_cases hj0 : j = 0
            · subst hj0
              have g1' : wr.cell? y = some (.int .i64 kd) := g1
              have g2' : wr.cell? { block := y.block, off := y.off + 1 } = some (.int .i64 nu) := g2
              have g3' : wr.cell? { block := y.block, off := y.off + 2 } = some (.string tx) := g3
              have g4' : wr.cell? { block := y.block, off := y.off + 3 } = some (.slice q ar.length cq) := g4
              clear g1 g2 g3 g4
              have hk1 := fun w => cat acc [40] (by simp; omega) w
              have hk2 := fun w => cat (acc ++ [40]) (nodeText kd nu tx ar) (by rw [List.length_append]; simp; omega) w
              change ∀ w, (Op.stringOp .add (str acc) ⟨#[40]⟩).run Tryd.prog w = _ at hk1
              rw [← hs.out] at hk1
              have HACC : Hid ((acc ++ [40] ++ nodeText kd nu tx ar) ++ r.tail (decide (0 + 1 = 0)) = T) := by unfold Hid; rw [← hacc2]; simp
              generalize hu1 : str (acc ++ [40]) = u1 at *
              generalize hu2 : str (acc ++ [40] ++ nodeText kd nu tx ar) = u2 at *
              have HU2 : Hid (u2 = str (acc ++ [40] ++ nodeText kd nu tx ar)) := hu2.symm
              generalize str (nodeText kd nu tx ar) = u3 at *
              clear hxr hal hsub hrr hfr hsr hsr2 hacc hacc2 hfa hfr2 hnu hTl hu1 hu2 hjn hs
              go_wp2_with fail
              refine H.mono ?_
              rintro e w1 ⟨rfl, hb1⟩
              have HB1 : Hid (Below w0.heap.size w0 w1) := hB.out.trans (hb1.mono hB.out.size)
              clear hb1 H
              go_wp2
              go_roundw
              case rel => exact ⟨1, r, u2, _, by go_num, rfl, hjn2, HU2, HACC, HF2, HS2, hxr2, HA2, HB1⟩
              case measure => simp [intOf]; omega
            · have hk1 := fun w => cat acc [44, 32] (by simp; omega) w
              have hk2 := fun w => cat (acc ++ [44, 32]) (nodeText kd nu tx ar) (by rw [List.length_append]; simp; omega) w
              change ∀ w, (Op.stringOp .add (str acc) ⟨#[44, 32]⟩).run Tryd.prog w = _ at hk1
              rw [← hs.out] at hk1
              have HACC : Hid ((acc ++ [44, 32] ++ nodeText kd nu tx ar) ++ r.tail (decide (j + 1 = 0)) = T) := by unfold Hid; rw [← hacc2]; simp [hj0]
              have hjz : ((j : Int) == 0) = false := by simp; omega
              generalize hu1 : str (acc ++ [44, 32]) = u1 at *
              generalize hu2 : str (acc ++ [44, 32] ++ nodeText kd nu tx ar) = u2 at *
              have HU2 : Hid (u2 = str (acc ++ [44, 32] ++ nodeText kd nu tx ar)) := hu2.symm
              generalize str (nodeText kd nu tx ar) = u3 at *
              clear hxr hal hsub hrr hfr hsr hsr2 hacc hacc2 hfa hfr2 hnu hTl hu1 hu2 hjn hs hj0
              go_wp2_with fail
              refine H.mono ?_
              rintro e w1 ⟨rfl, hb1⟩
              have HB1 : Hid (Below w0.heap.size w0 w1) := hB.out.trans (hb1.mono hB.out.size)
              clear hb1 H
              go_wp2
              go_roundw
              case rel => exact ⟨j + 1, r, u2, _, by go_num, rfl, hjn2, HU2, HACC, HF2, HS2, hxr2, HA2, HB1⟩
              case measure => simp [intOf]; omega
          | nil =>
            obtain rfl : j = nn := by simp only [Trees.length] at hjn; omega
            have hacc2 := hacc.out
            simp only [Trees.tail, List.append_nil] at hacc2
            subst hacc2
            by_cases hz : j = 0
            · subst hz
              have HE : Hid (str (acc ++ C) = s) := by unfold Hid; rw [HCL.out, if_pos rfl, List.append_nil, hs.out]
              clear hxr hal hfr hsr hs hacc
              go_wp2
              go_ret
              exact ⟨by rw [HE.out]; rfl, HB0.out.trans (hB.out.mono (Nat.le_trans HB0.out.size (by rw [← HW0.out]; exact Nat.le_refl _)))⟩
            · have hTl := hT.out
              have hk1 := fun w => cat acc [41] (by simp; omega) w
              change ∀ w, (Op.stringOp .add (str acc) ⟨#[41]⟩).run Tryd.prog w = _ at hk1
              rw [← hs.out] at hk1
              have HE : Hid (str (acc ++ C) = str (acc ++ [41])) := by unfold Hid; rw [HCL.out, if_neg hz]
              have hjz : 0 < j := by omega
              generalize str (acc ++ [41]) = u1 at *
              clear hxr hal hfr hsr hs hacc hTl hz
              go_wp2
              go_ret
              exact ⟨by rw [HE.out]; rfl, HB0.out.trans (hB.out.mono (Nat.le_trans HB0.out.size (by rw [← HW0.out]; exact Nat.le_refl _)))⟩
      · have e3 : (k == 3) = false := by simpa using h3
        have e : nodeText k n t F = [63] := by simp [nodeText, headText, h1, h2, h3]
        rw [e]
        clear hall hx hn hB0 hlt e hfit
        go_enter Tryd.func6, Tryd.ntmps6
        go_wp2
        go_ret
        exact ⟨rfl, HB0.out⟩
end Go.Proofs.YtlbmohdebbapgaaDoor
