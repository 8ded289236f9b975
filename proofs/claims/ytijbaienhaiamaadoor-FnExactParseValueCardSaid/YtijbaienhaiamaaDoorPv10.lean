/- What is proved here: a piece of the proof of YtijbaienhaiamaaDoorExactParseValue (TreeSpec, SpecDepth, Cat, SpecText, KindValues, VaCon, RuneHigh). Condition: none beyond what each part says. -/
import Derived.Test.YtijbaienhaiamaaDoorPv01
import Derived.Test.YtijbaienhaiamaaDoorPv02
import Derived.Deep.RegionHeld3
import Derived.Laws.IdiomStrings
import Derived.Laws.Concat
import Derived.Test.YtijbaienhaiamaaDoorPv05
import Derived.Test.YtijbaienhaiamaaDoorPv04
import Derived.Test.YtijbaienhaiamaaDoorPv08
import Derived.Test.YtijbaienhaiamaaDoorPv03
import Derived.Deep.QuietTactic
import Derived.BigQuiet
import Derived.Laws.RangeAny
import Derived.Laws.Runes
import Derived.Laws.RangeString
import Derived.Deep.LoopGhost
import Derived.WalkMore
import Derived.Test.YtijbaienhaiamaaDoorPv09

/- What is proved here: the model's CountValue counts the nodes of a value. Condition: the value lies in memory as said, and is small. -/
section
namespace Go.Proofs.YtijbaienhaiamaaDoor
open Go.RowKit

set_option maxHeartbeats 1000000 in
set_option maxRecDepth 100000 in
theorem spec_count : ∀ F : Trees, F.count ≤ 1048576 → ∀ (w : World) (k n : Int) (t : ByteArray) (p : Option Addr) (cap : Nat), TreesAt w F p 0 →
    Calls Tryd.prog 10 #[.agg #[.int .i64 k, .int .i64 n, .string t, .slice p F.length cap]] w fun e w' => e = .returned (.int .i64 ((1 + F.count : Nat) : Int)) ∧ Below w.heap.size w w' := by
  refine Trees.ind fun F hall hc w k n t p cap hx => ?_
  have hlc := F.length_le_count
  have HALL := Lib.hid hall
  clear hall
  generalize hz : 1 + F.count = z
  have HZ : Hid (z = 1 + F.count) := hz.symm
  have hzb : z ≤ 1048577 := by omega
  generalize hn : F.length = nn at *
  have HN := Lib.hid hn
  clear hn hz
  have hB0 : Below w.heap.size w (w.alloc (.cells #[.int .i64 k, .int .i64 n, .string t, .slice p nn cap] 24)) := (Below.refl _ _).alloc (Nat.le_refl _) _
  have HX := Lib.hid (hx.below hB0)
  have hc3 := (four_cells (heap_at_new w (.cells #[.int .i64 k, .int .i64 n, .string t, .slice p nn cap] 24))).2.2.2.1
  go_enter Tryd.func10, Tryd.ntmps10
  go_wp2
  generalize w.alloc (.cells #[.int .i64 k, .int .i64 n, .string t, .slice p nn cap] 24) = w0 at *
  have HB0 := Lib.hid hB0
  have HC3 := Lib.hid hc3
  clear hB0 hx hc3
  go_loopw [3, 4] (fun s i wr => ∃ (j c : Nat) (rest : Trees), i = .int .i64 j ∧ s = .int .i64 c ∧ j + rest.length = nn ∧ c + rest.count = z ∧ Hid (TreesAt w0 rest p j) ∧ Hid (rest.All (fun G => G.count ≤ 1048576 → ∀ (w : World) (k n : Int) (t : ByteArray) (p : Option Addr) (cap : Nat), TreesAt w G p 0 →
    Calls Tryd.prog 10 #[.agg #[.int .i64 k, .int .i64 n, .string t, .slice p G.length cap]] w fun e w' => e = .returned (.int .i64 ((1 + G.count : Nat) : Int)) ∧ Below w.heap.size w w')) ∧ Hid (Below w0.heap.size w0 wr)) (fun _ i _ => nn - (intOf i).toNat)
  case atStart => exact ⟨0, 1, F, rfl, rfl, by rw [HN.out]; omega, HZ.out.symm, HX, HALL, Below.refl _ _⟩
  case round =>
    obtain ⟨j, c, rest, rfl, rfl, hjn, hcz, hxr, hall, hB⟩ := hrel
    have hb3 := cell_below HC3.out hB.out
    cases rest with
    | cons kd nu tx ar r =>
      have hjl : j < nn := by simp only [Trees.length] at hjn; omega
      have hjn2 : j + 1 + r.length = nn := by simp only [Trees.length] at hjn; omega
      have hcz2 : c + (1 + ar.count) + r.count = z := by simp only [Trees.count] at hcz; omega
      obtain ⟨y, q, cq, rfl, h1, h2, h3, h4, hs, hr⟩ := (hxr.out.below hB.out).open
      have hxr2 : Hid (TreesAt w0 r (some y) (j + 1)) := hxr.out.2
      have H := hall.out.1 (by omega) wr kd nu tx q cq hs
      have HA2 := Lib.hid hall.out.2
      generalize 1 + ar.count = d at *
      clear hxr hall hs hr hjn hcz
      go_wp2_with fail
      refine H.mono ?_
      rintro e w1 ⟨rfl, hb1⟩
      have HB1 : Hid (Below w0.heap.size w0 w1) := hB.out.trans (hb1.mono hB.out.size)
      clear hb1 H
      go_wp2
      go_roundw
      case rel => exact ⟨j + 1, c + d, r, by go_num, by go_num, hjn2, hcz2, hxr2, HA2, HB1⟩
      case measure => simp [intOf]; omega
    | nil =>
      obtain rfl : j = nn := by simp only [Trees.length] at hjn; omega
      obtain rfl : c = z := by simp only [Trees.count] at hcz; omega
      clear hxr hall
      go_wp2
      go_ret
      exact ⟨rfl, HB0.out.trans (hB.out.mono HB0.out.size)⟩
end Go.Proofs.YtijbaienhaiamaaDoor
end

/- What is proved here: the model's DepthOfValue counts the depth of a value. Condition: the value lies in memory as said, and is small. -/
section
namespace Go.Proofs.YtijbaienhaiamaaDoor
open Go.RowKit

theorem spec_max (a b : Nat) (w : World) :
    Calls Tryd.prog 22 #[.int .i64 (a : Int), .int .i64 (b : Int)] w fun e w' => e = .returned (.int .i64 ((max a b : Nat) : Int)) ∧ w' = w := by
  by_cases h : b < a
  · rw [Nat.max_eq_left (by omega)]
    go_enter Tryd.func22, Tryd.ntmps22
    go_wp2
    go_ret
    exact ⟨rfl, rfl⟩
  · rw [Nat.max_eq_right (by omega)]
    go_enter Tryd.func22, Tryd.ntmps22
    go_wp2
    go_ret
    exact ⟨rfl, rfl⟩

set_option maxHeartbeats 1000000 in
set_option maxRecDepth 100000 in
theorem spec_depth : ∀ F : Trees, F.count ≤ 1048576 → ∀ (w : World) (k n : Int) (t : ByteArray) (p : Option Addr) (cap : Nat), TreesAt w F p 0 →
    Calls Tryd.prog 11 #[.agg #[.int .i64 k, .int .i64 n, .string t, .slice p F.length cap]] w fun e w' => e = .returned (.int .i64 ((F.deep + 1 : Nat) : Int)) ∧ Below w.heap.size w w' := by
  refine Trees.ind fun F hall hc w k n t p cap hx => ?_
  have hlc := F.length_le_count
  have hdc := F.deep_le_count
  have HALL := Lib.hid hall
  clear hall
  generalize hz : F.deep = z at *
  have HZ : Hid (F.deep = z) := hz
  have hzb : z ≤ 1048577 := by omega
  have HCC := Lib.hid hc
  generalize hn : F.length = nn at *
  have HN := Lib.hid hn
  clear hn hz hdc
  have hB0 : Below w.heap.size w (w.alloc (.cells #[.int .i64 k, .int .i64 n, .string t, .slice p nn cap] 24)) := (Below.refl _ _).alloc (Nat.le_refl _) _
  have HX := Lib.hid (hx.below hB0)
  have hc3 := (four_cells (heap_at_new w (.cells #[.int .i64 k, .int .i64 n, .string t, .slice p nn cap] 24))).2.2.2.1
  go_enter Tryd.func11, Tryd.ntmps11
  go_wp2
  generalize w.alloc (.cells #[.int .i64 k, .int .i64 n, .string t, .slice p nn cap] 24) = w0 at *
  have HB0 := Lib.hid hB0
  have HC3 := Lib.hid hc3
  clear hB0 hx hc3
  go_loopw [3, 4] (fun s i wr => ∃ (j c : Nat) (rest : Trees), i = .int .i64 j ∧ s = .int .i64 c ∧ c ≤ z ∧ j + rest.length = nn ∧ Hid (max c rest.deep = z) ∧ Hid (rest.count ≤ 1048576) ∧ Hid (TreesAt w0 rest p j) ∧ Hid (rest.All (fun G => G.count ≤ 1048576 → ∀ (w : World) (k n : Int) (t : ByteArray) (p : Option Addr) (cap : Nat), TreesAt w G p 0 →
    Calls Tryd.prog 11 #[.agg #[.int .i64 k, .int .i64 n, .string t, .slice p G.length cap]] w fun e w' => e = .returned (.int .i64 ((G.deep + 1 : Nat) : Int)) ∧ Below w.heap.size w w')) ∧ Hid (Below w0.heap.size w0 wr)) (fun _ i _ => nn - (intOf i).toNat)
  case atStart => exact ⟨0, 0, F, rfl, rfl, Nat.zero_le _, by rw [HN.out]; omega, by unfold Hid; rw [HZ.out]; omega, HCC, HX, HALL, Below.refl _ _⟩
  case round =>
    obtain ⟨j, c, rest, rfl, rfl, hcl, hjn, hcz, hcr, hxr, hall, hB⟩ := hrel
    have hb3 := cell_below HC3.out hB.out
    cases rest with
    | cons kd nu tx ar r =>
      have hjl : j < nn := by simp only [Trees.length] at hjn; omega
      have hjn2 : j + 1 + r.length = nn := by simp only [Trees.length] at hjn; omega
      have hcz2 := hcz.out
      have hcr2 := hcr.out
      simp only [Trees.deep] at hcz2
      simp only [Trees.count] at hcr2
      obtain ⟨y, q, cq, rfl, h1, h2, h3, h4, hs, hr⟩ := (hxr.out.below hB.out).open
      have hxr2 : Hid (TreesAt w0 r (some y) (j + 1)) := hxr.out.2
      have H := hall.out.1 (by omega) wr kd nu tx q cq hs
      have HA2 := Lib.hid hall.out.2
      have HCR : Hid (r.count ≤ 1048576) := by unfold Hid; omega
      generalize ar.deep + 1 = d at *
      have HCZ : Hid (max (max c d) r.deep = z) := by unfold Hid; omega
      have hcl2 : max c d ≤ z := by omega
      have HM := spec_max c d
      clear hxr hall hs hr hjn hcz hcr hcz2 hcr2
      generalize max c d = m at *
      go_wp2_with fail
      refine H.mono ?_
      rintro e w1 ⟨rfl, hb1⟩
      have HB1 : Hid (Below w0.heap.size w0 w1) := hB.out.trans (hb1.mono hB.out.size)
      clear hb1 H
      go_wp2_with fail
      refine (HM w1).mono ?_
      rintro e w2 ⟨rfl, rfl⟩
      clear HM
      go_wp2
      go_roundw
      case rel => exact ⟨j + 1, m, r, by go_num, rfl, hcl2, hjn2, HCZ, HCR, hxr2, HA2, HB1⟩
      case measure => simp [intOf]; omega
    | nil =>
      obtain rfl : j = nn := by simp only [Trees.length] at hjn; omega
      obtain rfl : c = z := by have := hcz.out; simp only [Trees.deep] at this; omega
      clear hxr hall
      go_wp2
      go_ret
      exact ⟨rfl, HB0.out.trans (hB.out.mono HB0.out.size)⟩
end Go.Proofs.YtijbaienhaiamaaDoor
end

/- What is proved here: two texts put together. Condition: at most 2^40 bytes. -/
section
namespace Go.Proofs.YtijbaienhaiamaaDoor
open Go.RowKit

theorem cat (a b : List UInt8) (h : a.length + b.length ≤ 1099511627776) (w : World) : (Op.stringOp .add (str a) (str b)).run Tryd.prog w = .ok (.string (str (a ++ b))) w := by
  rw [run_string_add_sum w _ _ (by rw [str_size, str_size]; omega), str_append]

end Go.Proofs.YtijbaienhaiamaaDoor
end

/- What is proved here: the model's FormatValue returns the representation of a value. Condition: the value lies in memory as said, and is small. -/
section
namespace Go.Proofs.YtijbaienhaiamaaDoor
open Go.RowKit

set_option maxHeartbeats 1000000 in
set_option maxRecDepth 100000 in
theorem spec_format_value : ∀ F : Trees, F.fits → F.size ≤ 1048576 → ∀ (w : World) (k n : Int) (t : ByteArray) (p : Option Addr) (cap : Nat), (-9223372036854775808 ≤ n ∧ n ≤ 9223372036854775807) → t.size ≤ 1048576 → TreesAt w F p 0 →
    Calls Tryd.prog 12 #[.agg #[.int .i64 k, .int .i64 n, .string t, .slice p F.length cap]] w fun e w' => e = .returned (.string (str (nodeText k n t F))) ∧ Below w.heap.size w w' := by
  refine Trees.ind fun F hall hfit hsz w k n t p cap hn ht hx => ?_
  have hB0 : Below w.heap.size w (w.alloc (.cells #[.int .i64 k, .int .i64 n, .string t, .slice p F.length cap] 24)) := (Below.refl _ _).alloc (Nat.le_refl _) _
  have HB0 := Lib.hid hB0
  have hlt := nodeText_len k n t F hn hfit
  by_cases h1 : k = 1
  · subst h1
    have e : nodeText 1 n t F = Lib.itoa n := by simp [nodeText, headText]
    rw [e]
    have HF := spec_format n hn.1 hn.2
    clear hall hx hn hB0 hlt e hfit
    go_enter Tryd.func12, Tryd.ntmps12
    go_wp2_with fail
    refine (HF _).mono ?_
    rintro e w1 ⟨rfl, hb1⟩
    have HB1 := Lib.hid hb1
    clear hb1 HF
    go_wp2
    go_ret
    exact ⟨rfl, HB0.out.trans (HB1.out.mono HB0.out.size)⟩
  · have e1 : (k == 1) = false := by simpa using h1
    by_cases h2 : k = 2
    · subst h2
      have e : nodeText 2 n t F = [34] ++ t.data.toList ++ [34] := by simp [nodeText, headText]
      rw [e]
      have htl : t.data.toList.length = t.size := rfl
      have hc1 := fun w => cat [34] t.data.toList (by rw [htl]; simp; omega) w
      rw [str_data] at hc1
      have hc2 := fun w => cat ([34] ++ t.data.toList) [34] (by rw [List.length_append, htl]; simp; omega) w
      change ∀ w, (Op.stringOp .add ⟨#[34]⟩ t).run Tryd.prog w = _ at hc1
      change ∀ w, (Op.stringOp .add (str ([34] ++ t.data.toList)) ⟨#[34]⟩).run Tryd.prog w = _ at hc2
      generalize hs1 : str ([34] ++ t.data.toList) = s1 at *
      generalize hs2 : str ([34] ++ t.data.toList ++ [34]) = s2 at *
      clear hall hx hn hB0 hlt e hfit htl hs1 hs2
      go_enter Tryd.func12, Tryd.ntmps12
      go_wp2
      go_ret
      exact ⟨rfl, HB0.out⟩
    · have e2 : (k == 2) = false := by simpa using h2
      by_cases h3 : k = 3
      · subst h3
        have e : nodeText 3 n t F = t.data.toList ++ F.tail true ++ F.close := by simp [nodeText, headText]
        rw [e] at hlt ⊢
        have HALL := Lib.hid hall
        have HFIT := Lib.hid hfit
        have hlc := F.length_le_size
        have HSZ := Lib.hid hsz
        have hnb : F.length ≤ 1048576 := by omega
        have HX := Lib.hid (hx.below hB0)
        have hc3 := (four_cells (heap_at_new w (.cells #[.int .i64 3, .int .i64 n, .string t, .slice p F.length cap] 24))).2.2.2.1
        have htd : str t.data.toList = t := str_data t
        rw [List.length_append, List.length_append] at hlt
        have hT : Hid ((t.data.toList ++ F.tail true).length ≤ 104857600) := by unfold Hid; rw [List.length_append]; omega
        have HCL : Hid (F.close = if F.length = 0 then [] else [41]) := by unfold Hid; cases F with | nil => rfl | cons _ _ _ _ _ => rw [if_neg (by simp [Trees.length])]; rfl
        generalize hTT : t.data.toList ++ F.tail true = T at *
        have HTT := Lib.hid hTT
        generalize hCC : F.close = C at *
        generalize hnn : F.length = nn at *
        have HN := Lib.hid hnn
        generalize hw0 : w.alloc (.cells #[.int .i64 3, .int .i64 n, .string t, .slice p nn cap] 24) = w0 at *
        have HW0 := Lib.hid hw0
        have HC3 := Lib.hid hc3
        have HTD := Lib.hid htd
        clear hall hfit hx hB0 hlt e hTT hCC hnn hw0 hc3 hsz htd h1 h2
        go_enter Tryd.func12, Tryd.ntmps12
        go_wp2
        rw [HW0.out]
        go_loopw [3, 4] (fun o i wr => ∃ (j : Nat) (rest : Trees) (s : ByteArray) (acc : List UInt8), i = .int .i64 j ∧ o = .string s ∧ j + rest.length = nn ∧ Hid (s = str acc) ∧ Hid (acc ++ rest.tail (decide (j = 0)) = T) ∧ Hid (rest.fits) ∧ Hid (rest.size ≤ 1048576) ∧ Hid (TreesAt w0 rest p j) ∧ Hid (rest.All (fun G => G.fits → G.size ≤ 1048576 → ∀ (w : World) (k n : Int) (t : ByteArray) (p : Option Addr) (cap : Nat), (-9223372036854775808 ≤ n ∧ n ≤ 9223372036854775807) → t.size ≤ 1048576 → TreesAt w G p 0 →
    Calls Tryd.prog 12 #[.agg #[.int .i64 k, .int .i64 n, .string t, .slice p G.length cap]] w fun e w' => e = .returned (.string (str (nodeText k n t G))) ∧ Below w.heap.size w w')) ∧ Hid (Below w0.heap.size w0 wr)) (fun _ i _ => nn - (intOf i).toNat)
        case atStart => exact ⟨0, F, t, t.data.toList, rfl, rfl, by rw [HN.out]; omega, HTD.out.symm, HTT, HFIT, HSZ, HX, HALL, Below.refl _ _⟩
        case round =>
          obtain ⟨j, rest, s, acc, rfl, rfl, hjn, hs, hacc, hfr, hsr, hxr, hal, hB⟩ := hrel
          have hb3 := cell_below HC3.out hB.out
          cases rest with
          | cons kd nu tx ar r =>
            have hjl : j < nn := by simp only [Trees.length] at hjn; omega
            have hjn2 : j + 1 + r.length = nn := by simp only [Trees.length] at hjn; omega
            obtain ⟨y, q, cq, rfl, g1, g2, g3, g4, hsub, hrr⟩ := (hxr.out.below hB.out).open
            obtain ⟨_, hnu, _, _, hfa, hfr2⟩ := hfr.out
            have hsr2 := hsr.out
            simp only [Trees.size] at hsr2
            have H := hal.out.1 hfa (by omega) wr kd nu tx q cq hnu (by omega) hsub
            have hacc2 := hacc.out
            rw [tail_cons] at hacc2
            have hTl := hT.out
            rw [← hacc2, List.length_append, List.length_append, List.length_append] at hTl
            have hxr2 : Hid (TreesAt w0 r (some y) (j + 1)) := hxr.out.2
            have HA2 := Lib.hid hal.out.2
            have HF2 := Lib.hid hfr2
            have HS2 : Hid (r.size ≤ 1048576) := by unfold Hid; omega
            by_cases hj0 : j = 0
            · subst hj0
              have g1' : wr.cell? y = some (.int .i64 kd) := g1
              have g2' : wr.cell? { block := y.block, off := y.off + 1 } = some (.int .i64 nu) := g2
              have g3' : wr.cell? { block := y.block, off := y.off + 2 } = some (.string tx) := g3
              have g4' : wr.cell? { block := y.block, off := y.off + 3 } = some (.slice q ar.length cq) := g4
              clear g1 g2 g3 g4
              have hk1 := fun w => cat acc [40] (by simp; omega) w
              have hk2 := fun w => cat (acc ++ [40]) (nodeText kd nu tx ar) (by rw [List.length_append]; simp; omega) w
              change ∀ w, (Op.stringOp .add (str acc) ⟨#[40]⟩).run Tryd.prog w = _ at hk1
              rw [← hs.out] at hk1
              have HACC : Hid ((acc ++ [40] ++ nodeText kd nu tx ar) ++ r.tail (decide (0 + 1 = 0)) = T) := by unfold Hid; rw [← hacc2]; simp
              generalize hu1 : str (acc ++ [40]) = u1 at *
              generalize hu2 : str (acc ++ [40] ++ nodeText kd nu tx ar) = u2 at *
              have HU2 : Hid (u2 = str (acc ++ [40] ++ nodeText kd nu tx ar)) := hu2.symm
              generalize str (nodeText kd nu tx ar) = u3 at *
              clear hxr hal hsub hrr hfr hsr hsr2 hacc hacc2 hfa hfr2 hnu hTl hu1 hu2 hjn hs
              go_wp2_with fail
              refine H.mono ?_
              rintro e w1 ⟨rfl, hb1⟩
              have HB1 : Hid (Below w0.heap.size w0 w1) := hB.out.trans (hb1.mono hB.out.size)
              clear hb1 H
              go_wp2
              go_roundw
              case rel => exact ⟨1, r, u2, _, by go_num, rfl, hjn2, HU2, HACC, HF2, HS2, hxr2, HA2, HB1⟩
              case measure => simp [intOf]; omega
            · have hk1 := fun w => cat acc [44, 32] (by simp; omega) w
              have hk2 := fun w => cat (acc ++ [44, 32]) (nodeText kd nu tx ar) (by rw [List.length_append]; simp; omega) w
              change ∀ w, (Op.stringOp .add (str acc) ⟨#[44, 32]⟩).run Tryd.prog w = _ at hk1
              rw [← hs.out] at hk1
              have HACC : Hid ((acc ++ [44, 32] ++ nodeText kd nu tx ar) ++ r.tail (decide (j + 1 = 0)) = T) := by unfold Hid; rw [← hacc2]; simp [hj0]
              have hjz : ((j : Int) == 0) = false := by simp; omega
              generalize hu1 : str (acc ++ [44, 32]) = u1 at *
              generalize hu2 : str (acc ++ [44, 32] ++ nodeText kd nu tx ar) = u2 at *
              have HU2 : Hid (u2 = str (acc ++ [44, 32] ++ nodeText kd nu tx ar)) := hu2.symm
              generalize str (nodeText kd nu tx ar) = u3 at *
              clear hxr hal hsub hrr hfr hsr hsr2 hacc hacc2 hfa hfr2 hnu hTl hu1 hu2 hjn hs hj0
              go_wp2_with fail
              refine H.mono ?_
              rintro e w1 ⟨rfl, hb1⟩
              have HB1 : Hid (Below w0.heap.size w0 w1) := hB.out.trans (hb1.mono hB.out.size)
              clear hb1 H
              go_wp2
              go_roundw
              case rel => exact ⟨j + 1, r, u2, _, by go_num, rfl, hjn2, HU2, HACC, HF2, HS2, hxr2, HA2, HB1⟩
              case measure => simp [intOf]; omega
          | nil =>
            obtain rfl : j = nn := by simp only [Trees.length] at hjn; omega
            have hacc2 := hacc.out
            simp only [Trees.tail, List.append_nil] at hacc2
            subst hacc2
            by_cases hz : j = 0
            · subst hz
              have HE : Hid (str (acc ++ C) = s) := by unfold Hid; rw [HCL.out, if_pos rfl, List.append_nil, hs.out]
              clear hxr hal hfr hsr hs hacc
              go_wp2
              go_ret
              exact ⟨by rw [HE.out]; rfl, HB0.out.trans (hB.out.mono (Nat.le_trans HB0.out.size (by rw [← HW0.out]; exact Nat.le_refl _)))⟩
            · have hTl := hT.out
              have hk1 := fun w => cat acc [41] (by simp; omega) w
              change ∀ w, (Op.stringOp .add (str acc) ⟨#[41]⟩).run Tryd.prog w = _ at hk1
              rw [← hs.out] at hk1
              have HE : Hid (str (acc ++ C) = str (acc ++ [41])) := by unfold Hid; rw [HCL.out, if_neg hz]
              have hjz : 0 < j := by omega
              generalize str (acc ++ [41]) = u1 at *
              clear hxr hal hfr hsr hs hacc hTl hz
              go_wp2
              go_ret
              exact ⟨by rw [HE.out]; rfl, HB0.out.trans (hB.out.mono (Nat.le_trans HB0.out.size (by rw [← HW0.out]; exact Nat.le_refl _)))⟩
      · have e3 : (k == 3) = false := by simpa using h3
        have e : nodeText k n t F = [63] := by simp [nodeText, headText, h1, h2, h3]
        rw [e]
        clear hall hx hn hB0 hlt e hfit
        go_enter Tryd.func12, Tryd.ntmps12
        go_wp2
        go_ret
        exact ⟨rfl, HB0.out⟩
end Go.Proofs.YtijbaienhaiamaaDoor
end

/- What is proved here: the program's values of the three kinds. No condition. -/
section
namespace Go.Proofs.YtijbaienhaiamaaDoor
open Go.RowKit

theorem alloc2v (w : World) (o0 o1 : Obj) : Below w.heap.size w ((w.alloc o0).alloc o1) := ((Below.refl _ _).alloc (Nat.le_refl _) _).alloc (by simp) _
set_option maxRecDepth 100000 in
theorem intValue_value (n : Int) (w : World) : Calls Tryd.prog 30 #[.agg #[.int .i64 n]] w fun e w' => e = .returned (.agg #[.int .i64 1, .int .i64 n, .string ⟨#[]⟩, .slice none 0 0]) ∧ Below w.heap.size w w' := by
  have hs1 : (w.alloc (.cells #[.int .i64 n] 58)).heap.size = w.heap.size + 1 := Array.size_push _
  have hp := heap_at_new (w.alloc (.cells #[.int .i64 n] 58)) (.cells #[.int .i64 1, .int .i64 n, .string ⟨#[]⟩, .slice none 0 0] 24)
  rw [hs1] at hp
  have HB := Lib.hid (alloc2v w (.cells #[.int .i64 n] 58) (.cells #[.int .i64 1, .int .i64 n, .string ⟨#[]⟩, .slice none 0 0] 24))
  have HP := Lib.hid hp
  clear hp hs1
  go_enter Tryd.func30, Tryd.ntmps30
  go_wp2
  refine bodyPost_ret (results_cell_row rfl _ _ (w.heap.size + 1) _ _ _ _ rfl HP.out Tryd.underlying24 rfl (by kernel_rfl)) rfl ?_
  exact ⟨rfl, HB.out⟩

set_option maxRecDepth 100000 in
theorem textValue_value (t : ByteArray) (w : World) : Calls Tryd.prog 27 #[.agg #[.string t]] w fun e w' => e = .returned (.agg #[.int .i64 2, .int .i64 0, .string t, .slice none 0 0]) ∧ Below w.heap.size w w' := by
  have hs1 : (w.alloc (.cells #[.string t] 54)).heap.size = w.heap.size + 1 := Array.size_push _
  have hp := heap_at_new (w.alloc (.cells #[.string t] 54)) (.cells #[.int .i64 2, .int .i64 0, .string t, .slice none 0 0] 24)
  rw [hs1] at hp
  have HB := Lib.hid (alloc2v w (.cells #[.string t] 54) (.cells #[.int .i64 2, .int .i64 0, .string t, .slice none 0 0] 24))
  have HP := Lib.hid hp
  clear hp hs1
  go_enter Tryd.func27, Tryd.ntmps27
  go_wp2
  refine bodyPost_ret (results_cell_row rfl _ _ (w.heap.size + 1) _ _ _ _ rfl HP.out Tryd.underlying24 rfl (by kernel_rfl)) rfl ?_
  exact ⟨rfl, HB.out⟩

set_option maxRecDepth 100000 in
theorem conValue_value (t : ByteArray) (p : Option Addr) (l c : Nat) (w : World) : Calls Tryd.prog 48 #[.agg #[.string t, .slice p l c]] w fun e w' => e = .returned (.agg #[.int .i64 3, .int .i64 0, .string t, .slice p l c]) ∧ Below w.heap.size w w' := by
  have hs1 : (w.alloc (.cells #[.string t, .slice p l c] 71)).heap.size = w.heap.size + 1 := Array.size_push _
  have hp := heap_at_new (w.alloc (.cells #[.string t, .slice p l c] 71)) (.cells #[.int .i64 3, .int .i64 0, .string t, .slice p l c] 24)
  rw [hs1] at hp
  have HB := Lib.hid (alloc2v w (.cells #[.string t, .slice p l c] 71) (.cells #[.int .i64 3, .int .i64 0, .string t, .slice p l c] 24))
  have HP := Lib.hid hp
  clear hp hs1
  go_enter Tryd.func48, Tryd.ntmps48
  go_wp2
  refine bodyPost_ret (results_cell_row rfl _ _ (w.heap.size + 1) _ _ _ _ rfl HP.out Tryd.underlying24 rfl (by kernel_rfl)) rfl ?_
  exact ⟨rfl, HB.out⟩

end Go.Proofs.YtijbaienhaiamaaDoor
end

/- What is proved here: the program's readCon. Condition: read answers as said at the next depth. -/
section
namespace Go.Proofs.YtijbaienhaiamaaDoor.Va
open Go.RowKit

theorem three_new (w : World) (o0 o1 o2 : Obj) : (((w.alloc o0).alloc o1).alloc o2).heap[w.heap.size]? = some o0 ∧ (((w.alloc o0).alloc o1).alloc o2).heap[w.heap.size + 1]? = some o1 ∧ (((w.alloc o0).alloc o1).alloc o2).heap[w.heap.size + 1 + 1]? = some o2 ∧ (((w.alloc o0).alloc o1).alloc o2).heap.size = w.heap.size + 3 ∧ Below w.heap.size w (((w.alloc o0).alloc o1).alloc o2) := by
  obtain ⟨n1, n2, n3, n4⟩ := two_new w o0 o1
  have s3 : (((w.alloc o0).alloc o1).alloc o2).heap.size = ((w.alloc o0).alloc o1).heap.size + 1 := Array.size_push _
  have e2 := heap_at_new ((w.alloc o0).alloc o1) o2
  rw [n3] at e2
  exact ⟨(Below.heap_alloc _ _ _ (by omega)).trans n1, (Below.heap_alloc _ _ _ (by omega)).trans n2, e2, by omega, n4.alloc (by omega) _⟩
theorem one_cell {w : World} {b : Nat} {x : Value} {T : TypeId} (h : w.heap[b]? = some (.cells #[x] T (0, 0))) : w.cell? ⟨b, 0, none⟩ = some x := by simp [World.cell?, h]

set_option maxHeartbeats 1000000 in
set_option maxRecDepth 100000 in
theorem impl_readCon (b d : Nat) (HR : ReadOk b (d + 1)) (w : World) (s r : List UInt8) (t : ByteArray) (m : Nat) (hA : AtWord s t.data.toList r) (hW : Word 65 90 t) (hm : m + 1 ≤ 40) (hd : d ≤ 12) (h : RdAt w b TR r (m + 1) 40 12) (hl : s.length ≤ 1048576) (hk : Keeps b w) :
    Calls Tryd.prog 32 #[.pointer (some ⟨b, 0, none⟩), .string t, .int .i64 (d : Int)] w fun e w' => Ans w b s m d e w' ∧ Only (Just b) w w' := by
  have hlt := h.lt
  have hrl : r.length ≤ 1048576 := by have := congrArg List.length hA.eq; rw [List.length_append] at this; omega
  obtain ⟨w1, hw1⟩ : ∃ w1, w1 = ((w.alloc (.cells #[.pointer (some ⟨b, 0, none⟩)] 49)).alloc (.cells #[.int .i64 (d : Int)] 3)).alloc zeroBox := ⟨_, rfl⟩
  obtain ⟨n0, n1, n2, n3, n4⟩ := three_new w (.cells #[.pointer (some ⟨b, 0, none⟩)] 49) (.cells #[.int .i64 (d : Int)] 3) zeroBox
  rw [← hw1] at n0 n1 n2 n3 n4
  have hR1 := h.below n4
  have HS := impl_skip w1 b TR r [40] (m + 1) 40 12 hR1
  have HW1 := Lib.hid hw1
  have c0 := one_cell n0
  have c1 := one_cell n1
  have H1 : Hid (PBox w1 (w.heap.size + 1 + 1) 0 0 ⟨#[]⟩ (.slice none 0 0) ∧ Only (Just b) w w1 ∧ w1.heap.size = w.heap.size + 3 ∧ b < w.heap.size ∧ Keeps b w1 ∧ w1.cell? ⟨w.heap.size, 0, none⟩ = some (.pointer (some ⟨b, 0, none⟩)) ∧ w1.cell? ⟨w.heap.size + 1, 0, none⟩ = some (.int .i64 (d : Int))) := ⟨n2, Only.of_below n4, n3, hlt, hk.on (Only.of_below n4), c0, c1⟩
  clear hw1 n0 n1 n2 n3 n4 hR1
  rcases skip_cases r [40] with ⟨e1, e2, e3⟩ | ⟨e1, e2⟩
  · rw [e1, e3] at HS
    have HP := Lib.hid (con0_ok (d := d) hA hW hm hd (fun x => e2 x))
    clear hA hW hm hd h hl hk e1 e2 e3 HR hlt hrl
    go_enter Tryd.func32, Tryd.ntmps32
    rw [HW1.out] at c0 c1
    go_wp2_with fail
    rw [← HW1.out]
    refine HS.mono ?_
    rintro e w2 ⟨rfl, hR2, hO2⟩
    have hb2 : PBox w2 (w.heap.size + 1 + 1) 0 0 ⟨#[]⟩ (.slice none 0 0) := (hO2.block _ (by have := H1.out.2.2.1; omega) (by have := H1.out.2.2.2.1; show ¬ (w.heap.size + 1 + 1 = b); omega)).trans H1.out.1
    have H2a : Hid (PBox w2 (w.heap.size + 1 + 1) 0 0 ⟨#[]⟩ (.slice none 0 0) ∧ RdAt w2 b TR r (m + 1) 40 12 ∧ Only (Just b) w w2) := ⟨hb2, hR2, H1.out.2.1.trans hO2⟩
    clear hb2 hR2 hO2 HS c0 c1
    go_wp2_with fail
    refine (conValue_value t none 0 0 w2).mono ?_
    rintro e w3 ⟨rfl, hb3⟩
    have H2 : Hid (PBox w3 (w.heap.size + 1 + 1) 0 0 ⟨#[]⟩ (.slice none 0 0) ∧ RdAt w3 b TR r (m + 1) 40 12 ∧ Only (Just b) w w3) := ⟨(hb3.block _ (Array.getElem?_eq_some_iff.1 H2a.out.1).1).trans H2a.out.1, H2a.out.2.1.below hb3, H2a.out.2.2.trans (Only.of_below hb3)⟩
    obtain ⟨x0, x1, x2, x3, f0, f1, f2, f3⟩ := four_cells H2.out.1
    clear hb3 H2a
    go_wp2
    refine bodyPost_ret (results_row_tmp rfl _ _ (w.heap.size + 1 + 1) _ _ _ _ rfl (set4_box H2.out.1 _ _ _ _) Tryd.underlying24 rfl (by kernel_rfl)) rfl ?_
    exact ans_leaf rfl H2.out.2.1 HP.out H2.out.2.2 (by omega) (by have := H1.out.2.2.2.1; omega)
  · rw [e1] at HS
    generalize skipped r [40] = r1 at *
    have e4 : r = 40 :: r1 := e2
    subst e4
    have hr1 : r1.length ≤ 1048576 := by simp only [List.length_cons] at hrl; omega
    have HARGS : Hid (∀ w2, Only (Just b) w1 w2 → RdAt w2 b TR r1 (m + 1) 40 12 → Calls Tryd.prog 49 #[.pointer (some ⟨b, 0, none⟩), .func (.func 50) #[] #[.pointer (some ⟨w.heap.size, 0, none⟩), .pointer (some ⟨w.heap.size + 1, 0, none⟩)]] w2 fun e w' => AnsA w2 b r1 (m + 1) d e w' ∧ Only (Just b) w2 w') :=
      fun w2 hO hR2 => by
        have q1 := H1.out.2.2.1
        have q2 := H1.out.2.2.2.1
        have q3 := hO.size
        exact impl_readArgs b d HR w2 r1 (m + 1) w.heap.size (w.heap.size + 1) hd ((World.cell?_of_block (hO.block _ (by show w.heap.size < _; omega) (by show ¬ (w.heap.size = b); omega))).trans H1.out.2.2.2.2.2.1) ((World.cell?_of_block (hO.block _ (by show w.heap.size + 1 < _; omega) (by show ¬ (w.heap.size + 1 = b); omega))).trans H1.out.2.2.2.2.2.2) ⟨by omega, by omega⟩ ⟨by omega, by omega⟩ hm hR2 hr1 (H1.out.2.2.2.2.1.on hO)
    have HAW : Hid (AtWord s t.data.toList (40 :: r1) ∧ Word 65 90 t) := ⟨hA, hW⟩
    clear hA hW hm hd h hl hk e1 e2 HR hlt hrl hr1
    go_enter Tryd.func32, Tryd.ntmps32
    rw [HW1.out] at c0 c1
    go_wp2_with fail
    rw [← HW1.out]
    refine HS.mono ?_
    rintro e w2 ⟨rfl, hR2, hO2⟩
    clear HS c0 c1
    have q1 := H1.out.2.2.1
    have q2 := H1.out.2.2.2.1
    have hb2 : PBox w2 (w.heap.size + 1 + 1) 0 0 ⟨#[]⟩ (.slice none 0 0) := (hO2.block _ (by omega) (by show ¬ (w.heap.size + 1 + 1 = b); omega)).trans H1.out.1
    have c0 : w2.cell? ⟨w.heap.size, 0, none⟩ = some (.pointer (some ⟨b, 0, none⟩)) := (World.cell?_of_block (hO2.block _ (by show w.heap.size < _; omega) (by show ¬ (w.heap.size = b); omega))).trans H1.out.2.2.2.2.2.1
    have H2 : Hid (PBox w2 (w.heap.size + 1 + 1) 0 0 ⟨#[]⟩ (.slice none 0 0) ∧ Only (Just b) w w2 ∧ w.heap.size + 3 ≤ w2.heap.size ∧ b < w.heap.size) := ⟨hb2, H1.out.2.1.trans hO2, by have := hO2.size; omega, q2⟩
    have HC := Lib.hid (HARGS.out w2 hO2 hR2)
    clear hb2 hR2 hO2 HARGS q1 q2
    go_wp2_with fail
    refine HC.out.mono ?_
    clear HC c0
    rintro e w3 ⟨hAns, hO3⟩
    have hb3 : PBox w3 (w.heap.size + 1 + 1) 0 0 ⟨#[]⟩ (.slice none 0 0) := (hO3.block _ (by have := H2.out.2.2.1; omega) (by have := H2.out.2.2.2; show ¬ (w.heap.size + 1 + 1 = b); omega)).trans H2.out.1
    have H3 : Hid (PBox w3 (w.heap.size + 1 + 1) 0 0 ⟨#[]⟩ (.slice none 0 0) ∧ Only (Just b) w w3) := ⟨hb3, H2.out.2.1.trans hO3⟩
    obtain ⟨x0, x1, x2, x3, f0, f1, f2, f3⟩ := four_cells hb3
    clear hb3 hO3
    rcases hAns with ⟨G, s3, m3, v, bs, rfl, ho, hnd, hbs, hR3, hP⟩ | ⟨s3, m3, rfl, hR3, hP⟩
    · obtain ⟨p2, cap2, rfl, _, _⟩ := ho.reads
      clear x0 x1 x2 x3 f0 f1 f2 f3
      have H4a : Hid (OwnV w3 (.slice p2 G.length cap2) G bs ∧ bs.Nodup ∧ (∀ c ∈ bs, w2.heap.size ≤ c ∧ c < w3.heap.size) ∧ RdAt w3 b TR s3 m3 40 12 ∧ ArgsOk 40 12 r1 (m + 1) d G s3 m3) := ⟨ho, hnd, hbs, hR3, hP⟩
      have H3a := H3
      clear H3 ho hnd hbs hR3 hP
      go_wp2_with fail
      refine (conValue_value t p2 G.length cap2 w3).mono ?_
      rintro e w4 ⟨rfl, hb4⟩
      have H3 : Hid (PBox w4 (w.heap.size + 1 + 1) 0 0 ⟨#[]⟩ (.slice none 0 0) ∧ Only (Just b) w w4) := ⟨(hb4.block _ (Array.getElem?_eq_some_iff.1 H3a.out.1).1).trans H3a.out.1, H3a.out.2.trans (Only.of_below hb4)⟩
      have H4 : Hid (OwnV w4 (.slice p2 G.length cap2) G bs ∧ bs.Nodup ∧ (∀ c ∈ bs, w2.heap.size ≤ c ∧ c < w4.heap.size) ∧ RdAt w4 b TR s3 m3 40 12 ∧ ArgsOk 40 12 r1 (m + 1) d G s3 m3) := by
        obtain ⟨k1, k2, k3, k4, k5⟩ := H4a.out
        have := hb4.size
        exact ⟨k1.keep (fun c hc => hb4.block c (k3 c hc).2), k2, fun c hc => ⟨(k3 c hc).1, Nat.lt_of_lt_of_le (k3 c hc).2 hb4.size⟩, k4.below hb4, k5⟩
      obtain ⟨x0, x1, x2, x3, f0, f1, f2, f3⟩ := four_cells H3.out.1
      clear hb4 H4a H3a
      go_wp2
      refine bodyPost_ret (results_row_tmp rfl _ _ (w.heap.size + 1 + 1) _ _ _ _ rfl (set4_box H3.out.1 _ _ _ _) Tryd.underlying24 rfl (by kernel_rfl)) rfl ?_
      obtain ⟨k1, k2, k3, k4, k5⟩ := H4.out
      have q1 := H2.out.2.2.1
      have q2 := H2.out.2.2.2
      exact ans_some (p := ⟨3, 0, t, G⟩) rfl k1 k2 (fun c hc => by have := k3 c hc; omega) (fun c hc => by have := k3 c hc; omega) k4 (con_ok HAW.out.1 HAW.out.2 k5) H3.out.2 (by omega) (by omega)
    · have H4 : Hid (RdAt w3 b TR s3 m3 40 12 ∧ NoneP 40 s m d) := ⟨hR3, con_none HAW.out.1 HAW.out.2 hP⟩
      clear hR3 hP
      go_wp2
      refine bodyPost_ret (results_row_tmp rfl _ _ (w.heap.size + 1 + 1) _ _ _ _ rfl (set4_box H3.out.1 _ _ _ _) Tryd.underlying24 rfl (by kernel_rfl)) rfl ?_
      have q2 := H2.out.2.2.2
      exact ans_none rfl H4.out.1 H4.out.2 H3.out.2 (by omega) (by omega)
end Go.Proofs.YtijbaienhaiamaaDoor.Va
end

/- What is proved here: strings.IndexRune at "(,)" and a rune that is no ASCII one answers -1. No condition. -/
section
namespace Go.Proofs.YtijbaienhaiamaaDoor
open Go.RowKit

theorem indexByte_none (l : List UInt8) (c : UInt8) (h : ∀ x ∈ l, x ≠ c) : Lib.indexByte l c = -1 := by
  induction l with
  | nil => rfl
  | cons x r ih =>
    unfold Lib.indexByte
    have h1 : (x == c) = false := by simpa using h x (by simp)
    rw [h1, ih (fun y hy => h y (by simp [hy]))]
    rfl
theorem high_byte (c : Nat) : 128 ≤ (UInt8.ofNat (128 + c % 64)).toNat := by
  rw [UInt8.toNat_ofNat']
  omega
/-- The bytes of a rune that is no ASCII one: two to four, the last one at least 128. -/
theorem encode_high (c : Int) (h : 128 ≤ c) : ∃ (l : List UInt8) (x : UInt8), Utf8.encode c = ⟨(l ++ [x]).toArray⟩ ∧ 128 ≤ x.toNat ∧ 1 ≤ l.length ∧ l.length ≤ 3 := by
  unfold Utf8.encode
  have hc : ¬ (if Utf8.valid c then c.toNat else Utf8.runeError) < 128 := by
    split
    · omega
    · decide
  generalize (if Utf8.valid c then c.toNat else Utf8.runeError) = n at *
  simp only
  rw [if_neg hc]
  split
  · exact ⟨[UInt8.ofNat (0xC0 + n / 64)], _, rfl, high_byte _, by simp, by simp⟩
  · split
    · exact ⟨[UInt8.ofNat (0xE0 + n / 4096), UInt8.ofNat (0x80 + n / 64 % 64)], _, rfl, high_byte _, by simp, by simp⟩
    · exact ⟨[UInt8.ofNat (0xF0 + n / 262144), UInt8.ofNat (0x80 + n / 4096 % 64), UInt8.ofNat (0x80 + n / 64 % 64)], _, rfl, high_byte _, by simp, by simp⟩

set_option maxHeartbeats 2000000 in
set_option maxRecDepth 100000 in
theorem impl_runeError (w : World) :
    Calls Tryd.prog 54 #[.string ⟨#[40, 44, 41]⟩, .int .i32 65533] w fun e w' => e = .returned (.int .i64 (-1)) ∧ Below w.heap.size w w' := by
  have hsz : (⟨#[40, 44, 41]⟩ : ByteArray).size = 3 := rfl
  go_enter Tryd.func54, Tryd.ntmps54
  go_wp2
  go_loopw [5, 6] (fun _ _ wr => ∃ pos : Nat, pos ≤ 3 ∧ wr = w.iter ⟨#[40, 44, 41]⟩ pos) (fun _ _ wr => 3 - wr.iterPos w.heap.size)
  case atStart => exact ⟨0, Nat.zero_le _, rfl⟩
  case round =>
    obtain ⟨pos, hp, rfl⟩ := hrel
    obtain rfl | rfl | rfl | rfl : pos = 0 ∨ pos = 1 ∨ pos = 2 ∨ pos = 3 := by omega
    · have hnx := fun ty => run_next_ascii (P := Tryd.prog) w ⟨#[40, 44, 41]⟩ 0 ty (by decide) (by decide)
      go_wp2
      go_roundw
      case rel => exact ⟨1, by omega, rfl⟩
      case measure => simp
    · have hnx := fun ty => run_next_ascii (P := Tryd.prog) w ⟨#[40, 44, 41]⟩ 1 ty (by decide) (by decide)
      go_wp2
      go_roundw
      case rel => exact ⟨2, by omega, rfl⟩
      case measure => simp
    · have hnx := fun ty => run_next_ascii (P := Tryd.prog) w ⟨#[40, 44, 41]⟩ 2 ty (by decide) (by decide)
      go_wp2
      go_roundw
      case rel => exact ⟨3, by omega, rfl⟩
      case measure => simp
    · have hnx : ∀ ty, (Instr.next (.pointer (some ⟨w.heap.size, 0, none⟩)) true ty).run Tryd.prog (w.iter ⟨#[40, 44, 41]⟩ 3) = _ := fun ty => run_next_end w ⟨#[40, 44, 41]⟩ 3 ty (by decide)
      go_wp2
      go_ret
      exact ⟨rfl, (Below.refl _ _).alloc (Nat.le_refl _) _⟩

set_option maxHeartbeats 4000000 in
set_option maxRecDepth 100000 in
theorem impl_runeHigh (c : Int) (h : 128 ≤ c) (w : World) :
    Calls Tryd.prog 54 #[.string ⟨#[40, 44, 41]⟩, .int .i32 c] w fun e w' => e = .returned (.int .i64 (-1)) ∧ Below w.heap.size w w' := by
  by_cases he : c = 65533
  · subst he; exact impl_runeError w
  have h1 : decide (c < 128) = false := by simp; omega
  have h2 : (c == 65533) = false := by simpa using he
  have h0 : decide (0 ≤ c) = true := by simp; omega
  have HV := Tryd.utf8_ValidRune c w
  cases hv : Lib.validRune c with
  | false =>
    rw [hv] at HV
    clear he hv
    go_enter Tryd.func54, Tryd.ntmps54
    go_wp2_with fail
    refine HV.mono ?_
    rintro e w1 ⟨rfl, rfl⟩
    clear HV
    go_wp2
    go_ret
    exact ⟨rfl, Below.refl _ _⟩
  | true =>
    rw [hv] at HV
    obtain ⟨l, x, hx, hx1, hl1, hl2⟩ := encode_high c h
    have hx2 : ∀ (y : UInt8), y.toNat < 128 → (y == x) = false := fun y hy => by
      cases hyx : y == x with
      | false => rfl
      | true => rw [beq_iff_eq.1 hyx] at hy; omega
    have hx3 : ∀ (y : UInt8), y.toNat < 128 → ((y.toNat : Int) == (x.toNat : Int)) = false := fun y hy => by simp; omega
    have q1 := hx3 44 (by decide)
    have q2 := hx3 41 (by decide)
    have hback : ((x.toNat : Int)).toNat.toUInt8 = x := by simp
    have HIB := fun (t : ByteArray) (ht : ∀ y ∈ t.data.toList, y.toNat < 128) (W : World) => Tryd.strings_IndexByte t (x.toNat : Int) W
    have HI1 : ∀ W : World, Calls Tryd.prog 63 #[.string ⟨#[41]⟩, .int .u8 (x.toNat : Int)] W fun e w' => e = .returned (.int .i64 (-1)) ∧ w' = W := fun W => by
      refine (Tryd.strings_IndexByte ⟨#[41]⟩ (x.toNat : Int) W).mono ?_
      rintro e w' ⟨rfl, rfl⟩
      rw [hback, indexByte_none _ _ (by intro y hy; have : y = 41 := by simpa using hy
                                        rw [this]; intro e; rw [← e] at hx1; exact absurd hx1 (by decide))]
      exact ⟨rfl, rfl⟩
    have HI0 : ∀ W : World, Calls Tryd.prog 63 #[.string ⟨#[]⟩, .int .u8 (x.toNat : Int)] W fun e w' => e = .returned (.int .i64 (-1)) ∧ w' = W := fun W => by
      refine (Tryd.strings_IndexByte ⟨#[]⟩ (x.toNat : Int) W).mono ?_
      rintro e w' ⟨rfl, rfl⟩
      exact ⟨rfl, rfl⟩
    have hw2 : IntKind.i64.wrap 2 = 2 := by decide
    have hw3 : IntKind.i64.wrap 3 = 3 := by decide
    have he2 : (⟨#[40, 44, 41]⟩ : ByteArray).extract 2 3 = ⟨#[41]⟩ := by rfl
    have he3 : (⟨#[40, 44, 41]⟩ : ByteArray).extract 3 3 = ⟨#[]⟩ := by rfl
    clear he hv HIB
    match l, hl1, hl2, hx with
    | [a], _, _, hx =>
      have hx : Utf8.encode c = ⟨#[a, x]⟩ := hx
      have hne : (((((⟨#[40, 44, 41]⟩ : ByteArray)[1]'(by decide)).toNat : Int)) != ((((⟨#[a, x]⟩ : ByteArray)[1]'(by simp [ByteArray.size])).toNat : Int))) = true := by
        show (((44 : UInt8).toNat : Int) != (x.toNat : Int)) = true
        simp; omega
      have hcv : ∀ W, (convert 21 9 (.int .i32 c)).run Tryd.prog W = .ok (.string ⟨#[a, x]⟩) W := fun W => by rw [← hx]; exact run_convert_int_string W 21 9 .i32 c (by kernel_rfl) (by kernel_rfl)
      have HI := Lib.hid HI1
      clear HI1 HI0 hl1 hl2 hx2 hx3
      go_enter Tryd.func54, Tryd.ntmps54
      go_wp2_with fail
      refine HV.mono ?_
      rintro e w1 ⟨rfl, rfl⟩
      clear HV
      go_wp2
      go_step3
      go_wp2
      go_loopg [9] 1 (fun gg iv wr => iv = .int .i64 1 ∧ wr = w1)
      case atStart => exact ⟨rfl, rfl⟩
      case round =>
        obtain ⟨rfl, rfl⟩ := hrel
        go_wp2
        go_step3
        go_wp2
        go_quiet (fail)
        go_wp2
        go_quiet (first | (go_at_call 63; refine (HI.out _).mono ?_; rintro e w7 ⟨rfl, rfl⟩; exact ⟨rfl, _, rfl⟩) | fail "no arm")
        go_wp2
        simp only [Exit.inBlock, Exit.then, Exit.noGoto_ret]
        go_ret
        exact ⟨rfl, below_drewN (Below.refl _ _) _⟩
    | [a, a2], _, _, hx =>
      have hx : Utf8.encode c = ⟨#[a, a2, x]⟩ := hx
      have hne : (((((⟨#[40, 44, 41]⟩ : ByteArray)[2]'(by decide)).toNat : Int)) != ((((⟨#[a, a2, x]⟩ : ByteArray)[2]'(by simp [ByteArray.size])).toNat : Int))) = true := by
        show (((41 : UInt8).toNat : Int) != (x.toNat : Int)) = true
        simp; omega
      have hcv : ∀ W, (convert 21 9 (.int .i32 c)).run Tryd.prog W = .ok (.string ⟨#[a, a2, x]⟩) W := fun W => by rw [← hx]; exact run_convert_int_string W 21 9 .i32 c (by kernel_rfl) (by kernel_rfl)
      have HI := Lib.hid HI0
      clear HI1 HI0 hl1 hl2 hx2 hx3
      go_enter Tryd.func54, Tryd.ntmps54
      go_wp2_with fail
      refine HV.mono ?_
      rintro e w1 ⟨rfl, rfl⟩
      clear HV
      go_wp2
      go_step3
      go_wp2
      go_loopg [9] 1 (fun gg iv wr => iv = .int .i64 2 ∧ wr = w1)
      case atStart => exact ⟨rfl, rfl⟩
      case round =>
        obtain ⟨rfl, rfl⟩ := hrel
        go_wp2
        go_step3
        go_wp2
        go_quiet (fail)
        go_wp2
        go_quiet (first | (go_at_call 63; refine (HI.out _).mono ?_; rintro e w7 ⟨rfl, rfl⟩; exact ⟨rfl, _, rfl⟩) | fail "no arm")
        go_wp2
        simp only [Exit.inBlock, Exit.then, Exit.noGoto_ret]
        go_ret
        exact ⟨rfl, below_drewN (Below.refl _ _) _⟩
    | [a, a2, a3], _, _, hx =>
      have hx : Utf8.encode c = ⟨#[a, a2, a3, x]⟩ := hx
      have hcv : ∀ W, (convert 21 9 (.int .i32 c)).run Tryd.prog W = .ok (.string ⟨#[a, a2, a3, x]⟩) W := fun W => by rw [← hx]; exact run_convert_int_string W 21 9 .i32 c (by kernel_rfl) (by kernel_rfl)
      have HI := Lib.hid HI0
      clear HI1 HI0 hl1 hl2 hx2 hx3
      go_enter Tryd.func54, Tryd.ntmps54
      go_wp2_with fail
      refine HV.mono ?_
      rintro e w1 ⟨rfl, rfl⟩
      clear HV
      go_wp2
      go_step3
      go_wp2
      go_loopg [9] 1 (fun gg iv wr => iv = .int .i64 3 ∧ wr = w1)
      case atStart => exact ⟨rfl, rfl⟩
      case round =>
        obtain ⟨rfl, rfl⟩ := hrel
        go_wp2
        repeat rw [Exit.noGoto_ret]
        go_ret
        exact ⟨rfl, Below.refl _ _⟩
end Go.Proofs.YtijbaienhaiamaaDoor
end
