/- What is proved here: the model's l6All says whether every node of a pattern has one of the seven forms. Condition: the pattern lies in memory as said, and is small. -/
import Derived.Test.YtdifefgigcjgeaaDoorSpecForm
import Derived.Deep.RegionHeld3
namespace Go.Proofs.YtdifefgigcjgeaaDoor
open Go.RowKit

set_option maxHeartbeats 1000000 in
set_option maxRecDepth 100000 in
theorem spec_all : ∀ F : Trees, F.fits → F.count ≤ 1048576 → ∀ (w : World) (k n : Int) (t : ByteArray) (p : Option Addr) (cap : Nat), t.size ≤ maxLen → TreesAt w F p 0 →
    Calls Tryd.prog 54 #[.agg #[.int .i64 k, .int .i64 n, .string t, .slice p F.length cap]] w fun e w' => e = .returned (.bool (F.formed && patForm k n t F.length)) ∧ Below w.heap.size w w' := by
  refine Trees.ind fun F hall hfit hc w k n t p cap ht hx => ?_
  have hlc := F.length_le_count
  have HALL := Lib.hid hall
  have HFIT := Lib.hid hfit
  clear hall hfit
  generalize hz : (F.formed && patForm k n t F.length) = z
  have HZ := Lib.hid hz
  have HCC := Lib.hid hc
  generalize hn : F.length = nn at *
  have HN := Lib.hid hn
  clear hn hz
  have HFM := Lib.hid (fun w => spec_form w k n t p nn cap ht)
  generalize patForm k n t nn = fm at *
  have hB0 : Below w.heap.size w (w.alloc (.cells #[.int .i64 k, .int .i64 n, .string t, .slice p nn cap] 29)) := (Below.refl _ _).alloc (Nat.le_refl _) _
  have HX := Lib.hid (hx.below hB0)
  obtain ⟨c0, c1, c2, hc3, _⟩ := four_cells (heap_at_new w (.cells #[.int .i64 k, .int .i64 n, .string t, .slice p nn cap] 29))
  clear ht
  go_enter Tryd.func54, Tryd.ntmps54
  go_wp2
  generalize w.alloc (.cells #[.int .i64 k, .int .i64 n, .string t, .slice p nn cap] 29) = w0 at *
  have HB0 := Lib.hid hB0
  have HC0 := Lib.hid c0
  have HC1 := Lib.hid c1
  have HC2 := Lib.hid c2
  have HC3 := Lib.hid hc3
  clear hB0 hx hc3 c0 c1 c2
  go_loopw [3] (fun i wr => ∃ (j : Nat) (rest : Trees), i = .int .i64 j ∧ j + rest.length = nn ∧ Hid (rest.count ≤ 1048576) ∧ Hid (rest.fits) ∧ Hid ((rest.formed && fm) = z) ∧ Hid (TreesAt w0 rest p j) ∧ Hid (rest.All (fun G => G.fits → G.count ≤ 1048576 → ∀ (w : World) (k n : Int) (t : ByteArray) (p : Option Addr) (cap : Nat), t.size ≤ maxLen → TreesAt w G p 0 →
    Calls Tryd.prog 54 #[.agg #[.int .i64 k, .int .i64 n, .string t, .slice p G.length cap]] w fun e w' => e = .returned (.bool (G.formed && patForm k n t G.length)) ∧ Below w.heap.size w w')) ∧ Hid (Below w0.heap.size w0 wr)) (fun i _ => nn - (intOf i).toNat)
  case atStart => exact ⟨0, F, rfl, by rw [HN.out]; omega, HCC, HFIT, HZ, HX, HALL, Below.refl _ _⟩
  case round =>
    obtain ⟨j, rest, rfl, hjn, hcr, hfr, hz, hxr, hall, hB⟩ := hrel
    have hb3 := cell_below HC3.out hB.out
    cases rest with
    | cons kd nu tx ar r =>
      have hjl : j < nn := by simp only [Trees.length] at hjn; omega
      have hjn2 : j + 1 + r.length = nn := by simp only [Trees.length] at hjn; omega
      have hcr2 := hcr.out
      simp only [Trees.count] at hcr2
      have hz2 := hz.out
      simp only [Trees.formed] at hz2
      obtain ⟨y, q, cq, rfl, h1, h2, h3, h4, hs, hr⟩ := (hxr.out.below hB.out).open
      have hxr2 : Hid (TreesAt w0 r (some y) (j + 1)) := hxr.out.2
      have H := hall.out.1 hfr.out.2.2.2.2.1 (by omega) wr kd nu tx q cq hfr.out.2.2.1 hs
      have HA2 := Lib.hid hall.out.2
      have HCR : Hid (r.count ≤ 1048576) := by unfold Hid; omega
      have HFR : Hid r.fits := hfr.out.2.2.2.2.2
      have HB := Lib.hid hB.out
      have hzz : (ar.formed && patForm kd nu tx ar.length) = false → z = false := fun h => by
        rw [← hz2]
        cases h5 : ar.formed <;> cases h6 : patForm kd nu tx ar.length <;> simp_all
      have hzy : (ar.formed && patForm kd nu tx ar.length) = true → (r.formed && fm) = z := fun h => by
        rw [← hz2]
        cases h5 : ar.formed <;> cases h6 : patForm kd nu tx ar.length <;> simp_all
      have HZZ := Lib.hid hzz
      have HZY := Lib.hid hzy
      clear hxr hall hs hr hjn hz hz2 hcr hcr2 hfr hzz hzy
      cases hb : (ar.formed && patForm kd nu tx ar.length) with
      | false =>
        rw [hb] at H
        have HE : Hid (z = false) := HZZ.out hb
        clear hb
        go_wp2_with fail
        refine H.mono ?_
        rintro e w1 ⟨rfl, hb1⟩
        have HB1 : Hid (Below w0.heap.size w0 w1) := HB.out.trans (hb1.mono HB.out.size)
        clear hb1 H
        go_wp2
        go_ret
        exact ⟨by rw [HE.out]; rfl, HB0.out.trans (HB1.out.mono HB0.out.size)⟩
      | true =>
        rw [hb] at H
        have HE : Hid ((r.formed && fm) = z) := HZY.out hb
        clear hb
        go_wp2_with fail
        refine H.mono ?_
        rintro e w1 ⟨rfl, hb1⟩
        have HB1 : Hid (Below w0.heap.size w0 w1) := HB.out.trans (hb1.mono HB.out.size)
        clear hb1 H
        go_wp2
        go_roundw
        case rel => exact ⟨j + 1, r, by go_num, hjn2, HCR, HFR, HE, hxr2, HA2, HB1⟩
        case measure => simp [intOf]; omega
    | nil =>
      obtain rfl : j = nn := by simp only [Trees.length] at hjn; omega
      obtain rfl : fm = z := by have := hz.out; simpa [Trees.formed] using this
      have e0 := cell_below HC0.out hB.out
      have e1 := cell_below HC1.out hB.out
      have e2 := cell_below HC2.out hB.out
      clear hxr hall hz hfr
      go_wp2_with fail
      refine (HFM.out wr).mono ?_
      rintro e w1 ⟨rfl, hb1⟩
      have HB1 : Hid (Below w0.heap.size w0 w1) := hB.out.trans (hb1.mono hB.out.size)
      clear hb1
      go_wp2
      go_ret
      exact ⟨rfl, HB0.out.trans (HB1.out.mono HB0.out.size)⟩
end Go.Proofs.YtdifefgigcjgeaaDoor
