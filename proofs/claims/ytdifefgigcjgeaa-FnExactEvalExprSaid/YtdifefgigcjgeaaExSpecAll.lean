/- What is proved here: the model's l7All says whether every node of an expression has one of the four forms. Condition: the pattern lies in memory as said, and is small. -/
import Derived.Test.YtdifefgigcjgeaaExprForm
import Derived.Test.YtdifefgigcjgeaaTreeCells
import Derived.Deep.RegionHeld3
namespace Go.Proofs.Ytdifefgigcjgeaa.Ex
open Go.RowKit

set_option maxHeartbeats 1000000 in
set_option maxRecDepth 100000 in
theorem spec_all : ∀ F : Trees, F.fits → F.count ≤ 1048576 → ∀ (w : World) (k n : Int) (t : ByteArray) (p : Option Addr) (cap : Nat), t.size ≤ maxLen → TreesAt w F p 0 →
    Calls Try.prog 43 #[.agg #[.int .i64 k, .int .i64 n, .string t, .slice p F.length cap]] w fun e w' => e = .returned (.bool (F.formedE && exprForm k n t F.length)) ∧ Below w.heap.size w w' := by
  refine Trees.ind fun F hall hfit hc w k n t p cap ht hx => ?_
  have hlc := F.length_le_count
  have HALL := Lib.hid hall
  have HFIT := Lib.hid hfit
  clear hall hfit
  generalize hz : (F.formedE && exprForm k n t F.length) = z
  have HZ := Lib.hid hz
  have HCC := Lib.hid hc
  generalize hn : F.length = nn at *
  have HN := Lib.hid hn
  clear hn hz
  generalize hfm : exprForm k n t nn = fm at *
  have HFM := Lib.hid hfm
  clear hfm
  have hB0 : Below w.heap.size w (w.alloc (.cells #[.int .i64 k, .int .i64 n, .string t, .slice p nn cap] 40)) := (Below.refl _ _).alloc (Nat.le_refl _) _
  have HX := Lib.hid (hx.below hB0)
  obtain ⟨c0, c1, c2, hc3, _⟩ := four_cells (heap_at_new w (.cells #[.int .i64 k, .int .i64 n, .string t, .slice p nn cap] 40))
  have HTS := Lib.hid ht
  clear ht
  go_enter Try.func43, Try.ntmps43
  go_wp2
  generalize w.alloc (.cells #[.int .i64 k, .int .i64 n, .string t, .slice p nn cap] 40) = w0 at *
  have HB0 := Lib.hid hB0
  have HC0 := Lib.hid c0
  have HC1 := Lib.hid c1
  have HC2 := Lib.hid c2
  have HC3 := Lib.hid hc3
  clear hB0 hx hc3 c0 c1 c2
  go_loopw [3] (fun i wr => ∃ (j : Nat) (rest : Trees), i = .int .i64 j ∧ j + rest.length = nn ∧ Hid (rest.count ≤ 1048576) ∧ Hid (rest.fits) ∧ Hid ((rest.formedE && fm) = z) ∧ Hid (TreesAt w0 rest p j) ∧ Hid (rest.All (fun G => G.fits → G.count ≤ 1048576 → ∀ (w : World) (k n : Int) (t : ByteArray) (p : Option Addr) (cap : Nat), t.size ≤ maxLen → TreesAt w G p 0 →
    Calls Try.prog 43 #[.agg #[.int .i64 k, .int .i64 n, .string t, .slice p G.length cap]] w fun e w' => e = .returned (.bool (G.formedE && exprForm k n t G.length)) ∧ Below w.heap.size w w')) ∧ Hid (Below w0.heap.size w0 wr)) (fun i _ => nn - (intOf i).toNat)
  case atStart => exact ⟨0, F, rfl, by rw [HN.out]; omega, HCC, HFIT, HZ, HX, HALL, Below.refl _ _⟩
  case round =>
    obtain ⟨j, rest, rfl, hjn, hcr, hfr, hz, hxr, hall, hB⟩ := hrel
    have hb3 := cell_below HC3.out hB.out
    cases rest with
    | cons kd nu tx ar r =>
      have hjl : j < nn := by simp only [Trees.length] at hjn; omega
      have hjn2 : j + 1 + r.length = nn := by simp only [Trees.length] at hjn; omega
      have hcr2 := hcr.out
      simp only [Trees.count] at hcr2
      have hz2 := hz.out
      simp only [Trees.formedE] at hz2
      obtain ⟨y, q, cq, rfl, h1, h2, h3, h4, hs, hr⟩ := (hxr.out.below hB.out).open
      have hxr2 : Hid (TreesAt w0 r (some y) (j + 1)) := hxr.out.2
      have H := hall.out.1 hfr.out.2.2.2.2.1 (by omega) wr kd nu tx q cq hfr.out.2.2.1 hs
      have HA2 := Lib.hid hall.out.2
      have HCR : Hid (r.count ≤ 1048576) := by unfold Hid; omega
      have HFR : Hid r.fits := hfr.out.2.2.2.2.2
      have HB := Lib.hid hB.out
      have hzz : (ar.formedE && exprForm kd nu tx ar.length) = false → z = false := fun h => by
        rw [← hz2]
        cases h5 : ar.formedE <;> cases h6 : exprForm kd nu tx ar.length <;> simp_all
      have hzy : (ar.formedE && exprForm kd nu tx ar.length) = true → (r.formedE && fm) = z := fun h => by
        rw [← hz2]
        cases h5 : ar.formedE <;> cases h6 : exprForm kd nu tx ar.length <;> simp_all
      have HZZ := Lib.hid hzz
      have HZY := Lib.hid hzy
      clear hxr hall hs hr hjn hz hz2 hcr hcr2 hfr hzz hzy
      cases hb : (ar.formedE && exprForm kd nu tx ar.length) with
      | false =>
        rw [hb] at H
        have HE : Hid (z = false) := HZZ.out hb
        clear hb
        go_wp2_with fail
        refine H.mono ?_
        rintro e w1 ⟨rfl, hb1⟩
        have HB1 : Hid (Below w0.heap.size w0 w1) := HB.out.trans (hb1.mono HB.out.size)
        clear hb1 H
        go_wp2
        go_ret
        exact ⟨by rw [HE.out]; rfl, HB0.out.trans (HB1.out.mono HB0.out.size)⟩
      | true =>
        rw [hb] at H
        have HE : Hid ((r.formedE && fm) = z) := HZY.out hb
        clear hb
        go_wp2_with fail
        refine H.mono ?_
        rintro e w1 ⟨rfl, hb1⟩
        have HB1 : Hid (Below w0.heap.size w0 w1) := HB.out.trans (hb1.mono HB.out.size)
        clear hb1 H
        go_wp2
        go_roundw
        case rel => exact ⟨j + 1, r, by go_num, hjn2, HCR, HFR, HE, hxr2, HA2, HB1⟩
        case measure => simp [intOf]; omega
    | nil =>
      obtain rfl : j = nn := by simp only [Trees.length] at hjn; omega
      obtain rfl : z = fm := by have := hz.out; simpa [Trees.formedE] using this.symm
      have c0 := cell_below HC0.out hB.out
      have c1 := cell_below HC1.out hB.out
      have c2 := cell_below HC2.out hB.out
      have c3 := cell_below HC3.out hB.out
      have HBW : Hid (Below w.heap.size w wr) := HB0.out.trans (hB.out.mono HB0.out.size)
      have hz := HFM.out
      have ht := HTS.out
      clear hxr hall hfr HFM HTS
      by_cases hk1 : k = 1
      · have hk := hk1
        subst hk1
        clear hk
        have HC : Hid (∀ w, Calls Try.prog 69 #[.int .i64 n, .int .i64 (-999999999999), .int .i64 999999999999] w fun e w' => e = .returned (.bool (inInt n)) ∧ Below w.heap.size w w') := fun w => (spec_inInt n w).mono (by rintro e w' ⟨rfl, rfl⟩; exact ⟨rfl, Below.refl _ _⟩)
        cases hq : inInt n with
        | false =>
          simp only [hq] at HC
          have HZ : Hid (z = false) := by unfold Hid; rw [← hz]; unfold exprForm; simp [hq]
          clear hz ht
          go_wp2_with fail
          refine (HC.out wr).mono ?_
          rintro e w1 ⟨rfl, hb1⟩
          have c3 := cell_below c3 hb1
          have c2 := cell_below c2 hb1
          have c1 := cell_below c1 hb1
          have HB1 : Hid (Below w.heap.size w w1) := HBW.out.trans (hb1.mono HBW.out.size)
          clear hb1
          go_wp2
          go_ret
          exact ⟨by rw [HZ.out]; rfl, HB1.out⟩
        | true =>
          simp only [hq] at HC
          by_cases he : t.size = 0
          · have hE := bl_true he
            obtain ⟨q, hl⟩ : ∃ q, bl (j = 0) = q := ⟨_, rfl⟩
            have hl0 : ((j : Int) == 0) = q := by rw [← hl]; exact bl_len j 0
            have HZ : Hid (z = q) := by unfold Hid; rw [← hz]; unfold exprForm; generalize bl (t.size = 0) = e at hE ⊢; subst hE; simp [hq, hl]
            clear hz hE
            obtain rfl := empty_of t he
            clear ht he
            go_wp2_with fail
            refine (HC.out wr).mono ?_
            rintro e w1 ⟨rfl, hb1⟩
            have c3 := cell_below c3 hb1
            have c2 := cell_below c2 hb1
            have c1 := cell_below c1 hb1
            have HB1 : Hid (Below w.heap.size w w1) := HBW.out.trans (hb1.mono HBW.out.size)
            clear hb1
            go_wp2
            go_ret
            exact ⟨by rw [HZ.out]; rfl, HB1.out⟩
          · have hE := bl_false he
            have hne := ne_empty t (by omega)
            have hne2 := bl_empty t (by omega)
            have HZ : Hid (z = false) := by unfold Hid; rw [← hz]; unfold exprForm; generalize bl (t.size = 0) = e at hE ⊢; subst hE; simp [hq]
            clear hz ht
            go_wp2_with fail
            refine (HC.out wr).mono ?_
            rintro e w1 ⟨rfl, hb1⟩
            have c3 := cell_below c3 hb1
            have c2 := cell_below c2 hb1
            have c1 := cell_below c1 hb1
            have HB1 : Hid (Below w.heap.size w w1) := HBW.out.trans (hb1.mono HBW.out.size)
            clear hb1
            go_wp2
            go_ret
            exact ⟨by rw [HZ.out]; rfl, HB1.out⟩
      by_cases hk2 : k = 2
      · have hk := hk2
        subst hk2
        clear hk
        by_cases hn : n = 0
        · subst hn
          have HC : Hid (∀ w, Calls Try.prog 70 #[.string t] w fun e w' => e = .returned (.bool (bl (Name t))) ∧ Below w.heap.size w w') := fun w => spec_name t ht w
          cases hq : bl (Name t) with
          | false =>
            simp only [hq] at HC
            have HZ : Hid (z = false) := by unfold Hid; rw [← hz]; unfold exprForm; simp [hq]
            clear hz ht
            go_wp2_with fail
            refine (HC.out wr).mono ?_
            rintro e w1 ⟨rfl, hb1⟩
            have c3 := cell_below c3 hb1
            have c2 := cell_below c2 hb1
            have c1 := cell_below c1 hb1
            have HB1 : Hid (Below w.heap.size w w1) := HBW.out.trans (hb1.mono HBW.out.size)
            clear hb1
            go_wp2
            go_ret
            exact ⟨by rw [HZ.out]; rfl, HB1.out⟩
          | true =>
            simp only [hq] at HC
            obtain ⟨q, hl⟩ : ∃ q, bl (j = 0) = q := ⟨_, rfl⟩
            have hl0 : ((j : Int) == 0) = q := by rw [← hl]; exact bl_len j 0
            have HZ : Hid (z = q) := by unfold Hid; rw [← hz]; unfold exprForm; simp [hq, hl]
            clear hz ht
            go_wp2_with fail
            refine (HC.out wr).mono ?_
            rintro e w1 ⟨rfl, hb1⟩
            have c3 := cell_below c3 hb1
            have c2 := cell_below c2 hb1
            have c1 := cell_below c1 hb1
            have HB1 : Hid (Below w.heap.size w w1) := HBW.out.trans (hb1.mono HBW.out.size)
            clear hb1
            go_wp2
            go_ret
            exact ⟨by rw [HZ.out]; rfl, HB1.out⟩
        · have hn2 : (n == 0) = false := by simpa using hn
          have hn3 : (n != 0) = true := by simpa using hn
          have HZ : Hid (z = false) := by unfold Hid; rw [← hz]; unfold exprForm; simp [hn]
          clear hz ht
          go_wp2
          go_ret
          exact ⟨by rw [HZ.out]; rfl, HBW.out⟩
      by_cases hk3 : k = 3
      · have hk := hk3
        subst hk3
        clear hk
        by_cases he : t.size = 0
        · have hE := bl_true he
          have HC : Hid (∀ w, Calls Try.prog 69 #[.int .i64 n, .int .i64 1, .int .i64 7] w fun e w' => e = .returned (.bool (inOp n)) ∧ Below w.heap.size w w') := fun w => (spec_inOp n w).mono (by rintro e w' ⟨rfl, rfl⟩; exact ⟨rfl, Below.refl _ _⟩)
          cases hq : inOp n with
          | false =>
            simp only [hq] at HC
            have HZ : Hid (z = false) := by unfold Hid; rw [← hz]; unfold exprForm; simp [hq]
            clear hz hE
            obtain rfl := empty_of t he
            clear ht he
            go_wp2_with fail
            refine (HC.out wr).mono ?_
            rintro e w1 ⟨rfl, hb1⟩
            have c3 := cell_below c3 hb1
            have HB1 : Hid (Below w.heap.size w w1) := HBW.out.trans (hb1.mono HBW.out.size)
            clear hb1
            go_wp2
            go_ret
            exact ⟨by rw [HZ.out]; rfl, HB1.out⟩
          | true =>
            simp only [hq] at HC
            obtain ⟨q, hl⟩ : ∃ q, bl (j = 2) = q := ⟨_, rfl⟩
            have hl0 : ((j : Int) == 2) = q := by rw [← hl]; exact bl_len j 2
            have HZ : Hid (z = q) := by unfold Hid; rw [← hz]; unfold exprForm; generalize bl (t.size = 0) = e at hE ⊢; subst hE; simp [hq, hl]
            clear hz hE
            obtain rfl := empty_of t he
            clear ht he
            go_wp2_with fail
            refine (HC.out wr).mono ?_
            rintro e w1 ⟨rfl, hb1⟩
            have c3 := cell_below c3 hb1
            have HB1 : Hid (Below w.heap.size w w1) := HBW.out.trans (hb1.mono HBW.out.size)
            clear hb1
            go_wp2
            go_ret
            exact ⟨by rw [HZ.out]; rfl, HB1.out⟩
        · have hE := bl_false he
          have hne := ne_empty t (by omega)
          have hne2 := bl_empty t (by omega)
          have HZ : Hid (z = false) := by unfold Hid; rw [← hz]; unfold exprForm; generalize bl (t.size = 0) = e at hE ⊢; subst hE; simp
          clear hz ht
          go_wp2
          go_ret
          exact ⟨by rw [HZ.out]; rfl, HBW.out⟩
      by_cases hk4 : k = 4
      · have hk := hk4
        subst hk4
        clear hk
        by_cases hn : n = 0
        · subst hn
          by_cases he : t.size = 0
          · have hE := bl_true he
            obtain ⟨q, hl⟩ : ∃ q, bl (j = 1) = q := ⟨_, rfl⟩
            have hl0 : ((j : Int) == 1) = q := by rw [← hl]; exact bl_len j 1
            have HZ : Hid (z = q) := by unfold Hid; rw [← hz]; unfold exprForm; generalize bl (t.size = 0) = e at hE ⊢; subst hE; simp [hl]
            clear hz hE
            obtain rfl := empty_of t he
            clear ht he
            go_wp2
            go_ret
            exact ⟨by rw [HZ.out]; rfl, HBW.out⟩
          · have hE := bl_false he
            have hne := ne_empty t (by omega)
            have hne2 := bl_empty t (by omega)
            have HZ : Hid (z = false) := by unfold Hid; rw [← hz]; unfold exprForm; generalize bl (t.size = 0) = e at hE ⊢; subst hE; simp
            clear hz ht
            go_wp2
            go_ret
            exact ⟨by rw [HZ.out]; rfl, HBW.out⟩
        · have hn2 : (n == 0) = false := by simpa using hn
          have hn3 : (n != 0) = true := by simpa using hn
          have HZ : Hid (z = false) := by unfold Hid; rw [← hz]; unfold exprForm; simp [hn]
          clear hz ht
          go_wp2
          go_ret
          exact ⟨by rw [HZ.out]; rfl, HBW.out⟩
      have hb1 : (k == 1) = false := by simpa using hk1
      have hb2 : (k == 2) = false := by simpa using hk2
      have hb3 : (k == 3) = false := by simpa using hk3
      have hb4 : (k == 4) = false := by simpa using hk4
      cases hq : (n == 0) with
      | true =>
        have hq2 : (n != 0) = false := by simp [bne, hq]
        have HZ : Hid (z = false) := by unfold Hid; rw [← hz]; unfold exprForm; simp [hk1, hk2, hk3, hk4]
        clear hz ht
        go_wp2
        go_ret
        exact ⟨by rw [HZ.out]; rfl, HBW.out⟩
      | false =>
        have hq2 : (n != 0) = true := by simp [bne, hq]
        have HZ : Hid (z = false) := by unfold Hid; rw [← hz]; unfold exprForm; simp [hk1, hk2, hk3, hk4]
        clear hz ht
        go_wp2
        go_ret
        exact ⟨by rw [HZ.out]; rfl, HBW.out⟩
end Go.Proofs.Ytdifefgigcjgeaa.Ex
