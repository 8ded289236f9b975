/- What is proved here: a piece of the proof of YtdifefgigcjgeaaDoorExactParseExpr (ExSpecAll, ExTreeSize, ExSpecLeft, ExSpecDepth, ExSpecValid, ExSpecFmt). Condition: none beyond what each part says. -/
import Derived.Test.YtdifefgigcjgeaaDoorPe02
import Derived.Test.YtdifefgigcjgeaaDoorPe04
import Derived.Deep.RegionHeld3
import Derived.Test.YtdifefgigcjgeaaDoorPe01
import Derived.Test.YtdifefgigcjgeaaDoorPe08
import Derived.Test.YtdifefgigcjgeaaDoorPe09

/- What is proved here: the model's l7All says whether every node of an expression has one of the four forms. Condition: the pattern lies in memory as said, and is small. -/
section
namespace Go.Proofs.YtdifefgigcjgeaaDoor.Ex
open Go.RowKit

set_option maxHeartbeats 1000000 in
set_option maxRecDepth 100000 in
theorem spec_all : ∀ F : Trees, F.fits → F.count ≤ 1048576 → ∀ (w : World) (k n : Int) (t : ByteArray) (p : Option Addr) (cap : Nat), t.size ≤ maxLen → TreesAt w F p 0 →
    Calls Tryd.prog 63 #[.agg #[.int .i64 k, .int .i64 n, .string t, .slice p F.length cap]] w fun e w' => e = .returned (.bool (F.formedE && exprForm k n t F.length)) ∧ Below w.heap.size w w' := by
  refine Trees.ind fun F hall hfit hc w k n t p cap ht hx => ?_
  have hlc := F.length_le_count
  have HALL := Lib.hid hall
  have HFIT := Lib.hid hfit
  clear hall hfit
  generalize hz : (F.formedE && exprForm k n t F.length) = z
  have HZ := Lib.hid hz
  have HCC := Lib.hid hc
  generalize hn : F.length = nn at *
  have HN := Lib.hid hn
  clear hn hz
  generalize hfm : exprForm k n t nn = fm at *
  have HFM := Lib.hid hfm
  clear hfm
  have hB0 : Below w.heap.size w (w.alloc (.cells #[.int .i64 k, .int .i64 n, .string t, .slice p nn cap] 40)) := (Below.refl _ _).alloc (Nat.le_refl _) _
  have HX := Lib.hid (hx.below hB0)
  obtain ⟨c0, c1, c2, hc3, _⟩ := four_cells (heap_at_new w (.cells #[.int .i64 k, .int .i64 n, .string t, .slice p nn cap] 40))
  have HTS := Lib.hid ht
  clear ht
  go_enter Tryd.func63, Tryd.ntmps63
  go_wp2
  generalize w.alloc (.cells #[.int .i64 k, .int .i64 n, .string t, .slice p nn cap] 40) = w0 at *
  have HB0 := Lib.hid hB0
  have HC0 := Lib.hid c0
  have HC1 := Lib.hid c1
  have HC2 := Lib.hid c2
  have HC3 := Lib.hid hc3
  clear hB0 hx hc3 c0 c1 c2
  go_loopw [3] (fun i wr => ∃ (j : Nat) (rest : Trees), i = .int .i64 j ∧ j + rest.length = nn ∧ Hid (rest.count ≤ 1048576) ∧ Hid (rest.fits) ∧ Hid ((rest.formedE && fm) = z) ∧ Hid (TreesAt w0 rest p j) ∧ Hid (rest.All (fun G => G.fits → G.count ≤ 1048576 → ∀ (w : World) (k n : Int) (t : ByteArray) (p : Option Addr) (cap : Nat), t.size ≤ maxLen → TreesAt w G p 0 →
    Calls Tryd.prog 63 #[.agg #[.int .i64 k, .int .i64 n, .string t, .slice p G.length cap]] w fun e w' => e = .returned (.bool (G.formedE && exprForm k n t G.length)) ∧ Below w.heap.size w w')) ∧ Hid (Below w0.heap.size w0 wr)) (fun i _ => nn - (intOf i).toNat)
  case atStart => exact ⟨0, F, rfl, by rw [HN.out]; omega, HCC, HFIT, HZ, HX, HALL, Below.refl _ _⟩
  case round =>
    obtain ⟨j, rest, rfl, hjn, hcr, hfr, hz, hxr, hall, hB⟩ := hrel
    have hb3 := cell_below HC3.out hB.out
    cases rest with
    | cons kd nu tx ar r =>
      have hjl : j < nn := by simp only [Trees.length] at hjn; omega
      have hjn2 : j + 1 + r.length = nn := by simp only [Trees.length] at hjn; omega
      have hcr2 := hcr.out
      simp only [Trees.count] at hcr2
      have hz2 := hz.out
      simp only [Trees.formedE] at hz2
      obtain ⟨y, q, cq, rfl, h1, h2, h3, h4, hs, hr⟩ := (hxr.out.below hB.out).open
      have hxr2 : Hid (TreesAt w0 r (some y) (j + 1)) := hxr.out.2
      have H := hall.out.1 hfr.out.2.2.2.2.1 (by omega) wr kd nu tx q cq hfr.out.2.2.1 hs
      have HA2 := Lib.hid hall.out.2
      have HCR : Hid (r.count ≤ 1048576) := by unfold Hid; omega
      have HFR : Hid r.fits := hfr.out.2.2.2.2.2
      have HB := Lib.hid hB.out
      have hzz : (ar.formedE && exprForm kd nu tx ar.length) = false → z = false := fun h => by
        rw [← hz2]
        cases h5 : ar.formedE <;> cases h6 : exprForm kd nu tx ar.length <;> simp_all
      have hzy : (ar.formedE && exprForm kd nu tx ar.length) = true → (r.formedE && fm) = z := fun h => by
        rw [← hz2]
        cases h5 : ar.formedE <;> cases h6 : exprForm kd nu tx ar.length <;> simp_all
      have HZZ := Lib.hid hzz
      have HZY := Lib.hid hzy
      clear hxr hall hs hr hjn hz hz2 hcr hcr2 hfr hzz hzy
      cases hb : (ar.formedE && exprForm kd nu tx ar.length) with
      | false =>
        rw [hb] at H
        have HE : Hid (z = false) := HZZ.out hb
        clear hb
        go_wp2_with fail
        refine H.mono ?_
        rintro e w1 ⟨rfl, hb1⟩
        have HB1 : Hid (Below w0.heap.size w0 w1) := HB.out.trans (hb1.mono HB.out.size)
        clear hb1 H
        go_wp2
        go_ret
        exact ⟨by rw [HE.out]; rfl, HB0.out.trans (HB1.out.mono HB0.out.size)⟩
      | true =>
        rw [hb] at H
        have HE : Hid ((r.formedE && fm) = z) := HZY.out hb
        clear hb
        go_wp2_with fail
        refine H.mono ?_
        rintro e w1 ⟨rfl, hb1⟩
        have HB1 : Hid (Below w0.heap.size w0 w1) := HB.out.trans (hb1.mono HB.out.size)
        clear hb1 H
        go_wp2
        go_roundw
        case rel => exact ⟨j + 1, r, by go_num, hjn2, HCR, HFR, HE, hxr2, HA2, HB1⟩
        case measure => simp [intOf]; omega
    | nil =>
      obtain rfl : j = nn := by simp only [Trees.length] at hjn; omega
      obtain rfl : z = fm := by have := hz.out; simpa [Trees.formedE] using this.symm
      have c0 := cell_below HC0.out hB.out
      have c1 := cell_below HC1.out hB.out
      have c2 := cell_below HC2.out hB.out
      have c3 := cell_below HC3.out hB.out
      have HBW : Hid (Below w.heap.size w wr) := HB0.out.trans (hB.out.mono HB0.out.size)
      have hz := HFM.out
      have ht := HTS.out
      clear hxr hall hfr HFM HTS
      by_cases hk1 : k = 1
      · have hk := hk1
        subst hk1
        clear hk
        have HC : Hid (∀ w, Calls Tryd.prog 96 #[.int .i64 n, .int .i64 (-999999999999), .int .i64 999999999999] w fun e w' => e = .returned (.bool (inInt n)) ∧ Below w.heap.size w w') := fun w => (spec_inInt n w).mono (by rintro e w' ⟨rfl, rfl⟩; exact ⟨rfl, Below.refl _ _⟩)
        cases hq : inInt n with
        | false =>
          simp only [hq] at HC
          have HZ : Hid (z = false) := by unfold Hid; rw [← hz]; unfold exprForm; simp [hq]
          clear hz ht
          go_wp2_with fail
          refine (HC.out wr).mono ?_
          rintro e w1 ⟨rfl, hb1⟩
          have c3 := cell_below c3 hb1
          have c2 := cell_below c2 hb1
          have c1 := cell_below c1 hb1
          have HB1 : Hid (Below w.heap.size w w1) := HBW.out.trans (hb1.mono HBW.out.size)
          clear hb1
          go_wp2
          go_ret
          exact ⟨by rw [HZ.out]; rfl, HB1.out⟩
        | true =>
          simp only [hq] at HC
          by_cases he : t.size = 0
          · have hE := bl_true he
            obtain ⟨q, hl⟩ : ∃ q, bl (j = 0) = q := ⟨_, rfl⟩
            have hl0 : ((j : Int) == 0) = q := by rw [← hl]; exact bl_len j 0
            have HZ : Hid (z = q) := by unfold Hid; rw [← hz]; unfold exprForm; generalize bl (t.size = 0) = e at hE ⊢; subst hE; simp [hq, hl]
            clear hz hE
            obtain rfl := empty_of t he
            clear ht he
            go_wp2_with fail
            refine (HC.out wr).mono ?_
            rintro e w1 ⟨rfl, hb1⟩
            have c3 := cell_below c3 hb1
            have c2 := cell_below c2 hb1
            have c1 := cell_below c1 hb1
            have HB1 : Hid (Below w.heap.size w w1) := HBW.out.trans (hb1.mono HBW.out.size)
            clear hb1
            go_wp2
            go_ret
            exact ⟨by rw [HZ.out]; rfl, HB1.out⟩
          · have hE := bl_false he
            have hne := ne_empty t (by omega)
            have hne2 := bl_empty t (by omega)
            have HZ : Hid (z = false) := by unfold Hid; rw [← hz]; unfold exprForm; generalize bl (t.size = 0) = e at hE ⊢; subst hE; simp [hq]
            clear hz ht
            go_wp2_with fail
            refine (HC.out wr).mono ?_
            rintro e w1 ⟨rfl, hb1⟩
            have c3 := cell_below c3 hb1
            have c2 := cell_below c2 hb1
            have c1 := cell_below c1 hb1
            have HB1 : Hid (Below w.heap.size w w1) := HBW.out.trans (hb1.mono HBW.out.size)
            clear hb1
            go_wp2
            go_ret
            exact ⟨by rw [HZ.out]; rfl, HB1.out⟩
      by_cases hk2 : k = 2
      · have hk := hk2
        subst hk2
        clear hk
        by_cases hn : n = 0
        · subst hn
          have HC : Hid (∀ w, Calls Tryd.prog 72 #[.string t] w fun e w' => e = .returned (.bool (bl (Name t))) ∧ Below w.heap.size w w') := fun w => spec_name t ht w
          cases hq : bl (Name t) with
          | false =>
            simp only [hq] at HC
            have HZ : Hid (z = false) := by unfold Hid; rw [← hz]; unfold exprForm; simp [hq]
            clear hz ht
            go_wp2_with fail
            refine (HC.out wr).mono ?_
            rintro e w1 ⟨rfl, hb1⟩
            have c3 := cell_below c3 hb1
            have c2 := cell_below c2 hb1
            have c1 := cell_below c1 hb1
            have HB1 : Hid (Below w.heap.size w w1) := HBW.out.trans (hb1.mono HBW.out.size)
            clear hb1
            go_wp2
            go_ret
            exact ⟨by rw [HZ.out]; rfl, HB1.out⟩
          | true =>
            simp only [hq] at HC
            obtain ⟨q, hl⟩ : ∃ q, bl (j = 0) = q := ⟨_, rfl⟩
            have hl0 : ((j : Int) == 0) = q := by rw [← hl]; exact bl_len j 0
            have HZ : Hid (z = q) := by unfold Hid; rw [← hz]; unfold exprForm; simp [hq, hl]
            clear hz ht
            go_wp2_with fail
            refine (HC.out wr).mono ?_
            rintro e w1 ⟨rfl, hb1⟩
            have c3 := cell_below c3 hb1
            have c2 := cell_below c2 hb1
            have c1 := cell_below c1 hb1
            have HB1 : Hid (Below w.heap.size w w1) := HBW.out.trans (hb1.mono HBW.out.size)
            clear hb1
            go_wp2
            go_ret
            exact ⟨by rw [HZ.out]; rfl, HB1.out⟩
        · have hn2 : (n == 0) = false := by simpa using hn
          have hn3 : (n != 0) = true := by simpa using hn
          have HZ : Hid (z = false) := by unfold Hid; rw [← hz]; unfold exprForm; simp [hn]
          clear hz ht
          go_wp2
          go_ret
          exact ⟨by rw [HZ.out]; rfl, HBW.out⟩
      by_cases hk3 : k = 3
      · have hk := hk3
        subst hk3
        clear hk
        by_cases he : t.size = 0
        · have hE := bl_true he
          have HC : Hid (∀ w, Calls Tryd.prog 96 #[.int .i64 n, .int .i64 1, .int .i64 7] w fun e w' => e = .returned (.bool (inOp n)) ∧ Below w.heap.size w w') := fun w => (spec_inOp n w).mono (by rintro e w' ⟨rfl, rfl⟩; exact ⟨rfl, Below.refl _ _⟩)
          cases hq : inOp n with
          | false =>
            simp only [hq] at HC
            have HZ : Hid (z = false) := by unfold Hid; rw [← hz]; unfold exprForm; simp [hq]
            clear hz hE
            obtain rfl := empty_of t he
            clear ht he
            go_wp2_with fail
            refine (HC.out wr).mono ?_
            rintro e w1 ⟨rfl, hb1⟩
            have c3 := cell_below c3 hb1
            have HB1 : Hid (Below w.heap.size w w1) := HBW.out.trans (hb1.mono HBW.out.size)
            clear hb1
            go_wp2
            go_ret
            exact ⟨by rw [HZ.out]; rfl, HB1.out⟩
          | true =>
            simp only [hq] at HC
            obtain ⟨q, hl⟩ : ∃ q, bl (j = 2) = q := ⟨_, rfl⟩
            have hl0 : ((j : Int) == 2) = q := by rw [← hl]; exact bl_len j 2
            have HZ : Hid (z = q) := by unfold Hid; rw [← hz]; unfold exprForm; generalize bl (t.size = 0) = e at hE ⊢; subst hE; simp [hq, hl]
            clear hz hE
            obtain rfl := empty_of t he
            clear ht he
            go_wp2_with fail
            refine (HC.out wr).mono ?_
            rintro e w1 ⟨rfl, hb1⟩
            have c3 := cell_below c3 hb1
            have HB1 : Hid (Below w.heap.size w w1) := HBW.out.trans (hb1.mono HBW.out.size)
            clear hb1
            go_wp2
            go_ret
            exact ⟨by rw [HZ.out]; rfl, HB1.out⟩
        · have hE := bl_false he
          have hne := ne_empty t (by omega)
          have hne2 := bl_empty t (by omega)
          have HZ : Hid (z = false) := by unfold Hid; rw [← hz]; unfold exprForm; generalize bl (t.size = 0) = e at hE ⊢; subst hE; simp
          clear hz ht
          go_wp2
          go_ret
          exact ⟨by rw [HZ.out]; rfl, HBW.out⟩
      by_cases hk4 : k = 4
      · have hk := hk4
        subst hk4
        clear hk
        by_cases hn : n = 0
        · subst hn
          by_cases he : t.size = 0
          · have hE := bl_true he
            obtain ⟨q, hl⟩ : ∃ q, bl (j = 1) = q := ⟨_, rfl⟩
            have hl0 : ((j : Int) == 1) = q := by rw [← hl]; exact bl_len j 1
            have HZ : Hid (z = q) := by unfold Hid; rw [← hz]; unfold exprForm; generalize bl (t.size = 0) = e at hE ⊢; subst hE; simp [hl]
            clear hz hE
            obtain rfl := empty_of t he
            clear ht he
            go_wp2
            go_ret
            exact ⟨by rw [HZ.out]; rfl, HBW.out⟩
          · have hE := bl_false he
            have hne := ne_empty t (by omega)
            have hne2 := bl_empty t (by omega)
            have HZ : Hid (z = false) := by unfold Hid; rw [← hz]; unfold exprForm; generalize bl (t.size = 0) = e at hE ⊢; subst hE; simp
            clear hz ht
            go_wp2
            go_ret
            exact ⟨by rw [HZ.out]; rfl, HBW.out⟩
        · have hn2 : (n == 0) = false := by simpa using hn
          have hn3 : (n != 0) = true := by simpa using hn
          have HZ : Hid (z = false) := by unfold Hid; rw [← hz]; unfold exprForm; simp [hn]
          clear hz ht
          go_wp2
          go_ret
          exact ⟨by rw [HZ.out]; rfl, HBW.out⟩
      have hb1 : (k == 1) = false := by simpa using hk1
      have hb2 : (k == 2) = false := by simpa using hk2
      have hb3 : (k == 3) = false := by simpa using hk3
      have hb4 : (k == 4) = false := by simpa using hk4
      cases hq : (n == 0) with
      | true =>
        have hq2 : (n != 0) = false := by simp [bne, hq]
        have HZ : Hid (z = false) := by unfold Hid; rw [← hz]; unfold exprForm; simp [hk1, hk2, hk3, hk4]
        clear hz ht
        go_wp2
        go_ret
        exact ⟨by rw [HZ.out]; rfl, HBW.out⟩
      | false =>
        have hq2 : (n != 0) = true := by simp [bne, hq]
        have HZ : Hid (z = false) := by unfold Hid; rw [← hz]; unfold exprForm; simp [hk1, hk2, hk3, hk4]
        clear hz ht
        go_wp2
        go_ret
        exact ⟨by rw [HZ.out]; rfl, HBW.out⟩
end Go.Proofs.YtdifefgigcjgeaaDoor.Ex
end

/- What is proved here: the laws' bound on a value (szValue and szValueS) counts its size. Condition: the value lies in memory as said. -/
section
namespace Go.Proofs.YtdifefgigcjgeaaDoor.Ex
open Go.RowKit

set_option maxHeartbeats 1000000 in
set_option maxRecDepth 100000 in
theorem szNode (L : Nat) (hL : L ≤ 1048576) (w : World) (k n : Int) (t : ByteArray) (c N : Nat) (p : Option Addr) (cap : Nat) (ht : t.size ≤ maxLen)
    (H : ∀ M : Nat, M ≤ 1048576 → ∀ w', Below w.heap.size w w' → Calls Tryd.prog 33 #[.slice p c cap, .int .i64 (M : Int)] w' fun e w'' => e = .returned (.int .i64 (left M N)) ∧ Below w'.heap.size w' w'') :
    Calls Tryd.prog 12 #[.agg #[.int .i64 k, .int .i64 n, .string t, .slice p c cap], .int .i64 (L : Int)] w fun e w' => e = .returned (.int .i64 (left L (t.size + N))) ∧ Below w.heap.size w w' := by
  unfold maxLen at ht
  have hc : left L (t.size + N) = if t.size ≤ L then left (L - t.size) N else -1 := by unfold left; split <;> split <;> (try split) <;> omega
  generalize left L (t.size + N) = z at hc ⊢
  have hb : Below w.heap.size w (w.alloc (.cells #[.int .i64 k, .int .i64 n, .string t, .slice p c cap] 35)) := (Below.refl _ _).alloc (Nat.le_refl _) _
  have HB := Lib.hid hb
  clear hb
  by_cases hn : t.size ≤ L
  · rw [if_pos hn] at hc
    have H1 := H (L - t.size) (by omega)
    have hMb : L - t.size ≤ 1048576 := by omega
    clear H
    have hM2 : (L : Int) - (t.size : Int) = ((L - t.size : Nat) : Int) := by omega
    generalize L - t.size = M at *
    have HZ := Lib.hid hc
    have HL := Lib.hid hL
    clear hc hL
    by_cases hN : N ≤ M
    · rw [left_yes hN] at H1
      have HZ : Hid (z = ((M - N : Nat) : Int)) := by unfold Hid; rw [HZ.out, left_yes hN]
      have hqb : M - N ≤ 1048576 := by omega
      generalize M - N = q at *
      clear hN
      go_enter Tryd.func12, Tryd.ntmps12
      go_wp2_with fail
      refine (H1 _ HB.out).mono ?_
      rintro e w1 ⟨rfl, hb1⟩
      have HB1 : Hid (Below w.heap.size w w1) := HB.out.trans (hb1.mono HB.out.size)
      clear hb1 H1
      go_wp2
      go_ret
      exact ⟨by rw [HZ.out]; rfl, HB1.out⟩
    · rw [left_no hN] at H1
      have HZ : Hid (z = -1) := by unfold Hid; rw [HZ.out, left_no hN]
      clear hN
      go_enter Tryd.func12, Tryd.ntmps12
      go_wp2_with fail
      refine (H1 _ HB.out).mono ?_
      rintro e w1 ⟨rfl, hb1⟩
      have HB1 : Hid (Below w.heap.size w w1) := HB.out.trans (hb1.mono HB.out.size)
      clear hb1 H1
      go_wp2
      go_ret
      exact ⟨by rw [HZ.out]; rfl, HB1.out⟩
  · rw [if_neg hn] at hc
    subst hc
    have hM2 : (L : Int) - (t.size : Int) < 0 := by omega
    clear H
    go_enter Tryd.func12, Tryd.ntmps12
    go_wp2
    go_ret
    exact ⟨rfl, HB.out⟩

set_option maxHeartbeats 1000000 in
set_option maxRecDepth 100000 in
theorem szValueS_any : ∀ F : Trees, F.fits → F.length ≤ maxLen → ∀ (L : Nat), L ≤ 1048576 → ∀ (w : World) (a : Option Addr) (cap : Nat), TreesAt w F a 0 →
    Calls Tryd.prog 33 #[.slice a F.length cap, .int .i64 (L : Int)] w fun e w' => e = .returned (.int .i64 (left L F.size)) ∧ Below w.heap.size w w' := by
  refine Trees.ind fun F hall hfit hm L hL w a cap hx => ?_
  unfold maxLen at hm
  have HX := Lib.hid hx
  have HALL := Lib.hid hall
  have HF := Lib.hid hfit
  clear hx hall hfit
  have hz := congrArg (left L) F.size_eq
  generalize left L F.size = z at hz ⊢
  generalize hn : F.length = n at *
  have HN := Lib.hid hn
  have HZ := Lib.hid hz
  clear hn hz
  by_cases h0 : L < n
  · have HE : Hid (z = -1) := by unfold Hid; rw [HZ.out]; exact left_no (by omega)
    go_enter Tryd.func33, Tryd.ntmps33
    go_wp2
    go_ret
    exact ⟨by rw [HE.out]; rfl, Below.refl _ _⟩
  · have hLn : (L : Int) - (n : Int) = ((L - n : Nat) : Int) := by omega
    have HZ2 : Hid (z = left (L - n) F.inner) := by
      unfold Hid
      rw [HZ.out]
      unfold left
      split <;> split <;> omega
    have hMb : L - n ≤ 1048576 := by omega
    generalize L - n = M at *
    go_enter Tryd.func33, Tryd.ntmps33
    go_wp2
    go_loopw [1, 5] (fun l i wr => ∃ (k m : Nat) (rest : Trees), i = .int .i64 k ∧ l = .int .i64 m ∧ m ≤ 1048576 ∧ k + rest.length = n ∧ Hid (z = left m rest.inner) ∧ Hid (TreesAt w rest a k) ∧ Hid (rest.All (fun G => G.fits → G.length ≤ maxLen → ∀ (L : Nat), L ≤ 1048576 → ∀ (w : World) (a : Option Addr) (cap : Nat), TreesAt w G a 0 → Calls Tryd.prog 33 #[.slice a G.length cap, .int .i64 (L : Int)] w fun e w' => e = .returned (.int .i64 (left L G.size)) ∧ Below w.heap.size w w')) ∧ Hid rest.fits ∧ Hid (Below w.heap.size w wr)) (fun _ i _ => n - (intOf i).toNat)
    case atStart => exact ⟨0, M, F, rfl, rfl, hMb, by rw [HN.out]; omega, HZ2, HX, HALL, HF, Below.refl _ _⟩
    case round =>
      obtain ⟨k, m, rest, rfl, rfl, hmL, hkn, hzr, hxr, hall, hfr, hB⟩ := hrel
      cases rest with
      | cons kd nu t ar r =>
        have hkl : k < n := by simp only [Trees.length] at hkn; omega
        have hkn2 : k + 1 + r.length = n := by simp only [Trees.length] at hkn; omega
        have hzr' := hzr.out
        simp only [Trees.inner] at hzr'
        obtain ⟨y, p, cp, rfl, h1, h2, h3, h4, hs, hr⟩ := (hxr.out.below hB.out).open
        obtain ⟨hfk, hfn, hft, hfl, hfa, hfr2⟩ := hfr.out
        obtain ⟨ha1, ha2⟩ := hall.out
        have hxr2 : Hid (TreesAt w r (some y) (k + 1)) := hxr.out.2
        have H := szNode m hmL wr kd nu t ar.length ar.size p cp hft (fun M hM w' hbw => ha1 hfa hfl M hM w' p cp (hs.below hbw))
        have HR2 := Lib.hid hfr2
        have HA2 := Lib.hid ha2
        generalize t.size + ar.size = s at *
        clear hzr hxr hall hfr hs hr hfk hfn hft hfl hfa hfr2 ha1 ha2 hkn
        by_cases hbad : s ≤ m
        · rw [left_yes hbad] at H
          have HZ3 : Hid (z = left (m - s) r.inner) := by
            unfold Hid
            rw [hzr']
            unfold left
            split <;> split <;> omega
          have hq : m - s ≤ 1048576 := by omega
          generalize m - s = q at *
          clear hzr'
          go_wp2_with fail
          refine H.mono ?_
          rintro e w1 ⟨rfl, hb1⟩
          have HB1 : Hid (Below w.heap.size w w1) := hB.out.trans (hb1.mono hB.out.size)
          clear hb1 H
          go_wp2
          go_roundw
          case rel => exact ⟨k + 1, q, r, by go_num, rfl, hq, hkn2, HZ3, hxr2, HA2, HR2, HB1⟩
          case measure => simp [intOf]; omega
        · rw [left_no hbad] at H
          have HE : Hid (z = -1) := by
            unfold Hid
            rw [hzr']
            exact left_no (by omega)
          clear hzr' hbad
          go_wp2_with fail
          refine H.mono ?_
          rintro e w1 ⟨rfl, hb1⟩
          have HB1 : Hid (Below w.heap.size w w1) := hB.out.trans (hb1.mono hB.out.size)
          clear hb1 H
          go_wp2
          go_ret
          exact ⟨by rw [HE.out]; rfl, HB1.out⟩
      | nil =>
        obtain rfl : k = n := by simp only [Trees.length] at hkn; omega
        have HE : Hid (z = m) := by
          have h := hzr.out
          simp only [Trees.inner] at h
          unfold Hid
          rw [h, left_yes (Nat.zero_le _)]
          rfl
        clear hzr hxr hall hfr
        go_wp2
        go_ret
        exact ⟨by rw [HE.out]; rfl, hB.out⟩

/-- The size of an expression. -/
theorem szValue_any (L : Nat) (hL : L ≤ 1048576) (w : World) (k n : Int) (t : ByteArray) (ar : Trees) (p : Option Addr) (cap : Nat) (ht : t.size ≤ maxLen) (hf : ar.fits) (hm : ar.length ≤ maxLen) (hx : TreesAt w ar p 0) :
    Calls Tryd.prog 12 #[.agg #[.int .i64 k, .int .i64 n, .string t, .slice p ar.length cap], .int .i64 (L : Int)] w fun e w' => e = .returned (.int .i64 (left L (t.size + ar.size))) ∧ Below w.heap.size w w' :=
  szNode L hL w k n t ar.length ar.size p cap ht (fun M hM w' hb => szValueS_any ar hf hm M hM w' p cap (hx.below hb))
end Go.Proofs.YtdifefgigcjgeaaDoor.Ex
end

/- What is proved here: the model's l4Left counts a value's nodes down. Condition: the value lies in memory as said, and is small. -/
section
namespace Go.Proofs.YtdifefgigcjgeaaDoor.Ex
open Go.RowKit

theorem left_step (q a b : Nat) : (left q a < 0 → left q (a + b) = -1) ∧ (0 ≤ left q a → left q (a + b) = left (left q a).toNat b) := by
  by_cases h : a ≤ q
  · rw [left_yes h]
    refine ⟨fun h => by omega, fun _ => ?_⟩
    rw [Int.toNat_natCast]
    unfold left
    split <;> split <;> omega
  · rw [left_no h]
    exact ⟨fun _ => left_no (by omega), fun h => by omega⟩

set_option maxHeartbeats 1000000 in
set_option maxRecDepth 100000 in
theorem spec_left : ∀ F : Trees, F.count ≤ 1048576 → ∀ (L : Nat), L ≤ 1048576 → ∀ (w : World) (k n : Int) (t : ByteArray) (p : Option Addr) (cap : Nat), TreesAt w F p 0 →
    Calls Tryd.prog 61 #[.agg #[.int .i64 k, .int .i64 n, .string t, .slice p F.length cap], .int .i64 (L : Int)] w fun e w' => e = .returned (.int .i64 (left L (1 + F.count))) ∧ Below w.heap.size w w' := by
  refine Trees.ind fun F hall hc L hL w k n t p cap hx => ?_
  have hlc := F.length_le_count
  have HALL := Lib.hid hall
  clear hall
  generalize hn : F.length = nn at *
  have HN := Lib.hid hn
  have hB0 : Below w.heap.size w (w.alloc (.cells #[.int .i64 k, .int .i64 n, .string t, .slice p nn cap] 40)) := (Below.refl _ _).alloc (Nat.le_refl _) _
  have HX := Lib.hid (hx.below hB0)
  have hc3 := (four_cells (heap_at_new w (.cells #[.int .i64 k, .int .i64 n, .string t, .slice p nn cap] 40))).2.2.2.1
  have HB0 := Lib.hid hB0
  have hz : ((L : Int) - 1 < 0 → left L (1 + F.count) = -1) ∧ (0 ≤ (L : Int) - 1 → left L (1 + F.count) = left ((L : Int) - 1).toNat F.count) := by
    refine ⟨fun h => left_no (by omega), fun h => ?_⟩
    unfold left
    split <;> split <;> omega
  have HZ := Lib.hid hz
  have hMb : -1 ≤ (L : Int) - 1 ∧ (L : Int) - 1 ≤ 1048576 := by omega
  generalize left L (1 + F.count) = z at *
  generalize hM : (L : Int) - 1 = M at *
  have HM := Lib.hid hM
  clear hM
  clear hn hz
  go_enter Tryd.func61, Tryd.ntmps61
  go_wp2
  generalize w.alloc (.cells #[.int .i64 k, .int .i64 n, .string t, .slice p nn cap] 40) = w0 at *
  have HC3 := Lib.hid hc3
  clear hB0 hx hc3
  go_loopw [1, 5] (fun l i wr => ∃ (j : Nat) (m : Int) (rest : Trees), i = .int .i64 j ∧ l = .int .i64 m ∧ (-1 ≤ m ∧ m ≤ 1048576) ∧ j + rest.length = nn ∧ Hid (rest.count ≤ 1048576) ∧ Hid ((m < 0 → z = -1) ∧ (0 ≤ m → z = left m.toNat rest.count)) ∧ Hid (TreesAt w0 rest p j) ∧ Hid (rest.All (fun G => G.count ≤ 1048576 → ∀ (L : Nat), L ≤ 1048576 → ∀ (w : World) (k n : Int) (t : ByteArray) (p : Option Addr) (cap : Nat), TreesAt w G p 0 →
    Calls Tryd.prog 61 #[.agg #[.int .i64 k, .int .i64 n, .string t, .slice p G.length cap], .int .i64 (L : Int)] w fun e w' => e = .returned (.int .i64 (left L (1 + G.count))) ∧ Below w.heap.size w w')) ∧ Hid (Below w0.heap.size w0 wr)) (fun _ i _ => nn - (intOf i).toNat)
  case atStart => exact ⟨0, M, F, rfl, by rw [HM.out], hMb, by rw [HN.out]; omega, hc, HZ, HX, HALL, Below.refl _ _⟩
  case round =>
    obtain ⟨j, m, rest, rfl, rfl, hm, hjn, hcr, hz, hxr, hall, hB⟩ := hrel
    have hb3 := cell_below HC3.out hB.out
    cases rest with
    | cons kd nu tx ar r =>
      have hjl : j < nn := by simp only [Trees.length] at hjn; omega
      have hjn2 : j + 1 + r.length = nn := by simp only [Trees.length] at hjn; omega
      by_cases hneg : m < 0
      · have HE : Hid (z = -1) := hz.out.1 hneg
        obtain rfl : m = -1 := by omega
        clear hz hxr hall hneg hm
        go_wp2
        go_ret
        exact ⟨by rw [HE.out]; rfl, HB0.out.trans (hB.out.mono HB0.out.size)⟩
      · obtain ⟨q, rfl⟩ : ∃ q : Nat, m = q := ⟨m.toNat, by omega⟩
        have hq : q ≤ 1048576 := by omega
        have hcr2 := hcr.out
        simp only [Trees.count] at hcr2
        have hz2 := hz.out.2 (by omega)
        rw [Int.toNat_natCast] at hz2
        obtain ⟨y, q2, cq, rfl, h1, h2, h3, h4, hs, hr⟩ := (hxr.out.below hB.out).open
        have hxr2 : Hid (TreesAt w0 r (some y) (j + 1)) := hxr.out.2
        have H := hall.out.1 (by omega) q hq wr kd nu tx q2 cq hs
        have HA2 := Lib.hid hall.out.2
        have HZ2 : Hid ((left q (1 + ar.count) < 0 → z = -1) ∧ (0 ≤ left q (1 + ar.count) → z = left (left q (1 + ar.count)).toNat r.count)) := by
          unfold Hid
          rw [hz2]
          exact left_step q (1 + ar.count) r.count
        have hlr : -1 ≤ left q (1 + ar.count) ∧ left q (1 + ar.count) ≤ 1048576 := by unfold left; split <;> omega
        have HCR : Hid (r.count ≤ 1048576) := by unfold Hid; omega
        generalize left q (1 + ar.count) = d at *
        clear hxr hall hs hr hjn hz hz2 hm hneg hcr hcr2
        go_wp2_with fail
        refine H.mono ?_
        rintro e w1 ⟨rfl, hb1⟩
        have HB1 : Hid (Below w0.heap.size w0 w1) := hB.out.trans (hb1.mono hB.out.size)
        clear hb1 H
        go_wp2
        go_roundw
        case rel => exact ⟨j + 1, d, r, by go_num, rfl, hlr, hjn2, HCR, HZ2, hxr2, HA2, HB1⟩
        case measure => simp [intOf]; omega
    | nil =>
      obtain rfl : j = nn := by simp only [Trees.length] at hjn; omega
      have HE : Hid (z = m) := by
        unfold Hid
        by_cases h : m < 0
        · rw [hz.out.1 h]; omega
        · rw [hz.out.2 (by omega)]
          rw [show (Trees.nil).count = 0 from rfl, left_yes (Nat.zero_le _)]
          omega
      clear hxr hall hz
      go_wp2
      go_ret
      exact ⟨by rw [HE.out]; rfl, HB0.out.trans (hB.out.mono HB0.out.size)⟩
end Go.Proofs.YtdifefgigcjgeaaDoor.Ex
end

/- What is proved here: the model's DepthOfValue counts the depth of an expression. Condition: the value lies in memory as said, and is small. -/
section
namespace Go.Proofs.YtdifefgigcjgeaaDoor.Ex
open Go.RowKit

theorem spec_max (a b : Nat) (w : World) :
    Calls Tryd.prog 81 #[.int .i64 (a : Int), .int .i64 (b : Int)] w fun e w' => e = .returned (.int .i64 ((max a b : Nat) : Int)) ∧ w' = w := by
  by_cases h : b < a
  · rw [Nat.max_eq_left (by omega)]
    go_enter Tryd.func81, Tryd.ntmps81
    go_wp2
    go_ret
    exact ⟨rfl, rfl⟩
  · rw [Nat.max_eq_right (by omega)]
    go_enter Tryd.func81, Tryd.ntmps81
    go_wp2
    go_ret
    exact ⟨rfl, rfl⟩

set_option maxHeartbeats 1000000 in
set_option maxRecDepth 100000 in
theorem spec_depth : ∀ F : Trees, F.count ≤ 1048576 → ∀ (w : World) (k n : Int) (t : ByteArray) (p : Option Addr) (cap : Nat), TreesAt w F p 0 →
    Calls Tryd.prog 62 #[.agg #[.int .i64 k, .int .i64 n, .string t, .slice p F.length cap]] w fun e w' => e = .returned (.int .i64 ((F.deep + 1 : Nat) : Int)) ∧ Below w.heap.size w w' := by
  refine Trees.ind fun F hall hc w k n t p cap hx => ?_
  have hlc := F.length_le_count
  have hdc := F.deep_le_count
  have HALL := Lib.hid hall
  clear hall
  generalize hz : F.deep = z at *
  have HZ : Hid (F.deep = z) := hz
  have hzb : z ≤ 1048577 := by omega
  have HCC := Lib.hid hc
  generalize hn : F.length = nn at *
  have HN := Lib.hid hn
  clear hn hz hdc
  have hB0 : Below w.heap.size w (w.alloc (.cells #[.int .i64 k, .int .i64 n, .string t, .slice p nn cap] 40)) := (Below.refl _ _).alloc (Nat.le_refl _) _
  have HX := Lib.hid (hx.below hB0)
  have hc3 := (four_cells (heap_at_new w (.cells #[.int .i64 k, .int .i64 n, .string t, .slice p nn cap] 40))).2.2.2.1
  go_enter Tryd.func62, Tryd.ntmps62
  go_wp2
  generalize w.alloc (.cells #[.int .i64 k, .int .i64 n, .string t, .slice p nn cap] 40) = w0 at *
  have HB0 := Lib.hid hB0
  have HC3 := Lib.hid hc3
  clear hB0 hx hc3
  go_loopw [3, 4] (fun s i wr => ∃ (j c : Nat) (rest : Trees), i = .int .i64 j ∧ s = .int .i64 c ∧ c ≤ z ∧ j + rest.length = nn ∧ Hid (max c rest.deep = z) ∧ Hid (rest.count ≤ 1048576) ∧ Hid (TreesAt w0 rest p j) ∧ Hid (rest.All (fun G => G.count ≤ 1048576 → ∀ (w : World) (k n : Int) (t : ByteArray) (p : Option Addr) (cap : Nat), TreesAt w G p 0 →
    Calls Tryd.prog 62 #[.agg #[.int .i64 k, .int .i64 n, .string t, .slice p G.length cap]] w fun e w' => e = .returned (.int .i64 ((G.deep + 1 : Nat) : Int)) ∧ Below w.heap.size w w')) ∧ Hid (Below w0.heap.size w0 wr)) (fun _ i _ => nn - (intOf i).toNat)
  case atStart => exact ⟨0, 0, F, rfl, rfl, Nat.zero_le _, by rw [HN.out]; omega, by unfold Hid; rw [HZ.out]; omega, HCC, HX, HALL, Below.refl _ _⟩
  case round =>
    obtain ⟨j, c, rest, rfl, rfl, hcl, hjn, hcz, hcr, hxr, hall, hB⟩ := hrel
    have hb3 := cell_below HC3.out hB.out
    cases rest with
    | cons kd nu tx ar r =>
      have hjl : j < nn := by simp only [Trees.length] at hjn; omega
      have hjn2 : j + 1 + r.length = nn := by simp only [Trees.length] at hjn; omega
      have hcz2 := hcz.out
      have hcr2 := hcr.out
      simp only [Trees.deep] at hcz2
      simp only [Trees.count] at hcr2
      obtain ⟨y, q, cq, rfl, h1, h2, h3, h4, hs, hr⟩ := (hxr.out.below hB.out).open
      have hxr2 : Hid (TreesAt w0 r (some y) (j + 1)) := hxr.out.2
      have H := hall.out.1 (by omega) wr kd nu tx q cq hs
      have HA2 := Lib.hid hall.out.2
      have HCR : Hid (r.count ≤ 1048576) := by unfold Hid; omega
      generalize ar.deep + 1 = d at *
      have HCZ : Hid (max (max c d) r.deep = z) := by unfold Hid; omega
      have hcl2 : max c d ≤ z := by omega
      have HM := spec_max c d
      clear hxr hall hs hr hjn hcz hcr hcz2 hcr2
      generalize max c d = m at *
      go_wp2_with fail
      refine H.mono ?_
      rintro e w1 ⟨rfl, hb1⟩
      have HB1 : Hid (Below w0.heap.size w0 w1) := hB.out.trans (hb1.mono hB.out.size)
      clear hb1 H
      go_wp2_with fail
      refine (HM w1).mono ?_
      rintro e w2 ⟨rfl, rfl⟩
      clear HM
      go_wp2
      go_roundw
      case rel => exact ⟨j + 1, m, r, by go_num, rfl, hcl2, hjn2, HCZ, HCR, hxr2, HA2, HB1⟩
      case measure => simp [intOf]; omega
    | nil =>
      obtain rfl : j = nn := by simp only [Trees.length] at hjn; omega
      obtain rfl : c = z := by have := hcz.out; simp only [Trees.deep] at this; omega
      clear hxr hall
      go_wp2
      go_ret
      exact ⟨rfl, HB0.out.trans (hB.out.mono HB0.out.size)⟩
end Go.Proofs.YtdifefgigcjgeaaDoor.Ex
end

/- What is proved here: the model's IsValidExpr says whether an expression is valid. Condition: the pattern lies in memory as said, and is small. -/
section
namespace Go.Proofs.YtdifefgigcjgeaaDoor.Ex
open Go.RowKit

set_option maxHeartbeats 2000000 in
set_option maxRecDepth 100000 in
theorem spec_valid_expr (w : World) (k n : Int) (t : ByteArray) (F : Trees) (p : Option Addr) (c : Nat) (hfv : F.fits) (hfc : F.count ≤ 1048576) (ht : t.size ≤ maxLen) (hx : TreesAt w F p 0) :
    Calls Tryd.prog 34 #[.agg #[.int .i64 k, .int .i64 n, .string t, .slice p F.length c]] w fun e w' => e = .returned (.bool (validExpr k n t F)) ∧ Below w.heap.size w w' := by
  have hB0 : Below w.heap.size w (w.alloc (.cells #[.int .i64 k, .int .i64 n, .string t, .slice p F.length c] 40)) := (Below.refl _ _).alloc (Nat.le_refl _) _
  obtain ⟨c0, c1, c2, c3, _⟩ := four_cells (heap_at_new w (.cells #[.int .i64 k, .int .i64 n, .string t, .slice p F.length c] 40))
  have HX := Lib.hid (hx.below hB0)
  obtain ⟨w0, hw0⟩ : ∃ w0, w0 = w.alloc (.cells #[.int .i64 k, .int .i64 n, .string t, .slice p F.length c] 40) := ⟨_, rfl⟩
  rw [← hw0] at HX hB0 c0 c1 c2 c3
  have HW0 := Lib.hid hw0
  have HB0 := Lib.hid hB0
  have HL := Lib.hid (fun w' (hb : Below w0.heap.size w0 w') => Ex.spec_left F hfc 12 (by omega) w' k n t p c (HX.out.below hb))
  have HD := Lib.hid (fun w' (hb : Below w0.heap.size w0 w') => Ex.spec_depth F hfc w' k n t p c (HX.out.below hb))
  have HH := Lib.hid (fun w' (hb : Below w0.heap.size w0 w') => spec_all F hfv hfc w' k n t p c ht (HX.out.below hb))
  have HV : Hid (validExpr k n t F = (decide (1 + F.count ≤ 12) && (decide (F.deep + 1 ≤ 6) && (F.formedE && exprForm k n t F.length)))) := by
    unfold Hid validExpr
    rw [Bool.decide_and, Bool.and_assoc, Bool.and_comm F.formedE]
  have hdb := F.deep_le_count
  generalize (F.formedE && exprForm k n t F.length) = bh at *
  generalize validExpr k n t F = z at *
  clear hw0 hB0 hx hfv ht
  by_cases hL : 1 + F.count ≤ 12
  · rw [left_yes hL] at HL
    have hlz : 12 - (1 + F.count) ≤ 12 := by omega
    rw [decide_eq_true hL] at HV
    generalize 12 - (1 + F.count) = q at *
    by_cases hD : F.deep + 1 ≤ 6
    · rw [decide_eq_true hD] at HV
      generalize F.deep + 1 = dp at *
      have hdz : (dp : Int) ≤ 6 := by omega
      have HE : Hid (z = bh) := HV.out
      clear hL hD hfc hdb HV
      go_enter Tryd.func34, Tryd.ntmps34
      go_wp2_with fail
      rw [← HW0.out]
      refine (HL.out w0 (Below.refl _ _)).mono ?_
      rintro e w1 ⟨rfl, hb1⟩
      have HB1 := Lib.hid hb1
      have c0 := cell_below c0 hb1
      have c1 := cell_below c1 hb1
      have c2 := cell_below c2 hb1
      have c3 := cell_below c3 hb1
      clear hb1
      go_wp2_with fail
      refine (HD.out w1 HB1.out).mono ?_
      rintro e w2 ⟨rfl, hb2⟩
      have HB2 : Hid (Below w0.heap.size w0 w2) := HB1.out.trans (hb2.mono HB1.out.size)
      have c0 := cell_below c0 hb2
      have c1 := cell_below c1 hb2
      have c2 := cell_below c2 hb2
      have c3 := cell_below c3 hb2
      clear hb2
      go_wp2_with fail
      refine (HH.out w2 HB2.out).mono ?_
      rintro e w4 ⟨rfl, hb4⟩
      have HB4 : Hid (Below w0.heap.size w0 w4) := HB2.out.trans (hb4.mono HB2.out.size)
      clear hb4
      go_wp2
      go_ret
      exact ⟨by rw [HE.out]; rfl, HB0.out.trans (HB4.out.mono HB0.out.size)⟩
    · have HE : Hid (z = false) := by unfold Hid; rw [HV.out, decide_eq_false hD]; rfl
      have hdz : ¬ ((F.deep + 1 : Nat) : Int) ≤ 6 := by omega
      have hdm : F.deep + 1 ≤ 1048577 := by omega
      generalize F.deep + 1 = dp at *
      clear hL hD hfc hdb HV HH
      go_enter Tryd.func34, Tryd.ntmps34
      go_wp2_with fail
      rw [← HW0.out]
      refine (HL.out w0 (Below.refl _ _)).mono ?_
      rintro e w1 ⟨rfl, hb1⟩
      have HB1 := Lib.hid hb1
      have c0 := cell_below c0 hb1
      have c1 := cell_below c1 hb1
      have c2 := cell_below c2 hb1
      have c3 := cell_below c3 hb1
      clear hb1
      go_wp2_with fail
      refine (HD.out w1 HB1.out).mono ?_
      rintro e w2 ⟨rfl, hb2⟩
      have HB2 : Hid (Below w0.heap.size w0 w2) := HB1.out.trans (hb2.mono HB1.out.size)
      clear hb2
      go_wp2
      go_ret
      exact ⟨by rw [HE.out]; rfl, HB0.out.trans (HB2.out.mono HB0.out.size)⟩
  · rw [left_no (by omega)] at HL
    have HE : Hid (z = false) := by unfold Hid; rw [HV.out, decide_eq_false hL]; rfl
    clear hL hfc hdb HV HH HD
    go_enter Tryd.func34, Tryd.ntmps34
    go_wp2_with fail
    rw [← HW0.out]
    refine (HL.out w0 (Below.refl _ _)).mono ?_
    rintro e w1 ⟨rfl, hb1⟩
    have HB1 := Lib.hid hb1
    clear hb1
    go_wp2
    go_ret
    exact ⟨by rw [HE.out]; rfl, HB0.out.trans (HB1.out.mono HB0.out.size)⟩
end Go.Proofs.YtdifefgigcjgeaaDoor.Ex
end

/- What is proved here: the model's FormatExpr returns the representation of a valid pattern, and none of others. Condition: the pattern lies in memory as said, and is small. -/
section
namespace Go.Proofs.YtdifefgigcjgeaaDoor.Ex
open Go.RowKit

set_option maxHeartbeats 1000000 in
set_option maxRecDepth 100000 in
theorem spec_format_expr (w : World) (k n : Int) (t : ByteArray) (F : Trees) (p : Option Addr) (c : Nat) (hfv : F.fits) (hfc : F.count ≤ 1048576) (ht : t.size ≤ maxLen) (hx : TreesAt w F p 0) :
    Calls Tryd.prog 13 #[.agg #[.int .i64 k, .int .i64 n, .string t, .slice p F.length c]] w fun e w' => e = .returned (.string (exprFmt k n t F)) ∧ Below w.heap.size w w' := by
  have hB0 : Below w.heap.size w (w.alloc (.cells #[.int .i64 k, .int .i64 n, .string t, .slice p F.length c] 40)) := (Below.refl _ _).alloc (Nat.le_refl _) _
  obtain ⟨c0, c1, c2, c3, _⟩ := four_cells (heap_at_new w (.cells #[.int .i64 k, .int .i64 n, .string t, .slice p F.length c] 40))
  have HX := Lib.hid (hx.below hB0)
  obtain ⟨w0, hw0⟩ : ∃ w0, w0 = w.alloc (.cells #[.int .i64 k, .int .i64 n, .string t, .slice p F.length c] 40) := ⟨_, rfl⟩
  rw [← hw0] at HX hB0 c0 c1 c2 c3
  have HW0 := Lib.hid hw0
  have HB0 := Lib.hid hB0
  have HV := Lib.hid (spec_valid_expr w0 k n t F p c hfv hfc ht HX.out)
  have HP : Hid (validExpr k n t F = true → F.formedE = true ∧ exprForm k n t F.length = true) := fun h => by
    unfold validExpr at h
    simp only [Bool.and_eq_true] at h
    exact ⟨h.2.2, h.2.1⟩
  unfold exprFmt
  cases hv : validExpr k n t F with
  | false =>
    rw [hv] at HV
    rw [if_neg (by simp)]
    clear hw0 hB0 hx hfv hfc ht hv
    go_enter Tryd.func13, Tryd.ntmps13
    go_wp2_with fail
    rw [← HW0.out]
    refine HV.out.mono ?_
    rintro e w1 ⟨rfl, hb1⟩
    have HB1 := Lib.hid hb1
    clear hb1
    go_wp2
    go_ret
    exact ⟨rfl, HB0.out.trans (HB1.out.mono HB0.out.size)⟩
  | true =>
    obtain ⟨h1, h2⟩ := HP.out hv
    rw [hv] at HV
    rw [if_pos rfl]
    have HT := Lib.hid (fun W (hb : Below w0.heap.size w0 W) => spec_expr_text F h1 hfc W k n t p c h2 (HX.out.below hb))
    generalize str (nodeE k n t F.textsE) = u at *
    clear hw0 hB0 hx hfv hfc ht hv h1 h2 HP
    go_enter Tryd.func13, Tryd.ntmps13
    go_wp2_with fail
    rw [← HW0.out]
    refine HV.out.mono ?_
    rintro e w1 ⟨rfl, hb1⟩
    have HB1 := Lib.hid hb1
    have c0 := cell_below c0 hb1
    have c1 := cell_below c1 hb1
    have c2 := cell_below c2 hb1
    have c3 := cell_below c3 hb1
    clear hb1
    go_wp2_with fail
    refine (HT.out w1 HB1.out).mono ?_
    rintro e w2 ⟨rfl, hb2⟩
    have HB2 : Hid (Below w0.heap.size w0 w2) := HB1.out.trans (hb2.mono HB1.out.size)
    clear hb2
    go_wp2
    go_ret
    exact ⟨rfl, HB0.out.trans (HB2.out.mono HB0.out.size)⟩
end Go.Proofs.YtdifefgigcjgeaaDoor.Ex
end
