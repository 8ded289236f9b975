/- What is proved here: the model's l4Left counts a value's nodes down. Condition: the value lies in memory as said, and is small. -/
import Derived.Test.YtdifefgigcjgeaaTrees
import Derived.Test.YtdifefgigcjgeaaTreeCells
import Derived.Test.YtdifefgigcjgeaaExTreeSize
namespace Go.Proofs.Ytdifefgigcjgeaa.Ex
open Go.RowKit

theorem left_step (q a b : Nat) : (left q a < 0 → left q (a + b) = -1) ∧ (0 ≤ left q a → left q (a + b) = left (left q a).toNat b) := by
  by_cases h : a ≤ q
  · rw [left_yes h]
    refine ⟨fun h => by omega, fun _ => ?_⟩
    rw [Int.toNat_natCast]
    unfold left
    split <;> split <;> omega
  · rw [left_no h]
    exact ⟨fun _ => left_no (by omega), fun h => by omega⟩

set_option maxHeartbeats 1000000 in
set_option maxRecDepth 100000 in
theorem spec_left : ∀ F : Trees, F.count ≤ 1048576 → ∀ (L : Nat), L ≤ 1048576 → ∀ (w : World) (k n : Int) (t : ByteArray) (p : Option Addr) (cap : Nat), TreesAt w F p 0 →
    Calls Try.prog 41 #[.agg #[.int .i64 k, .int .i64 n, .string t, .slice p F.length cap], .int .i64 (L : Int)] w fun e w' => e = .returned (.int .i64 (left L (1 + F.count))) ∧ Below w.heap.size w w' := by
  refine Trees.ind fun F hall hc L hL w k n t p cap hx => ?_
  have hlc := F.length_le_count
  have HALL := Lib.hid hall
  clear hall
  generalize hn : F.length = nn at *
  have HN := Lib.hid hn
  have hB0 : Below w.heap.size w (w.alloc (.cells #[.int .i64 k, .int .i64 n, .string t, .slice p nn cap] 40)) := (Below.refl _ _).alloc (Nat.le_refl _) _
  have HX := Lib.hid (hx.below hB0)
  have hc3 := (four_cells (heap_at_new w (.cells #[.int .i64 k, .int .i64 n, .string t, .slice p nn cap] 40))).2.2.2.1
  have HB0 := Lib.hid hB0
  have hz : ((L : Int) - 1 < 0 → left L (1 + F.count) = -1) ∧ (0 ≤ (L : Int) - 1 → left L (1 + F.count) = left ((L : Int) - 1).toNat F.count) := by
    refine ⟨fun h => left_no (by omega), fun h => ?_⟩
    unfold left
    split <;> split <;> omega
  have HZ := Lib.hid hz
  have hMb : -1 ≤ (L : Int) - 1 ∧ (L : Int) - 1 ≤ 1048576 := by omega
  generalize left L (1 + F.count) = z at *
  generalize hM : (L : Int) - 1 = M at *
  have HM := Lib.hid hM
  clear hM
  clear hn hz
  go_enter Try.func41, Try.ntmps41
  go_wp2
  generalize w.alloc (.cells #[.int .i64 k, .int .i64 n, .string t, .slice p nn cap] 40) = w0 at *
  have HC3 := Lib.hid hc3
  clear hB0 hx hc3
  go_loopw [1, 5] (fun l i wr => ∃ (j : Nat) (m : Int) (rest : Trees), i = .int .i64 j ∧ l = .int .i64 m ∧ (-1 ≤ m ∧ m ≤ 1048576) ∧ j + rest.length = nn ∧ Hid (rest.count ≤ 1048576) ∧ Hid ((m < 0 → z = -1) ∧ (0 ≤ m → z = left m.toNat rest.count)) ∧ Hid (TreesAt w0 rest p j) ∧ Hid (rest.All (fun G => G.count ≤ 1048576 → ∀ (L : Nat), L ≤ 1048576 → ∀ (w : World) (k n : Int) (t : ByteArray) (p : Option Addr) (cap : Nat), TreesAt w G p 0 →
    Calls Try.prog 41 #[.agg #[.int .i64 k, .int .i64 n, .string t, .slice p G.length cap], .int .i64 (L : Int)] w fun e w' => e = .returned (.int .i64 (left L (1 + G.count))) ∧ Below w.heap.size w w')) ∧ Hid (Below w0.heap.size w0 wr)) (fun _ i _ => nn - (intOf i).toNat)
  case atStart => exact ⟨0, M, F, rfl, by rw [HM.out], hMb, by rw [HN.out]; omega, hc, HZ, HX, HALL, Below.refl _ _⟩
  case round =>
    obtain ⟨j, m, rest, rfl, rfl, hm, hjn, hcr, hz, hxr, hall, hB⟩ := hrel
    have hb3 := cell_below HC3.out hB.out
    cases rest with
    | cons kd nu tx ar r =>
      have hjl : j < nn := by simp only [Trees.length] at hjn; omega
      have hjn2 : j + 1 + r.length = nn := by simp only [Trees.length] at hjn; omega
      by_cases hneg : m < 0
      · have HE : Hid (z = -1) := hz.out.1 hneg
        obtain rfl : m = -1 := by omega
        clear hz hxr hall hneg hm
        go_wp2
        go_ret
        exact ⟨by rw [HE.out]; rfl, HB0.out.trans (hB.out.mono HB0.out.size)⟩
      · obtain ⟨q, rfl⟩ : ∃ q : Nat, m = q := ⟨m.toNat, by omega⟩
        have hq : q ≤ 1048576 := by omega
        have hcr2 := hcr.out
        simp only [Trees.count] at hcr2
        have hz2 := hz.out.2 (by omega)
        rw [Int.toNat_natCast] at hz2
        obtain ⟨y, q2, cq, rfl, h1, h2, h3, h4, hs, hr⟩ := (hxr.out.below hB.out).open
        have hxr2 : Hid (TreesAt w0 r (some y) (j + 1)) := hxr.out.2
        have H := hall.out.1 (by omega) q hq wr kd nu tx q2 cq hs
        have HA2 := Lib.hid hall.out.2
        have HZ2 : Hid ((left q (1 + ar.count) < 0 → z = -1) ∧ (0 ≤ left q (1 + ar.count) → z = left (left q (1 + ar.count)).toNat r.count)) := by
          unfold Hid
          rw [hz2]
          exact left_step q (1 + ar.count) r.count
        have hlr : -1 ≤ left q (1 + ar.count) ∧ left q (1 + ar.count) ≤ 1048576 := by unfold left; split <;> omega
        have HCR : Hid (r.count ≤ 1048576) := by unfold Hid; omega
        generalize left q (1 + ar.count) = d at *
        clear hxr hall hs hr hjn hz hz2 hm hneg hcr hcr2
        go_wp2_with fail
        refine H.mono ?_
        rintro e w1 ⟨rfl, hb1⟩
        have HB1 : Hid (Below w0.heap.size w0 w1) := hB.out.trans (hb1.mono hB.out.size)
        clear hb1 H
        go_wp2
        go_roundw
        case rel => exact ⟨j + 1, d, r, by go_num, rfl, hlr, hjn2, HCR, HZ2, hxr2, HA2, HB1⟩
        case measure => simp [intOf]; omega
    | nil =>
      obtain rfl : j = nn := by simp only [Trees.length] at hjn; omega
      have HE : Hid (z = m) := by
        unfold Hid
        by_cases h : m < 0
        · rw [hz.out.1 h]; omega
        · rw [hz.out.2 (by omega)]
          rw [show (Trees.nil).count = 0 from rfl, left_yes (Nat.zero_le _)]
          omega
      clear hxr hall hz
      go_wp2
      go_ret
      exact ⟨by rw [HE.out]; rfl, HB0.out.trans (hB.out.mono HB0.out.size)⟩
end Go.Proofs.Ytdifefgigcjgeaa.Ex
