/- What is proved here: the model's DepthOfValue counts the depth of an expression. Condition: the value lies in memory as said, and is small. -/
import Derived.Test.YtdifefgigcjgeaaTrees
import Derived.Test.YtdifefgigcjgeaaTreeCells
import Derived.Deep.RegionHeld3
namespace Go.Proofs.Ytdifefgigcjgeaa.Ex
open Go.RowKit

theorem spec_max (a b : Nat) (w : World) :
    Calls Try.prog 62 #[.int .i64 (a : Int), .int .i64 (b : Int)] w fun e w' => e = .returned (.int .i64 ((max a b : Nat) : Int)) ∧ w' = w := by
  by_cases h : b < a
  · rw [Nat.max_eq_left (by omega)]
    go_enter Try.func62, Try.ntmps62
    go_wp2
    go_ret
    exact ⟨rfl, rfl⟩
  · rw [Nat.max_eq_right (by omega)]
    go_enter Try.func62, Try.ntmps62
    go_wp2
    go_ret
    exact ⟨rfl, rfl⟩

set_option maxHeartbeats 1000000 in
set_option maxRecDepth 100000 in
theorem spec_depth : ∀ F : Trees, F.count ≤ 1048576 → ∀ (w : World) (k n : Int) (t : ByteArray) (p : Option Addr) (cap : Nat), TreesAt w F p 0 →
    Calls Try.prog 42 #[.agg #[.int .i64 k, .int .i64 n, .string t, .slice p F.length cap]] w fun e w' => e = .returned (.int .i64 ((F.deep + 1 : Nat) : Int)) ∧ Below w.heap.size w w' := by
  refine Trees.ind fun F hall hc w k n t p cap hx => ?_
  have hlc := F.length_le_count
  have hdc := F.deep_le_count
  have HALL := Lib.hid hall
  clear hall
  generalize hz : F.deep = z at *
  have HZ : Hid (F.deep = z) := hz
  have hzb : z ≤ 1048577 := by omega
  have HCC := Lib.hid hc
  generalize hn : F.length = nn at *
  have HN := Lib.hid hn
  clear hn hz hdc
  have hB0 : Below w.heap.size w (w.alloc (.cells #[.int .i64 k, .int .i64 n, .string t, .slice p nn cap] 40)) := (Below.refl _ _).alloc (Nat.le_refl _) _
  have HX := Lib.hid (hx.below hB0)
  have hc3 := (four_cells (heap_at_new w (.cells #[.int .i64 k, .int .i64 n, .string t, .slice p nn cap] 40))).2.2.2.1
  go_enter Try.func42, Try.ntmps42
  go_wp2
  generalize w.alloc (.cells #[.int .i64 k, .int .i64 n, .string t, .slice p nn cap] 40) = w0 at *
  have HB0 := Lib.hid hB0
  have HC3 := Lib.hid hc3
  clear hB0 hx hc3
  go_loopw [3, 4] (fun s i wr => ∃ (j c : Nat) (rest : Trees), i = .int .i64 j ∧ s = .int .i64 c ∧ c ≤ z ∧ j + rest.length = nn ∧ Hid (max c rest.deep = z) ∧ Hid (rest.count ≤ 1048576) ∧ Hid (TreesAt w0 rest p j) ∧ Hid (rest.All (fun G => G.count ≤ 1048576 → ∀ (w : World) (k n : Int) (t : ByteArray) (p : Option Addr) (cap : Nat), TreesAt w G p 0 →
    Calls Try.prog 42 #[.agg #[.int .i64 k, .int .i64 n, .string t, .slice p G.length cap]] w fun e w' => e = .returned (.int .i64 ((G.deep + 1 : Nat) : Int)) ∧ Below w.heap.size w w')) ∧ Hid (Below w0.heap.size w0 wr)) (fun _ i _ => nn - (intOf i).toNat)
  case atStart => exact ⟨0, 0, F, rfl, rfl, Nat.zero_le _, by rw [HN.out]; omega, by unfold Hid; rw [HZ.out]; omega, HCC, HX, HALL, Below.refl _ _⟩
  case round =>
    obtain ⟨j, c, rest, rfl, rfl, hcl, hjn, hcz, hcr, hxr, hall, hB⟩ := hrel
    have hb3 := cell_below HC3.out hB.out
    cases rest with
    | cons kd nu tx ar r =>
      have hjl : j < nn := by simp only [Trees.length] at hjn; omega
      have hjn2 : j + 1 + r.length = nn := by simp only [Trees.length] at hjn; omega
      have hcz2 := hcz.out
      have hcr2 := hcr.out
      simp only [Trees.deep] at hcz2
      simp only [Trees.count] at hcr2
      obtain ⟨y, q, cq, rfl, h1, h2, h3, h4, hs, hr⟩ := (hxr.out.below hB.out).open
      have hxr2 : Hid (TreesAt w0 r (some y) (j + 1)) := hxr.out.2
      have H := hall.out.1 (by omega) wr kd nu tx q cq hs
      have HA2 := Lib.hid hall.out.2
      have HCR : Hid (r.count ≤ 1048576) := by unfold Hid; omega
      generalize ar.deep + 1 = d at *
      have HCZ : Hid (max (max c d) r.deep = z) := by unfold Hid; omega
      have hcl2 : max c d ≤ z := by omega
      have HM := spec_max c d
      clear hxr hall hs hr hjn hcz hcr hcz2 hcr2
      generalize max c d = m at *
      go_wp2_with fail
      refine H.mono ?_
      rintro e w1 ⟨rfl, hb1⟩
      have HB1 : Hid (Below w0.heap.size w0 w1) := hB.out.trans (hb1.mono hB.out.size)
      clear hb1 H
      go_wp2_with fail
      refine (HM w1).mono ?_
      rintro e w2 ⟨rfl, rfl⟩
      clear HM
      go_wp2
      go_roundw
      case rel => exact ⟨j + 1, m, r, by go_num, rfl, hcl2, hjn2, HCZ, HCR, hxr2, HA2, HB1⟩
      case measure => simp [intOf]; omega
    | nil =>
      obtain rfl : j = nn := by simp only [Trees.length] at hjn; omega
      obtain rfl : c = z := by have := hcz.out; simp only [Trees.deep] at this; omega
      clear hxr hall
      go_wp2
      go_ret
      exact ⟨rfl, HB0.out.trans (hB.out.mono HB0.out.size)⟩
end Go.Proofs.Ytdifefgigcjgeaa.Ex
