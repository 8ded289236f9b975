/- What is proved here: the model's CountValue counts the nodes of a value. Condition: the value lies in memory as said, and is small. -/
import Derived.Test.YtdilegbigaahnaaTrees
import Derived.Test.YtdilegbigaahnaaTreeCells
import Derived.Deep.RegionHeld3
namespace Go.Proofs.Ytdilegbigaahnaa
open Go.RowKit

set_option maxHeartbeats 1000000 in
set_option maxRecDepth 100000 in
theorem spec_count : ∀ F : Trees, F.count ≤ 1048576 → ∀ (w : World) (k n : Int) (t : ByteArray) (p : Option Addr) (cap : Nat), TreesAt w F p 0 →
    Calls Try.prog 11 #[.agg #[.int .i64 k, .int .i64 n, .string t, .slice p F.length cap]] w fun e w' => e = .returned (.int .i64 ((1 + F.count : Nat) : Int)) ∧ Below w.heap.size w w' := by
  refine Trees.ind fun F hall hc w k n t p cap hx => ?_
  have hlc := F.length_le_count
  have HALL := Lib.hid hall
  clear hall
  generalize hz : 1 + F.count = z
  have HZ : Hid (z = 1 + F.count) := hz.symm
  have hzb : z ≤ 1048577 := by omega
  generalize hn : F.length = nn at *
  have HN := Lib.hid hn
  clear hn hz
  have hB0 : Below w.heap.size w (w.alloc (.cells #[.int .i64 k, .int .i64 n, .string t, .slice p nn cap] 29)) := (Below.refl _ _).alloc (Nat.le_refl _) _
  have HX := Lib.hid (hx.below hB0)
  have hc3 := (four_cells (heap_at_new w (.cells #[.int .i64 k, .int .i64 n, .string t, .slice p nn cap] 29))).2.2.2.1
  go_enter Try.func11, Try.ntmps11
  go_wp2
  generalize w.alloc (.cells #[.int .i64 k, .int .i64 n, .string t, .slice p nn cap] 29) = w0 at *
  have HB0 := Lib.hid hB0
  have HC3 := Lib.hid hc3
  clear hB0 hx hc3
  go_loopw [3, 4] (fun s i wr => ∃ (j c : Nat) (rest : Trees), i = .int .i64 j ∧ s = .int .i64 c ∧ j + rest.length = nn ∧ c + rest.count = z ∧ Hid (TreesAt w0 rest p j) ∧ Hid (rest.All (fun G => G.count ≤ 1048576 → ∀ (w : World) (k n : Int) (t : ByteArray) (p : Option Addr) (cap : Nat), TreesAt w G p 0 →
    Calls Try.prog 11 #[.agg #[.int .i64 k, .int .i64 n, .string t, .slice p G.length cap]] w fun e w' => e = .returned (.int .i64 ((1 + G.count : Nat) : Int)) ∧ Below w.heap.size w w')) ∧ Hid (Below w0.heap.size w0 wr)) (fun _ i _ => nn - (intOf i).toNat)
  case atStart => exact ⟨0, 1, F, rfl, rfl, by rw [HN.out]; omega, HZ.out.symm, HX, HALL, Below.refl _ _⟩
  case round =>
    obtain ⟨j, c, rest, rfl, rfl, hjn, hcz, hxr, hall, hB⟩ := hrel
    have hb3 := cell_below HC3.out hB.out
    cases rest with
    | cons kd nu tx ar r =>
      have hjl : j < nn := by simp only [Trees.length] at hjn; omega
      have hjn2 : j + 1 + r.length = nn := by simp only [Trees.length] at hjn; omega
      have hcz2 : c + (1 + ar.count) + r.count = z := by simp only [Trees.count] at hcz; omega
      obtain ⟨y, q, cq, rfl, h1, h2, h3, h4, hs, hr⟩ := (hxr.out.below hB.out).open
      have hxr2 : Hid (TreesAt w0 r (some y) (j + 1)) := hxr.out.2
      have H := hall.out.1 (by omega) wr kd nu tx q cq hs
      have HA2 := Lib.hid hall.out.2
      generalize 1 + ar.count = d at *
      clear hxr hall hs hr hjn hcz
      go_wp2_with fail
      refine H.mono ?_
      rintro e w1 ⟨rfl, hb1⟩
      have HB1 : Hid (Below w0.heap.size w0 w1) := hB.out.trans (hb1.mono hB.out.size)
      clear hb1 H
      go_wp2
      go_roundw
      case rel => exact ⟨j + 1, c + d, r, by go_num, by go_num, hjn2, hcz2, hxr2, HA2, HB1⟩
      case measure => simp [intOf]; omega
    | nil =>
      obtain rfl : j = nn := by simp only [Trees.length] at hjn; omega
      obtain rfl : c = z := by simp only [Trees.count] at hcz; omega
      clear hxr hall
      go_wp2
      go_ret
      exact ⟨rfl, HB0.out.trans (hB.out.mono HB0.out.size)⟩
end Go.Proofs.Ytdilegbigaahnaa
