/- What is proved here: the laws' look whether the marks of a value still stand (heldValue). Condition: small numbers; the value lies in memory as it was marked. -/
import Derived.Test.YtcalgjggmgnofaaDoorTrees
import Derived.Test.YtcalgjggmgnofaaDoorTreeCells
import Derived.Test.YtcalgjggmgnofaaDoorMarkText
import Derived.Deep.RegionHeld3
namespace Go.Proofs.YtcalgjggmgnofaaDoor
open Go.RowKit

/-- A row that is marked from k on: three marks a node. -/
def Trees.marked : Trees → Nat → Trees
  | .nil, _ => .nil
  | .cons _ _ _ ar r, k => .cons (k : Int) ((k + 1 : Nat) : Int) (mt (k + 2)) (ar.marked (k + 3)) (r.marked (k + 3 + 3 * ar.count))
theorem Trees.marked_length (F : Trees) : ∀ k, (F.marked k).length = F.length := by
  induction F with
  | nil => intro _; rfl
  | cons _ _ _ ar r _ ih => intro k; simp [Trees.marked, Trees.length, ih]

set_option maxHeartbeats 1000000 in
set_option maxRecDepth 100000 in
theorem heldValueS_any : ∀ F : Trees, F.count ≤ 1048576 → ∀ (k : Nat), 1 ≤ k → k + 3 * F.count ≤ 16777216 → ∀ (w : World) (p : Option Addr) (cap : Nat), TreesAt w (F.marked k) p 0 →
    Calls Tryd.prog 56 #[.slice p F.length cap, .int .i64 (k : Int)] w fun e w' => e = .returned (.int .i64 ((k + 3 * F.count : Nat) : Int)) ∧ Below w.heap.size w w' := by
  refine Trees.ind fun F hall hc k hk hkc w p cap hx => ?_
  have hlc := F.length_le_count
  have HALL := Lib.hid hall
  have HX := Lib.hid hx
  clear hall hx
  generalize hz : k + 3 * F.count = z at *
  have HZ := Lib.hid hz
  generalize hn : F.length = nn at *
  have HN := Lib.hid hn
  clear hn hz
  go_enter Tryd.func56, Tryd.ntmps56
  go_wp2
  go_loopw [1, 5] (fun q i wr => ∃ (j m : Nat) (rest : Trees), i = .int .i64 j ∧ q = .int .i64 m ∧ j + rest.length = nn ∧ m + 3 * rest.count = z ∧ 1 ≤ m ∧ Hid (rest.count ≤ 1048576) ∧ Hid (TreesAt w (rest.marked m) p j) ∧ Hid (rest.All (fun G => G.count ≤ 1048576 → ∀ (k : Nat), 1 ≤ k → k + 3 * G.count ≤ 16777216 → ∀ (w : World) (p : Option Addr) (cap : Nat), TreesAt w (G.marked k) p 0 →
    Calls Tryd.prog 56 #[.slice p G.length cap, .int .i64 (k : Int)] w fun e w' => e = .returned (.int .i64 ((k + 3 * G.count : Nat) : Int)) ∧ Below w.heap.size w w')) ∧ Hid (Below w.heap.size w wr)) (fun _ i _ => nn - (intOf i).toNat)
  case atStart => exact ⟨0, k, F, rfl, rfl, by rw [HN.out]; omega, HZ.out, hk, hc, HX, HALL, Below.refl _ _⟩
  case round =>
    obtain ⟨j, m, rest, rfl, rfl, hjn, hmz, hm1, hcr, hxr, hall, hB⟩ := hrel
    cases rest with
    | nil =>
      obtain rfl : j = nn := by simp only [Trees.length] at hjn; omega
      obtain rfl : m = z := by simp only [Trees.count] at hmz; omega
      clear hxr hall hcr
      go_wp2
      go_ret
      exact ⟨rfl, hB.out⟩
    | cons kd nu tx ar r =>
      have hjl : j < nn := by simp only [Trees.length] at hjn; omega
      have hjn2 : j + 1 + r.length = nn := by simp only [Trees.length] at hjn; omega
      have hcr2 := hcr.out
      simp only [Trees.count] at hcr2
      have hmz2 : m + 3 + 3 * ar.count + 3 * r.count = z := by simp only [Trees.count] at hmz; omega
      obtain ⟨y, q, cq, rfl, h1, h2, h3, h4, hs, _⟩ := (hxr.out.below hB.out).open
      rw [Trees.marked_length] at h4
      have hxr2 : Hid (TreesAt w (r.marked (m + 3 + 3 * ar.count)) (some y) (j + 1)) := hxr.out.2
      have HCR : Hid (r.count ≤ 1048576) := by unfold Hid; omega
      have H := fun (w' : World) (hb : Below wr.heap.size wr w') => hall.out.1 (by omega) (m + 3) (by omega) (by omega) w' q cq (hs.below hb)
      have HH := Lib.hid H
      have HA2 := Lib.hid hall.out.2
      have hzb : m + 3 + 3 * ar.count ≤ 16777216 := by omega
      have hmb : m ≤ 16777216 := by omega
      generalize hd : 3 * ar.count = d at *
      clear hxr hall hs hcr hcr2 H hjn hmz hd
      have e1 : ((m : Int) != (m : Int)) = false := by simp
      have e2 : (((m + 1 : Nat) : Int) != (m : Int) + 1) = false := by simp
      have e3 : ((mt (m + 2)).toList != (mt (m + 2)).toList) = false := by simp
      go_wp2
      go_region_held3 (fun w' => (w'.cell? (y.add (j * 4)) = some (.int .i64 (m : Int)) ∧ w'.cell? (fieldAt y j 2) = some (.string (mt (m + 2)))) ∧ w'.cell? (fieldAt y j 3) = some (.slice q ar.length cq))
        (first
          | go_keep
          | (refine ⟨⟨cell_below (w := wr.drew) h1 hbl, cell_below (w := wr.drew) h3 hbl⟩, cell_below (w := wr.drew) h4 hbl⟩))
        (first
          | (go_at_call 79; refine (markText_any (m + 2) (by omega) (by omega) _).mono ?_; rintro e w1 ⟨rfl, hbl⟩))
      have HB1 : Hid (Below w.heap.size w w1) := hB.out.trans ((below_of_drew hbl).mono hB.out.size)
      have H1 := Lib.hid (HH.out w1 (below_of_drew hbl))
      clear hbl h1 h2 h3 HH
      go_wp2_with fail
      refine H1.out.mono ?_
      rintro e w2 ⟨rfl, hb2⟩
      have HB2 : Hid (Below w.heap.size w w2) := HB1.out.trans (hb2.mono HB1.out.size)
      clear hb2 H1 h4
      go_wp2
      go_roundw
      case rel => exact ⟨j + 1, m + 3 + d, r, by go_num, by go_num, hjn2, hmz2, by omega, HCR, hxr2, HA2, HB2⟩
      case measure => simp [intOf]; omega

set_option maxRecDepth 100000 in
theorem heldValue_any (w : World) (a n : Int) (t : ByteArray) (F : Trees) (k : Nat) (p : Option Addr) (cap : Nat) (hc : F.count ≤ 1048576) (hk : 1 ≤ k) (hkc : k + 3 * F.count ≤ 16777216) (hx : TreesAt w (F.marked k) p 0) :
    Calls Tryd.prog 31 #[.agg #[.int .i64 a, .int .i64 n, .string t, .slice p F.length cap], .int .i64 (k : Int)] w fun e w' => e = .returned (.int .i64 ((k + 3 * F.count : Nat) : Int)) ∧ Below w.heap.size w w' := by
  have hB : Below w.heap.size w (w.alloc (.cells #[.int .i64 a, .int .i64 n, .string t, .slice p F.length cap] 26)) := (Below.refl _ _).alloc (Nat.le_refl _) _
  have H := Lib.hid (heldValueS_any F hc k hk hkc (w.alloc (.cells #[.int .i64 a, .int .i64 n, .string t, .slice p F.length cap] 26)) p cap (hx.below hB))
  have HB := Lib.hid hB
  clear hx hB
  generalize k + 3 * F.count = z at *
  have hz0 : ¬ ((z : Int) < 0) := by omega
  go_enter Tryd.func31, Tryd.ntmps31
  go_wp2_with fail
  refine H.out.mono ?_
  rintro e w1 ⟨rfl, hb1⟩
  have HB1 : Hid (Below w.heap.size w w1) := HB.out.trans (hb1.mono HB.out.size)
  clear hb1
  go_wp2
  go_ret
  exact ⟨rfl, HB1.out⟩
end Go.Proofs.YtcalgjggmgnofaaDoor
