/- What is proved here: the model's EqualValue says whether two expressions are the same. Condition: they lie in memory as said, and are small. -/
import Derived.Test.YtcimdhmmgneljaaEqualFields
import Derived.Deep.RegionHeld3
namespace Go.Proofs.Ytcimdhmmgneljaa.Ex
open Go.RowKit

set_option maxHeartbeats 2000000 in
set_option maxRecDepth 100000 in
theorem spec_equal : ∀ F : Trees, F.length ≤ 1048576 → F.size ≤ 1048576 → ∀ (G : Trees) (w : World) (k n : Int) (t : ByteArray) (p : Option Addr) (c : Nat) (k2 n2 : Int) (t2 : ByteArray) (p2 : Option Addr) (c2 : Nat), TreesAt w F p 0 → TreesAt w G p2 0 →
    Calls Try.prog 11 #[.agg #[.int .i64 k, .int .i64 n, .string t, .slice p F.length c], .agg #[.int .i64 k2, .int .i64 n2, .string t2, .slice p2 G.length c2]] w fun e w' => e = .returned (.bool (headEq k n t F.length k2 n2 t2 G.length && F.same G)) ∧ Below w.heap.size w w' := by
  refine Trees.ind fun F hall hm hs G w k n t p c k2 n2 t2 p2 c2 hx hy => ?_
  have hB0 := alloc2 w (.cells #[.int .i64 k, .int .i64 n, .string t, .slice p F.length c] 38) (.cells #[.int .i64 k2, .int .i64 n2, .string t2, .slice p2 G.length c2] 38)
  have HX := Lib.hid (hx.below hB0)
  have HY := Lib.hid (hy.below hB0)
  have HALL := Lib.hid hall
  have HSZ := Lib.hid hs
  have hv1 := heap_at_new (w.alloc (.cells #[.int .i64 k, .int .i64 n, .string t, .slice p F.length c] 38)) (.cells #[.int .i64 k2, .int .i64 n2, .string t2, .slice p2 G.length c2] 38)
  have hs1 : (w.alloc (.cells #[.int .i64 k, .int .i64 n, .string t, .slice p F.length c] 38)).heap.size = w.heap.size + 1 := Array.size_push _
  rw [hs1] at hv1
  have hv0 := (Below.heap_alloc (w.alloc (.cells #[.int .i64 k, .int .i64 n, .string t, .slice p F.length c] 38)) (.cells #[.int .i64 k2, .int .i64 n2, .string t2, .slice p2 G.length c2] 38) w.heap.size (by omega)).trans (heap_at_new w _)
  have hc0 := (four_cells hv0).2.2.2.1
  have hc1 := (four_cells hv1).2.2.2.1
  clear hv0 hv1 hs1 hx hy hall hs
  have HE : Hid (headEq k n t F.length k2 n2 t2 G.length = ((k == k2) && ((n == n2) && ((t.toList == t2.toList) && ((F.length : Int) == (G.length : Int)))))) := rfl
  generalize hz : (headEq k n t F.length k2 n2 t2 G.length && F.same G) = z
  have HZ0 := Lib.hid hz
  clear hz
  generalize headEq k n t F.length k2 n2 t2 G.length = he at *
  generalize h1 : (k == k2) = b1 at *
  generalize h2 : (n == n2) = b2 at *
  generalize h3 : (t.toList == t2.toList) = b3 at *
  generalize h4 : ((F.length : Int) == (G.length : Int)) = b4 at *
  have HB0 := Lib.hid hB0
  clear hB0
  cases b1 with
  | false =>
    have HZ : Hid (z = false) := by unfold Hid; rw [← HZ0.out, HE.out]; rfl
    have e1 : (k != k2) = true := by simp [bne, h1]
    clear hc0 hc1
    go_enter Try.func11, Try.ntmps11
    go_wp2
    go_ret
    exact ⟨by rw [HZ.out]; rfl, HB0.out⟩
  | true =>
    have e1 : (k != k2) = false := by simp [bne, h1]
    cases b2 with
    | false =>
      have HZ : Hid (z = false) := by unfold Hid; rw [← HZ0.out, HE.out]; rfl
      have e2 : (n != n2) = true := by simp [bne, h2]
      clear hc0 hc1
      go_enter Try.func11, Try.ntmps11
      go_wp2
      go_ret
      exact ⟨by rw [HZ.out]; rfl, HB0.out⟩
    | true =>
      have e2 : (n != n2) = false := by simp [bne, h2]
      cases b3 with
      | false =>
        have HZ : Hid (z = false) := by unfold Hid; rw [← HZ0.out, HE.out]; rfl
        have e3 : (t.toList != t2.toList) = true := by simp [bne, h3]
        clear hc0 hc1
        go_enter Try.func11, Try.ntmps11
        go_wp2
        go_ret
        exact ⟨by rw [HZ.out]; rfl, HB0.out⟩
      | true =>
        have e3 : (t.toList != t2.toList) = false := by simp [bne, h3]
        cases b4 with
        | false =>
          have HZ : Hid (z = false) := by unfold Hid; rw [← HZ0.out, HE.out]; rfl
          have e4 : ((F.length : Int) != (G.length : Int)) = true := by simp [bne, h4]
          clear hc0 hc1
          go_enter Try.func11, Try.ntmps11
          go_wp2
          go_ret
          exact ⟨by rw [HZ.out]; rfl, HB0.out⟩
        | true =>
          have HZ : Hid (F.same G = z) := by unfold Hid; rw [← HZ0.out, HE.out]; rfl
          have hlen : F.length = G.length := by have := eq_of_beq h4; omega
          have HL := Lib.hid hlen
          rw [← hlen] at hc0 hc1 HX HY HB0
          rw [← hlen]
          clear h4 hlen HZ0 HE
          generalize hn : F.length = nn at *
          have HN := Lib.hid hn
          clear hn
          go_enter Try.func11, Try.ntmps11
          go_wp2
          generalize (w.alloc (.cells #[.int .i64 k, .int .i64 n, .string t, .slice p nn c] 38)).alloc (.cells #[.int .i64 k2, .int .i64 n2, .string t2, .slice p2 nn c2] 38) = w0 at *
          have HC0 := Lib.hid hc0
          have HC1 := Lib.hid hc1
          clear hc0 hc1
          go_loopw [5] (fun i wr => ∃ (j : Nat) (r s : Trees), i = .int .i64 j ∧ j + r.length = nn ∧ Hid (r.length = s.length) ∧ Hid (r.same s = z) ∧ Hid (TreesAt w0 r p j) ∧ Hid (TreesAt w0 s p2 j) ∧ Hid (r.size ≤ 1048576) ∧ Hid (r.All (fun F => F.length ≤ 1048576 → F.size ≤ 1048576 → ∀ (G : Trees) (w : World) (k n : Int) (t : ByteArray) (p : Option Addr) (c : Nat) (k2 n2 : Int) (t2 : ByteArray) (p2 : Option Addr) (c2 : Nat), TreesAt w F p 0 → TreesAt w G p2 0 →
    Calls Try.prog 11 #[.agg #[.int .i64 k, .int .i64 n, .string t, .slice p F.length c], .agg #[.int .i64 k2, .int .i64 n2, .string t2, .slice p2 G.length c2]] w fun e w' => e = .returned (.bool (headEq k n t F.length k2 n2 t2 G.length && F.same G)) ∧ Below w.heap.size w w')) ∧ Hid (Below w0.heap.size w0 wr)) (fun i _ => nn - (intOf i).toNat)
          case atStart => exact ⟨0, F, G, rfl, by rw [HN.out]; omega, by unfold Hid; rw [HN.out]; exact HL.out, HZ, HX, HY, HSZ, HALL, Below.refl _ _⟩
          case round =>
            obtain ⟨j, r, s, rfl, hjn, hrs, hz, hxr, hyr, hsr, hall, hB⟩ := hrel
            have hc0 := cell_below HC0.out hB.out
            have hc1 := cell_below HC1.out hB.out
            cases r with
            | nil =>
              obtain rfl : j = nn := by simp only [Trees.length] at hjn; omega
              cases s with
              | cons _ _ _ _ _ => have := hrs.out; simp [Trees.length] at this
              | nil =>
                obtain rfl : true = z := hz.out
                clear hxr hyr hall
                go_wp2
                go_ret
                exact ⟨rfl, HB0.out.trans (hB.out.mono HB0.out.size)⟩
            | cons k3 n3 t3 a3 r =>
              cases s with
              | nil => have := hrs.out; simp [Trees.length] at this
              | cons k4 n4 t4 a4 s =>
                have hjl : j < nn := by simp only [Trees.length] at hjn; omega
                have hjn2 : j + 1 + r.length = nn := by simp only [Trees.length] at hjn; omega
                have HRS : Hid (r.length = s.length) := by have := hrs.out; simp only [Trees.length] at this; unfold Hid; omega
                obtain ⟨y, q, cq, rfl, g1, g2, g3, g4, hs3, _⟩ := (hxr.out.below hB.out).open
                obtain ⟨y2, q2, cq2, rfl, j1, j2, j3, j4, hs4, _⟩ := (hyr.out.below hB.out).open
                have hxr2 : Hid (TreesAt w0 r (some y) (j + 1)) := hxr.out.2
                have hyr2 : Hid (TreesAt w0 s (some y2) (j + 1)) := hyr.out.2
                have hsr2 := hsr.out
                simp only [Trees.size] at hsr2
                have hal := a3.length_le_size
                have H := fun (w' : World) (hb : Below wr.heap.size wr w') => hall.out.1 (by omega) (by omega) a4 w' k3 n3 t3 q cq k4 n4 t4 q2 cq2 (hs3.below hb) (hs4.below hb)
                have HA2 := Lib.hid hall.out.2
                have HSR : Hid (r.size ≤ 1048576) := by unfold Hid; omega
                have hz2 := hz.out
                simp only [Trees.same] at hz2
                generalize (headEq k3 n3 t3 a3.length k4 n4 t4 a4.length && a3.same a4) = hb at *
                have HH := Lib.hid H
                clear hxr hyr hz hrs hjn hs3 hs4 hall hsr hsr2 hal H
                cases hb with
                | false =>
                  obtain rfl : false = z := by simpa using hz2
                  clear hz2
                  go_wp2
                  go_region_held3 (fun w' => (w'.cell? ⟨w.heap.size, 3, none⟩ = some (.slice (some y) nn c) ∧ w'.cell? ⟨w.heap.size + 1, 3, none⟩ = some (.slice (some y2) nn c2)) ∧ (w'.cell? (y.add (j * 4)) = some (.int .i64 k3) ∧ w'.cell? (fieldAt y j 1) = some (.int .i64 n3) ∧ w'.cell? (fieldAt y j 2) = some (.string t3) ∧ w'.cell? (fieldAt y j 3) = some (.slice q a3.length cq)) ∧ w'.cell? (y2.add (j * 4)) = some (.int .i64 k4) ∧ w'.cell? (fieldAt y2 j 1) = some (.int .i64 n4) ∧ w'.cell? (fieldAt y2 j 2) = some (.string t4) ∧ w'.cell? (fieldAt y2 j 3) = some (.slice q2 a4.length cq2))
                    (first
                      | go_keep
                      | (refine ⟨⟨cell_below ?_ hbl, cell_below ?_ hbl⟩, ⟨cell_below ?_ hbl, cell_below ?_ hbl, cell_below ?_ hbl, cell_below ?_ hbl⟩, cell_below ?_ hbl, cell_below ?_ hbl, cell_below ?_ hbl, cell_below ?_ hbl⟩ <;> assumption))
                    (first
                      | (go_at_call 11; refine (HH.out _ ((Below.refl _ _).drew)).mono ?_; rintro e w1 ⟨rfl, hbl⟩))
                  have HB1 : Hid (Below w0.heap.size w0 w1) := hB.out.trans ((below_of_drew hbl).mono hB.out.size)
                  clear hbl HH
                  go_wp2
                  go_ret
                  exact ⟨rfl, HB0.out.trans (HB1.out.mono HB0.out.size)⟩
                | true =>
                  have HZ2 : Hid (r.same s = z) := by unfold Hid; simpa using hz2
                  clear hz2
                  go_wp2
                  go_region_held3 (fun w' => (w'.cell? ⟨w.heap.size, 3, none⟩ = some (.slice (some y) nn c) ∧ w'.cell? ⟨w.heap.size + 1, 3, none⟩ = some (.slice (some y2) nn c2)) ∧ (w'.cell? (y.add (j * 4)) = some (.int .i64 k3) ∧ w'.cell? (fieldAt y j 1) = some (.int .i64 n3) ∧ w'.cell? (fieldAt y j 2) = some (.string t3) ∧ w'.cell? (fieldAt y j 3) = some (.slice q a3.length cq)) ∧ w'.cell? (y2.add (j * 4)) = some (.int .i64 k4) ∧ w'.cell? (fieldAt y2 j 1) = some (.int .i64 n4) ∧ w'.cell? (fieldAt y2 j 2) = some (.string t4) ∧ w'.cell? (fieldAt y2 j 3) = some (.slice q2 a4.length cq2))
                    (first
                      | go_keep
                      | (refine ⟨⟨cell_below ?_ hbl, cell_below ?_ hbl⟩, ⟨cell_below ?_ hbl, cell_below ?_ hbl, cell_below ?_ hbl, cell_below ?_ hbl⟩, cell_below ?_ hbl, cell_below ?_ hbl, cell_below ?_ hbl, cell_below ?_ hbl⟩ <;> assumption))
                    (first
                      | (go_at_call 11; refine (HH.out _ ((Below.refl _ _).drew)).mono ?_; rintro e w1 ⟨rfl, hbl⟩))
                  have HB1 : Hid (Below w0.heap.size w0 w1) := hB.out.trans ((below_of_drew hbl).mono hB.out.size)
                  clear hbl HH
                  go_wp2
                  go_roundw
                  case rel => exact ⟨j + 1, r, s, by go_num, hjn2, HRS, HZ2, hxr2, hyr2, HSR, HA2, HB1⟩
                  case measure => simp [intOf]; omega
end Go.Proofs.Ytcimdhmmgneljaa.Ex
