/- What is proved here: the laws' comparison of two expressions (eqValue and eqValueS) returns true where both read alike. Condition: they lie in memory as said. -/
import Derived.Test.YtcimdhmmgneljaaTrees
import Derived.Deep.RegionHeld3
namespace Go.Proofs.Ytcimdhmmgneljaa.Ex
open Go.RowKit

set_option maxHeartbeats 1000000 in
set_option maxRecDepth 100000 in
theorem eqNode (w : World) (k n : Int) (t : ByteArray) (c : Nat) (p p2 : Option Addr) (cap cap2 : Nat)
    (H : ∀ w', Below w.heap.size w w' → Calls Try.prog 38 #[.slice p c cap, .slice p2 c cap2] w' fun e w'' => e = .returned (.bool true) ∧ Below w'.heap.size w' w'') :
    Calls Try.prog 30 #[.agg #[.int .i64 k, .int .i64 n, .string t, .slice p c cap], .agg #[.int .i64 k, .int .i64 n, .string t, .slice p2 c cap2]] w fun e w' => e = .returned (.bool true) ∧ Below w.heap.size w w' := by
  have hb : Below w.heap.size w ((w.alloc (.cells #[.int .i64 k, .int .i64 n, .string t, .slice p c cap] 38)).alloc (.cells #[.int .i64 k, .int .i64 n, .string t, .slice p2 c cap2] 38)) := ((Below.refl _ _).alloc (Nat.le_refl _) _).alloc (by simp) _
  have HB := Lib.hid hb
  clear hb
  have he : (t.toList == t.toList) = true := by simp
  go_enter Try.func30, Try.ntmps30
  go_wp2_with fail
  refine (H _ HB.out).mono ?_
  rintro e w1 ⟨rfl, hb1⟩
  have HB1 : Hid (Below w.heap.size w w1) := HB.out.trans (hb1.mono HB.out.size)
  clear hb1 H
  go_wp2
  go_ret
  exact ⟨rfl, HB1.out⟩

set_option maxHeartbeats 1000000 in
set_option maxRecDepth 100000 in
theorem eqValueS_same : ∀ F : Trees, F.fits → F.length ≤ maxLen → ∀ (w : World) (a b : Option Addr) (cap cap2 : Nat), TreesAt w F a 0 → TreesAt w F b 0 →
    Calls Try.prog 38 #[.slice a F.length cap, .slice b F.length cap2] w fun e w' => e = .returned (.bool true) ∧ Below w.heap.size w w' := by
  refine Trees.ind fun F hall hfit hm w a b cap cap2 hx hy => ?_
  unfold maxLen at hm
  have HX := Lib.hid hx
  have HY := Lib.hid hy
  have HALL := Lib.hid hall
  have HF := Lib.hid hfit
  clear hx hy hall hfit
  generalize hn : F.length = n at *
  have HN := Lib.hid hn
  clear hn
  go_enter Try.func38, Try.ntmps38
  go_wp2
  go_loopw [5] (fun i wr => ∃ (k : Nat) (rest : Trees), i = .int .i64 k ∧ k + rest.length = n ∧ Hid (TreesAt w rest a k) ∧ Hid (TreesAt w rest b k) ∧ Hid (rest.All (fun G => G.fits → G.length ≤ maxLen → ∀ (w : World) (a b : Option Addr) (cap cap2 : Nat), TreesAt w G a 0 → TreesAt w G b 0 →
    Calls Try.prog 38 #[.slice a G.length cap, .slice b G.length cap2] w fun e w' => e = .returned (.bool true) ∧ Below w.heap.size w w')) ∧ Hid rest.fits ∧ Hid (Below w.heap.size w wr)) (fun i _ => n - (intOf i).toNat)
  case atStart => exact ⟨0, F, rfl, by rw [HN.out]; omega, HX, HY, HALL, HF, Below.refl _ _⟩
  case round =>
    obtain ⟨k, rest, rfl, hkn, hxr, hyr, hall, hfr, hB⟩ := hrel
    cases rest with
    | cons kd nu t ar r =>
      have hkl : k < n := by simp only [Trees.length] at hkn; omega
      have hkn2 : k + 1 + r.length = n := by simp only [Trees.length] at hkn; omega
      obtain ⟨y, p, cp, rfl, h1, h2, h3, h4, hs, hr⟩ := (hxr.out.below hB.out).open
      obtain ⟨z, p2, cp2, rfl, j1, j2, j3, j4, hs2, hr2⟩ := (hyr.out.below hB.out).open
      obtain ⟨hfk, hfn, hft, hfl, hfa, hfr2⟩ := hfr.out
      obtain ⟨ha1, ha2⟩ := hall.out
      have hxr2 : Hid (TreesAt w r (some y) (k + 1)) := hxr.out.2
      have hyr2 : Hid (TreesAt w r (some z) (k + 1)) := hyr.out.2
      have H := fun (w' : World) (h : Below wr.heap.size wr w') => eqNode w' kd nu t ar.length p p2 cp cp2 (fun w'' hbw => ha1 hfa hfl w'' p p2 cp cp2 ((hs.below h).below hbw) ((hs2.below h).below hbw))
      have HR2 := Lib.hid hfr2
      have HA2 := Lib.hid ha2
      clear hxr hyr hall hfr hs hr hs2 hr2 hfk hfn hft hfl hfa hfr2 ha1 ha2 hkn
      go_wp2
      go_region_held3 (fun w' => (w'.cell? (y.add (k * 4)) = some (.int .i64 kd) ∧ w'.cell? (fieldAt y k 1) = some (.int .i64 nu) ∧ w'.cell? (fieldAt y k 2) = some (.string t) ∧ w'.cell? (fieldAt y k 3) = some (.slice p ar.length cp)) ∧ w'.cell? (z.add (k * 4)) = some (.int .i64 kd) ∧ w'.cell? (fieldAt z k 1) = some (.int .i64 nu) ∧ w'.cell? (fieldAt z k 2) = some (.string t) ∧ w'.cell? (fieldAt z k 3) = some (.slice p2 ar.length cp2))
        (first
          | go_keep
          | (refine ⟨⟨cell_below ?_ hbl, cell_below ?_ hbl, cell_below ?_ hbl, cell_below ?_ hbl⟩, cell_below ?_ hbl, cell_below ?_ hbl, cell_below ?_ hbl, cell_below ?_ hbl⟩ <;> assumption))
        (first
          | (go_at_call 30; refine (H _ ((Below.refl _ _).drew)).mono ?_; rintro e w1 ⟨rfl, hbl⟩))
      have HB1 : Hid (Below w.heap.size w w1) := hB.out.trans ((below_of_drew hbl).mono hB.out.size)
      clear hbl H
      go_wp2
      go_roundw
      case rel => exact ⟨k + 1, r, by go_num, hkn2, hxr2, hyr2, HA2, HR2, HB1⟩
      case measure => simp [intOf]; omega
    | nil =>
      obtain rfl : k = n := by simp only [Trees.length] at hkn; omega
      clear hxr hyr hall hfr
      go_wp2
      go_ret
      exact ⟨rfl, hB.out⟩

theorem eqValue_same (w : World) (k n : Int) (t : ByteArray) (ar : Trees) (p p2 : Option Addr) (cap cap2 : Nat) (hf : ar.fits) (hm : ar.length ≤ maxLen) (hx : TreesAt w ar p 0) (hy : TreesAt w ar p2 0) :
    Calls Try.prog 30 #[.agg #[.int .i64 k, .int .i64 n, .string t, .slice p ar.length cap], .agg #[.int .i64 k, .int .i64 n, .string t, .slice p2 ar.length cap2]] w fun e w' => e = .returned (.bool true) ∧ Below w.heap.size w w' :=
  eqNode w k n t ar.length p p2 cap cap2 (fun w' hb => eqValueS_same ar hf hm w' p p2 cap cap2 (hx.below hb) (hy.below hb))
end Go.Proofs.Ytcimdhmmgneljaa.Ex
