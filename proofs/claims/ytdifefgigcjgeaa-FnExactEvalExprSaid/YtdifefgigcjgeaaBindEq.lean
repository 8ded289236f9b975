/- What is proved here: the laws' comparison of bindings (eqBinding and eqBindingS) returns true where both read alike. Condition: they lie in memory as said. -/
import Derived.Test.YtdifefgigcjgeaaBinds
import Derived.Test.YtdifefgigcjgeaaTreeEq
import Derived.Deep.RegionHeld3
namespace Go.Proofs.Ytdifefgigcjgeaa
open Go.RowKit

set_option maxHeartbeats 1000000 in
set_option maxRecDepth 100000 in
theorem eqBind (w : World) (x : BindD) (p p2 : Option Addr) (cap cap2 : Nat) (hf : x.fits) (hx : TreesAt w x.F p 0) (hy : TreesAt w x.F p2 0) :
    Calls Try.prog 61 #[.agg #[.string x.nm, .int .i64 x.k, .int .i64 x.n, .string x.t, .slice p x.F.length cap], .agg #[.string x.nm, .int .i64 x.k, .int .i64 x.n, .string x.t, .slice p2 x.F.length cap2]] w fun e w' => e = .returned (.bool true) ∧ Below w.heap.size w w' := by
  obtain ⟨nm, k, n, t, F⟩ := x
  obtain ⟨f1, _, _, f4, f5, f6⟩ := hf
  have H := fun w' (hb : Below w.heap.size w w') => eqValue_same w' k n t F p p2 cap cap2 f6 f5 (hx.below hb) (hy.below hb)
  have hb : Below w.heap.size w ((w.alloc (.cells #[.string nm, .int .i64 k, .int .i64 n, .string t, .slice p F.length cap] 88)).alloc (.cells #[.string nm, .int .i64 k, .int .i64 n, .string t, .slice p2 F.length cap2] 88)) := ((Below.refl _ _).alloc (Nat.le_refl _) _).alloc (by simp) _
  have HB := Lib.hid hb
  clear hb hx hy f1 f4 f5 f6
  have he : (nm.toList == nm.toList) = true := by simp
  go_enter Try.func61, Try.ntmps61
  go_wp2_with fail
  refine (H _ HB.out).mono ?_
  rintro e w1 ⟨rfl, hb1⟩
  have HB1 : Hid (Below w.heap.size w w1) := HB.out.trans (hb1.mono HB.out.size)
  clear hb1 H
  go_wp2
  go_ret
  exact ⟨rfl, HB1.out⟩

set_option maxHeartbeats 1000000 in
set_option maxRecDepth 100000 in
theorem eqBindS_same (l : List BindD) (hfit : ∀ x ∈ l, x.fits) (hm : l.length ≤ maxLen) (w : World) (a b : Option Addr) (cap cap2 : Nat) (hx : BindsAt w l a 0) (hy : BindsAt w l b 0) :
    Calls Try.prog 30 #[.slice a l.length cap, .slice b l.length cap2] w fun e w' => e = .returned (.bool true) ∧ Below w.heap.size w w' := by
  unfold maxLen at hm
  have HX := Lib.hid hx
  have HY := Lib.hid hy
  have HF := Lib.hid hfit
  clear hx hy hfit
  generalize hn : l.length = n at *
  have HN := Lib.hid hn
  clear hn
  go_enter Try.func30, Try.ntmps30
  go_wp2
  go_loopw [5] (fun i wr => ∃ (k : Nat) (rest : List BindD), i = .int .i64 k ∧ k + rest.length = n ∧ Hid (BindsAt w rest a k) ∧ Hid (BindsAt w rest b k) ∧ Hid (∀ x ∈ rest, BindD.fits x) ∧ Hid (Below w.heap.size w wr)) (fun i _ => n - (intOf i).toNat)
  case atStart => exact ⟨0, l, rfl, by rw [HN.out]; omega, HX, HY, HF, Below.refl _ _⟩
  case round =>
    obtain ⟨k, rest, rfl, hkn, hxr, hyr, hfr, hB⟩ := hrel
    cases rest with
    | cons x r =>
      have hkl : k < n := by simp only [List.length_cons] at hkn; omega
      have hkn2 : k + 1 + r.length = n := by simp only [List.length_cons] at hkn; omega
      obtain ⟨⟨y, p, cp, rfl, h1, h2, h3, h4, h5, hl, hs⟩, hr⟩ := hxr.out.below hB.out
      obtain ⟨⟨z, p2, cp2, rfl, j1, j2, j3, j4, j5, hl2, hs2⟩, hr2⟩ := hyr.out.below hB.out
      have hfx := hfr.out x (by simp)
      have HR2 : Hid (∀ u ∈ r, BindD.fits u) := fun u hu => hfr.out u (by simp [hu])
      have hxr2 : Hid (BindsAt w r (some y) (k + 1)) := hxr.out.2
      have hyr2 : Hid (BindsAt w r (some z) (k + 1)) := hyr.out.2
      have H := fun (w' : World) (h : Below wr.heap.size wr w') => eqBind w' x p p2 cp cp2 hfx (hs.below h) (hs2.below h)
      obtain ⟨nm, kd, nu, t, F⟩ := x
      clear hxr hyr hfr hs hr hs2 hr2 hfx hkn hl hl2
      dsimp only at *
      go_wp2
      go_region_held3 (fun w' => (w'.cell? (y.add (k * 5)) = some (.string nm) ∧ w'.cell? (bindAt y k 1) = some (.int .i64 kd) ∧ w'.cell? (bindAt y k 2) = some (.int .i64 nu) ∧ w'.cell? (bindAt y k 3) = some (.string t) ∧ w'.cell? (bindAt y k 4) = some (.slice p F.length cp)) ∧ w'.cell? (z.add (k * 5)) = some (.string nm) ∧ w'.cell? (bindAt z k 1) = some (.int .i64 kd) ∧ w'.cell? (bindAt z k 2) = some (.int .i64 nu) ∧ w'.cell? (bindAt z k 3) = some (.string t) ∧ w'.cell? (bindAt z k 4) = some (.slice p2 F.length cp2))
        (first
          | go_keep
          | (refine ⟨⟨cell_below ?_ hbl, cell_below ?_ hbl, cell_below ?_ hbl, cell_below ?_ hbl, cell_below ?_ hbl⟩, cell_below ?_ hbl, cell_below ?_ hbl, cell_below ?_ hbl, cell_below ?_ hbl, cell_below ?_ hbl⟩ <;> assumption)
          | fail "no arm")
        (first
          | (go_at_call 61; refine (H _ ((Below.refl _ _).drew)).mono ?_; rintro e w1 ⟨rfl, hbl⟩)
          | fail "no arm")
      have HB1 : Hid (Below w.heap.size w w1) := hB.out.trans ((below_of_drew hbl).mono hB.out.size)
      clear hbl H
      go_wp2
      go_roundw
      case rel => exact ⟨k + 1, r, by go_num, hkn2, hxr2, hyr2, HR2, HB1⟩
      case measure => simp [intOf]; omega
    | nil =>
      obtain rfl : k = n := by simp only [List.length_nil] at hkn; omega
      clear hxr hyr hfr
      go_wp2
      go_ret
      exact ⟨rfl, hB.out⟩
end Go.Proofs.Ytdifefgigcjgeaa
