/- What is proved here: the laws' bound on bindings (szBinding and szBindingS) counts their size. Condition: they lie in memory as said. -/
import Derived.Test.YtdifefgigcjgeaaBinds
import Derived.Test.YtdifefgigcjgeaaTreeSize
namespace Go.Proofs.Ytdifefgigcjgeaa
open Go.RowKit

set_option maxHeartbeats 1000000 in
set_option maxRecDepth 100000 in
theorem szBind (L : Nat) (hL : L ≤ 1048576) (w : World) (x : BindD) (p : Option Addr) (cap : Nat) (hf : x.fits) (hx : TreesAt w x.F p 0) :
    Calls Try.prog 57 #[.agg #[.string x.nm, .int .i64 x.k, .int .i64 x.n, .string x.t, .slice p x.F.length cap], .int .i64 (L : Int)] w fun e w' => e = .returned (.int .i64 (left L x.size)) ∧ Below w.heap.size w w' := by
  obtain ⟨nm, k, n, t, F⟩ := x
  obtain ⟨f1, _, _, f4, f5, f6⟩ := hf
  simp only [BindD.size] at *
  unfold maxLen at f1
  have hc : left L (nm.size + (t.size + F.size)) = if nm.size ≤ L then left (L - nm.size) (t.size + F.size) else -1 := by unfold left; split <;> split <;> (try split) <;> omega
  have H := fun M (hM : M ≤ 1048576) w' (hb : Below w.heap.size w w') => szValue_any M hM w' k n t F p cap f4 f6 f5 (hx.below hb)
  generalize t.size + F.size = N at *
  generalize left L (nm.size + N) = z at hc ⊢
  have hb : Below w.heap.size w (w.alloc (.cells #[.string nm, .int .i64 k, .int .i64 n, .string t, .slice p F.length cap] 83)) := (Below.refl _ _).alloc (Nat.le_refl _) _
  have HB := Lib.hid hb
  clear hb hx f4 f5 f6
  by_cases hn : nm.size ≤ L
  · rw [if_pos hn] at hc
    have H1 := H (L - nm.size) (by omega)
    have hMb : L - nm.size ≤ 1048576 := by omega
    clear H
    have hM2 : (L : Int) - (nm.size : Int) = ((L - nm.size : Nat) : Int) := by omega
    generalize L - nm.size = M at *
    have HZ := Lib.hid hc
    have HL := Lib.hid hL
    clear hc hL
    by_cases hN : N ≤ M
    · rw [left_yes hN] at H1
      have HZ : Hid (z = ((M - N : Nat) : Int)) := by unfold Hid; rw [HZ.out, left_yes hN]
      have hqb : M - N ≤ 1048576 := by omega
      generalize M - N = q at *
      clear hN
      go_enter Try.func57, Try.ntmps57
      go_wp2_with fail
      refine (H1 _ HB.out).mono ?_
      rintro e w1 ⟨rfl, hb1⟩
      have HB1 : Hid (Below w.heap.size w w1) := HB.out.trans (hb1.mono HB.out.size)
      clear hb1 H1
      go_wp2
      go_ret
      exact ⟨by rw [HZ.out]; rfl, HB1.out⟩
    · rw [left_no hN] at H1
      have HZ : Hid (z = -1) := by unfold Hid; rw [HZ.out, left_no hN]
      clear hN
      go_enter Try.func57, Try.ntmps57
      go_wp2_with fail
      refine (H1 _ HB.out).mono ?_
      rintro e w1 ⟨rfl, hb1⟩
      have HB1 : Hid (Below w.heap.size w w1) := HB.out.trans (hb1.mono HB.out.size)
      clear hb1 H1
      go_wp2
      go_ret
      exact ⟨by rw [HZ.out]; rfl, HB1.out⟩
  · rw [if_neg hn] at hc
    subst hc
    have hM2 : (L : Int) - (nm.size : Int) < 0 := by omega
    clear H
    go_enter Try.func57, Try.ntmps57
    go_wp2
    go_ret
    exact ⟨rfl, HB.out⟩

set_option maxHeartbeats 1000000 in
set_option maxRecDepth 100000 in
theorem szBindS_any (l : List BindD) (hfit : ∀ x ∈ l, x.fits) (hm : l.length ≤ maxLen) (L : Nat) (hL : L ≤ 1048576) (w : World) (a : Option Addr) (cap : Nat) (hx : BindsAt w l a 0) :
    Calls Try.prog 26 #[.slice a l.length cap, .int .i64 (L : Int)] w fun e w' => e = .returned (.int .i64 (left L (bindsSize l))) ∧ Below w.heap.size w w' := by
  unfold maxLen at hm
  have HX := Lib.hid hx
  have HF := Lib.hid hfit
  clear hx hfit
  have hz : left L (bindsSize l) = left L (l.length + bindsIn l) := rfl
  generalize left L (bindsSize l) = z at hz ⊢
  generalize hn : l.length = n at *
  have HN := Lib.hid hn
  have HZ := Lib.hid hz
  clear hn hz
  by_cases h0 : L < n
  · have HE : Hid (z = -1) := by unfold Hid; rw [HZ.out]; exact left_no (by omega)
    go_enter Try.func26, Try.ntmps26
    go_wp2
    go_ret
    exact ⟨by rw [HE.out]; rfl, Below.refl _ _⟩
  · have hLn : (L : Int) - (n : Int) = ((L - n : Nat) : Int) := by omega
    have HZ2 : Hid (z = left (L - n) (bindsIn l)) := by
      unfold Hid
      rw [HZ.out]
      unfold left
      split <;> split <;> omega
    have hMb : L - n ≤ 1048576 := by omega
    generalize L - n = M at *
    go_enter Try.func26, Try.ntmps26
    go_wp2
    go_loopw [1, 5] (fun lf i wr => ∃ (k m : Nat) (rest : List BindD), i = .int .i64 k ∧ lf = .int .i64 m ∧ m ≤ 1048576 ∧ k + rest.length = n ∧ Hid (z = left m (bindsIn rest)) ∧ Hid (BindsAt w rest a k) ∧ Hid (∀ x ∈ rest, BindD.fits x) ∧ Hid (Below w.heap.size w wr)) (fun _ i _ => n - (intOf i).toNat)
    case atStart => exact ⟨0, M, l, rfl, rfl, hMb, by rw [HN.out]; omega, HZ2, HX, HF, Below.refl _ _⟩
    case round =>
      obtain ⟨k, m, rest, rfl, rfl, hmL, hkn, hzr, hxr, hfr, hB⟩ := hrel
      cases rest with
      | cons x r =>
        have hkl : k < n := by simp only [List.length_cons] at hkn; omega
        have hkn2 : k + 1 + r.length = n := by simp only [List.length_cons] at hkn; omega
        have hzr' := hzr.out
        rw [show bindsIn (x :: r) = x.size + bindsIn r by simp [bindsIn]] at hzr'
        obtain ⟨⟨y, p, cp, rfl, h1, h2, h3, h4, h5, hl, hs⟩, hr⟩ := hxr.out.below hB.out
        have hfx := hfr.out x (by simp)
        have HR2 : Hid (∀ u ∈ r, BindD.fits u) := fun u hu => hfr.out u (by simp [hu])
        have hxr2 : Hid (BindsAt w r (some y) (k + 1)) := hxr.out.2
        have H := szBind m hmL wr x p cp hfx hs
        obtain ⟨nm, kd, nu, t, F⟩ := x
        generalize BindD.size ⟨nm, kd, nu, t, F⟩ = s at *
        clear hzr hxr hfr hs hr hfx hkn hl
        by_cases hbad : s ≤ m
        · rw [left_yes hbad] at H
          have HZ3 : Hid (z = left (m - s) (bindsIn r)) := by
            unfold Hid
            rw [hzr']
            unfold left
            split <;> split <;> omega
          have hq : m - s ≤ 1048576 := by omega
          generalize m - s = q at *
          clear hzr'
          go_wp2_with fail
          refine H.mono ?_
          rintro e w1 ⟨rfl, hb1⟩
          have HB1 : Hid (Below w.heap.size w w1) := hB.out.trans (hb1.mono hB.out.size)
          clear hb1 H
          go_wp2
          go_roundw
          case rel => exact ⟨k + 1, q, r, by go_num, rfl, hq, hkn2, HZ3, hxr2, HR2, HB1⟩
          case measure => simp [intOf]; omega
        · rw [left_no hbad] at H
          have HE : Hid (z = -1) := by
            unfold Hid
            rw [hzr']
            exact left_no (by omega)
          clear hzr' hbad
          go_wp2_with fail
          refine H.mono ?_
          rintro e w1 ⟨rfl, hb1⟩
          have HB1 : Hid (Below w.heap.size w w1) := hB.out.trans (hb1.mono hB.out.size)
          clear hb1 H
          go_wp2
          go_ret
          exact ⟨by rw [HE.out]; rfl, HB1.out⟩
      | nil =>
        obtain rfl : k = n := by simp only [List.length_nil] at hkn; omega
        have HE : Hid (z = m) := by
          have h := hzr.out
          rw [show bindsIn [] = 0 from rfl] at h
          unfold Hid
          rw [h, left_yes (Nat.zero_le _)]
          rfl
        clear hzr hxr hfr
        go_wp2
        go_ret
        exact ⟨by rw [HE.out]; rfl, hB.out⟩
end Go.Proofs.Ytdifefgigcjgeaa
