/- What is proved here: the laws' bound on a value (szValue and szValueS) counts its size. Condition: the value lies in memory as said. -/
import Derived.Test.YtcimdhmmgneljaaTrees
namespace Go.Proofs.Ytcimdhmmgneljaa.Ex
open Go.RowKit

set_option maxHeartbeats 1000000 in
set_option maxRecDepth 100000 in
theorem szNode (L : Nat) (hL : L ≤ 1048576) (w : World) (k n : Int) (t : ByteArray) (c N : Nat) (p : Option Addr) (cap : Nat) (ht : t.size ≤ maxLen)
    (H : ∀ M : Nat, M ≤ 1048576 → ∀ w', Below w.heap.size w w' → Calls Try.prog 32 #[.slice p c cap, .int .i64 (M : Int)] w' fun e w'' => e = .returned (.int .i64 (left M N)) ∧ Below w'.heap.size w' w'') :
    Calls Try.prog 22 #[.agg #[.int .i64 k, .int .i64 n, .string t, .slice p c cap], .int .i64 (L : Int)] w fun e w' => e = .returned (.int .i64 (left L (t.size + N))) ∧ Below w.heap.size w w' := by
  unfold maxLen at ht
  have hc : left L (t.size + N) = if t.size ≤ L then left (L - t.size) N else -1 := by unfold left; split <;> split <;> (try split) <;> omega
  generalize left L (t.size + N) = z at hc ⊢
  have hb : Below w.heap.size w (w.alloc (.cells #[.int .i64 k, .int .i64 n, .string t, .slice p c cap] 53)) := (Below.refl _ _).alloc (Nat.le_refl _) _
  have HB := Lib.hid hb
  clear hb
  by_cases hn : t.size ≤ L
  · rw [if_pos hn] at hc
    have H1 := H (L - t.size) (by omega)
    have hMb : L - t.size ≤ 1048576 := by omega
    clear H
    have hM2 : (L : Int) - (t.size : Int) = ((L - t.size : Nat) : Int) := by omega
    generalize L - t.size = M at *
    have HZ := Lib.hid hc
    have HL := Lib.hid hL
    clear hc hL
    by_cases hN : N ≤ M
    · rw [left_yes hN] at H1
      have HZ : Hid (z = ((M - N : Nat) : Int)) := by unfold Hid; rw [HZ.out, left_yes hN]
      have hqb : M - N ≤ 1048576 := by omega
      generalize M - N = q at *
      clear hN
      go_enter Try.func22, Try.ntmps22
      go_wp2_with fail
      refine (H1 _ HB.out).mono ?_
      rintro e w1 ⟨rfl, hb1⟩
      have HB1 : Hid (Below w.heap.size w w1) := HB.out.trans (hb1.mono HB.out.size)
      clear hb1 H1
      go_wp2
      go_ret
      exact ⟨by rw [HZ.out]; rfl, HB1.out⟩
    · rw [left_no hN] at H1
      have HZ : Hid (z = -1) := by unfold Hid; rw [HZ.out, left_no hN]
      clear hN
      go_enter Try.func22, Try.ntmps22
      go_wp2_with fail
      refine (H1 _ HB.out).mono ?_
      rintro e w1 ⟨rfl, hb1⟩
      have HB1 : Hid (Below w.heap.size w w1) := HB.out.trans (hb1.mono HB.out.size)
      clear hb1 H1
      go_wp2
      go_ret
      exact ⟨by rw [HZ.out]; rfl, HB1.out⟩
  · rw [if_neg hn] at hc
    subst hc
    have hM2 : (L : Int) - (t.size : Int) < 0 := by omega
    clear H
    go_enter Try.func22, Try.ntmps22
    go_wp2
    go_ret
    exact ⟨rfl, HB.out⟩

set_option maxHeartbeats 1000000 in
set_option maxRecDepth 100000 in
theorem szValueS_any : ∀ F : Trees, F.fits → F.length ≤ maxLen → ∀ (L : Nat), L ≤ 1048576 → ∀ (w : World) (a : Option Addr) (cap : Nat), TreesAt w F a 0 →
    Calls Try.prog 32 #[.slice a F.length cap, .int .i64 (L : Int)] w fun e w' => e = .returned (.int .i64 (left L F.size)) ∧ Below w.heap.size w w' := by
  refine Trees.ind fun F hall hfit hm L hL w a cap hx => ?_
  unfold maxLen at hm
  have HX := Lib.hid hx
  have HALL := Lib.hid hall
  have HF := Lib.hid hfit
  clear hx hall hfit
  have hz := congrArg (left L) F.size_eq
  generalize left L F.size = z at hz ⊢
  generalize hn : F.length = n at *
  have HN := Lib.hid hn
  have HZ := Lib.hid hz
  clear hn hz
  by_cases h0 : L < n
  · have HE : Hid (z = -1) := by unfold Hid; rw [HZ.out]; exact left_no (by omega)
    go_enter Try.func32, Try.ntmps32
    go_wp2
    go_ret
    exact ⟨by rw [HE.out]; rfl, Below.refl _ _⟩
  · have hLn : (L : Int) - (n : Int) = ((L - n : Nat) : Int) := by omega
    have HZ2 : Hid (z = left (L - n) F.inner) := by
      unfold Hid
      rw [HZ.out]
      unfold left
      split <;> split <;> omega
    have hMb : L - n ≤ 1048576 := by omega
    generalize L - n = M at *
    go_enter Try.func32, Try.ntmps32
    go_wp2
    go_loopw [1, 5] (fun l i wr => ∃ (k m : Nat) (rest : Trees), i = .int .i64 k ∧ l = .int .i64 m ∧ m ≤ 1048576 ∧ k + rest.length = n ∧ Hid (z = left m rest.inner) ∧ Hid (TreesAt w rest a k) ∧ Hid (rest.All (fun G => G.fits → G.length ≤ maxLen → ∀ (L : Nat), L ≤ 1048576 → ∀ (w : World) (a : Option Addr) (cap : Nat), TreesAt w G a 0 → Calls Try.prog 32 #[.slice a G.length cap, .int .i64 (L : Int)] w fun e w' => e = .returned (.int .i64 (left L G.size)) ∧ Below w.heap.size w w')) ∧ Hid rest.fits ∧ Hid (Below w.heap.size w wr)) (fun _ i _ => n - (intOf i).toNat)
    case atStart => exact ⟨0, M, F, rfl, rfl, hMb, by rw [HN.out]; omega, HZ2, HX, HALL, HF, Below.refl _ _⟩
    case round =>
      obtain ⟨k, m, rest, rfl, rfl, hmL, hkn, hzr, hxr, hall, hfr, hB⟩ := hrel
      cases rest with
      | cons kd nu t ar r =>
        have hkl : k < n := by simp only [Trees.length] at hkn; omega
        have hkn2 : k + 1 + r.length = n := by simp only [Trees.length] at hkn; omega
        have hzr' := hzr.out
        simp only [Trees.inner] at hzr'
        obtain ⟨y, p, cp, rfl, h1, h2, h3, h4, hs, hr⟩ := (hxr.out.below hB.out).open
        obtain ⟨hfk, hfn, hft, hfl, hfa, hfr2⟩ := hfr.out
        obtain ⟨ha1, ha2⟩ := hall.out
        have hxr2 : Hid (TreesAt w r (some y) (k + 1)) := hxr.out.2
        have H := szNode m hmL wr kd nu t ar.length ar.size p cp hft (fun M hM w' hbw => ha1 hfa hfl M hM w' p cp (hs.below hbw))
        have HR2 := Lib.hid hfr2
        have HA2 := Lib.hid ha2
        generalize t.size + ar.size = s at *
        clear hzr hxr hall hfr hs hr hfk hfn hft hfl hfa hfr2 ha1 ha2 hkn
        by_cases hbad : s ≤ m
        · rw [left_yes hbad] at H
          have HZ3 : Hid (z = left (m - s) r.inner) := by
            unfold Hid
            rw [hzr']
            unfold left
            split <;> split <;> omega
          have hq : m - s ≤ 1048576 := by omega
          generalize m - s = q at *
          clear hzr'
          go_wp2_with fail
          refine H.mono ?_
          rintro e w1 ⟨rfl, hb1⟩
          have HB1 : Hid (Below w.heap.size w w1) := hB.out.trans (hb1.mono hB.out.size)
          clear hb1 H
          go_wp2
          go_roundw
          case rel => exact ⟨k + 1, q, r, by go_num, rfl, hq, hkn2, HZ3, hxr2, HA2, HR2, HB1⟩
          case measure => simp [intOf]; omega
        · rw [left_no hbad] at H
          have HE : Hid (z = -1) := by
            unfold Hid
            rw [hzr']
            exact left_no (by omega)
          clear hzr' hbad
          go_wp2_with fail
          refine H.mono ?_
          rintro e w1 ⟨rfl, hb1⟩
          have HB1 : Hid (Below w.heap.size w w1) := hB.out.trans (hb1.mono hB.out.size)
          clear hb1 H
          go_wp2
          go_ret
          exact ⟨by rw [HE.out]; rfl, HB1.out⟩
      | nil =>
        obtain rfl : k = n := by simp only [Trees.length] at hkn; omega
        have HE : Hid (z = m) := by
          have h := hzr.out
          simp only [Trees.inner] at h
          unfold Hid
          rw [h, left_yes (Nat.zero_le _)]
          rfl
        clear hzr hxr hall hfr
        go_wp2
        go_ret
        exact ⟨by rw [HE.out]; rfl, hB.out⟩

/-- The size of an expression. -/
theorem szValue_any (L : Nat) (hL : L ≤ 1048576) (w : World) (k n : Int) (t : ByteArray) (ar : Trees) (p : Option Addr) (cap : Nat) (ht : t.size ≤ maxLen) (hf : ar.fits) (hm : ar.length ≤ maxLen) (hx : TreesAt w ar p 0) :
    Calls Try.prog 22 #[.agg #[.int .i64 k, .int .i64 n, .string t, .slice p ar.length cap], .int .i64 (L : Int)] w fun e w' => e = .returned (.int .i64 (left L (t.size + ar.size))) ∧ Below w.heap.size w w' :=
  szNode L hL w k n t ar.length ar.size p cap ht (fun M hM w' hb => szValueS_any ar hf hm M hM w' p cap (hx.below hb))
end Go.Proofs.Ytcimdhmmgneljaa.Ex
