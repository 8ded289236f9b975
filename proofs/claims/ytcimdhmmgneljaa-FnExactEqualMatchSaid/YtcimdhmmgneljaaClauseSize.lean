/- What is proved here: the laws' bound on clauses and on a match (szClause, szClauseS, szMatch) counts their size. Condition: they lie in memory as said. -/
import Derived.Test.YtcimdhmmgneljaaClauses
import Derived.Test.YtcimdhmmgneljaaPtTreeSize
import Derived.Test.YtcimdhmmgneljaaExTreeSize
namespace Go.Proofs.Ytcimdhmmgneljaa
open Go.RowKit

set_option maxHeartbeats 2000000 in
set_option maxRecDepth 100000 in
theorem szClause_any (L : Nat) (hL : L ≤ 1048576) (w : World) (x : ClauseD) (p : Option Addr) (cap : Nat) (q : Option Addr) (cap2 : Nat) (hf : x.fits) (hx : TreesAt w x.pF p 0) (hy : TreesAt w x.eF q 0) :
    Calls Try.prog 16 #[.agg #[.int .i64 x.pk, .int .i64 x.pn, .string x.pt, .slice p x.pF.length cap, .bool x.gd, .int .i64 x.ek, .int .i64 x.en, .string x.et, .slice q x.eF.length cap2], .int .i64 (L : Int)] w fun e w' => e = .returned (.int .i64 (left L x.size)) ∧ Below w.heap.size w w' := by
  obtain ⟨pk, pn, pt, pF, gd, ek, en, et, eF⟩ := x
  obtain ⟨⟨_, _, f2, f3, f4⟩, _, _, f7, f8, f9⟩ := hf
  simp only [ClauseD.size] at *
  have H1 := fun w' (hb : Below w.heap.size w w') => Pt.szValue_any L hL w' pk pn pt pF p cap f2 f4 f3 (hx.below hb)
  have H2 := fun M (hM : M ≤ 1048576) w' (hb : Below w.heap.size w w') => Ex.szValue_any M hM w' ek en et eF q cap2 f7 f9 f8 (hy.below hb)
  have hc : left L (pt.size + pF.size + (et.size + eF.size)) = if pt.size + pF.size ≤ L then left (L - (pt.size + pF.size)) (et.size + eF.size) else -1 := by unfold left; split <;> split <;> (try split) <;> omega
  generalize pt.size + pF.size = A at *
  generalize et.size + eF.size = B at *
  generalize left L (A + B) = z at hc ⊢
  have hb : Below w.heap.size w (w.alloc (.cells #[.int .i64 pk, .int .i64 pn, .string pt, .slice p pF.length cap, .bool gd, .int .i64 ek, .int .i64 en, .string et, .slice q eF.length cap2] 55)) := (Below.refl _ _).alloc (Nat.le_refl _) _
  have hcells := nine_cells (heap_at_new w (.cells #[.int .i64 pk, .int .i64 pn, .string pt, .slice p pF.length cap, .bool gd, .int .i64 ek, .int .i64 en, .string et, .slice q eF.length cap2] 55))
  obtain ⟨w0, hw0⟩ : ∃ w0, w0 = w.alloc (.cells #[.int .i64 pk, .int .i64 pn, .string pt, .slice p pF.length cap, .bool gd, .int .i64 ek, .int .i64 en, .string et, .slice q eF.length cap2] 55) := ⟨_, rfl⟩
  rw [← hw0] at hb hcells
  have HW0 := Lib.hid hw0
  have HB := Lib.hid hb
  have HCE : Hid (∀ W, Below w0.heap.size w0 W → W.cell? ⟨w.heap.size, 0, none⟩ = some (.int .i64 pk) ∧ W.cell? ⟨w.heap.size, 1, none⟩ = some (.int .i64 pn) ∧ W.cell? ⟨w.heap.size, 2, none⟩ = some (.string pt) ∧ W.cell? ⟨w.heap.size, 3, none⟩ = some (.slice p pF.length cap) ∧ W.cell? ⟨w.heap.size, 4, none⟩ = some (.bool gd) ∧ W.cell? ⟨w.heap.size, 5, none⟩ = some (.int .i64 ek) ∧ W.cell? ⟨w.heap.size, 6, none⟩ = some (.int .i64 en) ∧ W.cell? ⟨w.heap.size, 7, none⟩ = some (.string et) ∧ W.cell? ⟨w.heap.size, 8, none⟩ = some (.slice q eF.length cap2)) := fun W hbW => by
    obtain ⟨h0, h1, h2, h3, h4, h5, h6, h7, h8, _⟩ := hcells
    exact ⟨cell_below h0 hbW, cell_below h1 hbW, cell_below h2 hbW, cell_below h3 hbW, cell_below h4 hbW, cell_below h5 hbW, cell_below h6 hbW, cell_below h7 hbW, cell_below h8 hbW⟩
  clear hx hy f2 f3 f4 f7 f8 f9 hb hw0 hcells
  have hP := H1 w0 HB.out
  clear H1
  by_cases hA : A ≤ L
  · rw [left_yes hA] at hP
    rw [if_pos hA] at hc
    have hMb : L - A ≤ 1048576 := by omega
    have H3 := H2 (L - A) hMb
    clear H2
    generalize L - A = M at *
    have HZ := Lib.hid hc
    clear hc hL hA
    by_cases hN : B ≤ M
    · rw [left_yes hN] at H3
      have HZ : Hid (z = ((M - B : Nat) : Int)) := by unfold Hid; rw [HZ.out, left_yes hN]
      have hqb : M - B ≤ 1048576 := by omega
      generalize M - B = r at *
      clear hN
      have HP := Lib.hid hP
      have H3 := Lib.hid H3
      clear hP
      obtain ⟨h0, h1, h2, h3, h4, h5, h6, h7, h8⟩ := HCE.out w0 (Below.refl _ _)
      rw [HW0.out] at h0 h1 h2 h3 h4 h5 h6 h7 h8
      go_enter Try.func16, Try.ntmps16
      go_wp2_with fail
      rw [← HW0.out]
      refine HP.out.mono ?_
      rintro e w1 ⟨rfl, hb1⟩
      have HB1 := Lib.hid hb1
      clear hb1 HP h0 h1 h2 h3 h4 h5 h6 h7 h8
      obtain ⟨h0, h1, h2, h3, h4, h5, h6, h7, h8⟩ := HCE.out w1 HB1.out
      go_wp2_with fail
      refine (H3.out w1 (HB.out.trans (HB1.out.mono HB.out.size))).mono ?_
      rintro e w2 ⟨rfl, hb2⟩
      have HB2 : Hid (Below w.heap.size w w2) := HB.out.trans ((HB1.out.trans (hb2.mono HB1.out.size)).mono HB.out.size)
      clear hb2 H3 HCE h0 h1 h2 h3 h4 h5 h6 h7 h8
      go_wp2
      go_ret
      exact ⟨by rw [HZ.out]; rfl, HB2.out⟩
    · rw [left_no hN] at H3
      have HZ : Hid (z = -1) := by unfold Hid; rw [HZ.out, left_no hN]
      clear hN
      have HP := Lib.hid hP
      have H3 := Lib.hid H3
      clear hP
      obtain ⟨h0, h1, h2, h3, h4, h5, h6, h7, h8⟩ := HCE.out w0 (Below.refl _ _)
      rw [HW0.out] at h0 h1 h2 h3 h4 h5 h6 h7 h8
      go_enter Try.func16, Try.ntmps16
      go_wp2_with fail
      rw [← HW0.out]
      refine HP.out.mono ?_
      rintro e w1 ⟨rfl, hb1⟩
      have HB1 := Lib.hid hb1
      clear hb1 HP h0 h1 h2 h3 h4 h5 h6 h7 h8
      obtain ⟨h0, h1, h2, h3, h4, h5, h6, h7, h8⟩ := HCE.out w1 HB1.out
      go_wp2_with fail
      refine (H3.out w1 (HB.out.trans (HB1.out.mono HB.out.size))).mono ?_
      rintro e w2 ⟨rfl, hb2⟩
      have HB2 : Hid (Below w.heap.size w w2) := HB.out.trans ((HB1.out.trans (hb2.mono HB1.out.size)).mono HB.out.size)
      clear hb2 H3 HCE h0 h1 h2 h3 h4 h5 h6 h7 h8
      go_wp2
      go_ret
      exact ⟨by rw [HZ.out]; rfl, HB2.out⟩
  · rw [left_no hA] at hP
    rw [if_neg hA] at hc
    subst hc
    clear hA H2
    have HP := Lib.hid hP
    clear hP
    obtain ⟨h0, h1, h2, h3, h4, h5, h6, h7, h8⟩ := HCE.out w0 (Below.refl _ _)
    rw [HW0.out] at h0 h1 h2 h3 h4 h5 h6 h7 h8
    go_enter Try.func16, Try.ntmps16
    go_wp2_with fail
    rw [← HW0.out]
    refine HP.out.mono ?_
    rintro e w1 ⟨rfl, hb1⟩
    have HB1 : Hid (Below w.heap.size w w1) := HB.out.trans (hb1.mono HB.out.size)
    clear hb1 HP HCE h0 h1 h2 h3 h4 h5 h6 h7 h8
    go_wp2
    go_ret
    exact ⟨rfl, HB1.out⟩

set_option maxHeartbeats 1000000 in
set_option maxRecDepth 100000 in
theorem szClauseS_any (l : List ClauseD) (hfit : ∀ x ∈ l, x.fits) (hm : l.length ≤ maxLen) (L : Nat) (hL : L ≤ 1048576) (w : World) (a : Option Addr) (cap : Nat) (hx : ClausesAt w l a 0) :
    Calls Try.prog 9 #[.slice a l.length cap, .int .i64 (L : Int)] w fun e w' => e = .returned (.int .i64 (left L (clausesSize l))) ∧ Below w.heap.size w w' := by
  unfold maxLen at hm
  have HX := Lib.hid hx
  have HF := Lib.hid hfit
  clear hx hfit
  have hz : left L (clausesSize l) = left L (l.length + clausesIn l) := rfl
  generalize left L (clausesSize l) = z at hz ⊢
  generalize hn : l.length = n at *
  have HN := Lib.hid hn
  have HZ := Lib.hid hz
  clear hn hz
  by_cases h0 : L < n
  · have HE : Hid (z = -1) := by unfold Hid; rw [HZ.out]; exact left_no (by omega)
    go_enter Try.func9, Try.ntmps9
    go_wp2
    go_ret
    exact ⟨by rw [HE.out]; rfl, Below.refl _ _⟩
  · have hLn : (L : Int) - (n : Int) = ((L - n : Nat) : Int) := by omega
    have HZ2 : Hid (z = left (L - n) (clausesIn l)) := by
      unfold Hid
      rw [HZ.out]
      unfold left
      split <;> split <;> omega
    have hMb : L - n ≤ 1048576 := by omega
    generalize L - n = M at *
    go_enter Try.func9, Try.ntmps9
    go_wp2
    go_loopw [1, 5] (fun lf i wr => ∃ (k m : Nat) (rest : List ClauseD), i = .int .i64 k ∧ lf = .int .i64 m ∧ m ≤ 1048576 ∧ k + rest.length = n ∧ Hid (z = left m (clausesIn rest)) ∧ Hid (ClausesAt w rest a k) ∧ Hid (∀ x ∈ rest, ClauseD.fits x) ∧ Hid (Below w.heap.size w wr)) (fun _ i _ => n - (intOf i).toNat)
    case atStart => exact ⟨0, M, l, rfl, rfl, hMb, by rw [HN.out]; omega, HZ2, HX, HF, Below.refl _ _⟩
    case round =>
      obtain ⟨k, m, rest, rfl, rfl, hmL, hkn, hzr, hxr, hfr, hB⟩ := hrel
      cases rest with
      | cons x r =>
        have hkl : k < n := by simp only [List.length_cons] at hkn; omega
        have hkn2 : k + 1 + r.length = n := by simp only [List.length_cons] at hkn; omega
        have hzr' := hzr.out
        rw [show clausesIn (x :: r) = x.size + clausesIn r by simp [clausesIn]] at hzr'
        obtain ⟨⟨y, p, cp, q0, cq, rfl, ⟨h0, h1, h2, h3, h4, h5, h6, h7, h8⟩, hl, hl2, hs, hs2⟩, hr⟩ := hxr.out.below hB.out
        have hfx := hfr.out x (by simp)
        have HR2 : Hid (∀ u ∈ r, ClauseD.fits u) := fun u hu => hfr.out u (by simp [hu])
        have hxr2 : Hid (ClausesAt w r (some y) (k + 1)) := hxr.out.2
        have H := szClause_any m hmL wr x p cp q0 cq hfx hs hs2
        obtain ⟨pk, pn, pt, pF, gd, ek, en, et, eF⟩ := x
        generalize ClauseD.size ⟨pk, pn, pt, pF, gd, ek, en, et, eF⟩ = s at *
        dsimp only at *
        clear hzr hxr hfr hs hs2 hr hfx hkn hl hl2
        by_cases hbad : s ≤ m
        · rw [left_yes hbad] at H
          have HZ3 : Hid (z = left (m - s) (clausesIn r)) := by
            unfold Hid
            rw [hzr']
            unfold left
            split <;> split <;> omega
          have hq : m - s ≤ 1048576 := by omega
          generalize m - s = q at *
          clear hzr'
          go_wp2_with fail
          refine H.mono ?_
          rintro e w1 ⟨rfl, hb1⟩
          have HB1 : Hid (Below w.heap.size w w1) := hB.out.trans (hb1.mono hB.out.size)
          clear hb1 H
          go_wp2
          go_roundw
          case rel => exact ⟨k + 1, q, r, by go_num, rfl, hq, hkn2, HZ3, hxr2, HR2, HB1⟩
          case measure => simp [intOf]; omega
        · rw [left_no hbad] at H
          have HE : Hid (z = -1) := by
            unfold Hid
            rw [hzr']
            exact left_no (by omega)
          clear hzr' hbad
          go_wp2_with fail
          refine H.mono ?_
          rintro e w1 ⟨rfl, hb1⟩
          have HB1 : Hid (Below w.heap.size w w1) := hB.out.trans (hb1.mono hB.out.size)
          clear hb1 H
          go_wp2
          go_ret
          exact ⟨by rw [HE.out]; rfl, HB1.out⟩
      | nil =>
        obtain rfl : k = n := by simp only [List.length_nil] at hkn; omega
        have HE : Hid (z = m) := by
          have h := hzr.out
          rw [show clausesIn [] = 0 from rfl] at h
          unfold Hid
          rw [h, left_yes (Nat.zero_le _)]
          rfl
        clear hzr hxr hfr
        go_wp2
        go_ret
        exact ⟨by rw [HE.out]; rfl, hB.out⟩

/-- The size of a match. -/
theorem szMatch_any (L : Nat) (hL : L ≤ 1048576) (w : World) (ty : ByteArray) (l : List ClauseD) (hty : ty.size ≤ maxLen) (hfit : ∀ x ∈ l, x.fits) (hm : l.length ≤ maxLen) (a : Option Addr) (cap : Nat) (hx : ClausesAt w l a 0) :
    Calls Try.prog 4 #[.agg #[.string ty, .slice a l.length cap], .int .i64 (L : Int)] w fun e w' => e = .returned (.int .i64 (left L (ty.size + clausesSize l))) ∧ Below w.heap.size w w' := by
  unfold maxLen at hty
  have hc : left L (ty.size + clausesSize l) = if ty.size ≤ L then left (L - ty.size) (clausesSize l) else -1 := by unfold left; split <;> split <;> (try split) <;> omega
  have H := fun M (hM : M ≤ 1048576) w' (hb : Below w.heap.size w w') => szClauseS_any l hfit hm M hM w' a cap (hx.below hb)
  generalize clausesSize l = N at *
  generalize left L (ty.size + N) = z at hc ⊢
  have hb : Below w.heap.size w (w.alloc (.cells #[.string ty, .slice a l.length cap] 24)) := (Below.refl _ _).alloc (Nat.le_refl _) _
  have HB := Lib.hid hb
  clear hb hx hfit hm
  generalize l.length = n at *
  by_cases hn : ty.size ≤ L
  · rw [if_pos hn] at hc
    have H1 := H (L - ty.size) (by omega)
    have hMb : L - ty.size ≤ 1048576 := by omega
    clear H
    have hM2 : (L : Int) - (ty.size : Int) = ((L - ty.size : Nat) : Int) := by omega
    generalize L - ty.size = M at *
    have HZ := Lib.hid hc
    have HL := Lib.hid hL
    clear hc hL
    by_cases hN : N ≤ M
    · rw [left_yes hN] at H1
      have HZ : Hid (z = ((M - N : Nat) : Int)) := by unfold Hid; rw [HZ.out, left_yes hN]
      have hqb : M - N ≤ 1048576 := by omega
      generalize M - N = q at *
      clear hN
      go_enter Try.func4, Try.ntmps4
      go_wp2_with fail
      refine (H1 _ HB.out).mono ?_
      rintro e w1 ⟨rfl, hb1⟩
      have HB1 : Hid (Below w.heap.size w w1) := HB.out.trans (hb1.mono HB.out.size)
      clear hb1 H1
      go_wp2
      go_ret
      exact ⟨by rw [HZ.out]; rfl, HB1.out⟩
    · rw [left_no hN] at H1
      have HZ : Hid (z = -1) := by unfold Hid; rw [HZ.out, left_no hN]
      clear hN
      go_enter Try.func4, Try.ntmps4
      go_wp2_with fail
      refine (H1 _ HB.out).mono ?_
      rintro e w1 ⟨rfl, hb1⟩
      have HB1 : Hid (Below w.heap.size w w1) := HB.out.trans (hb1.mono HB.out.size)
      clear hb1 H1
      go_wp2
      go_ret
      exact ⟨by rw [HZ.out]; rfl, HB1.out⟩
  · rw [if_neg hn] at hc
    subst hc
    have hM2 : (L : Int) - (ty.size : Int) < 0 := by omega
    clear H
    go_enter Try.func4, Try.ntmps4
    go_wp2
    go_ret
    exact ⟨rfl, HB.out⟩
end Go.Proofs.Ytcimdhmmgneljaa
