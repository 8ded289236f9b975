/- What is proved here: the model's EqualMatch (package spec) says whether two matches are the same. Condition: they lie in memory as said, and are small. -/
import Derived.Test.YtcimdhmmgneljaaMatchSame
import Derived.Test.YtcimdhmmgneljaaPtSpecEqual
import Derived.Test.YtcimdhmmgneljaaExSpecEqual
namespace Go.Proofs.Ytcimdhmmgneljaa
open Go.RowKit

set_option maxHeartbeats 4000000 in
set_option maxRecDepth 100000 in
theorem spec_eqMatch (w : World) (t : ByteArray) (l : List ClauseD) (a : Option Addr) (c : Nat) (t2 : ByteArray) (m : List ClauseD) (b : Option Addr) (d : Nat) (hx : ClausesAt w l a 0) (hy : ClausesAt w m b 0) (hm : l.length ≤ 1048576) (hsm : ∀ x ∈ l, ClauseD.small x) :
    Calls Try.prog 5 #[.agg #[.string t, .slice a l.length c], .agg #[.string t2, .slice b m.length d]] w fun e w' => e = .returned (.bool (sameMatch t l t2 m)) ∧ Below w.heap.size w w' := by
  have hb := alloc2 w (.cells #[.string t, .slice a l.length c] 29) (.cells #[.string t2, .slice b m.length d] 29)
  obtain ⟨w0, hw0⟩ : ∃ w0, w0 = (w.alloc (.cells #[.string t, .slice a l.length c] 29)).alloc (.cells #[.string t2, .slice b m.length d] 29) := ⟨_, rfl⟩
  rw [← hw0] at hb
  have hsz : (w.alloc (.cells #[.string t, .slice a l.length c] 29)).heap.size = w.heap.size + 1 := Array.size_push _
  have hr1 : w0.heap[w.heap.size]? = some (.cells #[.string t, .slice a l.length c] 29 (0, 0)) := by
    rw [hw0, Below.heap_alloc _ _ _ (by rw [hsz]; omega)]
    exact heap_at_new w _
  have hr2 : w0.heap[w.heap.size + 1]? = some (.cells #[.string t2, .slice b m.length d] 29 (0, 0)) := by
    rw [hw0, ← hsz]
    exact heap_at_new _ _
  have HW0 := Lib.hid hw0
  have HB := Lib.hid hb
  have HCE : Hid (∀ W, Below w0.heap.size w0 W → W.cell? ⟨w.heap.size, 0, none⟩ = some (.string t) ∧ W.cell? ⟨w.heap.size, 1, none⟩ = some (.slice a l.length c) ∧ W.cell? ⟨w.heap.size + 1, 0, none⟩ = some (.string t2) ∧ W.cell? ⟨w.heap.size + 1, 1, none⟩ = some (.slice b m.length d)) := fun W hbW => by
    obtain ⟨h0, h1, _⟩ := pair_cells hr1
    obtain ⟨j0, j1, _⟩ := pair_cells hr2
    exact ⟨cell_below h0 hbW, cell_below h1 hbW, cell_below j0 hbW, cell_below j1 hbW⟩
  have HX := Lib.hid (hx.below hb)
  have HY := Lib.hid (hy.below hb)
  have hz : sameMatch t l t2 m = ((t.toList == t2.toList) && sameClauses l m) := rfl
  generalize sameMatch t l t2 m = z at *
  obtain ⟨h0, h1, j0, j1⟩ := HCE.out w0 (Below.refl _ _)
  have HSM := Lib.hid hsm
  rw [hw0] at h0 h1 j0 j1
  clear hb hsz hr1 hr2 hx hy hw0 hsm
  cases ht : (t.toList == t2.toList) with
  | false =>
    rw [ht] at hz
    have HZ : Hid (z = false) := hz
    clear hz
    go_enter Try.func5, Try.ntmps5
    go_wp2
    go_ret
    exact ⟨by rw [HZ.out]; rfl, by rw [← HW0.out]; exact HB.out⟩
  | true =>
    rw [ht] at hz
    by_cases hlen : l.length = m.length
    · have HZ : Hid (sameClauses l m = z) := by unfold Hid; rw [hz]; simp
      rw [← hlen] at HCE j1
      generalize hn : l.length = n at *
      have HN := Lib.hid hn
      have HL := Lib.hid hlen
      have HWE := HW0.out
      rw [← hlen] at HWE
      have HW1 := Lib.hid HWE
      rw [← hlen]
      clear hz hn hlen HW0 HWE
      go_enter Try.func5, Try.ntmps5
      go_wp2
      rw [← HW1.out]
      clear h0 h1 j0 j1
      go_loopw [5] (fun i wr => ∃ (k : Nat) (r s : List ClauseD), i = .int .i64 k ∧ k + r.length = n ∧ Hid (r.length = s.length) ∧ Hid (sameClauses r s = z) ∧ Hid (ClausesAt w0 r a k) ∧ Hid (ClausesAt w0 s b k) ∧ Hid (∀ x ∈ r, ClauseD.small x) ∧ Hid (Below w0.heap.size w0 wr)) (fun i _ => n - (intOf i).toNat)
      case atStart => exact ⟨0, l, m, rfl, by rw [HN.out]; omega, by unfold Hid; rw [HN.out]; exact HL.out, HZ, HX, HY, HSM, Below.refl _ _⟩
      case round =>
        obtain ⟨k, r, s, rfl, hkn, hrs, hz, hxr, hyr, hsm, hB⟩ := hrel
        obtain ⟨h0, h1, j0, j1⟩ := HCE.out wr hB.out
        cases r with
        | nil =>
          obtain rfl : k = n := by simp only [List.length_nil] at hkn; omega
          cases s with
          | cons _ _ => have := hrs.out; simp at this
          | nil =>
            obtain rfl : true = z := hz.out
            clear hxr hyr hsm
            go_wp2
            go_ret
            exact ⟨rfl, HB.out.trans (hB.out.mono HB.out.size)⟩
        | cons x r =>
          cases s with
          | nil => have := hrs.out; simp at this
          | cons y s =>
            have hkl : k < n := by simp only [List.length_cons] at hkn; omega
            have hkn2 : k + 1 + r.length = n := by simp only [List.length_cons] at hkn; omega
            have HRS : Hid (r.length = s.length) := by have := hrs.out; simp only [List.length_cons] at this; unfold Hid; omega
            obtain ⟨⟨y0, p, c, q, d, rfl, ⟨x0, x1, x2, x3, x4, x5, x6, x7, x8⟩, hc, hd, hx, hx2⟩, _⟩ := hxr.out.below hB.out
            obtain ⟨⟨y1, p2, c2, q2, d2, rfl, ⟨z0, z1, z2, z3, z4, z5, z6, z7, z8⟩, hc2, hd2, hy, hy2⟩, _⟩ := hyr.out.below hB.out
            have hxr2 : Hid (ClausesAt w0 r (some y0) (k + 1)) := hxr.out.2
            have hyr2 : Hid (ClausesAt w0 s (some y1) (k + 1)) := hyr.out.2
            have HSM2 : Hid (∀ u ∈ r, ClauseD.small u) := fun u hu => hsm.out u (by simp [hu])
            have hsx := hsm.out x (by simp)
            have H1 := Lib.hid (fun W (hb : Below wr.heap.size wr W) => Pt.spec_equal x.pF (by have := hsx.1; have := x.pF.length_le_size; omega) hsx.1 y.pF W x.pk x.pn x.pt p c y.pk y.pn y.pt p2 c2 (hx.below hb) (hy.below hb))
            have H2 := Lib.hid (fun W (hb : Below wr.heap.size wr W) => Ex.spec_equal x.eF (by have := hsx.2; have := x.eF.length_le_size; omega) hsx.2 y.eF W x.ek x.en x.et q d y.ek y.en y.et q2 d2 (hx2.below hb) (hy2.below hb))
            have hz2 := hz.out
            simp only [sameClauses, ClauseD.same, ClauseD.samePat, ClauseD.sameExpr] at hz2
            generalize (headEq x.pk x.pn x.pt x.pF.length y.pk y.pn y.pt y.pF.length && x.pF.same y.pF) = zp at *
            generalize (headEq x.ek x.en x.et x.eF.length y.ek y.en y.et y.eF.length && x.eF.same y.eF) = ze at *
            obtain ⟨pk, pn, pt, pF, gd, ek, en, et, eF⟩ := x
            obtain ⟨pk2, pn2, pt2, pF2, gd2, ek2, en2, et2, eF2⟩ := y
            dsimp only at *
            have hal1 : Below wr.heap.size wr (wr.alloc (.cells #[.int .i64 pk, .int .i64 pn, .string pt, .slice p pF.length c, .bool gd, .int .i64 ek, .int .i64 en, .string et, .slice q eF.length d] 40)) := (Below.refl _ _).alloc (Nat.le_refl _) _
            have i0 := cell_below z0 hal1
            have i1 := cell_below z1 hal1
            have i2 := cell_below z2 hal1
            have i3 := cell_below z3 hal1
            have i4 := cell_below z4 hal1
            have i5 := cell_below z5 hal1
            have i6 := cell_below z6 hal1
            have i7 := cell_below z7 hal1
            have i8 := cell_below z8 hal1
            have i10 := cell_below j0 hal1
            have i11 := cell_below j1 hal1
            have i12 := cell_below h1 hal1
            obtain ⟨w2, hw2⟩ : ∃ w2, w2 = (wr.alloc (.cells #[.int .i64 pk, .int .i64 pn, .string pt, .slice p pF.length c, .bool gd, .int .i64 ek, .int .i64 en, .string et, .slice q eF.length d] 40)).alloc (.cells #[.int .i64 pk2, .int .i64 pn2, .string pt2, .slice p2 pF2.length c2, .bool gd2, .int .i64 ek2, .int .i64 en2, .string et2, .slice q2 eF2.length d2] 40) := ⟨_, rfl⟩
            have hal : Below wr.heap.size wr w2 := by rw [hw2]; exact alloc2 _ _ _
            have hsz2 : (wr.alloc (.cells #[.int .i64 pk, .int .i64 pn, .string pt, .slice p pF.length c, .bool gd, .int .i64 ek, .int .i64 en, .string et, .slice q eF.length d] 40)).heap.size = wr.heap.size + 1 := Array.size_push _
            have hr1 : w2.heap[wr.heap.size]? = some (.cells #[.int .i64 pk, .int .i64 pn, .string pt, .slice p pF.length c, .bool gd, .int .i64 ek, .int .i64 en, .string et, .slice q eF.length d] 40 (0, 0)) := by
              rw [hw2, Below.heap_alloc _ _ _ (by rw [hsz2]; omega)]
              exact heap_at_new wr _
            have hr2 : w2.heap[wr.heap.size + 1]? = some (.cells #[.int .i64 pk2, .int .i64 pn2, .string pt2, .slice p2 pF2.length c2, .bool gd2, .int .i64 ek2, .int .i64 en2, .string et2, .slice q2 eF2.length d2] 40 (0, 0)) := by
              rw [hw2, ← hsz2]
              exact heap_at_new _ _
            have HC2 : Hid (∀ W, Below w2.heap.size w2 W → (W.cell? ⟨wr.heap.size, 0, none⟩ = some (.int .i64 pk) ∧ W.cell? ⟨wr.heap.size, 1, none⟩ = some (.int .i64 pn) ∧ W.cell? ⟨wr.heap.size, 2, none⟩ = some (.string pt) ∧ W.cell? ⟨wr.heap.size, 3, none⟩ = some (.slice p pF.length c) ∧ W.cell? ⟨wr.heap.size, 4, none⟩ = some (.bool gd) ∧ W.cell? ⟨wr.heap.size, 5, none⟩ = some (.int .i64 ek) ∧ W.cell? ⟨wr.heap.size, 6, none⟩ = some (.int .i64 en) ∧ W.cell? ⟨wr.heap.size, 7, none⟩ = some (.string et) ∧ W.cell? ⟨wr.heap.size, 8, none⟩ = some (.slice q eF.length d)) ∧ W.cell? ⟨wr.heap.size + 1, 0, none⟩ = some (.int .i64 pk2) ∧ W.cell? ⟨wr.heap.size + 1, 1, none⟩ = some (.int .i64 pn2) ∧ W.cell? ⟨wr.heap.size + 1, 2, none⟩ = some (.string pt2) ∧ W.cell? ⟨wr.heap.size + 1, 3, none⟩ = some (.slice p2 pF2.length c2) ∧ W.cell? ⟨wr.heap.size + 1, 4, none⟩ = some (.bool gd2) ∧ W.cell? ⟨wr.heap.size + 1, 5, none⟩ = some (.int .i64 ek2) ∧ W.cell? ⟨wr.heap.size + 1, 6, none⟩ = some (.int .i64 en2) ∧ W.cell? ⟨wr.heap.size + 1, 7, none⟩ = some (.string et2) ∧ W.cell? ⟨wr.heap.size + 1, 8, none⟩ = some (.slice q2 eF2.length d2)) := fun W hbW => by
              obtain ⟨u0, u1, u2, u3, u4, u5, u6, u7, u8, _⟩ := nine_cells hr1
              obtain ⟨v0, v1, v2, v3, v4, v5, v6, v7, v8, _⟩ := nine_cells hr2
              exact ⟨⟨cell_below u0 hbW, cell_below u1 hbW, cell_below u2 hbW, cell_below u3 hbW, cell_below u4 hbW, cell_below u5 hbW, cell_below u6 hbW, cell_below u7 hbW, cell_below u8 hbW⟩, cell_below v0 hbW, cell_below v1 hbW, cell_below v2 hbW, cell_below v3 hbW, cell_below v4 hbW, cell_below v5 hbW, cell_below v6 hbW, cell_below v7 hbW, cell_below v8 hbW⟩
            have HAL := Lib.hid hal
            have HW2 := Lib.hid hw2
            obtain ⟨⟨u0, u1, u2, u3, u4, u5, u6, u7, u8⟩, v0, v1, v2, v3, v4, v5, v6, v7, v8⟩ := HC2.out w2 (Below.refl _ _)
            rw [hw2] at u0 u1 u2 u3 u4 u5 u6 u7 u8 v0 v1 v2 v3 v4 v5 v6 v7 v8
            clear hxr hyr hz hrs hkn hal hal1 hx hx2 hy hy2 hc hc2 hd hd2 hsx hsm hsz2 hr1 hr2 hw2
            cases zp with
            | false =>
              obtain rfl : false = z := by simpa using hz2
              clear hz2 H2
              go_wp2_with fail
              rw [← HW2.out]
              refine (H1.out w2 HAL.out).mono ?_
              rintro e w3 ⟨rfl, hb3⟩
              have HB3 : Hid (Below w0.heap.size w0 w3) := (hB.out.trans (HAL.out.mono hB.out.size)).trans (hb3.mono (Nat.le_trans hB.out.size HAL.out.size))
              clear hb3 H1 HC2 HAL u0 u1 u2 u3 u4 u5 u6 u7 u8 v0 v1 v2 v3 v4 v5 v6 v7 v8 x0 x1 x2 x3 x4 x5 x6 x7 x8 z0 z1 z2 z3 z4 z5 z6 z7 z8 i0 i1 i2 i3 i4 i5 i6 i7 i8 i10 i11 i12
              go_wp2
              go_ret
              exact ⟨rfl, HB.out.trans (HB3.out.mono HB.out.size)⟩
            | true =>
              by_cases hg : gd = gd2
              · have hgb2 : (gd == gd2) = true := by rw [hg]; cases gd2 <;> rfl
                rw [hgb2] at hz2
                clear hg
                cases ze with
                | false =>
                  obtain rfl : false = z := by simpa using hz2
                  clear hz2
                  go_wp2_with fail
                  rw [← HW2.out]
                  refine (H1.out w2 HAL.out).mono ?_
                  rintro e w3 ⟨rfl, hb3⟩
                  have HB03 := Lib.hid hb3
                  have HBr : Hid (Below wr.heap.size wr w3) := HAL.out.trans (hb3.mono HAL.out.size)
                  clear hb3 H1 HAL u0 u1 u2 u3 u4 u5 u6 u7 u8 v0 v1 v2 v3 v4 v5 v6 v7 v8 x0 x1 x2 x3 x4 x5 x6 x7 x8 z0 z1 z2 z3 z4 z5 z6 z7 z8 i0 i1 i2 i3 i4 i5 i6 i7 i8 i10 i11 i12
                  obtain ⟨⟨u0, u1, u2, u3, u4, u5, u6, u7, u8⟩, v0, v1, v2, v3, v4, v5, v6, v7, v8⟩ := HC2.out w3 HB03.out
                  go_wp2_with fail
                  refine (H2.out w3 HBr.out).mono ?_
                  rintro e w4 ⟨rfl, hb4⟩
                  have HB4 : Hid (Below w0.heap.size w0 w4) := (hB.out.trans (HBr.out.mono hB.out.size)).trans (hb4.mono (Nat.le_trans hB.out.size HBr.out.size))
                  clear hb4 H2 HC2 u0 u1 u2 u3 u4 u5 u6 u7 u8 v0 v1 v2 v3 v4 v5 v6 v7 v8
                  go_wp2
                  go_ret
                  exact ⟨rfl, HB.out.trans (HB4.out.mono HB.out.size)⟩
                | true =>
                  have HZ2 : Hid (sameClauses r s = z) := by unfold Hid; simpa using hz2
                  clear hz2
                  go_wp2_with fail
                  rw [← HW2.out]
                  refine (H1.out w2 HAL.out).mono ?_
                  rintro e w3 ⟨rfl, hb3⟩
                  have HB03 := Lib.hid hb3
                  have HBr : Hid (Below wr.heap.size wr w3) := HAL.out.trans (hb3.mono HAL.out.size)
                  clear hb3 H1 HAL u0 u1 u2 u3 u4 u5 u6 u7 u8 v0 v1 v2 v3 v4 v5 v6 v7 v8 x0 x1 x2 x3 x4 x5 x6 x7 x8 z0 z1 z2 z3 z4 z5 z6 z7 z8 i0 i1 i2 i3 i4 i5 i6 i7 i8 i10 i11 i12
                  obtain ⟨⟨u0, u1, u2, u3, u4, u5, u6, u7, u8⟩, v0, v1, v2, v3, v4, v5, v6, v7, v8⟩ := HC2.out w3 HB03.out
                  go_wp2_with fail
                  refine (H2.out w3 HBr.out).mono ?_
                  rintro e w4 ⟨rfl, hb4⟩
                  have HB4 : Hid (Below w0.heap.size w0 w4) := (hB.out.trans (HBr.out.mono hB.out.size)).trans (hb4.mono (Nat.le_trans hB.out.size HBr.out.size))
                  clear hb4 H2 HC2 u0 u1 u2 u3 u4 u5 u6 u7 u8 v0 v1 v2 v3 v4 v5 v6 v7 v8
                  go_wp2
                  go_roundw
                  case rel => exact ⟨k + 1, r, s, by go_num, hkn2, HRS, HZ2, hxr2, hyr2, HSM2, HB4⟩
                  case measure => simp [intOf]; omega
              · have hgb2 : (gd == gd2) = false := by cases gd <;> cases gd2 <;> first | rfl | exact absurd rfl hg
                rw [hgb2] at hz2
                obtain rfl : false = z := by simpa using hz2
                clear hz2 H2 hg
                go_wp2_with fail
                rw [← HW2.out]
                refine (H1.out w2 HAL.out).mono ?_
                rintro e w3 ⟨rfl, hb3⟩
                have HB03 := Lib.hid hb3
                have HB3 : Hid (Below w0.heap.size w0 w3) := (hB.out.trans (HAL.out.mono hB.out.size)).trans (hb3.mono (Nat.le_trans hB.out.size HAL.out.size))
                clear hb3 H1 HAL u0 u1 u2 u3 u4 u5 u6 u7 u8 v0 v1 v2 v3 v4 v5 v6 v7 v8 x0 x1 x2 x3 x4 x5 x6 x7 x8 z0 z1 z2 z3 z4 z5 z6 z7 z8 i0 i1 i2 i3 i4 i5 i6 i7 i8 i10 i11 i12
                obtain ⟨⟨u0, u1, u2, u3, u4, u5, u6, u7, u8⟩, v0, v1, v2, v3, v4, v5, v6, v7, v8⟩ := HC2.out w3 HB03.out
                go_wp2
                go_ret
                exact ⟨rfl, HB.out.trans (HB3.out.mono HB.out.size)⟩
    · have HZ : Hid (z = false) := by
        unfold Hid
        rw [hz]
        cases h : sameClauses l m with
        | false => rfl
        | true => exact absurd (sameClauses_length l m h) hlen
      have hne : ((l.length : Int) != (m.length : Int)) = true := by simp; omega
      clear hz
      go_enter Try.func5, Try.ntmps5
      go_wp2
      go_ret
      exact ⟨by rw [HZ.out]; rfl, by rw [← HW0.out]; exact HB.out⟩
end Go.Proofs.Ytcimdhmmgneljaa
