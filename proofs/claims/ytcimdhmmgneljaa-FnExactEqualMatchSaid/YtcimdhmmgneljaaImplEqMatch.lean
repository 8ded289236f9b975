/- What is proved here: the program's EqualMatch says whether two matches are the same. Condition: they lie in memory as said, and are small. -/
import Derived.Test.YtcimdhmmgneljaaMatchSame
import Derived.Test.YtcimdhmmgneljaaPtImplEqual
import Derived.Test.YtcimdhmmgneljaaExImplEqual
namespace Go.Proofs.Ytcimdhmmgneljaa
open Go.RowKit

set_option maxHeartbeats 2000000 in
set_option maxRecDepth 100000 in
theorem impl_eqClause (w : World) (x y : ClauseD) (p : Option Addr) (c : Nat) (q : Option Addr) (d : Nat) (p2 : Option Addr) (c2 : Nat) (q2 : Option Addr) (d2 : Nat) (hx : TreesAt w x.pF p 0) (hy : TreesAt w y.pF p2 0) (hx2 : TreesAt w x.eF q 0) (hy2 : TreesAt w y.eF q2 0) (hs : x.small) (hc : x.pF.length ≤ c) (hc2 : y.pF.length ≤ c2) (hd : x.eF.length ≤ d) (hd2 : y.eF.length ≤ d2) :
    Calls Try.prog 14 #[.agg #[.int .i64 x.pk, .int .i64 x.pn, .string x.pt, .slice p x.pF.length c, .bool x.gd, .int .i64 x.ek, .int .i64 x.en, .string x.et, .slice q x.eF.length d], .agg #[.int .i64 y.pk, .int .i64 y.pn, .string y.pt, .slice p2 y.pF.length c2, .bool y.gd, .int .i64 y.ek, .int .i64 y.en, .string y.et, .slice q2 y.eF.length d2]] w fun e w' => e = .returned (.bool (x.same y)) ∧ Below w.heap.size w w' := by
  have H1 := Lib.hid (fun w' (hb : Below w.heap.size w w') => Pt.impl_equal w' x.pk x.pn x.pt x.pF p c y.pk y.pn y.pt y.pF p2 c2 (hx.below hb) (hy.below hb) (by have := hs.1; have := x.pF.count_le_size; omega) hc hc2)
  have H2 := Lib.hid (fun w' (hb : Below w.heap.size w w') => Ex.impl_equal w' x.ek x.en x.et x.eF q d y.ek y.en y.et y.eF q2 d2 (hx2.below hb) (hy2.below hb) (by have := hs.2; have := x.eF.count_le_size; omega) hd hd2)
  have hz : x.same y = ((x.gd == y.gd) && (x.samePat y && x.sameExpr y)) := rfl
  unfold ClauseD.samePat ClauseD.sameExpr at hz
  generalize (headEq x.pk x.pn x.pt x.pF.length y.pk y.pn y.pt y.pF.length && x.pF.same y.pF) = zp at *
  generalize (headEq x.ek x.en x.et x.eF.length y.ek y.en y.et y.eF.length && x.eF.same y.eF) = ze at *
  generalize x.same y = z at *
  obtain ⟨pk, pn, pt, pF, gd, ek, en, et, eF⟩ := x
  obtain ⟨pk2, pn2, pt2, pF2, gd2, ek2, en2, et2, eF2⟩ := y
  dsimp only at *
  clear hx hy hx2 hy2 hs hc hc2 hd hd2
  obtain ⟨w0, hw0⟩ : ∃ w0, w0 = (w.alloc (.cells #[.int .i64 pk, .int .i64 pn, .string pt, .slice p pF.length c, .bool gd, .int .i64 ek, .int .i64 en, .string et, .slice q eF.length d] 40)).alloc (.cells #[.int .i64 pk2, .int .i64 pn2, .string pt2, .slice p2 pF2.length c2, .bool gd2, .int .i64 ek2, .int .i64 en2, .string et2, .slice q2 eF2.length d2] 40) := ⟨_, rfl⟩
  have hb : Below w.heap.size w w0 := by rw [hw0]; exact ((Below.refl _ _).alloc (Nat.le_refl _) _).alloc (by simp) _
  have hsz : (w.alloc (.cells #[.int .i64 pk, .int .i64 pn, .string pt, .slice p pF.length c, .bool gd, .int .i64 ek, .int .i64 en, .string et, .slice q eF.length d] 40)).heap.size = w.heap.size + 1 := Array.size_push _
  have hr1 : w0.heap[w.heap.size]? = some (.cells #[.int .i64 pk, .int .i64 pn, .string pt, .slice p pF.length c, .bool gd, .int .i64 ek, .int .i64 en, .string et, .slice q eF.length d] 40 (0, 0)) := by
    rw [hw0, Below.heap_alloc _ _ _ (by rw [hsz]; omega)]
    exact heap_at_new w _
  have hr2 : w0.heap[w.heap.size + 1]? = some (.cells #[.int .i64 pk2, .int .i64 pn2, .string pt2, .slice p2 pF2.length c2, .bool gd2, .int .i64 ek2, .int .i64 en2, .string et2, .slice q2 eF2.length d2] 40 (0, 0)) := by
    rw [hw0, ← hsz]
    exact heap_at_new _ _
  have HB := Lib.hid hb
  have HW0 := Lib.hid hw0
  have HCE : Hid (∀ W, Below w0.heap.size w0 W → (W.cell? ⟨w.heap.size, 0, none⟩ = some (.int .i64 pk) ∧ W.cell? ⟨w.heap.size, 1, none⟩ = some (.int .i64 pn) ∧ W.cell? ⟨w.heap.size, 2, none⟩ = some (.string pt) ∧ W.cell? ⟨w.heap.size, 3, none⟩ = some (.slice p pF.length c) ∧ W.cell? ⟨w.heap.size, 4, none⟩ = some (.bool gd) ∧ W.cell? ⟨w.heap.size, 5, none⟩ = some (.int .i64 ek) ∧ W.cell? ⟨w.heap.size, 6, none⟩ = some (.int .i64 en) ∧ W.cell? ⟨w.heap.size, 7, none⟩ = some (.string et) ∧ W.cell? ⟨w.heap.size, 8, none⟩ = some (.slice q eF.length d)) ∧ W.cell? ⟨w.heap.size + 1, 0, none⟩ = some (.int .i64 pk2) ∧ W.cell? ⟨w.heap.size + 1, 1, none⟩ = some (.int .i64 pn2) ∧ W.cell? ⟨w.heap.size + 1, 2, none⟩ = some (.string pt2) ∧ W.cell? ⟨w.heap.size + 1, 3, none⟩ = some (.slice p2 pF2.length c2) ∧ W.cell? ⟨w.heap.size + 1, 4, none⟩ = some (.bool gd2) ∧ W.cell? ⟨w.heap.size + 1, 5, none⟩ = some (.int .i64 ek2) ∧ W.cell? ⟨w.heap.size + 1, 6, none⟩ = some (.int .i64 en2) ∧ W.cell? ⟨w.heap.size + 1, 7, none⟩ = some (.string et2) ∧ W.cell? ⟨w.heap.size + 1, 8, none⟩ = some (.slice q2 eF2.length d2)) := fun W hbW => by
    obtain ⟨h0, h1, h2, h3, h4, h5, h6, h7, h8, _⟩ := nine_cells hr1
    obtain ⟨j0, j1, j2, j3, j4, j5, j6, j7, j8, _⟩ := nine_cells hr2
    exact ⟨⟨cell_below h0 hbW, cell_below h1 hbW, cell_below h2 hbW, cell_below h3 hbW, cell_below h4 hbW, cell_below h5 hbW, cell_below h6 hbW, cell_below h7 hbW, cell_below h8 hbW⟩, cell_below j0 hbW, cell_below j1 hbW, cell_below j2 hbW, cell_below j3 hbW, cell_below j4 hbW, cell_below j5 hbW, cell_below j6 hbW, cell_below j7 hbW, cell_below j8 hbW⟩
  obtain ⟨⟨h0, h1, h2, h3, h4, h5, h6, h7, h8⟩, j0, j1, j2, j3, j4, j5, j6, j7, j8⟩ := HCE.out w0 (Below.refl _ _)
  rw [hw0] at h0 h1 h2 h3 h4 h5 h6 h7 h8 j0 j1 j2 j3 j4 j5 j6 j7 j8
  clear hb hsz hr1 hr2 hw0
  by_cases hg : gd = gd2
  · have hgb : (gd == gd2) = true := by rw [hg]; cases gd2 <;> rfl
    rw [hgb] at hz
    clear hg
    cases zp with
    | false =>
      have HZ : Hid (z = false) := hz
      clear hz H2
      go_enter Try.func14, Try.ntmps14
      go_wp2_with fail
      rw [← HW0.out]
      refine (H1.out _ HB.out).mono ?_
      rintro e w1 ⟨rfl, hb1⟩
      have HB1 : Hid (Below w.heap.size w w1) := HB.out.trans (hb1.mono HB.out.size)
      clear hb1 H1 HCE h0 h1 h2 h3 h4 h5 h6 h7 h8 j0 j1 j2 j3 j4 j5 j6 j7 j8
      go_wp2
      go_ret
      exact ⟨by rw [HZ.out]; rfl, HB1.out⟩
    | true =>
      have HZ : Hid (z = ze) := by unfold Hid; rw [hz]; simp
      clear hz
      go_enter Try.func14, Try.ntmps14
      go_wp2_with fail
      rw [← HW0.out]
      refine (H1.out _ HB.out).mono ?_
      rintro e w1 ⟨rfl, hb1⟩
      have HB01 := Lib.hid hb1
      have HB1 : Hid (Below w.heap.size w w1) := HB.out.trans (hb1.mono HB.out.size)
      clear hb1 H1 h0 h1 h2 h3 h4 h5 h6 h7 h8 j0 j1 j2 j3 j4 j5 j6 j7 j8
      obtain ⟨⟨h0, h1, h2, h3, h4, h5, h6, h7, h8⟩, j0, j1, j2, j3, j4, j5, j6, j7, j8⟩ := HCE.out w1 HB01.out
      go_wp2_with fail
      refine (H2.out _ HB1.out).mono ?_
      rintro e w2 ⟨rfl, hb2⟩
      have HB2 : Hid (Below w.heap.size w w2) := HB1.out.trans (hb2.mono HB1.out.size)
      clear hb2 H2 HCE h0 h1 h2 h3 h4 h5 h6 h7 h8 j0 j1 j2 j3 j4 j5 j6 j7 j8
      go_wp2
      go_ret
      exact ⟨by rw [HZ.out]; rfl, HB2.out⟩
  · have hgb : (gd == gd2) = false := by cases gd <;> cases gd2 <;> first | rfl | exact absurd rfl hg
    rw [hgb] at hz
    have HZ : Hid (z = false) := hz
    clear hz hg H1 H2 HCE
    go_enter Try.func14, Try.ntmps14
    go_wp2
    go_ret
    exact ⟨by rw [HZ.out]; rfl, by rw [← HW0.out]; exact HB.out⟩

set_option maxHeartbeats 1000000 in
set_option maxRecDepth 100000 in
theorem impl_eqClauses (w : World) (F G : List ClauseD) (a b : Option Addr) (c d : Nat) (hx : ClausesAt w F a 0) (hy : ClausesAt w G b 0) (hm : F.length ≤ 1048576) (hsm : ∀ x ∈ F, ClauseD.small x) :
    Calls Try.prog 13 #[.slice a F.length c, .slice b G.length d, .func (.func 14) #[] #[]] w fun e w' => e = .returned (.bool (sameClauses F G)) ∧ Below w.heap.size w w' := by
  by_cases hlen : F.length = G.length
  · have HX := Lib.hid hx
    have HY := Lib.hid hy
    have HSM := Lib.hid hsm
    clear hx hy hsm
    rw [← hlen]
    generalize hz : sameClauses F G = z
    have HZ := Lib.hid hz
    generalize hn : F.length = n at *
    have HN := Lib.hid hn
    have HL := Lib.hid hlen
    clear hz hn hlen
    go_enter Try.func13, Try.ntmps13
    go_wp2
    go_loopw [17] (fun i wr => ∃ (k : Nat) (r s : List ClauseD), i = .int .i64 k ∧ k + r.length = n ∧ Hid (r.length = s.length) ∧ Hid (sameClauses r s = z) ∧ Hid (ClausesAt w r a k) ∧ Hid (ClausesAt w s b k) ∧ Hid (∀ x ∈ r, ClauseD.small x) ∧ Hid (Below w.heap.size w wr)) (fun i _ => n - (intOf i).toNat)
    case atStart => exact ⟨0, F, G, rfl, by rw [HN.out]; omega, by unfold Hid; rw [HN.out]; exact HL.out, HZ, HX, HY, HSM, Below.refl _ _⟩
    case round =>
      obtain ⟨k, r, s, rfl, hkn, hrs, hz, hxr, hyr, hsm, hB⟩ := hrel
      cases r with
      | nil =>
        obtain rfl : k = n := by simp only [List.length_nil] at hkn; omega
        cases s with
        | cons _ _ => have := hrs.out; simp at this
        | nil =>
          obtain rfl : true = z := hz.out
          clear hxr hyr hsm
          go_wp2
          go_ret
          exact ⟨rfl, hB.out⟩
      | cons x r =>
        cases s with
        | nil => have := hrs.out; simp at this
        | cons y s =>
          have hkl : k < n := by simp only [List.length_cons] at hkn; omega
          have hkn2 : k + 1 + r.length = n := by simp only [List.length_cons] at hkn; omega
          have HRS : Hid (r.length = s.length) := by have := hrs.out; simp only [List.length_cons] at this; unfold Hid; omega
          obtain ⟨⟨y0, p, c, q, d, rfl, ⟨h0, h1, h2, h3, h4, h5, h6, h7, h8⟩, hc, hd, hx, hx2⟩, _⟩ := hxr.out.below hB.out
          obtain ⟨⟨y1, p2, c2, q2, d2, rfl, ⟨j0, j1, j2, j3, j4, j5, j6, j7, j8⟩, hc2, hd2, hy, hy2⟩, _⟩ := hyr.out.below hB.out
          have hxr2 : Hid (ClausesAt w r (some y0) (k + 1)) := hxr.out.2
          have hyr2 : Hid (ClausesAt w s (some y1) (k + 1)) := hyr.out.2
          have HSM2 : Hid (∀ u ∈ r, ClauseD.small u) := fun u hu => hsm.out u (by simp [hu])
          have hsx := hsm.out x (by simp)
          have H := Lib.hid (fun W (hb : Below wr.heap.size wr W) => impl_eqClause W x y p c q d p2 c2 q2 d2 (hx.below hb) (hy.below hb) (hx2.below hb) (hy2.below hb) hsx hc hc2 hd hd2)
          have hz2 := hz.out
          simp only [sameClauses] at hz2
          generalize x.same y = hb at *
          obtain ⟨pk, pn, pt, pF, gd, ek, en, et, eF⟩ := x
          obtain ⟨pk2, pn2, pt2, pF2, gd2, ek2, en2, et2, eF2⟩ := y
          dsimp only at *
          have hal : Below wr.heap.size wr ((wr.alloc (.cells #[.int .i64 pk, .int .i64 pn, .string pt, .slice p pF.length c, .bool gd, .int .i64 ek, .int .i64 en, .string et, .slice q eF.length d] 40)).alloc (.cells #[.int .i64 pk2, .int .i64 pn2, .string pt2, .slice p2 pF2.length c2, .bool gd2, .int .i64 ek2, .int .i64 en2, .string et2, .slice q2 eF2.length d2] 40)) := alloc2 _ _ _
          have hal1 : Below wr.heap.size wr (wr.alloc (.cells #[.int .i64 pk, .int .i64 pn, .string pt, .slice p pF.length c, .bool gd, .int .i64 ek, .int .i64 en, .string et, .slice q eF.length d] 40)) := (Below.refl _ _).alloc (Nat.le_refl _) _
          have i0 := cell_below j0 hal1
          have i1 := cell_below j1 hal1
          have i2 := cell_below j2 hal1
          have i3 := cell_below j3 hal1
          have i4 := cell_below j4 hal1
          have i5 := cell_below j5 hal1
          have i6 := cell_below j6 hal1
          have i7 := cell_below j7 hal1
          have i8 := cell_below j8 hal1
          have HAL := Lib.hid hal
          clear hxr hyr hz hrs hkn hal hal1 hx hx2 hy hy2 hc hc2 hd hd2 hsx hsm
          cases hb with
          | false =>
            obtain rfl : false = z := by simpa using hz2
            clear hz2
            go_wp2_with fail
            refine (H.out _ HAL.out).mono ?_
            rintro e w1 ⟨rfl, hb1⟩
            have HB1 : Hid (Below w.heap.size w w1) := (hB.out.trans (HAL.out.mono hB.out.size)).trans (hb1.mono (Nat.le_trans hB.out.size HAL.out.size))
            clear hb1 H HAL
            go_wp2
            go_ret
            exact ⟨rfl, HB1.out⟩
          | true =>
            have HZ2 : Hid (sameClauses r s = z) := by unfold Hid; simpa using hz2
            clear hz2
            go_wp2_with fail
            refine (H.out _ HAL.out).mono ?_
            rintro e w1 ⟨rfl, hb1⟩
            have HB1 : Hid (Below w.heap.size w w1) := (hB.out.trans (HAL.out.mono hB.out.size)).trans (hb1.mono (Nat.le_trans hB.out.size HAL.out.size))
            clear hb1 H HAL
            go_wp2
            go_roundw
            case rel => exact ⟨k + 1, r, s, by go_num, hkn2, HRS, HZ2, hxr2, hyr2, HSM2, HB1⟩
            case measure => simp [intOf]; omega
  · have hz : sameClauses F G = false := by
      cases h : sameClauses F G with
      | false => rfl
      | true => exact absurd (sameClauses_length F G h) hlen
    rw [hz]
    have hne : ((F.length : Int) == (G.length : Int)) = false := by simp; omega
    clear hx hy hz hlen hsm
    go_enter Try.func13, Try.ntmps13
    go_wp2
    go_ret
    exact ⟨rfl, Below.refl _ _⟩

set_option maxHeartbeats 1000000 in
set_option maxRecDepth 100000 in
theorem impl_eqMatch (w : World) (t : ByteArray) (l : List ClauseD) (a : Option Addr) (c : Nat) (t2 : ByteArray) (m : List ClauseD) (b : Option Addr) (d : Nat) (hx : ClausesAt w l a 0) (hy : ClausesAt w m b 0) (hm : l.length ≤ 1048576) (hsm : ∀ x ∈ l, ClauseD.small x) :
    Calls Try.prog 7 #[.agg #[.string t, .slice a l.length c], .agg #[.string t2, .slice b m.length d]] w fun e w' => e = .returned (.bool (sameMatch t l t2 m)) ∧ Below w.heap.size w w' := by
  have hb := alloc2 w (.cells #[.string t, .slice a l.length c] 29) (.cells #[.string t2, .slice b m.length d] 29)
  have HB := Lib.hid hb
  have H := Lib.hid (impl_eqClauses _ l m a b c d (hx.below hb) (hy.below hb) hm hsm)
  have hz : sameMatch t l t2 m = ((t.toList == t2.toList) && sameClauses l m) := rfl
  generalize sameMatch t l t2 m = z at *
  generalize sameClauses l m = s at *
  clear hb hx hy hsm hm
  cases ht : (t.toList == t2.toList) with
  | true =>
    rw [ht] at hz
    have HZ : Hid (z = s) := by unfold Hid; rw [hz]; simp
    clear hz
    go_enter Try.func7, Try.ntmps7
    go_wp2_with fail
    refine H.out.mono ?_
    rintro e w1 ⟨rfl, hb1⟩
    have HB1 : Hid (Below w.heap.size w w1) := HB.out.trans (hb1.mono HB.out.size)
    clear hb1 H
    go_wp2
    go_ret
    exact ⟨by rw [HZ.out]; rfl, HB1.out⟩
  | false =>
    rw [ht] at hz
    have HZ : Hid (z = false) := hz
    clear hz H
    go_enter Try.func7, Try.ntmps7
    go_wp2
    go_ret
    exact ⟨by rw [HZ.out]; rfl, HB.out⟩
end Go.Proofs.Ytcimdhmmgneljaa
