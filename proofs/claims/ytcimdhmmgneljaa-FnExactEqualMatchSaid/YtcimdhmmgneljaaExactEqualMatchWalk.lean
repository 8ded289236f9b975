/- What is proved here: the text of FnExactEqualMatch returns true for every two matches. Condition: none. -/
import Derived.Test.YtcimdhmmgneljaaImplEqMatch
import Derived.Test.YtcimdhmmgneljaaSpecEqMatch
import Derived.Test.YtcimdhmmgneljaaClauseSize
import Derived.Test.YtcimdhmmgneljaaClauseEq
import Derived.Test.YtcimdhmmgneljaaClauseMake
namespace Go.Proofs.Ytcimdhmmgneljaa
open Go.RowKit

theorem clause_le (l : List ClauseD) (h : clausesSize l ≤ 1048576) : l.length ≤ 1048576 ∧ ∀ x ∈ l, ClauseD.small x := by
  unfold clausesSize at h
  refine ⟨by omega, fun x hx => ?_⟩
  have h1 : x.size ≤ clausesIn l := by
    unfold clausesIn
    obtain ⟨A, B, rfl⟩ := List.append_of_mem hx
    simp
    omega
  unfold ClauseD.size at h1
  exact ⟨by omega, by omega⟩

set_option maxHeartbeats 4000000 in
set_option maxRecDepth 100000 in
theorem fnExactEqualMatch_walk (t : ByteArray) (a : Option Addr) (c : Nat) (l : List ClauseD) (t2 : ByteArray) (b : Option Addr) (d : Nat) (m : List ClauseD) (w : World)
    (hx : ClausesAt w l a 0) (hm : l.length ≤ maxLen) (hf : ∀ x ∈ l, ClauseD.fits x) (ht : t.size ≤ maxLen)
    (hy : ClausesAt w m b 0) (hm2 : m.length ≤ maxLen) (hf2 : ∀ x ∈ m, ClauseD.fits x) (ht2 : t2.size ≤ maxLen) :
    Calls Try.prog 3 #[.agg #[.string t, .slice a l.length c], .agg #[.string t2, .slice b m.length d]] w fun e w' => e = .returned (.bool true) ∧ Below w.heap.size w w' := by
  obtain ⟨w0, hw0⟩ : ∃ w0, w0 = (w.alloc (.cells #[.string t, .slice a l.length c] 24)).alloc (.cells #[.string t2, .slice b m.length d] 24) := ⟨_, rfl⟩
  have hb : Below w.heap.size w w0 := by rw [hw0]; exact alloc2 _ _ _
  have hsz : (w.alloc (.cells #[.string t, .slice a l.length c] 24)).heap.size = w.heap.size + 1 := Array.size_push _
  have hr1 : w0.heap[w.heap.size]? = some (.cells #[.string t, .slice a l.length c] 24 (0, 0)) := by
    rw [hw0, Below.heap_alloc _ _ _ (by rw [hsz]; omega)]
    exact heap_at_new w _
  have hr2 : w0.heap[w.heap.size + 1]? = some (.cells #[.string t2, .slice b m.length d] 24 (0, 0)) := by
    rw [hw0, ← hsz]
    exact heap_at_new _ _
  have HW0 := Lib.hid hw0
  have HB0 := Lib.hid hb
  have HCE : Hid (∀ W, Below w0.heap.size w0 W → (W.cell? ⟨w.heap.size, 0, none⟩ = some (.string t) ∧ W.cell? ⟨w.heap.size, 1, none⟩ = some (.slice a l.length c)) ∧ W.cell? ⟨w.heap.size + 1, 0, none⟩ = some (.string t2) ∧ W.cell? ⟨w.heap.size + 1, 1, none⟩ = some (.slice b m.length d)) := fun W hbW => by
    obtain ⟨h0, h1, _⟩ := pair_cells hr1
    obtain ⟨j0, j1, _⟩ := pair_cells hr2
    exact ⟨⟨cell_below h0 hbW, cell_below h1 hbW⟩, cell_below j0 hbW, cell_below j1 hbW⟩
  have HX := Lib.hid (hx.below hb)
  have HY := Lib.hid (hy.below hb)
  have H0 := szMatch_any 1048576 (Nat.le_refl _) w0 t l ht hf hm a c HX.out
  clear hw0 hsz hr1 hr2 hx hy hb
  by_cases hsz : t.size + clausesSize l ≤ 1048576
  · rw [left_yes hsz] at H0
    have hL1 : 1048576 - (t.size + clausesSize l) ≤ 1048576 := by omega
    have hl := clause_le l (by omega)
    have hls : clausesSize l ≤ 1048576 := by omega
    generalize 1048576 - (t.size + clausesSize l) = L1 at *
    have H1 := fun w' (hb : Below w0.heap.size w0 w') => szMatch_any L1 hL1 w' t2 m ht2 hf2 hm2 b d (HY.out.below hb)
    by_cases hsz2 : t2.size + clausesSize m ≤ L1
    · rw [left_yes hsz2] at H1
      have hL2 : L1 - (t2.size + clausesSize m) ≤ 1048576 := by omega
      have hk := clause_le m (by omega)
      have hms : clausesSize m ≤ 1048576 := by omega
      generalize L1 - (t2.size + clausesSize m) = L2 at *
      have HTA := Lib.hid (fun w' (hb : Below w0.heap.size w0 w') => toMatch_any w' t l hf hl.1 hls a c (HX.out.below hb))
      have HTB := Lib.hid (fun w' (hb : Below w0.heap.size w0 w') => toMatch_any w' t2 m hf2 hk.1 hms b d (HY.out.below hb))
      have HS := fun w' p cp p2 cp2 (hx : ClausesAt w' l p 0) (hy : ClausesAt w' m p2 0) => spec_eqMatch w' t l p cp t2 m p2 cp2 hx hy hl.1 hl.2
      have HI := fun w' p cp p2 cp2 (hx : ClausesAt w' l p 0) (hy : ClausesAt w' m p2 0) => impl_eqMatch w' t l p cp t2 m p2 cp2 hx hy hl.1 hl.2
      have HEA := Lib.hid (fun w' p p2 cp cp2 (hx : ClausesAt w' l p 0) (hy : ClausesAt w' l p2 0) => eqMatch_same w' t l hf hm p p2 cp cp2 hx hy)
      have HEB := Lib.hid (fun w' p p2 cp cp2 (hx : ClausesAt w' m p 0) (hy : ClausesAt w' m p2 0) => eqMatch_same w' t2 m hf2 hm2 p p2 cp cp2 hx hy)
      generalize sameMatch t l t2 m = z at HS HI
      have HHS := Lib.hid HS
      have HHI := Lib.hid HI
      have HH1 := Lib.hid H1
      clear HS HI H1 hsz hsz2 hf hf2 hm hm2 ht ht2 hl hk hls hms
      obtain ⟨⟨v0, v1⟩, u0, u1⟩ := HCE.out w0 (Below.refl _ _)
      rw [HW0.out] at v0 v1 u0 u1
      go_enter Try.func3, Try.ntmps3
      go_wp2_with fail
      rw [← HW0.out]
      refine H0.mono ?_
      rintro e w1 ⟨rfl, hb1⟩
      have HB1 := Lib.hid hb1
      clear v0 v1 u0 u1 hb1 H0
      obtain ⟨⟨v0, v1⟩, u0, u1⟩ := HCE.out w1 HB1.out
      go_wp2_with fail
      refine (HH1.out w1 HB1.out).mono ?_
      rintro e w2 ⟨rfl, hb2⟩
      have HB2 : Hid (Below w0.heap.size w0 w2) := HB1.out.trans (hb2.mono HB1.out.size)
      have HB2d : Hid (Below w0.heap.size w0 w2.drew) := HB2.out.drew
      clear v0 v1 u0 u1 hb2 HH1
      obtain ⟨⟨v0, v1⟩, u0, u1⟩ := HCE.out w2 HB2.out
      go_wp2
      go_region_held3 (fun W => (W.cell? ⟨w.heap.size, 0, none⟩ = some (.string t) ∧ W.cell? ⟨w.heap.size, 1, none⟩ = some (.slice a l.length c)) ∧ W.cell? ⟨w.heap.size + 1, 0, none⟩ = some (.string t2) ∧ W.cell? ⟨w.heap.size + 1, 1, none⟩ = some (.slice b m.length d))
        (first
          | go_keep
          | (have hkeep := HCE.out _ HBE.out; exact hkeep)
          | (have hkeep := HCE.out _ HBB.out; exact hkeep)
          | (have hkeep := HCE.out _ HBA.out; exact hkeep)
          | fail "no arm")
        (first
          | (go_at_call 6; (with_reducible refine (HTA.out w2.drew HB2d.out).mono ?_); rintro e wa ⟨⟨pa, ca, rfl, hla, hxa⟩, hba⟩; have HRA := Lib.hid hxa; have HBA : Hid (Below w0.heap.size w0 wa) := Below.trans HB2d.out (hba.mono HB2d.out.size); clear hxa hba hla)
          | (go_at_call 6; (with_reducible refine (HTB.out wa HBA.out).mono ?_); rintro e wb ⟨⟨pb, cb, rfl, hlb, hxb⟩, hbb⟩; have HRB := Lib.hid hxb; have HRA2 := Lib.hid (ClausesAt.below HRA.out hbb); have HBB : Hid (Below w0.heap.size w0 wb) := Below.trans HBA.out (hbb.mono HBA.out.size); clear hxb hbb hlb)
          | (go_at_call 5; (with_reducible refine (HHS.out wb pa ca pb cb HRA2.out HRB.out).mono ?_); rintro e we ⟨rfl, hbe⟩; have HBE : Hid (Below w0.heap.size w0 we) := Below.trans HBB.out (hbe.mono HBB.out.size); clear hbe)
          | fail "no arm")
      clear v0 v1 u0 u1
      obtain ⟨⟨v0, v1⟩, u0, u1⟩ := HCE.out we HBE.out
      go_wp2_with fail
      refine (HTA.out we HBE.out).mono ?_
      rintro e w3 ⟨⟨pc, cc, rfl, hlc, hrc⟩, hb3⟩
      obtain ⟨w4, hw4⟩ : ∃ w4, w4 = w3.alloc (.cells #[.string t, .slice pc l.length cc] 29) := ⟨_, rfl⟩
      have hB4 : Below w3.heap.size w3 w4 := by rw [hw4]; exact (Below.refl _ _).alloc (Nat.le_refl _) _
      have hn4 : w4.heap[w3.heap.size]? = some (.cells #[.string t, .slice pc l.length cc] 29 (0, 0)) := by rw [hw4]; exact heap_at_new w3 _
      have HB3 : Hid (Below w0.heap.size w0 w3) := HBE.out.trans (hb3.mono HBE.out.size)
      have HB4 : Hid (Below w0.heap.size w0 w4) := HB3.out.trans (hB4.mono HB3.out.size)
      have HC4 : Hid (∀ W, Below w4.heap.size w4 W → (W.cell? ⟨w3.heap.size, 0, none⟩ = some (.string t) ∧ W.cell? ⟨w3.heap.size, 1, none⟩ = some (.slice pc l.length cc)) ∧ ClausesAt W l pc 0) := fun W hbW => by
        obtain ⟨h0, h1, _⟩ := pair_cells hn4
        exact ⟨⟨cell_below h0 hbW, cell_below h1 hbW⟩, (hrc.below hB4).below hbW⟩
      have HW4 := Lib.hid hw4
      clear v0 v1 u0 u1 hb3 hB4 hn4 hw4 hrc hlc
      obtain ⟨⟨v0, v1⟩, u0, u1⟩ := HCE.out w4 HB4.out
      rw [HW4.out] at v0 v1 u0 u1
      go_wp2_with fail
      rw [← HW4.out]
      refine (HTB.out w4 HB4.out).mono ?_
      rintro e w5 ⟨⟨pd, cd, rfl, hld, hrd⟩, hb5⟩
      obtain ⟨w6, hw6⟩ : ∃ w6, w6 = w5.alloc (.cells #[.string t2, .slice pd m.length cd] 29) := ⟨_, rfl⟩
      have hB6 : Below w5.heap.size w5 w6 := by rw [hw6]; exact (Below.refl _ _).alloc (Nat.le_refl _) _
      have hn6 : w6.heap[w5.heap.size]? = some (.cells #[.string t2, .slice pd m.length cd] 29 (0, 0)) := by rw [hw6]; exact heap_at_new w5 _
      have hB56 : Below w4.heap.size w4 w6 := hb5.trans (hB6.mono hb5.size)
      have HB6 : Hid (Below w0.heap.size w0 w6) := HB4.out.trans (hB56.mono HB4.out.size)
      have HC6 : Hid (∀ W, Below w6.heap.size w6 W → ((W.cell? ⟨w3.heap.size, 0, none⟩ = some (.string t) ∧ W.cell? ⟨w3.heap.size, 1, none⟩ = some (.slice pc l.length cc)) ∧ ClausesAt W l pc 0) ∧ (W.cell? ⟨w5.heap.size, 0, none⟩ = some (.string t2) ∧ W.cell? ⟨w5.heap.size, 1, none⟩ = some (.slice pd m.length cd)) ∧ ClausesAt W m pd 0) := fun W hbW => by
        obtain ⟨h0, h1, _⟩ := pair_cells hn6
        exact ⟨HC4.out W (hB56.trans (hbW.mono hB56.size)), ⟨cell_below h0 hbW, cell_below h1 hbW⟩, (hrd.below hB6).below hbW⟩
      have HW6 := Lib.hid hw6
      clear v0 v1 u0 u1 hb5 hB6 hB56 hn6 hw6 hrd hld HC4 HW4
      obtain ⟨⟨⟨x0, x1⟩, hx⟩, ⟨y0, y1⟩, hy⟩ := HC6.out w6 (Below.refl _ _)
      have HXX := Lib.hid hx
      have HYY := Lib.hid hy
      rw [HW6.out] at x0 x1 y0 y1
      clear hx hy
      go_wp2_with fail
      rw [← HW6.out]
      refine (HHI.out w6 pc cc pd cd HXX.out HYY.out).mono ?_
      rintro e w7 ⟨rfl, hb7⟩
      have HB67 : Hid (Below w6.heap.size w6 w7) := hb7
      have HB7 : Hid (Below w0.heap.size w0 w7) := HB6.out.trans (hb7.mono HB6.out.size)
      have HB7d : Hid (Below w0.heap.size w0 w7.drew) := HB7.out.drew
      have HB67d : Hid (Below w6.heap.size w6 w7.drew) := HB67.out.drew
      clear x0 x1 y0 y1 hb7 HHI HHS HXX HYY
      have HS7 : Hid (∀ W, Below w7.heap.size w7 W → ((W.cell? ⟨w.heap.size, 0, none⟩ = some (.string t) ∧ W.cell? ⟨w.heap.size, 1, none⟩ = some (.slice a l.length c)) ∧ W.cell? ⟨w3.heap.size, 0, none⟩ = some (.string t) ∧ W.cell? ⟨w3.heap.size, 1, none⟩ = some (.slice pc l.length cc))) := fun W hb => ⟨(HCE.out W (HB7.out.trans (hb.mono HB7.out.size))).1, (HC6.out W (HB67.out.trans (hb.mono HB67.out.size))).1.1⟩
      obtain ⟨⟨v0, v1⟩, x0, x1⟩ := HS7.out w7 (Below.refl _ _)
      go_wp2
      go_region_held3 (fun W => (W.cell? ⟨w.heap.size, 0, none⟩ = some (.string t) ∧ W.cell? ⟨w.heap.size, 1, none⟩ = some (.slice a l.length c)) ∧ W.cell? ⟨w3.heap.size, 0, none⟩ = some (.string t) ∧ W.cell? ⟨w3.heap.size, 1, none⟩ = some (.slice pc l.length cc))
        (first
          | go_keep
          | (have hkeep := HS7.out _ HB79.out; exact hkeep)
          | (have hkeep := HS7.out _ HB78.out; exact hkeep)
          | fail "no arm")
        (first
          | (go_at_call 6; (with_reducible refine (HTA.out w7.drew HB7d.out).mono ?_); rintro e w8 ⟨⟨pe, ce, rfl, hle, hre⟩, hb8⟩; have HRE := Lib.hid hre; have HB78 : Hid (Below w7.heap.size w7 w8) := below_of_drew hb8; clear hre hle hb8)
          | (go_at_call 8; (with_reducible refine (HEA.out w8 pc pe cc ce (HC6.out w8 (Below.trans HB67.out (Below.mono HB78.out HB67.out.size))).1.2 HRE.out).mono ?_); rintro e w9 ⟨rfl, hb9⟩; have HB79 : Hid (Below w7.heap.size w7 w9) := Below.trans HB78.out (hb9.mono HB78.out.size); clear hb9)
          | fail "no arm")
      clear v0 v1 x0 x1 HS7
      have HB9 : Hid (Below w0.heap.size w0 w9) := HB7.out.trans (HB79.out.mono HB7.out.size)
      have HB69 : Hid (Below w6.heap.size w6 w9) := HB67.out.trans (HB79.out.mono HB67.out.size)
      have HB9d : Hid (Below w0.heap.size w0 w9.drew) := HB9.out.drew
      have HS9 : Hid (∀ W, Below w9.heap.size w9 W → ((W.cell? ⟨w.heap.size + 1, 0, none⟩ = some (.string t2) ∧ W.cell? ⟨w.heap.size + 1, 1, none⟩ = some (.slice b m.length d)) ∧ W.cell? ⟨w5.heap.size, 0, none⟩ = some (.string t2) ∧ W.cell? ⟨w5.heap.size, 1, none⟩ = some (.slice pd m.length cd))) := fun W hb => ⟨(HCE.out W (HB9.out.trans (hb.mono HB9.out.size))).2, (HC6.out W (HB69.out.trans (hb.mono HB69.out.size))).2.1⟩
      obtain ⟨⟨v0, v1⟩, x0, x1⟩ := HS9.out w9 (Below.refl _ _)
      go_wp2
      go_region_held3 (fun W => (W.cell? ⟨w.heap.size + 1, 0, none⟩ = some (.string t2) ∧ W.cell? ⟨w.heap.size + 1, 1, none⟩ = some (.slice b m.length d)) ∧ W.cell? ⟨w5.heap.size, 0, none⟩ = some (.string t2) ∧ W.cell? ⟨w5.heap.size, 1, none⟩ = some (.slice pd m.length cd))
        (first
          | go_keep
          | (have hkeep := HS9.out _ HB911.out; exact hkeep)
          | (have hkeep := HS9.out _ HB910.out; exact hkeep)
          | fail "no arm")
        (first
          | (go_at_call 6; (with_reducible refine (HTB.out w9.drew HB9d.out).mono ?_); rintro e w10 ⟨⟨pf, cf, rfl, hlf, hrf⟩, hb10⟩; have HRF := Lib.hid hrf; have HB910 : Hid (Below w9.heap.size w9 w10) := below_of_drew hb10; clear hrf hlf hb10)
          | (go_at_call 8; (with_reducible refine (HEB.out w10 pd pf cd cf (HC6.out w10 (Below.trans HB69.out (Below.mono HB910.out HB69.out.size))).2.2 HRF.out).mono ?_); rintro e w11 ⟨rfl, hb11⟩; have HB911 : Hid (Below w9.heap.size w9 w11) := Below.trans HB910.out (hb11.mono HB910.out.size); clear hb11)
          | fail "no arm")
      have HB11 : Hid (Below w0.heap.size w0 w11) := HB9.out.trans (HB911.out.mono HB9.out.size)
      clear v0 v1 x0 x1 HS9
      go_wp2
      go_ret
      exact ⟨rfl, HB0.out.trans (HB11.out.mono HB0.out.size)⟩
    · rw [left_no hsz2] at H1
      have HH1 := Lib.hid H1
      clear H1 hsz hsz2 hf hf2 hm hm2 ht ht2 hl hls
      obtain ⟨⟨v0, v1⟩, u0, u1⟩ := HCE.out w0 (Below.refl _ _)
      rw [HW0.out] at v0 v1 u0 u1
      go_enter Try.func3, Try.ntmps3
      go_wp2_with fail
      rw [← HW0.out]
      refine H0.mono ?_
      rintro e w1 ⟨rfl, hb1⟩
      have HB1 := Lib.hid hb1
      clear v0 v1 u0 u1 hb1 H0
      obtain ⟨⟨v0, v1⟩, u0, u1⟩ := HCE.out w1 HB1.out
      go_wp2_with fail
      refine (HH1.out w1 HB1.out).mono ?_
      rintro e w2 ⟨rfl, hb2⟩
      have HB2 : Hid (Below w0.heap.size w0 w2) := HB1.out.trans (hb2.mono HB1.out.size)
      clear hb2 HH1 v0 v1 u0 u1
      go_wp2
      go_ret
      exact ⟨rfl, HB0.out.trans (HB2.out.mono HB0.out.size)⟩
  · rw [left_no hsz] at H0
    clear hsz hf hf2 hm hm2 ht ht2
    obtain ⟨⟨v0, v1⟩, u0, u1⟩ := HCE.out w0 (Below.refl _ _)
    rw [HW0.out] at v0 v1 u0 u1
    go_enter Try.func3, Try.ntmps3
    go_wp2_with fail
    rw [← HW0.out]
    refine H0.mono ?_
    rintro e w1 ⟨rfl, hb1⟩
    have HB1 := Lib.hid hb1
    clear hb1 H0 v0 v1 u0 u1
    go_wp2
    go_ret
    exact ⟨rfl, HB0.out.trans (HB1.out.mono HB0.out.size)⟩
end Go.Proofs.Ytcimdhmmgneljaa
