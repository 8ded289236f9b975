/- What is proved here: the laws' comparison of clauses and of a match (eqClause, eqClauseS, eqMatch) returns true where both read alike. Condition: they lie in memory as said. -/
import Derived.Test.YtcimdhmmgneljaaClauses
import Derived.Test.YtcimdhmmgneljaaPtTreeEq
import Derived.Test.YtcimdhmmgneljaaExTreeEq
import Derived.Deep.RegionHeld3
namespace Go.Proofs.Ytcimdhmmgneljaa
open Go.RowKit

set_option maxHeartbeats 2000000 in
set_option maxRecDepth 100000 in
theorem eqClause_same (w : World) (x : ClauseD) (p p2 : Option Addr) (cap cap2 : Nat) (q q2 : Option Addr) (cq cq2 : Nat) (hf : x.fits) (hx : TreesAt w x.pF p 0) (hy : TreesAt w x.pF p2 0) (hx2 : TreesAt w x.eF q 0) (hy2 : TreesAt w x.eF q2 0) :
    Calls Try.prog 20 #[.agg #[.int .i64 x.pk, .int .i64 x.pn, .string x.pt, .slice p x.pF.length cap, .bool x.gd, .int .i64 x.ek, .int .i64 x.en, .string x.et, .slice q x.eF.length cq], .agg #[.int .i64 x.pk, .int .i64 x.pn, .string x.pt, .slice p2 x.pF.length cap2, .bool x.gd, .int .i64 x.ek, .int .i64 x.en, .string x.et, .slice q2 x.eF.length cq2]] w fun e w' => e = .returned (.bool true) ∧ Below w.heap.size w w' := by
  obtain ⟨pk, pn, pt, pF, gd, ek, en, et, eF⟩ := x
  obtain ⟨⟨_, _, f2, f3, f4⟩, _, _, f7, f8, f9⟩ := hf
  have H := Lib.hid (fun w' (hb : Below w.heap.size w w') => Pt.eqValue_same w' pk pn pt pF p p2 cap cap2 f4 f3 (hx.below hb) (hy.below hb))
  have H2 := Lib.hid (fun w' (hb : Below w.heap.size w w') => Ex.eqValue_same w' ek en et eF q q2 cq cq2 f9 f8 (hx2.below hb) (hy2.below hb))
  dsimp only at *
  obtain ⟨w0, hw0⟩ : ∃ w0, w0 = (w.alloc (.cells #[.int .i64 pk, .int .i64 pn, .string pt, .slice p pF.length cap, .bool gd, .int .i64 ek, .int .i64 en, .string et, .slice q eF.length cq] 40)).alloc (.cells #[.int .i64 pk, .int .i64 pn, .string pt, .slice p2 pF.length cap2, .bool gd, .int .i64 ek, .int .i64 en, .string et, .slice q2 eF.length cq2] 40) := ⟨_, rfl⟩
  have hb : Below w.heap.size w w0 := by rw [hw0]; exact ((Below.refl _ _).alloc (Nat.le_refl _) _).alloc (by simp) _
  have hz : (w.alloc (.cells #[.int .i64 pk, .int .i64 pn, .string pt, .slice p pF.length cap, .bool gd, .int .i64 ek, .int .i64 en, .string et, .slice q eF.length cq] 40)).heap.size = w.heap.size + 1 := Array.size_push _
  have hr1 : w0.heap[w.heap.size]? = some (.cells #[.int .i64 pk, .int .i64 pn, .string pt, .slice p pF.length cap, .bool gd, .int .i64 ek, .int .i64 en, .string et, .slice q eF.length cq] 40 (0, 0)) := by
    rw [hw0, Below.heap_alloc _ _ _ (by rw [hz]; omega)]
    exact heap_at_new w _
  have hr2 : w0.heap[w.heap.size + 1]? = some (.cells #[.int .i64 pk, .int .i64 pn, .string pt, .slice p2 pF.length cap2, .bool gd, .int .i64 ek, .int .i64 en, .string et, .slice q2 eF.length cq2] 40 (0, 0)) := by
    rw [hw0, ← hz]
    exact heap_at_new _ _
  have HB := Lib.hid hb
  have HW0 := Lib.hid hw0
  have HCE : Hid (∀ W, Below w0.heap.size w0 W → (W.cell? ⟨w.heap.size, 0, none⟩ = some (.int .i64 pk) ∧ W.cell? ⟨w.heap.size, 1, none⟩ = some (.int .i64 pn) ∧ W.cell? ⟨w.heap.size, 2, none⟩ = some (.string pt) ∧ W.cell? ⟨w.heap.size, 3, none⟩ = some (.slice p pF.length cap) ∧ W.cell? ⟨w.heap.size, 4, none⟩ = some (.bool gd) ∧ W.cell? ⟨w.heap.size, 5, none⟩ = some (.int .i64 ek) ∧ W.cell? ⟨w.heap.size, 6, none⟩ = some (.int .i64 en) ∧ W.cell? ⟨w.heap.size, 7, none⟩ = some (.string et) ∧ W.cell? ⟨w.heap.size, 8, none⟩ = some (.slice q eF.length cq)) ∧ W.cell? ⟨w.heap.size + 1, 0, none⟩ = some (.int .i64 pk) ∧ W.cell? ⟨w.heap.size + 1, 1, none⟩ = some (.int .i64 pn) ∧ W.cell? ⟨w.heap.size + 1, 2, none⟩ = some (.string pt) ∧ W.cell? ⟨w.heap.size + 1, 3, none⟩ = some (.slice p2 pF.length cap2) ∧ W.cell? ⟨w.heap.size + 1, 4, none⟩ = some (.bool gd) ∧ W.cell? ⟨w.heap.size + 1, 5, none⟩ = some (.int .i64 ek) ∧ W.cell? ⟨w.heap.size + 1, 6, none⟩ = some (.int .i64 en) ∧ W.cell? ⟨w.heap.size + 1, 7, none⟩ = some (.string et) ∧ W.cell? ⟨w.heap.size + 1, 8, none⟩ = some (.slice q2 eF.length cq2)) := fun W hbW => by
    obtain ⟨h0, h1, h2, h3, h4, h5, h6, h7, h8, _⟩ := nine_cells hr1
    obtain ⟨k0, k1, k2, k3, k4, k5, k6, k7, k8, _⟩ := nine_cells hr2
    exact ⟨⟨cell_below h0 hbW, cell_below h1 hbW, cell_below h2 hbW, cell_below h3 hbW, cell_below h4 hbW, cell_below h5 hbW, cell_below h6 hbW, cell_below h7 hbW, cell_below h8 hbW⟩, cell_below k0 hbW, cell_below k1 hbW, cell_below k2 hbW, cell_below k3 hbW, cell_below k4 hbW, cell_below k5 hbW, cell_below k6 hbW, cell_below k7 hbW, cell_below k8 hbW⟩
  have hgg : (gd != gd) = false := by cases gd <;> rfl
  obtain ⟨⟨h0, h1, h2, h3, h4, h5, h6, h7, h8⟩, k0, k1, k2, k3, k4, k5, k6, k7, k8⟩ := HCE.out w0 (Below.refl _ _)
  rw [hw0] at h0 h1 h2 h3 h4 h5 h6 h7 h8 k0 k1 k2 k3 k4 k5 k6 k7 k8
  clear hx hy hx2 hy2 f2 f3 f4 f7 f8 f9 hb hz hr1 hr2 hw0
  go_enter Try.func20, Try.ntmps20
  go_wp2_with fail
  rw [← HW0.out]
  refine (H.out _ HB.out).mono ?_
  rintro e w1 ⟨rfl, hb1⟩
  have HB1 := Lib.hid hb1
  clear hb1 H h0 h1 h2 h3 h4 h5 h6 h7 h8 k0 k1 k2 k3 k4 k5 k6 k7 k8
  obtain ⟨⟨h0, h1, h2, h3, h4, h5, h6, h7, h8⟩, k0, k1, k2, k3, k4, k5, k6, k7, k8⟩ := HCE.out w1 HB1.out
  have HB2 : Hid (Below w.heap.size w w1) := HB.out.trans (HB1.out.mono HB.out.size)
  go_wp2_with fail
  refine (H2.out _ HB2.out).mono ?_
  rintro e w2 ⟨rfl, hb2⟩
  have HB3 : Hid (Below w.heap.size w w2) := HB2.out.trans (hb2.mono HB2.out.size)
  clear hb2 H2 HCE h0 h1 h2 h3 h4 h5 h6 h7 h8 k0 k1 k2 k3 k4 k5 k6 k7 k8
  go_wp2
  go_ret
  exact ⟨rfl, HB3.out⟩

set_option maxHeartbeats 2000000 in
set_option maxRecDepth 100000 in
theorem eqClauseS_same (l : List ClauseD) (hfit : ∀ x ∈ l, x.fits) (hm : l.length ≤ maxLen) (w : World) (a b : Option Addr) (cap cap2 : Nat) (hx : ClausesAt w l a 0) (hy : ClausesAt w l b 0) :
    Calls Try.prog 15 #[.slice a l.length cap, .slice b l.length cap2] w fun e w' => e = .returned (.bool true) ∧ Below w.heap.size w w' := by
  unfold maxLen at hm
  have HX := Lib.hid hx
  have HY := Lib.hid hy
  have HF := Lib.hid hfit
  clear hx hy hfit
  generalize hn : l.length = n at *
  have HN := Lib.hid hn
  clear hn
  go_enter Try.func15, Try.ntmps15
  go_wp2
  go_loopw [5] (fun i wr => ∃ (k : Nat) (rest : List ClauseD), i = .int .i64 k ∧ k + rest.length = n ∧ Hid (ClausesAt w rest a k) ∧ Hid (ClausesAt w rest b k) ∧ Hid (∀ x ∈ rest, ClauseD.fits x) ∧ Hid (Below w.heap.size w wr)) (fun i _ => n - (intOf i).toNat)
  case atStart => exact ⟨0, l, rfl, by rw [HN.out]; omega, HX, HY, HF, Below.refl _ _⟩
  case round =>
    obtain ⟨k, rest, rfl, hkn, hxr, hyr, hfr, hB⟩ := hrel
    cases rest with
    | cons x r =>
      have hkl : k < n := by simp only [List.length_cons] at hkn; omega
      have hkn2 : k + 1 + r.length = n := by simp only [List.length_cons] at hkn; omega
      obtain ⟨⟨y, p, cp, q, cq, rfl, ⟨h0, h1, h2, h3, h4, h5, h6, h7, h8⟩, hl, hlb, hs, hsb⟩, hr⟩ := hxr.out.below hB.out
      obtain ⟨⟨z, p2, cp2, q2, cq2, rfl, ⟨j0, j1, j2, j3, j4, j5, j6, j7, j8⟩, hl2, hl2b, hs2, hs2b⟩, hr2⟩ := hyr.out.below hB.out
      have hfx := hfr.out x (by simp)
      have HR2 : Hid (∀ u ∈ r, ClauseD.fits u) := fun u hu => hfr.out u (by simp [hu])
      have hxr2 : Hid (ClausesAt w r (some y) (k + 1)) := hxr.out.2
      have hyr2 : Hid (ClausesAt w r (some z) (k + 1)) := hyr.out.2
      have H := fun (w' : World) (h : Below wr.heap.size wr w') => eqClause_same w' x p p2 cp cp2 q q2 cq cq2 hfx (hs.below h) (hs2.below h) (hsb.below h) (hs2b.below h)
      obtain ⟨pk, pn, pt, pF, gd, ek, en, et, eF⟩ := x
      clear hxr hyr hfr hs hsb hr hs2 hs2b hr2 hfx hkn hl hlb hl2 hl2b
      dsimp only at *
      go_wp2
      go_region_held3 (fun w' => (w'.cell? (y.add (k * 9)) = some (.int .i64 pk) ∧ w'.cell? (clAt y k 1) = some (.int .i64 pn) ∧ w'.cell? (clAt y k 2) = some (.string pt) ∧ w'.cell? (clAt y k 3) = some (.slice p pF.length cp) ∧ w'.cell? (clAt y k 4) = some (.bool gd) ∧ w'.cell? (clAt y k 5) = some (.int .i64 ek) ∧ w'.cell? (clAt y k 6) = some (.int .i64 en) ∧ w'.cell? (clAt y k 7) = some (.string et) ∧ w'.cell? (clAt y k 8) = some (.slice q eF.length cq)) ∧ w'.cell? (z.add (k * 9)) = some (.int .i64 pk) ∧ w'.cell? (clAt z k 1) = some (.int .i64 pn) ∧ w'.cell? (clAt z k 2) = some (.string pt) ∧ w'.cell? (clAt z k 3) = some (.slice p2 pF.length cp2) ∧ w'.cell? (clAt z k 4) = some (.bool gd) ∧ w'.cell? (clAt z k 5) = some (.int .i64 ek) ∧ w'.cell? (clAt z k 6) = some (.int .i64 en) ∧ w'.cell? (clAt z k 7) = some (.string et) ∧ w'.cell? (clAt z k 8) = some (.slice q2 eF.length cq2))
        (first
          | go_keep
          | (refine ⟨⟨cell_below ?_ hbl, cell_below ?_ hbl, cell_below ?_ hbl, cell_below ?_ hbl, cell_below ?_ hbl, cell_below ?_ hbl, cell_below ?_ hbl, cell_below ?_ hbl, cell_below ?_ hbl⟩, cell_below ?_ hbl, cell_below ?_ hbl, cell_below ?_ hbl, cell_below ?_ hbl, cell_below ?_ hbl, cell_below ?_ hbl, cell_below ?_ hbl, cell_below ?_ hbl, cell_below ?_ hbl⟩ <;> assumption)
          | fail "no arm")
        (first
          | (go_at_call 20; refine (H _ ((Below.refl _ _).drew)).mono ?_; rintro e w1 ⟨rfl, hbl⟩)
          | fail "no arm")
      have HB1 : Hid (Below w.heap.size w w1) := hB.out.trans ((below_of_drew hbl).mono hB.out.size)
      clear hbl H
      go_wp2
      go_roundw
      case rel => exact ⟨k + 1, r, by go_num, hkn2, hxr2, hyr2, HR2, HB1⟩
      case measure => simp [intOf]; omega
    | nil =>
      obtain rfl : k = n := by simp only [List.length_nil] at hkn; omega
      clear hxr hyr hfr
      go_wp2
      go_ret
      exact ⟨rfl, hB.out⟩

set_option maxHeartbeats 1000000 in
set_option maxRecDepth 100000 in
theorem eqMatch_same (w : World) (ty : ByteArray) (l : List ClauseD) (hfit : ∀ x ∈ l, x.fits) (hm : l.length ≤ maxLen) (a b : Option Addr) (cap cap2 : Nat) (hx : ClausesAt w l a 0) (hy : ClausesAt w l b 0) :
    Calls Try.prog 8 #[.agg #[.string ty, .slice a l.length cap], .agg #[.string ty, .slice b l.length cap2]] w fun e w' => e = .returned (.bool true) ∧ Below w.heap.size w w' := by
  have H := fun w' (hb : Below w.heap.size w w') => eqClauseS_same l hfit hm w' a b cap cap2 (hx.below hb) (hy.below hb)
  have hb : Below w.heap.size w ((w.alloc (.cells #[.string ty, .slice a l.length cap] 29)).alloc (.cells #[.string ty, .slice b l.length cap2] 29)) := ((Below.refl _ _).alloc (Nat.le_refl _) _).alloc (by simp) _
  have HB := Lib.hid hb
  clear hb hx hy hfit hm
  have he : (ty.toList == ty.toList) = true := by simp
  go_enter Try.func8, Try.ntmps8
  go_wp2_with fail
  refine (H _ HB.out).mono ?_
  rintro e w1 ⟨rfl, hb1⟩
  have HB1 : Hid (Below w.heap.size w w1) := HB.out.trans (hb1.mono HB.out.size)
  clear hb1 H
  go_wp2
  go_ret
  exact ⟨rfl, HB1.out⟩
end Go.Proofs.Ytcimdhmmgneljaa
