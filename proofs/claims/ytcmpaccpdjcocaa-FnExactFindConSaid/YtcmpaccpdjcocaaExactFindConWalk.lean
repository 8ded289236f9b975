/- What is proved here: the text of FnExactFindCon returns true for every signature and text. Condition: none. -/
import Derived.Test.YtcmpaccpdjcocaaImplFindCon
import Derived.Test.YtcmpaccpdjcocaaSmallCon
import Derived.Test.YtcmpaccpdjcocaaSigSize
import Derived.Test.YtcmpaccpdjcocaaSigEq
import Derived.Test.YtcmpaccpdjcocaaSigHeld
import Derived.Deep.RegionHeld3
namespace Go.Proofs.Ytcmpaccpdjcocaa
open Go.RowKit

/-- The cells of the law's four variables: the argument, the model's answer, the copied signature, the program's answer. -/
def Six (n0 n6 n8 n9 : Nat) (x2 x60 x61 x8 x90 x91 : Value) (w : World) : Prop :=
  w.cell? ⟨n0, 0, none⟩ = some x2 ∧ w.cell? ⟨n6, 0, none⟩ = some x60 ∧ w.cell? ⟨n6, 1, none⟩ = some x61 ∧ w.cell? ⟨n8, 0, none⟩ = some x8 ∧ w.cell? ⟨n9, 0, none⟩ = some x90 ∧ w.cell? ⟨n9, 1, none⟩ = some x91
theorem Six.below {n0 n6 n8 n9 : Nat} {x2 x60 x61 x8 x90 x91 : Value} {w w' : World} (h : Six n0 n6 n8 n9 x2 x60 x61 x8 x90 x91 w) (hb : Below w.heap.size w w') : Six n0 n6 n8 n9 x2 x60 x61 x8 x90 x91 w' := by
  obtain ⟨h1, h2, h3, h4, h5, h6⟩ := h
  exact ⟨cell_below h1 hb, cell_below h2 hb, cell_below h3 hb, cell_below h4 hb, cell_below h5 hb, cell_below h6 hb⟩
theorem Six.only {F : Nat → Prop} {n0 n6 n8 n9 : Nat} {x2 x60 x61 x8 x90 x91 : Value} {w w' : World} (h : Six n0 n6 n8 n9 x2 x60 x61 x8 x90 x91 w) (ho : Only F w w') (h0 : ¬ F n0) (h6 : ¬ F n6) (h8 : ¬ F n8) (h9 : ¬ F n9) : Six n0 n6 n8 n9 x2 x60 x61 x8 x90 x91 w' := by
  obtain ⟨k1, k2, k3, k4, k5, k6⟩ := h
  exact ⟨cell_only k1 ho h0, cell_only k2 ho h6, cell_only k3 ho h6, cell_only k4 ho h8, cell_only k5 ho h9, cell_only k6 ho h9⟩

set_option maxHeartbeats 2000000 in
set_option maxRecDepth 100000 in
theorem findCon_small (a : Option Addr) (cap : Nat) (s : List TypeD) (nm : ByteArray) (hbs : nm.size ≤ 1048576) (w : World) (hx : Row2 TypeAt w a s) (hf : sigFits s) (hsz : sigSize s ≤ 1048576) :
    Calls Try.prog 4 #[.agg #[.slice a s.length cap], .string nm] w fun e w' => e = .returned (.bool true) ∧ Below w.heap.size w w' := by
  have HX := Lib.hid hx
  have hB : Below w.heap.size w (w.alloc (.cells #[.slice a s.length cap] 24)) := (Below.refl _ _).alloc (Nat.le_refl _) _
  have hc0 : (w.alloc (.cells #[.slice a s.length cap] 24)).cell? ⟨w.heap.size, 0, none⟩ = some (.slice a s.length cap) := (one_cell (heap_at_new w _)).1
  have HB := Lib.hid hB
  have H0 := szSig_any 1048576 (Nat.le_refl _) (w.alloc (.cells #[.slice a s.length cap] 24)) a cap s (row2_below type_below hx hB) hf
  rw [left_yes hsz] at H0
  generalize hw0 : w.alloc (.cells #[.slice a s.length cap] 24) = w0 at *
  have HW0 := Lib.hid hw0
  have hsm := smalls_of hsz
  have HSM := Lib.hid hsm
  have HBG := Lib.hid (bigs_of hsm)
  have hgs := gotCon_small (nm := nm) hsz
  have hcs := count_sig hsz
  have hS := fun w a cap hr => spec_findCon w a cap s nm hr hsm.1 hsm.2
  have hI := fun F w a cap ho hF => impl_findCon F w a cap s nm ho hF hsm.1 hsm.2
  have hqb : 1048576 - sigSize s ≤ 1048576 := by omega
  generalize 1048576 - sigSize s = q at *
  have hF : ∀ w e w', FoundCon w s nm e w' → _ := fun w e w' h => foundCon_got h
  generalize (gotCon s nm).1 = x at *
  generalize (gotCon s nm).2 = tn at *
  generalize (theCon s nm).isSome = bb at *
  have htn : (tn.toList == tn.toList) = true := by simp
  have HF := Lib.hid hF
  have hG3 := hgs
  have HM : Hid (x.args.length ≤ maxLen) := by
    unfold Hid maxLen
    omega
  clear hw0 hB hsz hx hf hsm hgs hF
  go_enter Try.func4, Try.ntmps4
  go_wp2_with fail
  rw [HW0.out]
  refine H0.mono ?_
  rintro e w1 ⟨rfl, hb1⟩
  have hc1 := cell_below hc0 hb1
  have HB1 : Hid (Below w.heap.size w w1) := HB.out.trans (hb1.mono HB.out.size)
  clear hb1 H0 hc0
  go_wp2_with fail
  refine (toSig_any w1 a cap s (row2_below type_below HX.out HB1.out) HSM.out.1 HSM.out.2).mono ?_
  rintro e w2 ⟨⟨v2, rfl, ho2⟩, hb2⟩
  obtain ⟨a2, cap2, rfl, hr2⟩ := ho2.reads
  have HR2 := Lib.hid hr2
  have hc2 := cell_below hc1 hb2
  have HB2 : Hid (Below w.heap.size w w2) := HB1.out.trans (hb2.mono HB1.out.size)
  clear hb2 hc1 hr2 ho2
  go_wp2_with fail
  refine (hS w2 a2 cap2 HR2.out).mono ?_
  intro e w3 hfd
  obtain ⟨⟨u6, v6, rfl, ho6⟩, hb3⟩ := HF.out w2 e w3 hfd
  obtain ⟨a6, cap6, hu6, hv6, hr6⟩ := OwnCon.reads _ _ _ _ _ ho6
  subst hu6 hv6
  have HB3 : Hid (Below w.heap.size w w3) := HB2.out.trans (hb3.mono HB2.out.size)
  have hbA : Below w3.heap.size w3 (w3.alloc (.cells #[.string x.name, .slice a6 x.args.length cap6] 42)) := (Below.refl _ _).alloc (Nat.le_refl _) _
  have HT6 : Hid (ConAt (w3.alloc (.cells #[.string x.name, .slice a6 x.args.length cap6] 42)) x (.string x.name) (.slice a6 x.args.length cap6)) := ⟨a6, cap6, rfl, rfl, reads_below hr6 hbA⟩
  have hc4 := cell_below (cell_below hc2 hb3) hbA
  obtain ⟨d1, d2, _, _⟩ := two_cells (heap_at_new w3 (.cells #[.string x.name, .slice a6 x.args.length cap6] 42))
  have HB4 : Hid (Below w.heap.size w (w3.alloc (.cells #[.string x.name, .slice a6 x.args.length cap6] 42))) := HB3.out.trans (hbA.mono HB3.out.size)
  have HN4 : Hid ((w3.alloc (.cells #[.string x.name, .slice a6 x.args.length cap6] 42)).heap.size = w3.heap.size + 1 ∧ w.heap.size < w3.heap.size) := by
    refine ⟨Array.size_push _, ?_⟩
    have h1 : w0.heap.size = w.heap.size + 1 := by rw [← HW0.out]; exact Array.size_push _
    have h2 := block_of_cell hc2
    have := hb3.size
    simp at h2
    omega
  clear hfd hb3 hc2 hbA ho6 hr6 hS HR2
  go_wp2_with fail
  generalize w3.alloc (.cells #[.string x.name, .slice a6 x.args.length cap6] 42) = w4 at *
  generalize w3.heap.size = n6 at *
  refine (toSig_any w4 a cap s (row2_below type_below HX.out HB4.out) HSM.out.1 HSM.out.2).mono ?_
  rintro e w5 ⟨⟨v8, rfl, ho8⟩, hb5⟩
  have ho8' := ho8
  obtain ⟨a8, cap8, rfl, _⟩ := ho8'
  have hbB : Below w5.heap.size w5 (w5.alloc (.cells #[.slice a8 s.length cap8] 33)) := (Below.refl _ _).alloc (Nat.le_refl _) _
  have HO8 : Hid (OwnSig (Came w4 w5) (w5.alloc (.cells #[.slice a8 s.length cap8] 33)) (.slice a8 s.length cap8) s) := ho8.keep keeps_type (fun b hb => hbB.block b hb.2)
  have HA6 : Hid (Below w4.heap.size w4 (w5.alloc (.cells #[.slice a8 s.length cap8] 33))) := hb5.trans (hbB.mono hb5.size)
  have hc6 := cell_below (cell_below hc4 hb5) hbB
  have d61 := cell_below (cell_below d1 hb5) hbB
  have d62 := cell_below (cell_below d2 hb5) hbB
  have d8 := (one_cell (heap_at_new w5 (.cells #[.slice a8 s.length cap8] 33))).1
  have HB6 : Hid (Below w.heap.size w (w5.alloc (.cells #[.slice a8 s.length cap8] 33))) := HB4.out.trans ((hb5.mono HB4.out.size).trans (hbB.mono (Nat.le_trans HB4.out.size hb5.size)))
  have HN6 : Hid ((w5.alloc (.cells #[.slice a8 s.length cap8] 33)).heap.size = w5.heap.size + 1 ∧ w4.heap.size ≤ w5.heap.size) := ⟨Array.size_push _, hb5.size⟩
  have H := hI (Came w4 w5) _ a8 cap8 HO8.out (fun b hb => by have := hb.2; have := hbB.size; omega)
  clear hb5 hbB ho8 hc4 d1 d2
  go_wp2_with fail
  generalize w5.alloc (.cells #[.slice a8 s.length cap8] 33) = w6 at *
  generalize hn8 : w5.heap.size = n8 at *
  have HN8 := Lib.hid hn8
  clear hn8
  refine H.mono ?_
  intro e w7 hfd
  obtain ⟨⟨u9, v9, rfl, ho9⟩, hb7⟩ := HF.out w6 e w7 hfd
  have ho9' := ho9
  obtain ⟨rfl, a9, cap9, rfl, _⟩ := ho9'
  have hbC : Below w7.heap.size w7 (w7.alloc (.cells #[.string x.name, .slice a9 x.args.length cap9] 42)) := (Below.refl _ _).alloc (Nat.le_refl _) _
  have HO9 : Hid (OwnCon (Came w6 w7) (w7.alloc (.cells #[.string x.name, .slice a9 x.args.length cap9] 42)) x (.string x.name) (.slice a9 x.args.length cap9)) := keeps_con _ _ _ _ _ _ ho9 (fun b hb => hbC.block b hb.2)
  have hbD := hb7.trans (hbC.mono hb7.size)
  have HA8 : Hid (Below w4.heap.size w4 (w7.alloc (.cells #[.string x.name, .slice a9 x.args.length cap9] 42))) := HA6.out.trans (hbD.mono HA6.out.size)
  have HB8 : Hid (Below w.heap.size w (w7.alloc (.cells #[.string x.name, .slice a9 x.args.length cap9] 42))) := HB6.out.trans (hbD.mono HB6.out.size)
  have HO8 : Hid (OwnSig (Came w4 w5) (w7.alloc (.cells #[.string x.name, .slice a9 x.args.length cap9] 42)) (.slice a8 s.length cap8) s) := HO8.out.keep keeps_type (fun b hb => hbD.block b (by have := hb.2; have := HN6.out; have := HN8.out; omega))
  obtain ⟨d91, d92, _, _⟩ := two_cells (heap_at_new w7 (.cells #[.string x.name, .slice a9 x.args.length cap9] 42))
  have HSIX : Hid (Six w.heap.size n6 n8 w7.heap.size (.slice a s.length cap) (.string x.name) (.slice a6 x.args.length cap6) (.slice a8 s.length cap8) (.string x.name) (.slice a9 x.args.length cap9) (w7.alloc (.cells #[.string x.name, .slice a9 x.args.length cap9] 42))) :=
    ⟨cell_below hc6 hbD, cell_below d61 hbD, cell_below d62 hbD, cell_below d8 hbD, d91, d92⟩
  have HN8' : Hid ((w7.alloc (.cells #[.string x.name, .slice a9 x.args.length cap9] 42)).heap.size = w7.heap.size + 1 ∧ w6.heap.size ≤ w7.heap.size) := ⟨Array.size_push _, hb7.size⟩
  clear hfd hb7 hbC hbD ho9 hc6 d61 d62 d8 d91 d92 H HB6 HA6
  obtain ⟨c1, c2, c3, c4, c5, c6⟩ := HSIX.out
  go_wp2_with fail
  generalize w7.alloc (.cells #[.string x.name, .slice a9 x.args.length cap9] 42) = w8 at *
  generalize hn9 : w7.heap.size = n9 at *
  have HN9 := Lib.hid hn9
  clear hn9 c1 c2 c3 c4 c5 c6
  refine (eqCon_same w8 x _ _ _ _ (OwnCon.reads _ _ _ _ _ HO9.out) (con_below _ _ _ _ _ HT6.out HA8.out) HM.out).mono ?_
  rintro e w9 ⟨rfl, hb9⟩
  have HSIX := Lib.hid (HSIX.out.below hb9)
  have HA9 : Hid (Below w4.heap.size w4 w9) := HA8.out.trans (hb9.mono HA8.out.size)
  have HB9 : Hid (Below w.heap.size w w9) := HB8.out.trans (hb9.mono HB8.out.size)
  have HO8 : Hid (OwnSig (Came w4 w5) w9 (.slice a8 s.length cap8) s) := HO8.out.keep keeps_type (fun b hb => hb9.block b (by have := hb.2; have := HN6.out; have := HN8.out; have := HN8'.out; omega))
  have HO9 : Hid (OwnCon (Came w6 w7) w9 x (.string x.name) (.slice a9 x.args.length cap9)) := keeps_con _ _ _ _ _ _ HO9.out (fun b hb => hb9.block b (by have := hb.2; have := HN9.out; have := HN8'.out; omega))
  have HZ9 : Hid (n9 + 1 ≤ w9.heap.size) := by have := hb9.size; have := HN8'.out; unfold Hid; omega
  obtain ⟨c1, c2, c3, c4, c5, c6⟩ := HSIX.out
  have HB9d : Hid (Below w.heap.size w w9.drew) := HB9.out.drew
  obtain ⟨a8', cap8', hv8, hr8⟩ := OwnSig.reads HO8.out
  obtain ⟨rfl, _, rfl⟩ : a8 = a8' ∧ s.length = s.length ∧ cap8 = cap8' := by injection hv8 with h1 h2 h3; exact ⟨h1, h2, h3⟩
  have HR8 := Lib.hid hr8
  clear hb9 HA8 HB8 hr8 hv8
  go_wp2
  go_region_held3 (fun w' => w'.cell? ⟨n8, 0, none⟩ = some (.slice a8 s.length cap8) ∧ w'.cell? ⟨w.heap.size, 0, none⟩ = some (.slice a s.length cap))
    (first
      | go_keep
      | exact ⟨cell_below (w := w10) (cell_below (w := w9.drew) c4 hb10) hb11, cell_below (w := w10) (cell_below (w := w9.drew) c1 hb10) hb11⟩
      | exact ⟨cell_below (w := w9.drew) c4 hb10, cell_below (w := w9.drew) c1 hb10⟩)
    (first
      | (go_at_call 9; refine (toSig_any w9.drew a cap s (row2_below type_below HX.out HB9d.out) HSM.out.1 HSM.out.2).mono ?_; rintro e w10 ⟨⟨v10, rfl, ho10⟩, hb10⟩; obtain ⟨a10, cap10, rfl, hr10⟩ := ho10.reads; have HR10 := Lib.hid hr10; clear ho10 hr10)
      | (go_at_call 12; refine (eqSig_same w10 a8 a10 cap8 cap10 s (row2_below type_below HR8.out (below_of_drew hb10)) HR10.out HBG.out.1 HBG.out.2).mono ?_; rintro e w11 ⟨rfl, hb11⟩))
  have hbE : Below w9.heap.size w9 w11 := (below_of_drew hb10).trans (hb11.mono hb10.size)
  have HSIX := Lib.hid (HSIX.out.below hbE)
  have HA11 : Hid (Below w4.heap.size w4 w11) := HA9.out.trans (hbE.mono HA9.out.size)
  have HB11 : Hid (Below w.heap.size w w11) := HB9.out.trans (hbE.mono HB9.out.size)
  have HO8 : Hid (OwnSig (Came w4 w5) w11 (.slice a8 s.length cap8) s) := HO8.out.keep keeps_type (fun b hb => hbE.block b (by have := hb.2; have := HN6.out; have := HN8.out; have := HN8'.out; have := HZ9.out; omega))
  have HO9 : Hid (OwnCon (Came w6 w7) w11 x (.string x.name) (.slice a9 x.args.length cap9)) := keeps_con _ _ _ _ _ _ HO9.out (fun b hb => hbE.block b (by have := hb.2; have := HN9.out; have := HZ9.out; omega))
  have HZ11 : Hid (n9 + 1 ≤ w11.heap.size) := by have := hbE.size; have := HZ9.out; unfold Hid; omega
  clear hb10 hb11 hbE c1 c2 c3 c4 c5 c6 HR8 HR10 HA9 HB9 HB9d
  obtain ⟨c1, c2, c3, c4, c5, c6⟩ := HSIX.out
  go_wp2_with fail
  refine (markSig_own (Came w4 w5) w11 _ 1 s HO8.out (fun b hb => by have := hb.2; have := HN6.out; have := HN8.out; have := HN8'.out; have := HZ11.out; omega) (by omega) HSM.out.1 HSM.out.2 (by omega)).mono ?_
  rintro e w12 ⟨rfl, ho12⟩
  have HSIX := Lib.hid (HSIX.out.only ho12 (fun h => by have := h.1; have := HN4.out; omega) (fun h => by have := h.1; have := HN4.out; omega) (fun h => by have := h.2; have := HN8.out; omega) (fun h => by have := h.2; have := HN8.out; have := HN6.out; have := HN8'.out; have := HN9.out; omega))
  have hbE : Below w4.heap.size w11 w12 := ho12.below (fun b hb => hb.1) HA11.out.size
  have HA12 : Hid (Below w4.heap.size w4 w12) := HA11.out.trans hbE
  have HB12 : Hid (Below w.heap.size w w12) := HB11.out.trans (hbE.mono HB4.out.size)
  have HO9 : Hid (OwnCon (Came w6 w7) w12 x (.string x.name) (.slice a9 x.args.length cap9)) := keeps_con _ _ _ _ _ _ HO9.out (fun b hb => ho12.block b (by have := hb.2; have := HN9.out; have := HZ11.out; omega) (fun h => by have := h.2; have := hb.1; have := HN6.out; have := HN8.out; omega))
  have HZ12 : Hid (n9 + 1 ≤ w12.heap.size) := by have := hbE.size; have := HZ11.out; unfold Hid; omega
  have hk12 : ¬ ((1 + sumBy TypeD.count s : Nat) : Int) < 0 := by omega
  clear ho12 hbE c1 c2 c3 c4 c5 c6 HO8 HA11 HB11
  obtain ⟨c1, c2, c3, c4, c5, c6⟩ := HSIX.out
  go_wp2_with fail
  refine (eqCon_same w12 x _ _ _ _ (OwnCon.reads _ _ _ _ _ HO9.out) (con_below _ _ _ _ _ HT6.out HA12.out) HM.out).mono ?_
  rintro e w13 ⟨rfl, hb13⟩
  have HSIX := Lib.hid (HSIX.out.below hb13)
  have HA13 : Hid (Below w4.heap.size w4 w13) := HA12.out.trans (hb13.mono HA12.out.size)
  have HB13 : Hid (Below w.heap.size w w13) := HB12.out.trans (hb13.mono HB12.out.size)
  have HO9 : Hid (OwnCon (Came w6 w7) w13 x (.string x.name) (.slice a9 x.args.length cap9)) := keeps_con _ _ _ _ _ _ HO9.out (fun b hb => hb13.block b (by have := hb.2; have := HN9.out; have := HZ12.out; omega))
  have HZ13 : Hid (n9 + 1 ≤ w13.heap.size) := by have := hb13.size; have := HZ12.out; unfold Hid; omega
  clear hb13 c1 c2 c3 c4 c5 c6 HA12 HB12
  obtain ⟨c1, c2, c3, c4, c5, c6⟩ := HSIX.out
  go_wp2_with fail
  refine (markCon_own (Came w6 w7) w13 x _ _ 1 HO9.out (fun b hb => by have := hb.2; have := HN9.out; have := HZ13.out; omega) (by omega) hG3 (by omega)).mono ?_
  rintro e w14 ⟨rfl, hm14, ho14⟩
  have hbE : Below w4.heap.size w13 w14 := ho14.below (fun b hb => by have := hb.1; have := HN6.out; have := HN8.out; omega) HA13.out.size
  have HSIX := Lib.hid (HSIX.out.only ho14 (fun h => by have := h.1; have := HN4.out; have := HN6.out; have := HN8.out; omega) (fun h => by have := h.1; have := HN4.out; have := HN6.out; have := HN8.out; omega) (fun h => by have := h.1; have := HN6.out; have := HN8.out; omega) (fun h => by have := h.2; have := HN9.out; omega))
  have HA14 : Hid (Below w4.heap.size w4 w14) := HA13.out.trans hbE
  have HB14 : Hid (Below w.heap.size w w14) := HB13.out.trans (hbE.mono HB4.out.size)
  have HZ14 : Hid (n9 + 1 ≤ w14.heap.size) := by have := hbE.size; have := HZ13.out; unfold Hid; omega
  have HM14 := Lib.hid hm14
  have hk14 : ¬ ((1 + x.args.length : Nat) : Int) < 0 := by omega
  clear hm14 ho14 hbE c1 c2 c3 c4 c5 c6 HO9 HA13 HB13
  obtain ⟨c1, c2, c3, c4, c5, c6⟩ := HSIX.out
  have hml : (marks 1 x.args.length).length = x.args.length := marks_length _ _
  obtain ⟨ah, ch, hvh, hrh⟩ := OwnS.reads HM14.out
  rw [hml] at hvh
  obtain ⟨rfl, _, rfl⟩ : a9 = ah ∧ x.args.length = x.args.length ∧ cap9 = ch := by injection hvh with h1 h2 h3; exact ⟨h1, h2, h3⟩
  have HRH := Lib.hid hrh
  have HML := Lib.hid hml
  clear hvh hrh hml
  go_wp2_with fail
  refine (heldCon_any w14 _ a9 cap9 1 x.args.length HRH.out hG3 (by omega) (by omega)).mono ?_
  rintro e w15 ⟨rfl, hb15⟩
  have HSIX := Lib.hid (HSIX.out.below hb15)
  have HA15 : Hid (Below w4.heap.size w4 w15) := HA14.out.trans (hb15.mono HA14.out.size)
  have HB15 : Hid (Below w.heap.size w w15) := HB14.out.trans (hb15.mono HB14.out.size)
  have HRH := Lib.hid (reads_below HRH.out hb15)
  clear hb15 c1 c2 c3 c4 c5 c6 HA14 HB14 HM14
  obtain ⟨c1, c2, c3, c4, c5, c6⟩ := HSIX.out
  go_wp2_with fail
  refine (toSig_any w15 a cap s (row2_below type_below HX.out HB15.out) HSM.out.1 HSM.out.2).mono ?_
  rintro e w16 ⟨⟨v16, rfl, ho16⟩, hb16⟩
  have ho16' := ho16
  obtain ⟨a16, cap16, rfl, _⟩ := ho16'
  have HSIX := Lib.hid (HSIX.out.below hb16)
  have HA16 : Hid (Below w4.heap.size w4 w16) := HA15.out.trans (hb16.mono HA15.out.size)
  have HB16 : Hid (Below w.heap.size w w16) := HB15.out.trans (hb16.mono HB15.out.size)
  have HRH := Lib.hid (reads_below HRH.out hb16)
  have H := hI (Came w15 w16) w16 a16 cap16 ho16 (fun b hb => hb.2)
  clear hb16 c1 c2 c3 c4 c5 c6 HA15 HB15 ho16
  obtain ⟨c1, c2, c3, c4, c5, c6⟩ := HSIX.out
  go_wp2_with fail
  refine H.mono ?_
  intro e w17 hfd
  obtain ⟨⟨u17, v17, rfl, ho17⟩, hb17⟩ := HF.out w16 e w17 hfd
  obtain ⟨a17, cap17, hu17, hv17, hr17⟩ := OwnCon.reads _ _ _ _ _ ho17
  subst hu17 hv17
  have hbC : Below w17.heap.size w17 (w17.alloc (.cells #[.string x.name, .slice a17 x.args.length cap17] 42)) := (Below.refl _ _).alloc (Nat.le_refl _) _
  have HT17 : Hid (ConAt (w17.alloc (.cells #[.string x.name, .slice a17 x.args.length cap17] 42)) x (.string x.name) (.slice a17 x.args.length cap17)) := ⟨a17, cap17, rfl, rfl, reads_below hr17 hbC⟩
  have hbD := hb17.trans (hbC.mono hb17.size)
  have HSIX := Lib.hid (HSIX.out.below hbD)
  have HA18 : Hid (Below w4.heap.size w4 (w17.alloc (.cells #[.string x.name, .slice a17 x.args.length cap17] 42))) := HA16.out.trans (hbD.mono HA16.out.size)
  have HB18 : Hid (Below w.heap.size w (w17.alloc (.cells #[.string x.name, .slice a17 x.args.length cap17] 42))) := HB16.out.trans (hbD.mono HB16.out.size)
  have HRH := Lib.hid (reads_below HRH.out hbD)
  obtain ⟨d1, d2, _, _⟩ := two_cells (heap_at_new w17 (.cells #[.string x.name, .slice a17 x.args.length cap17] 42))
  clear hfd hb17 hbC hbD c1 c2 c3 c4 c5 c6 HA16 HB16 ho17 hr17 H hI
  obtain ⟨c1, c2, c3, c4, c5, c6⟩ := HSIX.out
  go_wp2_with fail
  generalize w17.alloc (.cells #[.string x.name, .slice a17 x.args.length cap17] 42) = w18 at *
  refine (eqCon_same w18 x _ _ _ _ HT17.out (con_below _ _ _ _ _ HT6.out HA18.out) HM.out).mono ?_
  rintro e w19 ⟨rfl, hb19⟩
  have HSIX := Lib.hid (HSIX.out.below hb19)
  have HB19 : Hid (Below w.heap.size w w19) := HB18.out.trans (hb19.mono HB18.out.size)
  have HRH := Lib.hid (reads_below HRH.out hb19)
  clear hb19 c1 c2 c3 c4 c5 c6 HA18 HB18 d1 d2
  obtain ⟨c1, c2, c3, c4, c5, c6⟩ := HSIX.out
  go_wp2_with fail
  refine (heldCon_any w19 _ a9 cap9 1 x.args.length HRH.out hG3 (by omega) (by omega)).mono ?_
  rintro e w20 ⟨rfl, hb20⟩
  have HB20 : Hid (Below w.heap.size w w20) := HB19.out.trans (hb20.mono HB19.out.size)
  clear hb20 c1 c2 c3 c4 c5 c6 HB19
  go_wp2
  go_ret
  exact ⟨rfl, HB20.out⟩

set_option maxHeartbeats 1000000 in
set_option maxRecDepth 100000 in
theorem fnExactFindCon_walk (a : Option Addr) (cap : Nat) (s : List TypeD) (nm : ByteArray) (hbs : nm.size ≤ maxLen) (w : World) (hx : Row2 TypeAt w a s) (hf : sigFits s) :
    Calls Try.prog 4 #[.agg #[.slice a s.length cap], .string nm] w fun e w' => e = .returned (.bool true) ∧ Below w.heap.size w w' := by
  unfold maxLen at hbs
  have hB : Below w.heap.size w (w.alloc (.cells #[.slice a s.length cap] 24)) := (Below.refl _ _).alloc (Nat.le_refl _) _
  have HB := Lib.hid hB
  by_cases hbig : 1048576 < nm.size
  · clear hB
    go_enter Try.func4, Try.ntmps4
    go_wp2
    go_ret
    exact ⟨rfl, HB.out⟩
  · by_cases hsz : sigSize s ≤ 1048576
    · exact findCon_small a cap s nm (by omega) w hx hf hsz
    · have H0 := szSig_any 1048576 (Nat.le_refl _) (w.alloc (.cells #[.slice a s.length cap] 24)) a cap s (row2_below type_below hx hB) hf
      rw [left_no hsz] at H0
      clear hsz hx hf hB
      go_enter Try.func4, Try.ntmps4
      go_wp2_with fail
      refine H0.mono ?_
      rintro e w1 ⟨rfl, hb1⟩
      have HB1 : Hid (Below w.heap.size w w1) := HB.out.trans (hb1.mono HB.out.size)
      clear hb1 H0
      go_wp2
      go_ret
      exact ⟨rfl, HB1.out⟩
end Go.Proofs.Ytcmpaccpdjcocaa
