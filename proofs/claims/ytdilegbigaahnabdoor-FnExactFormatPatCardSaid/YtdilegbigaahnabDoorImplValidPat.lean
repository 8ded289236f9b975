/- What is proved here: the program's IsValidPat says whether a pattern is valid. Condition: the pattern lies in memory as said, and is small. -/
import Derived.Test.YtdilegbigaahnabDoorImplForm
import Derived.Test.YtdilegbigaahnabDoorPtImplLimits
import Derived.Test.YtdilegbigaahnabDoorSeqGo2
import Derived.Test.YtdilegbigaahnabDoorValidPat
namespace Go.Proofs.YtdilegbigaahnabDoor
open Go.RowKit Go.Shelf
open Pt

attribute [local go_sem] Oper.semAt_some

theorem all_take {P : Part → Bool} (l : List Part) (j : Nat) (x : Part) (h : l[j]? = some x) : (l.take (j + 1)).all P = ((l.take j).all P && P x) := by
  obtain ⟨hj, rfl⟩ := List.getElem?_eq_some_iff.1 h
  rw [List.take_succ_eq_append_getElem hj, List.all_append]
  simp
theorem all_one {P : Part → Bool} (l : List Part) (j : Nat) (x : Part) (h : l[j]? = some x) (hp : P x = false) : l.all P = false := by
  obtain ⟨hj, rfl⟩ := List.getElem?_eq_some_iff.1 h
  cases hq : l.all P with
  | false => rfl
  | true => rw [List.all_eq_true] at hq; rw [hq _ (List.getElem_mem hj)] at hp; cases hp
/-- Texts of parts fit. -/
theorem pre_fits (F : Trees) (hf : F.fits) : ∀ d, ∀ x ∈ F.pre d, x.2.2.2.1.size ≤ maxLen := by
  induction F with
  | nil => intro d x hx; simp [Trees.pre] at hx
  | cons k n t ar r ih1 ih2 =>
    obtain ⟨_, _, h3, _, h5, h6⟩ := hf
    intro d x hx
    simp only [Trees.pre, List.mem_cons, List.mem_append] at hx
    rcases hx with rfl | hx | hx
    · exact h3
    · exact ih1 h5 _ x hx
    · exact ih2 h6 _ x hx

set_option maxHeartbeats 2000000 in
set_option maxRecDepth 100000 in
theorem impl_valid_pat (w : World) (k nu : Int) (t : ByteArray) (F : Trees) (p : Option Addr) (cap : Nat) (hfv : F.fits) (hc : F.count ≤ 1048576) (ht : t.size ≤ maxLen) (hx : TreesAt w F p 0) (hcap : F.length ≤ cap) :
    Calls Tryd.prog 13 #[.agg #[.int .i64 k, .int .i64 nu, .string t, .slice p F.length cap]] w fun e w' => e = .returned (.bool (validPat k nu t F)) ∧ Below w.heap.size w w' := by
  refine (callsIn_wide (n := 9)).1 ?_
  obtain ⟨hp0, hpb, hB0, hs0⟩ := (show ∀ o1 o2 : Obj, ((w.alloc o1).alloc o2).heap[w.heap.size]? = some o1 ∧ ((w.alloc o1).alloc o2).heap[w.heap.size + 1]? = some o2 ∧ Below w.heap.size w ((w.alloc o1).alloc o2) ∧ ((w.alloc o1).alloc o2).heap.size = w.heap.size + 2 from fun o1 o2 => by
    have s1 : (w.alloc o1).heap.size = w.heap.size + 1 := Array.size_push _
    have e1 := heap_at_new (w.alloc o1) o2
    rw [s1] at e1
    refine ⟨?_, e1, ((Below.refl _ _).alloc (Nat.le_refl _) _).alloc (by simp) _, by simp⟩
    rw [Below.heap_alloc _ _ _ (by omega)]
    exact heap_at_new w o1) (.cells #[.int .i64 k, .int .i64 nu, .string t, .slice p F.length cap] 29) (.cells #[.bool false] 4)
  obtain ⟨w0, hw0⟩ : ∃ w0, w0 = (w.alloc (.cells #[.int .i64 k, .int .i64 nu, .string t, .slice p F.length cap] 29)).alloc (.cells #[.bool false] 4) := ⟨_, rfl⟩
  rw [← hw0] at hp0 hpb hB0 hs0
  obtain ⟨c0, c1, c2, c3, _⟩ := four_cells hp0
  obtain ⟨b0, b1⟩ := one_cell4 hpb
  have HX := Lib.hid (hx.below hB0)
  have HXW := Lib.hid hx
  have HL := Lib.hid (impl_limits 24 8 (by omega) w0 k nu t F p cap HX.out hcap hc)
  simp only [show ((24 : Nat) : Int) = 24 from rfl, show ((8 : Nat) : Int) = 8 from rfl] at HL
  have HW0 := Lib.hid hw0
  have HB0 := Lib.hid hB0
  have HP0 := Lib.hid hp0
  have HPB := Lib.hid hpb
  have HS0 := Lib.hid hs0
  have HV : Hid (validPat k nu t F = (decide (1 + F.count ≤ 24 ∧ F.deep + 1 ≤ 8) && (patForm k nu t F.length && F.formed))) := rfl
  generalize decide (1 + F.count ≤ 24 ∧ F.deep + 1 ≤ 8) = bd at *
  obtain ⟨z, hz⟩ : ∃ z, validPat k nu t F = z := ⟨_, rfl⟩
  rw [hz] at HV ⊢
  clear hw0 hB0 hp0 hpb hx hz
  cases bd with
  | false =>
    obtain rfl : z = false := HV.out
    refine callsIn_of_wp_marks Tryd.func13 rfl trivial ?_ rfl
    simp only [Tryd.ntmps13, List.size_toArray, List.length_cons, List.length_nil, Nat.reduceAdd, Nat.reduceSub, Array.replicate_succ, Array.replicate_zero, List.push_toArray, List.append_toArray, List.nil_append, List.cons_append]
    gi_wp2_with fail
    refine ⟨trivial, ?_⟩
    gi_at_call 20
    rw [← HW0.out]
    refine (callsIn_wide.2 HL.out).mono ?_
    rintro e w1 ⟨rfl, hb1⟩
    have r0 := cell_below b0 hb1
    have r1 : w1.frozen? ⟨w.heap.size + 1, 0, none⟩ = false := (hb1.frozen (p := ⟨w.heap.size + 1, 0, none⟩) (by show w.heap.size + 1 < _; rw [HS0.out]; omega)).trans b1
    have HB1 : Hid (Below w.heap.size w w1) := HB0.out.trans (hb1.mono HB0.out.size)
    have hc5 : (w1.setCell ⟨w.heap.size + 1, 0, none⟩ (.bool false)).cell? ⟨w.heap.size + 1, 0, none⟩ = some (.bool false) := World.cell?_setCell_same' _ _ _ (by rw [r0]; rfl)
    have HB2 : Hid (Below w.heap.size w (w1.setCell ⟨w.heap.size + 1, 0, none⟩ (.bool false))) := HB1.out.setCell (by show _ ≤ w.heap.size + 1; omega) _
    clear hb1
    gi_wp2
    refine ⟨.bool false, ?_, rfl, HB2.out⟩
    simp [results, Tryd.f13, go_sem, hc5]
  | true =>
    have HZ : Hid (z = (patForm k nu t F.length && F.formed)) := HV.out
    refine callsIn_of_wp_marks Tryd.func13 rfl trivial ?_ rfl
    simp only [Tryd.ntmps13, List.size_toArray, List.length_cons, List.length_nil, Nat.reduceAdd, Nat.reduceSub, Array.replicate_succ, Array.replicate_zero, List.push_toArray, List.append_toArray, List.nil_append, List.cons_append]
    gi_wp2_with fail
    refine ⟨trivial, ?_⟩
    gi_at_call 20
    rw [← HW0.out]
    refine (callsIn_wide.2 HL.out).mono ?_
    rintro e w1 ⟨rfl, hb1⟩
    have c0 := cell_below c0 hb1
    have c1 := cell_below c1 hb1
    have c2 := cell_below c2 hb1
    have c3 := cell_below c3 hb1
    have HB1 : Hid (Below w0.heap.size w0 w1) := hb1
    clear hb1 HL
    gi_wp2_with fail
    refine ⟨trivial, ?_⟩
    gi_at_call 21
    refine (parts_of _ k nu t p F.length cap _).mono ?_
    rintro e w' ⟨rfl, rfl⟩
    gi_wp2_with fail
    obtain ⟨w3, hw3⟩ : ∃ w3, w3 = w1.alloc (.cells #[.int .i64 k, .int .i64 nu, .string t, .slice p F.length cap] 29) := ⟨_, rfl⟩
    have hp2 := heap_at_new w1 (.cells #[.int .i64 k, .int .i64 nu, .string t, .slice p F.length cap] 29)
    have hB3 : Below w1.heap.size w1 (w1.alloc (.cells #[.int .i64 k, .int .i64 nu, .string t, .slice p F.length cap] 29)) := (Below.refl _ _).alloc (Nat.le_refl _) _
    have hs3 : (w1.alloc (.cells #[.int .i64 k, .int .i64 nu, .string t, .slice p F.length cap] 29)).heap.size = w1.heap.size + 1 := Array.size_push _
    rw [← hw3] at hp2 hB3 hs3 ⊢
    have hB03 : Below w0.heap.size w0 w3 := HB1.out.trans (hB3.mono HB1.out.size)
    have hBw : Below w.heap.size w w3 := HB0.out.trans (hB03.mono HB0.out.size)
    have hbx : w0.heap.size ≤ w1.heap.size := HB1.out.size
    have r0 := cell_below b0 hB03
    have r1 : w3.frozen? ⟨w.heap.size + 1, 0, none⟩ = false := (hB03.frozen (p := ⟨w.heap.size + 1, 0, none⟩) (by show w.heap.size + 1 < _; rw [HS0.out]; omega)).trans b1
    have hxw : TreesAt w F p 0 := HXW.out
    have hseq := parts_seq (9 - 1) k nu t F p cap w1.heap.size w.heap.size w3 hp2 (TreesOn.keep (fun b hb => hBw.block b hb) _ _ _ (TreesOn.of _ _ _ hxw)) (by omega) hc hcap
    have hall := allForm_node k nu t F
    have hfit : ∀ x ∈ ((1, k, nu, t, F.length) :: F.pre 2 : List Part), x.2.2.2.1.size ≤ maxLen := by
      intro x hx
      rcases List.mem_cons.1 hx with rfl | hx
      · exact ht
      · exact pre_fits F hfv _ x hx
    have HS3 : Hid (w.heap.size + 2 < w3.heap.size) := by have := HS0.out; unfold Hid; omega
    generalize (1, k, nu, t, F.length) :: F.pre 2 = seq at *
    generalize hpf : (patForm k nu t F.length && F.formed) = q at *
    clear hw3 hp2 hB3 hs3 hB03 hxw hfv hc ht hpf
    refine wpIn_rangeFunc_go2 rfl (by omega) (gf := 27) (lb := #[.pointer (some ⟨w1.heap.size, 0, none⟩)]) rfl trivial (enters_of Tryd.func27 (by kernel_rfl) rfl)
      hseq (Below.refl _ _) (by have := HS3.out; omega) (fun _ => rfl)
      (fun j W => (W.cell? ⟨w.heap.size + 1, 0, none⟩ = some (.bool false) ∧ W.frozen? ⟨w.heap.size + 1, 0, none⟩ = false) ∧ (seq.take j).all (fun x => patForm x.2.1 x.2.2.1 x.2.2.2.1 x.2.2.2.2) = true ∧ Below w.heap.size w W)
      (fun c W => c = .ret ∧ z = false ∧ W.cell? ⟨w.heap.size + 1, 0, none⟩ = some (.bool false) ∧ Below w.heap.size w W)
      (fun j A C hs hb => ⟨⟨(hb.cell (p := ⟨w.heap.size + 1, 0, none⟩) (by show w.heap.size + 1 < _; have := HS3.out; omega)).trans hs.1.1, (hb.frozen (p := ⟨w.heap.size + 1, 0, none⟩) (by show w.heap.size + 1 < _; have := HS3.out; omega)).trans hs.1.2⟩, hs.2.1, hs.2.2.trans (hb.mono (by have := HS3.out; omega))⟩)
      (fun _ A C hs hb => ⟨hs.1, hs.2.1, (hb.cell (p := ⟨w.heap.size + 1, 0, none⟩) (by show w.heap.size + 1 < _; have := HS3.out; omega)).trans hs.2.2.1, hs.2.2.2.trans (hb.mono (by have := HS3.out; omega))⟩)
      ⟨⟨r0, r1⟩, by simp, hBw⟩
      (fun x h => { tmps := #[.agg #[.int .i64 k, .int .i64 nu, .string t, .slice p F.length cap], .pointer (some ⟨w.heap.size, 0, none⟩), .pointer (some ⟨w.heap.size + 1, 0, none⟩), undef, .pointer (some ⟨h, 0, none⟩), .agg #[.int .i64 k, .int .i64 nu, .string t, .slice p F.length cap], .bool true, .bool false, .agg #[.int .i64 k, .int .i64 nu, .string t, .slice p F.length cap], .func (.func 27) #[] #[.pointer (some ⟨w1.heap.size, 0, none⟩)], .int .i64 (x.d : Int), x.val, undef, undef, undef], defers := [] })
      (fun x W => W.alloc (.cells #[.int .i64 x.k, .int .i64 x.n, .string x.t, .slice x.p x.l x.c] 29))
      (fun x W => (Below.refl _ _).alloc (Nat.le_refl _) _) ?assign ?body ?done ?stop
    case assign =>
      intro l x W K hK
      simp only [List.zip_toArray, List.foldl_toArray, List.zip_cons_cons, List.zip_nil_right, List.foldl_cons, List.foldl_nil, List.setIfInBounds_toArray, List.set_cons_succ, List.set_cons_zero]
      unfold PartX.val at hK ⊢
      gi_wp2
      simpa using hK
    case body =>
      rintro l j ⟨d, vk, vn, vt, vp, vl, vc⟩ W0 W hj ⟨⟨hc1, hf1⟩, hall2, hBW⟩ hws hsz hnew
      have hbox := (hnew W0.heap.size (Nat.le_refl _)).trans (heap_at_new W0 _)
      dsimp only at hbox
      obtain ⟨x0, x1, x2, x3, _⟩ := four_cells hbox
      have hvt : vt.size ≤ maxLen := hfit _ (List.mem_of_getElem? hj)
      have HF := Lib.hid (impl_form W vk vn vt vp vl vc hvt)
      have hat := all_take (P := fun x => patForm x.2.1 x.2.2.1 x.2.2.2.1 x.2.2.2.2) seq j _ hj
      rw [hall2] at hat
      have hone := all_one (P := fun x => patForm x.2.1 x.2.2.1 x.2.2.2.1 x.2.2.2.2) seq j _ hj
      dsimp only [PartX.key, Bool.true_and] at hat hone
      rw [hall] at hone
      have HAT := Lib.hid hat
      have HONE := Lib.hid hone
      have HB := Lib.hid hBW
      have hsW : w3.heap.size < W.heap.size := by rw [hsz]; simp; omega
      clear hbox hnew hsz hws hvt hat hone hBW hj hall2 hall hfit hseq
      generalize patForm vk vn vt vl = fm at *
      cases fm with
      | false =>
        have HE : Hid (z = false) := by unfold Hid; rw [HZ.out]; exact HONE.out rfl
        gi_wp2_with fail
        refine ⟨trivial, ?_⟩
        gi_at_call 22
        refine (callsIn_wide.2 HF.out).mono ?_
        rintro e W2 ⟨rfl, hb2⟩
        have r2 := cell_below hc1 hb2
        have r3 : W2.frozen? ⟨w.heap.size + 1, 0, none⟩ = false := (hb2.frozen (p := ⟨w.heap.size + 1, 0, none⟩) (by show w.heap.size + 1 < _; have := HS3.out; omega)).trans hf1
        have HA := Lib.hid (Apart.of_below (Apart.refl w.heap.size w3.heap.size W) hb2)
        have HB2 : Hid (Below w.heap.size w W2) := HB.out.trans (hb2.mono (by have := HS3.out; omega))
        clear hb2
        gi_wp2
        exact ⟨HA.out.trans (Apart.setCell _ _ _ (by show _ ≤ w.heap.size + 1; omega) (by show w.heap.size + 1 < _; have := HS3.out; omega)), rfl, HE.out, World.cell?_setCell_same' _ _ _ (by rw [r2]; rfl), HB2.out.setCell (by show _ ≤ w.heap.size + 1; omega) _⟩
      | true =>
        gi_wp2_with fail
        refine ⟨trivial, ?_⟩
        gi_at_call 22
        refine (callsIn_wide.2 HF.out).mono ?_
        rintro e W2 ⟨rfl, hb2⟩
        have r2 := cell_below hc1 hb2
        have r3 : W2.frozen? ⟨w.heap.size + 1, 0, none⟩ = false := (hb2.frozen (p := ⟨w.heap.size + 1, 0, none⟩) (by show w.heap.size + 1 < _; have := HS3.out; omega)).trans hf1
        have HA := Lib.hid (Apart.of_below (Apart.refl w.heap.size w3.heap.size W) hb2)
        have HB2 : Hid (Below w.heap.size w W2) := HB.out.trans (hb2.mono (by have := HS3.out; omega))
        clear hb2
        gi_wp2
        exact ⟨HA.out, ⟨r2, r3⟩, HAT.out, HB2.out⟩
    case done =>
      rintro Df W hD' ⟨⟨hc1, hf1⟩, hall2, hBW⟩ hK
      rw [List.take_length, hall] at hall2
      have HE : Hid (z = true) := by unfold Hid; rw [HZ.out]; exact hall2
      have HB := Lib.hid hBW
      have hDs : w.heap.size + 1 < Df := by have := HS3.out; omega
      have hK4 : (W.setCell ⟨w.heap.size + 1, 0, none⟩ (.bool true)).heap[Df]? = some (.deferred (some [])) := (Below.heap_setCell W ⟨w.heap.size + 1, 0, none⟩ _ _ (by show Df ≠ w.heap.size + 1; omega)).trans hK
      have hc5 : ((W.setCell ⟨w.heap.size + 1, 0, none⟩ (.bool true)).putObj Df (.deferred none)).cell? ⟨w.heap.size + 1, 0, none⟩ = some (.bool true) :=
        (World.cell?_of_block (World.putObj_heap_other (k := w.heap.size + 1) (by omega))).trans (World.cell?_setCell_same' _ _ _ (by rw [hc1]; rfl))
      have HB2 : Hid (Below w.heap.size w (W.setCell ⟨w.heap.size + 1, 0, none⟩ (.bool true))) := HB.out.setCell (by show _ ≤ w.heap.size + 1; omega) _
      clear hBW hseq hall2 hall hfit
      gi_wp2
      refine ⟨by simp, .inl ⟨_, _, rfl, run_takeDeferred hK4, ?_⟩⟩
      refine ⟨.bool true, ?_, by rw [HE.out], HB2.out.trans (Below.putObj' _ Df (by omega) _)⟩
      simp [results, Tryd.f13, go_sem, hc5]
    case stop =>
      rintro Df c W hD' ⟨rfl, hzf, hc2, hBW⟩ hK
      have HB := Lib.hid hBW
      have hDs : w.heap.size + 1 < Df := by have := HS3.out; omega
      have hc5 : (W.putObj Df (.deferred none)).cell? ⟨w.heap.size + 1, 0, none⟩ = some (.bool false) :=
        (World.cell?_of_block (World.putObj_heap_other (k := w.heap.size + 1) (by omega))).trans hc2
      clear hBW hseq hall hfit
      gi_wp2
      refine ⟨by simp, .inl ⟨_, _, rfl, run_takeDeferred hK, ?_⟩⟩
      refine ⟨.bool false, ?_, by rw [hzf], HB.out.trans (Below.putObj' _ Df (by omega) _)⟩
      simp [results, Tryd.f13, go_sem, hc5]
end Go.Proofs.YtdilegbigaahnabDoor
