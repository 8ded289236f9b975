/- What is proved here: the program's allParts with hasExprForm says whether every node has one of the forms. Condition: the whole lies in memory as said, and is small. -/
import Derived.Test.YtdifefgigcjgeaaExImplForm
import Derived.Test.YtdifefgigcjgeaaExPartsOf
import Derived.Test.YtdifefgigcjgeaaSeqGo2
namespace Go.Proofs.Ytdifefgigcjgeaa.Ex
open Go.RowKit Go.Shelf

attribute [local go_sem] Oper.semAt_some

theorem all_take {P : Part → Bool} (l : List Part) (j : Nat) (x : Part) (h : l[j]? = some x) : (l.take (j + 1)).all P = ((l.take j).all P && P x) := by
  obtain ⟨hj, rfl⟩ := List.getElem?_eq_some_iff.1 h
  rw [List.take_succ_eq_append_getElem hj, List.all_append]
  simp
theorem all_one {P : Part → Bool} (l : List Part) (j : Nat) (x : Part) (h : l[j]? = some x) (hp : P x = false) : l.all P = false := by
  obtain ⟨hj, rfl⟩ := List.getElem?_eq_some_iff.1 h
  cases hq : l.all P with
  | false => rfl
  | true => rw [List.all_eq_true] at hq; rw [hq _ (List.getElem_mem hj)] at hp; cases hp
/-- Texts of parts fit. -/
theorem pre_fits (F : Trees) (hf : F.fits) : ∀ d, ∀ x ∈ F.pre d, x.2.2.2.1.size ≤ maxLen := by
  induction F with
  | nil => intro d x hx; simp [Trees.pre] at hx
  | cons k n t ar r ih1 ih2 =>
    obtain ⟨_, _, h3, _, h5, h6⟩ := hf
    intro d x hx
    simp only [Trees.pre, List.mem_cons, List.mem_append] at hx
    rcases hx with rfl | hx | hx
    · exact h3
    · exact ih1 h5 _ x hx
    · exact ih2 h6 _ x hx
theorem three_new (w : World) (o0 o1 o2 : Obj) : (((w.alloc o0).alloc o1).alloc o2).heap.size = w.heap.size + 3 ∧ (((w.alloc o0).alloc o1).alloc o2).heap[w.heap.size]? = some o0 ∧ (((w.alloc o0).alloc o1).alloc o2).heap[w.heap.size + 1]? = some o1 ∧ (((w.alloc o0).alloc o1).alloc o2).heap[w.heap.size + 2]? = some o2 ∧ Below w.heap.size w (((w.alloc o0).alloc o1).alloc o2) := by
  have s1 : (w.alloc o0).heap.size = w.heap.size + 1 := Array.size_push _
  have s2 : ((w.alloc o0).alloc o1).heap.size = w.heap.size + 2 := (Array.size_push _).trans (by omega)
  have s3 : (((w.alloc o0).alloc o1).alloc o2).heap.size = w.heap.size + 3 := (Array.size_push _).trans (by omega)
  have e2 := heap_at_new ((w.alloc o0).alloc o1) o2
  rw [s2] at e2
  have e1 := heap_at_new (w.alloc o0) o1
  rw [s1] at e1
  refine ⟨s3, ?_, ?_, e2, (((Below.refl _ _).alloc (Nat.le_refl _) _).alloc (by omega) _).alloc (by omega) _⟩
  · rw [Below.heap_alloc _ _ _ (by omega), Below.heap_alloc _ _ _ (by omega)]
    exact heap_at_new w o0
  · rw [Below.heap_alloc _ _ _ (by omega)]
    exact e1

set_option maxHeartbeats 2000000 in
set_option maxRecDepth 100000 in
theorem all_parts (w : World) (k nu : Int) (t : ByteArray) (F : Trees) (p : Option Addr) (cap : Nat) (hfv : F.fits) (hc : F.count ≤ 1048576) (ht : t.size ≤ maxLen) (hx : TreesAt w F p 0) (hcap : F.length ≤ cap) :
    Calls Try.prog 46 #[.agg #[.int .i64 k, .int .i64 nu, .string t, .slice p F.length cap], .func (.func 47) #[] #[]] w fun e w' => e = .returned (.bool (exprForm k nu t F.length && F.formedE)) ∧ Below w.heap.size w w' := by
  refine (callsIn_wide (n := 9)).1 ?_
  obtain ⟨w0, hw0⟩ : ∃ w0, w0 = ((w.alloc (.cells #[.int .i64 k, .int .i64 nu, .string t, .slice p F.length cap] 40)).alloc (.cells #[.func (.func 47) #[] #[]] 37)).alloc (.cells #[.bool false] 4) := ⟨_, rfl⟩
  obtain ⟨hs0, hp0, hpf, hpb, hB0⟩ := three_new w (.cells #[.int .i64 k, .int .i64 nu, .string t, .slice p F.length cap] 40) (.cells #[.func (.func 47) #[] #[]] 37) (.cells #[.bool false] 4)
  rw [← hw0] at hp0 hpf hpb hB0 hs0
  obtain ⟨c0, c1, c2, c3, _⟩ := four_cells hp0
  obtain ⟨b0, b1⟩ := one_cell4 hpb
  obtain ⟨f0, _⟩ := one_cell4 hpf
  have HXW := Lib.hid hx
  have HW0 := Lib.hid hw0
  have HB0 := Lib.hid hB0
  have HS0 := Lib.hid hs0
  obtain ⟨z, hz⟩ : ∃ z, (exprForm k nu t F.length && F.formedE) = z := ⟨_, rfl⟩
  rw [hz]
  clear hw0 hB0 hp0 hpb hpf hx hs0
  refine callsIn_of_wp_marks Try.func46 rfl trivial ?_ rfl
  simp only [Try.ntmps46, List.size_toArray, List.length_cons, List.length_nil, Nat.reduceAdd, Nat.reduceSub, Array.replicate_succ, Array.replicate_zero, List.push_toArray, List.append_toArray, List.nil_append, List.cons_append]
  gi_wp2_with fail
  refine ⟨trivial, ?_⟩
  gi_at_call 51
  rw [← HW0.out]
  refine (parts_of _ k nu t p F.length cap _).mono ?_
  rintro e w' ⟨rfl, rfl⟩
  gi_wp2_with fail
  obtain ⟨w3, hw3⟩ : ∃ w3, w3 = w0.alloc (.cells #[.int .i64 k, .int .i64 nu, .string t, .slice p F.length cap] 40) := ⟨_, rfl⟩
  have hp2 := heap_at_new w0 (.cells #[.int .i64 k, .int .i64 nu, .string t, .slice p F.length cap] 40)
  have hB3 : Below w0.heap.size w0 (w0.alloc (.cells #[.int .i64 k, .int .i64 nu, .string t, .slice p F.length cap] 40)) := (Below.refl _ _).alloc (Nat.le_refl _) _
  have hs3 : (w0.alloc (.cells #[.int .i64 k, .int .i64 nu, .string t, .slice p F.length cap] 40)).heap.size = w0.heap.size + 1 := Array.size_push _
  rw [← hw3] at hp2 hB3 hs3 ⊢
  have hBw : Below w.heap.size w w3 := HB0.out.trans (hB3.mono HB0.out.size)
  have r0 := cell_below b0 hB3
  have r1 : w3.frozen? ⟨w.heap.size + 2, 0, none⟩ = false := (hB3.frozen (p := ⟨w.heap.size + 2, 0, none⟩) (by show w.heap.size + 2 < _; rw [HS0.out]; omega)).trans b1
  have r2 := cell_below f0 hB3
  have hxw : TreesAt w F p 0 := HXW.out
  have hseq := parts_seq (9 - 1) k nu t F p cap w0.heap.size w.heap.size w3 hp2 (TreesOn.keep (fun b hb => hBw.block b hb) _ _ _ (TreesOn.of _ _ _ hxw)) (by have := hBw.size; omega) hc hcap
  have hall := allExpr_node k nu t F
  have hfit : ∀ x ∈ ((1, k, nu, t, F.length) :: F.pre 2 : List Part), x.2.2.2.1.size ≤ maxLen := by
    intro x hx
    rcases List.mem_cons.1 hx with rfl | hx
    · exact ht
    · exact pre_fits F hfv _ x hx
  have HS3 : Hid (w.heap.size + 3 < w3.heap.size) := by have := HS0.out; unfold Hid; omega
  rw [hz] at hall
  generalize (1, k, nu, t, F.length) :: F.pre 2 = seq at *
  clear hw3 hp2 hB3 hs3 hxw hfv hc ht hz
  refine wpIn_rangeFunc_go2 rfl (by omega) (gf := 72) (lb := #[.pointer (some ⟨w0.heap.size, 0, none⟩)]) rfl trivial (enters_of Try.func72 (by kernel_rfl) rfl)
    hseq (Below.refl _ _) (by have := HS3.out; omega) (fun _ => rfl)
    (fun j W => ((W.cell? ⟨w.heap.size + 2, 0, none⟩ = some (.bool false) ∧ W.frozen? ⟨w.heap.size + 2, 0, none⟩ = false) ∧ W.cell? ⟨w.heap.size + 1, 0, none⟩ = some (.func (.func 47) #[] #[])) ∧ (seq.take j).all (fun x => exprForm x.2.1 x.2.2.1 x.2.2.2.1 x.2.2.2.2) = true ∧ Below w.heap.size w W)
    (fun c W => c = .ret ∧ z = false ∧ W.cell? ⟨w.heap.size + 2, 0, none⟩ = some (.bool false) ∧ Below w.heap.size w W)
    (fun j A C hs hb => ⟨⟨⟨(hb.cell (p := ⟨w.heap.size + 2, 0, none⟩) (by show w.heap.size + 2 < _; have := HS3.out; omega)).trans hs.1.1.1, (hb.frozen (p := ⟨w.heap.size + 2, 0, none⟩) (by show w.heap.size + 2 < _; have := HS3.out; omega)).trans hs.1.1.2⟩, (hb.cell (p := ⟨w.heap.size + 1, 0, none⟩) (by show w.heap.size + 1 < _; have := HS3.out; omega)).trans hs.1.2⟩, hs.2.1, hs.2.2.trans (hb.mono (by have := HS3.out; omega))⟩)
    (fun _ A C hs hb => ⟨hs.1, hs.2.1, (hb.cell (p := ⟨w.heap.size + 2, 0, none⟩) (by show w.heap.size + 2 < _; have := HS3.out; omega)).trans hs.2.2.1, hs.2.2.2.trans (hb.mono (by have := HS3.out; omega))⟩)
    ⟨⟨⟨r0, r1⟩, r2⟩, by simp, hBw⟩
    (fun x h => { tmps := #[.agg #[.int .i64 k, .int .i64 nu, .string t, .slice p F.length cap], .func (.func 47) #[] #[], .pointer (some ⟨w.heap.size, 0, none⟩), .pointer (some ⟨w.heap.size + 1, 0, none⟩), .pointer (some ⟨w.heap.size + 2, 0, none⟩), undef, .pointer (some ⟨h, 0, none⟩), .agg #[.int .i64 k, .int .i64 nu, .string t, .slice p F.length cap], .func (.func 72) #[] #[.pointer (some ⟨w0.heap.size, 0, none⟩)], .int .i64 (x.d : Int), x.val, undef, undef, undef, undef], defers := [] })
    (fun x W => W.alloc (.cells #[.int .i64 x.k, .int .i64 x.n, .string x.t, .slice x.p x.l x.c] 40))
    (fun x W => (Below.refl _ _).alloc (Nat.le_refl _) _) ?assign ?body ?done ?stop
  case assign =>
    intro l x W K hK
    simp only [List.zip_toArray, List.foldl_toArray, List.zip_cons_cons, List.zip_nil_right, List.foldl_cons, List.foldl_nil, List.setIfInBounds_toArray, List.set_cons_succ, List.set_cons_zero]
    unfold PartX.val at hK ⊢
    gi_wp2
    simpa using hK
  case body =>
    rintro l j ⟨d, vk, vn, vt, vp, vl, vc⟩ W0 W hj ⟨⟨⟨hc1, hf1⟩, hg1⟩, hall2, hBW⟩ hws hsz hnew
    have hbox := (hnew W0.heap.size (Nat.le_refl _)).trans (heap_at_new W0 _)
    dsimp only at hbox
    obtain ⟨x0, x1, x2, x3, _⟩ := four_cells hbox
    have hvt : vt.size ≤ maxLen := hfit _ (List.mem_of_getElem? hj)
    have HF := Lib.hid (impl_form W vk vn vt vp vl vc hvt)
    have hat := all_take (P := fun x => exprForm x.2.1 x.2.2.1 x.2.2.2.1 x.2.2.2.2) seq j _ hj
    rw [hall2] at hat
    have hone := all_one (P := fun x => exprForm x.2.1 x.2.2.1 x.2.2.2.1 x.2.2.2.2) seq j _ hj
    dsimp only [PartX.key, Bool.true_and] at hat hone
    rw [hall] at hone
    have HAT := Lib.hid hat
    have HONE := Lib.hid hone
    have HB := Lib.hid hBW
    have hsW : w3.heap.size < W.heap.size := by rw [hsz]; simp; omega
    clear hbox hnew hsz hws hvt hat hone hBW hj hall2 hall hfit hseq
    generalize exprForm vk vn vt vl = fm at *
    cases fm with
    | false =>
      have HE : Hid (z = false) := HONE.out rfl
      gi_wp2_with fail
      refine ⟨trivial, ?_⟩
      gi_at_call 47
      refine (callsIn_wide.2 HF.out).mono ?_
      rintro e W2 ⟨rfl, hb2⟩
      have r2 := cell_below hc1 hb2
      have r3 : W2.frozen? ⟨w.heap.size + 2, 0, none⟩ = false := (hb2.frozen (p := ⟨w.heap.size + 2, 0, none⟩) (by show w.heap.size + 2 < _; have := HS3.out; omega)).trans hf1
      have HA := Lib.hid (Apart.of_below (Apart.refl w.heap.size w3.heap.size W) hb2)
      have HB2 : Hid (Below w.heap.size w W2) := HB.out.trans (hb2.mono (by have := HS3.out; omega))
      clear hb2
      gi_wp2
      exact ⟨HA.out.trans (Apart.setCell _ _ _ (by show _ ≤ w.heap.size + 2; omega) (by show w.heap.size + 2 < _; have := HS3.out; omega)), rfl, HE.out, World.cell?_setCell_same' _ _ _ (by rw [r2]; rfl), HB2.out.setCell (by show _ ≤ w.heap.size + 2; omega) _⟩
    | true =>
      gi_wp2_with fail
      refine ⟨trivial, ?_⟩
      gi_at_call 47
      refine (callsIn_wide.2 HF.out).mono ?_
      rintro e W2 ⟨rfl, hb2⟩
      have r2 := cell_below hc1 hb2
      have r4 := cell_below hg1 hb2
      have r3 : W2.frozen? ⟨w.heap.size + 2, 0, none⟩ = false := (hb2.frozen (p := ⟨w.heap.size + 2, 0, none⟩) (by show w.heap.size + 2 < _; have := HS3.out; omega)).trans hf1
      have HA := Lib.hid (Apart.of_below (Apart.refl w.heap.size w3.heap.size W) hb2)
      have HB2 : Hid (Below w.heap.size w W2) := HB.out.trans (hb2.mono (by have := HS3.out; omega))
      clear hb2
      gi_wp2
      exact ⟨HA.out, ⟨⟨r2, r3⟩, r4⟩, HAT.out, HB2.out⟩
  case done =>
    rintro Df W hD' ⟨⟨⟨hc1, hf1⟩, _⟩, hall2, hBW⟩ hK
    rw [List.take_length, hall] at hall2
    have HE : Hid (z = true) := hall2
    have HB := Lib.hid hBW
    have hDs : w.heap.size + 2 < Df := by have := HS3.out; omega
    have hK4 : (W.setCell ⟨w.heap.size + 2, 0, none⟩ (.bool true)).heap[Df]? = some (.deferred (some [])) := (Below.heap_setCell W ⟨w.heap.size + 2, 0, none⟩ _ _ (by show Df ≠ w.heap.size + 2; omega)).trans hK
    have hc5 : ((W.setCell ⟨w.heap.size + 2, 0, none⟩ (.bool true)).putObj Df (.deferred none)).cell? ⟨w.heap.size + 2, 0, none⟩ = some (.bool true) :=
      (World.cell?_of_block (World.putObj_heap_other (k := w.heap.size + 2) (by omega))).trans (World.cell?_setCell_same' _ _ _ (by rw [hc1]; rfl))
    have HB2 : Hid (Below w.heap.size w (W.setCell ⟨w.heap.size + 2, 0, none⟩ (.bool true))) := HB.out.setCell (by show _ ≤ w.heap.size + 2; omega) _
    clear hBW hseq hall2 hall hfit
    gi_wp2
    refine ⟨by simp, .inl ⟨_, _, rfl, run_takeDeferred hK4, ?_⟩⟩
    refine ⟨.bool true, ?_, by rw [HE.out], HB2.out.trans (Below.putObj' _ Df (by omega) _)⟩
    simp [results, Try.f46, go_sem, hc5]
  case stop =>
    rintro Df c W hD' ⟨rfl, hzf, hc2, hBW⟩ hK
    have HB := Lib.hid hBW
    have hDs : w.heap.size + 2 < Df := by have := HS3.out; omega
    have hc5 : (W.putObj Df (.deferred none)).cell? ⟨w.heap.size + 2, 0, none⟩ = some (.bool false) :=
      (World.cell?_of_block (World.putObj_heap_other (k := w.heap.size + 2) (by omega))).trans hc2
    clear hBW hseq hall hfit
    gi_wp2
    refine ⟨by simp, .inl ⟨_, _, rfl, run_takeDeferred hK, ?_⟩⟩
    refine ⟨.bool false, ?_, by rw [hzf], HB.out.trans (Below.putObj' _ Df (by omega) _)⟩
    simp [results, Try.f46, go_sem, hc5]
end Go.Proofs.Ytdifefgigcjgeaa.Ex
