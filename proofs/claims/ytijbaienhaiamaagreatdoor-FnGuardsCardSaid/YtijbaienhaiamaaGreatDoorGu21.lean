/- What is proved here: a piece of the proof of YtijbaienhaiamaaGreatDoorGuards (ExAllParts, Most, ExImplLimits, ExImplValid, ExImplFmt, EqualFields). Condition: none beyond what each part says. -/
import Derived.Test.YtijbaienhaiamaaGreatDoorGu19
import Derived.Test.YtijbaienhaiamaaGreatDoorGu20
import Derived.Test.YtijbaienhaiamaaGreatDoorGu08
import Derived.Test.YtijbaienhaiamaaGreatDoorGu18
import Derived.Test.YtijbaienhaiamaaGreatDoorGu01
import Derived.Test.YtijbaienhaiamaaGreatDoorGu02

/- What is proved here: the program's allParts with hasExprForm says whether every node has one of the forms. Condition: the whole lies in memory as said, and is small. -/
section
namespace Go.Proofs.YtijbaienhaiamaaGreatDoor.Ex
open Go.RowKit Go.Shelf

attribute [local go_sem] Oper.semAt_some

theorem all_take {P : Part → Bool} (l : List Part) (j : Nat) (x : Part) (h : l[j]? = some x) : (l.take (j + 1)).all P = ((l.take j).all P && P x) := by
  obtain ⟨hj, rfl⟩ := List.getElem?_eq_some_iff.1 h
  rw [List.take_succ_eq_append_getElem hj, List.all_append]
  simp
theorem all_one {P : Part → Bool} (l : List Part) (j : Nat) (x : Part) (h : l[j]? = some x) (hp : P x = false) : l.all P = false := by
  obtain ⟨hj, rfl⟩ := List.getElem?_eq_some_iff.1 h
  cases hq : l.all P with
  | false => rfl
  | true => rw [List.all_eq_true] at hq; rw [hq _ (List.getElem_mem hj)] at hp; cases hp
/-- Texts of parts fit. -/
theorem pre_fits (F : Trees) (hf : F.fits) : ∀ d, ∀ x ∈ F.pre d, x.2.2.2.1.size ≤ maxLen := by
  induction F with
  | nil => intro d x hx; simp [Trees.pre] at hx
  | cons k n t ar r ih1 ih2 =>
    obtain ⟨_, _, h3, _, h5, h6⟩ := hf
    intro d x hx
    simp only [Trees.pre, List.mem_cons, List.mem_append] at hx
    rcases hx with rfl | hx | hx
    · exact h3
    · exact ih1 h5 _ x hx
    · exact ih2 h6 _ x hx
theorem three_new (w : World) (o0 o1 o2 : Obj) : (((w.alloc o0).alloc o1).alloc o2).heap.size = w.heap.size + 3 ∧ (((w.alloc o0).alloc o1).alloc o2).heap[w.heap.size]? = some o0 ∧ (((w.alloc o0).alloc o1).alloc o2).heap[w.heap.size + 1]? = some o1 ∧ (((w.alloc o0).alloc o1).alloc o2).heap[w.heap.size + 2]? = some o2 ∧ Below w.heap.size w (((w.alloc o0).alloc o1).alloc o2) := by
  have s1 : (w.alloc o0).heap.size = w.heap.size + 1 := Array.size_push _
  have s2 : ((w.alloc o0).alloc o1).heap.size = w.heap.size + 2 := (Array.size_push _).trans (by omega)
  have s3 : (((w.alloc o0).alloc o1).alloc o2).heap.size = w.heap.size + 3 := (Array.size_push _).trans (by omega)
  have e2 := heap_at_new ((w.alloc o0).alloc o1) o2
  rw [s2] at e2
  have e1 := heap_at_new (w.alloc o0) o1
  rw [s1] at e1
  refine ⟨s3, ?_, ?_, e2, (((Below.refl _ _).alloc (Nat.le_refl _) _).alloc (by omega) _).alloc (by omega) _⟩
  · rw [Below.heap_alloc _ _ _ (by omega), Below.heap_alloc _ _ _ (by omega)]
    exact heap_at_new w o0
  · rw [Below.heap_alloc _ _ _ (by omega)]
    exact e1

set_option maxHeartbeats 2000000 in
set_option maxRecDepth 100000 in
theorem all_parts (w : World) (k nu : Int) (t : ByteArray) (F : Trees) (p : Option Addr) (cap : Nat) (hfv : F.fits) (hc : F.count ≤ 1048576) (ht : t.size ≤ maxLen) (hx : TreesAt w F p 0) (hcap : F.length ≤ cap) :
    Calls Tryz.prog 90 #[.agg #[.int .i64 k, .int .i64 nu, .string t, .slice p F.length cap], .func (.func 91) #[] #[]] w fun e w' => e = .returned (.bool (exprForm k nu t F.length && F.formedE)) ∧ Below w.heap.size w w' := by
  refine (callsIn_wide (n := 9)).1 ?_
  obtain ⟨w0, hw0⟩ : ∃ w0, w0 = ((w.alloc (.cells #[.int .i64 k, .int .i64 nu, .string t, .slice p F.length cap] 54)).alloc (.cells #[.func (.func 91) #[] #[]] 59)).alloc (.cells #[.bool false] 4) := ⟨_, rfl⟩
  obtain ⟨hs0, hp0, hpf, hpb, hB0⟩ := three_new w (.cells #[.int .i64 k, .int .i64 nu, .string t, .slice p F.length cap] 54) (.cells #[.func (.func 91) #[] #[]] 59) (.cells #[.bool false] 4)
  rw [← hw0] at hp0 hpf hpb hB0 hs0
  obtain ⟨c0, c1, c2, c3, _⟩ := four_cells hp0
  obtain ⟨b0, b1⟩ := one_cell4 hpb
  obtain ⟨f0, _⟩ := one_cell4 hpf
  have HXW := Lib.hid hx
  have HW0 := Lib.hid hw0
  have HB0 := Lib.hid hB0
  have HS0 := Lib.hid hs0
  obtain ⟨z, hz⟩ : ∃ z, (exprForm k nu t F.length && F.formedE) = z := ⟨_, rfl⟩
  rw [hz]
  clear hw0 hB0 hp0 hpb hpf hx hs0
  refine callsIn_of_wp_marks Tryz.func90 rfl trivial ?_ rfl
  simp only [Tryz.ntmps90, List.size_toArray, List.length_cons, List.length_nil, Nat.reduceAdd, Nat.reduceSub, Array.replicate_succ, Array.replicate_zero, List.push_toArray, List.append_toArray, List.nil_append, List.cons_append]
  gi_wp2_with fail
  refine ⟨trivial, ?_⟩
  gi_at_call 97
  rw [← HW0.out]
  refine (parts_of _ k nu t p F.length cap _).mono ?_
  rintro e w' ⟨rfl, rfl⟩
  gi_wp2_with fail
  obtain ⟨w3, hw3⟩ : ∃ w3, w3 = w0.alloc (.cells #[.int .i64 k, .int .i64 nu, .string t, .slice p F.length cap] 54) := ⟨_, rfl⟩
  have hp2 := heap_at_new w0 (.cells #[.int .i64 k, .int .i64 nu, .string t, .slice p F.length cap] 54)
  have hB3 : Below w0.heap.size w0 (w0.alloc (.cells #[.int .i64 k, .int .i64 nu, .string t, .slice p F.length cap] 54)) := (Below.refl _ _).alloc (Nat.le_refl _) _
  have hs3 : (w0.alloc (.cells #[.int .i64 k, .int .i64 nu, .string t, .slice p F.length cap] 54)).heap.size = w0.heap.size + 1 := Array.size_push _
  rw [← hw3] at hp2 hB3 hs3 ⊢
  have hBw : Below w.heap.size w w3 := HB0.out.trans (hB3.mono HB0.out.size)
  have r0 := cell_below b0 hB3
  have r1 : w3.frozen? ⟨w.heap.size + 2, 0, none⟩ = false := (hB3.frozen (p := ⟨w.heap.size + 2, 0, none⟩) (by show w.heap.size + 2 < _; rw [HS0.out]; omega)).trans b1
  have r2 := cell_below f0 hB3
  have hxw : TreesAt w F p 0 := HXW.out
  have hseq := parts_seq (9 - 1) k nu t F p cap w0.heap.size w.heap.size w3 hp2 (TreesOn.keep (fun b hb => hBw.block b hb) _ _ _ (TreesOn.of _ _ _ hxw)) (by have := hBw.size; omega) hc hcap
  have hall := allExpr_node k nu t F
  have hfit : ∀ x ∈ ((1, k, nu, t, F.length) :: F.pre 2 : List Part), x.2.2.2.1.size ≤ maxLen := by
    intro x hx
    rcases List.mem_cons.1 hx with rfl | hx
    · exact ht
    · exact pre_fits F hfv _ x hx
  have HS3 : Hid (w.heap.size + 3 < w3.heap.size) := by have := HS0.out; unfold Hid; omega
  rw [hz] at hall
  generalize (1, k, nu, t, F.length) :: F.pre 2 = seq at *
  clear hw3 hp2 hB3 hs3 hxw hfv hc ht hz
  refine wpIn_rangeFunc_go2 rfl (by omega) (gf := 154) (lb := #[.pointer (some ⟨w0.heap.size, 0, none⟩)]) rfl trivial (enters_of Tryz.func154 (by kernel_rfl) rfl)
    hseq (Below.refl _ _) (by have := HS3.out; omega) (fun _ => rfl)
    (fun j W => ((W.cell? ⟨w.heap.size + 2, 0, none⟩ = some (.bool false) ∧ W.frozen? ⟨w.heap.size + 2, 0, none⟩ = false) ∧ W.cell? ⟨w.heap.size + 1, 0, none⟩ = some (.func (.func 91) #[] #[])) ∧ (seq.take j).all (fun x => exprForm x.2.1 x.2.2.1 x.2.2.2.1 x.2.2.2.2) = true ∧ Below w.heap.size w W)
    (fun c W => c = .ret ∧ z = false ∧ W.cell? ⟨w.heap.size + 2, 0, none⟩ = some (.bool false) ∧ Below w.heap.size w W)
    (fun j A C hs hb => ⟨⟨⟨(hb.cell (p := ⟨w.heap.size + 2, 0, none⟩) (by show w.heap.size + 2 < _; have := HS3.out; omega)).trans hs.1.1.1, (hb.frozen (p := ⟨w.heap.size + 2, 0, none⟩) (by show w.heap.size + 2 < _; have := HS3.out; omega)).trans hs.1.1.2⟩, (hb.cell (p := ⟨w.heap.size + 1, 0, none⟩) (by show w.heap.size + 1 < _; have := HS3.out; omega)).trans hs.1.2⟩, hs.2.1, hs.2.2.trans (hb.mono (by have := HS3.out; omega))⟩)
    (fun _ A C hs hb => ⟨hs.1, hs.2.1, (hb.cell (p := ⟨w.heap.size + 2, 0, none⟩) (by show w.heap.size + 2 < _; have := HS3.out; omega)).trans hs.2.2.1, hs.2.2.2.trans (hb.mono (by have := HS3.out; omega))⟩)
    ⟨⟨⟨r0, r1⟩, r2⟩, by simp, hBw⟩
    (fun x h => { tmps := #[.agg #[.int .i64 k, .int .i64 nu, .string t, .slice p F.length cap], .func (.func 91) #[] #[], .pointer (some ⟨w.heap.size, 0, none⟩), .pointer (some ⟨w.heap.size + 1, 0, none⟩), .pointer (some ⟨w.heap.size + 2, 0, none⟩), undef, .pointer (some ⟨h, 0, none⟩), .agg #[.int .i64 k, .int .i64 nu, .string t, .slice p F.length cap], .func (.func 154) #[] #[.pointer (some ⟨w0.heap.size, 0, none⟩)], .int .i64 (x.d : Int), x.val, undef, undef, undef, undef], defers := [] })
    (fun x W => W.alloc (.cells #[.int .i64 x.k, .int .i64 x.n, .string x.t, .slice x.p x.l x.c] 54))
    (fun x W => (Below.refl _ _).alloc (Nat.le_refl _) _) ?assign ?body ?done ?stop
  case assign =>
    intro l x W K hK
    simp only [List.zip_toArray, List.foldl_toArray, List.zip_cons_cons, List.zip_nil_right, List.foldl_cons, List.foldl_nil, List.setIfInBounds_toArray, List.set_cons_succ, List.set_cons_zero]
    unfold PartX.val at hK ⊢
    gi_wp2
    simpa using hK
  case body =>
    rintro l j ⟨d, vk, vn, vt, vp, vl, vc⟩ W0 W hj ⟨⟨⟨hc1, hf1⟩, hg1⟩, hall2, hBW⟩ hws hsz hnew
    have hbox := (hnew W0.heap.size (Nat.le_refl _)).trans (heap_at_new W0 _)
    dsimp only at hbox
    obtain ⟨x0, x1, x2, x3, _⟩ := four_cells hbox
    have hvt : vt.size ≤ maxLen := hfit _ (List.mem_of_getElem? hj)
    have HF := Lib.hid (impl_form W vk vn vt vp vl vc hvt)
    have hat := all_take (P := fun x => exprForm x.2.1 x.2.2.1 x.2.2.2.1 x.2.2.2.2) seq j _ hj
    rw [hall2] at hat
    have hone := all_one (P := fun x => exprForm x.2.1 x.2.2.1 x.2.2.2.1 x.2.2.2.2) seq j _ hj
    dsimp only [PartX.key, Bool.true_and] at hat hone
    rw [hall] at hone
    have HAT := Lib.hid hat
    have HONE := Lib.hid hone
    have HB := Lib.hid hBW
    have hsW : w3.heap.size < W.heap.size := by rw [hsz]; simp; omega
    clear hbox hnew hsz hws hvt hat hone hBW hj hall2 hall hfit hseq
    generalize exprForm vk vn vt vl = fm at *
    cases fm with
    | false =>
      have HE : Hid (z = false) := HONE.out rfl
      gi_wp2_with fail
      refine ⟨trivial, ?_⟩
      gi_at_call 91
      refine (callsIn_wide.2 HF.out).mono ?_
      rintro e W2 ⟨rfl, hb2⟩
      have r2 := cell_below hc1 hb2
      have r3 : W2.frozen? ⟨w.heap.size + 2, 0, none⟩ = false := (hb2.frozen (p := ⟨w.heap.size + 2, 0, none⟩) (by show w.heap.size + 2 < _; have := HS3.out; omega)).trans hf1
      have HA := Lib.hid (Apart.of_below (Apart.refl w.heap.size w3.heap.size W) hb2)
      have HB2 : Hid (Below w.heap.size w W2) := HB.out.trans (hb2.mono (by have := HS3.out; omega))
      clear hb2
      gi_wp2
      exact ⟨HA.out.trans (Apart.setCell _ _ _ (by show _ ≤ w.heap.size + 2; omega) (by show w.heap.size + 2 < _; have := HS3.out; omega)), rfl, HE.out, World.cell?_setCell_same' _ _ _ (by rw [r2]; rfl), HB2.out.setCell (by show _ ≤ w.heap.size + 2; omega) _⟩
    | true =>
      gi_wp2_with fail
      refine ⟨trivial, ?_⟩
      gi_at_call 91
      refine (callsIn_wide.2 HF.out).mono ?_
      rintro e W2 ⟨rfl, hb2⟩
      have r2 := cell_below hc1 hb2
      have r4 := cell_below hg1 hb2
      have r3 : W2.frozen? ⟨w.heap.size + 2, 0, none⟩ = false := (hb2.frozen (p := ⟨w.heap.size + 2, 0, none⟩) (by show w.heap.size + 2 < _; have := HS3.out; omega)).trans hf1
      have HA := Lib.hid (Apart.of_below (Apart.refl w.heap.size w3.heap.size W) hb2)
      have HB2 : Hid (Below w.heap.size w W2) := HB.out.trans (hb2.mono (by have := HS3.out; omega))
      clear hb2
      gi_wp2
      exact ⟨HA.out, ⟨⟨r2, r3⟩, r4⟩, HAT.out, HB2.out⟩
  case done =>
    rintro Df W hD' ⟨⟨⟨hc1, hf1⟩, _⟩, hall2, hBW⟩ hK
    rw [List.take_length, hall] at hall2
    have HE : Hid (z = true) := hall2
    have HB := Lib.hid hBW
    have hDs : w.heap.size + 2 < Df := by have := HS3.out; omega
    have hK4 : (W.setCell ⟨w.heap.size + 2, 0, none⟩ (.bool true)).heap[Df]? = some (.deferred (some [])) := (Below.heap_setCell W ⟨w.heap.size + 2, 0, none⟩ _ _ (by show Df ≠ w.heap.size + 2; omega)).trans hK
    have hc5 : ((W.setCell ⟨w.heap.size + 2, 0, none⟩ (.bool true)).putObj Df (.deferred none)).cell? ⟨w.heap.size + 2, 0, none⟩ = some (.bool true) :=
      (World.cell?_of_block (World.putObj_heap_other (k := w.heap.size + 2) (by omega))).trans (World.cell?_setCell_same' _ _ _ (by rw [hc1]; rfl))
    have HB2 : Hid (Below w.heap.size w (W.setCell ⟨w.heap.size + 2, 0, none⟩ (.bool true))) := HB.out.setCell (by show _ ≤ w.heap.size + 2; omega) _
    clear hBW hseq hall2 hall hfit
    gi_wp2
    refine ⟨by simp, .inl ⟨_, _, rfl, run_takeDeferred hK4, ?_⟩⟩
    refine ⟨.bool true, ?_, by rw [HE.out], HB2.out.trans (Below.putObj' _ Df (by omega) _)⟩
    simp [results, Tryz.f90, go_sem, hc5]
  case stop =>
    rintro Df c W hD' ⟨rfl, hzf, hc2, hBW⟩ hK
    have HB := Lib.hid hBW
    have hDs : w.heap.size + 2 < Df := by have := HS3.out; omega
    have hc5 : (W.putObj Df (.deferred none)).cell? ⟨w.heap.size + 2, 0, none⟩ = some (.bool false) :=
      (World.cell?_of_block (World.putObj_heap_other (k := w.heap.size + 2) (by omega))).trans hc2
    clear hBW hseq hall hfit
    gi_wp2
    refine ⟨by simp, .inl ⟨_, _, rfl, run_takeDeferred hK, ?_⟩⟩
    refine ⟨.bool false, ?_, by rw [hzf], HB.out.trans (Below.putObj' _ Df (by omega) _)⟩
    simp [results, Tryz.f90, go_sem, hc5]
end Go.Proofs.YtijbaienhaiamaaGreatDoor.Ex
end

/- What is proved here: the greatest depth of what partsOf yields (pure). No condition. -/
section
namespace Go.Proofs.YtijbaienhaiamaaGreatDoor
open Go.RowKit

def most (l : List Part) : Nat := (l.map Prod.fst).foldl max 0
theorem foldl_max (l : List Nat) : ∀ a, l.foldl max a = max a (l.foldl max 0) := by
  induction l with
  | nil => intro a; simp
  | cons x r ih => intro a; rw [List.foldl_cons, List.foldl_cons, ih, ih (max 0 x)]; omega
theorem most_append (a b : List Part) : most (a ++ b) = max (most a) (most b) := by
  unfold most
  rw [List.map_append, List.foldl_append, foldl_max]
theorem most_cons (x : Part) (r : List Part) : most (x :: r) = max x.1 (most r) := by
  unfold most
  rw [List.map_cons, List.foldl_cons, foldl_max]
  omega
theorem most_pre (F : Trees) : ∀ d, (F.deep = 0 → most (F.pre (d + 1)) = 0) ∧ (F.deep ≠ 0 → most (F.pre (d + 1)) = d + F.deep) := by
  induction F with
  | nil => intro d; exact ⟨fun _ => rfl, fun h => absurd rfl h⟩
  | cons k n t ar r ih1 ih2 =>
    intro d
    have h1 := ih1 (d + 1)
    have h2 := ih2 d
    have e : most (Trees.pre (.cons k n t ar r) (d + 1)) = max (d + 1) (max (most (ar.pre (d + 1 + 1))) (most (r.pre (d + 1)))) := by
      rw [Trees.pre, most_cons, most_append]
    have e2 : (Trees.cons k n t ar r).deep = max (ar.deep + 1) r.deep := rfl
    rw [e, e2]
    refine ⟨fun h => by omega, fun _ => ?_⟩
    by_cases ha : ar.deep = 0 <;> by_cases hr : r.deep = 0
    · rw [h1.1 ha, h2.1 hr]; omega
    · rw [h1.1 ha, h2.2 hr]; omega
    · rw [h1.2 ha, h2.1 hr]; omega
    · rw [h1.2 ha, h2.2 hr]; omega
theorem most_seq (x : Part) (F : Trees) (hx : x.1 = 1) : most (x :: F.pre 2) = F.deep + 1 := by
  rw [most_cons, hx]
  by_cases h : F.deep = 0
  · rw [(most_pre F 1).1 h]; omega
  · rw [(most_pre F 1).2 h]; omega
theorem most_take (l : List Part) (j : Nat) (x : Part) (h : l[j]? = some x) : most (l.take (j + 1)) = max (most (l.take j)) x.1 := by
  obtain ⟨hj, rfl⟩ := List.getElem?_eq_some_iff.1 h
  rw [List.take_succ_eq_append_getElem hj, most_append, most_cons]
  simp [most]
theorem most_le (l : List Part) (j : Nat) : most (l.take j) ≤ most l := by
  have e : most l = max (most (l.take j)) (most (l.drop j)) := by rw [← most_append, List.take_append_drop]
  omega
theorem le_most (l : List Part) (j : Nat) (x : Part) (h : l[j]? = some x) : x.1 ≤ most l := by
  have := most_le l (j + 1)
  rw [most_take l j x h] at this
  omega

end Go.Proofs.YtijbaienhaiamaaGreatDoor
end

/- What is proved here: the program's isWithinLimits says whether a value has at most 40 nodes and a depth of at most 12. Condition: the value lies in memory as said, and is small. -/
section
namespace Go.Proofs.YtijbaienhaiamaaGreatDoor.Ex
open Go.RowKit Go.Shelf

attribute [local go_sem] Oper.semAt_some

/-- Six new blocks. -/
theorem six6 (w : World) (o1 o2 o3 o4 o5 o6 : Obj) : ((((((w.alloc o1).alloc o2).alloc o3).alloc o4).alloc o5).alloc o6).heap.size = w.heap.size + 6 ∧ (((((w.alloc o1).alloc o2).alloc o3).alloc o4).alloc o5).heap.size = w.heap.size + 5 ∧
    ((((((w.alloc o1).alloc o2).alloc o3).alloc o4).alloc o5).alloc o6).heap[w.heap.size + 1]? = some o2 ∧ ((((((w.alloc o1).alloc o2).alloc o3).alloc o4).alloc o5).alloc o6).heap[w.heap.size + 1 + 1]? = some o3 ∧ ((((((w.alloc o1).alloc o2).alloc o3).alloc o4).alloc o5).alloc o6).heap[w.heap.size + 1 + 1 + 1]? = some o4 ∧ ((((((w.alloc o1).alloc o2).alloc o3).alloc o4).alloc o5).alloc o6).heap[w.heap.size + 1 + 1 + 1 + 1]? = some o5 ∧ ((((((w.alloc o1).alloc o2).alloc o3).alloc o4).alloc o5).alloc o6).heap[w.heap.size + 1 + 1 + 1 + 1 + 1]? = some o6 ∧ Below w.heap.size w ((((((w.alloc o1).alloc o2).alloc o3).alloc o4).alloc o5).alloc o6) := by
  have s1 : (w.alloc o1).heap.size = w.heap.size + 1 := by simp
  have s2 : ((w.alloc o1).alloc o2).heap.size = w.heap.size + 2 := by simp
  have s3 : (((w.alloc o1).alloc o2).alloc o3).heap.size = w.heap.size + 3 := by simp
  have s4 : ((((w.alloc o1).alloc o2).alloc o3).alloc o4).heap.size = w.heap.size + 4 := by simp
  have s5 : (((((w.alloc o1).alloc o2).alloc o3).alloc o4).alloc o5).heap.size = w.heap.size + 5 := by simp
  have s6 : ((((((w.alloc o1).alloc o2).alloc o3).alloc o4).alloc o5).alloc o6).heap.size = w.heap.size + 6 := by simp
  have n2 := heap_at_new (w.alloc o1) o2
  have n3 := heap_at_new ((w.alloc o1).alloc o2) o3
  have n4 := heap_at_new (((w.alloc o1).alloc o2).alloc o3) o4
  have n5 := heap_at_new ((((w.alloc o1).alloc o2).alloc o3).alloc o4) o5
  have n6 := heap_at_new (((((w.alloc o1).alloc o2).alloc o3).alloc o4).alloc o5) o6
  rw [s1] at n2
  rw [s2] at n3
  rw [s3] at n4
  rw [s4] at n5
  rw [s5] at n6
  refine ⟨s6, s5, ?_, ?_, ?_, ?_, n6, ((((((Below.refl _ _).alloc (Nat.le_refl _) _).alloc (by omega) _).alloc (by omega) _).alloc (by omega) _).alloc (by omega) _).alloc (by omega) _⟩
  · rw [Below.heap_alloc _ _ _ (by omega), Below.heap_alloc _ _ _ (by omega), Below.heap_alloc _ _ _ (by omega), Below.heap_alloc _ _ _ (by omega)]; exact n2
  · rw [Below.heap_alloc _ _ _ (by omega), Below.heap_alloc _ _ _ (by omega), Below.heap_alloc _ _ _ (by omega)]; exact n3
  · rw [Below.heap_alloc _ _ _ (by omega), Below.heap_alloc _ _ _ (by omega)]; exact n4
  · rw [Below.heap_alloc _ _ _ (by omega)]; exact n5

set_option maxHeartbeats 2000000 in
set_option maxRecDepth 100000 in
theorem impl_limits (N D : Nat) (hN : N ≤ 1048576) (w : World) (k nu : Int) (t : ByteArray) (F : Trees) (p : Option Addr) (cap : Nat) (hx : TreesAt w F p 0) (hcap : F.length ≤ cap) (hc : F.count ≤ 1048576) :
    Calls Tryz.prog 89 #[.agg #[.int .i64 k, .int .i64 nu, .string t, .slice p F.length cap], .int .i64 (N : Int), .int .i64 (D : Int)] w fun e w' => e = .returned (.bool (decide (1 + F.count ≤ N ∧ F.deep + 1 ≤ D))) ∧ Below w.heap.size w w' := by
  refine (callsIn_wide (n := 9)).1 ?_
  refine callsIn_of_wp_marks Tryz.func89 rfl trivial ?_ rfl
  simp only [Tryz.ntmps89, List.size_toArray, List.length_cons, List.length_nil, Nat.reduceAdd, Nat.reduceSub, Array.replicate_succ, Array.replicate_zero, List.push_toArray, List.append_toArray, List.nil_append, List.cons_append]
  gi_wp2_with (refine ⟨trivial, ?_⟩; gi_at_call 97; refine (parts_of _ k nu t p F.length cap _).mono ?_; rintro e w' ⟨rfl, rfl⟩)
  obtain ⟨w3, hw3⟩ : ∃ w3, w3 = (((((w.alloc (.cells #[.int .i64 k, .int .i64 nu, .string t, .slice p F.length cap] 54)).alloc (.cells #[.int .i64 (N : Int)] 3)).alloc (.cells #[.int .i64 (D : Int)] 3)).alloc (.cells #[.bool false] 4)).alloc (.cells #[.int .i64 0] 3)).alloc (.cells #[.int .i64 k, .int .i64 nu, .string t, .slice p F.length cap] 54) := ⟨_, rfl⟩
  obtain ⟨hs6, hs5, hpN, hpD, hp0, hp1, hp2, hB⟩ := six6 w (.cells #[.int .i64 k, .int .i64 nu, .string t, .slice p F.length cap] 54) (.cells #[.int .i64 (N : Int)] 3) (.cells #[.int .i64 (D : Int)] 3) (.cells #[.bool false] 4) (.cells #[.int .i64 0] 3) (.cells #[.int .i64 k, .int .i64 nu, .string t, .slice p F.length cap] 54)
  rw [← hw3] at hs6 hpN hpD hp0 hp1 hp2 hB ⊢
  have hseq := parts_seq (9 - 1) k nu t F p cap (w.heap.size + 1 + 1 + 1 + 1 + 1) w.heap.size w3 hp2 (TreesOn.keep (fun b hb => hB.block b hb) _ _ _ (TreesOn.of _ _ _ hx)) (by omega) hc hcap
  have hdeep := most_seq (1, k, nu, t, F.length) F rfl
  have hdb := F.deep_le_count
  have hlen : ((1, k, nu, t, F.length) :: F.pre 2 : List Part).length = 1 + F.count := by rw [List.length_cons, Trees.pre_length]; omega
  generalize (1, k, nu, t, F.length) :: F.pre 2 = seq at *
  generalize hz : decide (1 + F.count ≤ N ∧ F.deep + 1 ≤ D) = z
  have HZ := Lib.hid hz
  clear hw3 hx hp2 hz
  refine wpIn_rangeFunc_go rfl (by omega) (gf := 154) (lb := #[.pointer (some ⟨w.heap.size + 1 + 1 + 1 + 1 + 1, 0, none⟩)]) rfl trivial (enters_of Tryz.func154 (by kernel_rfl) rfl)
    hseq (Below.refl _ _) (by omega) (fun _ => rfl)
    (fun j W => ((W.cell? ⟨w.heap.size + 1 + 1 + 1 + 1, 0, none⟩ = some (.int .i64 (j : Int)) ∧ W.frozen? ⟨w.heap.size + 1 + 1 + 1 + 1, 0, none⟩ = false ∧ W.cell? ⟨w.heap.size + 1 + 1 + 1, 0, none⟩ = some (.bool false) ∧ W.frozen? ⟨w.heap.size + 1 + 1 + 1, 0, none⟩ = false) ∧ W.cell? ⟨w.heap.size + 1, 0, none⟩ = some (.int .i64 (N : Int)) ∧ W.cell? ⟨w.heap.size + 1 + 1, 0, none⟩ = some (.int .i64 (D : Int))) ∧ (j ≤ N ∧ most (seq.take j) ≤ D) ∧ Below w.heap.size w W)
    (fun c W => c = .ret ∧ z = false ∧ W.cell? ⟨w.heap.size + 1 + 1 + 1, 0, none⟩ = some (.bool false) ∧ Below w.heap.size w W)
    (fun j A C hs hb => ⟨⟨⟨(hb.cell (p := ⟨w.heap.size + 1 + 1 + 1 + 1, 0, none⟩) (by show w.heap.size + 1 + 1 + 1 + 1 < _; omega)).trans hs.1.1.1, (hb.frozen (p := ⟨w.heap.size + 1 + 1 + 1 + 1, 0, none⟩) (by show w.heap.size + 1 + 1 + 1 + 1 < _; omega)).trans hs.1.1.2.1, (hb.cell (p := ⟨w.heap.size + 1 + 1 + 1, 0, none⟩) (by show w.heap.size + 1 + 1 + 1 < _; omega)).trans hs.1.1.2.2.1, (hb.frozen (p := ⟨w.heap.size + 1 + 1 + 1, 0, none⟩) (by show w.heap.size + 1 + 1 + 1 < _; omega)).trans hs.1.1.2.2.2⟩, (hb.cell (p := ⟨w.heap.size + 1, 0, none⟩) (by show w.heap.size + 1 < _; omega)).trans hs.1.2.1, (hb.cell (p := ⟨w.heap.size + 1 + 1, 0, none⟩) (by show w.heap.size + 1 + 1 < _; omega)).trans hs.1.2.2⟩, hs.2.1, hs.2.2.trans (hb.mono (by omega))⟩)
    (fun _ A C hs hb => ⟨hs.1, hs.2.1, (hb.cell (p := ⟨w.heap.size + 1 + 1 + 1, 0, none⟩) (by show w.heap.size + 1 + 1 + 1 < _; omega)).trans hs.2.2.1, hs.2.2.2.trans (hb.mono (by omega))⟩)
    ⟨⟨⟨(one_cell4 hp1).1, (one_cell4 hp1).2, (one_cell4 hp0).1, (one_cell4 hp0).2⟩, (one_cell4 hpN).1, (one_cell4 hpD).1⟩, ⟨by omega, by simp [most]⟩, hB⟩
    (fun x => { tmps := #[.agg #[.int .i64 k, .int .i64 nu, .string t, .slice p F.length cap], .int .i64 (N : Int), .int .i64 (D : Int), .pointer (some ⟨w.heap.size, 0, none⟩), .pointer (some ⟨w.heap.size + 1, 0, none⟩), .pointer (some ⟨w.heap.size + 1 + 1, 0, none⟩), .pointer (some ⟨w.heap.size + 1 + 1 + 1, 0, none⟩), .pointer (some ⟨w.heap.size + 1 + 1 + 1 + 1, 0, none⟩), .int .i64 (x.d : Int), .agg #[.int .i64 k, .int .i64 nu, .string t, .slice p F.length cap], .func (.func 154) #[] #[.pointer (some ⟨w.heap.size + 1 + 1 + 1 + 1 + 1, 0, none⟩)], .int .i64 (x.d : Int), x.val, undef, undef, undef, undef, undef, undef, undef, undef, undef, undef], defers := [] }) ?assign ?body ?done ?stop
  case assign =>
    intro l x W K hK
    simp only [List.zip_toArray, List.foldl_toArray, List.zip_cons_cons, List.zip_nil_right, List.foldl_cons, List.foldl_nil, List.setIfInBounds_toArray, List.set_cons_succ, List.set_cons_zero]
    gi_wp2
    simpa using hK
  case body =>
    rintro l j ⟨d, vk, vn, vt, vp, vl, vc⟩ W hj ⟨⟨⟨hc1, hf1, hc2, hf2⟩, hcN, hcD⟩, ⟨hjN, hmD⟩, hBW⟩ hws
    have hm := most_take seq j _ hj
    have hl2 := le_most seq j _ hj
    rw [hdeep] at hl2
    dsimp only [PartX.key] at hm hl2
    have hjl : j < 1 + F.count := by
      rw [← hlen]
      exact (List.getElem?_eq_some_iff.1 hj).1
    have HB := Lib.hid hBW
    have HM : Hid (most (seq.take (j + 1)) = max (most (seq.take j)) d) := hm
    have HMD := Lib.hid hmD
    have hx1 := World.cell?_setCell_same' W ⟨w.heap.size + 1 + 1 + 1 + 1, 0, none⟩ (.int .i64 ((j : Int) + 1)) (by rw [hc1]; rfl)
    have hx2 : (W.setCell ⟨w.heap.size + 1 + 1 + 1 + 1, 0, none⟩ (.int .i64 ((j : Int) + 1))).cell? ⟨w.heap.size + 1 + 1 + 1, 0, none⟩ = some (.bool false) := by
      rw [← hc2]
      exact World.cell?_of_block (Below.heap_setCell _ _ _ _ (by show w.heap.size + 1 + 1 + 1 ≠ w.heap.size + 1 + 1 + 1 + 1; omega))
    have hxN : (W.setCell ⟨w.heap.size + 1 + 1 + 1 + 1, 0, none⟩ (.int .i64 ((j : Int) + 1))).cell? ⟨w.heap.size + 1, 0, none⟩ = some (.int .i64 (N : Int)) := by
      rw [← hcN]
      exact World.cell?_of_block (Below.heap_setCell _ _ _ _ (by show w.heap.size + 1 ≠ w.heap.size + 1 + 1 + 1 + 1; omega))
    have hxD : (W.setCell ⟨w.heap.size + 1 + 1 + 1 + 1, 0, none⟩ (.int .i64 ((j : Int) + 1))).cell? ⟨w.heap.size + 1 + 1, 0, none⟩ = some (.int .i64 (D : Int)) := by
      rw [← hcD]
      exact World.cell?_of_block (Below.heap_setCell _ _ _ _ (by show w.heap.size + 1 + 1 ≠ w.heap.size + 1 + 1 + 1 + 1; omega))
    have hx3 : (W.setCell ⟨w.heap.size + 1 + 1 + 1 + 1, 0, none⟩ (.int .i64 ((j : Int) + 1))).frozen? ⟨w.heap.size + 1 + 1 + 1, 0, none⟩ = false := by rw [World.frozen?_setCell]; exact hf2
    have hB1 : Below w.heap.size w (W.setCell ⟨w.heap.size + 1 + 1 + 1 + 1, 0, none⟩ (.int .i64 ((j : Int) + 1))) := HB.out.setCell (by show _ ≤ w.heap.size + 1 + 1 + 1 + 1; omega) _
    have HX2 := Lib.hid hx2
    have HB1 := Lib.hid hB1
    have hA1 : Apart w.heap.size w3.heap.size W (W.setCell ⟨w.heap.size + 1 + 1 + 1 + 1, 0, none⟩ (.int .i64 ((j : Int) + 1))) := Apart.setCell _ _ _ (by show _ ≤ w.heap.size + 1 + 1 + 1 + 1; omega) (by show w.heap.size + 1 + 1 + 1 + 1 < _; omega)
    have HA1 := Lib.hid hA1
    have HF1 : Hid ((W.setCell ⟨w.heap.size + 1 + 1 + 1 + 1, 0, none⟩ (.int .i64 ((j : Int) + 1))).frozen? ⟨w.heap.size + 1 + 1 + 1 + 1, 0, none⟩ = false) := by unfold Hid; rw [World.frozen?_setCell]; exact hf1
    have HF2 := Lib.hid hx3
    have HX1 := Lib.hid hx1
    have HXN := Lib.hid hxN
    have HXD := Lib.hid hxD
    have HW3 := Lib.hid hs6
    clear hj hBW hseq hm hmD hB1 hA1 hs6 hs5 hlen hdeep hp0 hp1 hB hpN hpD hcN hcD
    by_cases hgt : N < j + 1
    · have HE : Hid (z = false) := by unfold Hid; rw [← HZ.out]; simp; omega
      have hg : (N : Int) < (j : Int) + 1 := by omega
      clear hjl hl2 hdb
      gi_wp2
      refine ⟨HA1.out.trans (Apart.setCell _ _ _ (by show _ ≤ w.heap.size + 1 + 1 + 1; omega) (by show w.heap.size + 1 + 1 + 1 < _; have := HW3.out; omega)), rfl, HE.out, World.cell?_setCell_same' _ _ _ (by rw [HX2.out]; rfl), HB1.out.setCell (by show _ ≤ w.heap.size + 1 + 1 + 1; omega) _⟩
    · have hg : ¬ (N : Int) < (j : Int) + 1 := by omega
      by_cases hd : D < d
      · have HE : Hid (z = false) := by unfold Hid; rw [← HZ.out]; simp; omega
        have hg2 : (D : Int) < (d : Int) := by omega
        clear hjl hl2 hdb
        gi_wp2
        refine ⟨HA1.out.trans (Apart.setCell _ _ _ (by show _ ≤ w.heap.size + 1 + 1 + 1; omega) (by show w.heap.size + 1 + 1 + 1 < _; have := HW3.out; omega)), rfl, HE.out, World.cell?_setCell_same' _ _ _ (by rw [HX2.out]; rfl), HB1.out.setCell (by show _ ≤ w.heap.size + 1 + 1 + 1; omega) _⟩
      · have hg2 : ¬ (D : Int) < (d : Int) := by omega
        clear hjl hl2 hdb
        gi_wp2
        refine ⟨HA1.out, ⟨⟨⟨by rw [HX1.out]; rfl, HF1.out, HX2.out, HF2.out⟩, HXN.out, HXD.out⟩, ⟨by omega, by rw [HM.out]; have := HMD.out; omega⟩, HB1.out⟩⟩
  case done =>
    rintro Df W hD' ⟨⟨⟨hc1, hf1, hc2, hf2⟩, hcN, hcD⟩, ⟨hjN, hmD⟩, hBW⟩ hK
    rw [List.take_length, hdeep] at hmD
    rw [hlen] at hjN
    have HE : Hid (z = true) := by unfold Hid; rw [← HZ.out]; simp; omega
    have HB := Lib.hid hBW
    have hK4 : (W.setCell ⟨w.heap.size + 1 + 1 + 1, 0, none⟩ (.bool true)).heap[Df]? = some (.deferred (some [])) := (Below.heap_setCell W ⟨w.heap.size + 1 + 1 + 1, 0, none⟩ _ _ (by show Df ≠ w.heap.size + 1 + 1 + 1; omega)).trans hK
    have hc5 : ((W.setCell ⟨w.heap.size + 1 + 1 + 1, 0, none⟩ (.bool true)).putObj Df (.deferred none)).cell? ⟨w.heap.size + 1 + 1 + 1, 0, none⟩ = some (.bool true) :=
      (World.cell?_of_block (World.putObj_heap_other (k := w.heap.size + 1 + 1 + 1) (by omega))).trans (World.cell?_setCell_same' _ _ _ (by rw [hc2]; rfl))
    have HB2 : Hid (Below w.heap.size w (W.setCell ⟨w.heap.size + 1 + 1 + 1, 0, none⟩ (.bool true))) := HB.out.setCell (by show _ ≤ w.heap.size + 1 + 1 + 1; omega) _
    clear hBW hseq hcN hcD
    gi_wp2
    refine ⟨by simp, .inl ⟨_, _, rfl, run_takeDeferred hK4, ?_⟩⟩
    refine ⟨.bool true, ?_, by rw [HZ.out, HE.out], HB2.out.trans (Below.putObj' _ Df (by omega) _)⟩
    simp [results, Tryz.f89, go_sem, hc5]
  case stop =>
    rintro Df c W hD' ⟨rfl, hzf, hc2, hBW⟩ hK
    have HB := Lib.hid hBW
    have hc5 : (W.putObj Df (.deferred none)).cell? ⟨w.heap.size + 1 + 1 + 1, 0, none⟩ = some (.bool false) :=
      (World.cell?_of_block (World.putObj_heap_other (k := w.heap.size + 1 + 1 + 1) (by omega))).trans hc2
    clear hBW hseq
    gi_wp2
    refine ⟨by simp, .inl ⟨_, _, rfl, run_takeDeferred hK, ?_⟩⟩
    refine ⟨.bool false, ?_, by rw [HZ.out, hzf], HB.out.trans (Below.putObj' _ Df (by omega) _)⟩
    simp [results, Tryz.f89, go_sem, hc5]
end Go.Proofs.YtijbaienhaiamaaGreatDoor.Ex
end

/- What is proved here: the program's IsValidExpr says whether an expression is valid. Condition: the expression lies in memory as said, and is small. -/
section
namespace Go.Proofs.YtijbaienhaiamaaGreatDoor.Ex
open Go.RowKit

set_option maxHeartbeats 2000000 in
set_option maxRecDepth 100000 in
theorem impl_valid_expr (w : World) (k nu : Int) (t : ByteArray) (F : Trees) (p : Option Addr) (cap : Nat) (hfv : F.fits) (hc : F.count ≤ 1048576) (ht : t.size ≤ maxLen) (hx : TreesAt w F p 0) (hcap : F.length ≤ cap) :
    Calls Tryz.prog 36 #[.agg #[.int .i64 k, .int .i64 nu, .string t, .slice p F.length cap]] w fun e w' => e = .returned (.bool (validExpr k nu t F)) ∧ Below w.heap.size w w' := by
  have HL := Lib.hid (fun w' (hb : Below w.heap.size w w') => impl_limits 12 6 (by omega) w' k nu t F p cap (hx.below hb) hcap hc)
  simp only [show ((12 : Nat) : Int) = 12 from rfl, show ((6 : Nat) : Int) = 6 from rfl] at HL
  have HA := Lib.hid (fun w' (hb : Below w.heap.size w w') => all_parts w' k nu t F p cap hfv hc ht (hx.below hb) hcap)
  have HV : Hid (validExpr k nu t F = (decide (1 + F.count ≤ 12 ∧ F.deep + 1 ≤ 6) && (exprForm k nu t F.length && F.formedE))) := rfl
  generalize decide (1 + F.count ≤ 12 ∧ F.deep + 1 ≤ 6) = bd at *
  generalize (exprForm k nu t F.length && F.formedE) = q at *
  obtain ⟨z, hz⟩ : ∃ z, validExpr k nu t F = z := ⟨_, rfl⟩
  rw [hz] at HV ⊢
  have hB0 : Below w.heap.size w (w.alloc (.cells #[.int .i64 k, .int .i64 nu, .string t, .slice p F.length cap] 54)) := (Below.refl _ _).alloc (Nat.le_refl _) _
  obtain ⟨c0, c1, c2, c3, _⟩ := four_cells (heap_at_new w (.cells #[.int .i64 k, .int .i64 nu, .string t, .slice p F.length cap] 54))
  obtain ⟨w0, hw0⟩ : ∃ w0, w0 = w.alloc (.cells #[.int .i64 k, .int .i64 nu, .string t, .slice p F.length cap] 54) := ⟨_, rfl⟩
  rw [← hw0] at hB0 c0 c1 c2 c3
  have HW0 := Lib.hid hw0
  have HB0 := Lib.hid hB0
  clear hz hx hfv hc ht hcap hw0 hB0
  cases bd with
  | false =>
    obtain rfl : z = false := HV.out
    go_enter Tryz.func36, Tryz.ntmps36
    go_wp2_with fail
    first | rw [← HW0.out] | skip
    refine (HL.out _ (by first | exact HB0.out | exact Below.refl _ _)).mono ?_
    rintro e w1 ⟨rfl, hb1⟩
    have HB1 : Hid (Below w.heap.size w w1) := by first | exact HB0.out.trans (hb1.mono HB0.out.size) | exact hb1
    clear hb1
    go_wp2
    go_ret
    exact ⟨rfl, HB1.out⟩
  | true =>
    have HZ : Hid (z = q) := by unfold Hid; rw [HV.out]; rfl
    go_enter Tryz.func36, Tryz.ntmps36
    go_wp2_with fail
    first | rw [← HW0.out] | skip
    refine (HL.out _ (by first | exact HB0.out | exact Below.refl _ _)).mono ?_
    rintro e w1 ⟨rfl, hb1⟩
    have HB1 : Hid (Below w.heap.size w w1) := by first | exact HB0.out.trans (hb1.mono HB0.out.size) | exact hb1
    have c0 := cell_below c0 hb1
    have c1 := cell_below c1 hb1
    have c2 := cell_below c2 hb1
    have c3 := cell_below c3 hb1
    clear hb1
    go_wp2_with fail
    refine (HA.out w1 HB1.out).mono ?_
    rintro e w2 ⟨rfl, hb2⟩
    have HB2 : Hid (Below w.heap.size w w2) := HB1.out.trans (hb2.mono HB1.out.size)
    clear hb2
    go_wp2
    go_ret
    exact ⟨by rw [HZ.out]; rfl, HB2.out⟩
end Go.Proofs.YtijbaienhaiamaaGreatDoor.Ex
end

/- What is proved here: the program's FormatExpr returns the representation of a valid pattern, and none of others. Condition: the pattern lies in memory as said, and is small; the table of the powers of ten is as listed. -/
section
namespace Go.Proofs.YtijbaienhaiamaaGreatDoor.Ex
open Go.RowKit

set_option maxHeartbeats 1000000 in
set_option maxRecDepth 100000 in
theorem impl_format_expr (w : World) (k n : Int) (t : ByteArray) (F : Trees) (p : Option Addr) (c : Nat) (hfv : F.fits) (hfc : F.count ≤ 1048576) (ht : t.size ≤ maxLen) (hx : TreesAt w F p 0) (hcap : F.length ≤ c) (htab : Lib.TabIs Tryz.prog w "internal/strconv.uint64pow10" .u64 Lib.pow10Tab) :
    Calls Tryz.prog 32 #[.agg #[.int .i64 k, .int .i64 n, .string t, .slice p F.length c]] w fun e w' => e = .returned (.string (exprFmt k n t F)) ∧ Below w.heap.size w w' := by
  have hB0 : Below w.heap.size w (w.alloc (.cells #[.int .i64 k, .int .i64 n, .string t, .slice p F.length c] 54)) := (Below.refl _ _).alloc (Nat.le_refl _) _
  obtain ⟨c0, c1, c2, c3, _⟩ := four_cells (heap_at_new w (.cells #[.int .i64 k, .int .i64 n, .string t, .slice p F.length c] 54))
  have HX := Lib.hid (hx.below hB0)
  obtain ⟨w0, hw0⟩ : ∃ w0, w0 = w.alloc (.cells #[.int .i64 k, .int .i64 n, .string t, .slice p F.length c] 54) := ⟨_, rfl⟩
  rw [← hw0] at HX hB0 c0 c1 c2 c3
  have HW0 := Lib.hid hw0
  have HB0 := Lib.hid hB0
  have HV := Lib.hid (impl_valid_expr w0 k n t F p c hfv hfc ht HX.out hcap)
  have HTAB := Lib.hid (fun w' (hb : Below w.heap.size w w') => Go.Joins.tab_stays (g := 1) (by kernel_rfl) htab hb (Nat.le_refl _))
  have HP : Hid (validExpr k n t F = true → F.formedE = true ∧ exprForm k n t F.length = true) := fun h => by
    unfold validExpr at h
    simp only [Bool.and_eq_true] at h
    exact ⟨h.2.2, h.2.1⟩
  unfold exprFmt
  cases hv : validExpr k n t F with
  | false =>
    rw [hv] at HV
    rw [if_neg (by simp)]
    clear hw0 hB0 hx hfv hfc ht hv hcap htab
    go_enter Tryz.func32, Tryz.ntmps32
    go_wp2_with fail
    rw [← HW0.out]
    refine HV.out.mono ?_
    rintro e w1 ⟨rfl, hb1⟩
    have HB1 := Lib.hid hb1
    clear hb1
    go_wp2
    go_ret
    exact ⟨rfl, HB0.out.trans (HB1.out.mono HB0.out.size)⟩
  | true =>
    obtain ⟨h1, h2⟩ := HP.out hv
    rw [hv] at HV
    rw [if_pos rfl]
    have HT := Lib.hid (fun W (hb : Below w0.heap.size w0 W) => impl_expr_text F h1 hfc W k n t p c h2 (HX.out.below hb) (HTAB.out W (HB0.out.trans (hb.mono HB0.out.size))))
    generalize str (nodeE k n t F.textsE) = u at *
    clear hw0 hB0 hx hfv hfc ht hv h1 h2 HP hcap htab
    go_enter Tryz.func32, Tryz.ntmps32
    go_wp2_with fail
    rw [← HW0.out]
    refine HV.out.mono ?_
    rintro e w1 ⟨rfl, hb1⟩
    have HB1 := Lib.hid hb1
    have c0 := cell_below c0 hb1
    have c1 := cell_below c1 hb1
    have c2 := cell_below c2 hb1
    have c3 := cell_below c3 hb1
    clear hb1
    go_wp2_with fail
    refine (HT.out w1 HB1.out).mono ?_
    rintro e w2 ⟨rfl, hb2⟩
    have HB2 : Hid (Below w0.heap.size w0 w2) := HB1.out.trans (hb2.mono HB1.out.size)
    clear hb2
    go_wp2
    go_ret
    exact ⟨rfl, HB0.out.trans (HB2.out.mono HB0.out.size)⟩
end Go.Proofs.YtijbaienhaiamaaGreatDoor.Ex
end

/- What is proved here: when two rows of nodes are the same; the program's haveEqualFields and slices.EqualFunc over it. Condition: the rows lie in memory as said. -/
section
namespace Go.Proofs.YtijbaienhaiamaaGreatDoor
open Go.RowKit

/-- Two nodes agree but for what is below them. -/
def headEq (k n : Int) (t : ByteArray) (a : Nat) (k2 n2 : Int) (t2 : ByteArray) (a2 : Nat) : Bool := (k == k2) && ((n == n2) && ((t.toList == t2.toList) && ((a : Int) == (a2 : Int))))
/-- Two rows agree node by node, but for what is below. -/
def Trees.flat : Trees → Trees → Bool
  | .nil, .nil => true
  | .cons k n t a r, .cons k2 n2 t2 a2 r2 => headEq k n t a.length k2 n2 t2 a2.length && r.flat r2
  | _, _ => false
def Trees.same : Trees → Trees → Bool
  | .nil, .nil => true
  | .cons k n t a r, .cons k2 n2 t2 a2 r2 => headEq k n t a.length k2 n2 t2 a2.length && a.same a2 && r.same r2
  | _, _ => false
/-- What is below, pair by pair. -/
def Trees.pairs : Trees → Trees → List (Trees × Trees)
  | .cons _ _ _ a r, .cons _ _ _ a2 r2 => (a, a2) :: r.pairs r2
  | _, _ => []
theorem Trees.same_flat (F : Trees) : ∀ G : Trees, F.same G = (F.flat G && (F.pairs G).all fun p => p.1.same p.2) := by
  induction F with
  | nil => intro G; cases G <;> rfl
  | cons k n t a r _ ih =>
    intro G
    cases G with
    | nil => rfl
    | cons k2 n2 t2 a2 r2 =>
      simp only [Trees.same, Trees.flat, Trees.pairs, List.all_cons, ih r2]
      cases headEq k n t a.length k2 n2 t2 a2.length <;> cases a.same a2 <;> cases r.flat r2 <;> simp
theorem Trees.flat_length (F : Trees) : ∀ G : Trees, F.flat G = true → F.length = G.length := by
  induction F with
  | nil => intro G h; cases G with | nil => rfl | cons _ _ _ _ _ => cases h
  | cons k n t a r _ ih =>
    intro G h
    cases G with
    | nil => cases h
    | cons k2 n2 t2 a2 r2 =>
      simp only [Trees.flat, Bool.and_eq_true] at h
      simp only [Trees.length, ih r2 h.2]
theorem Trees.same_length (F G : Trees) (h : F.same G = true) : F.length = G.length := by
  rw [Trees.same_flat] at h
  simp only [Bool.and_eq_true] at h
  exact Trees.flat_length F G h.1
theorem headEq_iff (k n : Int) (t : ByteArray) (a : Nat) (k2 n2 : Int) (t2 : ByteArray) (a2 : Nat) : headEq k n t a k2 n2 t2 a2 = true ↔ k = k2 ∧ n = n2 ∧ t = t2 ∧ a = a2 := by
  unfold headEq
  simp only [Bool.and_eq_true, beq_iff_eq]
  constructor
  · rintro ⟨h1, h2, h3, h4⟩
    exact ⟨h1, h2, by cases t; cases t2; simpa [ByteArray.toList_eq] using h3, by omega⟩
  · rintro ⟨rfl, rfl, rfl, rfl⟩
    exact ⟨rfl, rfl, rfl, rfl⟩
theorem Trees.same_iff (F : Trees) : ∀ G : Trees, F.same G = true ↔ F = G := by
  induction F with
  | nil => intro G; cases G <;> simp [Trees.same]
  | cons k n t a r ih1 ih2 =>
    intro G
    cases G with
    | nil => simp [Trees.same]
    | cons k2 n2 t2 a2 r2 =>
      simp only [Trees.same, Bool.and_eq_true, ih1, ih2, headEq_iff]
      constructor
      · rintro ⟨⟨⟨rfl, rfl, rfl, _⟩, rfl⟩, rfl⟩; rfl
      · intro h; cases h; exact ⟨⟨⟨rfl, rfl, rfl, rfl⟩, rfl⟩, rfl⟩

/-! The same by another test of two nodes. -/
def Trees.flatBy (hd : Int → Int → ByteArray → Nat → Int → Int → ByteArray → Nat → Bool) : Trees → Trees → Bool
  | .nil, .nil => true
  | .cons k n t a r, .cons k2 n2 t2 a2 r2 => hd k n t a.length k2 n2 t2 a2.length && r.flatBy hd r2
  | _, _ => false
def Trees.sameBy (hd : Int → Int → ByteArray → Nat → Int → Int → ByteArray → Nat → Bool) : Trees → Trees → Bool
  | .nil, .nil => true
  | .cons k n t a r, .cons k2 n2 t2 a2 r2 => hd k n t a.length k2 n2 t2 a2.length && a.sameBy hd a2 && r.sameBy hd r2
  | _, _ => false
theorem Trees.sameBy_flat (hd : Int → Int → ByteArray → Nat → Int → Int → ByteArray → Nat → Bool) (F : Trees) : ∀ G : Trees, F.sameBy hd G = (F.flatBy hd G && (F.pairs G).all fun p => p.1.sameBy hd p.2) := by
  induction F with
  | nil => intro G; cases G <;> rfl
  | cons k n t a r _ ih =>
    intro G
    cases G with
    | nil => rfl
    | cons k2 n2 t2 a2 r2 =>
      simp only [Trees.sameBy, Trees.flatBy, Trees.pairs, List.all_cons, ih r2]
      cases hd k n t a.length k2 n2 t2 a2.length <;> cases a.sameBy hd a2 <;> cases r.flatBy hd r2 <;> simp
theorem Trees.flatBy_length (hd : Int → Int → ByteArray → Nat → Int → Int → ByteArray → Nat → Bool) (F : Trees) : ∀ G : Trees, F.flatBy hd G = true → F.length = G.length := by
  induction F with
  | nil => intro G h; cases G with | nil => rfl | cons _ _ _ _ _ => cases h
  | cons k n t a r _ ih =>
    intro G h
    cases G with
    | nil => cases h
    | cons k2 n2 t2 a2 r2 =>
      simp only [Trees.flatBy, Bool.and_eq_true] at h
      simp only [Trees.length, ih r2 h.2]
theorem Trees.sameBy_iff (hd : Int → Int → ByteArray → Nat → Int → Int → ByteArray → Nat → Bool) (h1 : ∀ k n t a k2 n2 t2 a2, hd k n t a k2 n2 t2 a2 = true → k = k2 ∧ n = n2 ∧ t = t2) (h2 : ∀ k n t a, hd k n t a k n t a = true) (F : Trees) : ∀ G : Trees, F.sameBy hd G = true ↔ F = G := by
  induction F with
  | nil => intro G; cases G <;> simp [Trees.sameBy]
  | cons k n t a r ih1 ih2 =>
    intro G
    cases G with
    | nil => simp [Trees.sameBy]
    | cons k2 n2 t2 a2 r2 =>
      simp only [Trees.sameBy, Bool.and_eq_true, ih1, ih2]
      constructor
      · rintro ⟨⟨h, rfl⟩, rfl⟩
        obtain ⟨rfl, rfl, rfl⟩ := h1 _ _ _ _ _ _ _ _ h
        rfl
      · intro h; cases h; exact ⟨⟨h2 _ _ _ _, rfl⟩, rfl⟩
/-- A node and its row are the same, by either test. -/
theorem sameBy_node (hd : Int → Int → ByteArray → Nat → Int → Int → ByteArray → Nat → Bool) (h1 : ∀ k n t a k2 n2 t2 a2, hd k n t a k2 n2 t2 a2 = true → k = k2 ∧ n = n2 ∧ t = t2) (h2 : ∀ k n t a, hd k n t a k n t a = true) (k n : Int) (t : ByteArray) (F : Trees) (k2 n2 : Int) (t2 : ByteArray) (G : Trees) :
    (hd k n t F.length k2 n2 t2 G.length && F.sameBy hd G) = (headEq k n t F.length k2 n2 t2 G.length && F.same G) := by
  rw [Bool.eq_iff_iff]
  simp only [Bool.and_eq_true, Trees.sameBy_iff hd h1 h2, Trees.same_iff, headEq_iff]
  constructor
  · rintro ⟨h, rfl⟩
    obtain ⟨rfl, rfl, rfl⟩ := h1 _ _ _ _ _ _ _ _ h
    exact ⟨⟨rfl, rfl, rfl, rfl⟩, rfl⟩
  · rintro ⟨⟨rfl, rfl, rfl, _⟩, rfl⟩
    exact ⟨h2 _ _ _ _, rfl⟩

theorem alloc2 (w : World) (o0 o1 : Obj) : Below w.heap.size w ((w.alloc o0).alloc o1) := ((Below.refl _ _).alloc (Nat.le_refl _) _).alloc (by simp) _

end Go.Proofs.YtijbaienhaiamaaGreatDoor
end
