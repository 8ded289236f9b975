/- What is proved here: drawn and bent values (package spec, l4Bent). Condition: the cursor's block holds a cursor. -/
import Derived.Test.YtcalgjggmgnofaaDoorDrawValue
namespace Go.Proofs.YtcalgjggmgnofaaDoor
open Go.RowKit

/-- What is drawn is stored in the result's block. -/
theorem drawn_end {N C B : Nat} {w W : World} {k n : Int} {t : ByteArray} {v : Value} {F : Trees} {bs : List Nat} {xs : List Value} (hN : N < w.heap.size) (hB : w.heap.size < B) (hG : GrowV W B v F bs xs) (hcn : F.count ≤ C) (htm : F.tame) (hk : 0 ≤ k ∧ k ≤ 9) (hn : -1000000000000 ≤ n ∧ n ≤ 1000000000000) (ht : t.size ≤ 16) (hc : Cur N W) (hgr : w.grownBy W (some N)) (u0 u1 u2 u3 : Value) :
    Drawn N C w (.returned (.agg #[.int .i64 k, .int .i64 n, .string t, v])) ((((W.setCell ⟨w.heap.size, 0, none⟩ u0).setCell ⟨w.heap.size, 1, none⟩ u1).setCell ⟨w.heap.size, 2, none⟩ u2).setCell ⟨w.heap.size, 3, none⟩ u3) := by
  have hg : ∀ (W : World) (o : Nat) (u : Value), W.grownBy (W.setCell ⟨w.heap.size, o, none⟩ u) (some w.heap.size) := fun W o u => grown_set W w.heap.size o u
  have hl : ∀ g, some w.heap.size = some g → N < g := fun g e => by injection e with e; omega
  have hj : ∀ g, some w.heap.size = some g → g = N ∨ w.heap.size ≤ g := fun g e => by injection e with e; omega
  have hG4 := (((hG.aside w.heap.size 0 u0 hB).aside w.heap.size 1 u1 hB).aside w.heap.size 2 u2 hB).aside w.heap.size 3 u3 hB
  refine ⟨k, n, t, v, F, bs, xs, rfl, ⟨⟨hG4.owns.1, hG4.owns.2.imp id ?_⟩, hG4.row, hG4.nodup, fun b hb => ⟨by have := (hG4.near b hb).1; omega, (hG4.near b hb).2⟩⟩, hcn, htm, hk, hn, ht,
    ((((hc.later (hg _ _ _) hl).later (hg _ _ _) hl).later (hg _ _ _) hl).later (hg _ _ _) hl),
    grown_join (grown_join (grown_join (grown_join hgr (hg _ _ _) hj) (hg _ _ _) hj) (hg _ _ _) hj) (hg _ _ _) hj⟩
  rintro ⟨g', cap', cur, e, hB, r⟩
  exact ⟨g', cap', cur, e, by omega, r⟩

def bentInts : List Int := [0, 1, 2, 999999999999, -1000000000000]
theorem bentInts_small : ∀ x ∈ bentInts, -1000000000000 ≤ x ∧ x ≤ 1000000000000 := by decide
def bentTexts : List ByteArray := [⟨#[78, 105, 108]⟩, ⟨#[120]⟩, ⟨#[97, 34, 98]⟩, ⟨#[97, 98, 99, 100, 101, 102, 103, 104, 105]⟩, ⟨#[10]⟩]
theorem bentTexts_small : ∀ x ∈ bentTexts, x.size ≤ 16 := by
  intro s hs
  simp only [bentTexts, List.mem_cons, List.mem_nil_iff, or_false] at hs
  rcases hs with rfl | rfl | rfl | rfl | rfl <;> decide
/-- A row of the call's own, apart from block g. -/
def Apart (g : Nat) (v : Value) (bs : List Nat) : Prop := ∀ b, (b ∈ bs ∨ v.ownBlock = some b) → b ≠ g
theorem GrowV.asideN {w : World} {B : Nat} {v : Value} {F : Trees} {bs : List Nat} {xs : List Value} (h : GrowV w B v F bs xs) {g : Nat} (ha : Apart g v bs) (o : Nat) (u : Value) : GrowV (w.setCell ⟨g, o, none⟩ u) B v F bs xs := by
  have hk : ∀ b, b ≠ g → (w.setCell ⟨g, o, none⟩ u).heap[b]? = w.heap[b]? := fun b hb => Below.heap_setCell _ _ _ _ hb
  refine ⟨⟨h.owns.1, ?_⟩, h.row.keep F xs bs (fun b hm => hk b (ha b (.inl hm))), h.nodup, fun b hm => ⟨(h.near b hm).1, by simpa [World.setCell] using (h.near b hm).2.1, (h.near b hm).2.2⟩⟩
  rcases h.owns.2 with h | ⟨g', cap, cur, rfl, hB, hg', h1, h2, h3, h4⟩
  · exact .inl h
  · exact .inr ⟨g', cap, cur, rfl, hB, by rw [hk g' (ha g' (.inr rfl))]; exact hg', h1, h2, h3, h4⟩
theorem GrowV.apart {w : World} {B : Nat} {v : Value} {F : Trees} {bs : List Nat} {xs : List Value} (h : GrowV w B v F bs xs) {g : Nat} (hg : w.heap.size ≤ g) : Apart g v bs := by
  intro b hb
  rcases hb with hb | hb
  · have := (h.near b hb).2.1; omega
  · rcases h.owns.2 with ⟨e, _⟩ | ⟨g', cap, cur, rfl, _, hg', _⟩
    · subst e; cases hb
    · have e : g' = b := Option.some.inj hb
      subst e
      have := (Array.getElem?_eq_some_iff.1 hg').1
      omega
/-- A new row of a value and a leaf behind it, apart from a block. -/
theorem GrowV.nest {w : World} {B : Nat} {v : Value} {F : Trees} {bs : List Nat} {xs : List Value} (h : GrowV w B v F bs xs) (hB : B ≤ w.heap.size) (k n : Int) (t r : ByteArray) {g : Nat} (ha : Apart g v bs) (hg : g < w.heap.size) :
    ∃ cs ys, GrowV (w.alloc (.cells #[.int .i64 k, .int .i64 n, .string t, v, .int .i64 3, .int .i64 0, .string r, .slice none 0 0] 26)) B (.slice (some ⟨w.heap.size, 0, none⟩) 2 2) (.cons k n t F (.cons 3 0 r .nil .nil)) cs ys ∧ Apart g (.slice (some ⟨w.heap.size, 0, none⟩) 2 2) cs := by
  have hown := World.ownsRow_lit (base := B) (e := 26) (size := 4) w #[.int .i64 k, .int .i64 n, .string t, v, .int .i64 3, .int .i64 0, .string r, .slice none 0 0] 2 hB (by unfold maxLen; omega) rfl
  have hk : ∀ b, b < w.heap.size → (w.alloc (.cells #[.int .i64 k, .int .i64 n, .string t, v, .int .i64 3, .int .i64 0, .string r, .slice none 0 0] 26)).heap[b]? = w.heap[b]? := fun b hb => Below.heap_alloc _ _ _ hb
  obtain ⟨cs, ho, hnd, hfr, hsub⟩ : ∃ cs, OwnV w v F cs ∧ cs.Nodup ∧ (∀ b ∈ cs, B ≤ b ∧ b < w.heap.size) ∧ ∀ b ∈ cs, b ∈ bs ∨ v.ownBlock = some b := by
    rcases h.owns.2 with ⟨h1, h2⟩ | ⟨g', cap, cur, rfl, hB', hg', h1, h2, h3, h4⟩
    · have hF : F = .nil := by
        cases F with
        | nil => rfl
        | cons _ _ _ _ _ => simp [Trees.length] at h2
      exact ⟨[], .inl ⟨none, 0, h1, hF, rfl⟩, List.nodup_nil, by simp, by simp⟩
    · refine ⟨g' :: bs, .inr ⟨g', cap, bs, rfl, h1, rfl, ⟨cur, hg'⟩, RowV.row F xs bs 0 h.row (fun o ho => ?_)⟩, List.nodup_cons.2 ⟨fun hm => (h.near g' hm).2.2 rfl, h.nodup⟩, fun b hb => ?_, fun b hb => ?_⟩
      · have hl := RowV.length F xs bs h.row
        rw [Nat.zero_mul, Nat.zero_add, h.owns.cellAt o (by omega)]
      · rcases List.mem_cons.1 hb with rfl | hb
        · exact ⟨hB', (Array.getElem?_eq_some_iff.1 hg').1⟩
        · exact ⟨(h.near b hb).1, (h.near b hb).2.1⟩
      · rcases List.mem_cons.1 hb with rfl | hb
        · exact .inr rfl
        · exact .inl hb
  refine ⟨cs, _, ⟨hown, ⟨v, cs, [], _, rfl, by simp, ho.keep (fun b hb => hk b (hfr b hb).2), .slice none 0 0, [], [], [], rfl, rfl, .inl ⟨none, 0, rfl, rfl, rfl⟩, rfl, rfl⟩, hnd, fun b hb => ⟨(hfr b hb).1, by simp; have := (hfr b hb).2; omega, fun e => ?_⟩⟩, fun b hb => ?_⟩
  · have e : w.heap.size = b := Option.some.inj e
    have := (hfr b hb).2
    omega
  · rcases hb with hb | hb
    · exact ha b (hsub b hb)
    · have e : w.heap.size = b := Option.some.inj hb
      omega

/-- What lies in memory while a value is bent. -/
structure BentMem (N C : Nat) (w : World) (bv B : Nat) (k n : Int) (t : ByteArray) (v : Value) (F : Trees) (bs : List Nat) (xs : List Value) (W : World) : Prop where
  res : BoxAt W w.heap.size 0 0 ⟨#[]⟩ none 0 0 26
  vbox : W.heap[bv]? = some (.cells #[.int .i64 k, .int .i64 n, .string t, v] 26 (0, 0))
  grow : GrowV W B v F bs xs
  apart : Apart bv v bs
  cur : Cur N W
  grown : w.grownBy W (some N)
  room : w.heap.size < B ∧ B ≤ bv ∧ bv < W.heap.size
  most : F.count ≤ C
  tame : F.tame
  kb : 0 ≤ k ∧ k ≤ 9
  nb : -1000000000000 ≤ n ∧ n ≤ 1000000000000
  tb : t.size ≤ 16
theorem BentMem.step {N C : Nat} {w : World} {bv B : Nat} {k n : Int} {t : ByteArray} {v : Value} {F : Trees} {bs : List Nat} {xs : List Value} {W W' : World} (h : BentMem N C w bv B k n t v F bs xs W) (hN : N < w.heap.size) (hs : CurStep N W W') : BentMem N C w bv B k n t v F bs xs W' := by
  have hr := h.room
  exact ⟨(hs.2.block _ (by omega) (fun e => by injection e with e; omega)).trans h.res, (hs.2.block _ hr.2.2 (fun e => by injection e with e; omega)).trans h.vbox, h.grow.grown hs.2 (by omega), h.apart, hs.1, grown_join h.grown hs.2 (fun g e => by injection e with e; exact .inl e.symm), ⟨hr.1, hr.2.1, Nat.lt_of_lt_of_le hr.2.2 hs.size⟩, h.most, h.tame, h.kb, h.nb, h.tb⟩
theorem BentMem.below {N C : Nat} {w : World} {bv B : Nat} {k n : Int} {t : ByteArray} {v : Value} {F : Trees} {bs : List Nat} {xs : List Value} {W W' : World} (h : BentMem N C w bv B k n t v F bs xs W) (hN : N < w.heap.size) (hb : Below W.heap.size W W') : BentMem N C w bv B k n t v F bs xs W' :=
  h.step hN ⟨h.cur.later (grown_of_below hb) (fun g e => by cases e), grown_wide (grown_of_below hb)⟩
/-- Another field is stored in the value's block. -/
theorem BentMem.store {N C C' : Nat} {w : World} {bv B : Nat} {k n k' n' : Int} {t t' : ByteArray} {v v' : Value} {F F' : Trees} {bs bs' : List Nat} {xs xs' : List Value} {W : World} (h : BentMem N C w bv B k n t v F bs xs W) (hN : N < w.heap.size) (o : Nat) (u : Value)
    (hv : (W.setCell ⟨bv, o, none⟩ u).heap[bv]? = some (.cells #[.int .i64 k', .int .i64 n', .string t', v'] 26 (0, 0))) (hg : GrowV W B v' F' bs' xs') (ha : Apart bv v' bs') (h1 : F'.count ≤ C') (h2 : F'.tame) (h3 : 0 ≤ k' ∧ k' ≤ 9) (h4 : -1000000000000 ≤ n' ∧ n' ≤ 1000000000000) (h5 : t'.size ≤ 16) :
    BentMem N C' w bv B k' n' t' v' F' bs' xs' (W.setCell ⟨bv, o, none⟩ u) := by
  have hr := h.room
  have hgs : W.grownBy (W.setCell ⟨bv, o, none⟩ u) (some bv) := grown_set W bv o u
  exact ⟨(Below.heap_setCell _ _ _ _ (by show w.heap.size ≠ bv; omega)).trans h.res, hv, hg.asideN ha o u, ha, h.cur.later hgs (fun g e => by injection e with e; omega), grown_join h.grown hgs (fun g e => by injection e with e; right; omega), ⟨hr.1, hr.2.1, by simpa [World.setCell] using hr.2.2⟩, h1, h2, h3, h4, h5⟩

set_option maxHeartbeats 8000000 in
set_option maxRecDepth 100000 in
theorem l4Bent_any (N : Nat) (w : World) (hc : Cur N w) : Calls Tryd.prog 37 #[.pointer (some ⟨N, 0, none⟩)] w (Drawn N 100 w) := by
  have hi : (Tryd.prog.info? 26).map (fun i => (i.zero, i.size, i.bytes)) = some (some (.agg #[.int .i64 0, .int .i64 0, .string ⟨#[]⟩, .slice none 0 0]), 4, 56) := by kernel_rfl
  obtain ⟨i0, hi, hz0, hz1, hz2⟩ := info_parts hi
  have hNw := hc.lt
  have hs1 := CurStep.alloc hc (.cells #[.int .i64 0, .int .i64 0, .string ⟨#[]⟩, .slice none 0 0] 26)
  have hr1 := heap_at_new w (.cells #[.int .i64 0, .int .i64 0, .string ⟨#[]⟩, .slice none 0 0] 26)
  have hz : (w.alloc (.cells #[.int .i64 0, .int .i64 0, .string ⟨#[]⟩, .slice none 0 0] 26)).heap.size = w.heap.size + 1 := Array.size_push _
  have HT := Lib.hid (l4Type_any N _ hs1.1)
  have HS1 := Lib.hid hs1
  have HR1 := Lib.hid hr1
  have HZ := Lib.hid hz
  have HNW := Lib.hid hNw
  clear hs1 hr1 hz hNw hc
  go_enter Tryd.func37, Tryd.ntmps37
  go_wp2_with fail
  refine HT.out.mono ?_
  rintro e w2 ⟨nm, h5, rfl, hs2⟩
  have HS2 := Lib.hid (HS1.out.trans hs2)
  have HZ2 : Hid (w.heap.size + 1 ≤ w2.heap.size) := by unfold Hid; have := hs2.size; have := HZ.out; omega
  have HR2 : Hid (BoxAt w2 w.heap.size 0 0 ⟨#[]⟩ none 0 0 26) := (hs2.2.block _ (by have := HZ.out; omega) (fun e => by injection e with e; have := HNW.out; omega)).trans HR1.out
  have H5 := Lib.hid h5
  clear hs2 h5 HT HS1 HR1 HZ
  go_wp2_with fail
  refine (below_any N 4 (by omega) (by omega) w2 HS2.out.1).mono ?_
  rintro e w3 ⟨x, x0, x1, rfl, hs3⟩
  have HS3 := Lib.hid (HS2.out.trans hs3)
  have HZ3 : Hid (w.heap.size + 1 ≤ w3.heap.size) := by unfold Hid; have := hs3.size; have := HZ2.out; omega
  have HR3 : Hid (BoxAt w3 w.heap.size 0 0 ⟨#[]⟩ none 0 0 26) := (hs3.2.block _ (by have := HZ2.out; omega) (fun e => by injection e with e; have := HNW.out; omega)).trans HR2.out
  have HD := Lib.hid (draw_any N 3 (by omega) (1 + x) (by omega) (by omega) nm H5.out w3 hs3.1)
  clear hs3 HS2 HR2 HZ2
  go_wp2_with fail
  refine HD.out.mono ?_
  rintro e w4 ⟨k, n, t, v, F, bs, xs, rfl, hG, hcn, htm, hk, hn, ht, hs4⟩
  obtain ⟨a, ca, rfl⟩ := hG.form
  have hal : Below w4.heap.size w4 (w4.alloc (.cells #[.int .i64 k, .int .i64 n, .string t, .slice a F.length ca] 26)) := (Below.refl _ _).alloc (Nat.le_refl _) _
  have hvb := heap_at_new w4 (.cells #[.int .i64 k, .int .i64 n, .string t, .slice a F.length ca] 26)
  have hz5 : (w4.alloc (.cells #[.int .i64 k, .int .i64 n, .string t, .slice a F.length ca] 26)).heap.size = w4.heap.size + 1 := Array.size_push _
  obtain ⟨w5, hw5⟩ : ∃ w5, w5 = w4.alloc (.cells #[.int .i64 k, .int .i64 n, .string t, .slice a F.length ca] 26) := ⟨_, rfl⟩
  rw [← hw5] at hal hvb hz5
  have hR4 : BoxAt w4 w.heap.size 0 0 ⟨#[]⟩ none 0 0 26 := (hs4.2.block _ (by have := HZ3.out; omega) (fun e => by injection e with e; have := HNW.out; omega)).trans HR3.out
  have hmost : F.count ≤ 30 := Nat.le_trans hcn (by decide)
  have hM5 : BentMem N 30 w w4.heap.size w3.heap.size k n t (.slice a F.length ca) F bs xs w5 :=
    ⟨hR4.below hal, hvb, hG.below hal, hG.apart (Nat.le_refl _), (hs4.1).later (grown_of_below hal) (fun g e => by cases e), grown_join (HS3.out.2) (grown_join hs4.2 (grown_of_below hal) (fun g e => by cases e)) (fun g e => by injection e with e; exact .inl e.symm), ⟨by have := HZ3.out; omega, hs4.size, by omega⟩, hmost, htm, hk, hn, ht⟩
  have HM5 := Lib.hid hM5
  have HW5 := Lib.hid hw5
  clear hal hvb hz5 hw5 hR4 hM5 hG hcn htm hk hn ht hs4 HD HS3 HR3 hmost
  go_wp2_with fail
  rw [← HW5.out]
  refine (below_any N 10 (by omega) (by omega) w5 HM5.out.cur).mono ?_
  rintro e w6 ⟨y, y0, y1, rfl, hs6⟩
  have HM6 := Lib.hid (HM5.out.step HNW.out hs6)
  clear hs6 HM5 HW5
  have HM6r : Hid (w.heap.size < w4.heap.size) := by have := HM6.out.room; unfold Hid; omega
  obtain ⟨v0, v1, v2, v3, g0, g1, g2, g3⟩ := four_cells HM6.out.vbox
  obtain ⟨r0, r1, r2, r3, f0, f1, f2, f3⟩ := four_cells HM6.out.res
  by_cases c0 : y = 0
  · subst c0
    go_wp2_with fail
    refine (below_any N 5 (by omega) (by omega) w6 HM6.out.cur).mono ?_
    rintro e w7 ⟨z, z0, z1, rfl, hs7⟩
    have HM7 := Lib.hid (HM6.out.step HNW.out hs7)
    clear hs7 v0 v1 v2 v3 g0 g1 g2 g3 r0 r1 r2 r3 f0 f1 f2 f3 HM6
    obtain ⟨v0, v1, v2, v3, g0, g1, g2, g3⟩ := four_cells HM7.out.vbox
    obtain ⟨r0, r1, r2, r3, f0, f1, f2, f3⟩ := four_cells HM7.out.res
    have HM8 := Lib.hid (HM7.out.store HNW.out 0 (.int .i64 z) (four_set HM7.out.vbox _).1 HM7.out.grow HM7.out.apart HM7.out.most HM7.out.tame ⟨z0, by omega⟩ HM7.out.nb HM7.out.tb)
    have hne1 : ¬ (w.heap.size = w4.heap.size) := by have := HM6r.out; omega
    have hne2 : ¬ (w4.heap.size = w.heap.size) := by have := HM6r.out; omega
    go_wp2
    refine bodyPost_ret (results_cell_row rfl _ _ w.heap.size _ _ _ _ rfl (four_set (four_set (four_set (four_set HM8.out.res _).1 _).2.1 _).2.2.1 _).2.2.2 Tryd.underlying26 rfl (by kernel_rfl)) rfl ?_
    exact drawn_end HNW.out HM8.out.room.1 HM8.out.grow (Nat.le_trans HM8.out.most (by omega)) HM8.out.tame HM8.out.kb HM8.out.nb HM8.out.tb HM8.out.cur HM8.out.grown _ _ _ _
  · have d0 : (y == 0) = false := by simpa using c0
    by_cases c1 : y = 1
    · subst c1
      have hal : Below w6.heap.size w6 (w6.alloc (.cells (bentInts.map (Value.int .i64)).toArray 3)) := (Below.refl _ _).alloc (Nat.le_refl _) _
      have hm7 := HM6.out.below HNW.out hal
      have HP := Lib.hid (pick_int N w6.heap.size bentInts 5 3 _ hm7.cur (heap_new w6 _) (by have := HM6.out.room; have := HNW.out; omega) (by decide) (by decide))
      have HM7 := Lib.hid hm7
      clear hal hm7
      go_wp2_with fail
      refine HP.out.mono ?_
      rintro e w8 ⟨z, hz, rfl, hs8⟩
      have HM8 := Lib.hid (HM7.out.step HNW.out hs8)
      have HZB := Lib.hid (bentInts_small z hz)
      clear hs8 hz HP HM7 v0 v1 v2 v3 g0 g1 g2 g3 r0 r1 r2 r3 f0 f1 f2 f3 HM6
      obtain ⟨v0, v1, v2, v3, g0, g1, g2, g3⟩ := four_cells HM8.out.vbox
      obtain ⟨r0, r1, r2, r3, f0, f1, f2, f3⟩ := four_cells HM8.out.res
      have HM9 := Lib.hid (HM8.out.store HNW.out 1 (.int .i64 z) (four_set HM8.out.vbox _).2.1 HM8.out.grow HM8.out.apart HM8.out.most HM8.out.tame HM8.out.kb HZB.out HM8.out.tb)
      have hne1 : ¬ (w.heap.size = w4.heap.size) := by have := HM6r.out; omega
      have hne2 : ¬ (w4.heap.size = w.heap.size) := by have := HM6r.out; omega
      go_wp2
      refine bodyPost_ret (results_cell_row rfl _ _ w.heap.size _ _ _ _ rfl (four_set (four_set (four_set (four_set HM9.out.res _).1 _).2.1 _).2.2.1 _).2.2.2 Tryd.underlying26 rfl (by kernel_rfl)) rfl ?_
      exact drawn_end HNW.out HM9.out.room.1 HM9.out.grow (Nat.le_trans HM9.out.most (by omega)) HM9.out.tame HM9.out.kb HM9.out.nb HM9.out.tb HM9.out.cur HM9.out.grown _ _ _ _
    · have d1 : (y == 1) = false := by simpa using c1
      by_cases c2 : y = 2
      · subst c2
        have hal : Below w6.heap.size w6 (w6.alloc (.cells (bentTexts.map Value.string).toArray 9)) := (Below.refl _ _).alloc (Nat.le_refl _) _
        have hm7 := HM6.out.below HNW.out hal
        have HP := Lib.hid (pick_any N w6.heap.size bentTexts 5 9 _ hm7.cur (heap_new w6 _) (by have := HM6.out.room; have := HNW.out; omega) (by decide) (by decide))
        have HM7 := Lib.hid hm7
        clear hal hm7
        go_wp2_with fail
        refine HP.out.mono ?_
        rintro e w8 ⟨z, hz, rfl, hs8⟩
        have HM8 := Lib.hid (HM7.out.step HNW.out hs8)
        have HZB := Lib.hid (bentTexts_small z hz)
        clear hs8 hz HP HM7 v0 v1 v2 v3 g0 g1 g2 g3 r0 r1 r2 r3 f0 f1 f2 f3 HM6
        obtain ⟨v0, v1, v2, v3, g0, g1, g2, g3⟩ := four_cells HM8.out.vbox
        obtain ⟨r0, r1, r2, r3, f0, f1, f2, f3⟩ := four_cells HM8.out.res
        have HM9 := Lib.hid (HM8.out.store HNW.out 2 (.string z) (four_set HM8.out.vbox _).2.2.1 HM8.out.grow HM8.out.apart HM8.out.most HM8.out.tame HM8.out.kb HM8.out.nb HZB.out)
        have hne1 : ¬ (w.heap.size = w4.heap.size) := by have := HM6r.out; omega
        have hne2 : ¬ (w4.heap.size = w.heap.size) := by have := HM6r.out; omega
        go_wp2
        refine bodyPost_ret (results_cell_row rfl _ _ w.heap.size _ _ _ _ rfl (four_set (four_set (four_set (four_set HM9.out.res _).1 _).2.1 _).2.2.1 _).2.2.2 Tryd.underlying26 rfl (by kernel_rfl)) rfl ?_
        exact drawn_end HNW.out HM9.out.room.1 HM9.out.grow (Nat.le_trans HM9.out.most (by omega)) HM9.out.tame HM9.out.kb HM9.out.nb HM9.out.tb HM9.out.cur HM9.out.grown _ _ _ _
      · have d2 : (y == 2) = false := by simpa using c2
        by_cases c3 : y = 3
        · subst c3
          have hal : Below w6.heap.size w6 (w6.alloc (.cells #[.int .i64 1, .int .i64 0, .string ⟨#[]⟩, .slice none 0 0] 26)) := (Below.refl _ _).alloc (Nat.le_refl _) _
          have HM7 := Lib.hid (HM6.out.below HNW.out hal)
          have HG7 := Lib.hid HM7.out.grow.owns
          have HFL : Hid (F.length ≤ 30) := Nat.le_trans F.length_le_count HM6.out.most
          have HAL := Lib.hid hal
          clear hal
          go_wp2_with (at_builtin; refine wpList_append_lies _ rfl _ _ 24 rfl w3.heap.size 26 i0 (.agg #[.int .i64 0, .int .i64 0, .string ⟨#[]⟩, .slice none 0 0]) 4 56 Tryd.underlying24 hi hz0 hz1 hz2 rfl (by decide) _ _ _ rfl HG7.out ⟨w6.heap.size, 0, none⟩ 1 1 [.int .i64 1, .int .i64 0, .string ⟨#[]⟩, .slice none 0 0] rfl rfl (grow_four _ _ _ _ _ _) (grow_one _ _ _ _ _ _) (by decide) (by unfold maxLen; have := HFL.out; omega) (by have := HFL.out; omega) (by have := HM7.out.room; omega) (w6.heap.size + 1) (by simp) ?_)
          intro g9 cap9 w9 hown hgrow hat hlt9
          have hroom := HM6.out.room
          have hGM := GrowV.more (w := w6) (w1 := w6) HM6.out.grow (by omega) (Below.refl _ _) (ar := .nil) (.inl ⟨none, 0, rfl, rfl, rfl⟩) List.nodup_nil (by simp) HAL.out hown hgrow (by rcases hat with h | h; exact .inl h; exact .inr (by simp [h]))
          rw [List.append_nil] at hGM
          have hfar := HM7.out.grow.far
          have hap9 : Apart w4.heap.size (.slice (some ⟨g9, 0, none⟩) (F.length + 1) cap9) bs := fun b hb => by
            rcases hb with hb | hb
            · exact HM6.out.apart b (.inl hb)
            · have e : g9 = b := Option.some.inj hb
              subst e
              rcases hat with h | h
              · exact HM6.out.apart g9 (.inr h)
              · omega
          have hk9 : ∀ b, b < w6.heap.size → (∀ g, (Value.slice a F.length ca).ownBlock = some g → b ≠ g) → w9.heap[b]? = w6.heap[b]? := fun b hb hne => by
            rw [hgrow.block b (by have := HAL.out.size; omega) (fun e => hne b e.symm rfl), HAL.out.block b hb]
          have hvb9 : w9.heap[w4.heap.size]? = some (.cells #[.int .i64 k, .int .i64 n, .string t, .slice a F.length ca] 26 (0, 0)) := (hk9 _ (by omega) (fun g e h => by have := HM6.out.apart g (.inr e); omega)).trans HM6.out.vbox
          have hres9 : BoxAt w9 w.heap.size 0 0 ⟨#[]⟩ none 0 0 26 := (hk9 _ (by omega) (fun g e h => by have := HM6.out.grow.far g e; omega)).trans HM6.out.res
          have hcur9 : Cur N w9 := HM7.out.cur.later hgrow (fun g e => by have := hfar g e; have := HNW.out; omega)
          have hgr9 : w.grownBy w9 (some N) := grown_join HM7.out.grown hgrow (fun g e => by have := hfar g e; right; omega)
          have hz9 := hgrow.size
          have HT9 : Hid ((F.snoc 1 0 ⟨#[]⟩ .nil).tame ∧ (F.snoc 1 0 ⟨#[]⟩ .nil).count ≤ 31) := ⟨Trees.tame_snoc (ar := .nil) (by decide) (by decide) (by decide) trivial F HM6.out.tame, by rw [Trees.snoc_count]; have := HM6.out.most; simp [Trees.count]; omega⟩
          have hmid : BentMem N 31 w w4.heap.size w3.heap.size k n t (.slice (some ⟨g9, 0, none⟩) (F.length + 1) cap9) (F.snoc 1 0 ⟨#[]⟩ .nil) bs _ (w9.setCell ⟨w4.heap.size, 3, none⟩ (.slice (some ⟨g9, 0, none⟩) (F.length + 1) cap9)) :=
            ⟨(Below.heap_setCell _ _ _ _ (by show w.heap.size ≠ w4.heap.size; omega)).trans hres9, (four_set hvb9 _).2.2.2, hGM.asideN hap9 _ _, hap9, hcur9.later (grown_set w9 _ _ _) (fun g e => by injection e with e; have := HNW.out; omega), grown_join hgr9 (grown_set w9 _ _ _) (fun g e => by injection e with e; right; omega), ⟨hroom.1, hroom.2.1, by simp only [World.setCell, Array.size_modify]; have := HAL.out.size; omega⟩, HT9.out.2, HT9.out.1, HM6.out.kb, HM6.out.nb, HM6.out.tb⟩
          have HM9 := Lib.hid hmid
          obtain ⟨q0, q1, q2, q3, p0, p1, p2, p3⟩ := four_cells hvb9
          obtain ⟨s0, s1, s2, s3, t0, t1, t2, t3⟩ := four_cells hres9
          have hne1 : ¬ (w.heap.size = w4.heap.size) := by have := HM6r.out; omega
          have hne2 : ¬ (w4.heap.size = w.heap.size) := by have := HM6r.out; omega
          clear hmid hGM hfar hap9 hk9 hvb9 hres9 hcur9 hgr9 hz9 hown hgrow hat hlt9 hroom v0 v1 v2 v3 g0 g1 g2 g3 r0 r1 r2 r3 f0 f1 f2 f3 HG7 HM7
          go_wp2
          refine bodyPost_ret (results_cell_row rfl _ _ w.heap.size _ _ _ _ rfl (four_set (four_set (four_set (four_set HM9.out.res _).1 _).2.1 _).2.2.1 _).2.2.2 Tryd.underlying26 rfl (by kernel_rfl)) rfl ?_
          exact drawn_end HNW.out HM9.out.room.1 HM9.out.grow (Nat.le_trans HM9.out.most (by omega)) HM9.out.tame HM9.out.kb HM9.out.nb HM9.out.tb HM9.out.cur HM9.out.grown _ _ _ _
        · have d3 : (y == 3) = false := by simpa using c3
          by_cases c4 : y = 4
          · subst c4
            clear v0 v1 v2 v3 g0 g1 g2 g3 r0 r1 r2 r3 f0 f1 f2 f3
            generalize hl0 : F.length = l0 at *
            go_wp2
            go_loopw [4] (fun i wr => ∃ (j : Nat) (k n : Int) (t : ByteArray) (a : Option Addr) (l ca : Nat) (F : Trees) (bs : List Nat) (xs : List Value), i = .int .i64 j ∧ j ≤ 12 ∧ Hid (BentMem N (30 + 2 * j) w w4.heap.size w3.heap.size k n t (.slice a l ca) F bs xs wr)) (fun i _ => 12 - (intOf i).toNat)
            case atStart => exact ⟨0, k, n, t, a, l0, ca, F, bs, xs, rfl, by omega, HM6⟩
            case round =>
              obtain ⟨j, k, n, t, a, l, ca, F, bs, xs, rfl, hj, hM⟩ := hrel
              obtain ⟨v0, v1, v2, v3, g0, g1, g2, g3⟩ := four_cells hM.out.vbox
              obtain ⟨r0, r1, r2, r3, f0, f1, f2, f3⟩ := four_cells hM.out.res
              by_cases hlt : j < 12
              · have hroom := hM.out.room
                obtain ⟨cs, ys, hG, hA⟩ := hM.out.grow.nest (by omega) k n t ⟨#[82, 101, 100]⟩ hM.out.apart (by omega)
                have hal : Below wr.heap.size wr (wr.alloc (.cells #[.int .i64 k, .int .i64 n, .string t, .slice a l ca, .int .i64 3, .int .i64 0, .string ⟨#[82, 101, 100]⟩, .slice none 0 0] 26)) := (Below.refl _ _).alloc (Nat.le_refl _) _
                have hm7 := hM.out.below HNW.out hal
                have HM7 := Lib.hid hm7
                have HG7 := Lib.hid hG
                have HA7 := Lib.hid hA
                have HT7 : Hid ((Trees.cons k n t F (.cons 3 0 ⟨#[82, 101, 100]⟩ .nil .nil)).count ≤ 30 + 2 * (j + 1) ∧ (Trees.cons k n t F (.cons 3 0 ⟨#[82, 101, 100]⟩ .nil .nil)).tame) := ⟨by have := hM.out.most; simp only [Trees.count]; omega, hM.out.kb, hM.out.nb, hM.out.tb, hM.out.tame, by decide, by decide, by decide, trivial, trivial⟩
                clear hG hA hroom hM g0 g1 g2 g3 r0 r1 r2 r3 f0 f1 f2 f3
                obtain ⟨u0, u1, u2, u3, g0, g1, g2, g3⟩ := four_cells hm7.vbox
                clear hm7 hal
                go_wp2
                go_roundw
                case rel =>
                  have hs0 := HM7.out.store (C' := 30 + 2 * (j + 1)) HNW.out 0 (.int .i64 3) (four_set HM7.out.vbox _).1 HM7.out.grow HM7.out.apart (Nat.le_trans HM7.out.most (by omega)) HM7.out.tame (by decide) HM7.out.nb HM7.out.tb
                  have hs1 := hs0.store (C' := 30 + 2 * (j + 1)) HNW.out 1 (.int .i64 0) (four_set hs0.vbox _).2.1 hs0.grow hs0.apart hs0.most hs0.tame hs0.kb (by decide) hs0.tb
                  have hs2 := hs1.store (C' := 30 + 2 * (j + 1)) HNW.out 2 (.string ⟨#[77, 105, 120]⟩) (four_set hs1.vbox _).2.2.1 hs1.grow hs1.apart hs1.most hs1.tame hs1.kb hs1.nb (by decide)
                  have hg2 := ((HG7.out.asideN HA7.out 0 (.int .i64 3)).asideN HA7.out 1 (.int .i64 0)).asideN HA7.out 2 (.string ⟨#[77, 105, 120]⟩)
                  have hs3 := hs2.store (C' := 30 + 2 * (j + 1)) HNW.out 3 (.slice (some ⟨wr.heap.size, 0, none⟩) 2 2) (four_set hs2.vbox _).2.2.2 hg2 HA7.out HT7.out.1 HT7.out.2 hs2.kb hs2.nb hs2.tb
                  exact ⟨j + 1, 3, 0, ⟨#[77, 105, 120]⟩, some ⟨wr.heap.size, 0, none⟩, 2, 2, _, cs, ys, by go_num, by omega, hs3⟩
                case measure => simp [intOf]; omega
              · obtain rfl : j = 12 := by omega
                go_wp2
                refine bodyPost_ret (results_cell_row rfl _ _ w.heap.size _ _ _ _ rfl (four_set (four_set (four_set (four_set hM.out.res _).1 _).2.1 _).2.2.1 _).2.2.2 Tryd.underlying26 rfl (by kernel_rfl)) rfl ?_
                exact drawn_end HNW.out hM.out.room.1 hM.out.grow (Nat.le_trans hM.out.most (by omega)) hM.out.tame hM.out.kb hM.out.nb hM.out.tb hM.out.cur hM.out.grown _ _ _ _
          · have d4 : (y == 4) = false := by simpa using c4
            go_wp2
            refine bodyPost_ret (results_cell_row rfl _ _ w.heap.size _ _ _ _ rfl (four_set (four_set (four_set (four_set HM6.out.res _).1 _).2.1 _).2.2.1 _).2.2.2 Tryd.underlying26 rfl (by kernel_rfl)) rfl ?_
            exact drawn_end HNW.out HM6.out.room.1 HM6.out.grow (Nat.le_trans HM6.out.most (by omega)) HM6.out.tame HM6.out.kb HM6.out.nb HM6.out.tb HM6.out.cur HM6.out.grown _ _ _ _
end Go.Proofs.YtcalgjggmgnofaaDoor
