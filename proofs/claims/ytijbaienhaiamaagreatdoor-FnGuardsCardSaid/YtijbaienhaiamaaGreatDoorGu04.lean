/- What is proved here: a piece of the proof of YtijbaienhaiamaaGreatDoorGuards (ExDraw, ExSpecCopy, Sig, Block). Condition: none beyond what each part says. -/
import Derived.Test.YtijbaienhaiamaaGreatDoorGu03
import Derived.Deep.RegionHeld3
import Derived.Test.YtijbaienhaiamaaGreatDoorGu02
import Derived.Laws.Rows
import Derived.Test.YtijbaienhaiamaaGreatDoorGu01

/- What is proved here: drawn expressions (package spec, l7Draw). Condition: the cursor's block holds a cursor; the names lie in a block of their own. -/
section
namespace Go.Proofs.YtijbaienhaiamaaGreatDoor.Ex
open Go.RowKit

def exNames : List ByteArray := [⟨#[120]⟩, ⟨#[121]⟩]
theorem exNames_small : ∀ x ∈ exNames, x.size ≤ 16 := by
  intro s hs
  simp only [exNames, List.mem_cons, List.mem_nil_iff, or_false] at hs
  rcases hs with rfl | rfl <;> decide
def exInts : List Int := [0, 1, 2, -1, 5]
theorem exInts_small : ∀ x ∈ exInts, -1000000000000 ≤ x ∧ x ≤ 1000000000000 := by decide

/-- What stays while a node is drawn. -/
structure DSt (N M : Nat) (w W : World) : Prop where
  cur : CurStep N w W
  box : W.heap[w.heap.size]? = some (.cells #[.int .i64 0, .int .i64 0, .string ⟨#[]⟩, .slice none 0 0] 54 (0, 0))
  nms : W.heap[M]? = some (.cells (exNames.map Value.string).toArray 9 (0, 0))
  lt : N < w.heap.size
  ltM : M < w.heap.size
  ne : M ≠ N
theorem DSt.big {N M : Nat} {w W : World} (h : DSt N M w W) : w.heap.size < W.heap.size := (Array.getElem?_eq_some_iff.1 h.box).1
theorem DSt.step {N M : Nat} {w W W' : World} (h : DSt N M w W) (k : CurStep N W W') : DSt N M w W' := by
  have hl := h.lt
  have hm := h.ltM
  have hn := h.ne
  have hb := h.big
  exact ⟨h.cur.trans k, (k.2.block _ hb (fun e => by injection e with e; omega)).trans h.box, (k.2.block _ (by omega) (fun e => by injection e with e; omega)).trans h.nms, hl, hm, hn⟩
theorem DSt.alloc {N M : Nat} {w W : World} (h : DSt N M w W) (o : Obj) : DSt N M w (W.alloc o) := h.step (CurStep.alloc h.cur.1 o)
theorem DSt.start {N M : Nat} {w : World} (hc : Cur N w) (hM : w.heap[M]? = some (.cells (exNames.map Value.string).toArray 9 (0, 0))) (hne : M ≠ N) : DSt N M w (w.alloc (.cells #[.int .i64 0, .int .i64 0, .string ⟨#[]⟩, .slice none 0 0] 54)) := by
  have hm := (Array.getElem?_eq_some_iff.1 hM).1
  exact ⟨CurStep.alloc hc _, heap_at_new w _, (Below.heap_alloc _ _ _ hm).trans hM, hc.lt, hm, hne⟩
theorem DSt.fin {N M : Nat} {w W : World} (h : DSt N M w W) {B C : Nat} {k n : Int} {t : ByteArray} {v : Value} {F : Trees} {bs : List Nat} {xs : List Value} (hG : GrowV W B v F bs xs) (hcn : F.count ≤ C) (htm : F.tame) (hk : 0 ≤ k ∧ k ≤ 9) (hn : -1000000000000 ≤ n ∧ n ≤ 1000000000000) (ht : t.size ≤ 16) (hB : w.heap.size < B) {u0 u1 u2 u3 : Value} :
    Drawn 1000000000000 N C w (.returned (.agg #[.int .i64 k, .int .i64 n, .string t, v])) ((((W.setCell ⟨w.heap.size, 0, none⟩ u0).setCell ⟨w.heap.size, 1, none⟩ u1).setCell ⟨w.heap.size, 2, none⟩ u2).setCell ⟨w.heap.size, 3, none⟩ u3) :=
  drawn_end h.lt hB hG hcn htm hk hn ht h.cur.1 h.cur.2 u0 u1 u2 u3

/-- A contract of l7Draw at one depth. -/
def DrawOk (N M : Nat) (d : Int) (C : Nat) : Prop := ∀ w, Cur N w → w.heap[M]? = some (.cells (exNames.map Value.string).toArray 9 (0, 0)) → M ≠ N →
  Calls Tryz.prog 142 #[.pointer (some ⟨N, 0, none⟩), .slice (some ⟨M, 0, none⟩) 2 2, .int .i64 d] w (Drawn 1000000000000 N C w)

set_option maxHeartbeats 8000000 in
set_option maxRecDepth 100000 in
theorem draw_step (N M C : Nat) (d : Int) (hd0 : 1 ≤ d) (hd9 : d ≤ 9) (HR : 2 ≤ d → DrawOk N M (d - 1) C) : DrawOk N M d (2 + 2 * C) := by
  intro w hc hM hne
  have H1 := Lib.hid (DSt.start hc hM hne)
  obtain ⟨w1, hw1⟩ : ∃ w1, w1 = w.alloc (.cells #[.int .i64 0, .int .i64 0, .string ⟨#[]⟩, .slice none 0 0] 54) := ⟨_, rfl⟩
  rw [← hw1] at H1
  have HW1 := Lib.hid hw1
  have HRO : Hid (∀ W, 2 ≤ d → DSt N M w W → Calls Tryz.prog 142 #[.pointer (some ⟨N, 0, none⟩), .slice (some ⟨M, 0, none⟩) 2 2, .int .i64 (d - 1)] W (Drawn 1000000000000 N C W)) := fun W h2 h => HR h2 W h.cur.1 h.nms h.ne
  clear hc hM hne hw1 HR
  go_enter Tryz.func142, Tryz.ntmps142
  by_cases hd : d < 2
  · clear HRO
    go_wp2_with fail
    rw [← HW1.out]
    refine (once_any N 2 (by omega) (by omega) w1 H1.out.cur.1).mono ?_
    rintro e wa ⟨b, rfl, hs⟩
    have Ha := Lib.hid (H1.out.step hs)
    clear hs
    cases b with
    | true =>
      go_wp2_with fail
      refine (pick_any N M exNames 2 _ wa Ha.out.cur.1 Ha.out.nms Ha.out.ne (by decide) (by decide)).mono ?_
      rintro e wb ⟨x, hx, rfl, hs⟩
      have Hb := Lib.hid (Ha.out.step hs)
      have HX := Lib.hid (exNames_small x hx)
      clear hs hx
      obtain ⟨x0, x1, x2, x3, f0, f1, f2, f3⟩ := four_cells Hb.out.box
      go_wp2
      refine bodyPost_ret (results_cell_row rfl _ _ w.heap.size _ _ _ _ rfl (four_set (four_set (four_set (four_set Hb.out.box _).1 _).2.1 _).2.2.1 _).2.2.2 Tryz.underlying54 rfl (by kernel_rfl)) rfl ?_
      exact Hb.out.fin (GrowV.nil _ _) (Nat.zero_le _) trivial (by decide) (by decide) HX.out (Nat.lt_succ_self _)
    | false =>
      have Hp := Ha.out.alloc (.cells (exInts.map (Value.int .i64)).toArray 3)
      have HP := Lib.hid (pick_int N wa.heap.size exInts 5 3 _ Hp.cur.1 (heap_new wa _) (by have := Ha.out.lt; have := Ha.out.cur.size; omega) (by decide) (by decide))
      have HPH := Lib.hid Hp
      clear Hp
      go_wp2_with fail
      refine HP.out.mono ?_
      rintro e wb ⟨z, hz, rfl, hs⟩
      have Hb := Lib.hid (HPH.out.step hs)
      have HX := Lib.hid (exInts_small z hz)
      clear hs hz HP HPH
      obtain ⟨x0, x1, x2, x3, f0, f1, f2, f3⟩ := four_cells Hb.out.box
      go_wp2
      refine bodyPost_ret (results_cell_row rfl _ _ w.heap.size _ _ _ _ rfl (four_set (four_set (four_set (four_set Hb.out.box _).1 _).2.1 _).2.2.1 _).2.2.2 Tryz.underlying54 rfl (by kernel_rfl)) rfl ?_
      exact Hb.out.fin (GrowV.nil _ _) (Nat.zero_le _) trivial (by decide) HX.out (by decide) (Nat.lt_succ_self _)
  · have hd2 : 2 ≤ d := by omega
    go_wp2_with fail
    rw [← HW1.out]
    refine (once_any N 4 (by omega) (by omega) w1 H1.out.cur.1).mono ?_
    rintro e w2 ⟨b, rfl, hs⟩
    have H2 := Lib.hid (H1.out.step hs)
    clear hs HW1 H1
    cases b with
    | true =>
      go_wp2_with fail
      refine (once_any N 2 (by omega) (by omega) w2 H2.out.cur.1).mono ?_
      rintro e wa ⟨b, rfl, hs⟩
      have Ha := Lib.hid (H2.out.step hs)
      clear hs
      cases b with
      | true =>
        go_wp2_with fail
        refine (pick_any N M exNames 2 _ wa Ha.out.cur.1 Ha.out.nms Ha.out.ne (by decide) (by decide)).mono ?_
        rintro e wb ⟨x, hx, rfl, hs⟩
        have Hb := Lib.hid (Ha.out.step hs)
        have HX := Lib.hid (exNames_small x hx)
        clear hs hx
        obtain ⟨x0, x1, x2, x3, f0, f1, f2, f3⟩ := four_cells Hb.out.box
        go_wp2
        refine bodyPost_ret (results_cell_row rfl _ _ w.heap.size _ _ _ _ rfl (four_set (four_set (four_set (four_set Hb.out.box _).1 _).2.1 _).2.2.1 _).2.2.2 Tryz.underlying54 rfl (by kernel_rfl)) rfl ?_
        exact Hb.out.fin (GrowV.nil _ _) (Nat.zero_le _) trivial (by decide) (by decide) HX.out (Nat.lt_succ_self _)
      | false =>
        have Hp := Ha.out.alloc (.cells (exInts.map (Value.int .i64)).toArray 3)
        have HP := Lib.hid (pick_int N wa.heap.size exInts 5 3 _ Hp.cur.1 (heap_new wa _) (by have := Ha.out.lt; have := Ha.out.cur.size; omega) (by decide) (by decide))
        have HPH := Lib.hid Hp
        clear Hp
        go_wp2_with fail
        refine HP.out.mono ?_
        rintro e wb ⟨z, hz, rfl, hs⟩
        have Hb := Lib.hid (HPH.out.step hs)
        have HX := Lib.hid (exInts_small z hz)
        clear hs hz HP HPH
        obtain ⟨x0, x1, x2, x3, f0, f1, f2, f3⟩ := four_cells Hb.out.box
        go_wp2
        refine bodyPost_ret (results_cell_row rfl _ _ w.heap.size _ _ _ _ rfl (four_set (four_set (four_set (four_set Hb.out.box _).1 _).2.1 _).2.2.1 _).2.2.2 Tryz.underlying54 rfl (by kernel_rfl)) rfl ?_
        exact Hb.out.fin (GrowV.nil _ _) (Nat.zero_le _) trivial (by decide) HX.out (by decide) (Nat.lt_succ_self _)
    | false =>
      go_wp2_with fail
      refine (once_any N 5 (by omega) (by omega) w2 H2.out.cur.1).mono ?_
      rintro e w3 ⟨b, rfl, hs⟩
      have H3 := Lib.hid (H2.out.step hs)
      clear hs H2
      cases b with
      | true =>
        go_wp2_with fail
        refine (HRO.out w3 hd2 H3.out).mono ?_
        rintro e w4 ⟨k, n, t, v, F, bs, xs, rfl, hG, hcn, htm, hk, hn, ht, hs4⟩
        obtain ⟨a, ca, rfl⟩ := hG.form
        obtain ⟨cs, ho, hnd, hfr⟩ := hG.own
        have H4 := H3.out.step hs4
        have hbig := H3.out.big
        have hG5 := GrowV.lit1 (k := k) (n := n) (t := t) (B := w.heap.size + 1) ho hnd (fun b hb => by have := hfr b hb; omega) (by have := H4.big; omega)
        have HG5 := Lib.hid hG5
        have H5 := Lib.hid (H4.alloc (.cells #[.int .i64 k, .int .i64 n, .string t, .slice a F.length ca] 54))
        have HT : Hid ((Trees.cons k n t F .nil).count ≤ 2 + 2 * C ∧ (Trees.cons k n t F .nil).tame) := ⟨by simp only [Trees.count]; omega, hk, hn, ht, htm, trivial⟩
        obtain ⟨x0, x1, x2, x3, f0, f1, f2, f3⟩ := four_cells H5.out.box
        clear hG hcn htm hk hn ht hs4 ho hnd hfr H4 hG5 hbig H3 HRO
        generalize F.length = l at *
        go_wp2
        refine bodyPost_ret (results_cell_row rfl _ _ w.heap.size _ _ _ _ rfl (four_set (four_set (four_set (four_set H5.out.box _).1 _).2.1 _).2.2.1 _).2.2.2 Tryz.underlying54 rfl (by kernel_rfl)) rfl ?_
        exact H5.out.fin HG5.out HT.out.1 HT.out.2 (by decide) (by decide) (by decide) (Nat.lt_succ_self _)
      | false =>
        go_wp2_with fail
        refine (HRO.out w3 hd2 H3.out).mono ?_
        rintro e w4 ⟨k, n, t, v, F, bs, xs, rfl, hG, hcn, htm, hk, hn, ht, hs4⟩
        obtain ⟨a, ca, rfl⟩ := hG.form
        obtain ⟨cs, ho, hnd, hfr⟩ := hG.own
        have H4 := H3.out.step hs4
        have hbig := H3.out.big
        obtain ⟨w5, hw5⟩ : ∃ w5, w5 = w4.alloc (.cells #[.int .i64 k, .int .i64 n, .string t, .slice a F.length ca] 54) := ⟨_, rfl⟩
        have H5 : Hid (DSt N M w w5 ∧ w5.heap[w4.heap.size]? = some (.cells #[.int .i64 k, .int .i64 n, .string t, .slice a F.length ca] 54 (0, 0)) ∧ w.heap.size < w4.heap.size ∧ w4.heap.size < w5.heap.size) := by rw [hw5]; exact ⟨H4.alloc _, heap_at_new w4 _, H4.big, by simp⟩
        have HO : Hid (OwnV w4 (.slice a F.length ca) F cs ∧ cs.Nodup ∧ ∀ b ∈ cs, w.heap.size + 1 ≤ b ∧ b < w4.heap.size) := ⟨ho, hnd, fun b hb => by have := hfr b hb; omega⟩
        have HT : Hid (F.count ≤ C ∧ F.tame ∧ (0 ≤ k ∧ k ≤ 9) ∧ (-1000000000000 ≤ n ∧ n ≤ 1000000000000) ∧ t.size ≤ 16) := ⟨hcn, htm, hk, hn, ht⟩
        have HB5 : Hid (Below w4.heap.size w4 w5) := by rw [hw5]; exact (Below.refl _ _).alloc (Nat.le_refl _) _
        have HF : Hid (∀ W, CurStep N w5 W → W.heap[w4.heap.size]? = some (.cells #[.int .i64 k, .int .i64 n, .string t, .slice a F.length ca] 54 (0, 0))) := fun W h => (h.2.block _ H5.out.2.2.2 (fun e => by injection e with e; have := H5.out.1.lt; have := H5.out.2.2.1; omega)).trans H5.out.2.1
        have HC : Hid (∀ W, CurStep N w5 W → W.cell? ⟨w4.heap.size, 0, none⟩ = some (.int .i64 k) ∧ W.cell? ⟨w4.heap.size, 1, none⟩ = some (.int .i64 n) ∧ W.cell? ⟨w4.heap.size, 2, none⟩ = some (.string t) ∧ W.cell? ⟨w4.heap.size, 3, none⟩ = some (.slice a F.length ca)) := fun W h => by
          obtain ⟨y0, y1, y2, y3, _⟩ := four_cells (HF.out W h)
          exact ⟨y0, y1, y2, y3⟩
        have hcs0 : CurStep N w5 w5 := ⟨H5.out.1.cur.1, World.grownBy.refl _ _⟩
        obtain ⟨y0, y1, y2, y3⟩ := HC.out w5 hcs0
        have HD : Hid (CurStep N w5 w5.drew) := H5.out.1.cur.1.below (Below.refl _ _).drew rfl
        have HDD : Hid (DSt N M w w5.drew) := H5.out.1.step HD.out
        have hwp : IntKind.i64.wrap (d - 1) = d - 1 := by rw [IntKind.wrap_i64]; omega
        have HRW : Hid (∀ W, DSt N M w W → Calls Tryz.prog 142 #[.pointer (some ⟨N, 0, none⟩), .slice (some ⟨M, 0, none⟩) 2 2, .int .i64 (IntKind.i64.wrap (d - 1))] W (Drawn 1000000000000 N C W)) := fun W h => by rw [hwp]; exact HRO.out W hd2 h
        clear hwp
        have HL := Lib.hid (below_any N 7 (by omega) (by omega) w5.drew HDD.out.cur.1)
        have HW5 := Lib.hid hw5
        rw [hw5] at y0 y1 y2 y3
        clear hG hcn htm hk hn ht hs4 ho hnd hfr H4 hbig hcs0 H3 hw5
        generalize hl : F.length = l at *
        go_wp2
        rw [← HW5.out] at y0 y1 y2 y3 ⊢
        go_region_held3 (fun W => W.cell? ⟨w4.heap.size, 0, none⟩ = some (.int .i64 k) ∧ W.cell? ⟨w4.heap.size, 1, none⟩ = some (.int .i64 n) ∧ W.cell? ⟨w4.heap.size, 2, none⟩ = some (.string t) ∧ W.cell? ⟨w4.heap.size, 3, none⟩ = some (.slice a l ca))
          (first
            | go_keep
            | exact HC.out _ HS7.out
            | exact HC.out _ HS6.out
            | fail "no arm")
          (first
            | (go_at_call 100; (with_reducible refine HL.out.mono ?_); rintro e w6 ⟨z, z0, z1, rfl, hs⟩; (have HS6 : Hid (CurStep N w5 w6) := HD.out.trans hs); clear hs)
            | (go_at_call 142; (with_reducible refine (HRW.out w6 (H5.out.1.step HS6.out)).mono ?_); rintro e w7 ⟨k2, n2, t2, v2, F2, bs2, xs2, rfl, hG2, hcn2, htm2, hk2, hn2, ht2, hs7⟩; (have HS7 : Hid (CurStep N w5 w7) := HS6.out.trans hs7); (have HS67 : Hid (w6.heap.size ≤ w7.heap.size) := hs7.size); obtain ⟨a2, ca2, rfl⟩ := hG2.form; (have HG2 : Hid (∃ cs2, OwnV w7 (.slice a2 F2.length ca2) F2 cs2 ∧ cs2.Nodup ∧ ∀ b ∈ cs2, w6.heap.size ≤ b ∧ b < w7.heap.size) := hG2.own); (have HT2 : Hid (F2.count ≤ C ∧ F2.tame ∧ (0 ≤ k2 ∧ k2 ≤ 9) ∧ (-1000000000000 ≤ n2 ∧ n2 ≤ 1000000000000) ∧ t2.size ≤ 16) := ⟨hcn2, htm2, hk2, hn2, ht2⟩); clear hs7 hG2 hcn2 htm2 hk2 hn2 ht2; (have H8 := Lib.hid ((H5.out.1.step HS7.out).alloc (.cells #[.int .i64 k, .int .i64 n, .string t, .slice a l ca, .int .i64 k2, .int .i64 n2, .string t2, .slice a2 F2.length ca2] 54))); obtain ⟨x0, x1, x2, x3, f0, f1, f2, f3⟩ := four_cells H8.out.box; (have hne1 : ¬ (w4.heap.size = w.heap.size) := by have := H5.out.2.2.1; omega); (have hne2 : ¬ (w.heap.size = w4.heap.size) := by have := H5.out.2.2.1; omega))
            | fail "no arm")
        all_goals
          have H7 := H5.out.1.step HS7.out
          obtain ⟨cs2, ho2, hnd2, hfr2⟩ := HG2.out
          have hs6 := HS6.out.size
          have hs56 := H5.out.2.2
          have hs7 := HS7.out.size
          have hs67 := HS67.out
          have ho7 := HO.out.1.keep (fun c hc => (HS7.out.2.block c (by have := HO.out.2.2 c hc; omega) (fun e => by injection e with e; have := HO.out.2.2 c hc; have := H5.out.1.lt; omega)).trans (HB5.out.block c (HO.out.2.2 c hc).2))
          have hG8 := GrowV.lit2 (k := k) (n := n) (t := t) (k2 := k2) (n2 := n2) (t2 := t2) (B := w.heap.size + 1) (Y := w6.heap.size) ho7 HO.out.2.1 (fun b hb => by have := HO.out.2.2 b hb; omega) ho2 hnd2 hfr2 (by omega) (by omega)
          have HG8 := Lib.hid hG8
          have HT8 : Hid ((Trees.cons k n t F (.cons k2 n2 t2 F2 .nil)).count ≤ 2 + 2 * C ∧ (Trees.cons k n t F (.cons k2 n2 t2 F2 .nil)).tame) := ⟨by have := HT.out.1; have := HT2.out.1; simp only [Trees.count]; omega, HT.out.2.2.1, HT.out.2.2.2.1, HT.out.2.2.2.2, HT.out.2.1, HT2.out.2.2.1, HT2.out.2.2.2.1, HT2.out.2.2.2.2, HT2.out.2.1, trivial⟩
          have HZ : Hid (0 ≤ z ∧ z < 7) := ⟨z0, z1⟩
          clear x0 x1 x2 x3 f0 f1 f2 f3
          clear H7 ho2 hnd2 hfr2 hs6 hs56 hs7 hs67 ho7 hG8 HC HF HRO HRW HO HG2
          go_wp2
          refine bodyPost_ret (results_cell_row rfl _ _ w.heap.size _ _ _ _ rfl (four_set (four_set (four_set (four_set H8.out.box _).1 _).2.1 _).2.2.1 _).2.2.2 Tryz.underlying54 rfl (by kernel_rfl)) rfl ?_
          exact H8.out.fin HG8.out HT8.out.1 HT8.out.2 (by decide) (by rw [IntKind.wrap_i64]; have := HZ.out; omega) (by decide) (Nat.lt_succ_self _)
theorem draw3 (N M : Nat) : DrawOk N M 1 2 ∧ DrawOk N M 2 6 ∧ DrawOk N M 3 14 := by
  have h1 : DrawOk N M 1 2 := draw_step N M 0 1 (by omega) (by omega) (fun h => by omega)
  have h2 : DrawOk N M 2 6 := draw_step N M 2 2 (by omega) (by omega) (fun _ => h1)
  have h3 : DrawOk N M 3 14 := draw_step N M 6 3 (by omega) (by omega) (fun _ => h2)
  exact ⟨h1, h2, h3⟩
end Go.Proofs.YtijbaienhaiamaaGreatDoor.Ex
end

/- What is proved here: the model's copy of an expression (package spec, l4Copy). Condition: the value lies in memory as said, and is small. -/
section
namespace Go.Proofs.YtijbaienhaiamaaGreatDoor.Ex
open Go.RowKit

/-- A value comes back in memory of the call's own. -/
def NewValue (w : World) (k n : Int) (t : ByteArray) (F : Trees) (e : Ending) (w' : World) : Prop :=
  (∃ v bs, e = .returned (.agg #[.int .i64 k, .int .i64 n, .string t, v]) ∧ OwnV w' v F bs ∧ bs.Nodup ∧ ∀ b ∈ bs, w.heap.size ≤ b ∧ b < w'.heap.size) ∧ Below w.heap.size w w'

theorem three_boxes (w : World) (o0 o1 o2 : Obj) : (((w.alloc o0).alloc o1).alloc o2).heap[w.heap.size]? = some o0 ∧ (((w.alloc o0).alloc o1).alloc o2).heap[w.heap.size + 1]? = some o1 ∧ (((w.alloc o0).alloc o1).alloc o2).heap[w.heap.size + 1 + 1]? = some o2 ∧ (((w.alloc o0).alloc o1).alloc o2).heap.size = w.heap.size + 3 ∧ Below w.heap.size w (((w.alloc o0).alloc o1).alloc o2) := by
  have s1 : (w.alloc o0).heap.size = w.heap.size + 1 := Array.size_push _
  have s2 : ((w.alloc o0).alloc o1).heap.size = (w.alloc o0).heap.size + 1 := Array.size_push _
  have s3 : (((w.alloc o0).alloc o1).alloc o2).heap.size = ((w.alloc o0).alloc o1).heap.size + 1 := Array.size_push _
  have e1 := heap_at_new (w.alloc o0) o1
  have e2 := heap_at_new ((w.alloc o0).alloc o1) o2
  rw [s1] at e1
  rw [s2, s1] at e2
  refine ⟨?_, ?_, e2, by omega, (((Below.refl _ _).alloc (Nat.le_refl _) _).alloc (by omega) _).alloc (by omega) _⟩
  · rw [Below.heap_alloc _ _ _ (by omega), Below.heap_alloc _ _ _ (by omega)]
    exact heap_at_new w o0
  · rw [Below.heap_alloc _ _ _ (by omega)]
    exact e1

set_option maxHeartbeats 4000000 in
set_option maxRecDepth 100000 in
theorem copy_any : ∀ F : Trees, F.count ≤ 1048576 → ∀ (w : World) (k n : Int) (t : ByteArray) (p : Option Addr) (cap : Nat), TreesAt w F p 0 →
    Calls Tryz.prog 143 #[.agg #[.int .i64 k, .int .i64 n, .string t, .slice p F.length cap]] w (NewValue w k n t F) := by
  refine Trees.ind fun F hall hcnt w k n t p cap hx => ?_
  have hi : (Tryz.prog.info? 54).map (fun i => (i.zero, i.size, i.bytes)) = some (some (.agg #[.int .i64 0, .int .i64 0, .string ⟨#[]⟩, .slice none 0 0]), 4, 56) := by kernel_rfl
  obtain ⟨i0, hi, hz0, hz1, hz2⟩ := info_parts hi
  have h3 := three_boxes w (.cells #[.int .i64 k, .int .i64 n, .string t, .slice p F.length cap] 54) (.cells #[.int .i64 0, .int .i64 0, .string ⟨#[]⟩, .slice none 0 0] 54) (.cells #[.int .i64 k, .int .i64 n, .string t, .slice none 0 0] 54)
  obtain ⟨w3, hw3⟩ : ∃ w3, w3 = ((w.alloc (.cells #[.int .i64 k, .int .i64 n, .string t, .slice p F.length cap] 54)).alloc (.cells #[.int .i64 0, .int .i64 0, .string ⟨#[]⟩, .slice none 0 0] 54)).alloc (.cells #[.int .i64 k, .int .i64 n, .string t, .slice none 0 0] 54) := ⟨_, rfl⟩
  rw [← hw3] at h3
  obtain ⟨ha, hb, hc, hs, hB⟩ := h3
  have HW3 := Lib.hid hw3
  have HX := Lib.hid hx
  have HC := Lib.hid hcnt
  have HALL := Lib.hid hall
  have hln := F.length_le_count
  generalize hn : F.length = m at *
  have HN := Lib.hid hn
  have hml : m ≤ 1048576 := by omega
  have HI : Hid (BoxAt w3 w.heap.size k n t p m cap 54 ∧ BoxAt w3 (w.heap.size + 1) 0 0 ⟨#[]⟩ none 0 0 54 ∧ BoxAt w3 (w.heap.size + 1 + 1) k n t none 0 0 54 ∧ Below w.heap.size w w3 ∧ w.heap.size + 3 ≤ w3.heap.size) := ⟨ha, hb, hc, hB, by omega⟩
  clear hx hall hcnt ha hb hc hs hB hw3 hn hln
  go_enter Tryz.func143, Tryz.ntmps143
  go_wp2
  rw [← HW3.out]
  clear HW3
  go_loopw [4] (fun i wr => ∃ (j : Nat) (pre rest : Trees) (a : Option Addr) (c : Nat) (bs : List Nat) (xs : List Value), i = .int .i64 j ∧ j + rest.length = m ∧ Hid (pre.length = j ∧ pre.append rest = F ∧ rest.count ≤ 1048576) ∧ Hid (TreesAt w rest p j) ∧ Hid (rest.All (fun G => G.count ≤ 1048576 → ∀ (w : World) (k n : Int) (t : ByteArray) (p : Option Addr) (cap : Nat), TreesAt w G p 0 →
    Calls Tryz.prog 143 #[.agg #[.int .i64 k, .int .i64 n, .string t, .slice p G.length cap]] w (NewValue w k n t G))) ∧ Hid (GrowV wr (w.heap.size + 3) (.slice a j c) pre bs xs) ∧ Hid (BoxAt wr w.heap.size k n t p m cap 54 ∧ BoxAt wr (w.heap.size + 1) 0 0 ⟨#[]⟩ none 0 0 54 ∧ BoxAt wr (w.heap.size + 1 + 1) k n t a j c 54 ∧ Below w.heap.size w wr ∧ w.heap.size + 3 ≤ wr.heap.size)) (fun i _ => m - (intOf i).toNat)
  case atStart => exact ⟨0, .nil, F, none, 0, [], [], rfl, by rw [HN.out]; omega, ⟨rfl, rfl, HC.out⟩, HX, HALL, GrowV.nil _ _, HI⟩
  case round =>
    obtain ⟨j, pre, rest, a, c, bs, xs, rfl, hjm, hP, hxr, hall, hG, hI⟩ := hrel
    cases rest with
    | nil =>
      obtain rfl : j = m := by simp only [Trees.length] at hjm; omega
      obtain ⟨cs, hO, hnd, hfr⟩ := hG.out.own
      have hPF := hP.out.2.1
      rw [Trees.append_nil] at hPF
      rw [hPF] at hO
      have HO := Lib.hid hO
      have HND := Lib.hid hnd
      have HFR := Lib.hid hfr
      obtain ⟨v0, v1, v2, v3⟩ := hI.out.1.cells
      obtain ⟨x0, x1, x2, x3⟩ := hI.out.2.2.1.cells
      obtain ⟨r0, r1, r2, r3, f0, f1, f2, f3⟩ := four_cells hI.out.2.1
      clear hO hnd hfr hPF hG hxr hall hP
      go_wp2
      refine bodyPost_ret (results_cell_row rfl _ _ (w.heap.size + 1) _ _ _ _ rfl (four_set (four_set (four_set (four_set hI.out.2.1 _).1 _).2.1 _).2.2.1 _).2.2.2 Tryz.underlying54 rfl (by kernel_rfl)) rfl ?_
      refine ⟨⟨_, cs, rfl, HO.out.keep (fun b hb => ?_), HND.out, fun b hb => ?_⟩, (((hI.out.2.2.2.1.setCell (by show _ ≤ w.heap.size + 1; omega) _).setCell (by show _ ≤ w.heap.size + 1; omega) _).setCell (by show _ ≤ w.heap.size + 1; omega) _).setCell (by show _ ≤ w.heap.size + 1; omega) _⟩
      · have := HFR.out b hb
        rw [Below.heap_setCell _ _ _ _ (by show b ≠ w.heap.size + 1; omega), Below.heap_setCell _ _ _ _ (by show b ≠ w.heap.size + 1; omega), Below.heap_setCell _ _ _ _ (by show b ≠ w.heap.size + 1; omega), Below.heap_setCell _ _ _ _ (by show b ≠ w.heap.size + 1; omega)]
      · have := HFR.out b hb
        exact ⟨by omega, by simpa [World.setCell] using this.2⟩
    | cons kd nu tx ar r =>
      have hjl : j < m := by simp only [Trees.length] at hjm; omega
      have hjm2 : j + 1 + r.length = m := by simp only [Trees.length] at hjm; omega
      obtain ⟨hp1, hp2, hp3⟩ := hP.out
      simp only [Trees.count] at hp3
      have HP2 : Hid ((pre.snoc kd nu tx ar).length = j + 1 ∧ (pre.snoc kd nu tx ar).append r = F ∧ r.count ≤ 1048576) := ⟨by rw [Trees.snoc_length, hp1], by rw [Trees.snoc_append]; exact hp2, by omega⟩
      have HP1 := Lib.hid hp1
      obtain ⟨y, q, cq, rfl, h1, h2, h3, h4, hs4, _⟩ := (hxr.out.below hI.out.2.2.2.1).open
      have hyb : y.block < w.heap.size := by
        obtain ⟨y', _, _, hy', h1', _⟩ := hxr.out.open
        cases hy'
        have e := addr_block y (j * 4)
        rcases Nat.lt_or_ge y.block w.heap.size with h | h
        · exact h
        · simp [World.cell?, e, Array.getElem?_eq_none h] at h1'
      have HXR2 : Hid (TreesAt w r (some y) (j + 1)) := hxr.out.2
      have HA2 := Lib.hid hall.out.2
      have HCALL := Lib.hid (hall.out.1 (by omega) wr.drew kd nu tx q cq hs4.drew)
      obtain ⟨v0, v1, v2, v3⟩ := hI.out.1.cells
      obtain ⟨x0, x1, x2, x3, f0, f1, f2, f3⟩ := four_cells hI.out.2.2.1
      have HYB := Lib.hid hyb
      clear hP hp1 hp2 hp3 hxr hall hs4 hyb hjm v0 v1 v2 x0 x1 x2 f0 f1 f2
      go_wp2
      go_region_law
        (first
          | (go_simp; go_at_call 143; refine HCALL.out.mono ?_
             rintro e w1 ⟨⟨u, c1, rfl, ho, hnd, hfr⟩, hb⟩
             obtain ⟨q2, cq2, rfl, hl2, _⟩ := ho.reads
             have hb1 := below_of_drew hb
             have hI1 : BoxAt w1 w.heap.size k n t (some y) m cap 54 ∧ BoxAt w1 (w.heap.size + 1) 0 0 ⟨#[]⟩ none 0 0 54 ∧ BoxAt w1 (w.heap.size + 1 + 1) k n t a j c 54 ∧ Below w.heap.size w w1 ∧ w.heap.size + 3 ≤ w1.heap.size := ⟨hI.out.1.below hb1, hI.out.2.1.below hb1, hI.out.2.2.1.below hb1, hI.out.2.2.2.1.trans (hb1.mono hI.out.2.2.2.1.size), Nat.le_trans hI.out.2.2.2.2 hb1.size⟩
             have hal : Below w1.heap.size w1 (w1.alloc (.cells #[.int .i64 kd, .int .i64 nu, .string tx, .slice q2 ar.length cq2] 54)) := (Below.refl _ _).alloc (Nat.le_refl _) _
             have HI1 := Lib.hid hI1
             have HG1 := Lib.hid ((hG.out.below hb1).below hal).owns
             have HO1 := Lib.hid ho
             have HND1 := Lib.hid hnd
             have HFR1 := Lib.hid hfr
             have HBW := Lib.hid hb1
             have HAL := Lib.hid hal
             obtain ⟨_, _, _, x3b, _, _, _, f3b⟩ := four_cells hI1.2.2.1
             obtain ⟨_, _, _, v3b⟩ := hI1.1.cells
             have x3c := (hI1.2.2.1.below hal).cells.2.2.2
             clear ho hnd hfr hb hb1 hI1 hal)
          | (refine step_append_lies _ rfl (.tmp 20) (.tmp 27) 52 rfl (w.heap.size + 3) 54 i0 (.agg #[.int .i64 0, .int .i64 0, .string ⟨#[]⟩, .slice none 0 0]) 4 56 Tryz.underlying52 hi hz0 hz1 hz2 rfl (by decide) (.slice a j c) pre.length xs (by simp [Act.eval]) HG1.out ⟨w1.heap.size, 0, none⟩ 1 1 [.int .i64 kd, .int .i64 nu, .string tx, .slice q2 ar.length cq2] (by simp [Act.eval]) rfl (grow_four _ _ _ _ _ _) (grow_one _ _ _ _ _ _) (by decide) (by rw [HP1.out]; unfold maxLen; omega) (by rw [HP1.out]; omega) (by have := HI1.out.2.2.2.2; simp; omega) (w1.heap.size + 1) (by simp) ?_
             intro g cap4 w4 hown hgrow hat hlt
             have hGM := GrowV.more (w := wr) (w1 := w1) hG.out hI.out.2.2.2.2 HBW.out HO1.out HND1.out HFR1.out HAL.out hown hgrow (by rcases hat with h | h; exact .inl h; exact .inr (by simp [h]))
             have hs2 := HAL.out.size
             have hs1 := HI1.out.2.2.2.2
             have hfar := hG.out.far
             have hk : ∀ b, b < w.heap.size + 3 → w4.heap[b]? = w1.heap[b]? := fun b hb => by rw [hgrow.block b (by omega) (fun e => by have := hfar b e.symm; omega), HAL.out.block b (by omega)]
             have HB4 : Hid (Below w.heap.size w w4) := (HI1.out.2.2.2.1.trans (HAL.out.mono HI1.out.2.2.2.1.size)).grown hgrow (by omega) (fun b e => by have := hfar b e; omega)
             have HV4 : Hid (BoxAt w4 w.heap.size k n t (some y) m cap 54) := (hk _ (by omega)).trans HI1.out.1
             have HR4 : Hid (BoxAt w4 (w.heap.size + 1) 0 0 ⟨#[]⟩ none 0 0 54) := (hk _ (by omega)).trans HI1.out.2.1
             have HO4 : Hid (BoxAt w4 (w.heap.size + 1 + 1) k n t a j c 54) := (hk _ (by omega)).trans HI1.out.2.2.1
             have HZ4 : Hid (w.heap.size + 3 ≤ w4.heap.size) := by have := hgrow.size; unfold Hid; omega
             obtain ⟨_, _, _, x4, _, _, _, f4⟩ := four_cells HO4.out
             obtain ⟨_, _, _, v4⟩ := HV4.out.cells
             rw [HP1.out] at hGM
             have HGM := Lib.hid hGM
             rw [HP1.out]
             clear hGM hs2 hs1 hfar hk hown hgrow hat hlt))
      all_goals
        clear HG1 HO1 HND1 HFR1 HBW HAL HI1 HCALL hG hI
        go_wp2
        go_roundw
        case rel =>
          have hne : ∀ b, b ≠ w.heap.size + 1 + 1 → (w4.setCell ⟨w.heap.size + 1 + 1, 3, none⟩ (.slice (some ⟨g, 0, none⟩) (j + 1) cap4)).heap[b]? = w4.heap[b]? := fun b hb => Below.heap_setCell _ _ _ _ hb
          exact ⟨j + 1, pre.snoc kd nu tx ar, r, some ⟨g, 0, none⟩, cap4, _, _, by go_num, hjm2, HP2, HXR2, HA2, HGM.out.aside _ _ _ (by omega), (hne _ (by omega)).trans HV4.out, (hne _ (by omega)).trans HR4.out, (four_set HO4.out _).2.2.2, HB4.out.setCell (by show _ ≤ w.heap.size + 1 + 1; omega) _, by simpa [World.setCell] using HZ4.out⟩
        case measure => simp [intOf]; omega
end Go.Proofs.YtijbaienhaiamaaGreatDoor.Ex
end

/- What is proved here: nothing of its own: a signature in memory and lists of texts, together. No condition. -/
section

end

/- What is proved here: texts in a block of the call's own with room behind them. No condition. -/
section
namespace Go.Proofs.YtijbaienhaiamaaGreatDoor
open Go.RowKit

/-- Block g holds the texts xs, and 'rest' behind them. -/
def Block (w : World) (g : Nat) (xs : List ByteArray) (rest : List Value) : Prop := w.heap[g]? = some (.cells (xs.map Value.string ++ rest).toArray 9 (0, 0))
theorem Block.lt {w : World} {g : Nat} {xs : List ByteArray} {rest : List Value} (h : Block w g xs rest) : g < w.heap.size := by
  rcases Nat.lt_or_ge g w.heap.size with h1 | h1
  · exact h1
  · unfold Block at h
    rw [Array.getElem?_eq_none h1] at h
    cases h
theorem Block.reads {w : World} {g : Nat} {xs : List ByteArray} {rest : List Value} (h : Block w g xs rest) : Reads w (some ⟨g, 0, none⟩) xs := by
  intro j hj
  refine ⟨_, rfl, ?_⟩
  have e : (⟨g, 0, none⟩ : Addr).add j = ⟨g, j, none⟩ := by simp [Addr.add]; intro h; omega
  rw [e]
  have := cells_cell h j (by simp; omega)
  rw [this]
  rw [List.getElem_append_left (by simpa using hj)]
  simp
theorem Block.below {w w' : World} {g : Nat} {xs : List ByteArray} {rest : List Value} (h : Block w g xs rest) (hb : Below w.heap.size w w') : Block w' g xs rest := by
  unfold Block
  rw [hb.block g h.lt]
  exact h

/-- What 'ownsRow' says of a slice that is not nil. -/
theorem block_of_owned {w : World} {B : Nat} {v : Value} {n : Nat} {ys : List ByteArray} (h : w.ownsRow B 9 1 v n (ys.map Value.string)) (hv : v ≠ .slice none 0 0) :
    ∃ g cap rest, v = .slice (some ⟨g, 0, none⟩) ys.length cap ∧ B ≤ g ∧ Block w g ys rest ∧ n = ys.length := by
  have hl : n = ys.length := by simpa using h.1.symm
  subst hl
  rcases h.2 with ⟨h1, _⟩ | ⟨g, cap, cur, rfl, hb, hg, _, _, _, ht⟩
  · exact absurd h1 hv
  · refine ⟨g, cap, cur.toList.drop ys.length, rfl, hb, ?_, rfl⟩
    unfold Block
    rw [hg, ← ht, Nat.mul_one, List.take_append_drop, Array.toArray_toList]
end Go.Proofs.YtijbaienhaiamaaGreatDoor
end
