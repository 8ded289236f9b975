/- What is proved here: drawn integers and texts (package spec, l4Draw at the types int and text). Condition: the cursor's block holds a cursor. -/
import Derived.Test.YtcalgjggmgnofaaDoorDrawTame
import Derived.Test.YtcalgjggmgnofaaDoorDrawBase
import Derived.Test.YtcalgjggmgnofaaDoorPick
import Derived.Test.YtcalgjggmgnofaaDoorPickInt
namespace Go.Proofs.YtcalgjggmgnofaaDoor
open Go.RowKit

def drawInts : List Int := [0, 1, 2, -1, 5, 7]
theorem drawInts_small : ∀ x ∈ drawInts, -1000000000000 ≤ x ∧ x ≤ 1000000000000 := by decide
def drawTexts : List ByteArray := [⟨#[]⟩, ⟨#[97]⟩, ⟨#[98]⟩, ⟨#[97, 98, 99]⟩]
theorem drawTexts_small : ∀ x ∈ drawTexts, x.size ≤ 16 := by
  intro s hs
  simp only [drawTexts, List.mem_cons, List.mem_nil_iff, or_false] at hs
  rcases hs with rfl | rfl | rfl | rfl <;> decide

set_option maxHeartbeats 2000000 in
set_option maxRecDepth 100000 in
theorem draw_int (N : Nat) (d : Int) (w : World) (hc : Cur N w) : Calls Tryd.prog 57 #[.pointer (some ⟨N, 0, none⟩), .string nmInt, .int .i64 d] w (Drawn N 0 w) := by
  have hNw := hc.lt
  obtain ⟨w2, hw2⟩ : ∃ w2, w2 = (w.alloc (.cells #[.int .i64 0, .int .i64 0, .string ⟨#[]⟩, .slice none 0 0] 26)).alloc (.cells (drawInts.map (Value.int .i64)).toArray 3) := ⟨_, rfl⟩
  have hs1 := CurStep.alloc hc (.cells #[.int .i64 0, .int .i64 0, .string ⟨#[]⟩, .slice none 0 0] 26)
  have hs2 := hs1.trans (CurStep.alloc hs1.1 (.cells (drawInts.map (Value.int .i64)).toArray 3))
  have hb := (two_alloc w (.cells #[.int .i64 0, .int .i64 0, .string ⟨#[]⟩, .slice none 0 0] 26) (.cells (drawInts.map (Value.int .i64)).toArray 3))
  rw [← hw2] at hs2 hb
  have H := pick_int N (w.heap.size + 1) drawInts 6 3 w2 hs2.1 hb.2.2.1 (by omega) (by decide) (by decide)
  have HW2 := Lib.hid hw2
  have HS := Lib.hid hs2
  have HR := Lib.hid hb.2.1
  have hz2 := hb.1
  clear hs1 hs2 hb hw2
  unfold nmInt
  go_enter Tryd.func57, Tryd.ntmps57
  go_wp2_with fail
  change Calls _ _ _ ((w.alloc (.cells #[.int .i64 0, .int .i64 0, .string ⟨#[]⟩, .slice none 0 0] 26)).alloc (.cells (drawInts.map (Value.int .i64)).toArray 3)) _
  rw [← HW2.out]
  refine H.mono ?_
  rintro e w3 ⟨x, hx, rfl, hs3⟩
  have hxs := drawInts_small x hx
  have hr3 : w3.heap[w.heap.size]? = some (.cells #[.int .i64 0, .int .i64 0, .string ⟨#[]⟩, .slice none 0 0] 26 (0, 0)) := (hs3.2.block _ (by omega) (fun e => by injection e with e; omega)).trans HR.out
  have HR3 := Lib.hid hr3
  have hst := HS.out.trans hs3
  have HST := Lib.hid hst
  obtain ⟨x0, x1, x2, x3, f0, f1, f2, f3⟩ := four_cells hr3
  have HXS := Lib.hid hxs
  have HNW := Lib.hid hNw
  clear hx hs3 hst hr3 H hxs hz2 hNw
  go_wp2
  refine bodyPost_ret (results_cell_row rfl _ _ w.heap.size _ _ _ _ rfl (four_set (four_set (four_set (four_set HR3.out _).1 _).2.1 _).2.2.1 _).2.2.2 Tryd.underlying26 rfl (by kernel_rfl)) rfl ?_
  have hg : ∀ (W : World) (o : Nat) (u : Value), W.grownBy (W.setCell ⟨w.heap.size, o, none⟩ u) (some w.heap.size) := fun W o u => grown_set W w.heap.size o u
  have hl : ∀ g, some w.heap.size = some g → N < g := fun g e => by injection e with e; have := HNW.out; omega
  have hj : ∀ g, some w.heap.size = some g → g = N ∨ w.heap.size ≤ g := fun g e => by injection e with e; omega
  exact ⟨1, x, ⟨#[]⟩, _, .nil, [], [], rfl, GrowV.nil _ _, Nat.zero_le _, trivial, by decide, HXS.out, by decide,
    ((((HST.out.1.later (hg _ _ _) hl).later (hg _ _ _) hl).later (hg _ _ _) hl).later (hg _ _ _) hl),
    grown_join (grown_join (grown_join (grown_join HST.out.2 (hg _ _ _) hj) (hg _ _ _) hj) (hg _ _ _) hj) (hg _ _ _) hj⟩

set_option maxHeartbeats 2000000 in
set_option maxRecDepth 100000 in
theorem draw_text (N : Nat) (d : Int) (w : World) (hc : Cur N w) : Calls Tryd.prog 57 #[.pointer (some ⟨N, 0, none⟩), .string nmText, .int .i64 d] w (Drawn N 0 w) := by
  have hNw := hc.lt
  obtain ⟨w2, hw2⟩ : ∃ w2, w2 = (w.alloc (.cells #[.int .i64 0, .int .i64 0, .string ⟨#[]⟩, .slice none 0 0] 26)).alloc (.cells (drawTexts.map Value.string).toArray 9) := ⟨_, rfl⟩
  have hs1 := CurStep.alloc hc (.cells #[.int .i64 0, .int .i64 0, .string ⟨#[]⟩, .slice none 0 0] 26)
  have hs2 := hs1.trans (CurStep.alloc hs1.1 (.cells (drawTexts.map Value.string).toArray 9))
  have hb := (two_alloc w (.cells #[.int .i64 0, .int .i64 0, .string ⟨#[]⟩, .slice none 0 0] 26) (.cells (drawTexts.map Value.string).toArray 9))
  rw [← hw2] at hs2 hb
  have H := pick_any N (w.heap.size + 1) drawTexts 4 9 w2 hs2.1 hb.2.2.1 (by omega) (by decide) (by decide)
  have HW2 := Lib.hid hw2
  have HS := Lib.hid hs2
  have HR := Lib.hid hb.2.1
  have hz2 := hb.1
  clear hs1 hs2 hb hw2
  unfold nmText
  go_enter Tryd.func57, Tryd.ntmps57
  go_wp2_with fail
  change Calls _ _ _ ((w.alloc (.cells #[.int .i64 0, .int .i64 0, .string ⟨#[]⟩, .slice none 0 0] 26)).alloc (.cells (drawTexts.map Value.string).toArray 9)) _
  rw [← HW2.out]
  refine H.mono ?_
  rintro e w3 ⟨x, hx, rfl, hs3⟩
  have hxs := drawTexts_small x hx
  have hr3 : w3.heap[w.heap.size]? = some (.cells #[.int .i64 0, .int .i64 0, .string ⟨#[]⟩, .slice none 0 0] 26 (0, 0)) := (hs3.2.block _ (by omega) (fun e => by injection e with e; omega)).trans HR.out
  have HR3 := Lib.hid hr3
  have hst := HS.out.trans hs3
  have HST := Lib.hid hst
  obtain ⟨x0, x1, x2, x3, f0, f1, f2, f3⟩ := four_cells hr3
  have HXS := Lib.hid hxs
  have HNW := Lib.hid hNw
  clear hx hs3 hst hr3 H hxs hz2 hNw
  go_wp2
  refine bodyPost_ret (results_cell_row rfl _ _ w.heap.size _ _ _ _ rfl (four_set (four_set (four_set (four_set HR3.out _).1 _).2.1 _).2.2.1 _).2.2.2 Tryd.underlying26 rfl (by kernel_rfl)) rfl ?_
  have hg : ∀ (W : World) (o : Nat) (u : Value), W.grownBy (W.setCell ⟨w.heap.size, o, none⟩ u) (some w.heap.size) := fun W o u => grown_set W w.heap.size o u
  have hl : ∀ g, some w.heap.size = some g → N < g := fun g e => by injection e with e; have := HNW.out; omega
  have hj : ∀ g, some w.heap.size = some g → g = N ∨ w.heap.size ≤ g := fun g e => by injection e with e; omega
  exact ⟨2, 0, x, _, .nil, [], [], rfl, GrowV.nil _ _, Nat.zero_le _, trivial, by decide, by decide, HXS.out,
    ((((HST.out.1.later (hg _ _ _) hl).later (hg _ _ _) hl).later (hg _ _ _) hl).later (hg _ _ _) hl),
    grown_join (grown_join (grown_join (grown_join HST.out.2 (hg _ _ _) hj) (hg _ _ _) hj) (hg _ _ _) hj) (hg _ _ _) hj⟩
end Go.Proofs.YtcalgjggmgnofaaDoor
