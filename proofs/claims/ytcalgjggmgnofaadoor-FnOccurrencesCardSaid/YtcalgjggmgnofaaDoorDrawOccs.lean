/- What is proved here: drawn values with lists of numbers (package spec, DrawValueAt, DrawCompareOccurrences). Condition: at most 1048576 bytes of code. -/
import Derived.Test.YtcalgjggmgnofaaDoorDrawTops
import Derived.Test.YtcalgjggmgnofaaDoorDrawInts
import Derived.Test.YtcalgjggmgnofaaDoorSpecValueAt
namespace Go.Proofs.YtcalgjggmgnofaaDoor
open Go.RowKit

/-- A drawn value and a list of numbers. -/
def DrawnPair (w : World) (e : Ending) (w' : World) : Prop :=
  ∃ k n t v F B bs xs g cap zs, e = .returned (.tuple #[.agg #[.int .i64 k, .int .i64 n, .string t, v], .slice (some ⟨g, 0, none⟩) (List.length zs) cap]) ∧ w.heap.size ≤ B ∧ GrowV w' B v F bs xs ∧ F.count ≤ 100 ∧ F.tame ∧ zs.length ≤ cap ∧ cap ≤ maxLen ∧ zs.length ≤ 4 ∧ (∀ z ∈ zs, -1 ≤ z ∧ z ≤ 2) ∧ ReadsI w' (some ⟨g, 0, none⟩) zs ∧ Below w.heap.size w w'

theorem readsI_aside {w : World} {g : Nat} {zs : List Int} (h : ReadsI w (some ⟨g, 0, none⟩) zs) (b o : Nat) (u : Value) (hb : b ≠ g) : ReadsI (w.setCell ⟨b, o, none⟩ u) (some ⟨g, 0, none⟩) zs := by
  intro j hj
  obtain ⟨y, e, h1⟩ := h j hj
  cases e
  refine ⟨_, rfl, ?_⟩
  have hq : ((⟨g, 0, none⟩ : Addr).add j).block = g := by unfold Addr.add; split <;> rfl
  exact (World.cell?_of_block (Below.heap_setCell _ _ _ _ (by show _ ≠ b; rw [hq]; exact fun e => hb e.symm))).trans h1

set_option maxHeartbeats 2000000 in
set_option maxRecDepth 100000 in
theorem drawValueAt_any (w : World) (a : Option Addr) (len cap : Nat) (zs : List Int) (hr : IsRow .u8 w a len cap zs) (hlen : len ≤ 1048576) : Calls Tryd.prog 9 #[.slice a len cap] w (DrawnPair w) := by
  have hal : Below w.heap.size w (w.alloc (.cells #[.int .i64 0, .int .i64 0, .string ⟨#[]⟩, .slice none 0 0] 26)) := (Below.refl _ _).alloc (Nat.le_refl _) _
  have hr1 := heap_at_new w (.cells #[.int .i64 0, .int .i64 0, .string ⟨#[]⟩, .slice none 0 0] 26)
  have hz : (w.alloc (.cells #[.int .i64 0, .int .i64 0, .string ⟨#[]⟩, .slice none 0 0] 26)).heap.size = w.heap.size + 1 := Array.size_push _
  have HN := Lib.hid (new_any (w.alloc (.cells #[.int .i64 0, .int .i64 0, .string ⟨#[]⟩, .slice none 0 0] 26)) a len cap zs (row_stays (row := none) hr (grown_of_below hal) (fun _ _ _ => by simp)) hlen)
  have HB1 := Lib.hid hal
  have HR1 := Lib.hid hr1
  have HZ := Lib.hid hz
  clear hal hr1 hz hr hlen
  go_enter Tryd.func9, Tryd.ntmps9
  go_wp2_with fail
  refine HN.out.mono ?_
  rintro e w2 ⟨N, hN, rfl, hc, hb2⟩
  have HB2 : Hid (Below w.heap.size w w2) := HB1.out.trans (hb2.mono HB1.out.size)
  have HR2 : Hid (BoxAt w2 w.heap.size 0 0 ⟨#[]⟩ none 0 0 26) := (hb2.block _ (by have := HZ.out; omega)).trans HR1.out
  have HNN : Hid (w.heap.size < N ∧ N < w2.heap.size) := ⟨by have := HZ.out; omega, hc.lt⟩
  have HBT := Lib.hid (l4Bent_any N w2 hc)
  clear hN hc hb2 HN HB1 HR1 HZ
  go_wp2_with fail
  refine HBT.out.mono ?_
  rintro e w3 ⟨k, n, t, v, F, bs, xs, rfl, hG, hcn, htm, hk, hn, ht, hs⟩
  obtain ⟨a2, ca, rfl⟩ := hG.form
  have HR3 : Hid (BoxAt w3 w.heap.size 0 0 ⟨#[]⟩ none 0 0 26) := (hs.2.block _ (by have := HNN.out; omega) (fun e => by injection e with e; have := HNN.out; omega)).trans HR2.out
  have HDI := Lib.hid (l5Draw_any N w3 hs.1)
  have HG := Lib.hid hG
  have HP : Hid (F.count ≤ 100 ∧ F.tame ∧ w2.heap.size ≤ w3.heap.size) := ⟨hcn, htm, hs.size⟩
  have HB3 : Hid (Below w.heap.size w w3) := HB2.out.grown hs.2 HB2.out.size (fun k e => by injection e with e; have := HNN.out; omega)
  clear hG hcn htm hk hn ht hs HBT HR2
  go_wp2_with fail
  refine HDI.out.mono ?_
  rintro e w4 ⟨g, cz, ys, rfl, hg1, hg2, hy1, hy2, hy3, hy4, hry, hs⟩
  have hr4 : BoxAt w4 w.heap.size 0 0 ⟨#[]⟩ none 0 0 26 := (hs.2.block _ (by have := HNN.out; have := HP.out.2.2; omega) (fun e => by injection e with e; have := HNN.out; omega)).trans HR3.out
  have HR4 := Lib.hid hr4
  have HG4 := Lib.hid (HG.out.grown hs.2 (by have := HNN.out; omega))
  have HB4 : Hid (Below w.heap.size w w4) := HB3.out.grown hs.2 HB3.out.size (fun k e => by injection e with e; have := HNN.out; omega)
  have HY : Hid (w.heap.size ≠ g ∧ ys.length ≤ cz ∧ cz ≤ maxLen ∧ ys.length ≤ 4 ∧ (∀ z ∈ ys, -1 ≤ z ∧ z ≤ 2) ∧ ReadsI w4 (some ⟨g, 0, none⟩) ys) := ⟨by have := HNN.out; have := HP.out.2.2; omega, hy1, hy2, hy3, hy4, hry⟩
  obtain ⟨x0, x1, x2, x3, f0, f1, f2, f3⟩ := four_cells hr4
  clear hr4 hs hg1 hg2 hy1 hy2 hy3 hy4 hry HDI HG HR3 HB3
  go_wp2
  refine bodyPost_ret (results_row_one rfl _ _ w.heap.size _ _ _ _ rfl (four_set (four_set (four_set (four_set HR4.out _).1 _).2.1 _).2.2.1 _).2.2.2 Tryd.underlying26 rfl (by kernel_rfl)) rfl ?_
  have hw2 : w.heap.size < w2.heap.size := by have := HNN.out; omega
  obtain ⟨hne, q1, q2, q3, q4, q5⟩ := HY.out
  exact ⟨k, n, t, _, F, w2.heap.size, bs, xs, g, cz, ys, rfl, by omega, (((HG4.out.aside _ _ _ hw2).aside _ _ _ hw2).aside _ _ _ hw2).aside _ _ _ hw2, HP.out.1, HP.out.2.1, q1, q2, q3, q4, readsI_aside (readsI_aside (readsI_aside (readsI_aside q5 _ _ _ hne) _ _ _ hne) _ _ _ hne) _ _ _ hne, (((HB4.out.setCell (Nat.le_refl _) _).setCell (Nat.le_refl _) _).setCell (Nat.le_refl _) _).setCell (Nat.le_refl _) _⟩

/-- Two drawn lists of numbers. -/
def DrawnTwo (w : World) (e : Ending) (w' : World) : Prop :=
  ∃ g c xs g2 c2 ys, e = .returned (.tuple #[.slice (some ⟨g, 0, none⟩) (List.length xs) c, .slice (some ⟨g2, 0, none⟩) (List.length ys) c2]) ∧ xs.length ≤ 4 ∧ ys.length ≤ 4 ∧ ReadsI w' (some ⟨g, 0, none⟩) xs ∧ ReadsI w' (some ⟨g2, 0, none⟩) ys ∧ Below w.heap.size w w'

set_option maxHeartbeats 1000000 in
set_option maxRecDepth 100000 in
theorem drawCompare_any (w : World) (a : Option Addr) (len cap : Nat) (zs : List Int) (hr : IsRow .u8 w a len cap zs) (hlen : len ≤ 1048576) : Calls Tryd.prog 15 #[.slice a len cap] w (DrawnTwo w) := by
  have HR := Lib.hid hr
  clear hr
  go_enter Tryd.func15, Tryd.ntmps15
  go_wp2_with fail
  refine (new_any w a len cap zs HR.out hlen).mono ?_
  rintro e w1 ⟨N, hN, rfl, hc, hb1⟩
  have HC := Lib.hid hc
  have HB1 := Lib.hid hb1
  have HN := Lib.hid hN
  clear hc hb1 hN
  go_wp2_with fail
  refine (l5Draw_any N w1 HC.out).mono ?_
  rintro e w2 ⟨g, c, xs, rfl, hg1, hg2, h1, h2, h3, h4, hx, hs⟩
  have HS := Lib.hid hs
  have HX : Hid (xs.length ≤ 4 ∧ ReadsI w2 (some ⟨g, 0, none⟩) xs ∧ N ≠ g ∧ g < w2.heap.size) := ⟨h3, hx, by have := HC.out.lt; omega, hg2⟩
  clear hg1 hg2 h1 h2 h3 h4 hx hs
  go_wp2_with fail
  refine (l5Draw_any N w2 HS.out.1).mono ?_
  rintro e w3 ⟨g2, c2, ys, rfl, hg1, hg2, h1, h2, h3, h4, hy, hs⟩
  have HS3 := Lib.hid hs
  have HY : Hid (ys.length ≤ 4 ∧ ReadsI w3 (some ⟨g2, 0, none⟩) ys) := ⟨h3, hy⟩
  clear hg1 hg2 h1 h2 h3 h4 hy hs
  go_wp2
  go_ret2
  obtain ⟨p1, p2, p3, p4⟩ := HX.out
  refine ⟨g, c, xs, g2, c2, ys, rfl, p1, HY.out.1, fun j hj => ?_, HY.out.2, (HS.out.trans HS3.out).below HB1.out HB1.out.size HN.out⟩
  obtain ⟨y, e, h1⟩ := p2 j hj
  cases e
  have hq : ((⟨g, 0, none⟩ : Addr).add j).block = g := by unfold Addr.add; split <;> rfl
  exact ⟨_, rfl, (World.cell?_of_block (HS3.out.2.block _ (by rw [hq]; exact p4) (fun e => by injection e with e; rw [hq] at e; exact p3 e.symm))).trans h1⟩
end Go.Proofs.YtcalgjggmgnofaaDoor
