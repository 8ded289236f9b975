/- What is proved here: the model's copy of a constructor (package spec, l3Con). Condition: it lies in memory as said, and is small. -/
import Derived.Test.YtcalgjggmgnofaaDoorSigOwn
import Derived.Test.YtcalgjggmgnofaaDoorSigMem
import Derived.Deep.AppendLies
import Derived.Deep.RegionLaw
namespace Go.Proofs.YtcalgjggmgnofaaDoor
open Go.RowKit

theorem texts_one (xs : List ByteArray) : ∀ u ∈ xs.map Value.string, u.oneCell' = true := by
  intro u hu
  obtain ⟨x, _, rfl⟩ := List.mem_map.1 hu
  rfl
theorem reads_news {w : World} {y : Addr} {xs : List ByteArray} (h : Reads w (some y) xs) : ∀ j u, (xs.map Value.string)[j]? = some u → w.cell? (y.add j) = some u := by
  intro j u hj
  rw [List.getElem?_map] at hj
  by_cases hl : j < xs.length
  · rw [List.getElem?_eq_getElem hl] at hj
    obtain rfl : Value.string xs[j] = u := Option.some.inj hj
    obtain ⟨y', hy, hc⟩ := h j hl
    obtain rfl := Option.some.inj hy
    exact hc
  · rw [List.getElem?_eq_none (by omega)] at hj
    cases hj
theorem three0 (w : World) (o0 o1 o2 : Obj) : (((w.alloc o0).alloc o1).alloc o2).heap[w.heap.size]? = some o0 := by
  have s1 : (w.alloc o0).heap.size = w.heap.size + 1 := Array.size_push _
  have s2 : ((w.alloc o0).alloc o1).heap.size = (w.alloc o0).heap.size + 1 := Array.size_push _
  rw [Below.heap_alloc _ _ _ (by omega), Below.heap_alloc _ _ _ (by omega)]
  exact heap_at_new w o0
theorem three_mid (w : World) (o0 o1 o2 : Obj) : (((w.alloc o0).alloc o1).alloc o2).drew.heap[w.heap.size + 1]? = some o1 := (three w o0 o1 o2).2.1
theorem three_grown {w w3 : World} {o0 o1 : Obj} {p : Prop} (h : w3.heap.size = w.heap.size + 3 ∧ w3.heap[w.heap.size + 1]? = some o1 ∧ p ∧ Below w.heap.size w w3) (h0 : w3.heap[w.heap.size]? = some o0) (w1 : World) (r : Option Nat) (hg : w3.drew.grownBy w1 r) (hr : r = some (w.heap.size + 1 + 1)) : w1.heap[w.heap.size + 1]? = some o1 ∧ w1.heap[w.heap.size]? = some o0 ∧ Below w.heap.size w w1 := by
  obtain ⟨h1, h2, _, h4⟩ := h
  subst hr
  have hs : w3.drew.heap.size = w3.heap.size := rfl
  exact ⟨(hg.block (w.heap.size + 1) (by omega) (fun e => by have := Option.some.inj e; omega)).trans h2, (hg.block w.heap.size (by omega) (fun e => by have := Option.some.inj e; omega)).trans h0, h4.drew.grown hg (by omega) (fun k e => by have := Option.some.inj e; omega)⟩
/-- What 'ownsRow' says of texts. -/
theorem owns_owned {w : World} {B : Nat} {g cap : Nat} {n : Nat} {xs : List ByteArray} (h : w.ownsRow B 9 1 (.slice (some ⟨g, 0, none⟩) n cap) n (xs.map Value.string)) : OwnS (fun b => b = g) w (.slice (some ⟨g, 0, none⟩) n cap) xs := by
  obtain ⟨g2, cap2, rest, hv, _, hb, hn⟩ := block_of_owned h (by intro e; cases e)
  injection hv with h1 h2 h3
  injection h1 with h1
  injection h1 with h1
  subst h1
  subst hn
  exact ⟨_, _, rfl, .inr ⟨g, rest, rfl, rfl, hb⟩⟩

set_option maxHeartbeats 1000000 in
set_option maxRecDepth 100000 in
theorem l3Con_any (w : World) (c : ConD) (u v : Value) (hx : ConAt w c u v) (hm : c.args.length ≤ 1048576) :
    Calls Tryd.prog 115 #[.agg #[u, v]] w fun e w' => (∃ u' v', e = .returned (.agg #[u', v']) ∧ OwnCon (Came w w') w' c u' v') ∧ Below w.heap.size w w' := by
  obtain ⟨a, cap, rfl, rfl, hr⟩ := hx
  by_cases h0 : c.args = []
  · have HR := Lib.hid h0
    have hl : c.args.length = 0 := by simp [h0]
    rw [hl]
    have HL := Lib.hid hl
    clear hr hl h0
    cases a
    all_goals
      go_enter Tryd.func115, Tryd.ntmps115
      go_wp2
      go_region
      go_wp2
      refine bodyPost_ret (results_cell_row rfl _ _ (w.heap.size + 1) _ _ _ _ rfl (three_mid _ _ _ _) Tryd.underlying116 rfl (by kernel_rfl)) rfl ?_
      exact ⟨⟨_, _, rfl, rfl, _, _, by rw [HL.out], .inl HR.out⟩, (three _ _ _ _).2.2.2.drew⟩
  · obtain ⟨y, rfl⟩ : ∃ y, a = some y := by
      obtain ⟨y, hy, _⟩ := hr 0 (List.length_pos_iff.2 h0)
      exact ⟨y, hy⟩
    have hi : (Tryd.prog.info? 9).map (fun i => (i.zero, i.size, i.bytes)) = some (some (.string ⟨#[]⟩), 1, 16) := by kernel_rfl
    obtain ⟨i0, hi, hz0, hz1, hz2⟩ := info_parts hi
    have hpos : 0 < c.args.length := List.length_pos_iff.2 h0
    have h3 := three w (.cells #[.string c.name, .slice (some y) c.args.length cap] 116) (.cells #[.string ⟨#[]⟩, .slice none 0 0] 116) (.cells #[] 9)
    have how := World.ownsRow_made (base := w.heap.size) (e := 9) (size := 1) ((w.alloc (.cells #[.string c.name, .slice (some y) c.args.length cap] 116)).alloc (.cells #[.string ⟨#[]⟩, .slice none 0 0] 116)) #[] 0 (by simp; omega) (by decide) (by simp)
    have hsz : ((w.alloc (.cells #[.string c.name, .slice (some y) c.args.length cap] 116)).alloc (.cells #[.string ⟨#[]⟩, .slice none 0 0] 116)).heap.size = w.heap.size + 1 + 1 := by simp
    rw [hsz] at how
    have HO := Lib.hid how.drew
    have HG := Lib.hid (three_grown h3 (three0 _ _ _ _))
    have H3 := Lib.hid h3
    have HR := Lib.hid hr
    clear h0 h3 hr how hsz
    go_enter Tryd.func115, Tryd.ntmps115
    go_wp2
    go_region_law (first
      | (refine step_append_lies _ rfl _ _ 62 rfl w.heap.size 9 i0 (.string ⟨#[]⟩) 1 16 Tryd.underlying62 hi hz0 hz1 hz2 rfl (by decide) _ 0 [] rfl HO.out y c.args.length cap (c.args.map Value.string) rfl (by simp) (reads_news (reads_below HR.out H3.out.2.2.2.drew)) (texts_one _) hpos (by unfold maxLen; omega) (by omega) (by simp; omega) (w.heap.size + 3) H3.out.1 ?_
         intro g cap2 w1 hown hgrow hat hlt
         obtain ⟨hq, hq0, hb1⟩ := HG.out w1 _ hgrow rfl
         obtain ⟨q5, q6, q7, q8⟩ := two_cells hq0
         obtain ⟨q1, q2, q3, q4⟩ := two_cells hq
         have HQ := Lib.hid hq
         have HB1 := Lib.hid hb1
         rw [Nat.zero_add] at hown
         have HRR := Lib.hid (owns_owned hown)
         have hg : w.heap.size + 1 ≠ g := by
           rcases hat with h | h
           · injection (show some (w.heap.size + 1 + 1) = some g from h) with h
             omega
           · omega
         have hg2 : w.heap.size ≤ g := by
           rcases hat with h | h
           · injection (show some (w.heap.size + 1 + 1) = some g from h) with h
             omega
           · omega
         clear hown hgrow hat hq hq0 hb1))
    all_goals
      go_wp2
      refine bodyPost_ret (results_cell_row rfl _ _ (w.heap.size + 1) _ _ _ _ rfl (two_set (two_set HQ.out _).1 _).2 Tryd.underlying116 rfl (by kernel_rfl)) rfl ?_
      refine ⟨⟨_, _, rfl, rfl, (HRR.out.keep ?_).wider ?_⟩, (HB1.out.setCell (by show _ ≤ w.heap.size + 1; omega) _).setCell (by show _ ≤ w.heap.size + 1; omega) _⟩
      · rintro b rfl
        rw [Below.heap_setCell _ _ _ _ (fun e => hg e.symm), Below.heap_setCell _ _ _ _ (fun e => hg e.symm)]
      · rintro b rfl
        exact ⟨hg2, by simpa [World.setCell] using hlt⟩
end Go.Proofs.YtcalgjggmgnofaaDoor
