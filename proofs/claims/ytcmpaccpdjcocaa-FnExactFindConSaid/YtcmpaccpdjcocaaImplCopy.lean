/- What is proved here: the program's copies of a constructor and of a type (copyCon, copyType) lie in memory of their own. Condition: what is copied lies in memory as said, and is small. -/
import Derived.Test.YtcmpaccpdjcocaaSpecType
import Derived.Test.YtcmpaccpdjcocaaShelf
import Derived.Test.YtcmpaccpdjcocaaFind
namespace Go.Proofs.Ytcmpaccpdjcocaa
open Go.RowKit

theorem clone_any (F : Nat → Prop) (w : World) (v : Value) (xs : List ByteArray) (hO : OwnS F w v xs) (hm : xs.length ≤ 1048576) :
    Calls Try.prog 51 #[v] w fun e w' => (∃ a2 cap2, e = .returned (.slice a2 xs.length cap2) ∧ OwnS (Came w w') w' (.slice a2 xs.length cap2) xs) ∧ Below w.heap.size w w' := by
  have own : ∀ (w' : World) (v' : Value), w'.ownsRow w.heap.size 9 1 v' xs.length (xs.map Value.string) → ∃ a2 cap2, v' = .slice a2 xs.length cap2 ∧ OwnS (Came w w') w' (.slice a2 xs.length cap2) xs := by
    intro w' v' h
    rcases h.2 with ⟨e1, e2⟩ | ⟨g, cap, cur, rfl, hb, hg, _⟩
    · exact ⟨none, 0, by rw [e1, e2], none, 0, by rw [e2], .inl (List.eq_nil_of_length_eq_zero e2)⟩
    · refine ⟨_, cap, rfl, (owns_owned h).wider ?_⟩
      rintro b rfl
      refine ⟨hb, ?_⟩
      rcases Nat.lt_or_ge b w'.heap.size with h1 | h1
      · exact h1
      · rw [Array.getElem?_eq_none h1] at hg
        cases hg
  obtain ⟨a, cap, rfl, h0 | ⟨g, rest, rfl, hg, hb⟩⟩ := hO
  · subst h0
    cases a with
    | none =>
      refine (Try.slices_Clone_string_nil 0 cap w).mono ?_
      rintro e w' ⟨rfl, rfl⟩
      exact ⟨⟨none, 0, rfl, none, 0, rfl, .inl rfl⟩, Below.refl _ _⟩
    | some y =>
      refine (Try.slices_Clone_string_zero y cap w).mono ?_
      rintro e w' ⟨v', rfl, h1, _, hbl⟩
      obtain ⟨a2, cap2, rfl, h2⟩ := own w' v' h1
      exact ⟨⟨a2, cap2, rfl, h2⟩, hbl⟩
  · have hr := hb.reads
    have H := Try.slices_Clone_string g 0 xs.length cap xs w (Nat.le_refl _) (by omega) (fun j hj => by
      obtain ⟨y, hy, hc⟩ := hr j hj
      injection hy with hy
      subst hy
      have e1 : (⟨g, 0, none⟩ : Addr).add j = ⟨g, 0 + j, none⟩ := by simp [Addr.add]; intro h; omega
      rw [e1] at hc
      rw [hc, List.getD_eq_getElem?_getD, List.getElem?_eq_getElem hj]
      rfl)
    rw [List.take_length] at H
    refine H.mono ?_
    rintro e w' ⟨v', rfl, h1, _, hbl⟩
    obtain ⟨a2, cap2, rfl, h2⟩ := own w' v' h1
    exact ⟨⟨a2, cap2, rfl, h2⟩, hbl⟩

set_option maxHeartbeats 1000000 in
set_option maxRecDepth 100000 in
theorem copyCon_any (F : Nat → Prop) (w : World) (c : ConD) (u v : Value) (hO : OwnCon F w c u v) (hF : ∀ b, F b → b < w.heap.size) (hm : c.args.length ≤ 1048576) :
    Calls Try.prog 35 #[.agg #[u, v]] w fun e w' => (∃ u' v', e = .returned (.agg #[u', v']) ∧ OwnCon (Came w w') w' c u' v') ∧ Below w.heap.size w w' := by
  obtain ⟨rfl, hO⟩ := hO
  obtain ⟨w2, h2⟩ : ∃ w2, w2 = (w.alloc (.cells #[.string c.name, v] 42)).alloc (.cells #[.string ⟨#[]⟩, .slice none 0 0] 42) := ⟨_, rfl⟩
  have h := two_alloc w (.cells #[.string c.name, v] 42) (.cells #[.string ⟨#[]⟩, .slice none 0 0] 42)
  rw [← h2] at h
  obtain ⟨hs, hp0, hp1, hB⟩ := h
  have H := clone_any F w2.drew v c.args (hO.keep (fun b hb => hB.block b (hF b hb))) hm
  obtain ⟨a, cap, rfl, _⟩ := hO
  have H2 := Lib.hid h2
  have HP0 := Lib.hid hp0
  have HP1 := Lib.hid hp1
  have HB := Lib.hid hB
  have HSZ := Lib.hid hs
  obtain ⟨q1, q2, _, _⟩ := two_cells hp0
  clear h2 hp0 hp1 hB hs hF
  go_enter Try.func35, Try.ntmps35
  go_wp2
  rw [← H2.out]
  go_region_law (first
    | (go_simp; go_at_call 51; refine H.mono ?_
       rintro e w3 ⟨⟨a2, cap2, rfl, ho⟩, hb3⟩
       have hb3' := below_of_drew hb3
       have hr1 := (hb3'.block (w.heap.size + 1) (by have := HSZ.out; omega)).trans HP1.out
       obtain ⟨p1, p2, p3, p4⟩ := two_cells hr1
       obtain ⟨p5, _, _, _⟩ := two_cells ((hb3'.block w.heap.size (by have := HSZ.out; omega)).trans HP0.out)
       have HR1 := Lib.hid hr1
       have HO := Lib.hid ho
       have HB3 : Hid (Below w.heap.size w w3) := HB.out.trans (hb3'.mono HB.out.size)
       clear hb3 hb3' ho hr1))
  all_goals
    go_wp2
    refine bodyPost_ret (results_cell_row rfl _ _ (w.heap.size + 1) _ _ _ _ rfl (two_set (two_set HR1.out _).1 _).2 Try.underlying42 rfl (by kernel_rfl)) rfl ?_
    refine ⟨⟨_, _, rfl, rfl, (HO.out.keep ?_).wider ?_⟩, (HB3.out.setCell (by show _ ≤ w.heap.size + 1; omega) _).setCell (by show _ ≤ w.heap.size + 1; omega) _⟩
    · rintro b ⟨hb1, _⟩
      have hh : w2.drew.heap.size = w2.heap.size := rfl
      have := HSZ.out
      rw [Below.heap_setCell _ _ _ _ (by show b ≠ w.heap.size + 1; omega), Below.heap_setCell _ _ _ _ (by show b ≠ w.heap.size + 1; omega)]
    · rintro b ⟨hb1, hb2⟩
      have hh : w2.drew.heap.size = w2.heap.size := rfl
      have := HSZ.out
      exact ⟨by omega, by simpa [World.setCell] using hb2⟩
end Go.Proofs.Ytcmpaccpdjcocaa
