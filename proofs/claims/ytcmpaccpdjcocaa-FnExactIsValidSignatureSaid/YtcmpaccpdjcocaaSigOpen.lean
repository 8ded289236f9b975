/- What is proved here: an argument of type Signature is a list of declared types in memory, whose lengths a machine can have. No condition. -/
import Derived.Test.YtcmpaccpdjcocaaSig
import Derived.Test.YtcmpaccpdjcocaaRows
import Derived.SliceStrings
import Derived.Deep.SlicePairs
import Derived.ChangeSame
namespace Go.Proofs.Ytcmpaccpdjcocaa
open Go.RowKit Go.ChangeShapes Go.WideShapes Go.Deep

section
variable {H : Type} {enc : TypeId × Value → H} {w : World} {base : Nat} {spare : Nat → Bool} {held : Bool}

theorem open_texts {fuel : Nat} {v : Value} {x : DataW H × List MemPlace} (h : DataW.trod enc Try.prog w base spare held fuel 40 [v] = some x) :
    ∃ a cap xs, v = .slice a xs.length cap ∧ Reads w a xs ∧ xs.length ≤ maxLen ∧ ∀ s ∈ xs, s.size ≤ maxLen := by
  rcases open_strings Try.underlying40 Try.underlying9 (by kernel_rfl) h with ⟨hcs, _⟩ | ⟨a, l, c, ss, hcs, _, hl, hm, hz, _, hcell, hs⟩
  · simp at hcs
    subst hcs
    exact ⟨none, 0, [], rfl, fun j hj => absurd hj (by simp), by simp, by simp⟩
  · simp at hcs
    subst hcs
    have hlen : l ≤ ss.length := by rw [hz]; split <;> omega
    refine ⟨some a, c, ss.take l, by simp; omega, fun j hj => ⟨_, rfl, ?_⟩, by simp; omega, fun x hx => hs x (List.mem_of_mem_take hx)⟩
    have hj2 : j < ss.length := by simp at hj; omega
    rw [hcell j hj2, List.getElem_take, List.getD_eq_getElem?_getD, List.getElem?_eq_getElem hj2]
    rfl

theorem add_two (a : Addr) (i : Nat) : (⟨(a.add (i * 2)).block, (a.add (i * 2)).off + 1, none⟩ : Addr) = a.add (i * 2 + 1) := by
  unfold Addr.add
  rw [if_neg (show ¬ i * 2 + 1 = 0 by omega)]
  by_cases h : i * 2 = 0
  · rw [if_pos h, h]
  · rw [if_neg h]; rfl

theorem open_row2 {α : Type} [Inhabited α] {R : World → α → Value → Value → Prop} {ok : α → Prop} {t e : TypeId} {f0 f1 : Field} (ht : Try.prog.underlying t = some (.slice e)) (he : Try.prog.underlying e = some (.struct #[f0, f1]))
    (ce : Try.prog.cellsOf e = 2) (o0 : f0.offset = 0) (o1 : f1.offset = 1) (c0 : Try.prog.cellsOf f0.type = 1) (c1 : Try.prog.cellsOf f1.type = 1)
    (hE : ∀ n u v y0 y1, DataW.trod enc Try.prog w base spare held n f0.type [u] = some y0 → DataW.trod enc Try.prog w base spare held n f1.type [v] = some y1 → ∃ x, R w x u v ∧ ok x)
    {fuel : Nat} {v : Value} {x : DataW H × List MemPlace} (h : DataW.trod enc Try.prog w base spare held fuel t [v] = some x) :
    ∃ a cap l, v = .slice a l.length cap ∧ Row2 R w a l ∧ l.length ≤ maxLen ∧ ∀ x ∈ l, ok x := by
  rcases open_slice_pairs ht he ce o0 o1 c0 c1 h with ⟨hcs, _⟩ | ⟨a, len, cap, m, n, V0, V1, D0, D1, P0, P1, hcs, _, hl, hm, hmm, _, hi⟩
  · simp at hcs
    subst hcs
    exact ⟨none, 0, [], rfl, fun j hj => absurd hj (by simp), by simp, by simp⟩
  · simp at hcs
    subst hcs
    have hlm : len ≤ m := by rw [hmm]; split <;> omega
    obtain ⟨f, hf⟩ := choose_lt (p := fun i x => R w x (V0 i) (V1 i) ∧ ok x) (fun i (him : i < len) => by
      obtain ⟨_, _, h3, h4⟩ := hi i (by omega)
      exact hE n _ _ _ _ h3 h4)
    refine ⟨some a, cap, (List.range len).map f, by simp, fun j hj => ?_, by simp; omega, fun x hx => ?_⟩
    · have hj2 : j < len := by simpa using hj
      obtain ⟨h1, h2, _, _⟩ := hi j (by omega)
      refine ⟨a, V0 j, V1 j, rfl, h1, ?_, ?_⟩
      · rw [add_two]
        exact h2
      · have e : ((List.range len).map f)[j] = f j := by simp
        rw [e]
        exact (hf j hj2).1
    · obtain ⟨i, hi2, rfl⟩ := List.mem_map.1 hx
      exact (hf i (List.mem_range.1 hi2)).2

instance : Inhabited ConD := ⟨⟨ByteArray.empty, []⟩⟩
instance : Inhabited TypeD := ⟨⟨ByteArray.empty, []⟩⟩

set_option maxRecDepth 100000 in
theorem open_cons {fuel : Nat} {v : Value} {x : DataW H × List MemPlace} (h : DataW.trod enc Try.prog w base spare held fuel 67 [v] = some x) :
    ∃ a cap cs, v = .slice a cs.length cap ∧ Row2 ConAt w a cs ∧ cs.length ≤ maxLen ∧ ∀ c ∈ cs, c.fits := by
  refine open_row2 Try.underlying67 Try.underlying90 (by kernel_rfl) (by kernel_rfl) (by kernel_rfl) (by kernel_rfl) (by kernel_rfl) (fun n u v y0 y1 h0 h1 => ?_) h
  obtain ⟨nm, hu, _, hn⟩ := DataW.trod_string Try.underlying9 h0
  obtain ⟨a, cap, xs, rfl, hr, hm, hs⟩ := open_texts h1
  simp at hu
  subst hu
  exact ⟨⟨nm, xs⟩, ⟨a, cap, rfl, rfl, hr⟩, hn, hm, hs⟩

set_option maxRecDepth 100000 in
theorem open_types {fuel : Nat} {v : Value} {x : DataW H × List MemPlace} (h : DataW.trod enc Try.prog w base spare held fuel 22 [v] = some x) :
    ∃ a cap s, v = .slice a s.length cap ∧ Row2 TypeAt w a s ∧ s.length ≤ maxLen ∧ ∀ t ∈ s, t.fits := by
  refine open_row2 Try.underlying22 Try.underlying69 (by kernel_rfl) (by kernel_rfl) (by kernel_rfl) (by kernel_rfl) (by kernel_rfl) (fun n u v y0 y1 h0 h1 => ?_) h
  obtain ⟨nm, hu, _, hn⟩ := DataW.trod_string Try.underlying9 h0
  obtain ⟨a, cap, xs, rfl, hr, hm, hs⟩ := open_cons h1
  simp at hu
  subst hu
  exact ⟨⟨nm, xs⟩, ⟨a, cap, rfl, rfl, hr⟩, hn, hm, hs⟩

set_option maxRecDepth 100000 in
theorem open_sig {r : Reach} {b0 : Nat} {v : Value} {d : DataW H} {p : List MemPlace} (hv : Value.okWide Try.prog w r b0 24 v) (h : DataW.Trod enc Try.prog w base spare held 24 v d p) :
    ∃ a cap s, v = .agg #[.slice a s.length cap] ∧ Row2 TypeAt w a s ∧ sigFits s := by
  obtain ⟨cs, rfl, hsz⟩ := okWide_struct Try.underlying24 hv
  obtain ⟨l⟩ := cs
  have hC : Try.prog.cellsOf 24 = 1 := by kernel_rfl
  match l, hsz.trans hC with
  | [c0], _ =>
    obtain ⟨fuel, hf⟩ := h
    obtain ⟨xs, n, _, _, _, hlen, hg⟩ := DataW.trod_struct Try.underlying24 hf
    match xs, hlen with
    | [y0], _ =>
      have g0 := hg 0 _ rfl
      have hC1 : Try.prog.cellsOf 22 = 1 := by kernel_rfl
      obtain ⟨a, cap, s, rfl, hr, hm, hs⟩ := open_types (v := c0) (x := y0) (fuel := n) (by simpa [Value.cells, hC1] using g0)
      exact ⟨a, cap, s, rfl, hr, hm, hs⟩
end
end Go.Proofs.Ytcmpaccpdjcocaa
