/- What is proved here: a signature that keeps to the laws' bound is small in all its parts; cells that stay; what FindType hands back, in one form. No condition. -/
import Derived.Test.YtcmpaccpdjcocaaSpecFind
import Derived.Test.YtcmpaccpdjcocaaSigMark
namespace Go.Proofs.Ytcmpaccpdjcocaa
open Go.RowKit

theorem sum_mem {α : Type} (f : α → Nat) (l : List α) (x : α) (hx : x ∈ l) : f x ≤ sumBy f l := by
  induction l with
  | nil => cases hx
  | cons y r ih =>
    have e : sumBy f (y :: r) = f y + sumBy f r := by simp [sumBy]
    rcases List.mem_cons.1 hx with rfl | h
    · omega
    · have := ih h; omega
/-- All lengths are small. -/
def Smalls (s : List TypeD) : Prop := s.length ≤ 1048576 ∧ ∀ c ∈ s, c.cons.length ≤ 1048576 ∧ ∀ d ∈ c.cons, d.args.length ≤ 1048576
def Bigs (s : List TypeD) : Prop := s.length ≤ maxLen ∧ ∀ c ∈ s, c.cons.length ≤ maxLen ∧ ∀ d ∈ c.cons, d.args.length ≤ maxLen
theorem smalls_of {s : List TypeD} (h : sigSize s ≤ 1048576) : Smalls s := by
  unfold sigSize at h
  refine ⟨by omega, fun c hc => ?_⟩
  have h1 := sum_mem TypeD.size s c hc
  have e1 : c.size = c.name.size + (c.cons.length + sumBy ConD.size c.cons) := rfl
  refine ⟨by omega, fun d hd => ?_⟩
  have h2 := sum_mem ConD.size c.cons d hd
  have e2 : d.size = d.name.size + (d.args.length + total d.args) := rfl
  omega
theorem bigs_of {s : List TypeD} (h : Smalls s) : Bigs s := by
  unfold Bigs maxLen
  exact ⟨by have := h.1; omega, fun c hc => ⟨by have := (h.2 c hc).1; omega, fun d hd => by have := (h.2 c hc).2 d hd; omega⟩⟩
theorem count_sig {s : List TypeD} (h : sigSize s ≤ 1048576) : sumBy TypeD.count s ≤ 1048576 := by
  have := mark_count2 s
  unfold sigSize at h
  omega
theorem count_type {s : List TypeD} (h : sigSize s ≤ 1048576) {t : TypeD} (ht : t ∈ s) : sumBy ConD.count t.cons ≤ 1048576 := by
  have h1 := sum_mem TypeD.size s t ht
  have h2 := mark_count t.cons
  have e1 : t.size = t.name.size + (t.cons.length + sumBy ConD.size t.cons) := rfl
  unfold sigSize at h
  omega

theorem cell_only {F : Nat → Prop} {w w' : World} {p : Addr} {v : Value} (h : w.cell? p = some v) (ho : Only F w w') (hn : ¬ F p.block) : w'.cell? p = some v := by
  rw [← h]
  have hlt : p.block < w.heap.size := by
    rcases Nat.lt_or_ge p.block w.heap.size with h1 | h1
    · exact h1
    · simp [World.cell?, Array.getElem?_eq_none h1] at h
  exact World.cell?_of_block (ho.block _ hlt hn)

def noType : TypeD := ⟨⟨#[]⟩, []⟩
/-- What FindType hands back, found or not. -/
def gotType (s : List TypeD) (nm : ByteArray) : TypeD := (theType s nm).getD noType
theorem found_got {w w' : World} {s : List TypeD} {nm : ByteArray} {e : Ending} (h : Found w s nm e w') : (∃ u v, e = .returned (.tuple #[.agg #[u, v], .bool (theType s nm).isSome]) ∧ OwnType (Came w w') w' (gotType s nm) u v) ∧ Below w.heap.size w w' := by
  obtain ⟨hb, ⟨x, u, v, hx, he, ho⟩ | ⟨hx, he⟩⟩ := h
  · exact ⟨⟨u, v, by rw [hx]; exact he, by unfold gotType; rw [hx]; exact ho⟩, hb⟩
  · exact ⟨⟨_, _, by rw [hx]; exact he, by unfold gotType; rw [hx]; exact ⟨rfl, none, 0, rfl, .inl rfl⟩⟩, hb⟩
theorem got_small {s : List TypeD} {nm : ByteArray} (h : sigSize s ≤ 1048576) : (gotType s nm).cons.length ≤ 1048576 ∧ (∀ d ∈ (gotType s nm).cons, d.args.length ≤ 1048576) ∧ sumBy ConD.count (gotType s nm).cons ≤ 1048576 := by
  unfold gotType
  cases hx : theType s nm with
  | none =>
    refine ⟨by simp [noType], fun d hd => absurd hd (by simp [noType]), by simp [noType, sumBy]⟩
  | some x =>
    have hm : x ∈ s := List.mem_of_find?_eq_some hx
    exact ⟨((smalls_of h).2 x hm).1, ((smalls_of h).2 x hm).2, count_type h hm⟩
end Go.Proofs.Ytcmpaccpdjcocaa
