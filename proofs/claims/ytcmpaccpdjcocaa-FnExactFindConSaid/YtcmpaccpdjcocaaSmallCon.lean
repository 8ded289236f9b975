/- What is proved here: what FindCon hands back, in one form. No condition. -/
import Derived.Test.YtcmpaccpdjcocaaSmall
import Derived.Test.YtcmpaccpdjcocaaSpecFindCon
namespace Go.Proofs.Ytcmpaccpdjcocaa
open Go.RowKit

/-- What FindCon hands back, found or not. -/
def gotCon (s : List TypeD) (nm : ByteArray) : ConD × ByteArray := (theCon s nm).getD (⟨⟨#[]⟩, []⟩, ⟨#[]⟩)
theorem foundCon_got {w w' : World} {s : List TypeD} {nm : ByteArray} {e : Ending} (h : FoundCon w s nm e w') : (∃ u v, e = .returned (.tuple #[.agg #[u, v], .string (gotCon s nm).2, .bool (theCon s nm).isSome]) ∧ OwnCon (Came w w') w' (gotCon s nm).1 u v) ∧ Below w.heap.size w w' := by
  obtain ⟨hb, ⟨c, tn, u, v, hx, he, ho⟩ | ⟨hx, he⟩⟩ := h
  · exact ⟨⟨u, v, by unfold gotCon; rw [hx]; exact he, by unfold gotCon; rw [hx]; exact ho⟩, hb⟩
  · exact ⟨⟨_, _, by unfold gotCon; rw [hx]; exact he, by unfold gotCon; rw [hx]; exact ⟨rfl, none, 0, rfl, .inl rfl⟩⟩, hb⟩
theorem gotCon_small {s : List TypeD} {nm : ByteArray} (h : sigSize s ≤ 1048576) : (gotCon s nm).1.args.length ≤ 1048576 := by
  unfold gotCon
  cases hx : theCon s nm with
  | none => simp
  | some p =>
    unfold theCon at hx
    cases ht : s.find? (hasCon nm) with
    | none => rw [ht] at hx; cases hx
    | some t =>
      rw [ht] at hx
      have hm : t ∈ s := List.mem_of_find?_eq_some ht
      cases hc : t.cons.find? (ConD.named nm) with
      | none => simp [hc] at hx
      | some c =>
        simp [hc] at hx
        subst hx
        exact ((smalls_of h).2 t hm).2 c (List.mem_of_find?_eq_some hc)
end Go.Proofs.Ytcmpaccpdjcocaa
