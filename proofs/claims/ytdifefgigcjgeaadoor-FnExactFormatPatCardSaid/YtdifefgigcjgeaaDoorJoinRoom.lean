/- What is proved here: impl.Join at a slice in a block of the call's own, with room behind it. Condition: the result is not greater than 2^46 bytes. -/
import Derived.Test.YtdifefgigcjgeaaDoorJoined
import Derived.Test.YtdifefgigcjgeaaDoorBlock
namespace Go.Proofs.YtdifefgigcjgeaaDoor
open Go.RowKit

set_option maxRecDepth 100000 in
/-- Join at a slice in a block of the call's own, with room behind it. -/
theorem impl_join_room (w : World) (g cap : Nat) (xs : List ByteArray) (rest : List Value) (b : ByteArray) (hg : Block w g xs rest) (hc : xs.length ≤ cap) (hm : xs.length ≤ 1048577) (hj : (joined xs b).length ≤ 70368744177664) :
    Calls Tryd.prog 60 #[.slice (some ⟨g, 0, none⟩) xs.length cap, .string b] w fun e w' => e = .returned (.string ⟨(joined xs b).toArray⟩) ∧ Below w.heap.size w w' := by
  have hr := hg.reads
  have H := Tryd.strings_Join g 0 cap xs b w (fun j x hx => by
    have hj2 : j < xs.length := by
      rcases Nat.lt_or_ge j xs.length with h | h
      · exact h
      · rw [List.getElem?_eq_none h] at hx
        cases hx
    obtain ⟨y, hy, hcell⟩ := hr j hj2
    rw [List.getElem?_eq_getElem hj2] at hx
    injection hx with hx
    injection hy with hy
    subst hy
    have e : (⟨g, 0, none⟩ : Addr).add j = ⟨g, 0 + j, none⟩ := by simp [Addr.add]; intro h; omega
    rw [e] at hcell
    rw [hcell, hx]) hg.lt (by omega) hc (Nat.le_trans hj (by omega))
  have HG := Lib.hid hg
  clear hg hr
  go_enter Tryd.func60, Tryd.ntmps60
  go_wp2_with fail
  refine H.mono ?_
  rintro e w' ⟨rfl, hb⟩
  go_wp2
  go_ret
  exact ⟨rfl, hb⟩

end Go.Proofs.YtdifefgigcjgeaaDoor
