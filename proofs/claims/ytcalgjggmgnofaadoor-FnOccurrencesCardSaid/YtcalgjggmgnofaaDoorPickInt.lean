/- What is proved here: l1PickInt of package spec. Condition: the cursor's block holds a cursor. -/
import Derived.Test.YtcalgjggmgnofaaDoorCursor
namespace Go.Proofs.YtcalgjggmgnofaaDoor
open Go.RowKit

set_option maxHeartbeats 1000000 in
set_option maxRecDepth 100000 in
/-- spec.l1PickInt: one of the integers of a list in a block of its own. -/
theorem pick_int (N M : Nat) (L : List Int) (cap : Nat) (T : TypeId) (w : World) (hc : Cur N w) (hM : w.heap[M]? = some (.cells (L.map (Value.int .i64)).toArray T (0, 0))) (hNM : M ≠ N) (hL : 0 < L.length) (hle : L.length ≤ 1000) :
    Calls Tryd.prog 59 #[.pointer (some ⟨N, 0, none⟩), .slice (some ⟨M, 0, none⟩) L.length cap] w fun e w' => ∃ x ∈ L, e = .returned (.int .i64 x) ∧ CurStep N w w' := by
  have hMlt : M < w.heap.size := by
    rcases Nat.lt_or_ge M w.heap.size with h | h
    · exact h
    · rw [Array.getElem?_eq_none h] at hM
      cases hM
  generalize hn : L.length = n at *
  have HN := Lib.hid hn
  clear hn
  go_enter Tryd.func59, Tryd.ntmps59
  go_wp2_with fail
  refine (below_any N (n : Int) (by omega) (by omega) _ hc).mono ?_
  rintro e w1 ⟨x, x0, x1, rfl, hs⟩
  obtain ⟨j, rfl⟩ : ∃ j : Nat, x = j := ⟨x.toNat, by omega⟩
  have hj : j < L.length := by rw [HN.out]; omega
  have hM1 : w1.heap[M]? = some (.cells (L.map (Value.int .i64)).toArray T (0, 0)) := by rw [hs.2.block M hMlt (fun e => hNM (by injection e))]; exact hM
  have hcell : w1.cell? ⟨M, j, none⟩ = some (.int .i64 L[j]) := by
    have := cells_at hM1 j (by simpa using hj)
    simpa using this
  have hmem : L[j] ∈ L := List.getElem_mem hj
  have HM := Lib.hid hM
  have HM1 := Lib.hid hM1
  have HS := Lib.hid hs
  clear hM hM1 hs
  generalize L[j] = s at hcell hmem
  have HE := Lib.hid hmem
  clear hmem
  go_wp2
  go_ret
  exact ⟨s, HE.out, rfl, HS.out⟩
end Go.Proofs.YtcalgjggmgnofaaDoor
