/- What is proved here: the laws mark every integer of a list in a block of the call's own (markIntS). Condition: small numbers. -/
import Derived.Test.YtcalgjggmgnofaaInts
import Derived.Test.YtcalgjggmgnofaaOnly
namespace Go.Proofs.Ytcalgjggmgnofaa
open Go.RowKit

set_option maxHeartbeats 1000000 in
set_option maxRecDepth 100000 in
theorem markI_any (w : World) (g cap k n : Nat) (l : List Value) (hb : w.heap[g]? = some (.cells l.toArray 3 (0, 0))) (hl : n ≤ l.length) (hn : n ≤ 1048576) (hk : k ≤ 4194304) :
    Calls Try.prog 15 #[.slice (some ⟨g, 0, none⟩) n cap, .int .i64 (k : Int)] w fun e w' => e = .returned (.int .i64 ((k + n : Nat) : Int)) ∧ Only (fun b => b = g) w w' := by
  have HB := Lib.hid hb
  have HL := Lib.hid hl
  clear hb hl
  go_enter Try.func15, Try.ntmps15
  go_wp2
  go_loopw [1, 5] (fun q i wr => ∃ (j : Nat) (l : List Value), j ≤ n ∧ i = .int .i64 j ∧ q = .int .i64 ((k + j : Nat) : Int) ∧ Hid (wr.heap[g]? = some (.cells l.toArray 3 (0, 0)) ∧ n ≤ l.length ∧ Only (fun b => b = g) w wr)) (fun _ i _ => n - (intOf i).toNat)
  case atStart => exact ⟨0, l, Nat.zero_le _, rfl, rfl, HB.out, HL.out, Only.refl _ _⟩
  case round =>
    obtain ⟨j, l, hj, rfl, rfl, hI⟩ := hrel
    by_cases hlt : j < n
    · have hcell := cells_cell hI.out.1 j (by have := hI.out.2.1; omega)
      have hfree := cells_free hI.out.1 j
      have hset := cells_set hI.out.1 j (.int .i64 ((k + j : Nat) : Int))
      have HS : Hid ((wr.setCell ⟨g, j, none⟩ (.int .i64 ((k + j : Nat) : Int))).heap[g]? = some (.cells (l.set j (.int .i64 ((k + j : Nat) : Int))).toArray 3 (0, 0)) ∧ n ≤ (l.set j (.int .i64 ((k + j : Nat) : Int))).length ∧ Only (fun b => b = g) w (wr.setCell ⟨g, j, none⟩ (.int .i64 ((k + j : Nat) : Int)))) :=
        ⟨hset, by rw [List.length_set]; exact hI.out.2.1, hI.out.2.2.trans (Only.setCell (F := fun b => b = g) (p := ⟨g, j, none⟩) rfl _)⟩
      generalize l[j]'(by have := hI.out.2.1; omega) = u at hcell
      clear hset hI
      go_wp2
      go_roundw
      case rel => exact ⟨j + 1, _, by omega, by go_num, by go_num, HS⟩
      case measure => simp [intOf]; omega
    · obtain rfl : j = n := by omega
      go_wp2
      go_ret
      exact ⟨rfl, hI.out.2.2⟩
end Go.Proofs.Ytcalgjggmgnofaa
