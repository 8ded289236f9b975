/- What is proved here: the laws' helper that looks whether a slice still holds the marks (heldStringS). Condition: small numbers. -/
import Derived.Test.YtdifefgigcjgeaaMarks
import Derived.Test.YtdifefgigcjgeaaNum
import Derived.Lib.ItoaMem
import Derived.Lib.ItoaLen
import Derived.Laws.IdiomStrings
import Derived.Laws.Concat
import Derived.Deep.RegionHeld3
namespace Go.Proofs.Ytdifefgigcjgeaa
open Go.RowKit
open Go.Lib (decDigits nDigits)

set_option maxHeartbeats 1000000 in
set_option maxRecDepth 100000 in
theorem heldS_any (w : World) (a : Option Addr) (cap k n : Nat) (hx : Reads w a (marks k n)) (hm : n ≤ 1048577) (hk : 1 ≤ k) (hk2 : k ≤ 4194304) :
    Calls Try.prog 23 #[.slice a n cap, .int .i64 (k : Int)] w fun e w' =>
      e = .returned (.int .i64 ((k + n : Nat) : Int)) ∧ Below w.heap.size w w' := by
  have HX := Lib.hid hx
  clear hx
  go_enter Try.func23, Try.ntmps23
  go_wp2
  go_loopw [1, 5] (fun q i wr => ∃ j : Nat, j ≤ n ∧ i = .int .i64 j ∧ q = .int .i64 ((k + j : Nat) : Int) ∧ Below w.heap.size w wr) (fun _ i _ => n - (intOf i).toNat)
  case atStart => exact ⟨0, Nat.zero_le _, rfl, rfl, Below.refl _ _⟩
  case round =>
    obtain ⟨j, hj, rfl, rfl, hB⟩ := hrel
    by_cases hlt2 : j < n
    · obtain ⟨y, rfl, hc⟩ := reads_below HX.out hB j (by rw [marks_length]; exact hlt2)
      rw [marks_at] at hc
      have hlt3 : (y.add j).block < wr.heap.size := by
        rcases Nat.lt_or_ge (y.add j).block wr.heap.size with h | h
        · exact h
        · simp [World.cell?, Array.getElem?_eq_none h] at hc
      have hwz := hB.size
      go_wp2
      go_region_held3 (fun w' => w'.cell? (y.add j) = some (.string (mt (k + j))))
        (first
          | go_keep
          | (rw [hbl.cell (p := y.add j) (by simpa using hlt3)]; assumption))
        (first
          | (go_at_call 54; refine (markText_any (k + j) (by omega) (by omega) _).mono ?_; rintro e w1 ⟨rfl, hbl⟩))
      have hB1 : Below w.heap.size w w1 := ⟨hbl.os.trans hB.os, hbl.tape.trans hB.tape, hbl.output.trans hB.output, Nat.le_trans hwz hbl.size, fun q hq => (hbl.block q (by simp; omega)).trans (hB.block q hq)⟩
      clear hbl
      go_wp2
      go_roundw
      case rel => exact ⟨j + 1, by omega, by go_num, by go_num, hB1⟩
      case measure => simp [intOf]; omega
    · obtain rfl : j = n := by omega
      go_wp2
      go_ret
      exact ⟨rfl, hB⟩
end Go.Proofs.Ytdifefgigcjgeaa
