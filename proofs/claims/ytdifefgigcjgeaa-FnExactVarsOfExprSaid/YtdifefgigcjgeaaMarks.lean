/- What is proved here: the laws' helper that marks the texts of a slice (markStringS). Conditions: the slice lies in a block of the call's own; small numbers. -/
import Derived.Test.YtdifefgigcjgeaaTexts
import Derived.Test.YtdifefgigcjgeaaMarkText
import Derived.Test.YtdifefgigcjgeaaNum
import Derived.Lib.ItoaMem
import Derived.Lib.ItoaLen
import Derived.Laws.IdiomStrings
import Derived.Laws.Concat
import Derived.Deep.RegionHeld3
namespace Go.Proofs.Ytdifefgigcjgeaa
open Go.RowKit
open Go.Lib (decDigits nDigits)

/-- n marks from k on. -/
def marks (k n : Nat) : List ByteArray := (List.range n).map fun j => mt (k + j)
theorem marks_length (k n : Nat) : (marks k n).length = n := by simp [marks]
theorem marks_at (k n j : Nat) (h : j < (marks k n).length) : (marks k n)[j] = mt (k + j) := by simp [marks]

/-- A row that is being marked: j of its texts are. -/
def marking (xs : List ByteArray) (k j : Nat) : List Value := (marks k j).map Value.string ++ (xs.drop j).map Value.string
theorem marking_length (xs : List ByteArray) (k j : Nat) (h : j ≤ xs.length) : (marking xs k j).length = xs.length := by simp [marking, marks]; omega
theorem marking_set (xs : List ByteArray) (k j : Nat) (h : j < xs.length) : (marking xs k j).set j (.string (mt (k + j))) = marking xs k (j + 1) := by
  unfold marking
  have e : ((marks k j).map Value.string).length = j := by simp [marks]
  rw [List.set_append_right j _ (by omega), e, Nat.sub_self, List.drop_eq_getElem_cons h, List.map_cons, List.set_cons_zero]
  simp [marks, List.range_succ]
theorem marking_start (xs : List ByteArray) (k : Nat) : marking xs k 0 = xs.map Value.string := by simp [marking, marks]
theorem marking_full (xs : List ByteArray) (k : Nat) : marking xs k xs.length = (marks k xs.length).map Value.string := by simp [marking]

set_option maxHeartbeats 1000000 in
set_option maxRecDepth 100000 in
theorem markS_any (w : World) (g cap k : Nat) (xs : List ByteArray) (hb : w.heap[g]? = some (.cells (xs.map Value.string).toArray 9 (0, 0))) (hm : xs.length ≤ 1048577) (hk : 1 ≤ k) (hk2 : k ≤ 1048576) :
    Calls Try.prog 22 #[.slice (some ⟨g, 0, none⟩) xs.length cap, .int .i64 (k : Int)] w fun e w' =>
      e = .returned (.int .i64 ((k + xs.length : Nat) : Int)) ∧ w'.heap[g]? = some (.cells ((marks k xs.length).map Value.string).toArray 9 (0, 0)) ∧ w.grownBy w' (some g) := by
  have hlt : g < w.heap.size := by
    rcases Nat.lt_or_ge g w.heap.size with h | h
    · exact h
    · rw [Array.getElem?_eq_none h] at hb
      cases hb
  rw [← marking_start xs k] at hb
  have HB := Lib.hid hb
  clear hb
  generalize hn : xs.length = n at *
  have HN := Lib.hid hn
  clear hn
  go_enter Try.func22, Try.ntmps22
  go_wp2
  go_loopw [1, 5] (fun q i wr => ∃ j : Nat, j ≤ n ∧ i = .int .i64 j ∧ q = .int .i64 ((k + j : Nat) : Int) ∧ wr.heap[g]? = some (.cells (marking xs k j).toArray 9 (0, 0)) ∧ w.grownBy wr (some g)) (fun _ i _ => n - (intOf i).toNat)
  case atStart => exact ⟨0, Nat.zero_le _, rfl, rfl, HB.out, World.grownBy.refl _ _⟩
  case round =>
    obtain ⟨j, hj, rfl, rfl, hb, hg⟩ := hrel
    by_cases hlt2 : j < n
    · have hj2 : j < xs.length := by rw [HN.out]; exact hlt2
      have HB2 := Lib.hid hb
      have HG := Lib.hid hg
      clear hb hg
      go_wp2_with fail
      refine (markText_any (k + j) (by omega) (by omega) _).mono ?_
      rintro e w1 ⟨rfl, hbl⟩
      have hgs := HG.out.size
      have hb1 : w1.heap[g]? = some (.cells (marking xs k j).toArray 9 (0, 0)) := by rw [hbl.block g (by omega)]; exact HB2.out
      have hg1 : w.grownBy w1 (some g) := HG.out.trans ⟨hbl.os, hbl.tape, hbl.output, hbl.size, fun i hi _ => hbl.block i hi⟩
      have hcell := cells_cell hb1 j (by rw [marking_length xs k j (by omega)]; exact hj2)
      have hfree := cells_free hb1 j
      have hset := cells_set hb1 j (.string (mt (k + j)))
      rw [marking_set xs k j hj2] at hset
      have hgset : w.grownBy (w1.setCell ⟨g, j, none⟩ (.string (mt (k + j)))) (some g) := hg1.trans ⟨rfl, rfl, rfl, by simp [World.setCell], fun i _ hne => Below.heap_setCell w1 ⟨g, j, none⟩ _ i (fun e => hne (by rw [e]))⟩
      have HS := Lib.hid hset
      have HGS := Lib.hid hgset
      clear hb1 hg1 hset hgset
      generalize (marking xs k j)[j]'(by rw [marking_length xs k j (by omega)]; exact hj2) = u at hcell
      go_wp2
      go_roundw
      case rel => exact ⟨j + 1, by omega, by go_num, by go_num, HS.out, HGS.out⟩
      case measure => simp [intOf]; omega
    · obtain rfl : j = n := by omega
      go_wp2
      go_ret
      refine ⟨rfl, ?_, hg⟩
      rw [hb, ← HN.out, marking_full]
end Go.Proofs.Ytdifefgigcjgeaa
