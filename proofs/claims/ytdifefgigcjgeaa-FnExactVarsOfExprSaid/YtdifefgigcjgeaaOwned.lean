/- What is proved here: texts in a block of the call's own with room behind them (what append and the library's Compact leave): read, marked. Conditions: small numbers. -/
import Derived.Test.YtdifefgigcjgeaaNewTexts
import Derived.Test.YtdifefgigcjgeaaMarks
import Derived.Test.YtdifefgigcjgeaaBlock
namespace Go.Proofs.Ytdifefgigcjgeaa
open Go.RowKit

/-- A slice of the texts ys in a block of the call's own comes back; nothing that was there has changed. -/
def OutTexts (w : World) (ys : List ByteArray) (e : Ending) (w' : World) : Prop :=
  ∃ g cap rest, w.heap.size ≤ g ∧ e = .returned (.slice (some ⟨g, 0, none⟩) ys.length cap) ∧ Block w' g ys rest ∧ Below w.heap.size w w'
theorem out_new {w w' : World} {ys : List ByteArray} {e : Ending} (h : NewTexts w ys e w') : OutTexts w ys e w' := by
  obtain ⟨g, hg, he, hb, hB⟩ := h
  exact ⟨g, _, [], hg, he, by unfold Block; rw [List.append_nil]; exact hb, hB⟩

/-- A row that is being marked, with what lies behind it. -/
theorem marking_set2 (xs : List ByteArray) (rest : List Value) (k j : Nat) (h : j < xs.length) : (marking xs k j ++ rest).set j (.string (mt (k + j))) = marking xs k (j + 1) ++ rest := by
  rw [List.set_append_left j _ (by rw [marking_length xs k j (by omega)]; exact h), marking_set xs k j h]

set_option maxHeartbeats 1000000 in
set_option maxRecDepth 100000 in
theorem markB_any (w : World) (g cap k : Nat) (xs : List ByteArray) (rest : List Value) (hb : Block w g xs rest) (hm : xs.length ≤ 1048577) (hk : 1 ≤ k) (hk2 : k ≤ 4194304) :
    Calls Try.prog 22 #[.slice (some ⟨g, 0, none⟩) xs.length cap, .int .i64 (k : Int)] w fun e w' =>
      e = .returned (.int .i64 ((k + xs.length : Nat) : Int)) ∧ Block w' g (marks k xs.length) rest ∧ w.grownBy w' (some g) := by
  have hlt : g < w.heap.size := hb.lt
  unfold Block at hb ⊢
  rw [← marking_start xs k] at hb
  have HB := Lib.hid hb
  clear hb
  generalize hn : xs.length = n at *
  have HN := Lib.hid hn
  clear hn
  go_enter Try.func22, Try.ntmps22
  go_wp2
  go_loopw [1, 5] (fun q i wr => ∃ j : Nat, j ≤ n ∧ i = .int .i64 j ∧ q = .int .i64 ((k + j : Nat) : Int) ∧ wr.heap[g]? = some (.cells (marking xs k j ++ rest).toArray 9 (0, 0)) ∧ w.grownBy wr (some g)) (fun _ i _ => n - (intOf i).toNat)
  case atStart => exact ⟨0, Nat.zero_le _, rfl, rfl, HB.out, World.grownBy.refl _ _⟩
  case round =>
    obtain ⟨j, hj, rfl, rfl, hb, hg⟩ := hrel
    by_cases hlt2 : j < n
    · have hj2 : j < xs.length := by rw [HN.out]; exact hlt2
      have HB2 := Lib.hid hb
      have HG := Lib.hid hg
      clear hb hg
      go_wp2_with fail
      refine (markText_any (k + j) (by omega) (by omega) _).mono ?_
      rintro e w1 ⟨rfl, hbl⟩
      have hgs := HG.out.size
      have hb1 : w1.heap[g]? = some (.cells (marking xs k j ++ rest).toArray 9 (0, 0)) := by rw [hbl.block g (by omega)]; exact HB2.out
      have hg1 : w.grownBy w1 (some g) := HG.out.trans ⟨hbl.os, hbl.tape, hbl.output, hbl.size, fun i hi _ => hbl.block i hi⟩
      have hle : j < (marking xs k j ++ rest).length := by rw [List.length_append, marking_length xs k j (by omega)]; omega
      have hcell := cells_cell hb1 j hle
      have hfree := cells_free hb1 j
      have hset := cells_set hb1 j (.string (mt (k + j)))
      rw [marking_set2 xs rest k j hj2] at hset
      have hgset : w.grownBy (w1.setCell ⟨g, j, none⟩ (.string (mt (k + j)))) (some g) := hg1.trans ⟨rfl, rfl, rfl, by simp [World.setCell], fun i _ hne => Below.heap_setCell w1 ⟨g, j, none⟩ _ i (fun e => hne (by rw [e]))⟩
      have HS := Lib.hid hset
      have HGS := Lib.hid hgset
      clear hb1 hg1 hset hgset
      generalize (marking xs k j ++ rest)[j]'hle = u at hcell
      clear hle
      go_wp2
      go_roundw
      case rel => exact ⟨j + 1, by omega, by go_num, by go_num, HS.out, HGS.out⟩
      case measure => simp [intOf]; omega
    · obtain rfl : j = n := by omega
      go_wp2
      go_ret
      refine ⟨rfl, ?_, hg⟩
      rw [hb, ← HN.out, marking_full]
end Go.Proofs.Ytdifefgigcjgeaa
