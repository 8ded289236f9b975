/- What is proved here: the laws' helpers that mark the texts of a slice and look whether it still holds the marks (markText, markStringS, heldStringS). Conditions: the slice lies in a block of the call's own; small numbers. -/
import Derived.Test.YtcmpaccpdjcocaaTexts
import Derived.Test.YtcmpaccpdjcocaaNum
import Derived.Lib.ItoaMem
import Derived.Lib.ItoaLen
import Derived.Laws.IdiomStrings
import Derived.Laws.Concat
import Derived.Deep.RegionHeld3
namespace Go.Proofs.Ytcmpaccpdjcocaa
open Go.RowKit
open Go.Lib (decDigits nDigits)

theorem conv_digit (d : Nat) (hd : d < 10) (w : World) :
    (convert 82 9 (.slice (some ⟨w.heap.size, 0, none⟩) 1 1)).run Try.prog (w.alloc (.cells #[.int .u8 (48 + (d : Int))] 5)) = .ok (.string ⟨#[UInt8.ofNat (48 + d)]⟩) (w.alloc (.cells #[.int .u8 (48 + (d : Int))] 5)) := by
  have h := run_convert_bytes_back (P := Try.prog) (w.alloc (.cells #[.int .u8 (48 + (d : Int))] 5)) 82 9 5 ⟨w.heap.size, 0, none⟩ 1 [UInt8.ofNat (48 + d)] Try.underlying82 Try.underlying5 Try.underlying9 (fun j hj => by
    have hj0 : j = 0 := by simpa using hj
    subst hj0
    have e : ((UInt8.ofNat (48 + d)).toNat : Int) = 48 + (d : Int) := by simp; omega
    rw [Lib.add_plain]
    simp only [List.getElem_cons_zero]
    rw [e]
    simp [World.cell?_alloc_new])
  simpa using h
theorem cat_digit (c : UInt8) (L : List UInt8) (h : L.length ≤ 100) (w : World) : (Op.stringOp .add ⟨#[c]⟩ ⟨L.toArray⟩).run Try.prog w = .ok (.string ⟨(c :: L).toArray⟩) w := by
  have e1 : (ByteArray.mk #[c]).size = 1 := rfl
  have e2 : (ByteArray.mk L.toArray).size = L.length := by show L.toArray.size = _; simp
  rw [run_string_add_sum w _ _ (by rw [e1, e2]; omega)]
  rfl

/-- The mark of k. -/
def mt (k : Nat) : ByteArray := ⟨(109 :: decDigits k).toArray⟩

set_option maxHeartbeats 400000 in
set_option maxRecDepth 100000 in
theorem markText_any (n : Nat) (hp : 1 ≤ n) (h1 : n ≤ 4294967296) (w : World) :
    Calls Try.prog 50 #[.int .i64 (n : Int)] w fun e w' => e = .returned (.string (mt n)) ∧ Below w.heap.size w w' := by
  have hn20 : (decDigits n).length ≤ 20 := by rw [Lib.decDigits_length]; exact Lib.nDigits_le20 n (by omega)
  have hcm := cat_digit 109 (decDigits n) (by omega)
  have HN := Lib.hid hn20
  clear hn20
  go_enter Try.func50, Try.ntmps50
  go_wp2
  go_loopw [0, 3] (fun a o wr => ∃ (u : Nat) (L : List UInt8), a = .int .i64 u ∧ u ≤ n ∧ o = .string ⟨L.toArray⟩ ∧ L.length ≤ 20 ∧ digitsOf u ++ L = decDigits n ∧ Below w.heap.size w wr) (fun a _ _ => (intOf a).toNat)
  case atStart => exact ⟨n, [], rfl, Nat.le_refl _, rfl, by simp, by simp [digitsOf_pos (show n ≠ 0 by omega)], Below.refl _ _⟩
  case round =>
    obtain ⟨u, L, rfl, hu, rfl, hL, hD, hb⟩ := hrel
    by_cases h0 : u = 0
    · subst h0
      rw [digitsOf_zero] at hD
      simp at hD
      subst hD
      go_wp2
      go_ret
      exact ⟨rfl, hb⟩
    · have hD' := Lib.hid hD
      clear hD
      have hcv := conv_digit (u % 10) (by omega) wr
      have hct := cat_digit (UInt8.ofNat (48 + u % 10)) L (by omega)
      have hpos : 0 < u := by omega
      simp only [Int.natCast_emod, Int.cast_ofNat_Int] at hcv
      go_wp2
      go_roundw
      case rel =>
        refine ⟨u / 10, _, by go_num, by omega, rfl, ?_, ?_, ?_⟩
        · have := hD'.out
          rw [digitsOf_step h0] at this
          have h2 := congrArg List.length this
          have h3 := HN.out
          simp at h2 ⊢
          omega
        · have := hD'.out
          rw [digitsOf_step h0] at this
          simpa using this
        · exact hb.alloc (by have := hb.size; omega) _
      case measure => simp [intOf]; omega

/-- n marks from k on. -/
def marks (k n : Nat) : List ByteArray := (List.range n).map fun j => mt (k + j)
theorem marks_length (k n : Nat) : (marks k n).length = n := by simp [marks]
theorem marks_at (k n j : Nat) (h : j < (marks k n).length) : (marks k n)[j] = mt (k + j) := by simp [marks]

/-- A row that is being marked: j of its texts are. -/
def marking (xs : List ByteArray) (k j : Nat) : List Value := (marks k j).map Value.string ++ (xs.drop j).map Value.string
theorem marking_length (xs : List ByteArray) (k j : Nat) (h : j ≤ xs.length) : (marking xs k j).length = xs.length := by simp [marking, marks]; omega
theorem marking_set (xs : List ByteArray) (k j : Nat) (h : j < xs.length) : (marking xs k j).set j (.string (mt (k + j))) = marking xs k (j + 1) := by
  unfold marking
  have e : ((marks k j).map Value.string).length = j := by simp [marks]
  rw [List.set_append_right j _ (by omega), e, Nat.sub_self, List.drop_eq_getElem_cons h, List.map_cons, List.set_cons_zero]
  simp [marks, List.range_succ]
theorem marking_start (xs : List ByteArray) (k : Nat) : marking xs k 0 = xs.map Value.string := by simp [marking, marks]
theorem marking_full (xs : List ByteArray) (k : Nat) : marking xs k xs.length = (marks k xs.length).map Value.string := by simp [marking]

set_option maxHeartbeats 1000000 in
set_option maxRecDepth 100000 in
theorem markS_any (w : World) (g cap k : Nat) (xs : List ByteArray) (hb : w.heap[g]? = some (.cells (xs.map Value.string).toArray 9 (0, 0))) (hm : xs.length ≤ 1048577) (hk : 1 ≤ k) (hk2 : k ≤ 1048576) :
    Calls Try.prog 37 #[.slice (some ⟨g, 0, none⟩) xs.length cap, .int .i64 (k : Int)] w fun e w' =>
      e = .returned (.int .i64 ((k + xs.length : Nat) : Int)) ∧ w'.heap[g]? = some (.cells ((marks k xs.length).map Value.string).toArray 9 (0, 0)) ∧ w.grownBy w' (some g) := by
  have hlt : g < w.heap.size := by
    rcases Nat.lt_or_ge g w.heap.size with h | h
    · exact h
    · rw [Array.getElem?_eq_none h] at hb
      cases hb
  rw [← marking_start xs k] at hb
  have HB := Lib.hid hb
  clear hb
  generalize hn : xs.length = n at *
  have HN := Lib.hid hn
  clear hn
  go_enter Try.func37, Try.ntmps37
  go_wp2
  go_loopw [1, 5] (fun q i wr => ∃ j : Nat, j ≤ n ∧ i = .int .i64 j ∧ q = .int .i64 ((k + j : Nat) : Int) ∧ wr.heap[g]? = some (.cells (marking xs k j).toArray 9 (0, 0)) ∧ w.grownBy wr (some g)) (fun _ i _ => n - (intOf i).toNat)
  case atStart => exact ⟨0, Nat.zero_le _, rfl, rfl, HB.out, World.grownBy.refl _ _⟩
  case round =>
    obtain ⟨j, hj, rfl, rfl, hb, hg⟩ := hrel
    by_cases hlt2 : j < n
    · have hj2 : j < xs.length := by rw [HN.out]; exact hlt2
      have HB2 := Lib.hid hb
      have HG := Lib.hid hg
      clear hb hg
      go_wp2_with fail
      refine (markText_any (k + j) (by omega) (by omega) _).mono ?_
      rintro e w1 ⟨rfl, hbl⟩
      have hgs := HG.out.size
      have hb1 : w1.heap[g]? = some (.cells (marking xs k j).toArray 9 (0, 0)) := by rw [hbl.block g (by omega)]; exact HB2.out
      have hg1 : w.grownBy w1 (some g) := HG.out.trans ⟨hbl.os, hbl.tape, hbl.output, hbl.size, fun i hi _ => hbl.block i hi⟩
      have hcell := cells_cell hb1 j (by rw [marking_length xs k j (by omega)]; exact hj2)
      have hfree := cells_free hb1 j
      have hset := cells_set hb1 j (.string (mt (k + j)))
      rw [marking_set xs k j hj2] at hset
      have hgset : w.grownBy (w1.setCell ⟨g, j, none⟩ (.string (mt (k + j)))) (some g) := hg1.trans ⟨rfl, rfl, rfl, by simp [World.setCell], fun i _ hne => Below.heap_setCell w1 ⟨g, j, none⟩ _ i (fun e => hne (by rw [e]))⟩
      have HS := Lib.hid hset
      have HGS := Lib.hid hgset
      clear hb1 hg1 hset hgset
      generalize (marking xs k j)[j]'(by rw [marking_length xs k j (by omega)]; exact hj2) = u at hcell
      go_wp2
      go_roundw
      case rel => exact ⟨j + 1, by omega, by go_num, by go_num, HS.out, HGS.out⟩
      case measure => simp [intOf]; omega
    · obtain rfl : j = n := by omega
      go_wp2
      go_ret
      refine ⟨rfl, ?_, hg⟩
      rw [hb, ← HN.out, marking_full]

set_option maxHeartbeats 1000000 in
set_option maxRecDepth 100000 in
theorem heldS_any (w : World) (a : Option Addr) (cap k n : Nat) (hx : Reads w a (marks k n)) (hm : n ≤ 1048577) (hk : 1 ≤ k) (hk2 : k ≤ 4194304) :
    Calls Try.prog 38 #[.slice a n cap, .int .i64 (k : Int)] w fun e w' =>
      e = .returned (.int .i64 ((k + n : Nat) : Int)) ∧ Below w.heap.size w w' := by
  have HX := Lib.hid hx
  clear hx
  go_enter Try.func38, Try.ntmps38
  go_wp2
  go_loopw [1, 5] (fun q i wr => ∃ j : Nat, j ≤ n ∧ i = .int .i64 j ∧ q = .int .i64 ((k + j : Nat) : Int) ∧ Below w.heap.size w wr) (fun _ i _ => n - (intOf i).toNat)
  case atStart => exact ⟨0, Nat.zero_le _, rfl, rfl, Below.refl _ _⟩
  case round =>
    obtain ⟨j, hj, rfl, rfl, hB⟩ := hrel
    by_cases hlt2 : j < n
    · obtain ⟨y, rfl, hc⟩ := reads_below HX.out hB j (by rw [marks_length]; exact hlt2)
      rw [marks_at] at hc
      have hlt3 : (y.add j).block < wr.heap.size := by
        rcases Nat.lt_or_ge (y.add j).block wr.heap.size with h | h
        · exact h
        · simp [World.cell?, Array.getElem?_eq_none h] at hc
      have hwz := hB.size
      go_wp2
      go_region_held3 (fun w' => w'.cell? (y.add j) = some (.string (mt (k + j))))
        (first
          | go_keep
          | (rw [hbl.cell (p := y.add j) (by simpa using hlt3)]; assumption))
        (first
          | (go_at_call 50; refine (markText_any (k + j) (by omega) (by omega) _).mono ?_; rintro e w1 ⟨rfl, hbl⟩))
      have hB1 : Below w.heap.size w w1 := ⟨hbl.os.trans hB.os, hbl.tape.trans hB.tape, hbl.output.trans hB.output, Nat.le_trans hwz hbl.size, fun q hq => (hbl.block q (by simp; omega)).trans (hB.block q hq)⟩
      clear hbl
      go_wp2
      go_roundw
      case rel => exact ⟨j + 1, by omega, by go_num, by go_num, hB1⟩
      case measure => simp [intOf]; omega
    · obtain rfl : j = n := by omega
      go_wp2
      go_ret
      exact ⟨rfl, hB⟩
end Go.Proofs.Ytcmpaccpdjcocaa
