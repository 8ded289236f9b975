/- What is proved here: the laws' helpers on lists of texts (szStringS, toStringS) do what they say. Condition: the slice reads as the list. -/
import Derived.Test.YtcmpaccpdjcocaaTexts
namespace Go.Proofs.Ytcmpaccpdjcocaa
open Go.RowKit

/-- What szStringS returns, from 1048576 on. -/
def szEnd (xs : List ByteArray) : Int := if xs.length + total xs ≤ 1048576 then 1048576 - (xs.length : Int) - (total xs : Int) else -1

set_option maxHeartbeats 1000000 in
set_option maxRecDepth 100000 in
theorem sz_any (w : World) (a : Option Addr) (cap : Nat) (xs : List ByteArray) (hx : Reads w a xs) (hm : xs.length ≤ maxLen) (hs : ∀ x ∈ xs, x.size ≤ maxLen) :
    Calls Try.prog 84 #[.slice a xs.length cap, .int .i64 1048576] w fun e w' => e = .returned (.int .i64 (szEnd xs)) ∧ w = w' := by
  unfold maxLen at hm hs
  have HX := Lib.hid hx
  have HS := Lib.hid hs
  clear hx hs
  generalize hn : xs.length = n at *
  have HN := Lib.hid hn
  clear hn
  by_cases h0 : 1048576 < n
  · have HE : Hid (szEnd xs = -1) := by unfold Hid szEnd; rw [HN.out]; exact if_neg (by omega)
    go_enter Try.func84, Try.ntmps84
    go_wp2
    go_ret
    exact ⟨by rw [HE.out]; rfl, rfl⟩
  · go_enter Try.func84, Try.ntmps84
    go_wp2
    go_loop [1, 5] (fun l i => ∃ (k : Nat) (m : Int), k ≤ n ∧ i = .int .i64 k ∧ l = .int .i64 m ∧ 0 ≤ m ∧ m ≤ 1048576 ∧ m = 1048576 - (n : Int) - (total (xs.take k) : Int)) (fun _ i => n - (intOf i).toNat)
    case atStart =>
      exact ⟨0, 1048576 - (n : Int), Nat.zero_le _, rfl, rfl, by omega, by omega, by simp [total]⟩
    case round =>
      obtain ⟨k, m, hk, rfl, rfl, m0, m1, hm2⟩ := hrel
      by_cases hlt : k < n
      · obtain ⟨y, rfl, hc⟩ := HX.out k (by rw [HN.out]; exact hlt)
        have ht := total_take xs k (by rw [HN.out]; exact hlt)
        have hle := total_take_le xs (k + 1)
        have hsz := HS.out _ (List.getElem_mem (l := xs) (n := k) (by rw [HN.out]; exact hlt))
        generalize xs[k]'(by rw [HN.out]; exact hlt) = x at hc ht hsz
        have HT := Lib.hid ht
        have HM := Lib.hid hm2
        clear ht hm2
        by_cases hbad : m - (x.size : Int) < 0
        · have HE : Hid (szEnd xs = -1) := by
            have := HT.out
            have := HM.out
            unfold Hid szEnd; rw [HN.out]; exact if_neg (by omega)
          go_wp2
          go_ret
          exact ⟨by rw [HE.out]; rfl, rfl⟩
        · go_wp2
          go_round
          case rel =>
            have := HT.out
            have := HM.out
            exact ⟨k + 1, m - x.size, by omega, by go_num, rfl, by omega, by omega, by omega⟩
          case measure => simp [intOf]; omega
      · obtain rfl : k = n := by omega
        have HE : Hid (szEnd xs = m) := by
          have e : xs.take k = xs := List.take_of_length_le (by rw [HN.out]; exact Nat.le_refl _)
          rw [e] at hm2
          unfold Hid szEnd; rw [HN.out, if_pos (by omega)]; omega
        clear hm2
        go_wp2
        go_ret
        exact ⟨by rw [HE.out]; rfl, rfl⟩

/-- A row of texts that is being filled: k of them are there. -/
def filled (xs : List ByteArray) (k : Nat) : List Value := (xs.take k).map Value.string ++ List.replicate (xs.length - k) (.string ⟨#[]⟩)
theorem filled_length (xs : List ByteArray) (k : Nat) (h : k ≤ xs.length) : (filled xs k).length = xs.length := by simp [filled]; omega
theorem filled_set (xs : List ByteArray) (k : Nat) (h : k < xs.length) : (filled xs k).set k (.string xs[k]) = filled xs (k + 1) := by
  unfold filled
  rw [List.take_succ_eq_append_getElem h, List.map_append, show xs.length - k = (xs.length - (k + 1)) + 1 by omega, List.replicate_succ]
  have e : ((xs.take k).map Value.string).length = k := by simp; omega
  rw [List.set_append_right k _ (by omega), e, Nat.sub_self, List.set_cons_zero]
  simp
theorem filled_full (xs : List ByteArray) : filled xs xs.length = xs.map Value.string := by simp [filled]

theorem make_texts (n : Nat) (hn : n ≤ 1048576) (W : World) :
    (Instr.makeSlice 40 (.int .i64 (n : Int)) (.int .i64 (n : Int))).run Try.prog W = .ok (.slice (some ⟨W.heap.size, 0, none⟩) n n) (W.alloc (.cells (List.replicate n (Value.string ⟨#[]⟩)).toArray 9)) := by
  have hi : (Try.prog.info? 9).map (fun i => (i.zero, i.size, i.bytes)) = some (some (.string ⟨#[]⟩), 1, 16) := by kernel_rfl
  obtain ⟨i0, hi, hz0, hz1, hz2⟩ := info_parts hi
  have hr := run_make (P := Try.prog) W 40 9 i0 (.string ⟨#[]⟩) Try.underlying40 hi hz0 .i64 .i64 n n (by omega) (by omega) (by rw [hz2]; omega) (by omega)
  rw [hr]
  simp only [Int.toNat_natCast]
  have e : madeCells (Value.string ⟨#[]⟩).cells (n * i0.size) = (List.replicate n (Value.string ⟨#[]⟩)).toArray := by
    rw [hz1, Nat.mul_one]
    apply Array.ext
    · simp [madeCells]
    · intro i h1 h2
      simp [madeCells, Value.cells, Nat.mod_one]
  rw [e]

/-- A new slice that reads as the texts xs, in a block of its own. -/
def NewTexts (w : World) (xs : List ByteArray) (e : Ending) (w' : World) : Prop :=
  ∃ g, w.heap.size ≤ g ∧ e = .returned (.slice (some ⟨g, 0, none⟩) xs.length xs.length) ∧ w'.heap[g]? = some (.cells (xs.map Value.string).toArray 9 (0, 0)) ∧ Below w.heap.size w w'

set_option maxHeartbeats 1000000 in
set_option maxRecDepth 100000 in
theorem toS_any (w : World) (a : Option Addr) (cap : Nat) (xs : List ByteArray) (hx : Reads w a xs) (hm : xs.length ≤ 1048576) :
    Calls Try.prog 85 #[.slice a xs.length cap] w (NewTexts w xs) := by
  have hmk := make_texts xs.length hm
  have HX := Lib.hid hx
  clear hx
  go_enter Try.func85, Try.ntmps85
  go_wp2
  clear hmk
  have HF : Hid (Array.replicate xs.length (Value.string ⟨#[]⟩) = (filled xs 0).toArray) := by unfold Hid filled; simp
  rw [HF.out]
  have hb0 := heap_at_new w (.cells (filled xs 0).toArray 9)
  have hB0 : Below w.heap.size w (w.alloc (.cells (filled xs 0).toArray 9)) := (Below.refl _ _).alloc (Nat.le_refl _) _
  generalize w.alloc (.cells (filled xs 0).toArray 9) = w0 at hb0 hB0
  have HB0 := Lib.hid hb0
  clear hb0
  generalize hn : xs.length = n at *
  have HN := Lib.hid hn
  clear hn
  go_loopw [4] (fun i wr => ∃ k : Nat, k ≤ n ∧ i = .int .i64 k ∧ wr.heap[w.heap.size]? = some (.cells (filled xs k).toArray 9 (0, 0)) ∧ Below w.heap.size w wr) (fun i _ => n - (intOf i).toNat)
  case atStart => exact ⟨0, Nat.zero_le _, rfl, HB0.out, hB0⟩
  case round =>
    obtain ⟨k, hk, rfl, hb, hB⟩ := hrel
    by_cases hlt : k < n
    · have hk' : k < xs.length := by rw [HN.out]; exact hlt
      obtain ⟨y, rfl, hc⟩ := reads_below HX.out hB k hk'
      have hset := filled_set xs k hk'
      have hcell := cells_cell hb k (by rw [filled_length xs k (by omega)]; exact hk')
      have hfree := cells_free hb k
      have hb2 := cells_set hb k (.string xs[k])
      have HB := Lib.hid hb
      rw [hset] at hb2
      have HB2 := Lib.hid hb2
      clear hb hb2 hset
      generalize xs[k] = x at *
      generalize (filled xs k)[k]'(by rw [filled_length xs k (by omega)]; exact hk') = u at hcell
      go_wp2
      go_roundw
      case rel => exact ⟨k + 1, by omega, by go_num, HB2.out, hB.setCell (Nat.le_refl _) _⟩
      case measure => simp [intOf]; omega
    · obtain rfl : k = n := by omega
      go_wp2
      go_ret
      refine ⟨w.heap.size, Nat.le_refl _, by rw [HN.out]; rfl, ?_, hB⟩
      rw [hb, ← HN.out, filled_full]
end Go.Proofs.Ytcmpaccpdjcocaa
