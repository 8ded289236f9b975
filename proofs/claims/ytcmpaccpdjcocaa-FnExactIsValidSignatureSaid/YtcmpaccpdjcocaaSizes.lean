/- What is proved here: the laws' bound on a list of texts (szStringS), from any number of places on. Condition: the slice reads as the list. -/
import Derived.Test.YtcmpaccpdjcocaaTextsMake
namespace Go.Proofs.Ytcmpaccpdjcocaa
open Go.RowKit

/-- What szStringS returns, from L on. -/
def szFrom (L : Nat) (xs : List ByteArray) : Int := if xs.length + total xs ≤ L then (L : Int) - (xs.length : Int) - (total xs : Int) else -1

set_option maxHeartbeats 1000000 in
set_option maxRecDepth 100000 in
theorem sz_from (L : Nat) (hL : L ≤ 1048576) (w : World) (a : Option Addr) (cap : Nat) (xs : List ByteArray) (hx : Reads w a xs) (hm : xs.length ≤ maxLen) (hs : ∀ x ∈ xs, x.size ≤ maxLen) :
    Calls Try.prog 84 #[.slice a xs.length cap, .int .i64 (L : Int)] w fun e w' => e = .returned (.int .i64 (szFrom L xs)) ∧ w = w' := by
  unfold maxLen at hm hs
  have HX := Lib.hid hx
  have HS := Lib.hid hs
  clear hx hs
  generalize hn : xs.length = n at *
  have HN := Lib.hid hn
  clear hn
  by_cases h0 : L < n
  · have HE : Hid (szFrom L xs = -1) := by unfold Hid szFrom; rw [HN.out]; exact if_neg (by omega)
    go_enter Try.func84, Try.ntmps84
    go_wp2
    go_ret
    exact ⟨by rw [HE.out]; rfl, rfl⟩
  · go_enter Try.func84, Try.ntmps84
    go_wp2
    go_loop [1, 5] (fun l i => ∃ (k : Nat) (m : Int), k ≤ n ∧ i = .int .i64 k ∧ l = .int .i64 m ∧ 0 ≤ m ∧ m ≤ 1048576 ∧ m = (L : Int) - (n : Int) - (total (xs.take k) : Int)) (fun _ i => n - (intOf i).toNat)
    case atStart =>
      exact ⟨0, (L : Int) - (n : Int), Nat.zero_le _, rfl, rfl, by omega, by omega, by simp [total]⟩
    case round =>
      obtain ⟨k, m, hk, rfl, rfl, m0, m1, hm2⟩ := hrel
      by_cases hlt : k < n
      · obtain ⟨y, rfl, hc⟩ := HX.out k (by rw [HN.out]; exact hlt)
        have ht := total_take xs k (by rw [HN.out]; exact hlt)
        have hle := total_take_le xs (k + 1)
        have hsz := HS.out _ (List.getElem_mem (l := xs) (n := k) (by rw [HN.out]; exact hlt))
        generalize xs[k]'(by rw [HN.out]; exact hlt) = x at hc ht hsz
        have HT := Lib.hid ht
        have HM := Lib.hid hm2
        clear ht hm2
        by_cases hbad : m - (x.size : Int) < 0
        · have HE : Hid (szFrom L xs = -1) := by
            have := HT.out
            have := HM.out
            unfold Hid szFrom; rw [HN.out]; exact if_neg (by omega)
          go_wp2
          go_ret
          exact ⟨by rw [HE.out]; rfl, rfl⟩
        · go_wp2
          go_round
          case rel =>
            have := HT.out
            have := HM.out
            exact ⟨k + 1, m - x.size, by omega, by go_num, rfl, by omega, by omega, by omega⟩
          case measure => simp [intOf]; omega
      · obtain rfl : k = n := by omega
        have HE : Hid (szFrom L xs = m) := by
          have e : xs.take k = xs := List.take_of_length_le (by rw [HN.out]; exact Nat.le_refl _)
          rw [e] at hm2
          unfold Hid szFrom; rw [HN.out, if_pos (by omega)]; omega
        clear hm2
        go_wp2
        go_ret
        exact ⟨by rw [HE.out]; rfl, rfl⟩
end Go.Proofs.Ytcmpaccpdjcocaa
