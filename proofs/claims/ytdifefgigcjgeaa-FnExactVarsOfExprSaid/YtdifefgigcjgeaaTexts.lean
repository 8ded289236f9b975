/- What is proved here: the laws' helpers on lists of texts (eqStringS) do what they say. Condition: the slice reads as the list. -/
import Derived.Test.YtdifefgigcjgeaaReads
namespace Go.Proofs.Ytdifefgigcjgeaa
open Go.RowKit

set_option maxHeartbeats 1000000 in
set_option maxRecDepth 100000 in
/-- eqStringS at two slices that read alike. -/
theorem eqS_same (w : World) (a b : Option Addr) (c d : Nat) (xs : List ByteArray) (hx : Reads w a xs) (hy : Reads w b xs) (hm : xs.length ≤ maxLen) :
    Calls Try.prog 20 #[.slice a xs.length c, .slice b xs.length d] w fun e w' => e = .returned (.bool true) ∧ ∃ n, w' = w.drewN n := by
  unfold maxLen at hm
  have HX := Lib.hid hx
  have HY := Lib.hid hy
  clear hx hy
  generalize hn : xs.length = n at *
  have HN := Lib.hid hn
  clear hn
  go_enter Try.func20, Try.ntmps20
  go_wp2
  go_loopw [5] (fun i wr => ∃ (k q : Nat), k ≤ n ∧ i = .int .i64 k ∧ wr = w.drewN q) (fun i _ => n - (intOf i).toNat)
  case atStart => exact ⟨0, 0, Nat.zero_le _, rfl, rfl⟩
  case round =>
    obtain ⟨k, q, hk, rfl, rfl⟩ := hrel
    by_cases hlt : k < n
    · obtain ⟨y, rfl, hc⟩ := HX.out k (by rw [HN.out]; exact hlt)
      obtain ⟨z, rfl, hd⟩ := HY.out k (by rw [HN.out]; exact hlt)
      generalize xs[k]'(by rw [HN.out]; exact hlt) = x at hc hd
      go_wp2
      go_quiet (fail)
      go_wp2
      go_roundw
      case rel => exact ⟨k + 1, _, by omega, by go_num, rfl⟩
      case measure => simp [intOf]; omega
    · go_wp2
      go_ret
      exact ⟨rfl, q, rfl⟩

end Go.Proofs.Ytdifefgigcjgeaa
