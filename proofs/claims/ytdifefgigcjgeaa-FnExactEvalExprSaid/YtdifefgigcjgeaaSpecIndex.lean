/- What is proved here: the model's IndexOf (package spec) gives the first index. Condition: the slice reads as the list. -/
import Derived.Test.YtdifefgigcjgeaaReads
import Derived.Test.YtdifefgigcjgeaaBl
import Derived.Test.YtdifefgigcjgeaaIdx
import Derived.Lib.SlicesS
namespace Go.Proofs.Ytdifefgigcjgeaa
open Go.RowKit

set_option maxHeartbeats 1000000 in
set_option maxRecDepth 100000 in
theorem spec_index (w : World) (a : Option Addr) (cap : Nat) (xs : List ByteArray) (s : ByteArray) (hx : Reads w a xs) (hm : xs.length ≤ maxLen) :
    Calls Try.prog 108 #[.slice a xs.length cap, .string s] w fun e w' => e = .returned (.int .i64 (Lib.idxOfS xs s)) ∧ w' = w := by
  unfold maxLen at hm
  have HX := Lib.hid hx
  clear hx
  generalize hn : xs.length = n at *
  have HN := Lib.hid hn
  clear hn
  go_enter Try.func108, Try.ntmps108
  go_wp2
  go_loop [5] (fun i => ∃ (k : Nat), k ≤ n ∧ i = .int .i64 k ∧ ∀ j (hj : j < xs.length), j < k → xs[j] ≠ s) (fun i => n - (intOf i).toNat)
  case atStart => exact ⟨0, Nat.zero_le _, rfl, fun j _ h => by omega⟩
  case round =>
    obtain ⟨k, hk, rfl, hne⟩ := hrel
    have HNE := Lib.hid hne
    clear hne
    by_cases hlt : k < n
    · have hk' : k < xs.length := by rw [HN.out]; exact hlt
      obtain ⟨y, rfl, hc⟩ := HX.out k hk'
      obtain ⟨x, hxe⟩ : ∃ x, xs[k] = x := ⟨_, rfl⟩
      rw [hxe] at hc
      have HXE := Lib.hid hxe
      clear hxe
      by_cases he : x = s
      · subst he
        have hb : (x.toList == x.toList) = true := by simp
        go_wp2
        go_ret
        refine ⟨?_, rfl⟩
        rw [idx_hit xs k x hk' HXE.out HNE.out]
        rfl
      · have hb : (x.toList == s.toList) = false := (Lib.bytes_beq_false_iff _ _).2 he
        have HE := Lib.hid he
        clear he
        go_wp2
        go_round
        case rel =>
          refine ⟨k + 1, by omega, by go_num, fun j hj h => ?_⟩
          rcases Nat.lt_or_ge j k with h3 | h3
          · exact HNE.out j hj h3
          · obtain rfl : j = k := by omega
            rw [HXE.out]
            exact HE.out
        case measure => simp [intOf]; omega
    · go_wp2
      go_ret
      refine ⟨?_, rfl⟩
      rw [idx_miss xs s (fun j hj => HNE.out j hj (by have := HN.out; omega))]
      rfl

end Go.Proofs.Ytdifefgigcjgeaa
