/- What is proved here: the model's ParseNumber and ParseInt (package spec) answer by the integers whose numeral the string is, within their bounds. Condition: the string fits. -/
import Derived.Test.YtcidmanlijeomaaDoorSpecRead
namespace Go.Proofs.YtcidmanlijeomaaDoor
open Go.RowKit

set_option maxRecDepth 100000 in
theorem spec_ParseInt (s : ByteArray) (hs : s.size ≤ 1048576) (w : World) :
    Calls Tryd.prog 21 #[.string s] w fun e w' => e = readEnd (readOf (-999999999999) 999999999999 s.data.toList) ∧ Below w.heap.size w w' := by
  rw [← specRead_twelve]
  have hs' : s.size ≤ maxLen := by unfold maxLen; omega
  have H := spec_read s 12 (by omega) (by omega) hs' w
  cases hR : specRead 12 s.data.toList with
  | some n =>
    rw [hR] at H
    go_enter Tryd.func21, Tryd.ntmps21
    go_wp2_with fail
    refine H.mono ?_
    rintro e w1 ⟨he, hb⟩
    obtain rfl : e = .returned (.tuple #[.int .i64 n, .bool true]) := he
    go_wp2
    go_ret2
    exact ⟨rfl, hb⟩
  | none =>
    rw [hR] at H
    go_enter Tryd.func21, Tryd.ntmps21
    go_wp2_with fail
    refine H.mono ?_
    rintro e w1 ⟨he, hb⟩
    obtain rfl : e = .returned (.tuple #[.int .i64 0, .bool false]) := he
    go_wp2
    go_ret2
    exact ⟨rfl, hb⟩

set_option maxRecDepth 100000 in
theorem spec_ParseNumber (s : ByteArray) (hs : s.size ≤ 1048576) (w : World) :
    Calls Tryd.prog 16 #[.string s] w fun e w' => e = readEnd (readOf 0 999999 s.data.toList) ∧ Below w.heap.size w w' := by
  have hs' : s.size ≤ maxLen := by unfold maxLen; omega
  have H := spec_read s 6 (by omega) (by omega) hs' w
  cases hR : specRead 6 s.data.toList with
  | some n =>
    rw [hR] at H
    by_cases hn : n < 0
    · rw [specRead_six_neg hR hn]
      go_enter Tryd.func16, Tryd.ntmps16
      go_wp2_with fail
      refine H.mono ?_
      rintro e w1 ⟨he, hb⟩
      obtain rfl : e = .returned (.tuple #[.int .i64 n, .bool true]) := he
      go_wp2
      go_ret2
      exact ⟨rfl, hb⟩
    · rw [specRead_six_pos hR (by omega)]
      go_enter Tryd.func16, Tryd.ntmps16
      go_wp2_with fail
      refine H.mono ?_
      rintro e w1 ⟨he, hb⟩
      obtain rfl : e = .returned (.tuple #[.int .i64 n, .bool true]) := he
      go_wp2
      go_ret2
      exact ⟨rfl, hb⟩
  | none =>
    rw [hR] at H
    rw [specRead_six_none hR]
    go_enter Tryd.func16, Tryd.ntmps16
    go_wp2_with fail
    refine H.mono ?_
    rintro e w1 ⟨he, hb⟩
    obtain rfl : e = .returned (.tuple #[.int .i64 0, .bool false]) := he
    go_wp2
    go_ret2
    exact ⟨rfl, hb⟩
end Go.Proofs.YtcidmanlijeomaaDoor
