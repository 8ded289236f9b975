/- What is proved here: the text of FnExactParseNumber returns true for every string. Condition: the listed variables of Go's library are as listed. -/
import Derived.Test.YtcidmanlijeomaaDoorSpecParse
import Derived.Test.YtcidmanlijeomaaDoorImplParse
namespace Go.Proofs.YtcidmanlijeomaaDoor
open Go.RowKit

set_option maxRecDepth 100000 in
theorem fnExactParseNumber_walk (s : ByteArray) (hs : s.size ≤ maxLen) (w : World) (hL : LibVars w) :
    Calls Tryd.prog 6 #[.string s] w fun e w' => e = .returned (.bool true) ∧ Below w.heap.size w w' := by
  unfold maxLen at hs
  by_cases hbig : 1048576 < s.size
  · go_enter Tryd.func6, Tryd.ntmps6
    go_wp2
    go_ret
    exact ⟨rfl, Below.refl _ _⟩
  · have H1 := spec_ParseNumber s (by omega) w
    have H2 := fun w1 hL1 => impl_ParseNumber s (by omega) w1 hL1
    cases hR : readOf 0 999999 s.data.toList with
    | some n =>
      rw [hR] at H1
      simp only [hR] at H2
      go_enter Tryd.func6, Tryd.ntmps6
      go_wp2_with fail
      refine H1.mono ?_
      rintro e w1 ⟨he, hb1⟩
      obtain rfl : e = .returned (.tuple #[.int .i64 n, .bool true]) := he
      go_wp2_with fail
      refine (H2 w1 (hL.stays hb1)).mono ?_
      rintro e w2 ⟨he, hb2⟩
      obtain rfl : e = .returned (.tuple #[.int .i64 n, .bool true]) := he
      go_wp2
      go_ret
      exact ⟨rfl, hb1.trans (hb2.mono hb1.size)⟩
    | none =>
      rw [hR] at H1
      simp only [hR] at H2
      go_enter Tryd.func6, Tryd.ntmps6
      go_wp2_with fail
      refine H1.mono ?_
      rintro e w1 ⟨he, hb1⟩
      obtain rfl : e = .returned (.tuple #[.int .i64 0, .bool false]) := he
      go_wp2_with fail
      refine (H2 w1 (hL.stays hb1)).mono ?_
      rintro e w2 ⟨he, hb2⟩
      obtain rfl : e = .returned (.tuple #[.int .i64 0, .bool false]) := he
      go_wp2
      go_ret
      exact ⟨rfl, hb1.trans (hb2.mono hb1.size)⟩
end Go.Proofs.YtcidmanlijeomaaDoor
