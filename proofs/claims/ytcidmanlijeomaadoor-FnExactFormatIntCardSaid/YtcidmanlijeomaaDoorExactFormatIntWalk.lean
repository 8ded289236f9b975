/- What is proved here: the text of FnExactFormatInt returns true for every int. Condition: the table of the powers of ten is as listed. -/
import Derived.Test.YtcidmanlijeomaaDoorFormat
import Derived.Test.YtcidmanlijeomaaDoorItoaLaid
namespace Go.Proofs.YtcidmanlijeomaaDoor
open Go.RowKit

set_option maxHeartbeats 400000 in
set_option maxRecDepth 100000 in
theorem fnExactFormatInt_walk (n : Int) (h0 : -9223372036854775808 ≤ n) (h1 : n ≤ 9223372036854775807) (w : World) (htab : Lib.TabIs Tryd.prog w "internal/strconv.uint64pow10" .u64 Lib.pow10Tab) :
    Calls Tryd.prog 5 #[.int .i64 n] w fun e w' => e = .returned (.bool true) ∧ Below w.heap.size w w' := by
  go_enter Tryd.func5, Tryd.ntmps5
  go_wp2_with fail
  refine (spec_format n h0 h1 w).mono ?_
  rintro e w1 ⟨rfl, hb1⟩
  go_wp2_with fail
  refine (impl_format n h0 h1 w1 (Go.Joins.tab_stays (g := 0) (by kernel_rfl) htab hb1 (Nat.le_refl _))).mono ?_
  rintro e w2 ⟨rfl, hb2⟩
  go_wp2
  go_ret
  exact ⟨rfl, hb1.trans (hb2.mono hb1.size)⟩

end Go.Proofs.YtcidmanlijeomaaDoor
