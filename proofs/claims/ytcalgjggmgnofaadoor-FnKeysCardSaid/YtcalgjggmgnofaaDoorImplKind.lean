/- What is proved here: the program's kindOf makes of a value what its kind says. Condition: none. -/
import Derived.Test.YtcalgjggmgnofaaDoorTreeText
import Derived.Test.YtcalgjggmgnofaaDoorTreeCells
namespace Go.Proofs.YtcalgjggmgnofaaDoor
open Go.RowKit

theorem zero_int (w : World) : (zeroValue 69).run Tryd.prog w = .ok (.agg #[.int .i64 0]) w := by kernel_rfl
theorem zero_text (w : World) : (zeroValue 71).run Tryd.prog w = .ok (.agg #[.string ⟨#[]⟩]) w := by kernel_rfl
theorem zero_con (w : World) : (zeroValue 73).run Tryd.prog w = .ok (.agg #[.string ⟨#[]⟩, .slice none 0 0]) w := by kernel_rfl

/-- A value as one of the three kinds. -/
def kindV (k n : Int) (t : ByteArray) (p : Option Addr) (l c : Nat) : Value :=
  if k = 1 then .iface 69 (.agg #[.int .i64 n]) else if k = 2 then .iface 71 (.agg #[.string t]) else if k = 3 then .iface 73 (.agg #[.string t, .slice p l c]) else .nilIface

set_option maxHeartbeats 1000000 in
set_option maxRecDepth 100000 in
theorem impl_kind (w : World) (k n : Int) (t : ByteArray) (p : Option Addr) (l c : Nat) :
    Calls Tryd.prog 46 #[.agg #[.int .i64 k, .int .i64 n, .string t, .slice p l c]] w fun e w' => e = .returned (kindV k n t p l c) ∧ Below w.heap.size w w' := by
  have HB := Lib.hid ((Below.refl w.heap.size w).alloc (Nat.le_refl _) (.cells #[.int .i64 k, .int .i64 n, .string t, .slice p l c] 26))
  by_cases h1 : k = 1
  · subst h1
    go_enter Tryd.func46, Tryd.ntmps46
    go_wp2
    go_ret
    exact ⟨rfl, HB.out⟩
  · have e1 : (k == 1) = false := by simpa using h1
    by_cases h2 : k = 2
    · subst h2
      go_enter Tryd.func46, Tryd.ntmps46
      go_wp2
      go_ret
      exact ⟨rfl, HB.out⟩
    · have e2 : (k == 2) = false := by simpa using h2
      by_cases h3 : k = 3
      · subst h3
        go_enter Tryd.func46, Tryd.ntmps46
        go_wp2
        go_ret
        exact ⟨rfl, HB.out⟩
      · have e3 : (k == 3) = false := by simpa using h3
        have HK : Hid (kindV k n t p l c = .nilIface) := by unfold Hid kindV; rw [if_neg h1, if_neg h2, if_neg h3]
        clear h1 h2 h3
        go_enter Tryd.func46, Tryd.ntmps46
        go_wp2
        go_ret
        exact ⟨by rw [HK.out]; rfl, HB.out⟩
end Go.Proofs.YtcalgjggmgnofaaDoor
