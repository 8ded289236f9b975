/- What is proved here: keys: the model's and the program's KeyOf. Condition: none. -/
import Derived.Test.YtcalgjggmgnofaaDoorImplKind
import Derived.Test.YtcalgjggmgnofaaDoorKeySmall
import Derived.Test.YtcalgjggmgnofaaDoorAssert
import Derived.Laws.Rows
namespace Go.Proofs.YtcalgjggmgnofaaDoor
open Go.RowKit

/-- A key as a value. -/
def keyV (k n : Int) (t : ByteArray) : Value := .agg #[.int .i64 k, .int .i64 n, .string t]
/-- The key of a node. -/
def keyOfV (k n : Int) (t : ByteArray) : Value := if k = 1 then keyV 1 n ⟨#[]⟩ else if k = 2 then keyV 2 0 t else if k = 3 then keyV 3 0 t else keyV 0 0 ⟨#[]⟩

theorem keyOf_some (k n : Int) (t : ByteArray) : ∃ k' n' t', keyOfV k n t = keyV k' n' t' := by
  unfold keyOfV
  split
  · exact ⟨_, _, _, rfl⟩
  · split
    · exact ⟨_, _, _, rfl⟩
    · split
      · exact ⟨_, _, _, rfl⟩
      · exact ⟨_, _, _, rfl⟩

set_option maxHeartbeats 1000000 in
set_option maxRecDepth 100000 in
theorem spec_keyOf (w : World) (k n : Int) (t : ByteArray) (p : Option Addr) (l c : Nat) :
    Calls Tryd.prog 23 #[.agg #[.int .i64 k, .int .i64 n, .string t, .slice p l c]] w fun e w' => e = .returned (keyOfV k n t) ∧ Below w.heap.size w w' := by
  have H := fun a b s => two_above w (.cells #[.int .i64 k, .int .i64 n, .string t, .slice p l c] 26) (.cells #[.int .i64 a, .int .i64 b, .string s] 40)
  have HH := Lib.hid H
  clear H
  by_cases h1 : k = 1
  · subst h1
    have HK : Hid (keyOfV 1 n t = keyV 1 n ⟨#[]⟩) := by unfold Hid keyOfV; rw [if_pos rfl]
    go_enter Tryd.func23, Tryd.ntmps23
    go_wp2
    refine bodyPost_ret (results_cell_row rfl _ _ (w.heap.size + 1) _ _ _ _ rfl (HH.out 1 n ⟨#[]⟩).1 Tryd.underlying40 rfl (by kernel_rfl)) rfl ?_
    exact ⟨by rw [HK.out]; rfl, (HH.out 1 n ⟨#[]⟩).2⟩
  · have e1 : (k == 1) = false := by simpa using h1
    by_cases h2 : k = 2
    · subst h2
      have HK : Hid (keyOfV 2 n t = keyV 2 0 t) := by unfold Hid keyOfV; rw [if_neg (by decide), if_pos rfl]
      go_enter Tryd.func23, Tryd.ntmps23
      go_wp2
      refine bodyPost_ret (results_cell_row rfl _ _ (w.heap.size + 1) _ _ _ _ rfl (HH.out 2 0 t).1 Tryd.underlying40 rfl (by kernel_rfl)) rfl ?_
      exact ⟨by rw [HK.out]; rfl, (HH.out 2 0 t).2⟩
    · have e2 : (k == 2) = false := by simpa using h2
      by_cases h3 : k = 3
      · subst h3
        have HK : Hid (keyOfV 3 n t = keyV 3 0 t) := by unfold Hid keyOfV; rw [if_neg (by decide), if_neg (by decide), if_pos rfl]
        go_enter Tryd.func23, Tryd.ntmps23
        go_wp2
        refine bodyPost_ret (results_cell_row rfl _ _ (w.heap.size + 1) _ _ _ _ rfl (HH.out 3 0 t).1 Tryd.underlying40 rfl (by kernel_rfl)) rfl ?_
        exact ⟨by rw [HK.out]; rfl, (HH.out 3 0 t).2⟩
      · have e3 : (k == 3) = false := by simpa using h3
        have HK : Hid (keyOfV k n t = keyV 0 0 ⟨#[]⟩) := by unfold Hid keyOfV; rw [if_neg h1, if_neg h2, if_neg h3]
        clear h1 h2 h3
        go_enter Tryd.func23, Tryd.ntmps23
        go_wp2
        refine bodyPost_ret (results_cell_row rfl _ _ (w.heap.size + 1) _ _ _ _ rfl (HH.out 0 0 ⟨#[]⟩).1 Tryd.underlying40 rfl (by kernel_rfl)) rfl ?_
        exact ⟨by rw [HK.out]; rfl, (HH.out 0 0 ⟨#[]⟩).2⟩

end Go.Proofs.YtcalgjggmgnofaaDoor
