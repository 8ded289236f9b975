/- What is proved here: the program's spacedSymbol. Condition: the number is an operator's. -/
import Derived.Test.YtdifefgigcjgeaaDoorOperators
import Derived.Test.YtdifefgigcjgeaaDoorCat
namespace Go.Proofs.YtdifefgigcjgeaaDoor.Ex
open Go.RowKit

set_option maxHeartbeats 1000000 in
set_option maxRecDepth 100000 in
theorem impl_sign (n : Int) (h : inOp n = true) (w : World) :
    Calls Tryd.prog 68 #[.int .i64 n] w fun e w' => e = .returned (.string (str (signE n))) ∧ Below w.heap.size w w' := by
  have HO := impl_operators w
  unfold opsV at HO
  rcases (inOp_iff n).1 h with rfl | rfl | rfl | rfl | rfl | rfl | rfl
  · have k1 : ∀ w, (Op.stringOp .add ⟨#[32]⟩ ⟨#[43]⟩).run Tryd.prog w = .ok (.string ⟨#[32, 43]⟩) w := fun w => cat [32] [43] (by simp) w
    have k2 : ∀ w, (Op.stringOp .add ⟨#[32, 43]⟩ ⟨#[32]⟩).run Tryd.prog w = .ok (.string ⟨#[32, 43, 32]⟩) w := fun w => cat [32, 43] [32] (by simp) w
    have hix := ops_at1
    unfold opsV at hix
    have hif := op_sign
    clear h 
    go_enter Tryd.func68, Tryd.ntmps68
    go_wp2_with fail
    refine HO.mono ?_
    rintro e w1 ⟨rfl, hb1⟩
    have HB1 := Lib.hid hb1
    clear hb1 HO
    go_wp2
    go_ret
    exact ⟨rfl, HB1.out⟩
  · have k1 : ∀ w, (Op.stringOp .add ⟨#[32]⟩ ⟨#[45]⟩).run Tryd.prog w = .ok (.string ⟨#[32, 45]⟩) w := fun w => cat [32] [45] (by simp) w
    have k2 : ∀ w, (Op.stringOp .add ⟨#[32, 45]⟩ ⟨#[32]⟩).run Tryd.prog w = .ok (.string ⟨#[32, 45, 32]⟩) w := fun w => cat [32, 45] [32] (by simp) w
    have hix := ops_at2
    unfold opsV at hix
    have hif := op_sign
    clear h 
    go_enter Tryd.func68, Tryd.ntmps68
    go_wp2_with fail
    refine HO.mono ?_
    rintro e w1 ⟨rfl, hb1⟩
    have HB1 := Lib.hid hb1
    clear hb1 HO
    go_wp2
    go_ret
    exact ⟨rfl, HB1.out⟩
  · have k1 : ∀ w, (Op.stringOp .add ⟨#[32]⟩ ⟨#[42]⟩).run Tryd.prog w = .ok (.string ⟨#[32, 42]⟩) w := fun w => cat [32] [42] (by simp) w
    have k2 : ∀ w, (Op.stringOp .add ⟨#[32, 42]⟩ ⟨#[32]⟩).run Tryd.prog w = .ok (.string ⟨#[32, 42, 32]⟩) w := fun w => cat [32, 42] [32] (by simp) w
    have hix := ops_at3
    unfold opsV at hix
    have hif := op_sign
    clear h 
    go_enter Tryd.func68, Tryd.ntmps68
    go_wp2_with fail
    refine HO.mono ?_
    rintro e w1 ⟨rfl, hb1⟩
    have HB1 := Lib.hid hb1
    clear hb1 HO
    go_wp2
    go_ret
    exact ⟨rfl, HB1.out⟩
  · have k1 : ∀ w, (Op.stringOp .add ⟨#[32]⟩ ⟨#[60]⟩).run Tryd.prog w = .ok (.string ⟨#[32, 60]⟩) w := fun w => cat [32] [60] (by simp) w
    have k2 : ∀ w, (Op.stringOp .add ⟨#[32, 60]⟩ ⟨#[32]⟩).run Tryd.prog w = .ok (.string ⟨#[32, 60, 32]⟩) w := fun w => cat [32, 60] [32] (by simp) w
    have hix := ops_at4
    unfold opsV at hix
    have hif := op_sign
    clear h 
    go_enter Tryd.func68, Tryd.ntmps68
    go_wp2_with fail
    refine HO.mono ?_
    rintro e w1 ⟨rfl, hb1⟩
    have HB1 := Lib.hid hb1
    clear hb1 HO
    go_wp2
    go_ret
    exact ⟨rfl, HB1.out⟩
  · have k1 : ∀ w, (Op.stringOp .add ⟨#[32]⟩ ⟨#[61, 61]⟩).run Tryd.prog w = .ok (.string ⟨#[32, 61, 61]⟩) w := fun w => cat [32] [61, 61] (by simp) w
    have k2 : ∀ w, (Op.stringOp .add ⟨#[32, 61, 61]⟩ ⟨#[32]⟩).run Tryd.prog w = .ok (.string ⟨#[32, 61, 61, 32]⟩) w := fun w => cat [32, 61, 61] [32] (by simp) w
    have hix := ops_at5
    unfold opsV at hix
    have hif := op_sign
    clear h 
    go_enter Tryd.func68, Tryd.ntmps68
    go_wp2_with fail
    refine HO.mono ?_
    rintro e w1 ⟨rfl, hb1⟩
    have HB1 := Lib.hid hb1
    clear hb1 HO
    go_wp2
    go_ret
    exact ⟨rfl, HB1.out⟩
  · have k1 : ∀ w, (Op.stringOp .add ⟨#[32]⟩ ⟨#[38]⟩).run Tryd.prog w = .ok (.string ⟨#[32, 38]⟩) w := fun w => cat [32] [38] (by simp) w
    have k2 : ∀ w, (Op.stringOp .add ⟨#[32, 38]⟩ ⟨#[32]⟩).run Tryd.prog w = .ok (.string ⟨#[32, 38, 32]⟩) w := fun w => cat [32, 38] [32] (by simp) w
    have hix := ops_at6
    unfold opsV at hix
    have hif := op_sign
    clear h 
    go_enter Tryd.func68, Tryd.ntmps68
    go_wp2_with fail
    refine HO.mono ?_
    rintro e w1 ⟨rfl, hb1⟩
    have HB1 := Lib.hid hb1
    clear hb1 HO
    go_wp2
    go_ret
    exact ⟨rfl, HB1.out⟩
  · have k1 : ∀ w, (Op.stringOp .add ⟨#[32]⟩ ⟨#[124]⟩).run Tryd.prog w = .ok (.string ⟨#[32, 124]⟩) w := fun w => cat [32] [124] (by simp) w
    have k2 : ∀ w, (Op.stringOp .add ⟨#[32, 124]⟩ ⟨#[32]⟩).run Tryd.prog w = .ok (.string ⟨#[32, 124, 32]⟩) w := fun w => cat [32, 124] [32] (by simp) w
    have hix := ops_at7
    unfold opsV at hix
    have hif := op_sign
    clear h 
    go_enter Tryd.func68, Tryd.ntmps68
    go_wp2_with fail
    refine HO.mono ?_
    rintro e w1 ⟨rfl, hb1⟩
    have HB1 := Lib.hid hb1
    clear hb1 HO
    go_wp2
    go_ret
    exact ⟨rfl, HB1.out⟩
end Go.Proofs.YtdifefgigcjgeaaDoor.Ex
