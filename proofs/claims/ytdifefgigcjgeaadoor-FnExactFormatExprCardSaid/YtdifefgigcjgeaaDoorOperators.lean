/- What is proved here: the program's list of operators, and what stands between an operator's two. No condition. -/
import Derived.Test.YtdifefgigcjgeaaDoorExprText
import Derived.Test.YtdifefgigcjgeaaDoorTreeCells
import Derived.Test.YtdifefgigcjgeaaDoorResults
import Derived.Laws.EntriesVeiled
namespace Go.Proofs.YtdifefgigcjgeaaDoor.Ex
open Go.RowKit

def opsV : Array Value := #[.string ⟨#[]⟩, .nilFunc, .string ⟨#[43]⟩, .func (.func 126) #[] #[], .string ⟨#[45]⟩, .func (.func 127) #[] #[], .string ⟨#[42]⟩, .func (.func 128) #[] #[], .string ⟨#[60]⟩, .func (.func 129) #[] #[], .string ⟨#[61, 61]⟩, .func (.func 131) #[] #[], .string ⟨#[38]⟩, .func (.func 132) #[] #[], .string ⟨#[124]⟩, .func (.func 133) #[] #[]]
set_option maxHeartbeats 1000000 in
set_option maxRecDepth 100000 in
theorem impl_operators (w : World) :
    Calls Tryd.prog 99 #[] w fun e w' => e = .returned (.agg opsV) ∧ Below w.heap.size w w' := by
  go_enter Tryd.func99, Tryd.ntmps99
  go_wp2
  refine bodyPost_ret (results_cell_row rfl _ _ w.heap.size _ _ _ _ rfl (heap_at_new w (.cells opsV 118)) Tryd.underlying118 rfl (by kernel_rfl)) rfl ?_
  exact ⟨rfl, (Below.refl _ _).alloc (Nat.le_refl _) _⟩
theorem ops_at1 (w : World) : (Instr.index 118 (.agg opsV) (.int .i64 1)).run Tryd.prog w = .ok (.agg #[.string ⟨#[43]⟩, .func (.func 126) #[] #[]]) w := by kernel_rfl
theorem ops_at2 (w : World) : (Instr.index 118 (.agg opsV) (.int .i64 2)).run Tryd.prog w = .ok (.agg #[.string ⟨#[45]⟩, .func (.func 127) #[] #[]]) w := by kernel_rfl
theorem ops_at3 (w : World) : (Instr.index 118 (.agg opsV) (.int .i64 3)).run Tryd.prog w = .ok (.agg #[.string ⟨#[42]⟩, .func (.func 128) #[] #[]]) w := by kernel_rfl
theorem ops_at4 (w : World) : (Instr.index 118 (.agg opsV) (.int .i64 4)).run Tryd.prog w = .ok (.agg #[.string ⟨#[60]⟩, .func (.func 129) #[] #[]]) w := by kernel_rfl
theorem ops_at5 (w : World) : (Instr.index 118 (.agg opsV) (.int .i64 5)).run Tryd.prog w = .ok (.agg #[.string ⟨#[61, 61]⟩, .func (.func 131) #[] #[]]) w := by kernel_rfl
theorem ops_at6 (w : World) : (Instr.index 118 (.agg opsV) (.int .i64 6)).run Tryd.prog w = .ok (.agg #[.string ⟨#[38]⟩, .func (.func 132) #[] #[]]) w := by kernel_rfl
theorem ops_at7 (w : World) : (Instr.index 118 (.agg opsV) (.int .i64 7)).run Tryd.prog w = .ok (.agg #[.string ⟨#[124]⟩, .func (.func 133) #[] #[]]) w := by kernel_rfl
theorem op_sign (s : ByteArray) (f : Value) (w : World) : (Instr.field 117 (.agg #[.string s, f]) 0).run Tryd.prog w = .ok (.string s) w := by kernel_rfl
theorem op_func (s : ByteArray) (f : FuncId) (w : World) : (Instr.field 117 (.agg #[.string s, .func (.func f) #[] #[]]) 1).run Tryd.prog w = .ok (.func (.func f) #[] #[]) w := by kernel_rfl
end Go.Proofs.YtdifefgigcjgeaaDoor.Ex
