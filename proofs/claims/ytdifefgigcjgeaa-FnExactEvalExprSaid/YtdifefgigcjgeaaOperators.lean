/- What is proved here: the program's list of operators, and what stands between an operator's two. No condition. -/
import Derived.Test.YtdifefgigcjgeaaExprText
import Derived.Test.YtdifefgigcjgeaaTreeCells
import Derived.Test.YtdifefgigcjgeaaResults
import Derived.Laws.EntriesVeiled
namespace Go.Proofs.Ytdifefgigcjgeaa.Ex
open Go.RowKit

def opsV : Array Value := #[.string ⟨#[]⟩, .nilFunc, .string ⟨#[43]⟩, .func (.func 98) #[] #[], .string ⟨#[45]⟩, .func (.func 99) #[] #[], .string ⟨#[42]⟩, .func (.func 100) #[] #[], .string ⟨#[60]⟩, .func (.func 101) #[] #[], .string ⟨#[61, 61]⟩, .func (.func 102) #[] #[], .string ⟨#[38]⟩, .func (.func 103) #[] #[], .string ⟨#[124]⟩, .func (.func 104) #[] #[]]
set_option maxHeartbeats 1000000 in
set_option maxRecDepth 100000 in
theorem impl_operators (w : World) :
    Calls Try.prog 84 #[] w fun e w' => e = .returned (.agg opsV) ∧ Below w.heap.size w w' := by
  go_enter Try.func84, Try.ntmps84
  go_wp2
  refine bodyPost_ret (results_cell_row rfl _ _ w.heap.size _ _ _ _ rfl (heap_at_new w (.cells opsV 113)) Try.underlying113 rfl (by kernel_rfl)) rfl ?_
  exact ⟨rfl, (Below.refl _ _).alloc (Nat.le_refl _) _⟩
theorem ops_at1 (w : World) : (Instr.index 113 (.agg opsV) (.int .i64 1)).run Try.prog w = .ok (.agg #[.string ⟨#[43]⟩, .func (.func 98) #[] #[]]) w := by kernel_rfl
theorem ops_at2 (w : World) : (Instr.index 113 (.agg opsV) (.int .i64 2)).run Try.prog w = .ok (.agg #[.string ⟨#[45]⟩, .func (.func 99) #[] #[]]) w := by kernel_rfl
theorem ops_at3 (w : World) : (Instr.index 113 (.agg opsV) (.int .i64 3)).run Try.prog w = .ok (.agg #[.string ⟨#[42]⟩, .func (.func 100) #[] #[]]) w := by kernel_rfl
theorem ops_at4 (w : World) : (Instr.index 113 (.agg opsV) (.int .i64 4)).run Try.prog w = .ok (.agg #[.string ⟨#[60]⟩, .func (.func 101) #[] #[]]) w := by kernel_rfl
theorem ops_at5 (w : World) : (Instr.index 113 (.agg opsV) (.int .i64 5)).run Try.prog w = .ok (.agg #[.string ⟨#[61, 61]⟩, .func (.func 102) #[] #[]]) w := by kernel_rfl
theorem ops_at6 (w : World) : (Instr.index 113 (.agg opsV) (.int .i64 6)).run Try.prog w = .ok (.agg #[.string ⟨#[38]⟩, .func (.func 103) #[] #[]]) w := by kernel_rfl
theorem ops_at7 (w : World) : (Instr.index 113 (.agg opsV) (.int .i64 7)).run Try.prog w = .ok (.agg #[.string ⟨#[124]⟩, .func (.func 104) #[] #[]]) w := by kernel_rfl
theorem op_sign (s : ByteArray) (f : Value) (w : World) : (Instr.field 112 (.agg #[.string s, f]) 0).run Try.prog w = .ok (.string s) w := by kernel_rfl
theorem op_func (s : ByteArray) (f : FuncId) (w : World) : (Instr.field 112 (.agg #[.string s, .func (.func f) #[] #[]]) 1).run Try.prog w = .ok (.func (.func f) #[] #[]) w := by kernel_rfl
end Go.Proofs.Ytdifefgigcjgeaa.Ex
