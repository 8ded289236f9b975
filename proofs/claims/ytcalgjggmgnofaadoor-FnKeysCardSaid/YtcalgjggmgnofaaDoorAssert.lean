/- What is proved here: the model's type assertion with two results, at an interface value whose type is known. No condition. -/
import Derived.Test.YtcalgjggmgnofaaDoorProg
import Derived.WalkKit
import Derived.Below
namespace Go.Proofs.YtcalgjggmgnofaaDoor
open Go.RowKit

theorem assert_yes {P : Program} {T X : TypeId} {fs : Array Field} (ht : P.underlying T = some (.struct fs)) (v : Value) (w : World) : (Instr.typeAssert (.iface T v) X T true).run P w = .ok (.tuple #[v, .bool true]) w := by
  simp [Instr.typeAssert, run_underlying ht, Result.andThen]
theorem assert_no {P : Program} {T T2 X : TypeId} {fs : Array Field} {z : Value} (ht : P.underlying T = some (.struct fs)) (hz : ∀ w, (zeroValue T).run P w = .ok z w) (hne : T2 ≠ T) (v : Value) (w : World) : (Instr.typeAssert (.iface T2 v) X T true).run P w = .ok (.tuple #[z, .bool false]) w := by
  simp [Instr.typeAssert, run_underlying ht, Result.andThen, hz, hne]
theorem assert_nil {P : Program} {T X : TypeId} {fs : Array Field} {z : Value} (ht : P.underlying T = some (.struct fs)) (hz : ∀ w, (zeroValue T).run P w = .ok z w) (w : World) : (Instr.typeAssert .nilIface X T true).run P w = .ok (.tuple #[z, .bool false]) w := by
  simp [Instr.typeAssert, run_underlying ht, Result.andThen, hz]
end Go.Proofs.YtcalgjggmgnofaaDoor
