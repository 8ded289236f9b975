/- What is proved here: two texts put together. Condition: at most 2^40 bytes. -/
import Derived.Test.YtdifefgigcjgeaaDoorStr
import Derived.Laws.IdiomStrings
import Derived.Laws.Concat
namespace Go.Proofs.YtdifefgigcjgeaaDoor
open Go.RowKit

theorem cat (a b : List UInt8) (h : a.length + b.length ≤ 1099511627776) (w : World) : (Op.stringOp .add (str a) (str b)).run Tryd.prog w = .ok (.string (str (a ++ b))) w := by
  rw [run_string_add_sum w _ _ (by rw [str_size, str_size]; omega), str_append]

end Go.Proofs.YtdifefgigcjgeaaDoor
