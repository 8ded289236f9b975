/- What is proved here: what the row of FormatExpr lists gives the table of the powers of ten. No condition. -/
import Derived.Test.YtdifefgigcjgeaaDoorRows
import Derived.Test.YtdifefgigcjgeaaDoorTie
import Derived.ProofKit
import Derived.LaidMore
import Derived.OpenShut
import Derived.Stop.Joined
import Derived.Stop.LaidErr
import Derived.Lib.LaidTab
import Derived.Lib.ItoaNum
namespace Go.Proofs.YtdifefgigcjgeaaDoor
open Go.ChangeShapes Go.WideShapes Go.ChangeAt Go.RowKit


theorem tab_data : (Rows.laid_internal_strconv_uint64pow10 : DataW Unit) = Lib.tabData .u64 Lib.pow10Tab := by rfl

theorem tab_of_fnExactFormatExpr {W : World} (h : laidMetH Tryd.prog Rows.fnExactFormatExprRow.laid W) : Lib.TabIs Tryd.prog W "internal/strconv.uint64pow10" .u64 Lib.pow10Tab := by
  rw [MakeChecks.laidMetH_plain _ _ _ (by kernel_rfl)] at h
  have h2 := laidMet.tail (laidMet.tail h)
  rw [tab_data] at h2
  exact Lib.tabIs_of_head (g := 1) (t := 182) (e := 168) (n := 20) (by kernel_rfl) (by kernel_rfl) Tryd.underlying182 Tryd.underlying168 (by kernel_rfl) (by kernel_rfl) h2
end Go.Proofs.YtdifefgigcjgeaaDoor
