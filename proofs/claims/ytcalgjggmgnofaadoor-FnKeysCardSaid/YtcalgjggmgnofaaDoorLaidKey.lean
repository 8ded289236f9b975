/- What is proved here: what the rows of FormatKey, FormatOccurrence and of the laws on keys and occurrences list gives the table of the powers of ten. No condition. -/
import Derived.Test.YtcalgjggmgnofaaDoorRows
import Derived.Test.YtcalgjggmgnofaaDoorTie
import Derived.ProofKit
import Derived.LaidMore
import Derived.OpenShut
import Derived.Stop.Joined
import Derived.Stop.LaidErr
import Derived.Lib.LaidTab
import Derived.Lib.ItoaNum
namespace Go.Proofs.YtcalgjggmgnofaaDoor
open Go.ChangeShapes Go.WideShapes Go.ChangeAt Go.RowKit

theorem tab_dataK : (Rows.laid_internal_strconv_uint64pow10 : DataW Unit) = Lib.tabData .u64 Lib.pow10Tab := by rfl

theorem tab_of_fnExactFormatKey {W : World} (h : laidMetH Tryd.prog Rows.fnExactFormatKeyRow.laid W) : Lib.TabIs Tryd.prog W "internal/strconv.uint64pow10" .u64 Lib.pow10Tab := by
  rw [MakeChecks.laidMetH_plain _ _ _ (by kernel_rfl)] at h
  have h2 := laidMet.tail (laidMet.tail h)
  rw [tab_dataK] at h2
  exact Lib.tabIs_of_head (g := 0) (t := 161) (e := 146) (n := 20) (by kernel_rfl) (by kernel_rfl) Tryd.underlying161 Tryd.underlying146 (by kernel_rfl) (by kernel_rfl) h2
theorem tab_of_fnExactFormatOccurrence {W : World} (h : laidMetH Tryd.prog Rows.fnExactFormatOccurrenceRow.laid W) : Lib.TabIs Tryd.prog W "internal/strconv.uint64pow10" .u64 Lib.pow10Tab := tab_of_fnExactFormatKey h
theorem tab_of_fnKeys {W : World} (h : laidMetH Tryd.prog Rows.fnKeysRow.laid W) : Lib.TabIs Tryd.prog W "internal/strconv.uint64pow10" .u64 Lib.pow10Tab := tab_of_fnExactFormatKey h
theorem tab_of_fnOccurrences {W : World} (h : laidMetH Tryd.prog Rows.fnOccurrencesRow.laid W) : Lib.TabIs Tryd.prog W "internal/strconv.uint64pow10" .u64 Lib.pow10Tab := tab_of_fnExactFormatKey h
end Go.Proofs.YtcalgjggmgnofaaDoor
