/- What is proved here: the text of FnExactFormatKey returns true for every key. Condition: the table of the powers of ten is as listed. -/
import Derived.Test.YtcalgjggmgnofaaDoorFormatKey
import Derived.Test.YtcalgjggmgnofaaDoorKeySmall
namespace Go.Proofs.YtcalgjggmgnofaaDoor
open Go.RowKit

set_option maxHeartbeats 1000000 in
set_option maxRecDepth 100000 in
theorem fnExactFormatKey_walk (k n : Int) (t : ByteArray) (w : World) (hn : -9223372036854775808 ≤ n ∧ n ≤ 9223372036854775807) (ht : t.size ≤ maxLen) (htab : Lib.TabIs Tryd.prog w "internal/strconv.uint64pow10" .u64 Lib.pow10Tab) :
    Calls Tryd.prog 7 #[.agg #[.int .i64 k, .int .i64 n, .string t]] w fun e w' => e = .returned (.bool true) ∧ Below w.heap.size w w' := by
  have hB0 : Below w.heap.size w (w.alloc (.cells #[.int .i64 k, .int .i64 n, .string t] 52)) := (Below.refl _ _).alloc (Nat.le_refl _) _
  have hv0 : KeyAt _ _ k n t 52 := heap_at_new w (.cells #[.int .i64 k, .int .i64 n, .string t] 52)
  have H0 := szKey_any 1048576 (Nat.le_refl _) (w.alloc (.cells #[.int .i64 k, .int .i64 n, .string t] 52)) k n t ht
  generalize hw0 : w.alloc (.cells #[.int .i64 k, .int .i64 n, .string t] 52) = w0 at *
  have HW0 := Lib.hid hw0
  have HB0 := Lib.hid hB0
  have HV0 := Lib.hid hv0
  have HT := Lib.hid (fun w' (hb : Below w0.heap.size w0 w') => Go.Joins.tab_stays (g := 0) (by kernel_rfl) htab (hB0.trans (hb.mono hB0.size)) (Nat.le_refl _))
  obtain ⟨v0, v1, v2⟩ := hv0.cells
  clear hw0 hB0 hv0 htab
  by_cases hsz : t.size ≤ 1048576
  · rw [left_yes hsz] at H0
    have hL : 1048576 - t.size ≤ 1048576 := by omega
    generalize 1048576 - t.size = L at *
    have HK := Lib.hid (fun w' => toKey_any w' k n t)
    have HS := fun w' => spec_formatKey w' k n t hn hsz
    have HI := fun w' (hb : Below w0.heap.size w0 w') => impl_formatKey w' k n t hn hsz (HT.out w' hb)
    generalize str (headText k n t) = s at HS HI
    have HHS := Lib.hid HS
    have HHI := Lib.hid HI
    clear hsz ht hn HS HI HT
    go_enter Tryd.func7, Tryd.ntmps7
    go_wp2_with fail
    rw [HW0.out]
    refine H0.mono ?_
    rintro e w1 ⟨rfl, hb1⟩
    have HB1 := Lib.hid hb1
    have HV1 := Lib.hid (HV0.out.below hb1)
    clear v0 v1 v2 hb1 H0
    obtain ⟨v0, v1, v2⟩ := HV1.out.cells
    go_wp2_with fail
    refine (HK.out w1).mono ?_
    rintro e w2 ⟨rfl, hb2⟩
    have HB2 : Hid (Below w0.heap.size w0 w2) := HB1.out.trans (hb2.mono HB1.out.size)
    have HV2 := Lib.hid (HV1.out.below hb2)
    clear v0 v1 v2 hb2
    go_wp2_with fail
    refine (HHS.out w2).mono ?_
    rintro e w3 ⟨rfl, hb3⟩
    have HB3 : Hid (Below w0.heap.size w0 w3) := HB2.out.trans (hb3.mono HB2.out.size)
    have HV3 := Lib.hid (HV2.out.below hb3)
    clear hb3
    obtain ⟨v0, v1, v2⟩ := HV3.out.cells
    go_wp2_with fail
    refine (HK.out w3).mono ?_
    rintro e w4 ⟨rfl, hb4⟩
    have HB4 : Hid (Below w0.heap.size w0 w4) := HB3.out.trans (hb4.mono HB3.out.size)
    clear v0 v1 v2 hb4
    go_wp2_with fail
    refine (HHI.out w4 HB4.out).mono ?_
    rintro e w5 ⟨rfl, hb5⟩
    have HB5 : Hid (Below w0.heap.size w0 w5) := HB4.out.trans (hb5.mono HB4.out.size)
    clear hb5
    go_wp2
    go_ret
    exact ⟨rfl, HB0.out.trans (HB5.out.mono HB0.out.size)⟩
  · rw [left_no hsz] at H0
    clear hsz ht hn v0 v1 v2
    go_enter Tryd.func7, Tryd.ntmps7
    go_wp2_with fail
    rw [HW0.out]
    refine H0.mono ?_
    rintro e w1 ⟨rfl, hb1⟩
    have HB1 := Lib.hid hb1
    clear hb1 H0
    go_wp2
    go_ret
    exact ⟨rfl, HB0.out.trans (HB1.out.mono HB0.out.size)⟩
end Go.Proofs.YtcalgjggmgnofaaDoor
