/- What is proved here: the model's and the program's FormatKey. Condition: the number is an int, the text small; the table of the powers of ten is as listed. -/
import Derived.Test.YtcalgjggmgnofaaDoorTreeText
import Derived.Test.YtcalgjggmgnofaaDoorFormat
import Derived.Test.YtcalgjggmgnofaaDoorItoaLaid
import Derived.Laws.Concat
namespace Go.Proofs.YtcalgjggmgnofaaDoor
open Go.RowKit

theorem catK (a b : List UInt8) (h : a.length + b.length ≤ 1099511627776) (w : World) : (Op.stringOp .add (str a) (str b)).run Tryd.prog w = .ok (.string (str (a ++ b))) w := by
  rw [run_string_add_sum w _ _ (by rw [str_size, str_size]; omega), str_append]

set_option maxHeartbeats 1000000 in
set_option maxRecDepth 100000 in
theorem spec_formatKey (w : World) (k n : Int) (t : ByteArray) (hn : -9223372036854775808 ≤ n ∧ n ≤ 9223372036854775807) (ht : t.size ≤ 1048576) :
    Calls Tryd.prog 25 #[.agg #[.int .i64 k, .int .i64 n, .string t]] w fun e w' => e = .returned (.string (str (headText k n t))) ∧ Below w.heap.size w w' := by
  have HB0 := Lib.hid ((Below.refl w.heap.size w).alloc (Nat.le_refl _) (.cells #[.int .i64 k, .int .i64 n, .string t] 40))
  by_cases h1 : k = 1
  · subst h1
    have e : headText 1 n t = Lib.itoa n := by simp [headText]
    rw [e]
    have HF := spec_format n hn.1 hn.2
    clear hn e
    go_enter Tryd.func25, Tryd.ntmps25
    go_wp2_with fail
    refine (HF _).mono ?_
    rintro e w1 ⟨rfl, hb1⟩
    have HB1 := Lib.hid hb1
    clear hb1 HF
    go_wp2
    go_ret
    exact ⟨rfl, HB0.out.trans (HB1.out.mono HB0.out.size)⟩
  · have e1 : (k == 1) = false := by simpa using h1
    by_cases h2 : k = 2
    · subst h2
      have e : headText 2 n t = [34] ++ t.data.toList ++ [34] := by simp [headText]
      rw [e]
      have htl : t.data.toList.length = t.size := rfl
      have hc1 := fun w => catK [34] t.data.toList (by rw [htl]; simp; omega) w
      rw [str_data] at hc1
      have hc2 := fun w => catK ([34] ++ t.data.toList) [34] (by rw [List.length_append, htl]; simp; omega) w
      change ∀ w, (Op.stringOp .add ⟨#[34]⟩ t).run Tryd.prog w = _ at hc1
      change ∀ w, (Op.stringOp .add (str ([34] ++ t.data.toList)) ⟨#[34]⟩).run Tryd.prog w = _ at hc2
      generalize hs1 : str ([34] ++ t.data.toList) = s1 at *
      generalize hs2 : str ([34] ++ t.data.toList ++ [34]) = s2 at *
      clear hn e htl hs1 hs2
      go_enter Tryd.func25, Tryd.ntmps25
      go_wp2
      go_ret
      exact ⟨rfl, HB0.out⟩
    · have e2 : (k == 2) = false := by simpa using h2
      by_cases h3 : k = 3
      · subst h3
        have e : headText 3 n t = t.data.toList := by simp [headText]
        rw [e, str_data]
        clear hn e
        go_enter Tryd.func25, Tryd.ntmps25
        go_wp2
        go_ret
        exact ⟨rfl, HB0.out⟩
      · have e3 : (k == 3) = false := by simpa using h3
        have e : headText k n t = [63] := by simp [headText, h1, h2, h3]
        rw [e]
        clear hn e h1 h2 h3
        go_enter Tryd.func25, Tryd.ntmps25
        go_wp2
        go_ret
        exact ⟨rfl, HB0.out⟩

set_option maxHeartbeats 1000000 in
set_option maxRecDepth 100000 in
theorem impl_formatKey (w : World) (k n : Int) (t : ByteArray) (hn : -9223372036854775808 ≤ n ∧ n ≤ 9223372036854775807) (ht : t.size ≤ 1048576) (htab : Lib.TabIs Tryd.prog w "internal/strconv.uint64pow10" .u64 Lib.pow10Tab) :
    Calls Tryd.prog 24 #[.agg #[.int .i64 k, .int .i64 n, .string t]] w fun e w' => e = .returned (.string (str (headText k n t))) ∧ Below w.heap.size w w' := by
  have hB0 := (Below.refl w.heap.size w).alloc (Nat.le_refl _) (.cells #[.int .i64 k, .int .i64 n, .string t] 40)
  have HT := Lib.hid (Go.Joins.tab_stays (g := 0) (by kernel_rfl) htab hB0 (Nat.le_refl _))
  have HB0 := Lib.hid hB0
  clear hB0 htab
  by_cases h1 : k = 1
  · subst h1
    have e : headText 1 n t = Lib.itoa n := by simp [headText]
    rw [e]
    have HF := Lib.hid (impl_format n hn.1 hn.2 _ HT.out)
    clear hn e HT
    go_enter Tryd.func24, Tryd.ntmps24
    go_wp2_with fail
    refine HF.out.mono ?_
    rintro e w1 ⟨rfl, hb1⟩
    have HB1 := Lib.hid hb1
    clear hb1 HF
    go_wp2
    go_ret
    exact ⟨rfl, HB0.out.trans (HB1.out.mono HB0.out.size)⟩
  · have e1 : (k == 1) = false := by simpa using h1
    clear HT
    by_cases h2 : k = 2
    · subst h2
      have e : headText 2 n t = [34] ++ t.data.toList ++ [34] := by simp [headText]
      rw [e]
      have htl : t.data.toList.length = t.size := rfl
      have hc1 := fun w => catK [34] t.data.toList (by rw [htl]; simp; omega) w
      rw [str_data] at hc1
      have hc2 := fun w => catK ([34] ++ t.data.toList) [34] (by rw [List.length_append, htl]; simp; omega) w
      change ∀ w, (Op.stringOp .add ⟨#[34]⟩ t).run Tryd.prog w = _ at hc1
      change ∀ w, (Op.stringOp .add (str ([34] ++ t.data.toList)) ⟨#[34]⟩).run Tryd.prog w = _ at hc2
      generalize hs1 : str ([34] ++ t.data.toList) = s1 at *
      generalize hs2 : str ([34] ++ t.data.toList ++ [34]) = s2 at *
      clear hn e htl hs1 hs2
      go_enter Tryd.func24, Tryd.ntmps24
      go_wp2
      go_ret
      exact ⟨rfl, HB0.out⟩
    · have e2 : (k == 2) = false := by simpa using h2
      by_cases h3 : k = 3
      · subst h3
        have e : headText 3 n t = t.data.toList := by simp [headText]
        rw [e, str_data]
        clear hn e
        go_enter Tryd.func24, Tryd.ntmps24
        go_wp2
        go_ret
        exact ⟨rfl, HB0.out⟩
      · have e3 : (k == 3) = false := by simpa using h3
        have e : headText k n t = [63] := by simp [headText, h1, h2, h3]
        rw [e]
        clear hn e h1 h2 h3
        go_enter Tryd.func24, Tryd.ntmps24
        go_wp2
        go_ret
        exact ⟨rfl, HB0.out⟩
end Go.Proofs.YtcalgjggmgnofaaDoor
