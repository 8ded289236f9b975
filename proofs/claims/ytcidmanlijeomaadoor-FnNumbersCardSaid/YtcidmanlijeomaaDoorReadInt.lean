/- What is proved here: impl.readInt returns the integer within lo .. hi whose numeral the string is, and panics if there is none. Conditions: the string has at most 1048576 bytes, and the listed variables of Go's library read as laid. -/
import Derived.Test.YtcidmanlijeomaaDoorParse
import Derived.Test.YtcidmanlijeomaaDoorItoaLaid
import Derived.Deep.QuietTactic
import Derived.BigQuiet
import Derived.WalkLawsBesides
import Derived.WalkSpells
import Derived.Outline
import Derived.Lib.Hide
import Derived.Recover
import Derived.Lib.AtoiErrMem
import Derived.Lib.SmallJoins
namespace Go.Proofs.YtcidmanlijeomaaDoor
open Go.RowKit

/-- How readInt ends. -/
def ReadEnds (o : Option Int) (e : Ending) : Prop :=
  match o with
  | some n => e = .returned (.int .i64 n)
  | none => ∃ u pv, e = .panicked [{ v := .iface u pv, recovered := false }]

set_option maxHeartbeats 1000000 in
set_option maxRecDepth 100000 in
theorem read_int_ok (s : ByteArray) (lo hi v : Int) (h0 : -9223372036854775808 ≤ lo) (h1 : hi ≤ 9223372036854775807) (hs : s.size ≤ 1048576) (hv : Lib.atoiAll s.data.toList = .ok v) (hv0 : -9223372036854775808 ≤ v) (hv1 : v ≤ 9223372036854775807) (w : World)
    (htab : Lib.TabIs Tryd.prog w "internal/strconv.uint64pow10" .u64 Lib.pow10Tab) :
    Calls Tryd.prog 29 #[.string s, .int .i64 lo, .int .i64 hi] w fun e w' => ReadEnds (readOf lo hi s.data.toList) e ∧ Below w.heap.size w w' := by
  go_enter Tryd.func29, Tryd.ntmps29
  go_wp2_with fail
  refine (Tryd.strconv_Atoi_ok s (by omega) v hv _).mono ?_
  rintro e w1 ⟨rfl, hw1⟩
  have hb1 : Below w.heap.size w w1 := by
    rcases hw1 with rfl | ⟨t, rfl⟩
    · exact Below.refl _ _
    · exact Lib.bytesWorld_below w _ t
  clear hw1
  have HV := Lib.hid hv
  clear hv
  by_cases hlo : v < lo
  · have HR : Hid (readOf lo hi s.data.toList = none) := readOf_none (fun n hn => by
      obtain ⟨a, b, c⟩ := hn
      have : Lib.atoiAll s.data.toList = .ok n := by rw [← c]; exact atoi_itoa n (by omega) (by omega)
      rw [HV.out] at this
      injection this with e
      omega) h0 h1
    go_wp2
    exact ⟨rfl, by rw [HR.out]; exact ⟨_, _, rfl⟩, hb1⟩
  · by_cases hhi : hi < v
    · have HR : Hid (readOf lo hi s.data.toList = none) := readOf_none (fun n hn => by
        obtain ⟨a, b, c⟩ := hn
        have : Lib.atoiAll s.data.toList = .ok n := by rw [← c]; exact atoi_itoa n (by omega) (by omega)
        rw [HV.out] at this
        injection this with e
        omega) h0 h1
      go_wp2
      exact ⟨rfl, by rw [HR.out]; exact ⟨_, _, rfl⟩, hb1⟩
    · go_wp2_with fail
      refine (impl_format v hv0 hv1 _ (Go.Joins.tab_stays (g := 0) (by kernel_rfl) htab hb1 (Nat.le_refl _))).mono ?_
      rintro e w2 ⟨rfl, hb2⟩
      have hb3 : Below w.heap.size w w2 := hb1.trans (hb2.mono hb1.size)
      by_cases heq : Lib.itoa v = s.data.toList
      · have h2 : (Lib.itoa v == s.toList) = true := by rw [ByteArray.toList_eq, heq]; simp
        have HR : Hid (readOf lo hi s.data.toList = some v) := (readOf_iff h0 h1).2 ⟨by omega, by omega, heq⟩
        clear heq
        go_wp2
        go_ret
        exact ⟨by rw [HR.out]; rfl, hb3⟩
      · have h2 : (Lib.itoa v == s.toList) = false := by rw [ByteArray.toList_eq]; simpa using heq
        have HR : Hid (readOf lo hi s.data.toList = none) := readOf_none (fun n hn => by
          obtain ⟨a, b, c⟩ := hn
          have : Lib.atoiAll s.data.toList = .ok n := by rw [← c]; exact atoi_itoa n (by omega) (by omega)
          rw [HV.out] at this
          injection this with e
          subst e
          exact heq c) h0 h1
        clear heq
        go_wp2
        exact ⟨rfl, by rw [HR.out]; exact ⟨_, _, rfl⟩, hb3⟩

set_option maxHeartbeats 1000000 in
set_option maxRecDepth 100000 in
theorem read_int_bad (s : ByteArray) (lo hi : Int) (hs : s.size ≤ 1048576) (hv : Lib.atoiAll s.data.toList = Lib.atoiAll []) (tp : TypeId) (p : Value) (w : World) (hvar : w.var? Tryd.prog "strconv.ErrSyntax" = some #[.iface tp p]) :
    Calls Tryd.prog 29 #[.string s, .int .i64 lo, .int .i64 hi] w fun e w' => ReadEnds (readOf lo hi s.data.toList) e ∧ Below w.heap.size w w' := by
  have HR : Hid (readOf lo hi s.data.toList = none) := by unfold Hid readOf; rw [hv]; rfl
  go_enter Tryd.func29, Tryd.ntmps29
  go_wp2_with fail
  refine (Tryd.strconv_Atoi_syntax_var s (by omega) hv tp p _ hvar).mono ?_
  rintro e w1 ⟨N, rfl, hN, hcell, hb1⟩
  clear hcell hN
  go_wp2
  exact ⟨rfl, by rw [HR.out]; exact ⟨_, _, rfl⟩, hb1⟩

set_option maxHeartbeats 1000000 in
set_option maxRecDepth 100000 in
theorem read_int_range (s : ByteArray) (lo hi : Int) (hs : s.size ≤ 1048576) (hv : Lib.atoiAll s.data.toList = .range) (tp : TypeId) (p : Value) (w : World) (hvar : w.var? Tryd.prog "strconv.ErrRange" = some #[.iface tp p]) :
    Calls Tryd.prog 29 #[.string s, .int .i64 lo, .int .i64 hi] w fun e w' => ReadEnds (readOf lo hi s.data.toList) e ∧ Below w.heap.size w w' := by
  have HR : Hid (readOf lo hi s.data.toList = none) := by unfold Hid readOf; rw [hv]
  go_enter Tryd.func29, Tryd.ntmps29
  go_wp2_with fail
  refine (Tryd.strconv_Atoi_range_var s (by omega) hv tp p _ hvar).mono ?_
  rintro e w1 ⟨N, rfl, hN, hcell, hb1⟩
  clear hcell hN
  go_wp2
  exact ⟨rfl, by rw [HR.out]; exact ⟨_, _, rfl⟩, hb1⟩

/-- The variables of Go's library that the reader looks at. -/
structure LibVars (w : World) : Prop where
  tab : Lib.TabIs Tryd.prog w "internal/strconv.uint64pow10" .u64 Lib.pow10Tab
  bad : ∃ tp p, w.var? Tryd.prog "strconv.ErrSyntax" = some #[.iface tp p]
  far : ∃ tp p, w.var? Tryd.prog "strconv.ErrRange" = some #[.iface tp p]
theorem LibVars.stays {w w' : World} (h : LibVars w) (hb : Below w.heap.size w w') : LibVars w' := by
  obtain ⟨h1, ⟨tp, p, h2⟩, ⟨tq, q, h3⟩⟩ := h
  exact ⟨Go.Joins.tab_stays (g := 0) (by kernel_rfl) h1 hb (Nat.le_refl _), ⟨tp, p, Go.Joins.var_stays (g := 1) (by kernel_rfl) h2 hb (Nat.le_refl _)⟩, ⟨tq, q, Go.Joins.var_stays (g := 2) (by kernel_rfl) h3 hb (Nat.le_refl _)⟩⟩

/-- impl.readInt. -/
theorem read_int (s : ByteArray) (lo hi : Int) (h0 : -9223372036854775808 ≤ lo) (h1 : hi ≤ 9223372036854775807) (hs : s.size ≤ 1048576) (w : World) (hL : LibVars w) :
    Calls Tryd.prog 29 #[.string s, .int .i64 lo, .int .i64 hi] w fun e w' => ReadEnds (readOf lo hi s.data.toList) e ∧ Below w.heap.size w w' := by
  obtain ⟨htab, ⟨tp, p, hb⟩, ⟨tq, q, hf⟩⟩ := hL
  rcases atoi_cases s.data.toList with ⟨v, hv⟩ | hv | hv
  · have hr := atoi_range hv
    exact read_int_ok s lo hi v h0 h1 hs hv hr.1 hr.2 w htab
  · exact read_int_bad s lo hi hs hv tp p w hb
  · exact read_int_range s lo hi hs hv tq q w hf
end Go.Proofs.YtcidmanlijeomaaDoor
