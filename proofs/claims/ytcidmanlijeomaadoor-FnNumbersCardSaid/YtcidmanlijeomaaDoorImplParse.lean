/- What is proved here: impl.ParseNumber and impl.ParseInt answer by the integers whose numeral the string is, within their bounds, and with (0, false) where there is none. Conditions: as for the reader. -/
import Derived.Test.YtcidmanlijeomaaDoorReadInt
import Derived.Test.YtcidmanlijeomaaDoorSpecRead
import Derived.Defers
import Derived.Recover
namespace Go.Proofs.YtcidmanlijeomaaDoor
open Go.RowKit

theorem catchParseNumber_panicking (u : TypeId) (pv : Value) (older : List PanicEntry) (w : World) :
    CallsD Tryd.prog 32 #[] (.panicking ({ v := .iface u pv, recovered := false } :: older)) w fun e u' w' =>
      e = .returned (.tuple #[]) ∧ u' = .panicking ({ v := .iface u pv, recovered := true } :: older) ∧ w' = w := by
  refine callsD_of_wpS Tryd.func32 rfl fun c₀ cs hu => ?_
  apply wpS_region
  simp [wpOpsS, go_sem, recoverD, hu, Tryd.ntmps32, bodyPostS, results, Tryd.results32]

theorem catchParseNumber_idle (w : World) :
    CallsD Tryd.prog 32 #[] .returning w fun e u' w' => e = .returned (.tuple #[]) ∧ u' = .returning ∧ w' = w := by
  refine callsD_of_wpS Tryd.func32 rfl fun c₀ cs hu => ?_
  apply wpS_region
  simp [wpOpsS, go_sem, recoverD, hu, Tryd.ntmps32, bodyPostS, results, Tryd.results32]
  rw [← hu]

set_option maxHeartbeats 1000000 in
set_option maxRecDepth 100000 in
/-- impl.ParseNumber. -/
theorem impl_ParseNumber (s : ByteArray) (hs : s.size ≤ 1048576) (w : World) (hL : LibVars w) :
    Calls Tryd.prog 15 #[.string s] w fun e w' => e = readEnd (readOf 0 999999 s.data.toList) ∧ Below w.heap.size w w' := by
  cases hR : readOf 0 999999 s.data.toList with
  | some n =>
    go_enter_defers Tryd.func15, Tryd.ntmps15
    go_wp2_with fail
    refine (read_int s 0 999999 (by omega) (by omega) hs _ hL).mono ?_
    rintro e w1 ⟨he, hb⟩
    rw [hR] at he
    obtain rfl : e = .returned (.int .i64 n) := he
    go_wp2
    refine leaves_cons (f := 32) (args := #[]) (by simp) (by simp [go_sem]) ?_
    refine (catchParseNumber_idle _).mono ?_
    rintro e u' w'' ⟨rfl, rfl, rfl⟩
    simp [Leaves, settle, results, Tryd.results15, go_sem, readEnd, hb]
  | none =>
    go_enter_defers Tryd.func15, Tryd.ntmps15
    go_wp2_with fail
    refine (read_int s 0 999999 (by omega) (by omega) hs _ hL).mono ?_
    rintro e w1 ⟨he, hb⟩
    rw [hR] at he
    obtain ⟨u, pv, rfl⟩ : ∃ u pv, e = .panicked [{ v := .iface u pv, recovered := false }] := he
    go_wp2
    refine leaves_cons (f := 32) (args := #[]) (by simp) (by simp [go_sem]) ?_
    refine (catchParseNumber_panicking u pv [] _).mono ?_
    rintro e u' w'' ⟨rfl, rfl, rfl⟩
    simp [Leaves, settle, results, Tryd.results15, go_sem, readEnd, hb]

theorem catchParseInt_panicking (u : TypeId) (pv : Value) (older : List PanicEntry) (w : World) :
    CallsD Tryd.prog 28 #[] (.panicking ({ v := .iface u pv, recovered := false } :: older)) w fun e u' w' =>
      e = .returned (.tuple #[]) ∧ u' = .panicking ({ v := .iface u pv, recovered := true } :: older) ∧ w' = w := by
  refine callsD_of_wpS Tryd.func28 rfl fun c₀ cs hu => ?_
  apply wpS_region
  simp [wpOpsS, go_sem, recoverD, hu, Tryd.ntmps28, bodyPostS, results, Tryd.results28]

theorem catchParseInt_idle (w : World) :
    CallsD Tryd.prog 28 #[] .returning w fun e u' w' => e = .returned (.tuple #[]) ∧ u' = .returning ∧ w' = w := by
  refine callsD_of_wpS Tryd.func28 rfl fun c₀ cs hu => ?_
  apply wpS_region
  simp [wpOpsS, go_sem, recoverD, hu, Tryd.ntmps28, bodyPostS, results, Tryd.results28]
  rw [← hu]

set_option maxHeartbeats 1000000 in
set_option maxRecDepth 100000 in
/-- impl.ParseInt. -/
theorem impl_ParseInt (s : ByteArray) (hs : s.size ≤ 1048576) (w : World) (hL : LibVars w) :
    Calls Tryd.prog 12 #[.string s] w fun e w' => e = readEnd (readOf (-999999999999) 999999999999 s.data.toList) ∧ Below w.heap.size w w' := by
  cases hR : readOf (-999999999999) 999999999999 s.data.toList with
  | some n =>
    go_enter_defers Tryd.func12, Tryd.ntmps12
    go_wp2_with fail
    refine (read_int s (-999999999999) 999999999999 (by omega) (by omega) hs _ hL).mono ?_
    rintro e w1 ⟨he, hb⟩
    rw [hR] at he
    obtain rfl : e = .returned (.int .i64 n) := he
    go_wp2
    refine leaves_cons (f := 28) (args := #[]) (by simp) (by simp [go_sem]) ?_
    refine (catchParseInt_idle _).mono ?_
    rintro e u' w'' ⟨rfl, rfl, rfl⟩
    simp [Leaves, settle, results, Tryd.results12, go_sem, readEnd, hb]
  | none =>
    go_enter_defers Tryd.func12, Tryd.ntmps12
    go_wp2_with fail
    refine (read_int s (-999999999999) 999999999999 (by omega) (by omega) hs _ hL).mono ?_
    rintro e w1 ⟨he, hb⟩
    rw [hR] at he
    obtain ⟨u, pv, rfl⟩ : ∃ u pv, e = .panicked [{ v := .iface u pv, recovered := false }] := he
    go_wp2
    refine leaves_cons (f := 28) (args := #[]) (by simp) (by simp [go_sem]) ?_
    refine (catchParseInt_panicking u pv [] _).mono ?_
    rintro e u' w'' ⟨rfl, rfl, rfl⟩
    simp [Leaves, settle, results, Tryd.results12, go_sem, readEnd, hb]

end Go.Proofs.YtcidmanlijeomaaDoor
