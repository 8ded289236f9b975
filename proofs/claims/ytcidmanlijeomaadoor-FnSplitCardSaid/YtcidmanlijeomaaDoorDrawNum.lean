/- What is proved here: DrawFormatInt and DrawParseNumber (package spec) return, the one an int, the other a short text, and write nothing that was there. Condition: at most 1048576 bytes of code. -/
import Derived.Test.YtcidmanlijeomaaDoorCursor
import Derived.Test.YtcidmanlijeomaaDoorFormat
namespace Go.Proofs.YtcidmanlijeomaaDoor
open Go.RowKit

theorem CurStep.alloc {N : Nat} {w : World} (h : Cur N w) (o : Obj) : CurStep N w (w.alloc o) := ⟨h.stays (World.grownBy_alloc w o none), World.grownBy_alloc w o (some N)⟩
theorem CurStep.below {N B : Nat} {a w w' : World} (h : CurStep N w w') (hb : Below B a w) (hB : B ≤ w.heap.size) (hN : B ≤ N) : Below B a w' :=
  hb.grown h.2 hB (fun k e => by injection e with e; omega)
theorem CurStep.size {N : Nat} {w w' : World} (h : CurStep N w w') : w.heap.size ≤ w'.heap.size := h.2.size
theorem Cur.lt {N : Nat} {w : World} (h : Cur N w) : N < w.heap.size := by
  obtain ⟨a, len, cap, zs, i, h', hc⟩ := h
  rcases Nat.lt_or_ge N w.heap.size with h | h
  · exact h
  · have := hc.block
    rw [Array.getElem?_eq_none h] at this
    cases this
theorem Cur.below {N B : Nat} {w w' : World} (h : Cur N w) (hb : Below B w w') (hs : B = w.heap.size) : CurStep N w w' :=
  ⟨h.stays ⟨hb.os, hb.tape, hb.output, by have := hb.size; omega, fun k hk _ => hb.block k (by omega)⟩, ⟨hb.os, hb.tape, hb.output, by have := hb.size; omega, fun k hk _ => hb.block k (by omega)⟩⟩

/-- An int comes back, and the cursor's step is done. -/
def SomeInt (N : Nat) (w : World) (e : Ending) (w' : World) : Prop := ∃ n : Int, -9223372036854775808 ≤ n ∧ n ≤ 9223372036854775807 ∧ e = .returned (.int .i64 n) ∧ CurStep N w w'

def wholeList : List Int := [0, 1, -1, 9, 10, 999999, 1000000, 999999999999, 1000000000000, -999999999999, 9223372036854775807, -9223372036854775808]
theorem wholeList_in : ∀ n ∈ wholeList, -9223372036854775808 ≤ n ∧ n ≤ 9223372036854775807 := by decide

set_option maxHeartbeats 1000000 in
set_option maxRecDepth 100000 in
/-- spec.l1Whole. -/
theorem whole_any (N : Nat) (w : World) (hc : Cur N w) : Calls Tryd.prog 25 #[.pointer (some ⟨N, 0, none⟩)] w (SomeInt N w) := by
  go_enter Tryd.func25, Tryd.ntmps25
  go_wp2_with fail
  refine (below_any N 3 (by omega) (by omega) _ hc).mono ?_
  rintro e w1 ⟨x, x0, x1, rfl, hs1⟩
  by_cases h0 : x = 0
  · subst h0
    go_wp2_with fail
    have hs2 := CurStep.alloc hs1.1 (.cells (wholeList.map (Value.int .i64)).toArray 3)
    have hM := heap_new w1 (.cells (wholeList.map (Value.int .i64)).toArray 3)
    refine (pick_int N w1.heap.size wholeList 12 3 _ hs2.1 hM (by have := hs1.1.lt; omega) (by decide) (by decide)).mono ?_
    rintro e w2 ⟨y, hy, rfl, hs3⟩
    have HY := wholeList_in y hy
    have HS := Lib.hid (hs1.trans (hs2.trans hs3))
    clear hy hs1 hs2 hs3 hM
    go_wp2
    go_ret
    exact ⟨y, HY.1, HY.2, rfl, HS.out⟩
  · by_cases h1 : x = 1
    · subst h1
      go_wp2_with fail
      refine (below_any N 1000000 (by omega) (by omega) _ hs1.1).mono ?_
      rintro e w2 ⟨y, y0, y1, rfl, hs2⟩
      go_wp2
      go_ret
      exact ⟨_, by omega, by omega, rfl, hs1.trans hs2⟩
    · have e0 : (x == 0) = false := by simpa using h0
      have e1 : (x == 1) = false := by simpa using h1
      go_wp2_with fail
      refine (below_any N 20 (by omega) (by omega) _ hs1.1).mono ?_
      rintro e w2 ⟨y, y0, y1, rfl, hs2⟩
      go_wp2
      go_ret
      exact ⟨_, by omega, by omega, rfl, hs1.trans hs2⟩

/-- An int comes back, and nothing that was there has changed. -/
def DrawnInt (w : World) (e : Ending) (w' : World) : Prop := ∃ n : Int, -9223372036854775808 ≤ n ∧ n ≤ 9223372036854775807 ∧ e = .returned (.int .i64 n) ∧ Below w.heap.size w w'

set_option maxRecDepth 100000 in
theorem drawFormatInt_any (w : World) (a : Option Addr) (len cap : Nat) (zs : List Int) (hr : IsRow .u8 w a len cap zs) (hlen : len ≤ 1048576) :
    Calls Tryd.prog 10 #[.slice a len cap] w (DrawnInt w) := by
  have HR := Lib.hid hr
  clear hr
  go_enter Tryd.func10, Tryd.ntmps10
  go_wp2_with fail
  refine (new_any w a len cap zs HR.out hlen).mono ?_
  rintro e w1 ⟨N, hN, rfl, hc, hb1⟩
  go_wp2_with fail
  refine (whole_any N _ hc).mono ?_
  rintro e w2 ⟨n, n0, n1, rfl, hs⟩
  go_wp2
  go_ret
  exact ⟨n, n0, n1, rfl, hs.below hb1 hb1.size hN⟩

def numberTexts : List ByteArray := [⟨#[]⟩, ⟨#[48, 48]⟩, ⟨#[48, 49]⟩, ⟨#[45, 49]⟩, ⟨#[43, 49]⟩, ⟨#[120]⟩, ⟨#[57, 57, 57, 57, 57, 57]⟩, ⟨#[49, 48, 48, 48, 48, 48, 48]⟩, ⟨#[45, 48]⟩, ⟨#[45]⟩, ⟨#[32, 49]⟩, ⟨#[49, 32]⟩]
theorem numberTexts_short : ∀ s ∈ numberTexts, s.size ≤ 100 := by
  intro s hs
  simp [numberTexts] at hs
  rcases hs with rfl | rfl | rfl | rfl | rfl | rfl | rfl | rfl | rfl | rfl | rfl | rfl <;> decide

/-- A short text comes back, and nothing that was there has changed. -/
def DrawnText (w : World) (e : Ending) (w' : World) : Prop := ∃ s : ByteArray, s.size ≤ 100 ∧ e = .returned (.string s) ∧ Below w.heap.size w w'

set_option maxHeartbeats 1000000 in
set_option maxRecDepth 100000 in
theorem drawParseNumber_any (w : World) (a : Option Addr) (len cap : Nat) (zs : List Int) (hr : IsRow .u8 w a len cap zs) (hlen : len ≤ 1048576) :
    Calls Tryd.prog 14 #[.slice a len cap] w (DrawnText w) := by
  have HR := Lib.hid hr
  clear hr
  go_enter Tryd.func14, Tryd.ntmps14
  go_wp2_with fail
  refine (new_any w a len cap zs HR.out hlen).mono ?_
  rintro e w1 ⟨N, hN, rfl, hc, hb1⟩
  go_wp2_with fail
  refine (once_any N 2 (by omega) (by omega) _ hc).mono ?_
  rintro e w2 ⟨b, rfl, hs1⟩
  have hb2 := hs1.below hb1 hb1.size hN
  cases b
  · go_wp2_with fail
    have hs2 := CurStep.alloc hs1.1 (.cells (numberTexts.map Value.string).toArray 9)
    have hM := heap_new w2 (.cells (numberTexts.map Value.string).toArray 9)
    refine (pick_any N w2.heap.size numberTexts 12 9 _ hs2.1 hM (by have := hs1.1.lt; omega) (by decide) (by decide)).mono ?_
    rintro e w3 ⟨s, hs, rfl, hs3⟩
    have HS := numberTexts_short s hs
    have HB := Lib.hid ((hs2.trans hs3).below hb2 hb2.size hN)
    clear hs hs2 hs3 hM
    go_wp2
    go_ret
    exact ⟨s, HS, rfl, HB.out⟩
  · go_wp2_with fail
    refine (whole_any N _ hs1.1).mono ?_
    rintro e w3 ⟨n, n0, n1, rfl, hs3⟩
    have hb3 := hs3.below hb2 hb2.size hN
    go_wp2_with fail
    refine (spec_format n n0 n1 _).mono ?_
    rintro e w4 ⟨rfl, hb4⟩
    have HB := Lib.hid (hb3.trans (hb4.mono hb3.size))
    have HL := Lib.itoa_length_le n n0 n1
    have HH := Lib.hid HL
    clear HL
    go_wp2
    go_ret
    refine ⟨⟨(Lib.itoa n).toArray⟩, ?_, rfl, HB.out⟩
    have e : (ByteArray.mk (Lib.itoa n).toArray).size = (Lib.itoa n).length := by show (Lib.itoa n).toArray.size = _; simp
    have := HH.out
    omega
end Go.Proofs.YtcidmanlijeomaaDoor
