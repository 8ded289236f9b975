/- What is proved here: the program's IsType says whether a type is basic or declared. Condition: the signature lies in memory as said, and is small. -/
import Derived.Test.YtcmpaccpdjcocaaIsType
namespace Go.Proofs.Ytcmpaccpdjcocaa
open Go.RowKit

theorem call_enters {P : Program} {f : FuncId} {fn : Func} {c : Code} (hf : P.funcs[f]? = some fn) (hn : (fn.name == "runtime.NumGoroutine") = false) (hb : fn.body = some c) (args : Array Value) (w : World) : (callFunc f args).run P w = .ok (.enter f args) w := by
  have h1 : fn.name ≠ "runtime.NumGoroutine" := by simpa using hn
  simp [callFunc, hf, h1, hb, mark]

/-- The closure of IsType: is this the type of that name? The name lies in a cell of the caller's. -/
theorem test_named (nm : ByteArray) (B : Nat) (w : World) (hc : w.cell? ⟨B, 0, none⟩ = some (.string nm)) : TestAt TypeAt 41 #[.pointer (some ⟨B, 0, none⟩)] (TypeD.named nm) w := by
  intro W x u v hb hr
  obtain ⟨a, cap, rfl, rfl, _⟩ := hr
  have hc2 := cell_below hc hb
  have hne : (W.alloc (.cells #[.string x.name, .slice a x.cons.length cap] 28)).cell? ⟨B, 0, none⟩ = some (.string nm) := cell_below hc2 ((Below.refl _ _).alloc (Nat.le_refl _) _)
  have HB : Hid (Below W.heap.size W (W.alloc (.cells #[.string x.name, .slice a x.cons.length cap] 28))) := (Below.refl _ _).alloc (Nat.le_refl _) _
  clear hb hc
  show Calls Try.prog 41 #[.agg #[.string x.name, .slice a x.cons.length cap], .pointer (some ⟨B, 0, none⟩)] W _
  unfold TypeD.named
  go_enter Try.func41, Try.ntmps41
  go_wp2
  go_ret
  exact ⟨rfl, HB.out⟩

set_option maxHeartbeats 1000000 in
set_option maxRecDepth 100000 in
theorem impl_isType (w : World) (a : Option Addr) (cap : Nat) (s : List TypeD) (nm : ByteArray) (hx : Row2 TypeAt w a s) (hm : s.length ≤ 1048576) :
    Calls Try.prog 22 #[.agg #[.slice a s.length cap], .string nm] w fun e w' => e = .returned (.bool (isTypeB s nm)) ∧ Below w.heap.size w w' := by
  obtain ⟨w2, h2⟩ : ∃ w2, w2 = (w.alloc (.cells #[.slice a s.length cap] 33)).alloc (.cells #[.string nm] 9) := ⟨_, rfl⟩
  have s1 : (w.alloc (.cells #[.slice a s.length cap] 33)).heap.size = w.heap.size + 1 := Array.size_push _
  have hB : Below w.heap.size w w2 := by rw [h2]; exact ((Below.refl _ _).alloc (Nat.le_refl _) _).alloc (by omega) _
  have hp1 : w2.heap[w.heap.size + 1]? = some (.cells #[.string nm] 9 (0, 0)) := by
    rw [h2, ← s1]
    exact heap_at_new _ _
  have hp0 : w2.cell? ⟨w.heap.size, 0, none⟩ = some (.slice a s.length cap) := by
    rw [h2]
    exact cell_below (one_cell (heap_at_new w _)).1 ((Below.refl _ _).alloc (Nat.le_refl _) _)
  have eg : ∀ args w, (callFunc 41 args).run Try.prog w = .ok (.enter 41 args) w := call_enters Try.func41 (by kernel_rfl) rfl
  have H := any_types 41 #[.pointer (some ⟨w.heap.size + 1, 0, none⟩)] (TypeD.named nm) w2 a cap s eg (test_named nm (w.heap.size + 1) w2 (one_cell hp1).1) (row2_below type_below hx hB) hm
  have e1 : s.any (TypeD.named nm) = (theType s nm).isSome := by unfold theType; rw [List.isSome_find?]
  rw [e1] at H
  have HI : Hid (isTypeB s nm = (isBasic nm || (theType s nm).isSome)) := rfl
  have H2 := Lib.hid h2
  have HB := Lib.hid hB
  clear hx hp1 s1 h2 hB e1 eg
  generalize (theType s nm).isSome = b at *
  cases hbn : isBasic nm with
  | true =>
    rw [hbn] at HI
    have HBN := Lib.hid hbn
    clear hbn
    go_enter Try.func22, Try.ntmps22
    go_wp2_with fail
    rw [← H2.out]
    refine (impl_basic nm w2).mono ?_
    rintro e w3 ⟨rfl, rfl⟩
    rw [HBN.out]
    go_wp2
    go_ret
    exact ⟨by rw [HI.out]; rfl, HB.out⟩
  | false =>
    rw [hbn] at HI
    have HBN := Lib.hid hbn
    clear hbn
    go_enter Try.func22, Try.ntmps22
    go_wp2_with fail
    rw [← H2.out]
    refine (impl_basic nm w2).mono ?_
    rintro e w3 ⟨rfl, rfl⟩
    rw [HBN.out]
    go_wp2_with fail
    refine H.mono ?_
    rintro e w4 ⟨rfl, hb4⟩
    have HB4 : Hid (Below w.heap.size w w4) := HB.out.trans (hb4.mono HB.out.size)
    clear hb4 H
    go_wp2
    go_ret
    exact ⟨by rw [HI.out]; rfl, HB4.out⟩
end Go.Proofs.Ytcmpaccpdjcocaa
