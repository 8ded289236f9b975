/- What is proved here: IsType, of the model and of the program (with the library's ContainsFunc, IndexFunc), says whether a type is basic or declared. Condition: the signature lies in memory as said, and is small. -/
import Derived.Test.YtcmpaccpdjcocaaSpecFind
namespace Go.Proofs.Ytcmpaccpdjcocaa
open Go.RowKit

def isBasic (nm : ByteArray) : Bool := (nm.toList == [105, 110, 116]) || (nm.toList == [116, 101, 120, 116])

theorem impl_basic (nm : ByteArray) (w : World) : Calls Try.prog 39 #[.string nm] w fun e w' => e = .returned (.bool (isBasic nm)) ∧ w' = w := by
  unfold isBasic
  by_cases h1 : (nm.toList == [105, 110, 116]) = true
  · rw [h1]
    go_enter Try.func39, Try.ntmps39
    go_wp2
    go_ret
    exact ⟨rfl, rfl⟩
  · have h1 : (nm.toList == [105, 110, 116]) = false := by simpa using h1
    rw [h1]
    go_enter Try.func39, Try.ntmps39
    go_wp2
    go_ret
    exact ⟨by simp, rfl⟩

def isTypeB (s : List TypeD) (nm : ByteArray) : Bool := isBasic nm || (theType s nm).isSome

set_option maxHeartbeats 1000000 in
set_option maxRecDepth 100000 in
theorem spec_isType (w : World) (a : Option Addr) (cap : Nat) (s : List TypeD) (nm : ByteArray) (hx : Row2 TypeAt w a s) (hm : s.length ≤ 1048576) (hs : ∀ c ∈ s, c.cons.length ≤ 1048576 ∧ ∀ d ∈ c.cons, d.args.length ≤ 1048576) :
    Calls Try.prog 21 #[.agg #[.slice a s.length cap], .string nm] w fun e w' => e = .returned (.bool (isTypeB s nm)) ∧ Below w.heap.size w w' := by
  have HX := Lib.hid hx
  have HS := Lib.hid hs
  clear hx hs
  have hB : Below w.heap.size w (w.alloc (.cells #[.slice a s.length cap] 33)) := (Below.refl _ _).alloc (Nat.le_refl _) _
  have HB := Lib.hid hB
  clear hB
  have HI : Hid (isTypeB s nm = ((theType s nm).isSome || ((nm.toList == [105, 110, 116]) || (nm.toList == [116, 101, 120, 116])))) := by
    unfold Hid isTypeB isBasic
    rw [Bool.or_comm]
  go_enter Try.func21, Try.ntmps21
  go_wp2_with fail
  refine (spec_findType _ a cap s nm (row2_below type_below HX.out HB.out) hm HS.out).mono ?_
  rintro e w1 ⟨hb1, h⟩
  have HB1 : Hid (Below w.heap.size w w1) := HB.out.trans (hb1.mono HB.out.size)
  clear hb1
  rcases h with ⟨x, u, v, hx, rfl, ho⟩ | ⟨hx, rfl⟩
  · obtain ⟨rfl, a2, cap2, rfl, _⟩ := ho
    rw [hx] at HI
    have HT : Hid (isTypeB s nm = true) := HI.out
    clear HI hx
    go_wp2
    go_ret
    exact ⟨by rw [HT.out]; rfl, HB1.out.alloc HB1.out.size _⟩
  · rw [hx] at HI
    clear hx
    by_cases h1 : (nm.toList == [105, 110, 116]) = true
    · rw [h1] at HI
      have HT : Hid (isTypeB s nm = true) := HI.out
      clear HI
      go_wp2
      go_ret
      exact ⟨by rw [HT.out]; rfl, HB1.out.alloc HB1.out.size _⟩
    · have h1 : (nm.toList == [105, 110, 116]) = false := by simpa using h1
      rw [h1] at HI
      have HT : Hid (isTypeB s nm = (nm.toList == [116, 101, 120, 116])) := HI.out
      clear HI
      go_wp2
      go_ret
      exact ⟨by rw [HT.out]; rfl, HB1.out.alloc HB1.out.size _⟩

/-- What is asked of a test on structs of two cells: it answers p, and leaves old memory alone. -/
def TestAt {α : Type} (R : World → α → Value → Value → Prop) (g : Nat) (lb : Array Value) (p : α → Bool) (w : World) : Prop :=
  ∀ (W : World) (x : α) (u v : Value), Below w.heap.size w W → R W x u v → Calls Try.prog g (#[.agg #[u, v]] ++ lb) W fun e w' => e = .returned (.bool (p x)) ∧ Below W.heap.size W w'

set_option maxHeartbeats 1000000 in
set_option maxRecDepth 100000 in
theorem index_types (g : Nat) (lb : Array Value) (p : TypeD → Bool) (w : World) (a : Option Addr) (cap : Nat) (s : List TypeD) (eg : ∀ args w, (callFunc g args).run Try.prog w = .ok (.enter g args) w) (hp : TestAt TypeAt g lb p w) (hx : Row2 TypeAt w a s) (hm : s.length ≤ 1048576) :
    Calls Try.prog 52 #[.slice a s.length cap, .func (.func g) #[] lb] w fun e w' => (∃ z : Int, e = .returned (.int .i64 z) ∧ -1 ≤ z ∧ z ≤ 1048576 ∧ decide (0 ≤ z) = s.any p) ∧ Below w.heap.size w w' := by
  have HX := Lib.hid hx
  have HP := Lib.hid hp
  clear hx hp
  generalize hn : s.length = n at *
  have HN := Lib.hid hn
  clear hn
  go_enter Try.func52, Try.ntmps52
  go_wp2
  go_loopw [5, 8] (fun _ i wr => ∃ (k : Nat), k ≤ n ∧ i = .int .i64 k ∧ Hid (Below w.heap.size w wr) ∧ Hid (∀ (j : Nat) y, j < k → s[j]? = some y → p y = false)) (fun _ i _ => n - (intOf i).toNat)
  case atStart => exact ⟨0, Nat.zero_le _, rfl, Below.refl _ _, fun j _ h => by omega⟩
  case round =>
    obtain ⟨k, hk, rfl, hB, hne⟩ := hrel
    by_cases hlt : k < n
    · have hk' : k < s.length := by rw [HN.out]; exact hlt
      obtain ⟨y, u1, v1, rfl, hc0, hc1, hr1⟩ := row2_below type_below HX.out hB.out k hk'
      have hltz : (k : Int) < (n : Int) := by omega
      have hx : s[k]? = some s[k] := List.getElem?_eq_getElem hk'
      generalize s[k] = x at hx hr1
      have HXE := Lib.hid hx
      have hcall := HP.out wr x u1 v1 hB.out hr1
      clear hx hr1
      cases hq : p x with
      | true =>
        rw [hq] at hcall
        have HA : Hid (s.any p = true) := by
          unfold Hid
          rw [List.any_eq_true]
          obtain ⟨h1, h2⟩ := List.getElem?_eq_some_iff.1 HXE.out
          exact ⟨x, h2 ▸ List.getElem_mem h1, hq⟩
        clear hq
        go_wp2_with fail
        refine hcall.mono ?_
        rintro e w1 ⟨rfl, hb1⟩
        have HB1 := Lib.hid hb1
        clear hb1 hcall
        go_wp2
        go_ret
        exact ⟨⟨k, rfl, by omega, by omega, by rw [HA.out]; simp⟩, hB.out.trans (HB1.out.mono hB.out.size)⟩
      | false =>
        rw [hq] at hcall
        have HQ := Lib.hid hq
        clear hq
        go_wp2_with fail
        refine hcall.mono ?_
        rintro e w1 ⟨rfl, hb1⟩
        have HB1 := Lib.hid hb1
        clear hb1 hcall
        go_wp2
        go_roundw
        case rel =>
          refine ⟨k + 1, by omega, by go_num, hB.out.trans (HB1.out.mono hB.out.size), fun j z hj hz => ?_⟩
          rcases Nat.lt_or_ge j k with h3 | h3
          · exact hne.out j z h3 hz
          · obtain rfl : j = k := by omega
            have := HXE.out
            rw [this] at hz
            obtain rfl := Option.some.inj hz
            exact HQ.out
        case measure => simp [intOf]; omega
    · have HA : Hid (s.any p = false) := by
        unfold Hid
        rw [List.any_eq_false]
        intro x hx
        obtain ⟨j, hj, e⟩ := List.mem_iff_getElem.1 hx
        simp [hne.out j x (by have := HN.out; omega) (by rw [List.getElem?_eq_getElem hj, e])]
      go_wp2
      go_ret
      exact ⟨⟨-1, rfl, by omega, by omega, by rw [HA.out]; rfl⟩, hB.out⟩

set_option maxRecDepth 100000 in
theorem any_types (g : Nat) (lb : Array Value) (p : TypeD → Bool) (w : World) (a : Option Addr) (cap : Nat) (s : List TypeD) (eg : ∀ args w, (callFunc g args).run Try.prog w = .ok (.enter g args) w) (hp : TestAt TypeAt g lb p w) (hx : Row2 TypeAt w a s) (hm : s.length ≤ 1048576) :
    Calls Try.prog 40 #[.slice a s.length cap, .func (.func g) #[] lb] w fun e w' => e = .returned (.bool (s.any p)) ∧ Below w.heap.size w w' := by
  have H := index_types g lb p w a cap s eg hp hx hm
  clear hp hx
  generalize s.any p = b at *
  go_enter Try.func40, Try.ntmps40
  go_wp2_with fail
  refine H.mono ?_
  rintro e w1 ⟨⟨z, rfl, h1, h2, h3⟩, hb⟩
  have HB := Lib.hid hb
  clear hb
  go_wp2
  go_ret
  exact ⟨rfl, HB.out⟩
end Go.Proofs.Ytcmpaccpdjcocaa
