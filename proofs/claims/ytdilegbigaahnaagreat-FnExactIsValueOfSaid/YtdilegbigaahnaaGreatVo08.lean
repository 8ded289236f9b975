/- What is proved here: a piece of the proof of YtdilegbigaahnaaGreatExactIsValueOf (IsType, ImplIsType, Words, Sets, SpecIndex, Index). Condition: none beyond what each part says. -/
import Derived.Test.YtdilegbigaahnaaGreatVo03
import Derived.Test.YtdilegbigaahnaaGreatVo01
import Derived.Test.YtdilegbigaahnaaGreatVo02
import Derived.Maps.OwnSet
import Derived.StringKeys
import Derived.Lib.SlicesS
import Derived.Test.YtdilegbigaahnaaGreatVo07

/- What is proved here: IsType, of the model and of the program (with the library's ContainsFunc, IndexFunc), says whether a type is basic or declared. Condition: the signature lies in memory as said, and is small. -/
section
namespace Go.Proofs.YtdilegbigaahnaaGreat
open Go.RowKit

def isBasic (nm : ByteArray) : Bool := (nm.toList == [105, 110, 116]) || (nm.toList == [116, 101, 120, 116])

theorem impl_basic (nm : ByteArray) (w : World) : Calls Tryz.prog 111 #[.string nm] w fun e w' => e = .returned (.bool (isBasic nm)) ∧ w' = w := by
  unfold isBasic
  by_cases h1 : (nm.toList == [105, 110, 116]) = true
  · rw [h1]
    go_enter Tryz.func111, Tryz.ntmps111
    go_wp2
    go_ret
    exact ⟨rfl, rfl⟩
  · have h1 : (nm.toList == [105, 110, 116]) = false := by simpa using h1
    rw [h1]
    go_enter Tryz.func111, Tryz.ntmps111
    go_wp2
    go_ret
    exact ⟨by simp, rfl⟩

def isTypeB (s : List TypeD) (nm : ByteArray) : Bool := isBasic nm || (theType s nm).isSome

set_option maxHeartbeats 1000000 in
set_option maxRecDepth 100000 in
theorem spec_isType (w : World) (a : Option Addr) (cap : Nat) (s : List TypeD) (nm : ByteArray) (hx : Row2 TypeAt w a s) (hm : s.length ≤ 1048576) (hs : ∀ c ∈ s, c.cons.length ≤ 1048576 ∧ ∀ d ∈ c.cons, d.args.length ≤ 1048576) :
    Calls Tryz.prog 31 #[.agg #[.slice a s.length cap], .string nm] w fun e w' => e = .returned (.bool (isTypeB s nm)) ∧ Below w.heap.size w w' := by
  have HX := Lib.hid hx
  have HS := Lib.hid hs
  clear hx hs
  have hB : Below w.heap.size w (w.alloc (.cells #[.slice a s.length cap] 33)) := (Below.refl _ _).alloc (Nat.le_refl _) _
  have HB := Lib.hid hB
  clear hB
  have HI : Hid (isTypeB s nm = ((theType s nm).isSome || ((nm.toList == [105, 110, 116]) || (nm.toList == [116, 101, 120, 116])))) := by
    unfold Hid isTypeB isBasic
    rw [Bool.or_comm]
  go_enter Tryz.func31, Tryz.ntmps31
  go_wp2_with fail
  refine (spec_findType _ a cap s nm (row2_below type_below HX.out HB.out) hm HS.out).mono ?_
  rintro e w1 ⟨hb1, h⟩
  have HB1 : Hid (Below w.heap.size w w1) := HB.out.trans (hb1.mono HB.out.size)
  clear hb1
  rcases h with ⟨x, u, v, hx, rfl, ho⟩ | ⟨hx, rfl⟩
  · obtain ⟨rfl, a2, cap2, rfl, _⟩ := ho
    rw [hx] at HI
    have HT : Hid (isTypeB s nm = true) := HI.out
    clear HI hx
    go_wp2
    go_ret
    exact ⟨by rw [HT.out]; rfl, HB1.out.alloc HB1.out.size _⟩
  · rw [hx] at HI
    clear hx
    by_cases h1 : (nm.toList == [105, 110, 116]) = true
    · rw [h1] at HI
      have HT : Hid (isTypeB s nm = true) := HI.out
      clear HI
      go_wp2
      go_ret
      exact ⟨by rw [HT.out]; rfl, HB1.out.alloc HB1.out.size _⟩
    · have h1 : (nm.toList == [105, 110, 116]) = false := by simpa using h1
      rw [h1] at HI
      have HT : Hid (isTypeB s nm = (nm.toList == [116, 101, 120, 116])) := HI.out
      clear HI
      go_wp2
      go_ret
      exact ⟨by rw [HT.out]; rfl, HB1.out.alloc HB1.out.size _⟩

/-- What is asked of a test on structs of two cells: it answers p, and leaves old memory alone. -/
def TestAt {α : Type} (R : World → α → Value → Value → Prop) (g : Nat) (lb : Array Value) (p : α → Bool) (w : World) : Prop :=
  ∀ (W : World) (x : α) (u v : Value), Below w.heap.size w W → R W x u v → Calls Tryz.prog g (#[.agg #[u, v]] ++ lb) W fun e w' => e = .returned (.bool (p x)) ∧ Below W.heap.size W w'

set_option maxHeartbeats 1000000 in
set_option maxRecDepth 100000 in
theorem index_types (g : Nat) (lb : Array Value) (p : TypeD → Bool) (w : World) (a : Option Addr) (cap : Nat) (s : List TypeD) (eg : ∀ args w, (callFunc g args).run Tryz.prog w = .ok (.enter g args) w) (hp : TestAt TypeAt g lb p w) (hx : Row2 TypeAt w a s) (hm : s.length ≤ 1048576) :
    Calls Tryz.prog 120 #[.slice a s.length cap, .func (.func g) #[] lb] w fun e w' => (∃ z : Int, e = .returned (.int .i64 z) ∧ -1 ≤ z ∧ z ≤ 1048576 ∧ decide (0 ≤ z) = s.any p) ∧ Below w.heap.size w w' := by
  have HX := Lib.hid hx
  have HP := Lib.hid hp
  clear hx hp
  generalize hn : s.length = n at *
  have HN := Lib.hid hn
  clear hn
  go_enter Tryz.func120, Tryz.ntmps120
  go_wp2
  go_loopw [5, 8] (fun _ i wr => ∃ (k : Nat), k ≤ n ∧ i = .int .i64 k ∧ Hid (Below w.heap.size w wr) ∧ Hid (∀ (j : Nat) y, j < k → s[j]? = some y → p y = false)) (fun _ i _ => n - (intOf i).toNat)
  case atStart => exact ⟨0, Nat.zero_le _, rfl, Below.refl _ _, fun j _ h => by omega⟩
  case round =>
    obtain ⟨k, hk, rfl, hB, hne⟩ := hrel
    by_cases hlt : k < n
    · have hk' : k < s.length := by rw [HN.out]; exact hlt
      obtain ⟨y, u1, v1, rfl, hc0, hc1, hr1⟩ := row2_below type_below HX.out hB.out k hk'
      have hltz : (k : Int) < (n : Int) := by omega
      have hx : s[k]? = some s[k] := List.getElem?_eq_getElem hk'
      generalize s[k] = x at hx hr1
      have HXE := Lib.hid hx
      have hcall := HP.out wr x u1 v1 hB.out hr1
      clear hx hr1
      cases hq : p x with
      | true =>
        rw [hq] at hcall
        have HA : Hid (s.any p = true) := by
          unfold Hid
          rw [List.any_eq_true]
          obtain ⟨h1, h2⟩ := List.getElem?_eq_some_iff.1 HXE.out
          exact ⟨x, h2 ▸ List.getElem_mem h1, hq⟩
        clear hq
        go_wp2_with fail
        refine hcall.mono ?_
        rintro e w1 ⟨rfl, hb1⟩
        have HB1 := Lib.hid hb1
        clear hb1 hcall
        go_wp2
        go_ret
        exact ⟨⟨k, rfl, by omega, by omega, by rw [HA.out]; simp⟩, hB.out.trans (HB1.out.mono hB.out.size)⟩
      | false =>
        rw [hq] at hcall
        have HQ := Lib.hid hq
        clear hq
        go_wp2_with fail
        refine hcall.mono ?_
        rintro e w1 ⟨rfl, hb1⟩
        have HB1 := Lib.hid hb1
        clear hb1 hcall
        go_wp2
        go_roundw
        case rel =>
          refine ⟨k + 1, by omega, by go_num, hB.out.trans (HB1.out.mono hB.out.size), fun j z hj hz => ?_⟩
          rcases Nat.lt_or_ge j k with h3 | h3
          · exact hne.out j z h3 hz
          · obtain rfl : j = k := by omega
            have := HXE.out
            rw [this] at hz
            obtain rfl := Option.some.inj hz
            exact HQ.out
        case measure => simp [intOf]; omega
    · have HA : Hid (s.any p = false) := by
        unfold Hid
        rw [List.any_eq_false]
        intro x hx
        obtain ⟨j, hj, e⟩ := List.mem_iff_getElem.1 hx
        simp [hne.out j x (by have := HN.out; omega) (by rw [List.getElem?_eq_getElem hj, e])]
      go_wp2
      go_ret
      exact ⟨⟨-1, rfl, by omega, by omega, by rw [HA.out]; rfl⟩, hB.out⟩

set_option maxRecDepth 100000 in
theorem any_types (g : Nat) (lb : Array Value) (p : TypeD → Bool) (w : World) (a : Option Addr) (cap : Nat) (s : List TypeD) (eg : ∀ args w, (callFunc g args).run Tryz.prog w = .ok (.enter g args) w) (hp : TestAt TypeAt g lb p w) (hx : Row2 TypeAt w a s) (hm : s.length ≤ 1048576) :
    Calls Tryz.prog 112 #[.slice a s.length cap, .func (.func g) #[] lb] w fun e w' => e = .returned (.bool (s.any p)) ∧ Below w.heap.size w w' := by
  have H := index_types g lb p w a cap s eg hp hx hm
  clear hp hx
  generalize s.any p = b at *
  go_enter Tryz.func112, Tryz.ntmps112
  go_wp2_with fail
  refine H.mono ?_
  rintro e w1 ⟨⟨z, rfl, h1, h2, h3⟩, hb⟩
  have HB := Lib.hid hb
  clear hb
  go_wp2
  go_ret
  exact ⟨rfl, HB.out⟩
end Go.Proofs.YtdilegbigaahnaaGreat
end

/- What is proved here: the program's IsType says whether a type is basic or declared. Condition: the signature lies in memory as said, and is small. -/
section
namespace Go.Proofs.YtdilegbigaahnaaGreat
open Go.RowKit

theorem call_enters {P : Program} {f : FuncId} {fn : Func} {c : Code} (hf : P.funcs[f]? = some fn) (hn : (fn.name == "runtime.NumGoroutine") = false) (hb : fn.body = some c) (args : Array Value) (w : World) : (callFunc f args).run P w = .ok (.enter f args) w := by
  have h1 : fn.name ≠ "runtime.NumGoroutine" := by simpa using hn
  simp [callFunc, hf, h1, hb, mark]

/-- The closure of IsType: is this the type of that name? The name lies in a cell of the caller's. -/
theorem test_named (nm : ByteArray) (B : Nat) (w : World) (hc : w.cell? ⟨B, 0, none⟩ = some (.string nm)) : TestAt TypeAt 113 #[.pointer (some ⟨B, 0, none⟩)] (TypeD.named nm) w := by
  intro W x u v hb hr
  obtain ⟨a, cap, rfl, rfl, _⟩ := hr
  have hc2 := cell_below hc hb
  have hne : (W.alloc (.cells #[.string x.name, .slice a x.cons.length cap] 71)).cell? ⟨B, 0, none⟩ = some (.string nm) := cell_below hc2 ((Below.refl _ _).alloc (Nat.le_refl _) _)
  have HB : Hid (Below W.heap.size W (W.alloc (.cells #[.string x.name, .slice a x.cons.length cap] 71))) := (Below.refl _ _).alloc (Nat.le_refl _) _
  clear hb hc
  show Calls Tryz.prog 113 #[.agg #[.string x.name, .slice a x.cons.length cap], .pointer (some ⟨B, 0, none⟩)] W _
  unfold TypeD.named
  go_enter Tryz.func113, Tryz.ntmps113
  go_wp2
  go_ret
  exact ⟨rfl, HB.out⟩

set_option maxHeartbeats 1000000 in
set_option maxRecDepth 100000 in
theorem impl_isType (w : World) (a : Option Addr) (cap : Nat) (s : List TypeD) (nm : ByteArray) (hx : Row2 TypeAt w a s) (hm : s.length ≤ 1048576) :
    Calls Tryz.prog 99 #[.agg #[.slice a s.length cap], .string nm] w fun e w' => e = .returned (.bool (isTypeB s nm)) ∧ Below w.heap.size w w' := by
  obtain ⟨w2, h2⟩ : ∃ w2, w2 = (w.alloc (.cells #[.slice a s.length cap] 33)).alloc (.cells #[.string nm] 9) := ⟨_, rfl⟩
  have s1 : (w.alloc (.cells #[.slice a s.length cap] 33)).heap.size = w.heap.size + 1 := Array.size_push _
  have hB : Below w.heap.size w w2 := by rw [h2]; exact ((Below.refl _ _).alloc (Nat.le_refl _) _).alloc (by omega) _
  have hp1 : w2.heap[w.heap.size + 1]? = some (.cells #[.string nm] 9 (0, 0)) := by
    rw [h2, ← s1]
    exact heap_at_new _ _
  have hp0 : w2.cell? ⟨w.heap.size, 0, none⟩ = some (.slice a s.length cap) := by
    rw [h2]
    exact cell_below (one_cell (heap_at_new w _)).1 ((Below.refl _ _).alloc (Nat.le_refl _) _)
  have eg : ∀ args w, (callFunc 113 args).run Tryz.prog w = .ok (.enter 113 args) w := call_enters Tryz.func113 (by kernel_rfl) rfl
  have H := any_types 113 #[.pointer (some ⟨w.heap.size + 1, 0, none⟩)] (TypeD.named nm) w2 a cap s eg (test_named nm (w.heap.size + 1) w2 (one_cell hp1).1) (row2_below type_below hx hB) hm
  have e1 : s.any (TypeD.named nm) = (theType s nm).isSome := by unfold theType; rw [List.isSome_find?]
  rw [e1] at H
  have HI : Hid (isTypeB s nm = (isBasic nm || (theType s nm).isSome)) := rfl
  have H2 := Lib.hid h2
  have HB := Lib.hid hB
  clear hx hp1 s1 h2 hB e1 eg
  generalize (theType s nm).isSome = b at *
  cases hbn : isBasic nm with
  | true =>
    rw [hbn] at HI
    have HBN := Lib.hid hbn
    clear hbn
    go_enter Tryz.func99, Tryz.ntmps99
    go_wp2_with fail
    rw [← H2.out]
    refine (impl_basic nm w2).mono ?_
    rintro e w3 ⟨rfl, rfl⟩
    rw [HBN.out]
    go_wp2
    go_ret
    exact ⟨by rw [HI.out]; rfl, HB.out⟩
  | false =>
    rw [hbn] at HI
    have HBN := Lib.hid hbn
    clear hbn
    go_enter Tryz.func99, Tryz.ntmps99
    go_wp2_with fail
    rw [← H2.out]
    refine (impl_basic nm w2).mono ?_
    rintro e w3 ⟨rfl, rfl⟩
    rw [HBN.out]
    go_wp2_with fail
    refine H.mono ?_
    rintro e w4 ⟨rfl, hb4⟩
    have HB4 : Hid (Below w.heap.size w w4) := HB.out.trans (hb4.mono HB.out.size)
    clear hb4 H
    go_wp2
    go_ret
    exact ⟨by rw [HI.out]; rfl, HB4.out⟩
end Go.Proofs.YtdilegbigaahnaaGreat
end

/- What is proved here: the program's tests on words (impl: isLowerOrDigit, isWord) and the model's (spec: l2Lower, l2Digit, l2Rest, l1In) say what a word is. Condition: the text's length is a length. -/
section
namespace Go.Proofs.YtdilegbigaahnaaGreat
open Go.RowKit

/-- A lower-case letter or a digit. -/
def Good (c : UInt8) : Prop := (97 ≤ c.toNat ∧ c.toNat ≤ 122) ∨ (48 ≤ c.toNat ∧ c.toNat ≤ 57)
/-- 1 to 8 bytes, the first from lo to hi, the others lower-case letters or digits. -/
def Word (lo hi : Nat) (s : ByteArray) : Prop := 1 ≤ s.size ∧ s.size ≤ 8 ∧ (∀ h : 0 < s.size, lo ≤ s[0].toNat ∧ s[0].toNat ≤ hi) ∧ ∀ j (h : j < s.size), 1 ≤ j → Good s[j]
theorem impl_good (c : UInt8) (w : World) :
    Calls Tryz.prog 110 #[.int .u8 (c.toNat : Int)] w fun e w' => e = .returned (.bool (bl (Good c))) ∧ w = w' := by
  have h0 : 0 ≤ c.toNat := Nat.zero_le _
  have h255 : c.toNat < 256 := c.toNat_lt
  have HG : Hid (bl (Good c) = (decide (97 ≤ (c.toNat : Int)) && decide ((c.toNat : Int) ≤ 122) || decide (48 ≤ (c.toNat : Int)) && decide ((c.toNat : Int) ≤ 57))) := by
    unfold Hid
    by_cases h : Good c
    · rw [bl_true h]
      symm
      unfold Good at h
      simp
      omega
    · rw [bl_false h]
      symm
      unfold Good at h
      simp
      omega
  generalize c.toNat = n at *
  generalize bl (Good c) = b at *
  by_cases h1 : 97 ≤ n
  · have e1 : decide (97 ≤ (n : Int)) = true := by simp; omega
    by_cases h2 : n ≤ 122
    · have e2 : decide ((n : Int) ≤ 122) = true := by simp; omega
      have HB : Hid (b = true) := by unfold Hid; rw [HG.out, e1, e2]; rfl
      go_enter Tryz.func110, Tryz.ntmps110
      go_wp2
      go_ret
      exact ⟨by rw [HB.out]; rfl, rfl⟩
    · have e2 : decide ((n : Int) ≤ 122) = false := by simp; omega
      have e3 : decide (48 ≤ (n : Int)) = true := by simp; omega
      have e4 : decide ((n : Int) ≤ 57) = false := by simp; omega
      have HB : Hid (b = false) := by unfold Hid; rw [HG.out, e1, e2, e3, e4]; rfl
      go_enter Tryz.func110, Tryz.ntmps110
      go_wp2
      go_ret
      exact ⟨by rw [HB.out]; simp, rfl⟩
  · have e1 : decide (97 ≤ (n : Int)) = false := by simp; omega
    by_cases h3 : 48 ≤ n
    · have e3 : decide (48 ≤ (n : Int)) = true := by simp; omega
      have HB : Hid (b = decide ((n : Int) ≤ 57)) := by unfold Hid; rw [HG.out, e1, e3]; simp
      go_enter Tryz.func110, Tryz.ntmps110
      go_wp2
      go_ret
      exact ⟨by rw [HB.out]; rfl, rfl⟩
    · have e3 : decide (48 ≤ (n : Int)) = false := by simp; omega
      have HB : Hid (b = false) := by unfold Hid; rw [HG.out, e1, e3]; simp
      go_enter Tryz.func110, Tryz.ntmps110
      go_wp2
      go_ret
      exact ⟨by rw [HB.out]; rfl, rfl⟩

set_option maxHeartbeats 1000000 in
set_option maxRecDepth 100000 in
theorem impl_word (s : ByteArray) (lo hi : Nat) (hs : s.size ≤ maxLen) (w : World) :
    Calls Tryz.prog 96 #[.string s, .int .u8 (lo : Int), .int .u8 (hi : Int)] w fun e w' => e = .returned (.bool (bl (Word lo hi s))) ∧ Below w.heap.size w w' := by
  unfold maxLen at hs
  by_cases h0 : s.size < 1
  · rw [bl_false (fun h => by have := h.1; omega)]
    go_enter Tryz.func96, Tryz.ntmps96
    go_wp2
    go_ret
    exact ⟨rfl, Below.refl _ _⟩
  · have hp : 0 < s.size := by omega
    by_cases h8 : 8 < s.size
    · rw [bl_false (fun h => by have := h.2.1; omega)]
      go_enter Tryz.func96, Tryz.ntmps96
      go_wp2
      go_ret
      exact ⟨rfl, Below.refl _ _⟩
    · by_cases hl : s[0].toNat < lo
      · rw [bl_false (fun h => by have := (h.2.2.1 hp).1; omega)]
        go_enter Tryz.func96, Tryz.ntmps96
        go_wp2
        go_ret
        exact ⟨rfl, Below.refl _ _⟩
      · by_cases hh : hi < s[0].toNat
        · rw [bl_false (fun h => by have := (h.2.2.1 hp).2; omega)]
          go_enter Tryz.func96, Tryz.ntmps96
          go_wp2
          go_ret
          exact ⟨rfl, Below.refl _ _⟩
        · go_enter Tryz.func96, Tryz.ntmps96
          go_wp2
          go_loopw [7] (fun i wr => ∃ k : Nat, 1 ≤ k ∧ k ≤ s.size ∧ i = .int .i64 k ∧ (∀ j (h : j < s.size), 1 ≤ j → j < k → Good s[j]) ∧ Below w.heap.size w wr) (fun i _ => s.size - (intOf i).toNat)
          case atStart => exact ⟨1, Nat.le_refl _, by omega, rfl, fun j h h1 h2 => by omega, Below.refl _ _⟩
          case round =>
            obtain ⟨k, hk1, hk, rfl, hg, hB⟩ := hrel
            have HG := Lib.hid hg
            clear hg
            by_cases hlt : k < s.size
            · by_cases hgood : Good s[k]
              · have hb := bl_true hgood
                have HC := Lib.hid hgood
                clear hgood
                go_wp2_with fail
                refine (impl_good s[k] _).mono ?_
                rintro e w1 ⟨rfl, rfl⟩
                rw [hb]
                go_wp2
                go_roundw
                case rel =>
                  refine ⟨k + 1, by omega, by omega, by go_num, fun j h h1 h2 => ?_, hB⟩
                  rcases Nat.lt_or_ge j k with h3 | h3
                  · exact HG.out j h h1 h3
                  · obtain rfl : j = k := by omega
                    exact HC.out
                case measure => simp [intOf]; omega
              · have hb := bl_false hgood
                have hR : bl (Word lo hi s) = false := bl_false (fun h => hgood (h.2.2.2 k hlt hk1))
                have HR := Lib.hid hR
                clear hgood hR
                go_wp2_with fail
                refine (impl_good s[k] _).mono ?_
                rintro e w1 ⟨rfl, rfl⟩
                rw [hb]
                go_wp2
                go_ret
                exact ⟨by rw [HR.out]; rfl, hB⟩
            · have hR : bl (Word lo hi s) = true := bl_true ⟨by omega, by omega, fun _ => ⟨by omega, by omega⟩, fun j h h1 => HG.out j h h1 (by omega)⟩
              have HR := Lib.hid hR
              clear hR
              go_wp2
              go_ret
              exact ⟨by rw [HR.out]; rfl, hB⟩

theorem spec_lower (c : UInt8) (w : World) :
    Calls Tryz.prog 92 #[.int .u8 (c.toNat : Int)] w fun e w' => e = .returned (.bool (bl (97 ≤ c.toNat ∧ c.toNat ≤ 122))) ∧ w = w' := by
  have h255 : c.toNat < 256 := c.toNat_lt
  generalize c.toNat = n at *
  by_cases h1 : 97 ≤ n
  · have e1 : decide (97 ≤ (n : Int)) = true := by simp; omega
    have HB : Hid (bl (97 ≤ n ∧ n ≤ 122) = decide ((n : Int) ≤ 122)) := by
      by_cases h2 : n ≤ 122
      · exact (bl_true ⟨h1, h2⟩).trans (by symm; simp; omega)
      · exact (bl_false (fun h => h2 h.2)).trans (by symm; simp; omega)
    go_enter Tryz.func92, Tryz.ntmps92
    go_wp2
    go_ret
    exact ⟨by rw [HB.out]; rfl, rfl⟩
  · have e1 : decide (97 ≤ (n : Int)) = false := by simp; omega
    have HB : Hid (bl (97 ≤ n ∧ n ≤ 122) = false) := bl_false (fun h => h1 h.1)
    go_enter Tryz.func92, Tryz.ntmps92
    go_wp2
    go_ret
    exact ⟨by rw [HB.out]; rfl, rfl⟩

theorem spec_digit (c : UInt8) (w : World) :
    Calls Tryz.prog 108 #[.int .u8 (c.toNat : Int)] w fun e w' => e = .returned (.bool (bl (48 ≤ c.toNat ∧ c.toNat ≤ 57))) ∧ w = w' := by
  have h255 : c.toNat < 256 := c.toNat_lt
  generalize c.toNat = n at *
  by_cases h1 : 48 ≤ n
  · have e1 : decide (48 ≤ (n : Int)) = true := by simp; omega
    have HB : Hid (bl (48 ≤ n ∧ n ≤ 57) = decide ((n : Int) ≤ 57)) := by
      by_cases h2 : n ≤ 57
      · exact (bl_true ⟨h1, h2⟩).trans (by symm; simp; omega)
      · exact (bl_false (fun h => h2 h.2)).trans (by symm; simp; omega)
    go_enter Tryz.func108, Tryz.ntmps108
    go_wp2
    go_ret
    exact ⟨by rw [HB.out]; rfl, rfl⟩
  · have e1 : decide (48 ≤ (n : Int)) = false := by simp; omega
    have HB : Hid (bl (48 ≤ n ∧ n ≤ 57) = false) := bl_false (fun h => h1 h.1)
    go_enter Tryz.func108, Tryz.ntmps108
    go_wp2
    go_ret
    exact ⟨by rw [HB.out]; rfl, rfl⟩

theorem spec_in (n lo hi : Nat) (w : World) :
    Calls Tryz.prog 43 #[.int .i64 (n : Int), .int .i64 (lo : Int), .int .i64 (hi : Int)] w fun e w' => e = .returned (.bool (bl (lo ≤ n ∧ n ≤ hi))) ∧ w = w' := by
  by_cases h1 : lo ≤ n
  · have e1 : decide ((lo : Int) ≤ (n : Int)) = true := by simp; omega
    have HB : Hid (bl (lo ≤ n ∧ n ≤ hi) = decide (n ≤ hi)) := by
      by_cases h2 : n ≤ hi
      · exact (bl_true ⟨h1, h2⟩).trans (by symm; simp; omega)
      · exact (bl_false (fun h => h2 h.2)).trans (by symm; simp; omega)
    go_enter Tryz.func43, Tryz.ntmps43
    go_wp2
    go_ret
    exact ⟨by rw [HB.out]; rfl, rfl⟩
  · have e1 : decide ((lo : Int) ≤ (n : Int)) = false := by simp; omega
    have HB : Hid (bl (lo ≤ n ∧ n ≤ hi) = false) := bl_false (fun h => h1 h.1)
    go_enter Tryz.func43, Tryz.ntmps43
    go_wp2
    go_ret
    exact ⟨by rw [HB.out]; rfl, rfl⟩

/-- What l2Rest asks. -/
def Rest (s : ByteArray) : Prop := 1 ≤ s.size ∧ s.size ≤ 8 ∧ ∀ j (h : j < s.size), 1 ≤ j → Good s[j]

set_option maxHeartbeats 1000000 in
set_option maxRecDepth 100000 in
theorem spec_rest (s : ByteArray) (hs : s.size ≤ maxLen) (w : World) :
    Calls Tryz.prog 91 #[.string s] w fun e w' => e = .returned (.bool (bl (Rest s))) ∧ Below w.heap.size w w' := by
  unfold maxLen at hs
  go_enter Tryz.func91, Tryz.ntmps91
  go_wp2
  go_loopw [3] (fun i wr => ∃ k : Nat, 1 ≤ k ∧ (k ≤ s.size ∨ k = 1) ∧ i = .int .i64 k ∧ (∀ j (h : j < s.size), 1 ≤ j → j < k → Good s[j]) ∧ Below w.heap.size w wr) (fun i _ => s.size - (intOf i).toNat)
  case atStart => exact ⟨1, Nat.le_refl _, .inr rfl, rfl, fun j h h1 h2 => by omega, Below.refl _ _⟩
  case round =>
    obtain ⟨k, hk1, hk, rfl, hg, hB⟩ := hrel
    have HG := Lib.hid hg
    clear hg
    by_cases hlt : k < s.size
    · by_cases hl : 97 ≤ s[k].toNat ∧ s[k].toNat ≤ 122
      · have hb := bl_true hl
        have HC : Hid (Good s[k]) := .inl hl
        clear hl hk
        go_wp2_with fail
        refine (spec_lower s[k] _).mono ?_
        rintro e w1 ⟨rfl, rfl⟩
        rw [hb]
        go_wp2
        go_roundw
        case rel =>
          refine ⟨k + 1, by omega, by omega, by go_num, fun j h h1 h2 => ?_, hB⟩
          rcases Nat.lt_or_ge j k with h3 | h3
          · exact HG.out j h h1 h3
          · obtain rfl : j = k := by omega
            exact HC.out
        case measure => simp [intOf]; omega
      · have hb := bl_false hl
        by_cases hd : 48 ≤ s[k].toNat ∧ s[k].toNat ≤ 57
        · have hb2 := bl_true hd
          have HC : Hid (Good s[k]) := .inr hd
          clear hl hd hk
          go_wp2_with fail
          refine (spec_lower s[k] _).mono ?_
          rintro e w1 ⟨rfl, rfl⟩
          rw [hb]
          go_wp2_with fail
          refine (spec_digit s[k] _).mono ?_
          rintro e w1 ⟨rfl, rfl⟩
          rw [hb2]
          go_wp2
          go_roundw
          case rel =>
            refine ⟨k + 1, by omega, by omega, by go_num, fun j h h1 h2 => ?_, hB⟩
            rcases Nat.lt_or_ge j k with h3 | h3
            · exact HG.out j h h1 h3
            · obtain rfl : j = k := by omega
              exact HC.out
          case measure => simp [intOf]; omega
        · have hb2 := bl_false hd
          have hR : bl (Rest s) = false := bl_false (fun h => by
            rcases h.2.2 k hlt hk1 with h | h
            · exact hl h
            · exact hd h)
          have HR := Lib.hid hR
          clear hl hd hk hR
          go_wp2_with fail
          refine (spec_lower s[k] _).mono ?_
          rintro e w1 ⟨rfl, rfl⟩
          rw [hb]
          go_wp2_with fail
          refine (spec_digit s[k] _).mono ?_
          rintro e w1 ⟨rfl, rfl⟩
          rw [hb2]
          go_wp2
          go_ret
          exact ⟨by rw [HR.out]; rfl, hB⟩
    · have hR : bl (Rest s) = bl (1 ≤ s.size ∧ s.size ≤ 8) := bl_congr ⟨fun h => ⟨h.1, h.2.1⟩, fun h => ⟨h.1, h.2, fun j hj h1 => HG.out j hj h1 (by omega)⟩⟩
      have HR := Lib.hid hR
      clear hR hk
      go_wp2_with fail
      refine (spec_in s.size 1 8 _).mono ?_
      rintro e w1 ⟨rfl, rfl⟩
      go_wp2
      go_ret
      exact ⟨by rw [HR.out]; rfl, hB⟩
end Go.Proofs.YtdilegbigaahnaaGreat
end

/- What is proved here: laws on a set of texts that a call keeps as a map from string to bool (all its values true): made, stored into (also by a literal), looked up. Conditions: the texts' lengths are lengths. -/
section
namespace Go.Proofs.YtdilegbigaahnaaGreat
open Go.RowKit Go.Maps Go.ChangeMaps

def strLit (s : ByteArray) : Lit := .string s.data.toList
theorem strLit_inj {a b : ByteArray} (h : strLit a = strLit b) : a = b := by
  unfold strLit at h
  injection h with h
  exact ByteArray.ext (Array.toList_inj.1 h)
theorem strLit_key (s : ByteArray) : WideAt.IsKeyLit (strLit s) := True.intro
abbrev yes : DataW Unit := .lit (.bool true)
abbrev no : DataW Unit := .lit (.bool false)

theorem at_fold (s : ByteArray) : ∀ (xs : List ByteArray) (m : DataW Unit), IsMap m → ((xs.map strLit).foldl (fun m x => m.put x yes) m).atKey (strLit s) no = bif bl (s ∈ xs) then yes else m.atKey (strLit s) no
  | [], m, _ => by rw [bl_false (by simp)]; rfl
  | x :: r, m, hm => by
    rw [List.map_cons, List.foldl_cons, at_fold s r (m.put (strLit x) yes) (hm.put _ _)]
    by_cases hr : s ∈ r
    · rw [bl_true hr, bl_true (List.mem_cons_of_mem _ hr)]
      rfl
    · rw [bl_false hr]
      by_cases e : s = x
      · subst e
        rw [atKey_put_same hm (strLit_key s), bl_true (by simp)]
        rfl
      · rw [atKey_put_other (fun h => e (strLit_inj h)), bl_false (by simp [hr, e])]
theorem at_setOf (s : ByteArray) (xs : List ByteArray) : (setOf yes (xs.map strLit)).atKey (strLit s) no = .lit (.bool (bl (s ∈ xs))) := by
  rw [setOf, at_fold s xs _ isMap_empty]
  generalize bl (s ∈ xs) = q
  cases q
  · rfl
  · rfl

set_option maxRecDepth 100000 in
theorem lawS : Keyed Tryz.prog 9 := string_keyed Tryz.underlying9
theorem zeroB (w : World) : (zeroValue 4).run Tryz.prog w = .ok (.bool false) w := by kernel_rfl
set_option maxRecDepth 100000 in
theorem keyS {s : ByteArray} (hs : s.size ≤ maxLen) : keyOf Tryz.prog 9 (.string s) = some (strLit s) := WideMaps.keyOf_string_mk Tryz.underlying9 hs

/-- Block b is a map that holds the texts xs, each with true; it has at most n entries. -/
def IsSet (w : World) (b n : Nat) (xs : List ByteArray) : Prop := w.ownsMap Tryz.prog 9 (plainElem (H := Unit) Tryz.prog 4) b n (setOf yes (xs.map strLit))

theorem isSet_made (w : World) : IsSet (w.alloc (.map #[] 0)) w.heap.size 0 [] := World.ownsMap_made w Tryz.prog 9 _
theorem IsSet.kept {w w' : World} {b n : Nat} {xs : List ByteArray} {row : Option Nat} (h : IsSet w b n xs) (hg : w.grownBy w' row) (hne : some b ≠ row) : IsSet w' b n xs := World.ownsMap.kept h hg hne
set_option maxRecDepth 100000 in
theorem IsSet.below {w w' : World} {b n : Nat} {xs : List ByteArray} (h : IsSet w b n xs) (hb : Below w.heap.size w w') : IsSet w' b n xs :=
  World.ownsMap.kept (row := none) h ⟨hb.os, hb.tape, hb.output, hb.size, fun k hk _ => hb.block k hk⟩ (by simp)
theorem IsSet.lt {w : World} {b n : Nat} {xs : List ByteArray} (h : IsSet w b n xs) : b < w.heap.size := World.ownsMap.lt h

set_option maxRecDepth 100000 in
/-- What a look-up finds. -/
theorem IsSet.look {w : World} {b n : Nat} {xs : List ByteArray} (h : IsSet w b n xs) (s : ByteArray) (hs : s.size ≤ maxLen) : (Instr.lookup 111 (.map (some b)) (.string s) false).run Tryz.prog w = .ok (.bool (bl (s ∈ xs))) w := by
  obtain ⟨v, ps, hrun, hv⟩ := World.ownsMap.lookup h lawS Tryz.underlying111 (zeroB w) (plainElem_bool Tryz.underlying4 false) (keyS hs)
  rw [hrun]
  rw [at_setOf] at hv
  have hvb : ∀ x : Bool, plainElem (H := Unit) Tryz.prog 4 v = some (.lit (.bool x), ps) → v = .bool x := by
    intro x h
    unfold plainElem at h
    rw [Tryz.underlying4] at h
    cases v <;> simp at h
    rw [h.1]
  rw [hvb _ hv]

theorem setOf_snoc' (xs : List ByteArray) (s : ByteArray) : (setOf yes (xs.map strLit)).put (strLit s) yes = setOf yes ((xs ++ [s]).map strLit) := by
  rw [List.map_append, List.map_cons, List.map_nil, setOf_snoc]

set_option maxRecDepth 100000 in
/-- A store. -/
theorem IsSet.put {w : World} {b n : Nat} {xs : List ByteArray} (h : IsSet w b n xs) (hn : n < maxLen) (s : ByteArray) (hs : s.size ≤ maxLen) :
    ∃ w', (Instr.mapUpdate 111 (.map (some b)) (.string s) (.bool true)).run Tryz.prog w = .ok () w' ∧ IsSet w' b (n + 1) (xs ++ [s]) ∧ w.grownBy w' (some b) := by
  obtain ⟨w', hrun, r1, r2⟩ := World.ownsMap.update h lawS Tryz.underlying111 hn (keyS hs) (plainElem_bool Tryz.underlying4 true)
  rw [setOf_snoc'] at r1
  exact ⟨w', hrun, r1, r2⟩
end Go.Proofs.YtdilegbigaahnaaGreat
end

/- What is proved here: the model's IndexOf (package spec) gives the first index. Condition: the slice reads as the list. -/
section
namespace Go.Proofs.YtdilegbigaahnaaGreat
open Go.RowKit

theorem getD_at (xs : List ByteArray) (k : Nat) (h : k < xs.length) : xs.getD k ByteArray.empty = xs[k] := by
  rw [List.getD_eq_getElem?_getD, List.getElem?_eq_getElem h]; rfl
theorem idx_hit (xs : List ByteArray) (k : Nat) (x : ByteArray) (hk : k < xs.length) (h : xs[k] = x) (hne : ∀ j (hj : j < xs.length), j < k → xs[j] ≠ x) : Lib.idxOfS xs x = k := by
  have := Lib.idxOfS_hit xs xs.length k x hk (Nat.le_refl _) (by rw [getD_at _ _ hk]; exact h) (fun j hj => by rw [getD_at _ _ (by omega)]; exact hne j (by omega) hj)
  rwa [List.take_length] at this
theorem idx_miss (xs : List ByteArray) (x : ByteArray) (hne : ∀ j (hj : j < xs.length), xs[j] ≠ x) : Lib.idxOfS xs x = -1 := by
  have := Lib.idxOfS_miss xs xs.length x (fun j hj => by rw [getD_at _ _ hj]; exact hne j hj)
  rwa [List.take_length] at this
theorem idx_lo (xs : List ByteArray) (x : ByteArray) : -1 ≤ Lib.idxOfS xs x ∧ Lib.idxOfS xs x < (xs.length : Int) ∨ Lib.idxOfS xs x = -1 := by
  by_cases h : x ∈ xs
  · obtain ⟨k, hk, hx, hmin⟩ : ∃ k, ∃ hk : k < xs.length, xs[k] = x ∧ ∀ j (hj : j < xs.length), j < k → xs[j] ≠ x := by
      have hex : ∃ k, ∃ hk : k < xs.length, xs[k] = x := by
        obtain ⟨k, hk, e⟩ := List.mem_iff_getElem.1 h
        exact ⟨k, hk, e⟩
      have key : ∀ n k, k ≤ n → (∃ hk : k < xs.length, xs[k] = x) → ∃ k, ∃ hk : k < xs.length, xs[k] = x ∧ ∀ j (hj : j < xs.length), j < k → xs[j] ≠ x := by
        intro n
        induction n with
        | zero =>
          intro k hk ⟨h1, h2⟩
          exact ⟨k, h1, h2, fun j hj h3 => by omega⟩
        | succ n ih =>
          intro k hk ⟨h1, h2⟩
          by_cases hex : ∃ j, ∃ hj : j < xs.length, j < k ∧ xs[j] = x
          · obtain ⟨j, hj, h3, h4⟩ := hex
            exact ih j (by omega) ⟨hj, h4⟩
          · exact ⟨k, h1, h2, fun j hj h3 h4 => hex ⟨j, hj, h3, h4⟩⟩
      obtain ⟨k, hk⟩ := hex
      exact key k k (Nat.le_refl _) hk
    rw [idx_hit xs k x hk hx hmin]
    left
    omega
  · right
    exact idx_miss xs x (fun j hj e => h (e ▸ List.getElem_mem hj))
theorem idx_mem (xs : List ByteArray) (x : ByteArray) : Lib.idxOfS xs x < 0 ↔ ¬ x ∈ xs := by
  rw [← Lib.idxOfS_nonneg_iff]
  omega

set_option maxHeartbeats 1000000 in
set_option maxRecDepth 100000 in
theorem spec_index (w : World) (a : Option Addr) (cap : Nat) (xs : List ByteArray) (s : ByteArray) (hx : Reads w a xs) (hm : xs.length ≤ maxLen) :
    Calls Tryz.prog 70 #[.slice a xs.length cap, .string s] w fun e w' => e = .returned (.int .i64 (Lib.idxOfS xs s)) ∧ w' = w := by
  unfold maxLen at hm
  have HX := Lib.hid hx
  clear hx
  generalize hn : xs.length = n at *
  have HN := Lib.hid hn
  clear hn
  go_enter Tryz.func70, Tryz.ntmps70
  go_wp2
  go_loop [5] (fun i => ∃ (k : Nat), k ≤ n ∧ i = .int .i64 k ∧ ∀ j (hj : j < xs.length), j < k → xs[j] ≠ s) (fun i => n - (intOf i).toNat)
  case atStart => exact ⟨0, Nat.zero_le _, rfl, fun j _ h => by omega⟩
  case round =>
    obtain ⟨k, hk, rfl, hne⟩ := hrel
    have HNE := Lib.hid hne
    clear hne
    by_cases hlt : k < n
    · have hk' : k < xs.length := by rw [HN.out]; exact hlt
      obtain ⟨y, rfl, hc⟩ := HX.out k hk'
      obtain ⟨x, hxe⟩ : ∃ x, xs[k] = x := ⟨_, rfl⟩
      rw [hxe] at hc
      have HXE := Lib.hid hxe
      clear hxe
      by_cases he : x = s
      · subst he
        have hb : (x.toList == x.toList) = true := by simp
        go_wp2
        go_ret
        refine ⟨?_, rfl⟩
        rw [idx_hit xs k x hk' HXE.out HNE.out]
        rfl
      · have hb : (x.toList == s.toList) = false := (Lib.bytes_beq_false_iff _ _).2 he
        have HE := Lib.hid he
        clear he
        go_wp2
        go_round
        case rel =>
          refine ⟨k + 1, by omega, by go_num, fun j hj h => ?_⟩
          rcases Nat.lt_or_ge j k with h3 | h3
          · exact HNE.out j hj h3
          · obtain rfl : j = k := by omega
            rw [HXE.out]
            exact HE.out
        case measure => simp [intOf]; omega
    · go_wp2
      go_ret
      refine ⟨?_, rfl⟩
      rw [idx_miss xs s (fun j hj => HNE.out j hj (by have := HN.out; omega))]
      rfl

end Go.Proofs.YtdilegbigaahnaaGreat
end

/- What is proved here: the model's IndexOf and AllDistinct (package spec) give the first index and say whether the texts are distinct. Condition: the slice reads as the list. -/
section
namespace Go.Proofs.YtdilegbigaahnaaGreat
open Go.RowKit

def Distinct (xs : List ByteArray) : Prop := ∀ j (hj : j < xs.length), Lib.idxOfS xs xs[j] = j

set_option maxHeartbeats 1000000 in
set_option maxRecDepth 100000 in
theorem spec_distinct (w : World) (a : Option Addr) (cap : Nat) (xs : List ByteArray) (hx : Reads w a xs) (hm : xs.length ≤ maxLen) :
    Calls Tryz.prog 40 #[.slice a xs.length cap] w fun e w' => e = .returned (.bool (bl (Distinct xs))) ∧ w' = w := by
  have hm' := hm
  unfold maxLen at hm'
  have HX := Lib.hid hx
  have HM := Lib.hid hm
  clear hx hm
  generalize hn : xs.length = n at *
  have HN := Lib.hid hn
  clear hn
  go_enter Tryz.func40, Tryz.ntmps40
  go_wp2
  go_loop [3] (fun i => ∃ (k : Nat), k ≤ n ∧ i = .int .i64 k ∧ ∀ j (hj : j < xs.length), j < k → Lib.idxOfS xs xs[j] = j) (fun i => n - (intOf i).toNat)
  case atStart => exact ⟨0, Nat.zero_le _, rfl, fun j _ h => by omega⟩
  case round =>
    obtain ⟨k, hk, rfl, hne⟩ := hrel
    have HNE := Lib.hid hne
    clear hne
    by_cases hlt : k < n
    · have hk' : k < xs.length := by rw [HN.out]; exact hlt
      have HS := spec_index w a cap xs
      rw [HN.out] at HS
      obtain ⟨y, rfl, hc⟩ := HX.out k hk'
      obtain ⟨x, hxe⟩ : ∃ x, xs[k] = x := ⟨_, rfl⟩
      rw [hxe] at hc
      have HXE := Lib.hid hxe
      clear hxe
      have hlo := idx_lo xs x
      by_cases he : Lib.idxOfS xs x = k
      · have hb : (Lib.idxOfS xs x == (k : Int)) = true := by rw [he]; simp
        have HE : Hid (Lib.idxOfS xs xs[k] = (k : Int)) := by unfold Hid; rw [HXE.out]; exact he
        clear he
        go_wp2_with fail
        refine (HS x HX.out HM.out).mono ?_
        rintro e w1 ⟨rfl, rfl⟩
        generalize Lib.idxOfS xs x = z at *
        go_wp2
        go_round
        case rel =>
          refine ⟨k + 1, by omega, by go_num, fun j hj h => ?_⟩
          rcases Nat.lt_or_ge j k with h3 | h3
          · exact HNE.out j hj h3
          · obtain rfl : j = k := by omega
            exact HE.out
        case measure => simp [intOf]; omega
      · have hb : (Lib.idxOfS xs x == (k : Int)) = false := by simpa using he
        have hR : bl (Distinct xs) = false := bl_false (fun h => he (by have := h k hk'; rwa [HXE.out] at this))
        have HR := Lib.hid hR
        clear he hR
        go_wp2_with fail
        refine (HS x HX.out HM.out).mono ?_
        rintro e w1 ⟨rfl, rfl⟩
        generalize Lib.idxOfS xs x = z at *
        go_wp2
        go_ret
        exact ⟨by rw [HR.out]; rfl, rfl⟩
    · have hR : bl (Distinct xs) = true := bl_true (fun j hj => HNE.out j hj (by have := HN.out; omega))
      have HR := Lib.hid hR
      clear hR
      go_wp2
      go_ret
      exact ⟨by rw [HR.out]; rfl, rfl⟩
end Go.Proofs.YtdilegbigaahnaaGreat
end
