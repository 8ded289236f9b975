/- What is proved here: a piece of the proof of YtdifefgigcjgeaaGreatDoorExactParsePat (Sets, Names, BlLen, ValidText, InInt, PatForm, ValidPat, Str, PatText, FirstWord). Condition: none beyond what each part says. -/
import Derived.Test.YtdifefgigcjgeaaGreatDoorPp01
import Derived.Maps.OwnSet
import Derived.StringKeys
import Derived.Lib.ItoaMem
import Derived.Lib.ItoaLen
import Derived.Lib.Join
import Derived.Laws.RangeAny
import Derived.Laws.RangeString

/- What is proved here: laws on a set of texts that a call keeps as a map from string to bool (all its values true): made, stored into (also by a literal), looked up. Conditions: the texts' lengths are lengths. -/
section
namespace Go.Proofs.YtdifefgigcjgeaaGreatDoor
open Go.RowKit Go.Maps Go.ChangeMaps

def strLit (s : ByteArray) : Lit := .string s.data.toList
theorem strLit_inj {a b : ByteArray} (h : strLit a = strLit b) : a = b := by
  unfold strLit at h
  injection h with h
  exact ByteArray.ext (Array.toList_inj.1 h)
theorem strLit_key (s : ByteArray) : WideAt.IsKeyLit (strLit s) := True.intro
abbrev yes : DataW Unit := .lit (.bool true)
abbrev no : DataW Unit := .lit (.bool false)

theorem at_fold (s : ByteArray) : ∀ (xs : List ByteArray) (m : DataW Unit), IsMap m → ((xs.map strLit).foldl (fun m x => m.put x yes) m).atKey (strLit s) no = bif bl (s ∈ xs) then yes else m.atKey (strLit s) no
  | [], m, _ => by rw [bl_false (by simp)]; rfl
  | x :: r, m, hm => by
    rw [List.map_cons, List.foldl_cons, at_fold s r (m.put (strLit x) yes) (hm.put _ _)]
    by_cases hr : s ∈ r
    · rw [bl_true hr, bl_true (List.mem_cons_of_mem _ hr)]
      rfl
    · rw [bl_false hr]
      by_cases e : s = x
      · subst e
        rw [atKey_put_same hm (strLit_key s), bl_true (by simp)]
        rfl
      · rw [atKey_put_other (fun h => e (strLit_inj h)), bl_false (by simp [hr, e])]
theorem at_setOf (s : ByteArray) (xs : List ByteArray) : (setOf yes (xs.map strLit)).atKey (strLit s) no = .lit (.bool (bl (s ∈ xs))) := by
  rw [setOf, at_fold s xs _ isMap_empty]
  generalize bl (s ∈ xs) = q
  cases q
  · rfl
  · rfl

set_option maxRecDepth 100000 in
theorem lawS : Keyed Tryz.prog 9 := string_keyed Tryz.underlying9
theorem zeroB (w : World) : (zeroValue 4).run Tryz.prog w = .ok (.bool false) w := by kernel_rfl
set_option maxRecDepth 100000 in
theorem keyS {s : ByteArray} (hs : s.size ≤ maxLen) : keyOf Tryz.prog 9 (.string s) = some (strLit s) := WideMaps.keyOf_string_mk Tryz.underlying9 hs

/-- Block b is a map that holds the texts xs, each with true; it has at most n entries. -/
def IsSet (w : World) (b n : Nat) (xs : List ByteArray) : Prop := w.ownsMap Tryz.prog 9 (plainElem (H := Unit) Tryz.prog 4) b n (setOf yes (xs.map strLit))

theorem isSet_made (w : World) : IsSet (w.alloc (.map #[] 0)) w.heap.size 0 [] := World.ownsMap_made w Tryz.prog 9 _
theorem IsSet.kept {w w' : World} {b n : Nat} {xs : List ByteArray} {row : Option Nat} (h : IsSet w b n xs) (hg : w.grownBy w' row) (hne : some b ≠ row) : IsSet w' b n xs := World.ownsMap.kept h hg hne
set_option maxRecDepth 100000 in
theorem IsSet.below {w w' : World} {b n : Nat} {xs : List ByteArray} (h : IsSet w b n xs) (hb : Below w.heap.size w w') : IsSet w' b n xs :=
  World.ownsMap.kept (row := none) h ⟨hb.os, hb.tape, hb.output, hb.size, fun k hk _ => hb.block k hk⟩ (by simp)
theorem IsSet.lt {w : World} {b n : Nat} {xs : List ByteArray} (h : IsSet w b n xs) : b < w.heap.size := World.ownsMap.lt h

set_option maxRecDepth 100000 in
/-- What a look-up finds. -/
theorem IsSet.look {w : World} {b n : Nat} {xs : List ByteArray} (h : IsSet w b n xs) (s : ByteArray) (hs : s.size ≤ maxLen) : (Instr.lookup 171 (.map (some b)) (.string s) false).run Tryz.prog w = .ok (.bool (bl (s ∈ xs))) w := by
  obtain ⟨v, ps, hrun, hv⟩ := World.ownsMap.lookup h lawS Tryz.underlying171 (zeroB w) (plainElem_bool Tryz.underlying4 false) (keyS hs)
  rw [hrun]
  rw [at_setOf] at hv
  have hvb : ∀ x : Bool, plainElem (H := Unit) Tryz.prog 4 v = some (.lit (.bool x), ps) → v = .bool x := by
    intro x h
    unfold plainElem at h
    rw [Tryz.underlying4] at h
    cases v <;> simp at h
    rw [h.1]
  rw [hvb _ hv]

theorem setOf_snoc' (xs : List ByteArray) (s : ByteArray) : (setOf yes (xs.map strLit)).put (strLit s) yes = setOf yes ((xs ++ [s]).map strLit) := by
  rw [List.map_append, List.map_cons, List.map_nil, setOf_snoc]

set_option maxRecDepth 100000 in
/-- A store. -/
theorem IsSet.put {w : World} {b n : Nat} {xs : List ByteArray} (h : IsSet w b n xs) (hn : n < maxLen) (s : ByteArray) (hs : s.size ≤ maxLen) :
    ∃ w', (Instr.mapUpdate 171 (.map (some b)) (.string s) (.bool true)).run Tryz.prog w = .ok () w' ∧ IsSet w' b (n + 1) (xs ++ [s]) ∧ w.grownBy w' (some b) := by
  obtain ⟨w', hrun, r1, r2⟩ := World.ownsMap.update h lawS Tryz.underlying171 hn (keyS hs) (plainElem_bool Tryz.underlying4 true)
  rw [setOf_snoc'] at r1
  exact ⟨w', hrun, r1, r2⟩
end Go.Proofs.YtdifefgigcjgeaaGreatDoor
end

/- What is proved here: IsReserved, IsName, IsConName, of the program and of the model, say what a name is. Condition: the text's length is a length. -/
section
namespace Go.Proofs.YtdifefgigcjgeaaGreatDoor
open Go.RowKit

def reserved : List ByteArray := [⟨#[116, 121, 112, 101]⟩, ⟨#[109, 97, 116, 99, 104]⟩, ⟨#[99, 97, 115, 101]⟩, ⟨#[105, 102]⟩, ⟨#[105, 110, 116]⟩, ⟨#[116, 101, 120, 116]⟩]

set_option maxHeartbeats 1000000 in
set_option maxRecDepth 100000 in
theorem impl_reserved (s : ByteArray) (hs : s.size ≤ maxLen) (w : World) :
    Calls Tryz.prog 142 #[.string s] w fun e w' => e = .returned (.bool (bl (s ∈ reserved))) ∧ Below w.heap.size w w' := by
  have hmm := @run_makeMap Tryz.prog
  have h0 := isSet_made w
  have hb0 : Below w.heap.size w (w.alloc (.map #[] 0)) := (Below.refl _ _).alloc (Nat.le_refl _) _
  obtain ⟨w1, e1, h1, g1⟩ := h0.put (by decide) ⟨#[116, 121, 112, 101]⟩ (by decide)
  obtain ⟨w2, e2, h2, g2⟩ := h1.put (by decide) ⟨#[109, 97, 116, 99, 104]⟩ (by decide)
  obtain ⟨w3, e3, h3, g3⟩ := h2.put (by decide) ⟨#[99, 97, 115, 101]⟩ (by decide)
  obtain ⟨w4, e4, h4, g4⟩ := h3.put (by decide) ⟨#[105, 102]⟩ (by decide)
  obtain ⟨w5, e5, h5, g5⟩ := h4.put (by decide) ⟨#[105, 110, 116]⟩ (by decide)
  obtain ⟨w6, e6, h6, g6⟩ := h5.put (by decide) ⟨#[116, 101, 120, 116]⟩ (by decide)
  have hg := ((((g1.trans g2).trans g3).trans g4).trans g5).trans g6
  have hB : Below w.heap.size w w6 := hb0.grown hg hb0.size (fun j hj => by injection hj with hj; omega)
  have hl : (Instr.lookup 171 (.map (some w.heap.size)) (.string s) false).run Tryz.prog w6 = .ok (.bool (bl (s ∈ reserved))) w6 := h6.look s hs
  generalize bl (s ∈ reserved) = q at hl ⊢
  have HB := Lib.hid hB
  have HS := Lib.hid hs
  clear g1 g2 g3 g4 g5 g6 hg h0 h1 h2 h3 h4 h5 h6 hb0 hB hs
  go_enter Tryz.func142, Tryz.ntmps142
  go_wp2
  go_ret
  exact ⟨rfl, HB.out⟩

set_option maxHeartbeats 1000000 in
set_option maxRecDepth 100000 in
theorem spec_reserved (s : ByteArray) (w : World) :
    Calls Tryz.prog 140 #[.string s] w fun e w' => e = .returned (.bool (bl (s ∈ reserved))) ∧ Below w.heap.size w w' := by
  have hM := heap_at_new w (.cells (reserved.map Value.string).toArray 9)
  have hR := reads_new hM
  have hB : Below w.heap.size w (w.alloc (.cells (reserved.map Value.string).toArray 9)) := (Below.refl _ _).alloc (Nat.le_refl _) _
  have HI : Hid (bl (s ∈ reserved) = decide (0 ≤ Lib.idxOfS reserved s)) := by
    unfold Hid
    by_cases h : s ∈ reserved
    · rw [bl_true h, decide_eq_true ((Lib.idxOfS_nonneg_iff _ _).2 h)]
    · rw [bl_false h, decide_eq_false (fun h2 => h ((Lib.idxOfS_nonneg_iff _ _).1 h2))]
  have H := spec_index _ _ 6 reserved s hR (by decide)
  clear hM hR
  go_enter Tryz.func140, Tryz.ntmps140
  go_wp2_with fail
  refine H.mono ?_
  rintro e w1 ⟨rfl, rfl⟩
  generalize Lib.idxOfS reserved s = z at *
  go_wp2
  go_ret
  exact ⟨by rw [HI.out]; rfl, hB⟩

def Name (s : ByteArray) : Prop := Word 97 122 s ∧ ¬ s ∈ reserved

set_option maxRecDepth 100000 in
theorem impl_con (s : ByteArray) (hs : s.size ≤ maxLen) (w : World) :
    Calls Tryz.prog 131 #[.string s] w fun e w' => e = .returned (.bool (bl (Word 65 90 s))) ∧ Below w.heap.size w w' := by
  go_enter Tryz.func131, Tryz.ntmps131
  go_wp2_with fail
  refine (impl_word s 65 90 hs _).mono ?_
  rintro e w1 ⟨rfl, hb⟩
  go_wp2
  go_ret
  exact ⟨rfl, hb⟩

set_option maxRecDepth 100000 in
theorem impl_name (s : ByteArray) (hs : s.size ≤ maxLen) (w : World) :
    Calls Tryz.prog 98 #[.string s] w fun e w' => e = .returned (.bool (bl (Name s))) ∧ Below w.heap.size w w' := by
  by_cases h : Word 97 122 s
  · have hb := bl_true h
    have HN : Hid (bl (Name s) = !bl (s ∈ reserved)) := by
      unfold Hid
      by_cases h2 : s ∈ reserved
      · rw [bl_true h2, bl_false (fun h3 => h3.2 h2)]; rfl
      · rw [bl_false h2, bl_true ⟨h, h2⟩]; rfl
    go_enter Tryz.func98, Tryz.ntmps98
    go_wp2_with fail
    refine (impl_word s 97 122 hs _).mono ?_
    rintro e w1 ⟨rfl, hb1⟩
    rw [hb]
    go_wp2_with fail
    refine (impl_reserved s hs _).mono ?_
    rintro e w2 ⟨rfl, hb2⟩
    have hb3 := hb1.trans (hb2.mono hb1.size)
    go_wp2
    go_ret
    exact ⟨by rw [HN.out]; rfl, hb3⟩
  · have hb := bl_false h
    have HN : Hid (bl (Name s) = false) := bl_false (fun h3 => h h3.1)
    go_enter Tryz.func98, Tryz.ntmps98
    go_wp2_with fail
    refine (impl_word s 97 122 hs _).mono ?_
    rintro e w1 ⟨rfl, hb1⟩
    rw [hb]
    go_wp2
    go_ret
    exact ⟨by rw [HN.out]; rfl, hb1⟩

theorem empty_of (s : ByteArray) (h : s.size = 0) : s = ⟨#[]⟩ := by
  cases s with | mk d => cases d with | mk l => cases l with | nil => rfl | cons c r => simp [ByteArray.size] at h
theorem ne_empty (s : ByteArray) (h : 0 < s.size) : (s.toList == []) = false := by
  rw [ByteArray.toList_eq]
  have : s.data.toList.length = s.size := rfl
  cases hl : s.data.toList with
  | nil => rw [hl] at this; simp at this; omega
  | cons c r => rfl
theorem bl_empty (s : ByteArray) (h : 0 < s.size) : (s.toList == ByteArray.toList ⟨#[]⟩) = false := by
  rw [Lib.bytes_beq_false_iff]
  intro e
  rw [e] at h
  exact absurd h (by decide)

set_option maxHeartbeats 1000000 in
set_option maxRecDepth 100000 in
theorem spec_con (s : ByteArray) (hs : s.size ≤ maxLen) (w : World) :
    Calls Tryz.prog 117 #[.string s] w fun e w' => e = .returned (.bool (bl (Word 65 90 s))) ∧ Below w.heap.size w w' := by
  by_cases h0 : s.size = 0
  · have HN : Hid (bl (Word 65 90 s) = false) := bl_false (fun h => by have := h.1; omega)
    obtain rfl := empty_of s h0
    go_enter Tryz.func117, Tryz.ntmps117
    go_wp2
    go_ret
    exact ⟨by rw [HN.out]; rfl, Below.refl _ _⟩
  · have hp : 0 < s.size := by omega
    have hne := ne_empty s hp
    have hne2 := bl_empty s hp
    by_cases h1 : 65 ≤ s[0].toNat
    · by_cases h2 : s[0].toNat ≤ 90
      · have HN : Hid (bl (Word 65 90 s) = bl (Rest s)) := bl_congr ⟨fun h => ⟨h.1, h.2.1, h.2.2.2⟩, fun h => ⟨h.1, h.2.1, fun _ => ⟨h1, h2⟩, h.2.2⟩⟩
        go_enter Tryz.func117, Tryz.ntmps117
        go_wp2_with fail
        refine (spec_rest s hs _).mono ?_
        rintro e w1 ⟨rfl, hb⟩
        go_wp2
        go_ret
        exact ⟨by rw [HN.out]; rfl, hb⟩
      · have HN : Hid (bl (Word 65 90 s) = false) := bl_false (fun h => h2 (h.2.2.1 hp).2)
        go_enter Tryz.func117, Tryz.ntmps117
        go_wp2
        go_ret
        exact ⟨by rw [HN.out]; rfl, Below.refl _ _⟩
    · have HN : Hid (bl (Word 65 90 s) = false) := bl_false (fun h => h1 (h.2.2.1 hp).1)
      go_enter Tryz.func117, Tryz.ntmps117
      go_wp2
      go_ret
      exact ⟨by rw [HN.out]; rfl, Below.refl _ _⟩

set_option maxHeartbeats 1000000 in
set_option maxRecDepth 100000 in
theorem spec_name (s : ByteArray) (hs : s.size ≤ maxLen) (w : World) :
    Calls Tryz.prog 96 #[.string s] w fun e w' => e = .returned (.bool (bl (Name s))) ∧ Below w.heap.size w w' := by
  by_cases h0 : s.size = 0
  · have HN : Hid (bl (Name s) = false) := bl_false (fun h => by have := h.1.1; omega)
    obtain rfl := empty_of s h0
    go_enter Tryz.func96, Tryz.ntmps96
    go_wp2
    go_ret
    exact ⟨by rw [HN.out]; rfl, Below.refl _ _⟩
  · have hp : 0 < s.size := by omega
    have hne := ne_empty s hp
    have hne2 := bl_empty s hp
    by_cases h1 : 97 ≤ s[0].toNat ∧ s[0].toNat ≤ 122
    · have hb1 := bl_true h1
      by_cases h2 : Rest s
      · have hb2 := bl_true h2
        have HN : Hid (bl (Name s) = !bl (s ∈ reserved)) := by
          unfold Hid
          have hW : Word 97 122 s := ⟨h2.1, h2.2.1, fun _ => h1, h2.2.2⟩
          by_cases h3 : s ∈ reserved
          · rw [bl_true h3, bl_false (fun h => h.2 h3)]; rfl
          · rw [bl_false h3, bl_true ⟨hW, h3⟩]; rfl
        go_enter Tryz.func96, Tryz.ntmps96
        go_wp2_with fail
        refine (spec_lower s[0] _).mono ?_
        rintro e w1 ⟨rfl, rfl⟩
        rw [hb1]
        go_wp2_with fail
        refine (spec_rest s hs _).mono ?_
        rintro e w2 ⟨rfl, hB1⟩
        rw [hb2]
        go_wp2_with fail
        refine (spec_reserved s _).mono ?_
        rintro e w3 ⟨rfl, hB2⟩
        have hB3 := hB1.trans (hB2.mono hB1.size)
        go_wp2
        go_ret
        exact ⟨by rw [HN.out]; rfl, hB3⟩
      · have hb2 := bl_false h2
        have HN : Hid (bl (Name s) = false) := bl_false (fun h => h2 ⟨h.1.1, h.1.2.1, h.1.2.2.2⟩)
        go_enter Tryz.func96, Tryz.ntmps96
        go_wp2_with fail
        refine (spec_lower s[0] _).mono ?_
        rintro e w1 ⟨rfl, rfl⟩
        rw [hb1]
        go_wp2_with fail
        refine (spec_rest s hs _).mono ?_
        rintro e w2 ⟨rfl, hB1⟩
        rw [hb2]
        go_wp2
        go_ret
        exact ⟨by rw [HN.out]; rfl, hB1⟩
    · have hb1 := bl_false h1
      have HN : Hid (bl (Name s) = false) := bl_false (fun h => h1 (h.1.2.2.1 hp))
      go_enter Tryz.func96, Tryz.ntmps96
      go_wp2_with fail
      refine (spec_lower s[0] _).mono ?_
      rintro e w1 ⟨rfl, rfl⟩
      rw [hb1]
      go_wp2
      go_ret
      exact ⟨by rw [HN.out]; rfl, Below.refl _ _⟩
end Go.Proofs.YtdifefgigcjgeaaGreatDoor
end

/- What is proved here: lengths and emptiness as Booleans. No condition. -/
section
namespace Go.Proofs.YtdifefgigcjgeaaGreatDoor
open Go.RowKit

theorem bl_len (l c : Nat) : ((l : Int) == (c : Int)) = bl (l = c) := by
  by_cases h : l = c
  · rw [bl_true h, h]; simp
  · rw [bl_false h]; simp; omega
theorem bl_empty_eq (t : ByteArray) : (t.toList == []) = bl (t.size = 0) := by
  by_cases h : t.size = 0
  · rw [bl_true h, empty_of t h, ByteArray.toList_eq]; rfl
  · rw [bl_false h]; exact ne_empty t (by omega)
end Go.Proofs.YtdifefgigcjgeaaGreatDoor
end

/- What is proved here: the model's and the program's IsValidText say what a valid text is. Condition: the text's length is a length. -/
section
namespace Go.Proofs.YtdifefgigcjgeaaGreatDoor
open Go.RowKit

/-- A byte that may stand in a text. -/
def OkByte (c : UInt8) : Prop := 32 ≤ c.toNat ∧ c.toNat ≤ 126 ∧ c.toNat ≠ 34
def ValidText (s : ByteArray) : Prop := s.size ≤ 8 ∧ ∀ j (h : j < s.size), OkByte s[j]

set_option maxHeartbeats 1000000 in
set_option maxRecDepth 100000 in
theorem spec_text (s : ByteArray) (hs : s.size ≤ maxLen) (w : World) :
    Calls Tryz.prog 157 #[.string s] w fun e w' => e = .returned (.bool (bl (ValidText s))) ∧ Below w.heap.size w w' := by
  unfold maxLen at hs
  go_enter Tryz.func157, Tryz.ntmps157
  go_wp2
  go_loopw [3] (fun i wr => ∃ k : Nat, k ≤ s.size ∧ i = .int .i64 k ∧ Hid (∀ j (h : j < s.size), j < k → OkByte s[j]) ∧ Below w.heap.size w wr) (fun i _ => s.size - (intOf i).toNat)
  case atStart => exact ⟨0, Nat.zero_le _, rfl, fun j h h1 => by omega, Below.refl _ _⟩
  case round =>
    obtain ⟨k, hk, rfl, HG, hB⟩ := hrel
    by_cases hlt : k < s.size
    · have hbad : ¬ OkByte s[k] → Hid (bl (ValidText s) = false) := fun h => bl_false (fun hv => h (hv.2 k hlt))
      have HBAD := Lib.hid hbad
      clear hbad
      have h255 : s[k].toNat < 256 := s[k].toNat_lt
      by_cases h1 : s[k].toNat < 32
      · have HE := HBAD.out (fun h => by have := h.1; omega)
        go_wp2
        go_ret
        exact ⟨by rw [HE.out]; rfl, hB⟩
      · by_cases h2 : 126 < s[k].toNat
        · have HE := HBAD.out (fun h => by have := h.2.1; omega)
          go_wp2
          go_ret
          exact ⟨by rw [HE.out]; rfl, hB⟩
        · by_cases h3 : s[k].toNat = 34
          · have HE := HBAD.out (fun h => h.2.2 h3)
            go_wp2
            go_ret
            exact ⟨by rw [HE.out]; rfl, hB⟩
          · have HC : Hid (OkByte s[k]) := ⟨by omega, by omega, h3⟩
            have e3 : ((s[k].toNat : Int) == 34) = false := by simpa using (by omega : ¬ (s[k].toNat : Int) = 34)
            clear HBAD
            go_wp2
            go_roundw
            case rel =>
              refine ⟨k + 1, by omega, by go_num, fun j h h4 => ?_, hB⟩
              rcases Nat.lt_or_ge j k with h5 | h5
              · exact HG.out j h h5
              · obtain rfl : j = k := by omega
                exact HC.out
            case measure => simp [intOf]; omega
    · by_cases h8 : s.size ≤ 8
      · have hR : bl (ValidText s) = true := bl_true ⟨h8, fun j h => HG.out j h (by omega)⟩
        have e8 : decide ((s.size : Int) ≤ 8) = true := by simp; omega
        have HR := Lib.hid hR
        clear hR
        go_wp2
        go_ret
        exact ⟨by rw [HR.out]; rfl, hB⟩
      · have hR : bl (ValidText s) = false := bl_false (fun h => h8 h.1)
        have e8 : decide ((s.size : Int) ≤ 8) = false := by simp; omega
        have HR := Lib.hid hR
        clear hR
        go_wp2
        go_ret
        exact ⟨by rw [HR.out]; rfl, hB⟩

set_option maxHeartbeats 1000000 in
set_option maxRecDepth 100000 in
theorem impl_text (s : ByteArray) (hs : s.size ≤ maxLen) (w : World) :
    Calls Tryz.prog 130 #[.string s] w fun e w' => e = .returned (.bool (bl (ValidText s))) ∧ Below w.heap.size w w' := by
  unfold maxLen at hs
  by_cases h8 : 8 < s.size
  · have HR : Hid (bl (ValidText s) = false) := bl_false (fun h => by have := h.1; omega)
    go_enter Tryz.func130, Tryz.ntmps130
    go_wp2
    go_ret
    exact ⟨by rw [HR.out]; rfl, Below.refl _ _⟩
  · go_enter Tryz.func130, Tryz.ntmps130
    go_wp2
    go_loopw [9] (fun i wr => ∃ k : Nat, k ≤ s.size ∧ i = .int .i64 k ∧ Hid (∀ j (h : j < s.size), j < k → OkByte s[j]) ∧ Below w.heap.size w wr) (fun i _ => s.size - (intOf i).toNat)
    case atStart => exact ⟨0, Nat.zero_le _, rfl, fun j h h1 => by omega, Below.refl _ _⟩
    case round =>
      obtain ⟨k, hk, rfl, HG, hB⟩ := hrel
      by_cases hlt : k < s.size
      · have hbad : ¬ OkByte s[k] → Hid (bl (ValidText s) = false) := fun h => bl_false (fun hv => h (hv.2 k hlt))
        have HBAD := Lib.hid hbad
        clear hbad
        have h255 : s[k].toNat < 256 := s[k].toNat_lt
        by_cases h1 : s[k].toNat < 32
        · have HE := HBAD.out (fun h => by have := h.1; omega)
          go_wp2
          go_ret
          exact ⟨by rw [HE.out]; rfl, hB⟩
        · by_cases h2 : 126 < s[k].toNat
          · have HE := HBAD.out (fun h => by have := h.2.1; omega)
            go_wp2
            go_ret
            exact ⟨by rw [HE.out]; rfl, hB⟩
          · by_cases h3 : s[k].toNat = 34
            · have HE := HBAD.out (fun h => h.2.2 h3)
              go_wp2
              go_ret
              exact ⟨by rw [HE.out]; rfl, hB⟩
            · have HC : Hid (OkByte s[k]) := ⟨by omega, by omega, h3⟩
              have e3 : ((s[k].toNat : Int) == 34) = false := by simpa using (by omega : ¬ (s[k].toNat : Int) = 34)
              clear HBAD
              go_wp2
              go_roundw
              case rel =>
                refine ⟨k + 1, by omega, by go_num, fun j h h4 => ?_, hB⟩
                rcases Nat.lt_or_ge j k with h5 | h5
                · exact HG.out j h h5
                · obtain rfl : j = k := by omega
                  exact HC.out
              case measure => simp [intOf]; omega
      · have hR : bl (ValidText s) = true := bl_true ⟨by omega, fun j h => HG.out j h (by omega)⟩
        have HR := Lib.hid hR
        clear hR
        go_wp2
        go_ret
        exact ⟨by rw [HR.out]; rfl, hB⟩
end Go.Proofs.YtdifefgigcjgeaaGreatDoor
end

/- What is proved here: whether an integer is within the bounds of the document, as model and program tell it. No condition. -/
section
namespace Go.Proofs.YtdifefgigcjgeaaGreatDoor
open Go.RowKit

def inInt (n : Int) : Bool := decide (-999999999999 ≤ n) && decide (n ≤ 999999999999)
set_option maxRecDepth 100000 in
theorem spec_inInt (n : Int) (w : World) :
    Calls Tryz.prog 95 #[.int .i64 n, .int .i64 (-999999999999), .int .i64 999999999999] w fun e w' => e = .returned (.bool (inInt n)) ∧ w' = w := by
  unfold inInt
  by_cases h1 : -999999999999 ≤ n
  · have e1 : decide (-999999999999 ≤ n) = true := by simpa using h1
    rw [e1]
    clear h1
    go_enter Tryz.func95, Tryz.ntmps95
    go_wp2
    go_ret
    exact ⟨rfl, rfl⟩
  · have e1 : decide (-999999999999 ≤ n) = false := by simpa using h1
    rw [e1]
    clear h1
    go_enter Tryz.func95, Tryz.ntmps95
    go_wp2
    go_ret
    exact ⟨rfl, rfl⟩
end Go.Proofs.YtdifefgigcjgeaaGreatDoor
end

/- What is proved here: the seven forms of a pattern's node (pure). No condition. -/
section
namespace Go.Proofs.YtdifefgigcjgeaaGreatDoor
open Go.RowKit

/-- One of the seven forms; l nodes are below. -/
noncomputable def patForm (k n : Int) (t : ByteArray) (l : Nat) : Bool :=
  if k = 1 then (n == 0) && (bl (t.size = 0) && bl (l = 0))
  else if k = 2 then (n == 0) && (bl (Name t) && bl (l = 0))
  else if k = 3 then inInt n && (bl (t.size = 0) && bl (l = 0))
  else if k = 4 then (n == 0) && (bl (ValidText t) && bl (l = 0))
  else if k = 5 then (n == 0) && bl (Word 65 90 t)
  else if k = 6 then (n == 0) && (bl (t.size = 0) && bl (l = 2))
  else if k = 7 then (n == 0) && (bl (Name t) && bl (l = 1))
  else false
/-- Every node of a row has one of the forms. -/
noncomputable def Trees.formed : Trees → Bool
  | .nil => true
  | .cons k n t ar r => patForm k n t ar.length && (ar.formed && r.formed)
theorem formed_pre (F : Trees) : ∀ d, (F.pre d).all (fun x => patForm x.2.1 x.2.2.1 x.2.2.2.1 x.2.2.2.2) = F.formed := by
  induction F with
  | nil => intro d; rfl
  | cons k n t ar r ih1 ih2 => intro d; simp only [Trees.pre, Trees.formed, List.all_cons, List.all_append, ih1, ih2]
theorem allForm_node (k n : Int) (t : ByteArray) (F : Trees) : (((1, k, n, t, F.length) :: F.pre 2 : List Part)).all (fun x => patForm x.2.1 x.2.2.1 x.2.2.2.1 x.2.2.2.2) = (patForm k n t F.length && F.formed) := by
  rw [List.all_cons, formed_pre]
end Go.Proofs.YtdifefgigcjgeaaGreatDoor
end

/- What is proved here: when a pattern is valid (pure). No condition. -/
section
namespace Go.Proofs.YtdifefgigcjgeaaGreatDoor
open Go.RowKit

/-- At most 24 nodes, a depth of at most 8, and every node has one of the seven forms. -/
noncomputable def validPat (k n : Int) (t : ByteArray) (F : Trees) : Bool := decide (1 + F.count ≤ 24 ∧ F.deep + 1 ≤ 8) && (patForm k n t F.length && F.formed)
end Go.Proofs.YtdifefgigcjgeaaGreatDoor
end

/- What is proved here: texts as lists of bytes. No condition. -/
section
namespace Go.Proofs.YtdifefgigcjgeaaGreatDoor
open Go.RowKit

/-- A text of these bytes. -/
def str (l : List UInt8) : ByteArray := ⟨l.toArray⟩
theorem str_size (l : List UInt8) : (str l).size = l.length := by show l.toArray.size = _; simp
theorem str_data (t : ByteArray) : str t.data.toList = t := by
  cases t
  simp [str]
theorem str_append (a b : List UInt8) : str a ++ str b = str (a ++ b) := by
  apply ByteArray.ext
  show (str a ++ str b).data = _
  rw [ByteArray.data_append]
  simp [str]
theorem str_inj {a b : List UInt8} (h : str a = str b) : a = b := by
  have : (str a).data.toList = (str b).data.toList := by rw [h]
  simpa [str] using this

theorem itoa_len (n : Int) (h0 : -9223372036854775808 ≤ n) (h1 : n ≤ 9223372036854775807) : (Lib.itoa n).length ≤ 21 := Lib.itoa_length_le n h0 h1
end Go.Proofs.YtdifefgigcjgeaaGreatDoor
end

/- What is proved here: the representation of a pattern as bytes (pure). No condition. -/
section
namespace Go.Proofs.YtdifefgigcjgeaaGreatDoor
open Go.RowKit

theorem patForm_iff (k n : Int) (t : ByteArray) (l : Nat) : patForm k n t l = true ↔ (k = 1 ∧ n = 0 ∧ t.size = 0 ∧ l = 0) ∨ (k = 2 ∧ n = 0 ∧ Name t ∧ l = 0) ∨ (k = 3 ∧ inInt n = true ∧ t.size = 0 ∧ l = 0) ∨ (k = 4 ∧ n = 0 ∧ ValidText t ∧ l = 0) ∨ (k = 5 ∧ n = 0 ∧ Word 65 90 t) ∨ (k = 6 ∧ n = 0 ∧ t.size = 0 ∧ l = 2) ∨ (k = 7 ∧ n = 0 ∧ Name t ∧ l = 1) := by
  unfold patForm
  by_cases h1 : k = 1
  · subst h1; simp [bl_iff]
  by_cases h2 : k = 2
  · subst h2; simp [bl_iff]
  by_cases h3 : k = 3
  · subst h3; simp [bl_iff]
  by_cases h4 : k = 4
  · subst h4; simp [bl_iff]
  by_cases h5 : k = 5
  · subst h5; simp [bl_iff]
  by_cases h6 : k = 6
  · subst h6; simp [bl_iff]
  by_cases h7 : k = 7
  · subst h7; simp [bl_iff]
  simp [h1, h2, h3, h4, h5, h6, h7]
/-- A node, given the representations of what is below it. -/
def nodeP (k n : Int) (t : ByteArray) (xs : List (List UInt8)) : List UInt8 :=
  if k = 1 then [95]
  else if k = 3 then Lib.itoa n
  else if k = 4 then [34] ++ t.data.toList ++ [34]
  else if k = 6 then [40] ++ Lib.join xs [32, 124, 32] ++ [41]
  else if k = 7 then t.data.toList ++ [32, 64, 32] ++ xs.headD []
  else if xs = [] then t.data.toList else t.data.toList ++ [40] ++ Lib.join xs [44, 32] ++ [41]
def Trees.texts : Trees → List (List UInt8)
  | .nil => []
  | .cons k n t ar r => nodeP k n t ar.texts :: r.texts
theorem texts_length (F : Trees) : F.texts.length = F.length := by
  induction F with
  | nil => rfl
  | cons k n t ar r _ ih => simp [Trees.texts, Trees.length, ih]
/-- The lengths, three more for each. -/
def room (xs : List (List UInt8)) : Nat := (xs.map fun x => x.length + 3).sum
theorem joinTail_room (sep : List UInt8) (h : sep.length ≤ 3) (r : List (List UInt8)) : (Lib.joinTail sep r).length ≤ room r := by
  induction r with
  | nil => simp [Lib.joinTail, room]
  | cons x r ih =>
    simp only [Lib.joinTail, room, List.map_cons, List.flatten_cons, List.length_append, List.sum_cons] at ih ⊢
    omega
theorem join_room (sep : List UInt8) (h : sep.length ≤ 3) (xs : List (List UInt8)) : (Lib.join xs sep).length ≤ room xs := by
  cases xs with
  | nil => simp [Lib.join_nil]
  | cons x r =>
    have := joinTail_room sep h r
    rw [Lib.join_cons, List.length_append]
    simp only [room, List.map_cons, List.sum_cons] at this ⊢
    omega
theorem head_room (xs : List (List UInt8)) : (xs.headD []).length ≤ room xs := by
  cases xs with
  | nil => simp
  | cons x r => simp only [List.headD_cons, room, List.map_cons, List.sum_cons]; omega
theorem word_size {lo hi : Nat} {t : ByteArray} (h : Word lo hi t) : t.size ≤ 8 := h.2.1
theorem nodeP_len (k n : Int) (t : ByteArray) (l : Nat) (xs : List (List UInt8)) (h : patForm k n t l = true) : (nodeP k n t xs).length + 3 ≤ 40 + room xs := by
  have e : t.data.toList.length = t.size := rfl
  have h1 := join_room [32, 124, 32] (by simp) xs
  have h2 := join_room [44, 32] (by simp) xs
  have h3 := head_room xs
  unfold nodeP
  rcases (patForm_iff k n t l).1 h with ⟨rfl, _⟩ | ⟨rfl, _, hN, _⟩ | ⟨rfl, hi, _⟩ | ⟨rfl, _, hv, _⟩ | ⟨rfl, _, hw⟩ | ⟨rfl, _⟩ | ⟨rfl, _, hN, _⟩
  · simp; omega
  · have := word_size hN.1
    simp only [show ¬ (2 : Int) = 1 by decide, show ¬ (2 : Int) = 3 by decide, show ¬ (2 : Int) = 4 by decide, show ¬ (2 : Int) = 6 by decide, show ¬ (2 : Int) = 7 by decide, if_false]
    split
    · omega
    · simp only [List.length_append, List.length_singleton]; omega
  · unfold inInt at hi
    simp only [Bool.and_eq_true, decide_eq_true_eq] at hi
    have := itoa_len n (by omega) (by omega)
    simp only [show ¬ (3 : Int) = 1 by decide, if_false, if_true]
    omega
  · have := hv.1
    simp only [show ¬ (4 : Int) = 1 by decide, show ¬ (4 : Int) = 3 by decide, if_false, if_true, List.length_append, List.length_singleton]
    omega
  · have := word_size hw
    simp only [show ¬ (5 : Int) = 1 by decide, show ¬ (5 : Int) = 3 by decide, show ¬ (5 : Int) = 4 by decide, show ¬ (5 : Int) = 6 by decide, show ¬ (5 : Int) = 7 by decide, if_false]
    split
    · omega
    · simp only [List.length_append, List.length_singleton]; omega
  · simp only [show ¬ (6 : Int) = 1 by decide, show ¬ (6 : Int) = 3 by decide, show ¬ (6 : Int) = 4 by decide, if_false, if_true, List.length_append, List.length_singleton]
    omega
  · have := word_size hN.1
    simp only [show ¬ (7 : Int) = 1 by decide, show ¬ (7 : Int) = 3 by decide, show ¬ (7 : Int) = 4 by decide, show ¬ (7 : Int) = 6 by decide, if_false, if_true, List.length_append, List.length_cons, List.length_nil]
    omega
theorem texts_room (F : Trees) (h : F.formed = true) : room F.texts ≤ 40 * F.count := by
  induction F with
  | nil => simp [Trees.texts, room]
  | cons k n t ar r ih1 ih2 =>
    simp only [Trees.formed, Bool.and_eq_true] at h
    have h1 := nodeP_len k n t ar.length ar.texts h.1
    have h2 := ih1 h.2.1
    have h3 := ih2 h.2.2
    simp only [Trees.texts, Trees.count, room, List.map_cons, List.sum_cons] at h1 h2 h3 ⊢
    omega
theorem text_len (k n : Int) (t : ByteArray) (F : Trees) (h : F.formed = true) (h0 : patForm k n t F.length = true) : (nodeP k n t F.texts).length + 3 ≤ 40 * (1 + F.count) := by
  have h1 := nodeP_len k n t F.length F.texts h0
  have h2 := texts_room F h
  omega
/-- The representation of a pattern; none of what is no valid one. -/
noncomputable def patFmt (k n : Int) (t : ByteArray) (F : Trees) : ByteArray := if validPat k n t F = true then str (nodeP k n t F.texts) else ⟨#[]⟩
end Go.Proofs.YtdifefgigcjgeaaGreatDoor
end

/- What is proved here: the program's firstWord takes the bytes that can stand in a word. Condition: the text's length is a length. -/
section
namespace Go.Proofs.YtdifefgigcjgeaaGreatDoor
open Go.RowKit

/-- A byte (or rune) that can stand in an integer, in a name or for a wildcard. -/
def isWZ (c : Int) : Bool := decide ((97 ≤ c ∧ c ≤ 122) ∨ (65 ≤ c ∧ c ≤ 90) ∨ (48 ≤ c ∧ c ≤ 57) ∨ c = 45 ∨ c = 95)
def isWB (c : UInt8) : Bool := isWZ (c.toNat : Int)
/-- The word at the start. -/
def lead (s : List UInt8) : List UInt8 := s.takeWhile isWB
theorem lead_all (a r : List UInt8) (ha : ∀ c ∈ a, isWB c = true) (hr : ∀ c t, r = c :: t → isWB c = false) : lead (a ++ r) = a := by
  unfold lead
  induction a with
  | nil =>
    cases r with
    | nil => rfl
    | cons c t => rw [List.nil_append, List.takeWhile_cons, hr c t rfl]; rfl
  | cons c a ih =>
    rw [List.cons_append, List.takeWhile_cons, ha c (by simp), if_pos rfl, ih (fun x hx => ha x (by simp [hx]))]
theorem lead_prefix (s : List UInt8) : (lead s).isPrefixOf s = true := by
  rw [List.isPrefixOf_iff_prefix]
  exact List.takeWhile_prefix _
theorem lead_take (s : List UInt8) : s.take (lead s).length = lead s := by
  have h := List.isPrefixOf_iff_prefix.1 (lead_prefix s)
  exact (List.prefix_iff_eq_take.1 h).symm
theorem lead_word (s : List UInt8) : ∀ c ∈ lead s, isWB c = true := by
  unfold lead
  induction s with
  | nil => intro c hc; cases hc
  | cons x r ih =>
    intro c hc
    rw [List.takeWhile_cons] at hc
    cases hx : isWB x with
    | false => rw [hx] at hc; cases hc
    | true =>
      rw [hx] at hc
      rcases List.mem_cons.1 hc with rfl | hc
      · exact hx
      · exact ih c hc
theorem lead_stop (s : List UInt8) (k : Nat) (hk : k < s.length) (h : ∀ j (hj : j < s.length), j < k → isWB s[j] = true) (hn : isWB s[k] = false) : lead s = s.take k := by
  have e : s = s.take k ++ s.drop k := (List.take_append_drop k s).symm
  have h1 := lead_all (s.take k) (s.drop k) (fun c hc => by
    obtain ⟨j, hj, rfl⟩ := List.mem_iff_getElem.1 hc
    rw [List.getElem_take]
    rw [List.length_take] at hj
    exact h j (by omega) (by omega)) (fun c t hct => by
    rw [List.drop_eq_getElem_cons hk] at hct
    injection hct with h1 _
    rw [← h1]
    exact hn)
  rw [← e] at h1
  exact h1
theorem lead_full (s : List UInt8) (h : ∀ j (hj : j < s.length), isWB s[j] = true) : lead s = s := by
  have h1 := lead_all s [] (fun c hc => by
    obtain ⟨j, hj, rfl⟩ := List.mem_iff_getElem.1 hc
    exact h j hj) (fun c t hct => by cases hct)
  rwa [List.append_nil] at h1

set_option maxHeartbeats 1000000 in
set_option maxRecDepth 100000 in
theorem impl_isWordRune (c : Int) (w : World) :
    Calls Tryz.prog 160 #[.int .i32 c] w fun e w' => e = .returned (.bool (isWZ c)) ∧ w' = w := by
  have h : c < 45 ∨ c = 45 ∨ (46 ≤ c ∧ c ≤ 47) ∨ (48 ≤ c ∧ c ≤ 57) ∨ (58 ≤ c ∧ c ≤ 64) ∨ (65 ≤ c ∧ c ≤ 90) ∨ (91 ≤ c ∧ c ≤ 94) ∨ c = 95 ∨ c = 96 ∨ (97 ≤ c ∧ c ≤ 122) ∨ 123 ≤ c := by omega
  rcases h with h | h | h | h | h | h | h | h | h | h | h
  ·
    have hq : isWZ c = false := by unfold isWZ; simp; omega
    have e0 : decide (97 ≤ c) = false := by simp; omega
    have e1 : decide (c ≤ 122) = true := by simp; omega
    have e2 : decide (65 ≤ c) = false := by simp; omega
    have e3 : decide (c ≤ 90) = true := by simp; omega
    have e4 : decide (48 ≤ c) = false := by simp; omega
    have e5 : decide (c ≤ 57) = true := by simp; omega
    have e6 : (c == 45) = false := by simp; omega
    have e7 : (c == 95) = false := by simp; omega
    rw [hq]
    clear h hq
    go_enter Tryz.func160, Tryz.ntmps160
    go_wp2
    go_ret
    exact ⟨rfl, rfl⟩
  ·
    have hq : isWZ c = true := by unfold isWZ; simp; omega
    have e0 : decide (97 ≤ c) = false := by simp; omega
    have e1 : decide (c ≤ 122) = true := by simp; omega
    have e2 : decide (65 ≤ c) = false := by simp; omega
    have e3 : decide (c ≤ 90) = true := by simp; omega
    have e4 : decide (48 ≤ c) = false := by simp; omega
    have e5 : decide (c ≤ 57) = true := by simp; omega
    have e6 : (c == 45) = true := by simp; omega
    have e7 : (c == 95) = false := by simp; omega
    rw [hq]
    clear h hq
    go_enter Tryz.func160, Tryz.ntmps160
    go_wp2
    go_ret
    exact ⟨rfl, rfl⟩
  ·
    have hq : isWZ c = false := by unfold isWZ; simp; omega
    have e0 : decide (97 ≤ c) = false := by simp; omega
    have e1 : decide (c ≤ 122) = true := by simp; omega
    have e2 : decide (65 ≤ c) = false := by simp; omega
    have e3 : decide (c ≤ 90) = true := by simp; omega
    have e4 : decide (48 ≤ c) = false := by simp; omega
    have e5 : decide (c ≤ 57) = true := by simp; omega
    have e6 : (c == 45) = false := by simp; omega
    have e7 : (c == 95) = false := by simp; omega
    rw [hq]
    clear h hq
    go_enter Tryz.func160, Tryz.ntmps160
    go_wp2
    go_ret
    exact ⟨rfl, rfl⟩
  ·
    have hq : isWZ c = true := by unfold isWZ; simp; omega
    have e0 : decide (97 ≤ c) = false := by simp; omega
    have e1 : decide (c ≤ 122) = true := by simp; omega
    have e2 : decide (65 ≤ c) = false := by simp; omega
    have e3 : decide (c ≤ 90) = true := by simp; omega
    have e4 : decide (48 ≤ c) = true := by simp; omega
    have e5 : decide (c ≤ 57) = true := by simp; omega
    have e6 : (c == 45) = false := by simp; omega
    have e7 : (c == 95) = false := by simp; omega
    rw [hq]
    clear h hq
    go_enter Tryz.func160, Tryz.ntmps160
    go_wp2
    go_ret
    exact ⟨rfl, rfl⟩
  ·
    have hq : isWZ c = false := by unfold isWZ; simp; omega
    have e0 : decide (97 ≤ c) = false := by simp; omega
    have e1 : decide (c ≤ 122) = true := by simp; omega
    have e2 : decide (65 ≤ c) = false := by simp; omega
    have e3 : decide (c ≤ 90) = true := by simp; omega
    have e4 : decide (48 ≤ c) = true := by simp; omega
    have e5 : decide (c ≤ 57) = false := by simp; omega
    have e6 : (c == 45) = false := by simp; omega
    have e7 : (c == 95) = false := by simp; omega
    rw [hq]
    clear h hq
    go_enter Tryz.func160, Tryz.ntmps160
    go_wp2
    go_ret
    exact ⟨rfl, rfl⟩
  ·
    have hq : isWZ c = true := by unfold isWZ; simp; omega
    have e0 : decide (97 ≤ c) = false := by simp; omega
    have e1 : decide (c ≤ 122) = true := by simp; omega
    have e2 : decide (65 ≤ c) = true := by simp; omega
    have e3 : decide (c ≤ 90) = true := by simp; omega
    have e4 : decide (48 ≤ c) = true := by simp; omega
    have e5 : decide (c ≤ 57) = false := by simp; omega
    have e6 : (c == 45) = false := by simp; omega
    have e7 : (c == 95) = false := by simp; omega
    rw [hq]
    clear h hq
    go_enter Tryz.func160, Tryz.ntmps160
    go_wp2
    go_ret
    exact ⟨rfl, rfl⟩
  ·
    have hq : isWZ c = false := by unfold isWZ; simp; omega
    have e0 : decide (97 ≤ c) = false := by simp; omega
    have e1 : decide (c ≤ 122) = true := by simp; omega
    have e2 : decide (65 ≤ c) = true := by simp; omega
    have e3 : decide (c ≤ 90) = false := by simp; omega
    have e4 : decide (48 ≤ c) = true := by simp; omega
    have e5 : decide (c ≤ 57) = false := by simp; omega
    have e6 : (c == 45) = false := by simp; omega
    have e7 : (c == 95) = false := by simp; omega
    rw [hq]
    clear h hq
    go_enter Tryz.func160, Tryz.ntmps160
    go_wp2
    go_ret
    exact ⟨rfl, rfl⟩
  ·
    have hq : isWZ c = true := by unfold isWZ; simp; omega
    have e0 : decide (97 ≤ c) = false := by simp; omega
    have e1 : decide (c ≤ 122) = true := by simp; omega
    have e2 : decide (65 ≤ c) = true := by simp; omega
    have e3 : decide (c ≤ 90) = false := by simp; omega
    have e4 : decide (48 ≤ c) = true := by simp; omega
    have e5 : decide (c ≤ 57) = false := by simp; omega
    have e6 : (c == 45) = false := by simp; omega
    have e7 : (c == 95) = true := by simp; omega
    rw [hq]
    clear h hq
    go_enter Tryz.func160, Tryz.ntmps160
    go_wp2
    go_ret
    exact ⟨rfl, rfl⟩
  ·
    have hq : isWZ c = false := by unfold isWZ; simp; omega
    have e0 : decide (97 ≤ c) = false := by simp; omega
    have e1 : decide (c ≤ 122) = true := by simp; omega
    have e2 : decide (65 ≤ c) = true := by simp; omega
    have e3 : decide (c ≤ 90) = false := by simp; omega
    have e4 : decide (48 ≤ c) = true := by simp; omega
    have e5 : decide (c ≤ 57) = false := by simp; omega
    have e6 : (c == 45) = false := by simp; omega
    have e7 : (c == 95) = false := by simp; omega
    rw [hq]
    clear h hq
    go_enter Tryz.func160, Tryz.ntmps160
    go_wp2
    go_ret
    exact ⟨rfl, rfl⟩
  ·
    have hq : isWZ c = true := by unfold isWZ; simp; omega
    have e0 : decide (97 ≤ c) = true := by simp; omega
    have e1 : decide (c ≤ 122) = true := by simp; omega
    have e2 : decide (65 ≤ c) = true := by simp; omega
    have e3 : decide (c ≤ 90) = false := by simp; omega
    have e4 : decide (48 ≤ c) = true := by simp; omega
    have e5 : decide (c ≤ 57) = false := by simp; omega
    have e6 : (c == 45) = false := by simp; omega
    have e7 : (c == 95) = false := by simp; omega
    rw [hq]
    clear h hq
    go_enter Tryz.func160, Tryz.ntmps160
    go_wp2
    go_ret
    exact ⟨rfl, rfl⟩
  ·
    have hq : isWZ c = false := by unfold isWZ; simp; omega
    have e0 : decide (97 ≤ c) = true := by simp; omega
    have e1 : decide (c ≤ 122) = false := by simp; omega
    have e2 : decide (65 ≤ c) = true := by simp; omega
    have e3 : decide (c ≤ 90) = false := by simp; omega
    have e4 : decide (48 ≤ c) = true := by simp; omega
    have e5 : decide (c ≤ 57) = false := by simp; omega
    have e6 : (c == 45) = false := by simp; omega
    have e7 : (c == 95) = false := by simp; omega
    rw [hq]
    clear h hq
    go_enter Tryz.func160, Tryz.ntmps160
    go_wp2
    go_ret
    exact ⟨rfl, rfl⟩

theorem iter_below (w : World) (s : ByteArray) (p : Nat) : Below w.heap.size w (w.iter s p) := (Below.refl _ _).alloc (Nat.le_refl _) _

set_option maxHeartbeats 1000000 in
set_option maxRecDepth 100000 in
theorem impl_firstWord (s : ByteArray) (w : World) :
    Calls Tryz.prog 121 #[.string s] w fun e w' => e = .returned (.string (str (lead s.data.toList))) ∧ Below w.heap.size w w' := by
  have hl : s.data.toList.length = s.size := rfl
  go_enter Tryz.func121, Tryz.ntmps121
  go_wp2
  go_loopw [3] (fun i wr => ∃ pos : Nat, pos ≤ s.size ∧ wr = w.iter s pos ∧ Hid (∀ j (hj : j < s.size), j < pos → isWB s[j] = true)) (fun _ wr => s.size - wr.iterPos w.heap.size)
  case atStart => exact ⟨0, Nat.zero_le _, rfl, fun j hj h => by omega⟩
  case round =>
    obtain ⟨pos, hp, rfl, hw⟩ := hrel
    by_cases hlt : pos < s.size
    · have hnx : ∀ ty, (Instr.next (.pointer (some ⟨w.heap.size, 0, none⟩)) true ty).run Tryz.prog (w.iter s pos) = _ := fun ty => run_next_any w s pos ty hlt
      have HI := fun W => impl_isWordRune (Utf8.decode s pos).1 W
      by_cases ha : s[pos].toNat < 128
      · have hd := decode_ascii s pos hlt ha
        rw [hd] at hnx HI
        have hq : isWZ (s[pos].toNat : Int) = isWB s[pos] := rfl
        simp only [hq] at HI
        cases hb : isWB s[pos] with
        | true =>
          rw [hb] at HI
          have HW : Hid (∀ j (hj : j < s.size), j < pos + 1 → isWB s[j] = true) := fun j hj h => by
            rcases Nat.lt_or_ge j pos with h1 | h1
            · exact hw.out j hj h1
            · obtain rfl : j = pos := by omega
              exact hb
          clear hd hq hb hw ha
          go_wp2_with fail
          refine (HI _).mono ?_
          rintro e w1 ⟨rfl, rfl⟩
          clear HI hnx
          go_wp2
          go_roundw
          case rel => exact ⟨pos + 1, by omega, rfl, HW⟩
          case measure => simp; omega
        | false =>
          rw [hb] at HI
          have HE : Hid (s.extract 0 pos = str (lead s.data.toList)) := by
            unfold Hid
            rw [lead_stop s.data.toList pos (by omega) (fun j hj h => hw.out j (by omega) h) hb]
            apply ByteArray.ext
            apply Array.ext'
            simp [str, ByteArray.data_extract]
          clear hd hq hb hw ha
          go_wp2_with fail
          refine (HI _).mono ?_
          rintro e w1 ⟨rfl, rfl⟩
          clear HI hnx
          go_wp2
          go_ret
          exact ⟨by rw [← HE.out]; rfl, iter_below _ _ _⟩
      · have hd := decode_high s pos hlt (by omega)
        have hq : isWZ ((Utf8.decode s pos).1 : Int) = false := by unfold isWZ; simp; omega
        have hb : isWB s[pos] = false := by unfold isWB isWZ; simp; omega
        have HE : Hid (s.extract 0 pos = str (lead s.data.toList)) := by
          unfold Hid
          rw [lead_stop s.data.toList pos (by omega) (fun j hj h => hw.out j (by omega) h) hb]
          apply ByteArray.ext
          apply Array.ext'
          simp [str, ByteArray.data_extract]
        simp only [hq] at HI
        clear hd hq hb hw ha
        generalize (Utf8.decode s pos).1 = rn at *
        go_wp2_with fail
        refine (HI _).mono ?_
        rintro e w1 ⟨rfl, rfl⟩
        clear HI hnx
        go_wp2
        go_ret
        exact ⟨by rw [← HE.out]; rfl, iter_below _ _ _⟩
    · have hnx : ∀ ty, (Instr.next (.pointer (some ⟨w.heap.size, 0, none⟩)) true ty).run Tryz.prog (w.iter s pos) = _ := fun ty => run_next_end w s pos ty hlt
      have HE : Hid (str (lead s.data.toList) = s) := by
        unfold Hid
        rw [lead_full s.data.toList (fun j hj => hw.out j hj (by omega)), str_data]
      clear hw
      go_wp2
      go_ret
      exact ⟨by rw [HE.out]; rfl, iter_below _ _ _⟩
end Go.Proofs.YtdifefgigcjgeaaGreatDoor
end
