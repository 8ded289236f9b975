/- What is proved here: a piece of the proof of YtijbaienhaiamaaGreatDoorGuards (Idx, SpecIndex, Sets, Names, TreesOn, BlLen, InInt, ExprForm, Str, ExprText, Cat, Num, Format). Condition: none beyond what each part says. -/
import Derived.Test.YtijbaienhaiamaaGreatDoorGu01
import Derived.Test.YtijbaienhaiamaaGreatDoorGu07
import Derived.Lib.SlicesS
import Derived.Maps.OwnSet
import Derived.StringKeys
import Derived.Lib.ItoaMem
import Derived.Lib.ItoaLen
import Derived.Laws.IdiomStrings
import Derived.Laws.Concat
import Derived.Lib.ItoaNum
import Derived.Test.YtijbaienhaiamaaGreatDoorProg
import Derived.WalkKit
import Derived.ProofKit
import Derived.Lib.Walk
import Derived.Lib.Hide
import Derived.WalkLawsBesides
import Derived.WalkSpells
import Derived.Outline

/- What is proved here: the first index of a text in a list; when texts are distinct (pure). No condition. -/
section
namespace Go.Proofs.YtijbaienhaiamaaGreatDoor
open Go.RowKit

theorem getD_at (xs : List ByteArray) (k : Nat) (h : k < xs.length) : xs.getD k ByteArray.empty = xs[k] := by
  rw [List.getD_eq_getElem?_getD, List.getElem?_eq_getElem h]; rfl
theorem idx_hit (xs : List ByteArray) (k : Nat) (x : ByteArray) (hk : k < xs.length) (h : xs[k] = x) (hne : ∀ j (hj : j < xs.length), j < k → xs[j] ≠ x) : Lib.idxOfS xs x = k := by
  have := Lib.idxOfS_hit xs xs.length k x hk (Nat.le_refl _) (by rw [getD_at _ _ hk]; exact h) (fun j hj => by rw [getD_at _ _ (by omega)]; exact hne j (by omega) hj)
  rwa [List.take_length] at this
theorem idx_miss (xs : List ByteArray) (x : ByteArray) (hne : ∀ j (hj : j < xs.length), xs[j] ≠ x) : Lib.idxOfS xs x = -1 := by
  have := Lib.idxOfS_miss xs xs.length x (fun j hj => by rw [getD_at _ _ hj]; exact hne j hj)
  rwa [List.take_length] at this
theorem idx_lo (xs : List ByteArray) (x : ByteArray) : -1 ≤ Lib.idxOfS xs x ∧ Lib.idxOfS xs x < (xs.length : Int) ∨ Lib.idxOfS xs x = -1 := by
  by_cases h : x ∈ xs
  · obtain ⟨k, hk, hx, hmin⟩ : ∃ k, ∃ hk : k < xs.length, xs[k] = x ∧ ∀ j (hj : j < xs.length), j < k → xs[j] ≠ x := by
      have hex : ∃ k, ∃ hk : k < xs.length, xs[k] = x := by
        obtain ⟨k, hk, e⟩ := List.mem_iff_getElem.1 h
        exact ⟨k, hk, e⟩
      have key : ∀ n k, k ≤ n → (∃ hk : k < xs.length, xs[k] = x) → ∃ k, ∃ hk : k < xs.length, xs[k] = x ∧ ∀ j (hj : j < xs.length), j < k → xs[j] ≠ x := by
        intro n
        induction n with
        | zero =>
          intro k hk ⟨h1, h2⟩
          exact ⟨k, h1, h2, fun j hj h3 => by omega⟩
        | succ n ih =>
          intro k hk ⟨h1, h2⟩
          by_cases hex : ∃ j, ∃ hj : j < xs.length, j < k ∧ xs[j] = x
          · obtain ⟨j, hj, h3, h4⟩ := hex
            exact ih j (by omega) ⟨hj, h4⟩
          · exact ⟨k, h1, h2, fun j hj h3 h4 => hex ⟨j, hj, h3, h4⟩⟩
      obtain ⟨k, hk⟩ := hex
      exact key k k (Nat.le_refl _) hk
    rw [idx_hit xs k x hk hx hmin]
    left
    omega
  · right
    exact idx_miss xs x (fun j hj e => h (e ▸ List.getElem_mem hj))
theorem idx_mem (xs : List ByteArray) (x : ByteArray) : Lib.idxOfS xs x < 0 ↔ ¬ x ∈ xs := by
  rw [← Lib.idxOfS_nonneg_iff]
  omega

def Distinct (xs : List ByteArray) : Prop := ∀ j (hj : j < xs.length), Lib.idxOfS xs xs[j] = j
end Go.Proofs.YtijbaienhaiamaaGreatDoor
end

/- What is proved here: the model's IndexOf (package spec) gives the first index. Condition: the slice reads as the list. -/
section
namespace Go.Proofs.YtijbaienhaiamaaGreatDoor
open Go.RowKit

set_option maxHeartbeats 1000000 in
set_option maxRecDepth 100000 in
theorem spec_index (w : World) (a : Option Addr) (cap : Nat) (xs : List ByteArray) (s : ByteArray) (hx : Reads w a xs) (hm : xs.length ≤ maxLen) :
    Calls Tryz.prog 43 #[.slice a xs.length cap, .string s] w fun e w' => e = .returned (.int .i64 (Lib.idxOfS xs s)) ∧ w' = w := by
  unfold maxLen at hm
  have HX := Lib.hid hx
  clear hx
  generalize hn : xs.length = n at *
  have HN := Lib.hid hn
  clear hn
  go_enter Tryz.func43, Tryz.ntmps43
  go_wp2
  go_loop [5] (fun i => ∃ (k : Nat), k ≤ n ∧ i = .int .i64 k ∧ ∀ j (hj : j < xs.length), j < k → xs[j] ≠ s) (fun i => n - (intOf i).toNat)
  case atStart => exact ⟨0, Nat.zero_le _, rfl, fun j _ h => by omega⟩
  case round =>
    obtain ⟨k, hk, rfl, hne⟩ := hrel
    have HNE := Lib.hid hne
    clear hne
    by_cases hlt : k < n
    · have hk' : k < xs.length := by rw [HN.out]; exact hlt
      obtain ⟨y, rfl, hc⟩ := HX.out k hk'
      obtain ⟨x, hxe⟩ : ∃ x, xs[k] = x := ⟨_, rfl⟩
      rw [hxe] at hc
      have HXE := Lib.hid hxe
      clear hxe
      by_cases he : x = s
      · subst he
        have hb : (x.toList == x.toList) = true := by simp
        go_wp2
        go_ret
        refine ⟨?_, rfl⟩
        rw [idx_hit xs k x hk' HXE.out HNE.out]
        rfl
      · have hb : (x.toList == s.toList) = false := (Lib.bytes_beq_false_iff _ _).2 he
        have HE := Lib.hid he
        clear he
        go_wp2
        go_round
        case rel =>
          refine ⟨k + 1, by omega, by go_num, fun j hj h => ?_⟩
          rcases Nat.lt_or_ge j k with h3 | h3
          · exact HNE.out j hj h3
          · obtain rfl : j = k := by omega
            rw [HXE.out]
            exact HE.out
        case measure => simp [intOf]; omega
    · go_wp2
      go_ret
      refine ⟨?_, rfl⟩
      rw [idx_miss xs s (fun j hj => HNE.out j hj (by have := HN.out; omega))]
      rfl

end Go.Proofs.YtijbaienhaiamaaGreatDoor
end

/- What is proved here: laws on a set of texts that a call keeps as a map from string to bool (all its values true): made, stored into (also by a literal), looked up. Conditions: the texts' lengths are lengths. -/
section
namespace Go.Proofs.YtijbaienhaiamaaGreatDoor
open Go.RowKit Go.Maps Go.ChangeMaps

def strLit (s : ByteArray) : Lit := .string s.data.toList
theorem strLit_inj {a b : ByteArray} (h : strLit a = strLit b) : a = b := by
  unfold strLit at h
  injection h with h
  exact ByteArray.ext (Array.toList_inj.1 h)
theorem strLit_key (s : ByteArray) : WideAt.IsKeyLit (strLit s) := True.intro
abbrev yes : DataW Unit := .lit (.bool true)
abbrev no : DataW Unit := .lit (.bool false)

theorem at_fold (s : ByteArray) : ∀ (xs : List ByteArray) (m : DataW Unit), IsMap m → ((xs.map strLit).foldl (fun m x => m.put x yes) m).atKey (strLit s) no = bif bl (s ∈ xs) then yes else m.atKey (strLit s) no
  | [], m, _ => by rw [bl_false (by simp)]; rfl
  | x :: r, m, hm => by
    rw [List.map_cons, List.foldl_cons, at_fold s r (m.put (strLit x) yes) (hm.put _ _)]
    by_cases hr : s ∈ r
    · rw [bl_true hr, bl_true (List.mem_cons_of_mem _ hr)]
      rfl
    · rw [bl_false hr]
      by_cases e : s = x
      · subst e
        rw [atKey_put_same hm (strLit_key s), bl_true (by simp)]
        rfl
      · rw [atKey_put_other (fun h => e (strLit_inj h)), bl_false (by simp [hr, e])]
theorem at_setOf (s : ByteArray) (xs : List ByteArray) : (setOf yes (xs.map strLit)).atKey (strLit s) no = .lit (.bool (bl (s ∈ xs))) := by
  rw [setOf, at_fold s xs _ isMap_empty]
  generalize bl (s ∈ xs) = q
  cases q
  · rfl
  · rfl

set_option maxRecDepth 100000 in
theorem lawS : Keyed Tryz.prog 9 := string_keyed Tryz.underlying9
theorem zeroB (w : World) : (zeroValue 4).run Tryz.prog w = .ok (.bool false) w := by kernel_rfl
set_option maxRecDepth 100000 in
theorem keyS {s : ByteArray} (hs : s.size ≤ maxLen) : keyOf Tryz.prog 9 (.string s) = some (strLit s) := WideMaps.keyOf_string_mk Tryz.underlying9 hs

/-- Block b is a map that holds the texts xs, each with true; it has at most n entries. -/
def IsSet (w : World) (b n : Nat) (xs : List ByteArray) : Prop := w.ownsMap Tryz.prog 9 (plainElem (H := Unit) Tryz.prog 4) b n (setOf yes (xs.map strLit))

theorem isSet_made (w : World) : IsSet (w.alloc (.map #[] 0)) w.heap.size 0 [] := World.ownsMap_made w Tryz.prog 9 _
theorem IsSet.kept {w w' : World} {b n : Nat} {xs : List ByteArray} {row : Option Nat} (h : IsSet w b n xs) (hg : w.grownBy w' row) (hne : some b ≠ row) : IsSet w' b n xs := World.ownsMap.kept h hg hne
set_option maxRecDepth 100000 in
theorem IsSet.below {w w' : World} {b n : Nat} {xs : List ByteArray} (h : IsSet w b n xs) (hb : Below w.heap.size w w') : IsSet w' b n xs :=
  World.ownsMap.kept (row := none) h ⟨hb.os, hb.tape, hb.output, hb.size, fun k hk _ => hb.block k hk⟩ (by simp)
theorem IsSet.lt {w : World} {b n : Nat} {xs : List ByteArray} (h : IsSet w b n xs) : b < w.heap.size := World.ownsMap.lt h

set_option maxRecDepth 100000 in
/-- What a look-up finds. -/
theorem IsSet.look {w : World} {b n : Nat} {xs : List ByteArray} (h : IsSet w b n xs) (s : ByteArray) (hs : s.size ≤ maxLen) : (Instr.lookup 243 (.map (some b)) (.string s) false).run Tryz.prog w = .ok (.bool (bl (s ∈ xs))) w := by
  obtain ⟨v, ps, hrun, hv⟩ := World.ownsMap.lookup h lawS Tryz.underlying243 (zeroB w) (plainElem_bool Tryz.underlying4 false) (keyS hs)
  rw [hrun]
  rw [at_setOf] at hv
  have hvb : ∀ x : Bool, plainElem (H := Unit) Tryz.prog 4 v = some (.lit (.bool x), ps) → v = .bool x := by
    intro x h
    unfold plainElem at h
    rw [Tryz.underlying4] at h
    cases v <;> simp at h
    rw [h.1]
  rw [hvb _ hv]

theorem setOf_snoc' (xs : List ByteArray) (s : ByteArray) : (setOf yes (xs.map strLit)).put (strLit s) yes = setOf yes ((xs ++ [s]).map strLit) := by
  rw [List.map_append, List.map_cons, List.map_nil, setOf_snoc]

set_option maxRecDepth 100000 in
/-- A store. -/
theorem IsSet.put {w : World} {b n : Nat} {xs : List ByteArray} (h : IsSet w b n xs) (hn : n < maxLen) (s : ByteArray) (hs : s.size ≤ maxLen) :
    ∃ w', (Instr.mapUpdate 243 (.map (some b)) (.string s) (.bool true)).run Tryz.prog w = .ok () w' ∧ IsSet w' b (n + 1) (xs ++ [s]) ∧ w.grownBy w' (some b) := by
  obtain ⟨w', hrun, r1, r2⟩ := World.ownsMap.update h lawS Tryz.underlying243 hn (keyS hs) (plainElem_bool Tryz.underlying4 true)
  rw [setOf_snoc'] at r1
  exact ⟨w', hrun, r1, r2⟩
end Go.Proofs.YtijbaienhaiamaaGreatDoor
end

/- What is proved here: IsReserved, IsName, of the program and of the model, say what a name is. Condition: the text's length is a length. -/
section
namespace Go.Proofs.YtijbaienhaiamaaGreatDoor
open Go.RowKit

def reserved : List ByteArray := [⟨#[116, 121, 112, 101]⟩, ⟨#[109, 97, 116, 99, 104]⟩, ⟨#[99, 97, 115, 101]⟩, ⟨#[105, 102]⟩, ⟨#[105, 110, 116]⟩, ⟨#[116, 101, 120, 116]⟩]

set_option maxHeartbeats 1000000 in
set_option maxRecDepth 100000 in
theorem impl_reserved (s : ByteArray) (hs : s.size ≤ maxLen) (w : World) :
    Calls Tryz.prog 186 #[.string s] w fun e w' => e = .returned (.bool (bl (s ∈ reserved))) ∧ Below w.heap.size w w' := by
  have hmm := @run_makeMap Tryz.prog
  have h0 := isSet_made w
  have hb0 : Below w.heap.size w (w.alloc (.map #[] 0)) := (Below.refl _ _).alloc (Nat.le_refl _) _
  obtain ⟨w1, e1, h1, g1⟩ := h0.put (by decide) ⟨#[116, 121, 112, 101]⟩ (by decide)
  obtain ⟨w2, e2, h2, g2⟩ := h1.put (by decide) ⟨#[109, 97, 116, 99, 104]⟩ (by decide)
  obtain ⟨w3, e3, h3, g3⟩ := h2.put (by decide) ⟨#[99, 97, 115, 101]⟩ (by decide)
  obtain ⟨w4, e4, h4, g4⟩ := h3.put (by decide) ⟨#[105, 102]⟩ (by decide)
  obtain ⟨w5, e5, h5, g5⟩ := h4.put (by decide) ⟨#[105, 110, 116]⟩ (by decide)
  obtain ⟨w6, e6, h6, g6⟩ := h5.put (by decide) ⟨#[116, 101, 120, 116]⟩ (by decide)
  have hg := ((((g1.trans g2).trans g3).trans g4).trans g5).trans g6
  have hB : Below w.heap.size w w6 := hb0.grown hg hb0.size (fun j hj => by injection hj with hj; omega)
  have hl : (Instr.lookup 243 (.map (some w.heap.size)) (.string s) false).run Tryz.prog w6 = .ok (.bool (bl (s ∈ reserved))) w6 := h6.look s hs
  generalize bl (s ∈ reserved) = q at hl ⊢
  have HB := Lib.hid hB
  have HS := Lib.hid hs
  clear g1 g2 g3 g4 g5 g6 hg h0 h1 h2 h3 h4 h5 h6 hb0 hB hs
  go_enter Tryz.func186, Tryz.ntmps186
  go_wp2
  go_ret
  exact ⟨rfl, HB.out⟩

set_option maxHeartbeats 1000000 in
set_option maxRecDepth 100000 in
theorem spec_reserved (s : ByteArray) (w : World) :
    Calls Tryz.prog 183 #[.string s] w fun e w' => e = .returned (.bool (bl (s ∈ reserved))) ∧ Below w.heap.size w w' := by
  have hM := heap_at_new w (.cells (reserved.map Value.string).toArray 9)
  have hR := reads_new hM
  have hB : Below w.heap.size w (w.alloc (.cells (reserved.map Value.string).toArray 9)) := (Below.refl _ _).alloc (Nat.le_refl _) _
  have HI : Hid (bl (s ∈ reserved) = decide (0 ≤ Lib.idxOfS reserved s)) := by
    unfold Hid
    by_cases h : s ∈ reserved
    · rw [bl_true h, decide_eq_true ((Lib.idxOfS_nonneg_iff _ _).2 h)]
    · rw [bl_false h, decide_eq_false (fun h2 => h ((Lib.idxOfS_nonneg_iff _ _).1 h2))]
  have H := spec_index _ _ 6 reserved s hR (by decide)
  clear hM hR
  go_enter Tryz.func183, Tryz.ntmps183
  go_wp2_with fail
  refine H.mono ?_
  rintro e w1 ⟨rfl, rfl⟩
  generalize Lib.idxOfS reserved s = z at *
  go_wp2
  go_ret
  exact ⟨by rw [HI.out]; rfl, hB⟩

def Name (s : ByteArray) : Prop := Word 97 122 s ∧ ¬ s ∈ reserved

set_option maxRecDepth 100000 in
theorem impl_name (s : ByteArray) (hs : s.size ≤ maxLen) (w : World) :
    Calls Tryz.prog 139 #[.string s] w fun e w' => e = .returned (.bool (bl (Name s))) ∧ Below w.heap.size w w' := by
  by_cases h : Word 97 122 s
  · have hb := bl_true h
    have HN : Hid (bl (Name s) = !bl (s ∈ reserved)) := by
      unfold Hid
      by_cases h2 : s ∈ reserved
      · rw [bl_true h2, bl_false (fun h3 => h3.2 h2)]; rfl
      · rw [bl_false h2, bl_true ⟨h, h2⟩]; rfl
    go_enter Tryz.func139, Tryz.ntmps139
    go_wp2_with fail
    refine (impl_word s 97 122 hs _).mono ?_
    rintro e w1 ⟨rfl, hb1⟩
    rw [hb]
    go_wp2_with fail
    refine (impl_reserved s hs _).mono ?_
    rintro e w2 ⟨rfl, hb2⟩
    have hb3 := hb1.trans (hb2.mono hb1.size)
    go_wp2
    go_ret
    exact ⟨by rw [HN.out]; rfl, hb3⟩
  · have hb := bl_false h
    have HN : Hid (bl (Name s) = false) := bl_false (fun h3 => h h3.1)
    go_enter Tryz.func139, Tryz.ntmps139
    go_wp2_with fail
    refine (impl_word s 97 122 hs _).mono ?_
    rintro e w1 ⟨rfl, hb1⟩
    rw [hb]
    go_wp2
    go_ret
    exact ⟨by rw [HN.out]; rfl, hb1⟩

set_option maxHeartbeats 1000000 in
set_option maxRecDepth 100000 in
theorem spec_name (s : ByteArray) (hs : s.size ≤ maxLen) (w : World) :
    Calls Tryz.prog 132 #[.string s] w fun e w' => e = .returned (.bool (bl (Name s))) ∧ Below w.heap.size w w' := by
  by_cases h0 : s.size = 0
  · have HN : Hid (bl (Name s) = false) := bl_false (fun h => by have := h.1.1; omega)
    obtain rfl := empty_of s h0
    go_enter Tryz.func132, Tryz.ntmps132
    go_wp2
    go_ret
    exact ⟨by rw [HN.out]; rfl, Below.refl _ _⟩
  · have hp : 0 < s.size := by omega
    have hne := ne_empty s hp
    have hne2 := bl_empty s hp
    by_cases h1 : 97 ≤ s[0].toNat ∧ s[0].toNat ≤ 122
    · have hb1 := bl_true h1
      by_cases h2 : Rest s
      · have hb2 := bl_true h2
        have HN : Hid (bl (Name s) = !bl (s ∈ reserved)) := by
          unfold Hid
          have hW : Word 97 122 s := ⟨h2.1, h2.2.1, fun _ => h1, h2.2.2⟩
          by_cases h3 : s ∈ reserved
          · rw [bl_true h3, bl_false (fun h => h.2 h3)]; rfl
          · rw [bl_false h3, bl_true ⟨hW, h3⟩]; rfl
        go_enter Tryz.func132, Tryz.ntmps132
        go_wp2_with fail
        refine (spec_lower s[0] _).mono ?_
        rintro e w1 ⟨rfl, rfl⟩
        rw [hb1]
        go_wp2_with fail
        refine (spec_rest s hs _).mono ?_
        rintro e w2 ⟨rfl, hB1⟩
        rw [hb2]
        go_wp2_with fail
        refine (spec_reserved s _).mono ?_
        rintro e w3 ⟨rfl, hB2⟩
        have hB3 := hB1.trans (hB2.mono hB1.size)
        go_wp2
        go_ret
        exact ⟨by rw [HN.out]; rfl, hB3⟩
      · have hb2 := bl_false h2
        have HN : Hid (bl (Name s) = false) := bl_false (fun h => h2 ⟨h.1.1, h.1.2.1, h.1.2.2.2⟩)
        go_enter Tryz.func132, Tryz.ntmps132
        go_wp2_with fail
        refine (spec_lower s[0] _).mono ?_
        rintro e w1 ⟨rfl, rfl⟩
        rw [hb1]
        go_wp2_with fail
        refine (spec_rest s hs _).mono ?_
        rintro e w2 ⟨rfl, hB1⟩
        rw [hb2]
        go_wp2
        go_ret
        exact ⟨by rw [HN.out]; rfl, hB1⟩
    · have hb1 := bl_false h1
      have HN : Hid (bl (Name s) = false) := bl_false (fun h => h1 (h.1.2.2.1 hp))
      go_enter Tryz.func132, Tryz.ntmps132
      go_wp2_with fail
      refine (spec_lower s[0] _).mono ?_
      rintro e w1 ⟨rfl, rfl⟩
      rw [hb1]
      go_wp2
      go_ret
      exact ⟨by rw [HN.out]; rfl, Below.refl _ _⟩
end Go.Proofs.YtijbaienhaiamaaGreatDoor
end

/- What is proved here: rows of nodes that lie in certain blocks; the order in which a walk over all nodes meets them, and its stack. No condition. -/
section
namespace Go.Proofs.YtijbaienhaiamaaGreatDoor
open Go.RowKit

/-- The row reads as said, and lies in blocks of S. -/
def TreesOn (S : Nat → Prop) (w : World) : Trees → Option Addr → Nat → Prop
  | .nil, _, _ => True
  | .cons k n t ar r, a, i => (∃ y p cap, a = some y ∧ S y.block ∧ w.cell? (y.add (i * 4)) = some (.int .i64 k) ∧ w.cell? (fieldAt y i 1) = some (.int .i64 n) ∧ w.cell? (fieldAt y i 2) = some (.string t) ∧ w.cell? (fieldAt y i 3) = some (.slice p ar.length cap) ∧ ar.length ≤ cap ∧ TreesOn S w ar p 0) ∧ TreesOn S w r a (i + 1)
theorem TreesOn.at {S : Nat → Prop} {w : World} : ∀ (F : Trees) (a : Option Addr) (i : Nat), TreesOn S w F a i → TreesAt w F a i := by
  intro F
  induction F with
  | nil => intro _ _ _; trivial
  | cons k n t ar r ih1 ih2 =>
    rintro a i ⟨⟨y, p, cap, h1, _, h2, h3, h4, h5, hl, h6⟩, h7⟩
    exact ⟨⟨y, p, cap, h1, h2, h3, h4, h5, hl, ih1 _ _ h6⟩, ih2 _ _ h7⟩
theorem TreesOn.of {w : World} : ∀ (F : Trees) (a : Option Addr) (i : Nat), TreesAt w F a i → TreesOn (fun b => b < w.heap.size) w F a i := by
  intro F
  induction F with
  | nil => intro _ _ _; trivial
  | cons k n t ar r ih1 ih2 =>
    rintro a i ⟨⟨y, p, cap, h1, h2, h3, h4, h5, hl, h6⟩, h7⟩
    have hlt := World.block_lt_of_cell? w _ h2
    rw [addr_block] at hlt
    exact ⟨⟨y, p, cap, h1, hlt, h2, h3, h4, h5, hl, ih1 _ _ h6⟩, ih2 _ _ h7⟩
theorem TreesOn.keep {S : Nat → Prop} {w w' : World} (hk : ∀ b, S b → w'.heap[b]? = w.heap[b]?) : ∀ (F : Trees) (a : Option Addr) (i : Nat), TreesOn S w F a i → TreesOn S w' F a i := by
  intro F
  induction F with
  | nil => intro _ _ _; trivial
  | cons k n t ar r ih1 ih2 =>
    rintro a i ⟨⟨y, p, cap, h1, hs, h2, h3, h4, h5, hl, h6⟩, h7⟩
    have e : ∀ q : Addr, q.block = y.block → w'.cell? q = w.cell? q := fun q hq => World.cell?_of_block (by rw [hq]; exact hk _ hs)
    refine ⟨⟨y, p, cap, h1, hs, ?_, ?_, ?_, ?_, hl, ih1 _ _ h6⟩, ih2 _ _ h7⟩
    · rw [e _ (addr_block _ _)]; exact h2
    · exact (e (fieldAt y i _) (addr_block y _)).trans h3
    · exact (e (fieldAt y i _) (addr_block y _)).trans h4
    · exact (e (fieldAt y i _) (addr_block y _)).trans h5
theorem TreesOn.wider {S S' : Nat → Prop} {w : World} (hs : ∀ b, S b → S' b) : ∀ (F : Trees) (a : Option Addr) (i : Nat), TreesOn S w F a i → TreesOn S' w F a i := by
  intro F
  induction F with
  | nil => intro _ _ _; trivial
  | cons k n t ar r ih1 ih2 =>
    rintro a i ⟨⟨y, p, cap, h1, h0, h2, h3, h4, h5, hl, h6⟩, h7⟩
    exact ⟨⟨y, p, cap, h1, hs _ h0, h2, h3, h4, h5, hl, ih1 _ _ h6⟩, ih2 _ _ h7⟩
theorem TreesOn.shift {S : Nat → Prop} {w : World} (y : Addr) (c : Nat) : ∀ (F : Trees) (i : Nat), TreesOn S w F (some y) (i + c) → 0 < c → TreesOn S w F (some (y.add (c * 4))) i := by
  intro F
  induction F with
  | nil => intro _ _ _; trivial
  | cons k n t ar r _ ih2 =>
    rintro i ⟨⟨z, p, cap, h1, h0, h2, h3, h4, h5, hl, h6⟩, h7⟩ hc
    cases h1
    have e2 : (y.add (c * 4)).add (i * 4) = y.add ((i + c) * 4) := by
      unfold Addr.add
      rw [if_neg (show ¬ c * 4 = 0 by omega), if_neg (show ¬ (i + c) * 4 = 0 by omega)]
      by_cases hi : i * 4 = 0
      · rw [if_pos hi]
        simp only [Addr.mk.injEq, true_and, and_true]
        omega
      · rw [if_neg hi]
        simp only [Addr.mk.injEq, true_and, and_true]
        omega
    refine ⟨⟨_, p, cap, rfl, by rw [addr_block]; exact h0, ?_, ?_, ?_, ?_, hl, h6⟩, ?_⟩
    · rw [e2]; exact h2
    · unfold fieldAt; rw [e2]; exact h3
    · unfold fieldAt; rw [e2]; exact h4
    · unfold fieldAt; rw [e2]; exact h5
    · exact ih2 (i + 1) (by rw [show i + 1 + c = i + c + 1 by omega]; exact h7) hc

/-- What is told of a node: its depth, its fields, how many are below. -/
abbrev Part := Nat × Int × Int × ByteArray × Nat
/-- A node as a walk over all nodes yields it. -/
structure PartX where
  d : Nat
  k : Int
  n : Int
  t : ByteArray
  p : Option Addr
  l : Nat
  c : Nat
def PartX.val (x : PartX) : Value := .agg #[.int .i64 x.k, .int .i64 x.n, .string x.t, .slice x.p x.l x.c]
def PartX.key (x : PartX) : Part := (x.d, x.k, x.n, x.t, x.l)
/-! The nodes, each before those below it. -/
def Trees.pre : Trees → Nat → List Part
  | .nil, _ => []
  | .cons k n t ar r, d => (d, k, n, t, ar.length) :: (ar.pre (d + 1) ++ r.pre d)
theorem Trees.pre_length (F : Trees) : ∀ d, (F.pre d).length = F.count := by
  induction F with
  | nil => intro d; rfl
  | cons k n t ar r ih1 ih2 => intro d; simp [Trees.pre, Trees.count, ih1, ih2]; omega
/-- What a stack of rows (the last first) has still to give. -/
def rem : List Trees → List Part
  | [] => []
  | F :: st => F.pre (st.length + 1) ++ rem st
def work : List Trees → Nat
  | [] => 0
  | F :: st => 2 * F.count + 1 + work st
theorem length_le_work (st : List Trees) : st.length ≤ work st := by
  induction st with
  | nil => exact Nat.le_refl _
  | cons F st ih => simp [work]; omega
theorem rem_node (k n : Int) (t : ByteArray) (ar r : Trees) (st : List Trees) : rem (.cons k n t ar r :: st) = (st.length + 1, k, n, t, ar.length) :: rem (ar :: r :: st) := by
  simp [rem, Trees.pre]
theorem work_node (k n : Int) (t : ByteArray) (ar r : Trees) (st : List Trees) : work (ar :: r :: st) + 1 = work (.cons k n t ar r :: st) := by
  simp [work, Trees.count]; omega
/-- The rows of a stack, as slices. -/
def StackOn (S : Nat → Prop) (w : World) : List Trees → List Value → Prop
  | [], vs => vs = []
  | F :: st, vs => ∃ p cap us, vs = .slice p F.length cap :: us ∧ F.length ≤ cap ∧ TreesOn S w F p 0 ∧ StackOn S w st us
theorem StackOn.keep {S : Nat → Prop} {w w' : World} (hk : ∀ b, S b → w'.heap[b]? = w.heap[b]?) : ∀ (st : List Trees) (vs : List Value), StackOn S w st vs → StackOn S w' st vs := by
  intro st
  induction st with
  | nil => intro vs h; exact h
  | cons F st ih =>
    rintro vs ⟨p, cap, us, h1, hl, h2, h3⟩
    exact ⟨p, cap, us, h1, hl, TreesOn.keep hk _ _ _ h2, ih _ h3⟩
theorem StackOn.length {S : Nat → Prop} {w : World} : ∀ (st : List Trees) (vs : List Value), StackOn S w st vs → vs.length = st.length := by
  intro st
  induction st with
  | nil => rintro vs rfl; rfl
  | cons F st ih =>
    rintro vs ⟨p, cap, us, rfl, _, _, h3⟩
    simp [ih _ h3]
end Go.Proofs.YtijbaienhaiamaaGreatDoor
end

/- What is proved here: lengths and emptiness as Booleans. No condition. -/
section
namespace Go.Proofs.YtijbaienhaiamaaGreatDoor
open Go.RowKit

theorem bl_len (l c : Nat) : ((l : Int) == (c : Int)) = bl (l = c) := by
  by_cases h : l = c
  · rw [bl_true h, h]; simp
  · rw [bl_false h]; simp; omega
theorem bl_empty_eq (t : ByteArray) : (t.toList == []) = bl (t.size = 0) := by
  by_cases h : t.size = 0
  · rw [bl_true h, empty_of t h, ByteArray.toList_eq]; rfl
  · rw [bl_false h]; exact ne_empty t (by omega)
end Go.Proofs.YtijbaienhaiamaaGreatDoor
end

/- What is proved here: whether an integer is within the bounds of the document, as model and program tell it. No condition. -/
section
namespace Go.Proofs.YtijbaienhaiamaaGreatDoor
open Go.RowKit

def inInt (n : Int) : Bool := decide (-999999999999 ≤ n) && decide (n ≤ 999999999999)
set_option maxRecDepth 100000 in
theorem spec_inInt (n : Int) (w : World) :
    Calls Tryz.prog 123 #[.int .i64 n, .int .i64 (-999999999999), .int .i64 999999999999] w fun e w' => e = .returned (.bool (inInt n)) ∧ w' = w := by
  unfold inInt
  by_cases h1 : -999999999999 ≤ n
  · have e1 : decide (-999999999999 ≤ n) = true := by simpa using h1
    rw [e1]
    clear h1
    go_enter Tryz.func123, Tryz.ntmps123
    go_wp2
    go_ret
    exact ⟨rfl, rfl⟩
  · have e1 : decide (-999999999999 ≤ n) = false := by simpa using h1
    rw [e1]
    clear h1
    go_enter Tryz.func123, Tryz.ntmps123
    go_wp2
    go_ret
    exact ⟨rfl, rfl⟩
end Go.Proofs.YtijbaienhaiamaaGreatDoor
end

/- What is proved here: the four forms of an expression's node, and when an expression is valid (pure); whether a number is an operator, as model and program tell it. No condition. -/
section
namespace Go.Proofs.YtijbaienhaiamaaGreatDoor
open Go.RowKit

def inOp (n : Int) : Bool := decide (1 ≤ n) && decide (n ≤ 7)
/-- One of the four forms; l nodes are below. -/
noncomputable def exprForm (k n : Int) (t : ByteArray) (l : Nat) : Bool :=
  if k = 1 then inInt n && (bl (t.size = 0) && bl (l = 0))
  else if k = 2 then (n == 0) && (bl (Name t) && bl (l = 0))
  else if k = 3 then inOp n && (bl (t.size = 0) && bl (l = 2))
  else if k = 4 then (n == 0) && (bl (t.size = 0) && bl (l = 1))
  else false
/-- Every node of a row has one of the forms. -/
noncomputable def Trees.formedE : Trees → Bool
  | .nil => true
  | .cons k n t ar r => exprForm k n t ar.length && (ar.formedE && r.formedE)
theorem formedE_pre (F : Trees) : ∀ d, (F.pre d).all (fun x => exprForm x.2.1 x.2.2.1 x.2.2.2.1 x.2.2.2.2) = F.formedE := by
  induction F with
  | nil => intro d; rfl
  | cons k n t ar r ih1 ih2 => intro d; simp only [Trees.pre, Trees.formedE, List.all_cons, List.all_append, ih1, ih2]
theorem allExpr_node (k n : Int) (t : ByteArray) (F : Trees) : (((1, k, n, t, F.length) :: F.pre 2 : List Part)).all (fun x => exprForm x.2.1 x.2.2.1 x.2.2.2.1 x.2.2.2.2) = (exprForm k n t F.length && F.formedE) := by
  rw [List.all_cons, formedE_pre]
/-- At most 12 nodes, a depth of at most 6, and every node has one of the four forms. -/
noncomputable def validExpr (k n : Int) (t : ByteArray) (F : Trees) : Bool := decide (1 + F.count ≤ 12 ∧ F.deep + 1 ≤ 6) && (exprForm k n t F.length && F.formedE)
set_option maxRecDepth 100000 in
theorem spec_inOp (n : Int) (w : World) :
    Calls Tryz.prog 123 #[.int .i64 n, .int .i64 1, .int .i64 7] w fun e w' => e = .returned (.bool (inOp n)) ∧ w' = w := by
  unfold inOp
  by_cases h1 : 1 ≤ n
  · have e1 : decide (1 ≤ n) = true := by simpa using h1
    rw [e1]
    clear h1
    go_enter Tryz.func123, Tryz.ntmps123
    go_wp2
    go_ret
    exact ⟨rfl, rfl⟩
  · have e1 : decide (1 ≤ n) = false := by simpa using h1
    rw [e1]
    clear h1
    go_enter Tryz.func123, Tryz.ntmps123
    go_wp2
    go_ret
    exact ⟨rfl, rfl⟩
end Go.Proofs.YtijbaienhaiamaaGreatDoor
end

/- What is proved here: texts as lists of bytes. No condition. -/
section
namespace Go.Proofs.YtijbaienhaiamaaGreatDoor
open Go.RowKit

/-- A text of these bytes. -/
def str (l : List UInt8) : ByteArray := ⟨l.toArray⟩
theorem str_size (l : List UInt8) : (str l).size = l.length := by show l.toArray.size = _; simp
theorem str_data (t : ByteArray) : str t.data.toList = t := by
  cases t
  simp [str]
theorem str_append (a b : List UInt8) : str a ++ str b = str (a ++ b) := by
  apply ByteArray.ext
  show (str a ++ str b).data = _
  rw [ByteArray.data_append]
  simp [str]
theorem str_inj {a b : List UInt8} (h : str a = str b) : a = b := by
  have : (str a).data.toList = (str b).data.toList := by rw [h]
  simpa [str] using this

theorem itoa_len (n : Int) (h0 : -9223372036854775808 ≤ n) (h1 : n ≤ 9223372036854775807) : (Lib.itoa n).length ≤ 21 := Lib.itoa_length_le n h0 h1
end Go.Proofs.YtijbaienhaiamaaGreatDoor
end

/- What is proved here: the representation of an expression as bytes (pure). No condition. -/
section
namespace Go.Proofs.YtijbaienhaiamaaGreatDoor
open Go.RowKit

theorem inOp_iff (n : Int) : inOp n = true ↔ n = 1 ∨ n = 2 ∨ n = 3 ∨ n = 4 ∨ n = 5 ∨ n = 6 ∨ n = 7 := by
  unfold inOp
  simp only [Bool.and_eq_true, decide_eq_true_eq]
  omega
theorem exprForm_iff (k n : Int) (t : ByteArray) (l : Nat) : exprForm k n t l = true ↔ (k = 1 ∧ inInt n = true ∧ t.size = 0 ∧ l = 0) ∨ (k = 2 ∧ n = 0 ∧ Name t ∧ l = 0) ∨ (k = 3 ∧ inOp n = true ∧ t.size = 0 ∧ l = 2) ∨ (k = 4 ∧ n = 0 ∧ t.size = 0 ∧ l = 1) := by
  unfold exprForm
  by_cases h1 : k = 1
  · subst h1; simp [bl_iff]
  by_cases h2 : k = 2
  · subst h2; simp [bl_iff]
  by_cases h3 : k = 3
  · subst h3; simp [bl_iff]
  by_cases h4 : k = 4
  · subst h4; simp [bl_iff]
  simp [h1, h2, h3, h4]
/-- What stands between the two below an operator. -/
def signE (n : Int) : List UInt8 := if n = 1 then [32, 43, 32] else if n = 2 then [32, 45, 32] else if n = 3 then [32, 42, 32] else if n = 4 then [32, 60, 32] else if n = 5 then [32, 61, 61, 32] else if n = 6 then [32, 38, 32] else if n = 7 then [32, 124, 32] else []
theorem signE_len (n : Int) : (signE n).length ≤ 4 := by
  unfold signE
  repeat' split
  all_goals simp
/-- A node, given the representations of what is below it. -/
def nodeE (k n : Int) (t : ByteArray) (xs : List (List UInt8)) : List UInt8 :=
  if k = 1 then Lib.itoa n
  else if k = 2 then t.data.toList
  else if k = 4 then [33] ++ xs.headD []
  else [40] ++ xs.headD [] ++ signE n ++ xs.tail.headD [] ++ [41]
def Trees.textsE : Trees → List (List UInt8)
  | .nil => []
  | .cons k n t ar r => nodeE k n t ar.textsE :: r.textsE
theorem textsE_length (F : Trees) : F.textsE.length = F.length := by
  induction F with
  | nil => rfl
  | cons k n t ar r _ ih => simp [Trees.textsE, Trees.length, ih]
def roomE (xs : List (List UInt8)) : Nat := (xs.map fun x => x.length).sum
theorem headE_room (xs : List (List UInt8)) : (xs.headD []).length + (xs.tail.headD []).length ≤ roomE xs := by
  match xs with
  | [] => simp [roomE]
  | [x] => simp [roomE]
  | x :: y :: r => simp [roomE] <;> omega
theorem nodeE_len (k n : Int) (t : ByteArray) (l : Nat) (xs : List (List UInt8)) (h : exprForm k n t l = true) : (nodeE k n t xs).length ≤ 21 + roomE xs := by
  have e : t.data.toList.length = t.size := rfl
  have h1 := headE_room xs
  have h2 := signE_len n
  unfold nodeE
  rcases (exprForm_iff k n t l).1 h with ⟨rfl, hi, _⟩ | ⟨rfl, _, hN, _⟩ | ⟨rfl, _⟩ | ⟨rfl, _⟩
  · unfold inInt at hi
    simp only [Bool.and_eq_true, decide_eq_true_eq] at hi
    have := itoa_len n (by omega) (by omega)
    simp only [if_true]
    omega
  · have : t.size ≤ 8 := hN.1.2.1
    simp only [show ¬ (2 : Int) = 1 by decide, if_false, if_true]
    omega
  · simp only [show ¬ (3 : Int) = 1 by decide, show ¬ (3 : Int) = 2 by decide, show ¬ (3 : Int) = 4 by decide, if_false, List.length_append, List.length_singleton]
    omega
  · simp only [show ¬ (4 : Int) = 1 by decide, show ¬ (4 : Int) = 2 by decide, if_false, if_true, List.length_append, List.length_singleton]
    omega
theorem textsE_room (F : Trees) (h : F.formedE = true) : roomE F.textsE ≤ 21 * F.count := by
  induction F with
  | nil => simp [Trees.textsE, roomE]
  | cons k n t ar r ih1 ih2 =>
    simp only [Trees.formedE, Bool.and_eq_true] at h
    have h1 := nodeE_len k n t ar.length ar.textsE h.1
    have h2 := ih1 h.2.1
    have h3 := ih2 h.2.2
    simp only [Trees.textsE, Trees.count, roomE, List.map_cons, List.sum_cons] at h1 h2 h3 ⊢
    omega
theorem textE_len (k n : Int) (t : ByteArray) (F : Trees) (h : F.formedE = true) (h0 : exprForm k n t F.length = true) : (nodeE k n t F.textsE).length ≤ 21 * (1 + F.count) := by
  have h1 := nodeE_len k n t F.length F.textsE h0
  have h2 := textsE_room F h
  omega
/-- The representation of an expression; none of what is no valid one. -/
noncomputable def exprFmt (k n : Int) (t : ByteArray) (F : Trees) : ByteArray := if validExpr k n t F = true then str (nodeE k n t F.textsE) else ⟨#[]⟩
end Go.Proofs.YtijbaienhaiamaaGreatDoor
end

/- What is proved here: two texts put together. Condition: at most 2^40 bytes. -/
section
namespace Go.Proofs.YtijbaienhaiamaaGreatDoor
open Go.RowKit

theorem cat (a b : List UInt8) (h : a.length + b.length ≤ 1099511627776) (w : World) : (Op.stringOp .add (str a) (str b)).run Tryz.prog w = .ok (.string (str (a ++ b))) w := by
  rw [run_string_add_sum w _ _ (by rw [str_size, str_size]; omega), str_append]

end Go.Proofs.YtijbaienhaiamaaGreatDoor
end

/- Plain facts on decimal numerals: the numeral of u is that of u / 10 with the last digit behind it. No condition. -/
section
namespace Go.Proofs.YtijbaienhaiamaaGreatDoor
open Go.Lib

/-- The digits of u, none for 0. -/
def digitsOf (u : Nat) : List UInt8 := if u = 0 then [] else decDigits u

theorem digitsOf_zero : digitsOf 0 = [] := if_pos rfl
theorem digitsOf_pos {u : Nat} (h : u ≠ 0) : digitsOf u = decDigits u := if_neg h
theorem digitsOf_step {u : Nat} (h : u ≠ 0) : digitsOf u = digitsOf (u / 10) ++ [UInt8.ofNat (48 + u % 10)] := by
  rw [digitsOf_pos h, decDigits]
  by_cases h1 : u < 10
  · rw [dif_pos h1, show u / 10 = 0 by omega, digitsOf_zero, show u % 10 = u by omega]; rfl
  · rw [dif_neg h1, digitsOf_pos (by omega)]
theorem digitsOf_le (u : Nat) : (digitsOf u).length ≤ nDigits u := by
  by_cases h : u = 0
  · rw [h, digitsOf_zero]; simp
  · rw [digitsOf_pos h, decDigits_length]; exact Nat.le_refl _

end Go.Proofs.YtijbaienhaiamaaGreatDoor
end

/- What is proved here: the model's FormatInt (package spec) returns the decimal numeral of every int. Condition: the argument is an int. -/
section
namespace Go.Proofs.YtijbaienhaiamaaGreatDoor
open Go.RowKit
open Go.Lib (decDigits nDigits)

/-- 'string([]byte{byte(48 + d)})' off a new block. -/
theorem conv_one (d : Nat) (hd : d < 10) (w : World) :
    (convert 22 9 (.slice (some ⟨w.heap.size, 0, none⟩) 1 1)).run Tryz.prog (w.alloc (.cells #[.int .u8 (48 + (d : Int))] 5)) = .ok (.string ⟨#[UInt8.ofNat (48 + d)]⟩) (w.alloc (.cells #[.int .u8 (48 + (d : Int))] 5)) := by
  have h := run_convert_bytes_back (P := Tryz.prog) (w.alloc (.cells #[.int .u8 (48 + (d : Int))] 5)) 22 9 5 ⟨w.heap.size, 0, none⟩ 1 [UInt8.ofNat (48 + d)] Tryz.underlying22 Tryz.underlying5 Tryz.underlying9 (fun j hj => by
    have hj0 : j = 0 := by simpa using hj
    subst hj0
    have e : ((UInt8.ofNat (48 + d)).toNat : Int) = 48 + (d : Int) := by simp; omega
    rw [Lib.add_plain]
    simp only [List.getElem_cons_zero]
    rw [e]
    simp [World.cell?_alloc_new])
  simpa using h

theorem cat_one (c : UInt8) (L : List UInt8) (h : L.length ≤ 100) (w : World) : (Op.stringOp .add ⟨#[c]⟩ ⟨L.toArray⟩).run Tryz.prog w = .ok (.string ⟨(c :: L).toArray⟩) w := by
  have e1 : (ByteArray.mk #[c]).size = 1 := rfl
  have e2 : (ByteArray.mk L.toArray).size = L.length := by show L.toArray.size = _; simp
  rw [run_string_add_sum w _ _ (by rw [e1, e2]; omega)]
  rfl

set_option maxHeartbeats 400000 in
set_option maxRecDepth 100000 in
theorem spec_format_pos (n : Nat) (h1 : n ≤ 9223372036854775807) (hp : n ≠ 0) (w : World) :
    Calls Tryz.prog 58 #[.int .i64 (n : Int)] w fun e w' => e = .returned (.string ⟨(decDigits n).toArray⟩) ∧ Below w.heap.size w w' := by
  have hn20 : (decDigits n).length ≤ 20 := by rw [Lib.decDigits_length]; exact Lib.nDigits_le20 n (by omega)
  have HN := Lib.hid hn20
  clear hn20
  go_enter Tryz.func58, Tryz.ntmps58
  go_wp2
  go_loopw [0, 4] (fun a o wr => ∃ (u : Nat) (L : List UInt8), a = .int .i64 u ∧ u ≤ n ∧ o = .string ⟨L.toArray⟩ ∧ L.length ≤ 20 ∧ digitsOf u ++ L = decDigits n ∧ Below w.heap.size w wr) (fun a _ _ => (intOf a).toNat)
  case atStart => exact ⟨n, [], rfl, Nat.le_refl _, rfl, by simp, by simp [digitsOf_pos hp], Below.refl _ _⟩
  case round =>
    obtain ⟨u, L, rfl, hu, rfl, hL, hD, hb⟩ := hrel
    by_cases h0 : u = 0
    · subst h0
      go_wp2
      go_ret
      rw [digitsOf_zero] at hD
      simp at hD
      subst hD
      exact ⟨rfl, hb⟩
    · have hD' := Lib.hid hD
      clear hD
      have hcv := conv_one (u % 10) (by omega) wr
      have hct := cat_one (UInt8.ofNat (48 + u % 10)) L (by omega)
      simp only [Int.natCast_emod, Int.cast_ofNat_Int] at hcv
      go_wp2
      go_roundw
      case rel => 
        refine ⟨u / 10, _, by go_num, by omega, rfl, ?_, ?_, ?_⟩
        · have := hD'.out
          rw [digitsOf_step h0] at this
          have h2 := congrArg List.length this
          have h3 := HN.out
          simp at h2 ⊢
          omega
        · have := hD'.out
          rw [digitsOf_step h0] at this
          simpa using this
        · exact hb.alloc (by have := hb.size; omega) _
      case measure => simp [intOf]; omega

set_option maxHeartbeats 400000 in
set_option maxRecDepth 100000 in
theorem spec_format_neg (n : Nat) (h1 : n ≤ 9223372036854775808) (hp : n ≠ 0) (w : World) :
    Calls Tryz.prog 58 #[.int .i64 (-(n : Int))] w fun e w' => e = .returned (.string ⟨(45 :: decDigits n).toArray⟩) ∧ Below w.heap.size w w' := by
  have hn20 : (decDigits n).length ≤ 20 := by rw [Lib.decDigits_length]; exact Lib.nDigits_le20 n (by omega)
  have hct0 := cat_one 45 (decDigits n) (by omega)
  have HN := Lib.hid hn20
  clear hn20
  have hz : (-(n : Int) == 0) = false := by simp; omega
  have hl : decide (-(n : Int) < 0) = true := by simp; omega
  go_enter Tryz.func58, Tryz.ntmps58
  go_wp2
  go_loopw [0, 4] (fun a o wr => ∃ (u : Nat) (L : List UInt8), a = .int .i64 (-(u : Int)) ∧ u ≤ n ∧ o = .string ⟨L.toArray⟩ ∧ L.length ≤ 20 ∧ digitsOf u ++ L = decDigits n ∧ Below w.heap.size w wr) (fun a _ _ => (intOf a).natAbs)
  case atStart => exact ⟨n, [], rfl, Nat.le_refl _, rfl, by simp, by simp [digitsOf_pos hp], Below.refl _ _⟩
  case round =>
    obtain ⟨u, L, rfl, hu, rfl, hL, hD, hb⟩ := hrel
    by_cases h0 : u = 0
    · subst h0
      rw [digitsOf_zero] at hD
      simp at hD
      subst hD
      go_wp2
      go_ret
      exact ⟨rfl, hb⟩
    · have hD' := Lib.hid hD
      clear hD
      have hcv := conv_one (u % 10) (by omega) wr
      have hct := cat_one (UInt8.ofNat (48 + u % 10)) L (by omega)
      simp only [Int.natCast_emod, Int.cast_ofNat_Int] at hcv
      have hcv2 := hcv
      by_cases hd : u % 10 = 0
      · rw [show 48 + ((u : Int) % 10) = 48 + -((u : Int) % 10) by omega] at hcv2
        clear hcv
        have HD := Lib.hid hd
        have hd1 : ¬ ((u : Int) % 10 < 0) := by omega
        have hd2 : ¬ (0 < (u : Int) % 10) := by omega
        clear hd
        go_wp2
        go_roundw
        case rel =>
          refine ⟨u / 10, _, by go_num, by omega, rfl, ?_, ?_, ?_⟩
          · have := hD'.out
            rw [digitsOf_step h0] at this
            have h2 := congrArg List.length this
            have h3 := HN.out
            simp at h2 ⊢
            omega
          · have := hD'.out
            rw [digitsOf_step h0] at this
            simpa using this
          · exact hb.alloc (by have := hb.size; omega) _
        case measure => simp [intOf]; omega
      · clear hcv2
        go_wp2
        go_roundw
        case rel =>
          refine ⟨u / 10, _, by go_num, by omega, rfl, ?_, ?_, ?_⟩
          · have := hD'.out
            rw [digitsOf_step h0] at this
            have h2 := congrArg List.length this
            have h3 := HN.out
            simp at h2 ⊢
            omega
          · have := hD'.out
            rw [digitsOf_step h0] at this
            simpa using this
          · exact hb.alloc (by have := hb.size; omega) _
        case measure => simp [intOf]; omega

theorem spec_format_zero (w : World) :
    Calls Tryz.prog 58 #[.int .i64 0] w fun e w' => e = .returned (.string ⟨(decDigits 0).toArray⟩) ∧ Below w.heap.size w w' := by
  have e : decDigits 0 = [48] := by rw [Lib.decDigits_one (by omega)]; rfl
  rw [e]
  go_enter Tryz.func58, Tryz.ntmps58
  go_wp2
  go_ret
  exact ⟨rfl, Below.refl _ _⟩

/-- spec.FormatInt: the decimal numeral of every int. -/
theorem spec_format (n : Int) (h0 : -9223372036854775808 ≤ n) (h1 : n ≤ 9223372036854775807) (w : World) :
    Calls Tryz.prog 58 #[.int .i64 n] w fun e w' => e = .returned (.string ⟨(Lib.itoa n).toArray⟩) ∧ Below w.heap.size w w' := by
  by_cases hn : n < 0
  · obtain ⟨u, rfl⟩ : ∃ u : Nat, n = -(u : Int) := ⟨n.natAbs, by omega⟩
    rw [Lib.itoa_neg u (by omega)]
    exact spec_format_neg u (by omega) (by omega) w
  · obtain ⟨u, rfl⟩ : ∃ u : Nat, n = (u : Int) := ⟨n.toNat, by omega⟩
    rw [Lib.itoa_nonneg]
    by_cases hu : u = 0
    · subst hu
      exact spec_format_zero w
    · exact spec_format_pos u (by omega) hu w

end Go.Proofs.YtijbaienhaiamaaGreatDoor
end
