/- What is proved here: laws on a set of texts that a call keeps as a map from string to bool (all its values true): made, stored into (also by a literal), looked up. Conditions: the texts' lengths are lengths. -/
import Derived.Test.YtdifefgigcjgeaaWords
import Derived.Maps.OwnSet
import Derived.StringKeys
namespace Go.Proofs.Ytdifefgigcjgeaa
open Go.RowKit Go.Maps Go.ChangeMaps

def strLit (s : ByteArray) : Lit := .string s.data.toList
theorem strLit_inj {a b : ByteArray} (h : strLit a = strLit b) : a = b := by
  unfold strLit at h
  injection h with h
  exact ByteArray.ext (Array.toList_inj.1 h)
theorem strLit_key (s : ByteArray) : WideAt.IsKeyLit (strLit s) := True.intro
abbrev yes : DataW Unit := .lit (.bool true)
abbrev no : DataW Unit := .lit (.bool false)

theorem at_fold (s : ByteArray) : ∀ (xs : List ByteArray) (m : DataW Unit), IsMap m → ((xs.map strLit).foldl (fun m x => m.put x yes) m).atKey (strLit s) no = bif bl (s ∈ xs) then yes else m.atKey (strLit s) no
  | [], m, _ => by rw [bl_false (by simp)]; rfl
  | x :: r, m, hm => by
    rw [List.map_cons, List.foldl_cons, at_fold s r (m.put (strLit x) yes) (hm.put _ _)]
    by_cases hr : s ∈ r
    · rw [bl_true hr, bl_true (List.mem_cons_of_mem _ hr)]
      rfl
    · rw [bl_false hr]
      by_cases e : s = x
      · subst e
        rw [atKey_put_same hm (strLit_key s), bl_true (by simp)]
        rfl
      · rw [atKey_put_other (fun h => e (strLit_inj h)), bl_false (by simp [hr, e])]
theorem at_setOf (s : ByteArray) (xs : List ByteArray) : (setOf yes (xs.map strLit)).atKey (strLit s) no = .lit (.bool (bl (s ∈ xs))) := by
  rw [setOf, at_fold s xs _ isMap_empty]
  generalize bl (s ∈ xs) = q
  cases q
  · rfl
  · rfl

set_option maxRecDepth 100000 in
theorem lawS : Keyed Try.prog 9 := string_keyed Try.underlying9
theorem zeroB (w : World) : (zeroValue 4).run Try.prog w = .ok (.bool false) w := by kernel_rfl
set_option maxRecDepth 100000 in
theorem keyS {s : ByteArray} (hs : s.size ≤ maxLen) : keyOf Try.prog 9 (.string s) = some (strLit s) := WideMaps.keyOf_string_mk Try.underlying9 hs

/-- Block b is a map that holds the texts xs, each with true; it has at most n entries. -/
def IsSet (w : World) (b n : Nat) (xs : List ByteArray) : Prop := w.ownsMap Try.prog 9 (plainElem (H := Unit) Try.prog 4) b n (setOf yes (xs.map strLit))

theorem isSet_made (w : World) : IsSet (w.alloc (.map #[] 0)) w.heap.size 0 [] := World.ownsMap_made w Try.prog 9 _
theorem IsSet.kept {w w' : World} {b n : Nat} {xs : List ByteArray} {row : Option Nat} (h : IsSet w b n xs) (hg : w.grownBy w' row) (hne : some b ≠ row) : IsSet w' b n xs := World.ownsMap.kept h hg hne
set_option maxRecDepth 100000 in
theorem IsSet.below {w w' : World} {b n : Nat} {xs : List ByteArray} (h : IsSet w b n xs) (hb : Below w.heap.size w w') : IsSet w' b n xs :=
  World.ownsMap.kept (row := none) h ⟨hb.os, hb.tape, hb.output, hb.size, fun k hk _ => hb.block k hk⟩ (by simp)
theorem IsSet.lt {w : World} {b n : Nat} {xs : List ByteArray} (h : IsSet w b n xs) : b < w.heap.size := World.ownsMap.lt h

set_option maxRecDepth 100000 in
/-- What a look-up finds. -/
theorem IsSet.look {w : World} {b n : Nat} {xs : List ByteArray} (h : IsSet w b n xs) (s : ByteArray) (hs : s.size ≤ maxLen) : (Instr.lookup 127 (.map (some b)) (.string s) false).run Try.prog w = .ok (.bool (bl (s ∈ xs))) w := by
  obtain ⟨v, ps, hrun, hv⟩ := World.ownsMap.lookup h lawS Try.underlying127 (zeroB w) (plainElem_bool Try.underlying4 false) (keyS hs)
  rw [hrun]
  rw [at_setOf] at hv
  have hvb : ∀ x : Bool, plainElem (H := Unit) Try.prog 4 v = some (.lit (.bool x), ps) → v = .bool x := by
    intro x h
    unfold plainElem at h
    rw [Try.underlying4] at h
    cases v <;> simp at h
    rw [h.1]
  rw [hvb _ hv]

theorem setOf_snoc' (xs : List ByteArray) (s : ByteArray) : (setOf yes (xs.map strLit)).put (strLit s) yes = setOf yes ((xs ++ [s]).map strLit) := by
  rw [List.map_append, List.map_cons, List.map_nil, setOf_snoc]

set_option maxRecDepth 100000 in
/-- A store. -/
theorem IsSet.put {w : World} {b n : Nat} {xs : List ByteArray} (h : IsSet w b n xs) (hn : n < maxLen) (s : ByteArray) (hs : s.size ≤ maxLen) :
    ∃ w', (Instr.mapUpdate 127 (.map (some b)) (.string s) (.bool true)).run Try.prog w = .ok () w' ∧ IsSet w' b (n + 1) (xs ++ [s]) ∧ w.grownBy w' (some b) := by
  obtain ⟨w', hrun, r1, r2⟩ := World.ownsMap.update h lawS Try.underlying127 hn (keyS hs) (plainElem_bool Try.underlying4 true)
  rw [setOf_snoc'] at r1
  exact ⟨w', hrun, r1, r2⟩
end Go.Proofs.Ytdifefgigcjgeaa
