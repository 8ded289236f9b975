/- What is proved here: two rows of texts of the call's own that grow side by side; what a valid signature is. No condition. -/
import Derived.Test.YtcmpaccpdjcocaaValidCon
import Derived.Test.YtcmpaccpdjcocaaSpecLives
import Derived.Test.YtcmpaccpdjcocaaImplSort
namespace Go.Proofs.Ytcmpaccpdjcocaa
open Go.RowKit

def conNames (s : List TypeD) : List ByteArray := (s.map fun t => t.cons.map ConD.name).flatten
/-- All declarations are good by themselves, no more than four, no name twice, and each type has values. -/
def ValidSig (s : List TypeD) : Prop := (∀ t ∈ s, GoodT s t) ∧ s.length ≤ 4 ∧ Distinct (s.map TypeD.name) ∧ Distinct (conNames s) ∧ (inhabited s).length = s.length

/-- Two rows of texts that grow; the box of the signature at n0. -/
structure Two (w : World) (B n0 : Nat) (box : Value) (xs ys : List ByteArray) (v1 v2 : Value) (wr : World) : Prop where
  one : wr.ownsRow B 9 1 v1 xs.length (xs.map Value.string)
  two : wr.ownsRow B 9 1 v2 ys.length (ys.map Value.string)
  apart : v1.ownBlock = none ∨ v1.ownBlock ≠ v2.ownBlock
  apart2 : v2.ownBlock = none ∨ v2.ownBlock ≠ v1.ownBlock
  base : Below w.heap.size w wr
  box : wr.cell? ⟨n0, 0, none⟩ = some box
  low : n0 < B
  le : B ≤ wr.heap.size
  le0 : w.heap.size ≤ B
theorem Two.swap {w : World} {B n0 : Nat} {box : Value} {xs ys : List ByteArray} {v1 v2 : Value} {wr : World} (h : Two w B n0 box xs ys v1 v2 wr) : Two w B n0 box ys xs v2 v1 wr := ⟨h.two, h.one, h.apart2, h.apart, h.base, h.box, h.low, h.le, h.le0⟩
theorem own_below {w w' : World} {B : Nat} {v : Value} {n : Nat} {xs : List Value} (h : w.ownsRow B 9 1 v n xs) (hb : Below w.heap.size w w') : w'.ownsRow B 9 1 v n xs :=
  h.kept (row := none) ⟨hb.os, hb.tape, hb.output, hb.size, fun k hk _ => hb.block k hk⟩ (by cases hv : v.ownBlock <;> simp)
theorem Two.below {w : World} {B n0 : Nat} {box : Value} {xs ys : List ByteArray} {v1 v2 : Value} {wr w' : World} (h : Two w B n0 box xs ys v1 v2 wr) (hb : Below wr.heap.size wr w') : Two w B n0 box xs ys v1 v2 w' :=
  ⟨own_below h.one hb, own_below h.two hb, h.apart, h.apart2, h.base.trans (hb.mono h.base.size), cell_below h.box hb, h.low, Nat.le_trans h.le hb.size, h.le0⟩
theorem Two.app1 {w : World} {B n0 : Nat} {box : Value} {xs ys : List ByteArray} {v1 v2 : Value} {wr w' : World} (h : Two w B n0 box xs ys v1 v2 wr) {x : ByteArray} {g c : Nat} (ho : w'.ownsRow B 9 1 (.slice (some ⟨g, 0, none⟩) (xs.length + 1) c) (xs.length + 1) (xs.map Value.string ++ [.string x])) (hg : wr.grownBy w' v1.ownBlock) (hat : v1.ownBlock = some g ∨ g = wr.heap.size) :
    Two w B n0 box (xs ++ [x]) ys (.slice (some ⟨g, 0, none⟩) (xs.length + 1) c) v2 w' := by
  have hr : ∀ k, v1.ownBlock = some k → B ≤ k := fun k hk => (h.one.lt k hk).1
  have hne : v2.ownBlock ≠ some g := by
    intro e
    rcases hat with h1 | h1
    · rcases h.apart2 with h2 | h2
      · rw [h2] at e; cases e
      · exact h2 (by rw [e, h1])
    · have := (h.two.lt g e).2
      omega
  refine ⟨?_, h.two.kept hg h.apart2, .inr (fun e => hne e.symm), .inr hne, h.base.grown hg h.base.size (fun k hk => Nat.le_trans h.le0 (hr k hk)), hg.cell h.box (fun e => ?_), h.low, Nat.le_trans h.le hg.size, h.le0⟩
  · rw [List.length_append, List.map_append]
    exact ho
  · have := hr n0 e.symm
    have := h.low
    omega

theorem names_take (s : List TypeD) (k : Nat) (t : TypeD) (h : s[k]? = some t) : (s.take (k + 1)).map TypeD.name = (s.take k).map TypeD.name ++ [t.name] := by
  obtain ⟨hk, rfl⟩ := List.getElem?_eq_some_iff.1 h
  rw [List.take_succ_eq_append_getElem hk, List.map_append]
  rfl
theorem cons_take (s : List TypeD) (k : Nat) (t : TypeD) (h : s[k]? = some t) : conNames (s.take (k + 1)) = conNames (s.take k) ++ t.cons.map ConD.name := by
  obtain ⟨hk, rfl⟩ := List.getElem?_eq_some_iff.1 h
  unfold conNames
  rw [List.take_succ_eq_append_getElem hk, List.map_append, List.flatten_append]
  simp
theorem con_take (t : TypeD) (i : Nat) (c : ConD) (h : t.cons[i]? = some c) : (t.cons.take (i + 1)).map ConD.name = (t.cons.take i).map ConD.name ++ [c.name] := by
  obtain ⟨hk, rfl⟩ := List.getElem?_eq_some_iff.1 h
  rw [List.take_succ_eq_append_getElem hk, List.map_append]
  rfl
end Go.Proofs.Ytcmpaccpdjcocaa
