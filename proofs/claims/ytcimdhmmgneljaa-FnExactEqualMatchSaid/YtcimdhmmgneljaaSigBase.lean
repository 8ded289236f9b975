/- What is proved here: a signature (declared types, their constructors, the constructors' arguments) as it lies in memory, and its size. No condition. -/
import Derived.Test.YtcimdhmmgneljaaReads
namespace Go.Proofs.Ytcimdhmmgneljaa
open Go.RowKit

structure ConD where
  name : ByteArray
  args : List ByteArray
structure TypeD where
  name : ByteArray
  cons : List ConD

/-- The row at a holds the elements of l, two cells each; R says what the cells of an element are. -/
def Row2 {α : Type} (R : World → α → Value → Value → Prop) (w : World) (a : Option Addr) (l : List α) : Prop := ∀ j (h : j < l.length), ∃ y u v, a = some y ∧ w.cell? (y.add (j * 2)) = some u ∧ w.cell? ⟨(y.add (j * 2)).block, (y.add (j * 2)).off + 1, none⟩ = some v ∧ R w l[j] u v
def ConAt (w : World) (c : ConD) (u v : Value) : Prop := ∃ a cap, u = .string c.name ∧ v = .slice a c.args.length cap ∧ Reads w a c.args
def TypeAt (w : World) (t : TypeD) (u v : Value) : Prop := ∃ a cap, u = .string t.name ∧ v = .slice a t.cons.length cap ∧ Row2 ConAt w a t.cons

theorem cell_below {w w' : World} {p : Addr} {v : Value} (h : w.cell? p = some v) (hb : Below w.heap.size w w') : w'.cell? p = some v := by
  rw [← h]
  have hlt : p.block < w.heap.size := by
    rcases Nat.lt_or_ge p.block w.heap.size with h1 | h1
    · exact h1
    · simp [World.cell?, Array.getElem?_eq_none h1] at h
  exact World.cell?_of_block (hb.block _ hlt)
theorem row2_below {α : Type} {R : World → α → Value → Value → Prop} (hR : ∀ w w' x u v, R w x u v → Below w.heap.size w w' → R w' x u v) {w w' : World} {a : Option Addr} {l : List α} (h : Row2 R w a l) (hb : Below w.heap.size w w') : Row2 R w' a l := by
  intro j hj
  obtain ⟨y, u, v, rfl, h1, h2, h3⟩ := h j hj
  exact ⟨y, u, v, rfl, cell_below h1 hb, cell_below h2 hb, hR _ _ _ _ _ h3 hb⟩
theorem con_below (w w' : World) (c : ConD) (u v : Value) (h : ConAt w c u v) (hb : Below w.heap.size w w') : ConAt w' c u v := by
  obtain ⟨a, cap, h1, h2, h3⟩ := h
  exact ⟨a, cap, h1, h2, reads_below h3 hb⟩
theorem type_below (w w' : World) (t : TypeD) (u v : Value) (h : TypeAt w t u v) (hb : Below w.heap.size w w') : TypeAt w' t u v := by
  obtain ⟨a, cap, h1, h2, h3⟩ := h
  exact ⟨a, cap, h1, h2, row2_below con_below h3 hb⟩

theorem below_of_drew {w w' : World} (h : Below w.drew.heap.size w.drew w') : Below w.heap.size w w' := ⟨h.os, h.tape, h.output, h.size, h.block⟩
theorem con_drew {w : World} {c : ConD} {u v : Value} (h : ConAt w c u v) : ConAt w.drew c u v := h
theorem type_drew {w : World} {t : TypeD} {u v : Value} (h : TypeAt w t u v) : TypeAt w.drew t u v := h

def sumBy {α : Type} (f : α → Nat) (l : List α) : Nat := (l.map f).sum
theorem sumBy_take {α : Type} (f : α → Nat) (l : List α) (k : Nat) (h : k < l.length) : sumBy f (l.take (k + 1)) = sumBy f (l.take k) + f l[k] := by
  unfold sumBy
  rw [List.take_succ_eq_append_getElem h, List.map_append, List.sum_append]
  simp
theorem sumBy_take_le {α : Type} (f : α → Nat) (l : List α) (k : Nat) : sumBy f (l.take k) ≤ sumBy f l := by
  have e : sumBy f l = sumBy f (l.take k) + sumBy f (l.drop k) := by
    unfold sumBy
    rw [← List.sum_append, ← List.map_append, List.take_append_drop]
  omega

def ConD.size (c : ConD) : Nat := c.name.size + (c.args.length + total c.args)
def TypeD.size (t : TypeD) : Nat := t.name.size + (t.cons.length + sumBy ConD.size t.cons)
def sigSize (s : List TypeD) : Nat := s.length + sumBy TypeD.size s

/-- What a bound of L places leaves behind n of them: -1 where they do not fit. -/
def left (L n : Nat) : Int := if n ≤ L then ((L - n : Nat) : Int) else -1
theorem left_yes {L n : Nat} (h : n ≤ L) : left L n = ((L - n : Nat) : Int) := if_pos h
theorem left_no {L n : Nat} (h : ¬ n ≤ L) : left L n = -1 := if_neg h

/-- Every length is one that a machine's slice or string can have. -/
def ConD.fits (c : ConD) : Prop := c.name.size ≤ maxLen ∧ c.args.length ≤ maxLen ∧ ∀ x ∈ c.args, x.size ≤ maxLen
def TypeD.fits (t : TypeD) : Prop := t.name.size ≤ maxLen ∧ t.cons.length ≤ maxLen ∧ ∀ c ∈ t.cons, c.fits
def sigFits (s : List TypeD) : Prop := s.length ≤ maxLen ∧ ∀ t ∈ s, t.fits
end Go.Proofs.Ytcimdhmmgneljaa
