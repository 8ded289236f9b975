/- What is proved here: a piece of the proof of YtdilegbigaahnaaGreatExactIsValueOf (Base, Reads, SigBase, Sig, Block, SigOwn, SigMem, Texts, TextsMake). Condition: none beyond what each part says. -/
import Derived.Test.YtdilegbigaahnaaGreatRows
import Derived.ProofKit
import Derived.Carry
import Derived.Test.YtdilegbigaahnaaGreatProg
import Derived.WalkKit
import Derived.Below
import Derived.Laws.AppendOwn
import Derived.Laws.OwnMore
import Derived.Laws.MakeOwn
import Derived.Deep.Draws
import Derived.Deep.QuietTactic
import Derived.BigQuiet
import Derived.WalkLawsBesides
import Derived.WalkSpells
import Derived.Outline
import Derived.Lib.Hide
import Derived.Lib.Walk
import Derived.OwnWalk
import Derived.Maps.AppendAt
import Derived.Laws.Rows

/- What is proved here: small closed facts of this program and of integers. No condition. -/
section
namespace Go.Proofs.YtdilegbigaahnaaGreat
open Go.ChangeShapes Go.WideShapes Go.ChangeAt Go.RowKit

theorem own : ownKnob Tryz.prog.godebug = none := by kernel_rfl
theorem laidOut : laidOutB Tryz.prog = true := by kernel_rfl
theorem wf_i64 {n : Int} (h : (Lit.int .i64 n).wf = true) : -9223372036854775808 ≤ n ∧ n ≤ 9223372036854775807 := by
  have e1 : IntKind.i64.min = -9223372036854775808 := by decide
  have e2 : IntKind.i64.max = 9223372036854775807 := by decide
  simp only [Lit.wf, Bool.and_eq_true, decide_eq_true_eq, e1, e2] at h
  exact h
theorem wf_u8 {n : Int} (h : (Lit.int .u8 n).wf = true) : 0 ≤ n ∧ n ≤ 255 := by
  have e1 : IntKind.u8.min = 0 := by decide
  have e2 : IntKind.u8.max = 255 := by decide
  simp only [Lit.wf, Bool.and_eq_true, decide_eq_true_eq, e1, e2] at h
  exact h
end Go.Proofs.YtdilegbigaahnaaGreat
end

/- What is proved here: lists of texts as they lie in memory. No condition. -/
section
namespace Go.Proofs.YtdilegbigaahnaaGreat
open Go.RowKit

theorem below_drewN {B : Nat} {a w : World} (h : Below B a w) (n : Nat) : Below B a (w.drewN n) := ⟨h.os, h.tape, h.output, h.size, h.block⟩

/-- The slice at a reads as the texts xs. -/
def Reads (w : World) (a : Option Addr) (xs : List ByteArray) : Prop := ∀ j (h : j < xs.length), ∃ y, a = some y ∧ w.cell? (y.add j) = some (.string xs[j])

def total (xs : List ByteArray) : Nat := (xs.map ByteArray.size).sum
theorem total_take (xs : List ByteArray) (k : Nat) (h : k < xs.length) : total (xs.take (k + 1)) = total (xs.take k) + xs[k].size := by
  unfold total
  rw [List.take_succ_eq_append_getElem h, List.map_append, List.sum_append]
  simp only [List.map_cons, List.map_nil, List.sum_cons, List.sum_nil, Nat.add_zero]
theorem total_take_le (xs : List ByteArray) (k : Nat) : total (xs.take k) ≤ total xs := by
  have e : total xs = total (xs.take k) + total (xs.drop k) := by
    unfold total
    rw [← List.sum_append, ← List.map_append, List.take_append_drop]
  omega


theorem reads_drewN {w : World} {a : Option Addr} {xs : List ByteArray} (h : Reads w a xs) (n : Nat) : Reads (w.drewN n) a xs := h

theorem addr_block (x : Addr) (i : Nat) : (x.add i).block = x.block := by unfold Addr.add; split <;> rfl
theorem reads_below {w w' : World} {a : Option Addr} {xs : List ByteArray} (h : Reads w a xs) (hb : Below w.heap.size w w') : Reads w' a xs := by
  intro j hj
  obtain ⟨y, rfl, hc⟩ := h j hj
  refine ⟨y, rfl, ?_⟩
  rw [← hc]
  have hlt : (y.add j).block < w.heap.size := by
    rcases Nat.lt_or_ge (y.add j).block w.heap.size with h | h
    · exact h
    · simp [World.cell?, Array.getElem?_eq_none h] at hc
  exact World.cell?_of_block (hb.block _ hlt)
theorem reads_new {w : World} {g : Nat} {T : TypeId} {xs : List ByteArray} (hb : w.heap[g]? = some (.cells (xs.map Value.string).toArray T (0, 0))) : Reads w (some ⟨g, 0, none⟩) xs := by
  intro j hj
  refine ⟨_, rfl, ?_⟩
  have e : (⟨g, 0, none⟩ : Addr).add j = ⟨g, j, none⟩ := by simp [Addr.add]; intro h; omega
  rw [e]
  simp [World.cell?, hb, hj]
theorem cells_set {w : World} {g : Nat} {T : TypeId} {l : List Value} (hb : w.heap[g]? = some (.cells l.toArray T (0, 0))) (k : Nat) (v : Value) : (w.setCell ⟨g, k, none⟩ v).heap[g]? = some (.cells (l.set k v).toArray T (0, 0)) := by
  simp [World.setCell, Array.getElem?_modify, hb]
theorem cells_cell {w : World} {g : Nat} {T : TypeId} {l : List Value} (hb : w.heap[g]? = some (.cells l.toArray T (0, 0))) (k : Nat) (hk : k < l.length) : w.cell? ⟨g, k, none⟩ = some l[k] := by
  simp [World.cell?, hb, hk]
theorem cells_free {w : World} {g : Nat} {T : TypeId} {l : List Value} (hb : w.heap[g]? = some (.cells l.toArray T (0, 0))) (k : Nat) : w.frozen? ⟨g, k, none⟩ = false := by
  simp [World.frozen?, hb]
theorem heap_at_new (w : World) (o : Obj) : (w.alloc o).heap[w.heap.size]? = some o := by
  show (w.heap.push o)[w.heap.size]? = _
  simp

end Go.Proofs.YtdilegbigaahnaaGreat
end

/- What is proved here: a signature (declared types, their constructors, the constructors' arguments) as it lies in memory, and its size. No condition. -/
section
namespace Go.Proofs.YtdilegbigaahnaaGreat
open Go.RowKit

structure ConD where
  name : ByteArray
  args : List ByteArray
structure TypeD where
  name : ByteArray
  cons : List ConD

/-- The row at a holds the elements of l, two cells each; R says what the cells of an element are. -/
def Row2 {α : Type} (R : World → α → Value → Value → Prop) (w : World) (a : Option Addr) (l : List α) : Prop := ∀ j (h : j < l.length), ∃ y u v, a = some y ∧ w.cell? (y.add (j * 2)) = some u ∧ w.cell? ⟨(y.add (j * 2)).block, (y.add (j * 2)).off + 1, none⟩ = some v ∧ R w l[j] u v
def ConAt (w : World) (c : ConD) (u v : Value) : Prop := ∃ a cap, u = .string c.name ∧ v = .slice a c.args.length cap ∧ Reads w a c.args
def TypeAt (w : World) (t : TypeD) (u v : Value) : Prop := ∃ a cap, u = .string t.name ∧ v = .slice a t.cons.length cap ∧ Row2 ConAt w a t.cons

theorem cell_below {w w' : World} {p : Addr} {v : Value} (h : w.cell? p = some v) (hb : Below w.heap.size w w') : w'.cell? p = some v := by
  rw [← h]
  have hlt : p.block < w.heap.size := by
    rcases Nat.lt_or_ge p.block w.heap.size with h1 | h1
    · exact h1
    · simp [World.cell?, Array.getElem?_eq_none h1] at h
  exact World.cell?_of_block (hb.block _ hlt)
theorem row2_below {α : Type} {R : World → α → Value → Value → Prop} (hR : ∀ w w' x u v, R w x u v → Below w.heap.size w w' → R w' x u v) {w w' : World} {a : Option Addr} {l : List α} (h : Row2 R w a l) (hb : Below w.heap.size w w') : Row2 R w' a l := by
  intro j hj
  obtain ⟨y, u, v, rfl, h1, h2, h3⟩ := h j hj
  exact ⟨y, u, v, rfl, cell_below h1 hb, cell_below h2 hb, hR _ _ _ _ _ h3 hb⟩
theorem con_below (w w' : World) (c : ConD) (u v : Value) (h : ConAt w c u v) (hb : Below w.heap.size w w') : ConAt w' c u v := by
  obtain ⟨a, cap, h1, h2, h3⟩ := h
  exact ⟨a, cap, h1, h2, reads_below h3 hb⟩
theorem type_below (w w' : World) (t : TypeD) (u v : Value) (h : TypeAt w t u v) (hb : Below w.heap.size w w') : TypeAt w' t u v := by
  obtain ⟨a, cap, h1, h2, h3⟩ := h
  exact ⟨a, cap, h1, h2, row2_below con_below h3 hb⟩

theorem below_of_drew {w w' : World} (h : Below w.drew.heap.size w.drew w') : Below w.heap.size w w' := ⟨h.os, h.tape, h.output, h.size, h.block⟩
theorem con_drew {w : World} {c : ConD} {u v : Value} (h : ConAt w c u v) : ConAt w.drew c u v := h
theorem type_drew {w : World} {t : TypeD} {u v : Value} (h : TypeAt w t u v) : TypeAt w.drew t u v := h

def sumBy {α : Type} (f : α → Nat) (l : List α) : Nat := (l.map f).sum
theorem sumBy_take {α : Type} (f : α → Nat) (l : List α) (k : Nat) (h : k < l.length) : sumBy f (l.take (k + 1)) = sumBy f (l.take k) + f l[k] := by
  unfold sumBy
  rw [List.take_succ_eq_append_getElem h, List.map_append, List.sum_append]
  simp
theorem sumBy_take_le {α : Type} (f : α → Nat) (l : List α) (k : Nat) : sumBy f (l.take k) ≤ sumBy f l := by
  have e : sumBy f l = sumBy f (l.take k) + sumBy f (l.drop k) := by
    unfold sumBy
    rw [← List.sum_append, ← List.map_append, List.take_append_drop]
  omega

def ConD.size (c : ConD) : Nat := c.name.size + (c.args.length + total c.args)
def TypeD.size (t : TypeD) : Nat := t.name.size + (t.cons.length + sumBy ConD.size t.cons)
def sigSize (s : List TypeD) : Nat := s.length + sumBy TypeD.size s

/-- What a bound of L places leaves behind n of them: -1 where they do not fit. -/
def left (L n : Nat) : Int := if n ≤ L then ((L - n : Nat) : Int) else -1
theorem left_yes {L n : Nat} (h : n ≤ L) : left L n = ((L - n : Nat) : Int) := if_pos h
theorem left_no {L n : Nat} (h : ¬ n ≤ L) : left L n = -1 := if_neg h

/-- Every length is one that a machine's slice or string can have. -/
def ConD.fits (c : ConD) : Prop := c.name.size ≤ maxLen ∧ c.args.length ≤ maxLen ∧ ∀ x ∈ c.args, x.size ≤ maxLen
def TypeD.fits (t : TypeD) : Prop := t.name.size ≤ maxLen ∧ t.cons.length ≤ maxLen ∧ ∀ c ∈ t.cons, c.fits
def sigFits (s : List TypeD) : Prop := s.length ≤ maxLen ∧ ∀ t ∈ s, t.fits
end Go.Proofs.YtdilegbigaahnaaGreat
end

/- What is proved here: nothing of its own: a signature in memory and lists of texts, together. No condition. -/
section

end

/- What is proved here: texts in a block of the call's own with room behind them. No condition. -/
section
namespace Go.Proofs.YtdilegbigaahnaaGreat
open Go.RowKit

/-- Block g holds the texts xs, and 'rest' behind them. -/
def Block (w : World) (g : Nat) (xs : List ByteArray) (rest : List Value) : Prop := w.heap[g]? = some (.cells (xs.map Value.string ++ rest).toArray 9 (0, 0))
theorem Block.lt {w : World} {g : Nat} {xs : List ByteArray} {rest : List Value} (h : Block w g xs rest) : g < w.heap.size := by
  rcases Nat.lt_or_ge g w.heap.size with h1 | h1
  · exact h1
  · unfold Block at h
    rw [Array.getElem?_eq_none h1] at h
    cases h
theorem Block.reads {w : World} {g : Nat} {xs : List ByteArray} {rest : List Value} (h : Block w g xs rest) : Reads w (some ⟨g, 0, none⟩) xs := by
  intro j hj
  refine ⟨_, rfl, ?_⟩
  have e : (⟨g, 0, none⟩ : Addr).add j = ⟨g, j, none⟩ := by simp [Addr.add]; intro h; omega
  rw [e]
  have := cells_cell h j (by simp; omega)
  rw [this]
  rw [List.getElem_append_left (by simpa using hj)]
  simp
theorem Block.below {w w' : World} {g : Nat} {xs : List ByteArray} {rest : List Value} (h : Block w g xs rest) (hb : Below w.heap.size w w') : Block w' g xs rest := by
  unfold Block
  rw [hb.block g h.lt]
  exact h

/-- What 'ownsRow' says of a slice that is not nil. -/
theorem block_of_owned {w : World} {B : Nat} {v : Value} {n : Nat} {ys : List ByteArray} (h : w.ownsRow B 9 1 v n (ys.map Value.string)) (hv : v ≠ .slice none 0 0) :
    ∃ g cap rest, v = .slice (some ⟨g, 0, none⟩) ys.length cap ∧ B ≤ g ∧ Block w g ys rest ∧ n = ys.length := by
  have hl : n = ys.length := by simpa using h.1.symm
  subst hl
  rcases h.2 with ⟨h1, _⟩ | ⟨g, cap, cur, rfl, hb, hg, _, _, _, ht⟩
  · exact absurd h1 hv
  · refine ⟨g, cap, cur.toList.drop ys.length, rfl, hb, ?_, rfl⟩
    unfold Block
    rw [hg, ← ht, Nat.mul_one, List.take_append_drop, Array.toArray_toList]
end Go.Proofs.YtdilegbigaahnaaGreat
end

/- What is proved here: a signature in memory of the call's own (which blocks it lies in, that no two parts share one), read and kept. No condition. -/
section
namespace Go.Proofs.YtdilegbigaahnaaGreat
open Go.RowKit

/-- w' holds in the blocks F what w holds there. -/
def Agree (F : Nat → Prop) (w w' : World) : Prop := ∀ b, F b → w'.heap[b]? = w.heap[b]?
/-- The cells of a row of pairs. -/
def flat (ps : List (Value × Value)) : List Value := ps.flatMap fun p => [p.1, p.2]
theorem flat_length (ps : List (Value × Value)) : (flat ps).length = 2 * ps.length := by
  induction ps with
  | nil => rfl
  | cons p r ih => simp [flat] at ih ⊢; omega
theorem flat_at (ps : List (Value × Value)) (rest : List Value) (j : Nat) (p : Value × Value) (h : ps[j]? = some p) : (flat ps ++ rest)[j * 2]? = some p.1 ∧ (flat ps ++ rest)[j * 2 + 1]? = some p.2 := by
  induction ps generalizing j with
  | nil => simp at h
  | cons q r ih =>
    cases j with
    | zero => simp at h; subst h; simp [flat]
    | succ j =>
      have := ih j (by simpa using h)
      have e : flat (q :: r) ++ rest = q.1 :: q.2 :: (flat r ++ rest) := by simp [flat]
      rw [e, show (j + 1) * 2 = j * 2 + 1 + 1 by omega]
      simpa using this
theorem flat_set (ps : List (Value × Value)) (rest : List Value) (j : Nat) (u v : Value) (h : j < ps.length) : ((flat ps ++ rest).set (j * 2) u).set (j * 2 + 1) v = flat (ps.set j (u, v)) ++ rest := by
  induction ps generalizing j with
  | nil => simp at h
  | cons q r ih =>
    have e : flat (q :: r) ++ rest = q.1 :: q.2 :: (flat r ++ rest) := by simp [flat]
    cases j with
    | zero => simp [flat]
    | succ j =>
      rw [e, show (j + 1) * 2 = j * 2 + 1 + 1 by omega]
      simp only [List.set_cons_succ]
      rw [ih j (by simpa using h)]
      simp [flat]

/-- A slice of texts in a block of F. -/
def OwnS (F : Nat → Prop) (w : World) (v : Value) (xs : List ByteArray) : Prop := ∃ a cap, v = .slice a xs.length cap ∧ (xs = [] ∨ ∃ g rest, a = some ⟨g, 0, none⟩ ∧ F g ∧ Block w g xs rest)
/-- Block g holds the pairs ps, then rest. -/
def Pairs (T : TypeId) (w : World) (g : Nat) (ps : List (Value × Value)) (rest : List Value) : Prop := w.heap[g]? = some (.cells (flat ps ++ rest).toArray T (0, 0))
/-- The parts of a row, k of them: each in blocks of its own; neither in g nor in another's. -/
def Parts {α : Type} (E : (Nat → Prop) → World → α → Value → Value → Prop) (w : World) (F : Nat → Prop) (g : Nat) (G : Nat → Nat → Prop) (l : List α) (ps : List (Value × Value)) (k : Nat) : Prop :=
  (∀ j, j < k → ∀ b, G j b → F b ∧ b ≠ g) ∧ (∀ i j, i < j → j < k → ∀ b, G i b → ¬ G j b) ∧ ∀ j x p, j < k → l[j]? = some x → ps[j]? = some p → E (G j) w x p.1 p.2
/-- A slice of pairs in a block of F, its parts in others of F. -/
def Own2 {α : Type} (T : TypeId) (E : (Nat → Prop) → World → α → Value → Value → Prop) (F : Nat → Prop) (w : World) (v : Value) (l : List α) : Prop :=
  ∃ a cap, v = .slice a l.length cap ∧ (l = [] ∨ ∃ g ps rest G, a = some ⟨g, 0, none⟩ ∧ F g ∧ ps.length = l.length ∧ Pairs T w g ps rest ∧ Parts E w F g G l ps l.length)
def OwnCon (F : Nat → Prop) (w : World) (c : ConD) (u v : Value) : Prop := u = .string c.name ∧ OwnS F w v c.args
def OwnType (F : Nat → Prop) (w : World) (t : TypeD) (u v : Value) : Prop := u = .string t.name ∧ Own2 73 OwnCon F w v t.cons
abbrev OwnSig (F : Nat → Prop) (w : World) (v : Value) (s : List TypeD) : Prop := Own2 71 OwnType F w v s

/-- Kept where the blocks of F are; and within more blocks. -/
def Keeps {α : Type} (E : (Nat → Prop) → World → α → Value → Value → Prop) : Prop := ∀ F w w' x u v, E F w x u v → Agree F w w' → E F w' x u v
def Wider {α : Type} (E : (Nat → Prop) → World → α → Value → Value → Prop) : Prop := ∀ F F' w x u v, E F w x u v → (∀ b, F b → F' b) → E F' w x u v

theorem OwnS.keep {F : Nat → Prop} {w w' : World} {v : Value} {xs : List ByteArray} (h : OwnS F w v xs) (ha : Agree F w w') : OwnS F w' v xs := by
  obtain ⟨a, cap, hv, h | ⟨g, rest, h1, h2, h3⟩⟩ := h
  · exact ⟨a, cap, hv, .inl h⟩
  · refine ⟨a, cap, hv, .inr ⟨g, rest, h1, h2, ?_⟩⟩
    unfold Block
    rw [ha g h2]
    exact h3
theorem Parts.keep {α : Type} {E : (Nat → Prop) → World → α → Value → Value → Prop} (hE : Keeps E) {w w' : World} {F : Nat → Prop} {g : Nat} {G : Nat → Nat → Prop} {l : List α} {ps : List (Value × Value)} {k : Nat} (h : Parts E w F g G l ps k) (ha : Agree (fun b => F b ∧ b ≠ g) w w') : Parts E w' F g G l ps k :=
  ⟨h.1, h.2.1, fun j x p hj hx hp => hE _ _ _ _ _ _ (h.2.2 j x p hj hx hp) (fun b hb => ha b (h.1 j hj b hb))⟩
theorem Own2.keep {α : Type} {T : TypeId} {E : (Nat → Prop) → World → α → Value → Value → Prop} (hE : Keeps E) {F : Nat → Prop} {w w' : World} {v : Value} {l : List α} (h : Own2 T E F w v l) (ha : Agree F w w') : Own2 T E F w' v l := by
  obtain ⟨a, cap, hv, h | ⟨g, ps, rest, G, h1, h2, h3, h4, h5⟩⟩ := h
  · exact ⟨a, cap, hv, .inl h⟩
  · refine ⟨a, cap, hv, .inr ⟨g, ps, rest, G, h1, h2, h3, ?_, h5.keep hE (fun b hb => ha b hb.1)⟩⟩
    unfold Pairs
    rw [ha g h2]
    exact h4
theorem keeps_con : Keeps OwnCon := fun _ _ _ _ _ _ h ha => ⟨h.1, h.2.keep ha⟩
theorem keeps_type : Keeps OwnType := fun _ _ _ _ _ _ h ha => ⟨h.1, h.2.keep keeps_con ha⟩
theorem OwnS.wider {F F' : Nat → Prop} {w : World} {v : Value} {xs : List ByteArray} (h : OwnS F w v xs) (hF : ∀ b, F b → F' b) : OwnS F' w v xs := by
  obtain ⟨a, cap, hv, h | ⟨g, rest, h1, h2, h3⟩⟩ := h
  · exact ⟨a, cap, hv, .inl h⟩
  · exact ⟨a, cap, hv, .inr ⟨g, rest, h1, hF g h2, h3⟩⟩
theorem Own2.wider {α : Type} {T : TypeId} {E : (Nat → Prop) → World → α → Value → Value → Prop} {F F' : Nat → Prop} {w : World} {v : Value} {l : List α} (h : Own2 T E F w v l) (hF : ∀ b, F b → F' b) : Own2 T E F' w v l := by
  obtain ⟨a, cap, hv, h | ⟨g, ps, rest, G, h1, h2, h3, h4, h5, h6⟩⟩ := h
  · exact ⟨a, cap, hv, .inl h⟩
  · exact ⟨a, cap, hv, .inr ⟨g, ps, rest, G, h1, hF g h2, h3, h4, fun j hj b hb => ⟨hF b (h5 j hj b hb).1, (h5 j hj b hb).2⟩, h6⟩⟩
theorem wider_con : Wider OwnCon := fun _ _ _ _ _ _ h hF => ⟨h.1, h.2.wider hF⟩
theorem wider_type : Wider OwnType := fun _ _ _ _ _ _ h hF => ⟨h.1, h.2.wider hF⟩

/-- What is owned reads. -/
theorem OwnS.reads {F : Nat → Prop} {w : World} {v : Value} {xs : List ByteArray} (h : OwnS F w v xs) : ∃ a cap, v = .slice a xs.length cap ∧ Reads w a xs := by
  obtain ⟨a, cap, hv, rfl | ⟨g, rest, rfl, h2, h3⟩⟩ := h
  · exact ⟨a, cap, hv, fun j hj => absurd hj (by simp)⟩
  · exact ⟨_, cap, hv, h3.reads⟩
theorem Own2.reads {α : Type} {T : TypeId} {E : (Nat → Prop) → World → α → Value → Value → Prop} {R : World → α → Value → Value → Prop} (hE : ∀ F w x u v, E F w x u v → R w x u v) {F : Nat → Prop} {w : World} {v : Value} {l : List α} (h : Own2 T E F w v l) : ∃ a cap, v = .slice a l.length cap ∧ Row2 R w a l := by
  obtain ⟨a, cap, hv, rfl | ⟨g, ps, rest, G, rfl, h2, h3, h4, h5⟩⟩ := h
  · exact ⟨a, cap, hv, fun j hj => absurd hj (by simp)⟩
  · refine ⟨_, cap, hv, fun j hj => ?_⟩
    obtain ⟨p, hp⟩ : ∃ p, ps[j]? = some p := ⟨ps[j]'(by omega), List.getElem?_eq_getElem (by omega)⟩
    have hr := hE _ _ _ _ _ (h5.2.2 j l[j] p hj (List.getElem?_eq_getElem hj) hp)
    have hf := flat_at ps rest j p hp
    have e : (⟨g, 0, none⟩ : Addr).add (j * 2) = ⟨g, j * 2, none⟩ := by simp [Addr.add]; intro h; omega
    refine ⟨_, p.1, p.2, rfl, ?_, ?_, hr⟩
    · rw [e]
      unfold Pairs at h4
      simp [World.cell?, h4, hf.1]
    · rw [e]
      unfold Pairs at h4
      simp [World.cell?, h4, hf.2]
theorem OwnCon.reads (F : Nat → Prop) (w : World) (c : ConD) (u v : Value) (h : OwnCon F w c u v) : ConAt w c u v := by
  obtain ⟨hu, h⟩ := h
  obtain ⟨a, cap, hv, hr⟩ := h.reads
  exact ⟨a, cap, hu, hv, hr⟩
theorem OwnType.reads (F : Nat → Prop) (w : World) (t : TypeD) (u v : Value) (h : OwnType F w t u v) : TypeAt w t u v := by
  obtain ⟨hu, h⟩ := h
  obtain ⟨a, cap, hv, hr⟩ := h.reads OwnCon.reads
  exact ⟨a, cap, hu, hv, hr⟩
theorem OwnSig.reads {F : Nat → Prop} {w : World} {v : Value} {s : List TypeD} (h : OwnSig F w v s) : ∃ a cap, v = .slice a s.length cap ∧ Row2 TypeAt w a s := Own2.reads OwnType.reads h

/-- The blocks that came between two worlds. -/
def Came (w w' : World) (b : Nat) : Prop := w.heap.size ≤ b ∧ b < w'.heap.size

/-- A row that is being filled: k of its parts are there, in blocks that came since w; the row itself is block g. -/
def Filling {α : Type} (T : TypeId) (E : (Nat → Prop) → World → α → Value → Value → Prop) (w : World) (g : Nat) (l : List α) (k : Nat) (w' : World) : Prop :=
  ∃ ps G, ps.length = l.length ∧ Pairs T w' g ps [] ∧ Parts E w' (Came w w') g G l ps k ∧ Below w.heap.size w w' ∧ w.heap.size ≤ g
theorem Filling.below {α : Type} {T : TypeId} {E : (Nat → Prop) → World → α → Value → Value → Prop} {w : World} {g : Nat} {l : List α} {k : Nat} {w' : World} (h : Filling T E w g l k w') : Below w.heap.size w w' := by
  obtain ⟨_, _, _, _, _, h, _⟩ := h
  exact h
theorem Pairs.lt {T : TypeId} {w : World} {g : Nat} {ps : List (Value × Value)} {rest : List Value} (h : Pairs T w g ps rest) : g < w.heap.size := by
  rcases Nat.lt_or_ge g w.heap.size with h1 | h1
  · exact h1
  · unfold Pairs at h
    rw [Array.getElem?_eq_none h1] at h
    cases h
theorem Pairs.cells {T : TypeId} {w : World} {g : Nat} {ps : List (Value × Value)} {rest : List Value} (h : Pairs T w g ps rest) (k : Nat) (hk : k < ps.length) :
    w.cell? ⟨g, k * 2, none⟩ = some ps[k].1 ∧ w.cell? ⟨g, k * 2 + 1, none⟩ = some ps[k].2 ∧ w.frozen? ⟨g, k * 2, none⟩ = false ∧ w.frozen? ⟨g, k * 2 + 1, none⟩ = false := by
  have hf := flat_at ps rest k ps[k] (List.getElem?_eq_getElem hk)
  unfold Pairs at h
  refine ⟨?_, ?_, ?_, ?_⟩
  · simp [World.cell?, h, hf.1]
  · simp [World.cell?, h, hf.2]
  · simp [World.frozen?, h]
  · simp [World.frozen?, h]
theorem Pairs.set {T : TypeId} {w : World} {g : Nat} {ps : List (Value × Value)} {rest : List Value} (h : Pairs T w g ps rest) (k : Nat) (hk : k < ps.length) (u v : Value) : Pairs T ((w.setCell ⟨g, k * 2, none⟩ u).setCell ⟨g, k * 2 + 1, none⟩ v) g (ps.set k (u, v)) rest := by
  unfold Pairs at h ⊢
  rw [← flat_set ps rest k u v hk]
  simp [World.setCell, Array.getElem?_modify, h]
/-- One part more: what the walk needs at the store, and the row behind it. -/
theorem Filling.step {α : Type} {T : TypeId} {E : (Nat → Prop) → World → α → Value → Value → Prop} (hK : Keeps E) {w : World} {g : Nat} {l : List α} {k : Nat} {w' w1 : World} {u v : Value} (h : Filling T E w g l k w') (hk : k < l.length) (ho : E (Came w' w1) w1 l[k] u v) (hb : Below w'.heap.size w' w1) :
    ∃ x y, w1.cell? ⟨g, k * 2, none⟩ = some x ∧ w1.cell? ⟨g, k * 2 + 1, none⟩ = some y ∧ w1.frozen? ⟨g, k * 2, none⟩ = false ∧ w1.frozen? ⟨g, k * 2 + 1, none⟩ = false ∧ Filling T E w g l (k + 1) ((w1.setCell ⟨g, k * 2, none⟩ u).setCell ⟨g, k * 2 + 1, none⟩ v) := by
  obtain ⟨ps, G, hl, hp, hP, hB, hg⟩ := h
  have hgl := hp.lt
  have hs := hb.size
  have hs0 := hB.size
  have hp1 : Pairs T w1 g ps [] := by
    unfold Pairs
    rw [hb.block g hgl]
    exact hp
  obtain ⟨c1, c2, c3, c4⟩ := hp1.cells k (by omega)
  have hz : ((w1.setCell ⟨g, k * 2, none⟩ u).setCell ⟨g, k * 2 + 1, none⟩ v).heap.size = w1.heap.size := by simp [World.setCell]
  have hag : ∀ b, b ≠ g → ((w1.setCell ⟨g, k * 2, none⟩ u).setCell ⟨g, k * 2 + 1, none⟩ v).heap[b]? = w1.heap[b]? := fun b hne => by
    rw [Below.heap_setCell _ _ _ _ hne, Below.heap_setCell _ _ _ _ hne]
  refine ⟨_, _, c1, c2, c3, c4, ps.set k (u, v), fun j => if j = k then Came w' w1 else G j, by simp [hl], hp1.set k (by omega) u v, ⟨?_, ?_, ?_⟩, ((hB.trans (hb.mono hs0)).setCell hg _).setCell hg _, hg⟩
  · intro j hj b hGb
    unfold Came
    rw [hz]
    by_cases e : j = k
    · rw [if_pos e] at hGb
      obtain ⟨g1, g2⟩ := hGb
      exact ⟨⟨by omega, g2⟩, by omega⟩
    · rw [if_neg e] at hGb
      obtain ⟨⟨g1, g2⟩, g3⟩ := hP.1 j (by omega) b hGb
      exact ⟨⟨g1, by omega⟩, g3⟩
  · intro i j hij hj b hGb hGb2
    have hi : ¬ i = k := by omega
    rw [if_neg hi] at hGb
    by_cases e : j = k
    · rw [if_pos e] at hGb2
      have := (hP.1 i (by omega) b hGb).1.2
      have := hGb2.1
      omega
    · rw [if_neg e] at hGb2
      exact hP.2.1 i j hij (by omega) b hGb hGb2
  · intro j x p hj hx hpj
    dsimp only
    by_cases e : j = k
    · subst e
      rw [if_pos rfl]
      rw [List.getElem?_eq_getElem hk] at hx
      rw [List.getElem?_set_self (by omega)] at hpj
      obtain rfl := Option.some.inj hx
      obtain rfl := Option.some.inj hpj
      exact hK _ _ _ _ _ _ ho (fun b hb' => hag b (by have := hb'.1; omega))
    · rw [if_neg e]
      rw [List.getElem?_set_ne (by omega)] at hpj
      refine hK _ _ _ _ _ _ (hP.2.2 j x p (by omega) hx hpj) (fun b hb' => ?_)
      obtain ⟨⟨g1, g2⟩, g3⟩ := hP.1 j (by omega) b hb'
      rw [hag b g3, hb.block b (by omega)]
theorem Filling.done {α : Type} {T : TypeId} {E : (Nat → Prop) → World → α → Value → Value → Prop} {w : World} {g : Nat} {l : List α} {w' : World} (h : Filling T E w g l l.length w') (cap : Nat) : Own2 T E (Came w w') w' (.slice (some ⟨g, 0, none⟩) l.length cap) l := by
  obtain ⟨ps, G, hl, hp, hP, hB, hg⟩ := h
  exact ⟨_, cap, rfl, .inr ⟨g, ps, [], G, rfl, ⟨hg, hp.lt⟩, hl, hp, hP⟩⟩

/-- A row that append makes longer: its k parts lie in blocks from B on, none in the row's own. -/
def Growing {α : Type} (T : TypeId) (E : (Nat → Prop) → World → α → Value → Value → Prop) (B : Nat) (l : List α) (k : Nat) (v : Value) (w : World) : Prop :=
  ∃ (ps : List (Value × Value)) (G : Nat → Nat → Prop), ps.length = k ∧ w.ownsRow B T 2 v k (flat ps) ∧ B ≤ w.heap.size ∧ (∀ j, j < k → ∀ b, G j b → B ≤ b ∧ b < w.heap.size ∧ v.ownBlock ≠ some b) ∧ (∀ i j, i < j → j < k → ∀ b, G i b → ¬ G j b) ∧ ∀ j x p, j < k → l[j]? = some x → ps[j]? = some p → E (G j) w x p.1 p.2
theorem Growing.start {α : Type} {T : TypeId} {E : (Nat → Prop) → World → α → Value → Value → Prop} {B : Nat} {l : List α} {v : Value} {w : World} (h : w.ownsRow B T 2 v 0 []) (hB : B ≤ w.heap.size) : Growing T E B l 0 v w :=
  ⟨[], fun _ _ => False, rfl, h, hB, fun _ hj => absurd hj (Nat.not_lt_zero _), fun _ _ _ hj => absurd hj (Nat.not_lt_zero _), fun _ _ _ hj => absurd hj (Nat.not_lt_zero _)⟩
theorem Growing.keep {α : Type} {T : TypeId} {E : (Nat → Prop) → World → α → Value → Value → Prop} (hK : Keeps E) {B : Nat} {l : List α} {k : Nat} {v : Value} {w w' : World} (h : Growing T E B l k v w) (hs : w.heap.size ≤ w'.heap.size) (ha : ∀ b, B ≤ b → b < w.heap.size → w'.heap[b]? = w.heap[b]?) : Growing T E B l k v w' := by
  obtain ⟨ps, G, h1, h2, h3, h4, h5, h6⟩ := h
  refine ⟨ps, G, h1, ⟨h2.1, ?_⟩, by omega, fun j hj b hb => by have := h4 j hj b hb; exact ⟨this.1, by omega, this.2.2⟩, h5, fun j x p hj hx hp => hK _ _ _ _ _ _ (h6 j x p hj hx hp) (fun b hb => by have := h4 j hj b hb; exact ha b this.1 this.2.1)⟩
  rcases h2.2 with h7 | ⟨g, cap, cur, e1, e2, e3, e4⟩
  · exact .inl h7
  · refine .inr ⟨g, cap, cur, e1, e2, ?_, e4⟩
    rw [ha g e2 ?_]
    · exact e3
    · rcases Nat.lt_or_ge g w.heap.size with h | h
      · exact h
      · rw [Array.getElem?_eq_none h] at e3
        cases e3
/-- One part more: what the append needs, and what is behind it. -/
theorem Growing.step {α : Type} {T : TypeId} {E : (Nat → Prop) → World → α → Value → Value → Prop} (hK : Keeps E) {B : Nat} {l : List α} {k : Nat} {v : Value} {w w1 w2 : World} {x : α} {u1 v1 : Value} (h : Growing T E B l k v w) (hx : l[k]? = some x) (ho : E (Came w w1) w1 x u1 v1) (hb : Below w.heap.size w w1) (hb2 : Below w1.heap.size w1 w2) :
    ∃ ps, w2.ownsRow B T 2 v k (flat ps) ∧ B ≤ w2.heap.size ∧ ∀ g cap w3, w3.ownsRow B T 2 (.slice (some ⟨g, 0, none⟩) (k + 1) cap) (k + 1) (flat ps ++ [u1, v1]) → w2.grownBy w3 v.ownBlock → (v.ownBlock = some g ∨ g = w2.heap.size) →
      Growing T E B l (k + 1) (.slice (some ⟨g, 0, none⟩) (k + 1) cap) w3 ∧ (∀ b, b < B → w3.heap[b]? = w.heap[b]?) ∧ w3.os = w.os ∧ w3.tape = w.tape ∧ w3.output = w.output ∧ w.heap.size ≤ w3.heap.size := by
  have hs1 := hb.size
  have hs2 := hb2.size
  have hall : ∀ b, b < w.heap.size → w2.heap[b]? = w.heap[b]? := fun b hl => (hb2.block b (by omega)).trans (hb.block b hl)
  have hB : B ≤ w.heap.size := by
    obtain ⟨_, _, _, _, h3, _⟩ := h
    exact h3
  have hvl : ∀ g, v.ownBlock = some g → B ≤ g ∧ g < w.heap.size := by
    obtain ⟨_, _, _, h2, _⟩ := h
    exact h2.lt
  obtain ⟨ps, G, h1, h2, h3, h4, h5, h6⟩ := h.keep hK (w' := w2) (by omega) (fun b _ hl => hall b hl)
  have h4' : ∀ j, j < k → ∀ b, G j b → b < w.heap.size ∨ w.heap.size ≤ b := fun j _ b _ => by omega
  clear h4'
  obtain ⟨ps0, G0, k1, k2, k3, k4, k5, k6⟩ := h
  refine ⟨ps0, ?_, h3, ?_⟩
  · refine ⟨k2.1, ?_⟩
    rcases k2.2 with h7 | ⟨g, cap, cur, e1, e2, e3, e4⟩
    · exact .inl h7
    · exact .inr ⟨g, cap, cur, e1, e2, by rw [hall g (hvl g (by rw [e1]; rfl)).2]; exact e3, e4⟩
  · intro g cap w3 hown hg hat
    have hs3 := hg.size
    have hk3 : ∀ b, b < w2.heap.size → v.ownBlock ≠ some b → w3.heap[b]? = w2.heap[b]? := fun b hl hne => hg.block b hl (fun e => hne e.symm)
    have hne : ∀ b, b < w2.heap.size → v.ownBlock ≠ some b → g ≠ b := fun b hl hv e => by
      rcases hat with h | h
      · exact hv (by rw [h, e])
      · omega
    have hfl : flat ps0 ++ [u1, v1] = flat (ps0 ++ [(u1, v1)]) := by simp [flat]
    rw [hfl] at hown
    refine ⟨⟨ps0 ++ [(u1, v1)], fun j => if j = k then Came w w1 else G0 j, by simp [k1], hown, by omega, ?_, ?_, ?_⟩, ?_, hg.os.trans (hb2.os.trans hb.os), hg.tape.trans (hb2.tape.trans hb.tape), hg.output.trans (hb2.output.trans hb.output), by omega⟩
    · intro j hj b hGb
      by_cases e : j = k
      · rw [if_pos e] at hGb
        obtain ⟨g1, g2⟩ := hGb
        have hv : v.ownBlock ≠ some b := fun e => by have := (hvl b e).2; omega
        exact ⟨by omega, by omega, fun e => hne b (by omega) hv (by injection e)⟩
      · rw [if_neg e] at hGb
        obtain ⟨g1, g2, g3⟩ := k4 j (by omega) b hGb
        exact ⟨g1, by omega, fun e => hne b (by omega) g3 (by injection e)⟩
    · intro i j hij hj b hGb hGb2
      have hi : ¬ i = k := by omega
      rw [if_neg hi] at hGb
      by_cases e : j = k
      · rw [if_pos e] at hGb2
        have := (k4 i (by omega) b hGb).2.1
        have := hGb2.1
        omega
      · rw [if_neg e] at hGb2
        exact k5 i j hij (by omega) b hGb hGb2
    · intro j x' p hj hx' hpj
      dsimp only
      by_cases e : j = k
      · subst e
        rw [if_pos rfl]
        rw [hx] at hx'
        rw [List.getElem?_append_right (by omega), k1, Nat.sub_self] at hpj
        obtain rfl := Option.some.inj hx'
        obtain rfl := Option.some.inj hpj
        refine hK _ _ _ _ _ _ ho (fun b hb' => ?_)
        obtain ⟨g1, g2⟩ := hb'
        rw [hk3 b (by omega) (fun e => by have := (hvl b e).2; omega), hb2.block b g2]
      · rw [if_neg e]
        rw [List.getElem?_append_left (by omega)] at hpj
        refine hK _ _ _ _ _ _ (k6 j x' p (by omega) hx' hpj) (fun b hb' => ?_)
        obtain ⟨g1, g2, g3⟩ := k4 j (by omega) b hb'
        rw [hk3 b (by omega) g3, hall b g2]
    · intro b hl
      rw [hk3 b (by omega) (fun e => by have := (hvl b e).1; omega), hall b (by omega)]
theorem Growing.done {α : Type} {T : TypeId} {E : (Nat → Prop) → World → α → Value → Value → Prop} {B : Nat} {l : List α} {v : Value} {w : World} (h : Growing T E B l l.length v w) : Own2 T E (fun b => B ≤ b ∧ b < w.heap.size) w v l := by
  obtain ⟨ps, G, h1, h2, h3, h4, h5, h6⟩ := h
  rcases h2.2 with ⟨e1, e2⟩ | ⟨g, cap, cur, rfl, hb, hg, _, _, hc, ht⟩
  · exact ⟨none, 0, by rw [e1, e2], .inl (List.eq_nil_of_length_eq_zero e2)⟩
  · have hp : Pairs T w g ps (cur.toList.drop (l.length * 2)) := by
      unfold Pairs
      rw [hg, ← ht, List.take_append_drop, Array.toArray_toList]
    exact ⟨_, cap, rfl, .inr ⟨g, ps, _, G, rfl, ⟨hb, hp.lt⟩, h1, hp, fun j hj b hGb => ⟨⟨(h4 j hj b hGb).1, (h4 j hj b hGb).2.1⟩, fun e => (h4 j hj b hGb).2.2 (by rw [e]; rfl)⟩, h5, h6⟩⟩
end Go.Proofs.YtdilegbigaahnaaGreat
end

/- What is proved here: the cells of small structs in blocks of their own. No condition. -/
section
namespace Go.Proofs.YtdilegbigaahnaaGreat
open Go.RowKit

theorem two_cells {w : World} {b : Nat} {x y : Value} {T : TypeId} (h : w.heap[b]? = some (.cells #[x, y] T (0, 0))) : w.cell? ⟨b, 0, none⟩ = some x ∧ w.cell? ⟨b, 1, none⟩ = some y ∧ w.frozen? ⟨b, 0, none⟩ = false ∧ w.frozen? ⟨b, 1, none⟩ = false := by
  refine ⟨?_, ?_, ?_, ?_⟩ <;> simp [World.cell?, World.frozen?, h]
theorem one_cell {w : World} {b : Nat} {x : Value} {T : TypeId} (h : w.heap[b]? = some (.cells #[x] T (0, 0))) : w.cell? ⟨b, 0, none⟩ = some x ∧ w.frozen? ⟨b, 0, none⟩ = false := by
  refine ⟨?_, ?_⟩ <;> simp [World.cell?, World.frozen?, h]
theorem one_set {w : World} {b : Nat} {x : Value} {T : TypeId} (h : w.heap[b]? = some (.cells #[x] T (0, 0))) (v : Value) : (w.setCell ⟨b, 0, none⟩ v).heap[b]? = some (.cells #[v] T (0, 0)) := by
  simp [World.setCell, Array.getElem?_modify, h]
theorem two_set {w : World} {b : Nat} {x y : Value} {T : TypeId} (h : w.heap[b]? = some (.cells #[x, y] T (0, 0))) (v : Value) : (w.setCell ⟨b, 0, none⟩ v).heap[b]? = some (.cells #[v, y] T (0, 0)) ∧ (w.setCell ⟨b, 1, none⟩ v).heap[b]? = some (.cells #[x, v] T (0, 0)) := by
  constructor <;> simp [World.setCell, Array.getElem?_modify, h]
theorem three (w : World) (o0 o1 o2 : Obj) : (((w.alloc o0).alloc o1).alloc o2).heap.size = w.heap.size + 3 ∧ (((w.alloc o0).alloc o1).alloc o2).heap[w.heap.size + 1]? = some o1 ∧ (((w.alloc o0).alloc o1).alloc o2).heap[w.heap.size + 1 + 1]? = some o2 ∧ Below w.heap.size w (((w.alloc o0).alloc o1).alloc o2) := by
  have s1 : (w.alloc o0).heap.size = w.heap.size + 1 := Array.size_push _
  have s2 : ((w.alloc o0).alloc o1).heap.size = (w.alloc o0).heap.size + 1 := Array.size_push _
  have s3 : (((w.alloc o0).alloc o1).alloc o2).heap.size = ((w.alloc o0).alloc o1).heap.size + 1 := Array.size_push _
  have e1 := heap_at_new (w.alloc o0) o1
  have e2 := heap_at_new ((w.alloc o0).alloc o1) o2
  rw [s1] at e1
  rw [s2, s1] at e2
  refine ⟨by omega, ?_, e2, (((Below.refl _ _).alloc (Nat.le_refl _) _).alloc (by omega) _).alloc (by omega) _⟩
  rw [Below.heap_alloc _ _ _ (by omega)]
  exact e1
theorem zero_Con : ∃ i, Tryz.prog.info? 73 = some i ∧ i.zero = some (.agg #[.string ⟨#[]⟩, .slice none 0 0]) ∧ i.size = 2 ∧ i.bytes = 40 := by
  have hi : (Tryz.prog.info? 73).map (fun i => (i.zero, i.size, i.bytes)) = some (some (.agg #[.string ⟨#[]⟩, .slice none 0 0]), 2, 40) := by kernel_rfl
  obtain ⟨i0, hi, hz0, hz1, hz2⟩ := info_parts hi
  exact ⟨i0, hi, hz0, hz1, hz2⟩
end Go.Proofs.YtdilegbigaahnaaGreat
end

/- What is proved here: the laws' helpers on lists of texts (eqStringS) do what they say. Condition: the slice reads as the list. -/
section
namespace Go.Proofs.YtdilegbigaahnaaGreat
open Go.RowKit

set_option maxHeartbeats 1000000 in
set_option maxRecDepth 100000 in
/-- eqStringS at two slices that read alike. -/
theorem eqS_same (w : World) (a b : Option Addr) (c d : Nat) (xs : List ByteArray) (hx : Reads w a xs) (hy : Reads w b xs) (hm : xs.length ≤ maxLen) :
    Calls Tryz.prog 119 #[.slice a xs.length c, .slice b xs.length d] w fun e w' => e = .returned (.bool true) ∧ ∃ n, w' = w.drewN n := by
  unfold maxLen at hm
  have HX := Lib.hid hx
  have HY := Lib.hid hy
  clear hx hy
  generalize hn : xs.length = n at *
  have HN := Lib.hid hn
  clear hn
  go_enter Tryz.func119, Tryz.ntmps119
  go_wp2
  go_loopw [5] (fun i wr => ∃ (k q : Nat), k ≤ n ∧ i = .int .i64 k ∧ wr = w.drewN q) (fun i _ => n - (intOf i).toNat)
  case atStart => exact ⟨0, 0, Nat.zero_le _, rfl, rfl⟩
  case round =>
    obtain ⟨k, q, hk, rfl, rfl⟩ := hrel
    by_cases hlt : k < n
    · obtain ⟨y, rfl, hc⟩ := HX.out k (by rw [HN.out]; exact hlt)
      obtain ⟨z, rfl, hd⟩ := HY.out k (by rw [HN.out]; exact hlt)
      generalize xs[k]'(by rw [HN.out]; exact hlt) = x at hc hd
      go_wp2
      go_quiet (fail)
      go_wp2
      go_roundw
      case rel => exact ⟨k + 1, _, by omega, by go_num, rfl⟩
      case measure => simp [intOf]; omega
    · go_wp2
      go_ret
      exact ⟨rfl, q, rfl⟩

end Go.Proofs.YtdilegbigaahnaaGreat
end

/- What is proved here: the laws' helpers on lists of texts (szStringS, toStringS) do what they say. Condition: the slice reads as the list. -/
section
namespace Go.Proofs.YtdilegbigaahnaaGreat
open Go.RowKit

/-- What szStringS returns, from 1048576 on. -/
def szEnd (xs : List ByteArray) : Int := if xs.length + total xs ≤ 1048576 then 1048576 - (xs.length : Int) - (total xs : Int) else -1

set_option maxHeartbeats 1000000 in
set_option maxRecDepth 100000 in
theorem sz_any (w : World) (a : Option Addr) (cap : Nat) (xs : List ByteArray) (hx : Reads w a xs) (hm : xs.length ≤ maxLen) (hs : ∀ x ∈ xs, x.size ≤ maxLen) :
    Calls Tryz.prog 107 #[.slice a xs.length cap, .int .i64 1048576] w fun e w' => e = .returned (.int .i64 (szEnd xs)) ∧ w = w' := by
  unfold maxLen at hm hs
  have HX := Lib.hid hx
  have HS := Lib.hid hs
  clear hx hs
  generalize hn : xs.length = n at *
  have HN := Lib.hid hn
  clear hn
  by_cases h0 : 1048576 < n
  · have HE : Hid (szEnd xs = -1) := by unfold Hid szEnd; rw [HN.out]; exact if_neg (by omega)
    go_enter Tryz.func107, Tryz.ntmps107
    go_wp2
    go_ret
    exact ⟨by rw [HE.out]; rfl, rfl⟩
  · go_enter Tryz.func107, Tryz.ntmps107
    go_wp2
    go_loop [1, 5] (fun l i => ∃ (k : Nat) (m : Int), k ≤ n ∧ i = .int .i64 k ∧ l = .int .i64 m ∧ 0 ≤ m ∧ m ≤ 1048576 ∧ m = 1048576 - (n : Int) - (total (xs.take k) : Int)) (fun _ i => n - (intOf i).toNat)
    case atStart =>
      exact ⟨0, 1048576 - (n : Int), Nat.zero_le _, rfl, rfl, by omega, by omega, by simp [total]⟩
    case round =>
      obtain ⟨k, m, hk, rfl, rfl, m0, m1, hm2⟩ := hrel
      by_cases hlt : k < n
      · obtain ⟨y, rfl, hc⟩ := HX.out k (by rw [HN.out]; exact hlt)
        have ht := total_take xs k (by rw [HN.out]; exact hlt)
        have hle := total_take_le xs (k + 1)
        have hsz := HS.out _ (List.getElem_mem (l := xs) (n := k) (by rw [HN.out]; exact hlt))
        generalize xs[k]'(by rw [HN.out]; exact hlt) = x at hc ht hsz
        have HT := Lib.hid ht
        have HM := Lib.hid hm2
        clear ht hm2
        by_cases hbad : m - (x.size : Int) < 0
        · have HE : Hid (szEnd xs = -1) := by
            have := HT.out
            have := HM.out
            unfold Hid szEnd; rw [HN.out]; exact if_neg (by omega)
          go_wp2
          go_ret
          exact ⟨by rw [HE.out]; rfl, rfl⟩
        · go_wp2
          go_round
          case rel =>
            have := HT.out
            have := HM.out
            exact ⟨k + 1, m - x.size, by omega, by go_num, rfl, by omega, by omega, by omega⟩
          case measure => simp [intOf]; omega
      · obtain rfl : k = n := by omega
        have HE : Hid (szEnd xs = m) := by
          have e : xs.take k = xs := List.take_of_length_le (by rw [HN.out]; exact Nat.le_refl _)
          rw [e] at hm2
          unfold Hid szEnd; rw [HN.out, if_pos (by omega)]; omega
        clear hm2
        go_wp2
        go_ret
        exact ⟨by rw [HE.out]; rfl, rfl⟩

/-- A row of texts that is being filled: k of them are there. -/
def filled (xs : List ByteArray) (k : Nat) : List Value := (xs.take k).map Value.string ++ List.replicate (xs.length - k) (.string ⟨#[]⟩)
theorem filled_length (xs : List ByteArray) (k : Nat) (h : k ≤ xs.length) : (filled xs k).length = xs.length := by simp [filled]; omega
theorem filled_set (xs : List ByteArray) (k : Nat) (h : k < xs.length) : (filled xs k).set k (.string xs[k]) = filled xs (k + 1) := by
  unfold filled
  rw [List.take_succ_eq_append_getElem h, List.map_append, show xs.length - k = (xs.length - (k + 1)) + 1 by omega, List.replicate_succ]
  have e : ((xs.take k).map Value.string).length = k := by simp; omega
  rw [List.set_append_right k _ (by omega), e, Nat.sub_self, List.set_cons_zero]
  simp
theorem filled_full (xs : List ByteArray) : filled xs xs.length = xs.map Value.string := by simp [filled]

theorem make_texts (n : Nat) (hn : n ≤ 1048576) (W : World) :
    (Instr.makeSlice 67 (.int .i64 (n : Int)) (.int .i64 (n : Int))).run Tryz.prog W = .ok (.slice (some ⟨W.heap.size, 0, none⟩) n n) (W.alloc (.cells (List.replicate n (Value.string ⟨#[]⟩)).toArray 9)) := by
  have hi : (Tryz.prog.info? 9).map (fun i => (i.zero, i.size, i.bytes)) = some (some (.string ⟨#[]⟩), 1, 16) := by kernel_rfl
  obtain ⟨i0, hi, hz0, hz1, hz2⟩ := info_parts hi
  have hr := run_make (P := Tryz.prog) W 67 9 i0 (.string ⟨#[]⟩) Tryz.underlying67 hi hz0 .i64 .i64 n n (by omega) (by omega) (by rw [hz2]; omega) (by omega)
  rw [hr]
  simp only [Int.toNat_natCast]
  have e : madeCells (Value.string ⟨#[]⟩).cells (n * i0.size) = (List.replicate n (Value.string ⟨#[]⟩)).toArray := by
    rw [hz1, Nat.mul_one]
    apply Array.ext
    · simp [madeCells]
    · intro i h1 h2
      simp [madeCells, Value.cells, Nat.mod_one]
  rw [e]

/-- A new slice that reads as the texts xs, in a block of its own. -/
def NewTexts (w : World) (xs : List ByteArray) (e : Ending) (w' : World) : Prop :=
  ∃ g, w.heap.size ≤ g ∧ e = .returned (.slice (some ⟨g, 0, none⟩) xs.length xs.length) ∧ w'.heap[g]? = some (.cells (xs.map Value.string).toArray 9 (0, 0)) ∧ Below w.heap.size w w'

set_option maxHeartbeats 1000000 in
set_option maxRecDepth 100000 in
theorem toS_any (w : World) (a : Option Addr) (cap : Nat) (xs : List ByteArray) (hx : Reads w a xs) (hm : xs.length ≤ 1048576) :
    Calls Tryz.prog 109 #[.slice a xs.length cap] w (NewTexts w xs) := by
  have hmk := make_texts xs.length hm
  have HX := Lib.hid hx
  clear hx
  go_enter Tryz.func109, Tryz.ntmps109
  go_wp2
  clear hmk
  have HF : Hid (Array.replicate xs.length (Value.string ⟨#[]⟩) = (filled xs 0).toArray) := by unfold Hid filled; simp
  rw [HF.out]
  have hb0 := heap_at_new w (.cells (filled xs 0).toArray 9)
  have hB0 : Below w.heap.size w (w.alloc (.cells (filled xs 0).toArray 9)) := (Below.refl _ _).alloc (Nat.le_refl _) _
  generalize w.alloc (.cells (filled xs 0).toArray 9) = w0 at hb0 hB0
  have HB0 := Lib.hid hb0
  clear hb0
  generalize hn : xs.length = n at *
  have HN := Lib.hid hn
  clear hn
  go_loopw [4] (fun i wr => ∃ k : Nat, k ≤ n ∧ i = .int .i64 k ∧ wr.heap[w.heap.size]? = some (.cells (filled xs k).toArray 9 (0, 0)) ∧ Below w.heap.size w wr) (fun i _ => n - (intOf i).toNat)
  case atStart => exact ⟨0, Nat.zero_le _, rfl, HB0.out, hB0⟩
  case round =>
    obtain ⟨k, hk, rfl, hb, hB⟩ := hrel
    by_cases hlt : k < n
    · have hk' : k < xs.length := by rw [HN.out]; exact hlt
      obtain ⟨y, rfl, hc⟩ := reads_below HX.out hB k hk'
      have hset := filled_set xs k hk'
      have hcell := cells_cell hb k (by rw [filled_length xs k (by omega)]; exact hk')
      have hfree := cells_free hb k
      have hb2 := cells_set hb k (.string xs[k])
      have HB := Lib.hid hb
      rw [hset] at hb2
      have HB2 := Lib.hid hb2
      clear hb hb2 hset
      generalize xs[k] = x at *
      generalize (filled xs k)[k]'(by rw [filled_length xs k (by omega)]; exact hk') = u at hcell
      go_wp2
      go_roundw
      case rel => exact ⟨k + 1, by omega, by go_num, HB2.out, hB.setCell (Nat.le_refl _) _⟩
      case measure => simp [intOf]; omega
    · obtain rfl : k = n := by omega
      go_wp2
      go_ret
      refine ⟨w.heap.size, Nat.le_refl _, by rw [HN.out]; rfl, ?_, hB⟩
      rw [hb, ← HN.out, filled_full]
end Go.Proofs.YtdilegbigaahnaaGreat
end
