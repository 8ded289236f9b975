/- What is proved here: a piece of the proof of YtdifefgigcjgeaaGreatDoorExactParsePat (Base, Reads, SigBase, Trees, TreesOn, Bl, Idx, SpecIndex, Words). Condition: none beyond what each part says. -/
import Derived.Test.YtdifefgigcjgeaaGreatDoorRows
import Derived.ProofKit
import Derived.Carry
import Derived.Test.YtdifefgigcjgeaaGreatDoorProg
import Derived.WalkKit
import Derived.Below
import Derived.Laws.AppendOwn
import Derived.Laws.OwnMore
import Derived.Laws.MakeOwn
import Derived.Deep.Draws
import Derived.Deep.QuietTactic
import Derived.BigQuiet
import Derived.WalkLawsBesides
import Derived.WalkSpells
import Derived.Outline
import Derived.Lib.Hide
import Derived.Lib.Walk
import Derived.OwnWalk
import Derived.Maps.AppendAt
import Derived.Lib.SlicesS

/- What is proved here: small closed facts of this program and of integers. No condition. -/
section
namespace Go.Proofs.YtdifefgigcjgeaaGreatDoor
open Go.ChangeShapes Go.WideShapes Go.ChangeAt Go.RowKit

theorem own : ownKnob Tryz.prog.godebug = none := by kernel_rfl
theorem laidOut : laidOutB Tryz.prog = true := by kernel_rfl
theorem wf_i64 {n : Int} (h : (Lit.int .i64 n).wf = true) : -9223372036854775808 ≤ n ∧ n ≤ 9223372036854775807 := by
  have e1 : IntKind.i64.min = -9223372036854775808 := by decide
  have e2 : IntKind.i64.max = 9223372036854775807 := by decide
  simp only [Lit.wf, Bool.and_eq_true, decide_eq_true_eq, e1, e2] at h
  exact h
theorem wf_u8 {n : Int} (h : (Lit.int .u8 n).wf = true) : 0 ≤ n ∧ n ≤ 255 := by
  have e1 : IntKind.u8.min = 0 := by decide
  have e2 : IntKind.u8.max = 255 := by decide
  simp only [Lit.wf, Bool.and_eq_true, decide_eq_true_eq, e1, e2] at h
  exact h
end Go.Proofs.YtdifefgigcjgeaaGreatDoor
end

/- What is proved here: lists of texts as they lie in memory. No condition. -/
section
namespace Go.Proofs.YtdifefgigcjgeaaGreatDoor
open Go.RowKit

theorem below_drewN {B : Nat} {a w : World} (h : Below B a w) (n : Nat) : Below B a (w.drewN n) := ⟨h.os, h.tape, h.output, h.size, h.block⟩

/-- The slice at a reads as the texts xs. -/
def Reads (w : World) (a : Option Addr) (xs : List ByteArray) : Prop := ∀ j (h : j < xs.length), ∃ y, a = some y ∧ w.cell? (y.add j) = some (.string xs[j])

def total (xs : List ByteArray) : Nat := (xs.map ByteArray.size).sum
theorem total_take (xs : List ByteArray) (k : Nat) (h : k < xs.length) : total (xs.take (k + 1)) = total (xs.take k) + xs[k].size := by
  unfold total
  rw [List.take_succ_eq_append_getElem h, List.map_append, List.sum_append]
  simp only [List.map_cons, List.map_nil, List.sum_cons, List.sum_nil, Nat.add_zero]
theorem total_take_le (xs : List ByteArray) (k : Nat) : total (xs.take k) ≤ total xs := by
  have e : total xs = total (xs.take k) + total (xs.drop k) := by
    unfold total
    rw [← List.sum_append, ← List.map_append, List.take_append_drop]
  omega


theorem reads_drewN {w : World} {a : Option Addr} {xs : List ByteArray} (h : Reads w a xs) (n : Nat) : Reads (w.drewN n) a xs := h

theorem addr_block (x : Addr) (i : Nat) : (x.add i).block = x.block := by unfold Addr.add; split <;> rfl
theorem reads_below {w w' : World} {a : Option Addr} {xs : List ByteArray} (h : Reads w a xs) (hb : Below w.heap.size w w') : Reads w' a xs := by
  intro j hj
  obtain ⟨y, rfl, hc⟩ := h j hj
  refine ⟨y, rfl, ?_⟩
  rw [← hc]
  have hlt : (y.add j).block < w.heap.size := by
    rcases Nat.lt_or_ge (y.add j).block w.heap.size with h | h
    · exact h
    · simp [World.cell?, Array.getElem?_eq_none h] at hc
  exact World.cell?_of_block (hb.block _ hlt)
theorem reads_new {w : World} {g : Nat} {T : TypeId} {xs : List ByteArray} (hb : w.heap[g]? = some (.cells (xs.map Value.string).toArray T (0, 0))) : Reads w (some ⟨g, 0, none⟩) xs := by
  intro j hj
  refine ⟨_, rfl, ?_⟩
  have e : (⟨g, 0, none⟩ : Addr).add j = ⟨g, j, none⟩ := by simp [Addr.add]; intro h; omega
  rw [e]
  simp [World.cell?, hb, hj]
theorem cells_set {w : World} {g : Nat} {T : TypeId} {l : List Value} (hb : w.heap[g]? = some (.cells l.toArray T (0, 0))) (k : Nat) (v : Value) : (w.setCell ⟨g, k, none⟩ v).heap[g]? = some (.cells (l.set k v).toArray T (0, 0)) := by
  simp [World.setCell, Array.getElem?_modify, hb]
theorem cells_cell {w : World} {g : Nat} {T : TypeId} {l : List Value} (hb : w.heap[g]? = some (.cells l.toArray T (0, 0))) (k : Nat) (hk : k < l.length) : w.cell? ⟨g, k, none⟩ = some l[k] := by
  simp [World.cell?, hb, hk]
theorem cells_free {w : World} {g : Nat} {T : TypeId} {l : List Value} (hb : w.heap[g]? = some (.cells l.toArray T (0, 0))) (k : Nat) : w.frozen? ⟨g, k, none⟩ = false := by
  simp [World.frozen?, hb]
theorem heap_at_new (w : World) (o : Obj) : (w.alloc o).heap[w.heap.size]? = some o := by
  show (w.heap.push o)[w.heap.size]? = _
  simp

end Go.Proofs.YtdifefgigcjgeaaGreatDoor
end

/- What is proved here: a signature (declared types, their constructors, the constructors' arguments) as it lies in memory, and its size. No condition. -/
section
namespace Go.Proofs.YtdifefgigcjgeaaGreatDoor
open Go.RowKit

structure ConD where
  name : ByteArray
  args : List ByteArray
structure TypeD where
  name : ByteArray
  cons : List ConD

/-- The row at a holds the elements of l, two cells each; R says what the cells of an element are. -/
def Row2 {α : Type} (R : World → α → Value → Value → Prop) (w : World) (a : Option Addr) (l : List α) : Prop := ∀ j (h : j < l.length), ∃ y u v, a = some y ∧ w.cell? (y.add (j * 2)) = some u ∧ w.cell? ⟨(y.add (j * 2)).block, (y.add (j * 2)).off + 1, none⟩ = some v ∧ R w l[j] u v
def ConAt (w : World) (c : ConD) (u v : Value) : Prop := ∃ a cap, u = .string c.name ∧ v = .slice a c.args.length cap ∧ Reads w a c.args
def TypeAt (w : World) (t : TypeD) (u v : Value) : Prop := ∃ a cap, u = .string t.name ∧ v = .slice a t.cons.length cap ∧ Row2 ConAt w a t.cons

theorem cell_below {w w' : World} {p : Addr} {v : Value} (h : w.cell? p = some v) (hb : Below w.heap.size w w') : w'.cell? p = some v := by
  rw [← h]
  have hlt : p.block < w.heap.size := by
    rcases Nat.lt_or_ge p.block w.heap.size with h1 | h1
    · exact h1
    · simp [World.cell?, Array.getElem?_eq_none h1] at h
  exact World.cell?_of_block (hb.block _ hlt)
theorem row2_below {α : Type} {R : World → α → Value → Value → Prop} (hR : ∀ w w' x u v, R w x u v → Below w.heap.size w w' → R w' x u v) {w w' : World} {a : Option Addr} {l : List α} (h : Row2 R w a l) (hb : Below w.heap.size w w') : Row2 R w' a l := by
  intro j hj
  obtain ⟨y, u, v, rfl, h1, h2, h3⟩ := h j hj
  exact ⟨y, u, v, rfl, cell_below h1 hb, cell_below h2 hb, hR _ _ _ _ _ h3 hb⟩
theorem con_below (w w' : World) (c : ConD) (u v : Value) (h : ConAt w c u v) (hb : Below w.heap.size w w') : ConAt w' c u v := by
  obtain ⟨a, cap, h1, h2, h3⟩ := h
  exact ⟨a, cap, h1, h2, reads_below h3 hb⟩
theorem type_below (w w' : World) (t : TypeD) (u v : Value) (h : TypeAt w t u v) (hb : Below w.heap.size w w') : TypeAt w' t u v := by
  obtain ⟨a, cap, h1, h2, h3⟩ := h
  exact ⟨a, cap, h1, h2, row2_below con_below h3 hb⟩

theorem below_of_drew {w w' : World} (h : Below w.drew.heap.size w.drew w') : Below w.heap.size w w' := ⟨h.os, h.tape, h.output, h.size, h.block⟩
theorem con_drew {w : World} {c : ConD} {u v : Value} (h : ConAt w c u v) : ConAt w.drew c u v := h
theorem type_drew {w : World} {t : TypeD} {u v : Value} (h : TypeAt w t u v) : TypeAt w.drew t u v := h

def sumBy {α : Type} (f : α → Nat) (l : List α) : Nat := (l.map f).sum
theorem sumBy_take {α : Type} (f : α → Nat) (l : List α) (k : Nat) (h : k < l.length) : sumBy f (l.take (k + 1)) = sumBy f (l.take k) + f l[k] := by
  unfold sumBy
  rw [List.take_succ_eq_append_getElem h, List.map_append, List.sum_append]
  simp
theorem sumBy_take_le {α : Type} (f : α → Nat) (l : List α) (k : Nat) : sumBy f (l.take k) ≤ sumBy f l := by
  have e : sumBy f l = sumBy f (l.take k) + sumBy f (l.drop k) := by
    unfold sumBy
    rw [← List.sum_append, ← List.map_append, List.take_append_drop]
  omega

def ConD.size (c : ConD) : Nat := c.name.size + (c.args.length + total c.args)
def TypeD.size (t : TypeD) : Nat := t.name.size + (t.cons.length + sumBy ConD.size t.cons)
def sigSize (s : List TypeD) : Nat := s.length + sumBy TypeD.size s

/-- What a bound of L places leaves behind n of them: -1 where they do not fit. -/
def left (L n : Nat) : Int := if n ≤ L then ((L - n : Nat) : Int) else -1
theorem left_yes {L n : Nat} (h : n ≤ L) : left L n = ((L - n : Nat) : Int) := if_pos h
theorem left_no {L n : Nat} (h : ¬ n ≤ L) : left L n = -1 := if_neg h

/-- Every length is one that a machine's slice or string can have. -/
def ConD.fits (c : ConD) : Prop := c.name.size ≤ maxLen ∧ c.args.length ≤ maxLen ∧ ∀ x ∈ c.args, x.size ≤ maxLen
def TypeD.fits (t : TypeD) : Prop := t.name.size ≤ maxLen ∧ t.cons.length ≤ maxLen ∧ ∀ c ∈ t.cons, c.fits
def sigFits (s : List TypeD) : Prop := s.length ≤ maxLen ∧ ∀ t ∈ s, t.fits
end Go.Proofs.YtdifefgigcjgeaaGreatDoor
end

/- What is proved here: rows of nodes (a kind, a number, a text, and a row of nodes below) as they lie in memory: values, and whatever has their form. No condition. -/
section
namespace Go.Proofs.YtdifefgigcjgeaaGreatDoor
open Go.RowKit

/-- A row of nodes. -/
inductive Trees where
  | nil : Trees
  | cons (kind num : Int) (text : ByteArray) (args rest : Trees) : Trees
namespace Trees
def length : Trees → Nat
  | .nil => 0
  | .cons _ _ _ _ r => r.length + 1
def append : Trees → Trees → Trees
  | .nil, b => b
  | .cons k n t ar r, b => .cons k n t ar (r.append b)
/-- One more at the end. -/
def snoc (a : Trees) (k n : Int) (t : ByteArray) (ar : Trees) : Trees := a.append (.cons k n t ar .nil)
theorem append_length (a b : Trees) : (a.append b).length = a.length + b.length := by
  induction a with
  | nil => simp [append, length]
  | cons k n t ar r _ ih => simp [append, length, ih]; omega
theorem append_nil (a : Trees) : a.append .nil = a := by
  induction a with
  | nil => rfl
  | cons k n t ar r _ ih => simp [append, ih]
theorem append_assoc (a b c : Trees) : (a.append b).append c = a.append (b.append c) := by
  induction a with
  | nil => rfl
  | cons k n t ar r _ ih => simp [append, ih]
theorem snoc_append (a b : Trees) (k n : Int) (t : ByteArray) (ar : Trees) : (a.snoc k n t ar).append b = a.append (.cons k n t ar b) := by
  unfold snoc
  rw [append_assoc]
  rfl
theorem snoc_length (a : Trees) (k n : Int) (t : ByteArray) (ar : Trees) : (a.snoc k n t ar).length = a.length + 1 := by
  unfold snoc
  rw [append_length]
  rfl
/-- Of the rows below the nodes of a row. -/
def All (P : Trees → Prop) : Trees → Prop
  | .nil => True
  | .cons _ _ _ ar r => P ar ∧ r.All P
theorem ind {P : Trees → Prop} (h : ∀ F : Trees, F.All P → P F) : ∀ F, P F := fun F => by
  have h2 : F.All P := by
    induction F with
    | nil => trivial
    | cons k n t ar r ih1 ih2 => exact ⟨h ar ih1, ih2⟩
  exact h F h2
/-- Every number and every length is one that a machine has. -/
def fits : Trees → Prop
  | .nil => True
  | .cons k n t ar r => (-9223372036854775808 ≤ k ∧ k ≤ 9223372036854775807) ∧ (-9223372036854775808 ≤ n ∧ n ≤ 9223372036854775807) ∧ t.size ≤ maxLen ∧ ar.length ≤ maxLen ∧ ar.fits ∧ r.fits
/-- The places that it takes: a node one, and the bytes of its text. -/
def size : Trees → Nat
  | .nil => 0
  | .cons _ _ t ar r => t.size + 1 + ar.size + r.size
/-- The nodes. -/
def count : Trees → Nat
  | .nil => 0
  | .cons _ _ _ ar r => 1 + ar.count + r.count
/-- The most nodes one below the other. -/
def deep : Trees → Nat
  | .nil => 0
  | .cons _ _ _ ar r => max (ar.deep + 1) r.deep
theorem length_le_size (F : Trees) : F.length ≤ F.size := by
  induction F with
  | nil => simp [length, size]
  | cons k n t ar r _ ih => simp [length, size]; omega
theorem length_le_count (F : Trees) : F.length ≤ F.count := by
  induction F with
  | nil => simp [length, count]
  | cons k n t ar r _ ih => simp [length, count]; omega
theorem count_le_size (F : Trees) : F.count ≤ F.size := by
  induction F with
  | nil => simp [count, size]
  | cons k n t ar r ih1 ih => simp [count, size]; omega
theorem deep_le_count (F : Trees) : F.deep ≤ F.count := by
  induction F with
  | nil => simp [deep, count]
  | cons k n t ar r ih1 ih => simp [deep, count]; omega
end Trees

/-- The fields behind the first of a node. -/
abbrev fieldAt (y : Addr) (i j : Nat) : Addr := { block := (y.add (i * 4)).block, off := (y.add (i * 4)).off + j }
/-- The row at a, from its i-th node on, reads as said. -/
def TreesAt (w : World) : Trees → Option Addr → Nat → Prop
  | .nil, _, _ => True
  | .cons k n t ar r, a, i => (∃ y p cap, a = some y ∧ w.cell? (y.add (i * 4)) = some (.int .i64 k) ∧ w.cell? (fieldAt y i 1) = some (.int .i64 n) ∧ w.cell? (fieldAt y i 2) = some (.string t) ∧ w.cell? (fieldAt y i 3) = some (.slice p ar.length cap) ∧ ar.length ≤ cap ∧ TreesAt w ar p 0) ∧ TreesAt w r a (i + 1)
theorem TreesAt.keep {w w' : World} (hc : ∀ p v, w.cell? p = some v → w'.cell? p = some v) : ∀ (F : Trees) (a : Option Addr) (i : Nat), TreesAt w F a i → TreesAt w' F a i := by
  intro F
  induction F with
  | nil => intro _ _ _; trivial
  | cons k n t ar r ih1 ih2 =>
    rintro a i ⟨⟨y, p, cap, h1, h2, h3, h4, h5, hl, h6⟩, h7⟩
    exact ⟨⟨y, p, cap, h1, hc _ _ h2, hc _ _ h3, hc _ _ h4, hc _ _ h5, hl, ih1 _ _ h6⟩, ih2 _ _ h7⟩
theorem TreesAt.below {w w' : World} {F : Trees} {a : Option Addr} {i : Nat} (h : TreesAt w F a i) (hb : Below w.heap.size w w') : TreesAt w' F a i :=
  TreesAt.keep (fun _ _ hc => cell_below hc hb) F a i h
theorem TreesAt.drew {w : World} {F : Trees} {a : Option Addr} {i : Nat} (h : TreesAt w F a i) : TreesAt w.drew F a i :=
  TreesAt.keep (w := w) (w' := w.drew) (fun _ _ hc => hc) F a i h
/-- The same row behind a world whose blocks below B lie as they lay, where the row's blocks are below B. -/
theorem TreesAt.low {w w' : World} {F : Trees} {a : Option Addr} {i B : Nat} (hB : B = w.heap.size) (h : TreesAt w F a i) (hk : ∀ b, b < B → w'.heap[b]? = w.heap[b]?) : TreesAt w' F a i := by
  subst hB
  refine TreesAt.keep (fun p v hc => ?_) F a i h
  rw [← hc]
  have hlt : p.block < w.heap.size := by
    rcases Nat.lt_or_ge p.block w.heap.size with h1 | h1
    · exact h1
    · simp [World.cell?, Array.getElem?_eq_none h1] at hc
  exact World.cell?_of_block (hk _ hlt)
/-- What is read of the i-th node. -/
theorem TreesAt.open {w : World} {k n : Int} {t : ByteArray} {ar r : Trees} {a : Option Addr} {i : Nat} (h : TreesAt w (.cons k n t ar r) a i) :
    ∃ y p cap, a = some y ∧ w.cell? (y.add (i * 4)) = some (.int .i64 k) ∧ w.cell? (fieldAt y i 1) = some (.int .i64 n) ∧ w.cell? (fieldAt y i 2) = some (.string t) ∧ w.cell? (fieldAt y i 3) = some (.slice p ar.length cap) ∧ TreesAt w ar p 0 ∧ TreesAt w r a (i + 1) := by
  obtain ⟨⟨y, p, cap, h1, h2, h3, h4, h5, _, h6⟩, h7⟩ := h
  exact ⟨y, p, cap, h1, h2, h3, h4, h5, h6, h7⟩
/-- Without the nodes of the row itself. -/
def Trees.inner : Trees → Nat
  | .nil => 0
  | .cons _ _ t ar r => t.size + ar.size + r.inner
theorem Trees.size_eq (F : Trees) : F.size = F.length + F.inner := by
  induction F with
  | nil => rfl
  | cons k n t ar r _ ih => simp [Trees.size, Trees.length, Trees.inner, ih]; omega

theorem Trees.append_count (A B : Trees) : (A.append B).count = A.count + B.count := by
  induction A with
  | nil => simp [Trees.append, Trees.count]
  | cons k n t ar r _ ih => simp [Trees.append, Trees.count, ih]; omega
end Go.Proofs.YtdifefgigcjgeaaGreatDoor
end

/- What is proved here: rows of nodes that lie in certain blocks; the order in which a walk over all nodes meets them, and its stack. No condition. -/
section
namespace Go.Proofs.YtdifefgigcjgeaaGreatDoor
open Go.RowKit

/-- The row reads as said, and lies in blocks of S. -/
def TreesOn (S : Nat → Prop) (w : World) : Trees → Option Addr → Nat → Prop
  | .nil, _, _ => True
  | .cons k n t ar r, a, i => (∃ y p cap, a = some y ∧ S y.block ∧ w.cell? (y.add (i * 4)) = some (.int .i64 k) ∧ w.cell? (fieldAt y i 1) = some (.int .i64 n) ∧ w.cell? (fieldAt y i 2) = some (.string t) ∧ w.cell? (fieldAt y i 3) = some (.slice p ar.length cap) ∧ ar.length ≤ cap ∧ TreesOn S w ar p 0) ∧ TreesOn S w r a (i + 1)
theorem TreesOn.at {S : Nat → Prop} {w : World} : ∀ (F : Trees) (a : Option Addr) (i : Nat), TreesOn S w F a i → TreesAt w F a i := by
  intro F
  induction F with
  | nil => intro _ _ _; trivial
  | cons k n t ar r ih1 ih2 =>
    rintro a i ⟨⟨y, p, cap, h1, _, h2, h3, h4, h5, hl, h6⟩, h7⟩
    exact ⟨⟨y, p, cap, h1, h2, h3, h4, h5, hl, ih1 _ _ h6⟩, ih2 _ _ h7⟩
theorem TreesOn.of {w : World} : ∀ (F : Trees) (a : Option Addr) (i : Nat), TreesAt w F a i → TreesOn (fun b => b < w.heap.size) w F a i := by
  intro F
  induction F with
  | nil => intro _ _ _; trivial
  | cons k n t ar r ih1 ih2 =>
    rintro a i ⟨⟨y, p, cap, h1, h2, h3, h4, h5, hl, h6⟩, h7⟩
    have hlt := World.block_lt_of_cell? w _ h2
    rw [addr_block] at hlt
    exact ⟨⟨y, p, cap, h1, hlt, h2, h3, h4, h5, hl, ih1 _ _ h6⟩, ih2 _ _ h7⟩
theorem TreesOn.keep {S : Nat → Prop} {w w' : World} (hk : ∀ b, S b → w'.heap[b]? = w.heap[b]?) : ∀ (F : Trees) (a : Option Addr) (i : Nat), TreesOn S w F a i → TreesOn S w' F a i := by
  intro F
  induction F with
  | nil => intro _ _ _; trivial
  | cons k n t ar r ih1 ih2 =>
    rintro a i ⟨⟨y, p, cap, h1, hs, h2, h3, h4, h5, hl, h6⟩, h7⟩
    have e : ∀ q : Addr, q.block = y.block → w'.cell? q = w.cell? q := fun q hq => World.cell?_of_block (by rw [hq]; exact hk _ hs)
    refine ⟨⟨y, p, cap, h1, hs, ?_, ?_, ?_, ?_, hl, ih1 _ _ h6⟩, ih2 _ _ h7⟩
    · rw [e _ (addr_block _ _)]; exact h2
    · exact (e (fieldAt y i _) (addr_block y _)).trans h3
    · exact (e (fieldAt y i _) (addr_block y _)).trans h4
    · exact (e (fieldAt y i _) (addr_block y _)).trans h5
theorem TreesOn.wider {S S' : Nat → Prop} {w : World} (hs : ∀ b, S b → S' b) : ∀ (F : Trees) (a : Option Addr) (i : Nat), TreesOn S w F a i → TreesOn S' w F a i := by
  intro F
  induction F with
  | nil => intro _ _ _; trivial
  | cons k n t ar r ih1 ih2 =>
    rintro a i ⟨⟨y, p, cap, h1, h0, h2, h3, h4, h5, hl, h6⟩, h7⟩
    exact ⟨⟨y, p, cap, h1, hs _ h0, h2, h3, h4, h5, hl, ih1 _ _ h6⟩, ih2 _ _ h7⟩
theorem TreesOn.shift {S : Nat → Prop} {w : World} (y : Addr) (c : Nat) : ∀ (F : Trees) (i : Nat), TreesOn S w F (some y) (i + c) → 0 < c → TreesOn S w F (some (y.add (c * 4))) i := by
  intro F
  induction F with
  | nil => intro _ _ _; trivial
  | cons k n t ar r _ ih2 =>
    rintro i ⟨⟨z, p, cap, h1, h0, h2, h3, h4, h5, hl, h6⟩, h7⟩ hc
    cases h1
    have e2 : (y.add (c * 4)).add (i * 4) = y.add ((i + c) * 4) := by
      unfold Addr.add
      rw [if_neg (show ¬ c * 4 = 0 by omega), if_neg (show ¬ (i + c) * 4 = 0 by omega)]
      by_cases hi : i * 4 = 0
      · rw [if_pos hi]
        simp only [Addr.mk.injEq, true_and, and_true]
        omega
      · rw [if_neg hi]
        simp only [Addr.mk.injEq, true_and, and_true]
        omega
    refine ⟨⟨_, p, cap, rfl, by rw [addr_block]; exact h0, ?_, ?_, ?_, ?_, hl, h6⟩, ?_⟩
    · rw [e2]; exact h2
    · unfold fieldAt; rw [e2]; exact h3
    · unfold fieldAt; rw [e2]; exact h4
    · unfold fieldAt; rw [e2]; exact h5
    · exact ih2 (i + 1) (by rw [show i + 1 + c = i + c + 1 by omega]; exact h7) hc

/-- What is told of a node: its depth, its fields, how many are below. -/
abbrev Part := Nat × Int × Int × ByteArray × Nat
/-- A node as a walk over all nodes yields it. -/
structure PartX where
  d : Nat
  k : Int
  n : Int
  t : ByteArray
  p : Option Addr
  l : Nat
  c : Nat
def PartX.val (x : PartX) : Value := .agg #[.int .i64 x.k, .int .i64 x.n, .string x.t, .slice x.p x.l x.c]
def PartX.key (x : PartX) : Part := (x.d, x.k, x.n, x.t, x.l)
/-! The nodes, each before those below it. -/
def Trees.pre : Trees → Nat → List Part
  | .nil, _ => []
  | .cons k n t ar r, d => (d, k, n, t, ar.length) :: (ar.pre (d + 1) ++ r.pre d)
theorem Trees.pre_length (F : Trees) : ∀ d, (F.pre d).length = F.count := by
  induction F with
  | nil => intro d; rfl
  | cons k n t ar r ih1 ih2 => intro d; simp [Trees.pre, Trees.count, ih1, ih2]; omega
/-- What a stack of rows (the last first) has still to give. -/
def rem : List Trees → List Part
  | [] => []
  | F :: st => F.pre (st.length + 1) ++ rem st
def work : List Trees → Nat
  | [] => 0
  | F :: st => 2 * F.count + 1 + work st
theorem length_le_work (st : List Trees) : st.length ≤ work st := by
  induction st with
  | nil => exact Nat.le_refl _
  | cons F st ih => simp [work]; omega
theorem rem_node (k n : Int) (t : ByteArray) (ar r : Trees) (st : List Trees) : rem (.cons k n t ar r :: st) = (st.length + 1, k, n, t, ar.length) :: rem (ar :: r :: st) := by
  simp [rem, Trees.pre]
theorem work_node (k n : Int) (t : ByteArray) (ar r : Trees) (st : List Trees) : work (ar :: r :: st) + 1 = work (.cons k n t ar r :: st) := by
  simp [work, Trees.count]; omega
/-- The rows of a stack, as slices. -/
def StackOn (S : Nat → Prop) (w : World) : List Trees → List Value → Prop
  | [], vs => vs = []
  | F :: st, vs => ∃ p cap us, vs = .slice p F.length cap :: us ∧ F.length ≤ cap ∧ TreesOn S w F p 0 ∧ StackOn S w st us
theorem StackOn.keep {S : Nat → Prop} {w w' : World} (hk : ∀ b, S b → w'.heap[b]? = w.heap[b]?) : ∀ (st : List Trees) (vs : List Value), StackOn S w st vs → StackOn S w' st vs := by
  intro st
  induction st with
  | nil => intro vs h; exact h
  | cons F st ih =>
    rintro vs ⟨p, cap, us, h1, hl, h2, h3⟩
    exact ⟨p, cap, us, h1, hl, TreesOn.keep hk _ _ _ h2, ih _ h3⟩
theorem StackOn.length {S : Nat → Prop} {w : World} : ∀ (st : List Trees) (vs : List Value), StackOn S w st vs → vs.length = st.length := by
  intro st
  induction st with
  | nil => rintro vs rfl; rfl
  | cons F st ih =>
    rintro vs ⟨p, cap, us, rfl, _, _, h3⟩
    simp [ih _ h3]
end Go.Proofs.YtdifefgigcjgeaaGreatDoor
end

/- What is proved here: the Bool of a proposition. No condition. -/
section
namespace Go.Proofs.YtdifefgigcjgeaaGreatDoor
open Go.RowKit

noncomputable def bl (p : Prop) : Bool := @decide p (Classical.propDecidable p)
theorem bl_true {p : Prop} (h : p) : bl p = true := by unfold bl; exact @decide_eq_true _ (Classical.propDecidable p) h
theorem bl_false {p : Prop} (h : ¬ p) : bl p = false := by unfold bl; exact @decide_eq_false _ (Classical.propDecidable p) h
theorem bl_iff {p : Prop} : bl p = true ↔ p := by unfold bl; exact @decide_eq_true_iff _ (Classical.propDecidable p)
theorem bl_not_iff {p : Prop} : bl p = false ↔ ¬ p := by unfold bl; exact @decide_eq_false_iff_not _ (Classical.propDecidable p)
theorem bl_congr {p q : Prop} (h : p ↔ q) : bl p = bl q := by rw [propext h]

end Go.Proofs.YtdifefgigcjgeaaGreatDoor
end

/- What is proved here: the first index of a text in a list; when texts are distinct (pure). No condition. -/
section
namespace Go.Proofs.YtdifefgigcjgeaaGreatDoor
open Go.RowKit

theorem getD_at (xs : List ByteArray) (k : Nat) (h : k < xs.length) : xs.getD k ByteArray.empty = xs[k] := by
  rw [List.getD_eq_getElem?_getD, List.getElem?_eq_getElem h]; rfl
theorem idx_hit (xs : List ByteArray) (k : Nat) (x : ByteArray) (hk : k < xs.length) (h : xs[k] = x) (hne : ∀ j (hj : j < xs.length), j < k → xs[j] ≠ x) : Lib.idxOfS xs x = k := by
  have := Lib.idxOfS_hit xs xs.length k x hk (Nat.le_refl _) (by rw [getD_at _ _ hk]; exact h) (fun j hj => by rw [getD_at _ _ (by omega)]; exact hne j (by omega) hj)
  rwa [List.take_length] at this
theorem idx_miss (xs : List ByteArray) (x : ByteArray) (hne : ∀ j (hj : j < xs.length), xs[j] ≠ x) : Lib.idxOfS xs x = -1 := by
  have := Lib.idxOfS_miss xs xs.length x (fun j hj => by rw [getD_at _ _ hj]; exact hne j hj)
  rwa [List.take_length] at this
theorem idx_lo (xs : List ByteArray) (x : ByteArray) : -1 ≤ Lib.idxOfS xs x ∧ Lib.idxOfS xs x < (xs.length : Int) ∨ Lib.idxOfS xs x = -1 := by
  by_cases h : x ∈ xs
  · obtain ⟨k, hk, hx, hmin⟩ : ∃ k, ∃ hk : k < xs.length, xs[k] = x ∧ ∀ j (hj : j < xs.length), j < k → xs[j] ≠ x := by
      have hex : ∃ k, ∃ hk : k < xs.length, xs[k] = x := by
        obtain ⟨k, hk, e⟩ := List.mem_iff_getElem.1 h
        exact ⟨k, hk, e⟩
      have key : ∀ n k, k ≤ n → (∃ hk : k < xs.length, xs[k] = x) → ∃ k, ∃ hk : k < xs.length, xs[k] = x ∧ ∀ j (hj : j < xs.length), j < k → xs[j] ≠ x := by
        intro n
        induction n with
        | zero =>
          intro k hk ⟨h1, h2⟩
          exact ⟨k, h1, h2, fun j hj h3 => by omega⟩
        | succ n ih =>
          intro k hk ⟨h1, h2⟩
          by_cases hex : ∃ j, ∃ hj : j < xs.length, j < k ∧ xs[j] = x
          · obtain ⟨j, hj, h3, h4⟩ := hex
            exact ih j (by omega) ⟨hj, h4⟩
          · exact ⟨k, h1, h2, fun j hj h3 h4 => hex ⟨j, hj, h3, h4⟩⟩
      obtain ⟨k, hk⟩ := hex
      exact key k k (Nat.le_refl _) hk
    rw [idx_hit xs k x hk hx hmin]
    left
    omega
  · right
    exact idx_miss xs x (fun j hj e => h (e ▸ List.getElem_mem hj))
theorem idx_mem (xs : List ByteArray) (x : ByteArray) : Lib.idxOfS xs x < 0 ↔ ¬ x ∈ xs := by
  rw [← Lib.idxOfS_nonneg_iff]
  omega

def Distinct (xs : List ByteArray) : Prop := ∀ j (hj : j < xs.length), Lib.idxOfS xs xs[j] = j
end Go.Proofs.YtdifefgigcjgeaaGreatDoor
end

/- What is proved here: the model's IndexOf (package spec) gives the first index. Condition: the slice reads as the list. -/
section
namespace Go.Proofs.YtdifefgigcjgeaaGreatDoor
open Go.RowKit

set_option maxHeartbeats 1000000 in
set_option maxRecDepth 100000 in
theorem spec_index (w : World) (a : Option Addr) (cap : Nat) (xs : List ByteArray) (s : ByteArray) (hx : Reads w a xs) (hm : xs.length ≤ maxLen) :
    Calls Tryz.prog 19 #[.slice a xs.length cap, .string s] w fun e w' => e = .returned (.int .i64 (Lib.idxOfS xs s)) ∧ w' = w := by
  unfold maxLen at hm
  have HX := Lib.hid hx
  clear hx
  generalize hn : xs.length = n at *
  have HN := Lib.hid hn
  clear hn
  go_enter Tryz.func19, Tryz.ntmps19
  go_wp2
  go_loop [5] (fun i => ∃ (k : Nat), k ≤ n ∧ i = .int .i64 k ∧ ∀ j (hj : j < xs.length), j < k → xs[j] ≠ s) (fun i => n - (intOf i).toNat)
  case atStart => exact ⟨0, Nat.zero_le _, rfl, fun j _ h => by omega⟩
  case round =>
    obtain ⟨k, hk, rfl, hne⟩ := hrel
    have HNE := Lib.hid hne
    clear hne
    by_cases hlt : k < n
    · have hk' : k < xs.length := by rw [HN.out]; exact hlt
      obtain ⟨y, rfl, hc⟩ := HX.out k hk'
      obtain ⟨x, hxe⟩ : ∃ x, xs[k] = x := ⟨_, rfl⟩
      rw [hxe] at hc
      have HXE := Lib.hid hxe
      clear hxe
      by_cases he : x = s
      · subst he
        have hb : (x.toList == x.toList) = true := by simp
        go_wp2
        go_ret
        refine ⟨?_, rfl⟩
        rw [idx_hit xs k x hk' HXE.out HNE.out]
        rfl
      · have hb : (x.toList == s.toList) = false := (Lib.bytes_beq_false_iff _ _).2 he
        have HE := Lib.hid he
        clear he
        go_wp2
        go_round
        case rel =>
          refine ⟨k + 1, by omega, by go_num, fun j hj h => ?_⟩
          rcases Nat.lt_or_ge j k with h3 | h3
          · exact HNE.out j hj h3
          · obtain rfl : j = k := by omega
            rw [HXE.out]
            exact HE.out
        case measure => simp [intOf]; omega
    · go_wp2
      go_ret
      refine ⟨?_, rfl⟩
      rw [idx_miss xs s (fun j hj => HNE.out j hj (by have := HN.out; omega))]
      rfl

end Go.Proofs.YtdifefgigcjgeaaGreatDoor
end

/- What is proved here: the program's tests on words (impl: isLowerOrDigit, isWord) and the model's (spec: l2Lower, l2Digit, l2Rest, l1In) say what a word is. Condition: the text's length is a length. -/
section
namespace Go.Proofs.YtdifefgigcjgeaaGreatDoor
open Go.RowKit

/-- A lower-case letter or a digit. -/
def Good (c : UInt8) : Prop := (97 ≤ c.toNat ∧ c.toNat ≤ 122) ∨ (48 ≤ c.toNat ∧ c.toNat ≤ 57)
/-- 1 to 8 bytes, the first from lo to hi, the others lower-case letters or digits. -/
def Word (lo hi : Nat) (s : ByteArray) : Prop := 1 ≤ s.size ∧ s.size ≤ 8 ∧ (∀ h : 0 < s.size, lo ≤ s[0].toNat ∧ s[0].toNat ≤ hi) ∧ ∀ j (h : j < s.size), 1 ≤ j → Good s[j]
theorem impl_good (c : UInt8) (w : World) :
    Calls Tryz.prog 168 #[.int .u8 (c.toNat : Int)] w fun e w' => e = .returned (.bool (bl (Good c))) ∧ w = w' := by
  have h0 : 0 ≤ c.toNat := Nat.zero_le _
  have h255 : c.toNat < 256 := c.toNat_lt
  have HG : Hid (bl (Good c) = (decide (97 ≤ (c.toNat : Int)) && decide ((c.toNat : Int) ≤ 122) || decide (48 ≤ (c.toNat : Int)) && decide ((c.toNat : Int) ≤ 57))) := by
    unfold Hid
    by_cases h : Good c
    · rw [bl_true h]
      symm
      unfold Good at h
      simp
      omega
    · rw [bl_false h]
      symm
      unfold Good at h
      simp
      omega
  generalize c.toNat = n at *
  generalize bl (Good c) = b at *
  by_cases h1 : 97 ≤ n
  · have e1 : decide (97 ≤ (n : Int)) = true := by simp; omega
    by_cases h2 : n ≤ 122
    · have e2 : decide ((n : Int) ≤ 122) = true := by simp; omega
      have HB : Hid (b = true) := by unfold Hid; rw [HG.out, e1, e2]; rfl
      go_enter Tryz.func168, Tryz.ntmps168
      go_wp2
      go_ret
      exact ⟨by rw [HB.out]; rfl, rfl⟩
    · have e2 : decide ((n : Int) ≤ 122) = false := by simp; omega
      have e3 : decide (48 ≤ (n : Int)) = true := by simp; omega
      have e4 : decide ((n : Int) ≤ 57) = false := by simp; omega
      have HB : Hid (b = false) := by unfold Hid; rw [HG.out, e1, e2, e3, e4]; rfl
      go_enter Tryz.func168, Tryz.ntmps168
      go_wp2
      go_ret
      exact ⟨by rw [HB.out]; simp, rfl⟩
  · have e1 : decide (97 ≤ (n : Int)) = false := by simp; omega
    by_cases h3 : 48 ≤ n
    · have e3 : decide (48 ≤ (n : Int)) = true := by simp; omega
      have HB : Hid (b = decide ((n : Int) ≤ 57)) := by unfold Hid; rw [HG.out, e1, e3]; simp
      go_enter Tryz.func168, Tryz.ntmps168
      go_wp2
      go_ret
      exact ⟨by rw [HB.out]; rfl, rfl⟩
    · have e3 : decide (48 ≤ (n : Int)) = false := by simp; omega
      have HB : Hid (b = false) := by unfold Hid; rw [HG.out, e1, e3]; simp
      go_enter Tryz.func168, Tryz.ntmps168
      go_wp2
      go_ret
      exact ⟨by rw [HB.out]; rfl, rfl⟩

set_option maxHeartbeats 1000000 in
set_option maxRecDepth 100000 in
theorem impl_word (s : ByteArray) (lo hi : Nat) (hs : s.size ≤ maxLen) (w : World) :
    Calls Tryz.prog 141 #[.string s, .int .u8 (lo : Int), .int .u8 (hi : Int)] w fun e w' => e = .returned (.bool (bl (Word lo hi s))) ∧ Below w.heap.size w w' := by
  unfold maxLen at hs
  by_cases h0 : s.size < 1
  · rw [bl_false (fun h => by have := h.1; omega)]
    go_enter Tryz.func141, Tryz.ntmps141
    go_wp2
    go_ret
    exact ⟨rfl, Below.refl _ _⟩
  · have hp : 0 < s.size := by omega
    by_cases h8 : 8 < s.size
    · rw [bl_false (fun h => by have := h.2.1; omega)]
      go_enter Tryz.func141, Tryz.ntmps141
      go_wp2
      go_ret
      exact ⟨rfl, Below.refl _ _⟩
    · by_cases hl : s[0].toNat < lo
      · rw [bl_false (fun h => by have := (h.2.2.1 hp).1; omega)]
        go_enter Tryz.func141, Tryz.ntmps141
        go_wp2
        go_ret
        exact ⟨rfl, Below.refl _ _⟩
      · by_cases hh : hi < s[0].toNat
        · rw [bl_false (fun h => by have := (h.2.2.1 hp).2; omega)]
          go_enter Tryz.func141, Tryz.ntmps141
          go_wp2
          go_ret
          exact ⟨rfl, Below.refl _ _⟩
        · go_enter Tryz.func141, Tryz.ntmps141
          go_wp2
          go_loopw [7] (fun i wr => ∃ k : Nat, 1 ≤ k ∧ k ≤ s.size ∧ i = .int .i64 k ∧ (∀ j (h : j < s.size), 1 ≤ j → j < k → Good s[j]) ∧ Below w.heap.size w wr) (fun i _ => s.size - (intOf i).toNat)
          case atStart => exact ⟨1, Nat.le_refl _, by omega, rfl, fun j h h1 h2 => by omega, Below.refl _ _⟩
          case round =>
            obtain ⟨k, hk1, hk, rfl, hg, hB⟩ := hrel
            have HG := Lib.hid hg
            clear hg
            by_cases hlt : k < s.size
            · by_cases hgood : Good s[k]
              · have hb := bl_true hgood
                have HC := Lib.hid hgood
                clear hgood
                go_wp2_with fail
                refine (impl_good s[k] _).mono ?_
                rintro e w1 ⟨rfl, rfl⟩
                rw [hb]
                go_wp2
                go_roundw
                case rel =>
                  refine ⟨k + 1, by omega, by omega, by go_num, fun j h h1 h2 => ?_, hB⟩
                  rcases Nat.lt_or_ge j k with h3 | h3
                  · exact HG.out j h h1 h3
                  · obtain rfl : j = k := by omega
                    exact HC.out
                case measure => simp [intOf]; omega
              · have hb := bl_false hgood
                have hR : bl (Word lo hi s) = false := bl_false (fun h => hgood (h.2.2.2 k hlt hk1))
                have HR := Lib.hid hR
                clear hgood hR
                go_wp2_with fail
                refine (impl_good s[k] _).mono ?_
                rintro e w1 ⟨rfl, rfl⟩
                rw [hb]
                go_wp2
                go_ret
                exact ⟨by rw [HR.out]; rfl, hB⟩
            · have hR : bl (Word lo hi s) = true := bl_true ⟨by omega, by omega, fun _ => ⟨by omega, by omega⟩, fun j h h1 => HG.out j h h1 (by omega)⟩
              have HR := Lib.hid hR
              clear hR
              go_wp2
              go_ret
              exact ⟨by rw [HR.out]; rfl, hB⟩

theorem spec_lower (c : UInt8) (w : World) :
    Calls Tryz.prog 138 #[.int .u8 (c.toNat : Int)] w fun e w' => e = .returned (.bool (bl (97 ≤ c.toNat ∧ c.toNat ≤ 122))) ∧ w = w' := by
  have h255 : c.toNat < 256 := c.toNat_lt
  generalize c.toNat = n at *
  by_cases h1 : 97 ≤ n
  · have e1 : decide (97 ≤ (n : Int)) = true := by simp; omega
    have HB : Hid (bl (97 ≤ n ∧ n ≤ 122) = decide ((n : Int) ≤ 122)) := by
      by_cases h2 : n ≤ 122
      · exact (bl_true ⟨h1, h2⟩).trans (by symm; simp; omega)
      · exact (bl_false (fun h => h2 h.2)).trans (by symm; simp; omega)
    go_enter Tryz.func138, Tryz.ntmps138
    go_wp2
    go_ret
    exact ⟨by rw [HB.out]; rfl, rfl⟩
  · have e1 : decide (97 ≤ (n : Int)) = false := by simp; omega
    have HB : Hid (bl (97 ≤ n ∧ n ≤ 122) = false) := bl_false (fun h => h1 h.1)
    go_enter Tryz.func138, Tryz.ntmps138
    go_wp2
    go_ret
    exact ⟨by rw [HB.out]; rfl, rfl⟩

theorem spec_digit (c : UInt8) (w : World) :
    Calls Tryz.prog 144 #[.int .u8 (c.toNat : Int)] w fun e w' => e = .returned (.bool (bl (48 ≤ c.toNat ∧ c.toNat ≤ 57))) ∧ w = w' := by
  have h255 : c.toNat < 256 := c.toNat_lt
  generalize c.toNat = n at *
  by_cases h1 : 48 ≤ n
  · have e1 : decide (48 ≤ (n : Int)) = true := by simp; omega
    have HB : Hid (bl (48 ≤ n ∧ n ≤ 57) = decide ((n : Int) ≤ 57)) := by
      by_cases h2 : n ≤ 57
      · exact (bl_true ⟨h1, h2⟩).trans (by symm; simp; omega)
      · exact (bl_false (fun h => h2 h.2)).trans (by symm; simp; omega)
    go_enter Tryz.func144, Tryz.ntmps144
    go_wp2
    go_ret
    exact ⟨by rw [HB.out]; rfl, rfl⟩
  · have e1 : decide (48 ≤ (n : Int)) = false := by simp; omega
    have HB : Hid (bl (48 ≤ n ∧ n ≤ 57) = false) := bl_false (fun h => h1 h.1)
    go_enter Tryz.func144, Tryz.ntmps144
    go_wp2
    go_ret
    exact ⟨by rw [HB.out]; rfl, rfl⟩

theorem spec_in (n lo hi : Nat) (w : World) :
    Calls Tryz.prog 95 #[.int .i64 (n : Int), .int .i64 (lo : Int), .int .i64 (hi : Int)] w fun e w' => e = .returned (.bool (bl (lo ≤ n ∧ n ≤ hi))) ∧ w = w' := by
  by_cases h1 : lo ≤ n
  · have e1 : decide ((lo : Int) ≤ (n : Int)) = true := by simp; omega
    have HB : Hid (bl (lo ≤ n ∧ n ≤ hi) = decide (n ≤ hi)) := by
      by_cases h2 : n ≤ hi
      · exact (bl_true ⟨h1, h2⟩).trans (by symm; simp; omega)
      · exact (bl_false (fun h => h2 h.2)).trans (by symm; simp; omega)
    go_enter Tryz.func95, Tryz.ntmps95
    go_wp2
    go_ret
    exact ⟨by rw [HB.out]; rfl, rfl⟩
  · have e1 : decide ((lo : Int) ≤ (n : Int)) = false := by simp; omega
    have HB : Hid (bl (lo ≤ n ∧ n ≤ hi) = false) := bl_false (fun h => h1 h.1)
    go_enter Tryz.func95, Tryz.ntmps95
    go_wp2
    go_ret
    exact ⟨by rw [HB.out]; rfl, rfl⟩

/-- What l2Rest asks. -/
def Rest (s : ByteArray) : Prop := 1 ≤ s.size ∧ s.size ≤ 8 ∧ ∀ j (h : j < s.size), 1 ≤ j → Good s[j]

set_option maxHeartbeats 1000000 in
set_option maxRecDepth 100000 in
theorem spec_rest (s : ByteArray) (hs : s.size ≤ maxLen) (w : World) :
    Calls Tryz.prog 139 #[.string s] w fun e w' => e = .returned (.bool (bl (Rest s))) ∧ Below w.heap.size w w' := by
  unfold maxLen at hs
  go_enter Tryz.func139, Tryz.ntmps139
  go_wp2
  go_loopw [3] (fun i wr => ∃ k : Nat, 1 ≤ k ∧ (k ≤ s.size ∨ k = 1) ∧ i = .int .i64 k ∧ (∀ j (h : j < s.size), 1 ≤ j → j < k → Good s[j]) ∧ Below w.heap.size w wr) (fun i _ => s.size - (intOf i).toNat)
  case atStart => exact ⟨1, Nat.le_refl _, .inr rfl, rfl, fun j h h1 h2 => by omega, Below.refl _ _⟩
  case round =>
    obtain ⟨k, hk1, hk, rfl, hg, hB⟩ := hrel
    have HG := Lib.hid hg
    clear hg
    by_cases hlt : k < s.size
    · by_cases hl : 97 ≤ s[k].toNat ∧ s[k].toNat ≤ 122
      · have hb := bl_true hl
        have HC : Hid (Good s[k]) := .inl hl
        clear hl hk
        go_wp2_with fail
        refine (spec_lower s[k] _).mono ?_
        rintro e w1 ⟨rfl, rfl⟩
        rw [hb]
        go_wp2
        go_roundw
        case rel =>
          refine ⟨k + 1, by omega, by omega, by go_num, fun j h h1 h2 => ?_, hB⟩
          rcases Nat.lt_or_ge j k with h3 | h3
          · exact HG.out j h h1 h3
          · obtain rfl : j = k := by omega
            exact HC.out
        case measure => simp [intOf]; omega
      · have hb := bl_false hl
        by_cases hd : 48 ≤ s[k].toNat ∧ s[k].toNat ≤ 57
        · have hb2 := bl_true hd
          have HC : Hid (Good s[k]) := .inr hd
          clear hl hd hk
          go_wp2_with fail
          refine (spec_lower s[k] _).mono ?_
          rintro e w1 ⟨rfl, rfl⟩
          rw [hb]
          go_wp2_with fail
          refine (spec_digit s[k] _).mono ?_
          rintro e w1 ⟨rfl, rfl⟩
          rw [hb2]
          go_wp2
          go_roundw
          case rel =>
            refine ⟨k + 1, by omega, by omega, by go_num, fun j h h1 h2 => ?_, hB⟩
            rcases Nat.lt_or_ge j k with h3 | h3
            · exact HG.out j h h1 h3
            · obtain rfl : j = k := by omega
              exact HC.out
          case measure => simp [intOf]; omega
        · have hb2 := bl_false hd
          have hR : bl (Rest s) = false := bl_false (fun h => by
            rcases h.2.2 k hlt hk1 with h | h
            · exact hl h
            · exact hd h)
          have HR := Lib.hid hR
          clear hl hd hk hR
          go_wp2_with fail
          refine (spec_lower s[k] _).mono ?_
          rintro e w1 ⟨rfl, rfl⟩
          rw [hb]
          go_wp2_with fail
          refine (spec_digit s[k] _).mono ?_
          rintro e w1 ⟨rfl, rfl⟩
          rw [hb2]
          go_wp2
          go_ret
          exact ⟨by rw [HR.out]; rfl, hB⟩
    · have hR : bl (Rest s) = bl (1 ≤ s.size ∧ s.size ≤ 8) := bl_congr ⟨fun h => ⟨h.1, h.2.1⟩, fun h => ⟨h.1, h.2, fun j hj h1 => HG.out j hj h1 (by omega)⟩⟩
      have HR := Lib.hid hR
      clear hR hk
      go_wp2_with fail
      refine (spec_in s.size 1 8 _).mono ?_
      rintro e w1 ⟨rfl, rfl⟩
      go_wp2
      go_ret
      exact ⟨by rw [HR.out]; rfl, hB⟩
end Go.Proofs.YtdifefgigcjgeaaGreatDoor
end
