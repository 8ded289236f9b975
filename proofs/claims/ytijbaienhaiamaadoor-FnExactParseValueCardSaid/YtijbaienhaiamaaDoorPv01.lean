/- What is proved here: a piece of the proof of YtijbaienhaiamaaDoorExactParseValue (Base, Reads, SigBase, Trees, Str, TreeText, Bl, Words, ConName, Lead, Num). Condition: none beyond what each part says. -/
import Derived.Test.YtijbaienhaiamaaDoorRows
import Derived.ProofKit
import Derived.Carry
import Derived.Test.YtijbaienhaiamaaDoorProg
import Derived.WalkKit
import Derived.Below
import Derived.Laws.AppendOwn
import Derived.Laws.OwnMore
import Derived.Laws.MakeOwn
import Derived.Deep.Draws
import Derived.Deep.QuietTactic
import Derived.BigQuiet
import Derived.WalkLawsBesides
import Derived.WalkSpells
import Derived.Outline
import Derived.Lib.Hide
import Derived.Lib.Walk
import Derived.OwnWalk
import Derived.Maps.AppendAt
import Derived.Lib.ItoaMem
import Derived.Lib.ItoaLen
import Derived.Lib.SlicesS
import Derived.Lib.ItoaNum

/- What is proved here: small closed facts of this program and of integers. No condition. -/
section
namespace Go.Proofs.YtijbaienhaiamaaDoor
open Go.ChangeShapes Go.WideShapes Go.ChangeAt Go.RowKit

theorem own : ownKnob Tryd.prog.godebug = none := by kernel_rfl
theorem laidOut : laidOutB Tryd.prog = true := by kernel_rfl
theorem wf_i64 {n : Int} (h : (Lit.int .i64 n).wf = true) : -9223372036854775808 ≤ n ∧ n ≤ 9223372036854775807 := by
  have e1 : IntKind.i64.min = -9223372036854775808 := by decide
  have e2 : IntKind.i64.max = 9223372036854775807 := by decide
  simp only [Lit.wf, Bool.and_eq_true, decide_eq_true_eq, e1, e2] at h
  exact h
theorem wf_u8 {n : Int} (h : (Lit.int .u8 n).wf = true) : 0 ≤ n ∧ n ≤ 255 := by
  have e1 : IntKind.u8.min = 0 := by decide
  have e2 : IntKind.u8.max = 255 := by decide
  simp only [Lit.wf, Bool.and_eq_true, decide_eq_true_eq, e1, e2] at h
  exact h
end Go.Proofs.YtijbaienhaiamaaDoor
end

/- What is proved here: lists of texts as they lie in memory. No condition. -/
section
namespace Go.Proofs.YtijbaienhaiamaaDoor
open Go.RowKit

theorem below_drewN {B : Nat} {a w : World} (h : Below B a w) (n : Nat) : Below B a (w.drewN n) := ⟨h.os, h.tape, h.output, h.size, h.block⟩

/-- The slice at a reads as the texts xs. -/
def Reads (w : World) (a : Option Addr) (xs : List ByteArray) : Prop := ∀ j (h : j < xs.length), ∃ y, a = some y ∧ w.cell? (y.add j) = some (.string xs[j])

def total (xs : List ByteArray) : Nat := (xs.map ByteArray.size).sum
theorem total_take (xs : List ByteArray) (k : Nat) (h : k < xs.length) : total (xs.take (k + 1)) = total (xs.take k) + xs[k].size := by
  unfold total
  rw [List.take_succ_eq_append_getElem h, List.map_append, List.sum_append]
  simp only [List.map_cons, List.map_nil, List.sum_cons, List.sum_nil, Nat.add_zero]
theorem total_take_le (xs : List ByteArray) (k : Nat) : total (xs.take k) ≤ total xs := by
  have e : total xs = total (xs.take k) + total (xs.drop k) := by
    unfold total
    rw [← List.sum_append, ← List.map_append, List.take_append_drop]
  omega


theorem reads_drewN {w : World} {a : Option Addr} {xs : List ByteArray} (h : Reads w a xs) (n : Nat) : Reads (w.drewN n) a xs := h

theorem addr_block (x : Addr) (i : Nat) : (x.add i).block = x.block := by unfold Addr.add; split <;> rfl
theorem reads_below {w w' : World} {a : Option Addr} {xs : List ByteArray} (h : Reads w a xs) (hb : Below w.heap.size w w') : Reads w' a xs := by
  intro j hj
  obtain ⟨y, rfl, hc⟩ := h j hj
  refine ⟨y, rfl, ?_⟩
  rw [← hc]
  have hlt : (y.add j).block < w.heap.size := by
    rcases Nat.lt_or_ge (y.add j).block w.heap.size with h | h
    · exact h
    · simp [World.cell?, Array.getElem?_eq_none h] at hc
  exact World.cell?_of_block (hb.block _ hlt)
theorem reads_new {w : World} {g : Nat} {T : TypeId} {xs : List ByteArray} (hb : w.heap[g]? = some (.cells (xs.map Value.string).toArray T (0, 0))) : Reads w (some ⟨g, 0, none⟩) xs := by
  intro j hj
  refine ⟨_, rfl, ?_⟩
  have e : (⟨g, 0, none⟩ : Addr).add j = ⟨g, j, none⟩ := by simp [Addr.add]; intro h; omega
  rw [e]
  simp [World.cell?, hb, hj]
theorem cells_set {w : World} {g : Nat} {T : TypeId} {l : List Value} (hb : w.heap[g]? = some (.cells l.toArray T (0, 0))) (k : Nat) (v : Value) : (w.setCell ⟨g, k, none⟩ v).heap[g]? = some (.cells (l.set k v).toArray T (0, 0)) := by
  simp [World.setCell, Array.getElem?_modify, hb]
theorem cells_cell {w : World} {g : Nat} {T : TypeId} {l : List Value} (hb : w.heap[g]? = some (.cells l.toArray T (0, 0))) (k : Nat) (hk : k < l.length) : w.cell? ⟨g, k, none⟩ = some l[k] := by
  simp [World.cell?, hb, hk]
theorem cells_free {w : World} {g : Nat} {T : TypeId} {l : List Value} (hb : w.heap[g]? = some (.cells l.toArray T (0, 0))) (k : Nat) : w.frozen? ⟨g, k, none⟩ = false := by
  simp [World.frozen?, hb]
theorem heap_at_new (w : World) (o : Obj) : (w.alloc o).heap[w.heap.size]? = some o := by
  show (w.heap.push o)[w.heap.size]? = _
  simp

end Go.Proofs.YtijbaienhaiamaaDoor
end

/- What is proved here: a signature (declared types, their constructors, the constructors' arguments) as it lies in memory, and its size. No condition. -/
section
namespace Go.Proofs.YtijbaienhaiamaaDoor
open Go.RowKit

structure ConD where
  name : ByteArray
  args : List ByteArray
structure TypeD where
  name : ByteArray
  cons : List ConD

/-- The row at a holds the elements of l, two cells each; R says what the cells of an element are. -/
def Row2 {α : Type} (R : World → α → Value → Value → Prop) (w : World) (a : Option Addr) (l : List α) : Prop := ∀ j (h : j < l.length), ∃ y u v, a = some y ∧ w.cell? (y.add (j * 2)) = some u ∧ w.cell? ⟨(y.add (j * 2)).block, (y.add (j * 2)).off + 1, none⟩ = some v ∧ R w l[j] u v
def ConAt (w : World) (c : ConD) (u v : Value) : Prop := ∃ a cap, u = .string c.name ∧ v = .slice a c.args.length cap ∧ Reads w a c.args
def TypeAt (w : World) (t : TypeD) (u v : Value) : Prop := ∃ a cap, u = .string t.name ∧ v = .slice a t.cons.length cap ∧ Row2 ConAt w a t.cons

theorem cell_below {w w' : World} {p : Addr} {v : Value} (h : w.cell? p = some v) (hb : Below w.heap.size w w') : w'.cell? p = some v := by
  rw [← h]
  have hlt : p.block < w.heap.size := by
    rcases Nat.lt_or_ge p.block w.heap.size with h1 | h1
    · exact h1
    · simp [World.cell?, Array.getElem?_eq_none h1] at h
  exact World.cell?_of_block (hb.block _ hlt)
theorem row2_below {α : Type} {R : World → α → Value → Value → Prop} (hR : ∀ w w' x u v, R w x u v → Below w.heap.size w w' → R w' x u v) {w w' : World} {a : Option Addr} {l : List α} (h : Row2 R w a l) (hb : Below w.heap.size w w') : Row2 R w' a l := by
  intro j hj
  obtain ⟨y, u, v, rfl, h1, h2, h3⟩ := h j hj
  exact ⟨y, u, v, rfl, cell_below h1 hb, cell_below h2 hb, hR _ _ _ _ _ h3 hb⟩
theorem con_below (w w' : World) (c : ConD) (u v : Value) (h : ConAt w c u v) (hb : Below w.heap.size w w') : ConAt w' c u v := by
  obtain ⟨a, cap, h1, h2, h3⟩ := h
  exact ⟨a, cap, h1, h2, reads_below h3 hb⟩
theorem type_below (w w' : World) (t : TypeD) (u v : Value) (h : TypeAt w t u v) (hb : Below w.heap.size w w') : TypeAt w' t u v := by
  obtain ⟨a, cap, h1, h2, h3⟩ := h
  exact ⟨a, cap, h1, h2, row2_below con_below h3 hb⟩

theorem below_of_drew {w w' : World} (h : Below w.drew.heap.size w.drew w') : Below w.heap.size w w' := ⟨h.os, h.tape, h.output, h.size, h.block⟩
theorem con_drew {w : World} {c : ConD} {u v : Value} (h : ConAt w c u v) : ConAt w.drew c u v := h
theorem type_drew {w : World} {t : TypeD} {u v : Value} (h : TypeAt w t u v) : TypeAt w.drew t u v := h

def sumBy {α : Type} (f : α → Nat) (l : List α) : Nat := (l.map f).sum
theorem sumBy_take {α : Type} (f : α → Nat) (l : List α) (k : Nat) (h : k < l.length) : sumBy f (l.take (k + 1)) = sumBy f (l.take k) + f l[k] := by
  unfold sumBy
  rw [List.take_succ_eq_append_getElem h, List.map_append, List.sum_append]
  simp
theorem sumBy_take_le {α : Type} (f : α → Nat) (l : List α) (k : Nat) : sumBy f (l.take k) ≤ sumBy f l := by
  have e : sumBy f l = sumBy f (l.take k) + sumBy f (l.drop k) := by
    unfold sumBy
    rw [← List.sum_append, ← List.map_append, List.take_append_drop]
  omega

def ConD.size (c : ConD) : Nat := c.name.size + (c.args.length + total c.args)
def TypeD.size (t : TypeD) : Nat := t.name.size + (t.cons.length + sumBy ConD.size t.cons)
def sigSize (s : List TypeD) : Nat := s.length + sumBy TypeD.size s

/-- What a bound of L places leaves behind n of them: -1 where they do not fit. -/
def left (L n : Nat) : Int := if n ≤ L then ((L - n : Nat) : Int) else -1
theorem left_yes {L n : Nat} (h : n ≤ L) : left L n = ((L - n : Nat) : Int) := if_pos h
theorem left_no {L n : Nat} (h : ¬ n ≤ L) : left L n = -1 := if_neg h

/-- Every length is one that a machine's slice or string can have. -/
def ConD.fits (c : ConD) : Prop := c.name.size ≤ maxLen ∧ c.args.length ≤ maxLen ∧ ∀ x ∈ c.args, x.size ≤ maxLen
def TypeD.fits (t : TypeD) : Prop := t.name.size ≤ maxLen ∧ t.cons.length ≤ maxLen ∧ ∀ c ∈ t.cons, c.fits
def sigFits (s : List TypeD) : Prop := s.length ≤ maxLen ∧ ∀ t ∈ s, t.fits
end Go.Proofs.YtijbaienhaiamaaDoor
end

/- What is proved here: rows of nodes (a kind, a number, a text, and a row of nodes below) as they lie in memory: values, and whatever has their form. No condition. -/
section
namespace Go.Proofs.YtijbaienhaiamaaDoor
open Go.RowKit

/-- A row of nodes. -/
inductive Trees where
  | nil : Trees
  | cons (kind num : Int) (text : ByteArray) (args rest : Trees) : Trees
namespace Trees
def length : Trees → Nat
  | .nil => 0
  | .cons _ _ _ _ r => r.length + 1
def append : Trees → Trees → Trees
  | .nil, b => b
  | .cons k n t ar r, b => .cons k n t ar (r.append b)
/-- One more at the end. -/
def snoc (a : Trees) (k n : Int) (t : ByteArray) (ar : Trees) : Trees := a.append (.cons k n t ar .nil)
theorem append_length (a b : Trees) : (a.append b).length = a.length + b.length := by
  induction a with
  | nil => simp [append, length]
  | cons k n t ar r _ ih => simp [append, length, ih]; omega
theorem append_nil (a : Trees) : a.append .nil = a := by
  induction a with
  | nil => rfl
  | cons k n t ar r _ ih => simp [append, ih]
theorem append_assoc (a b c : Trees) : (a.append b).append c = a.append (b.append c) := by
  induction a with
  | nil => rfl
  | cons k n t ar r _ ih => simp [append, ih]
theorem snoc_append (a b : Trees) (k n : Int) (t : ByteArray) (ar : Trees) : (a.snoc k n t ar).append b = a.append (.cons k n t ar b) := by
  unfold snoc
  rw [append_assoc]
  rfl
theorem snoc_length (a : Trees) (k n : Int) (t : ByteArray) (ar : Trees) : (a.snoc k n t ar).length = a.length + 1 := by
  unfold snoc
  rw [append_length]
  rfl
/-- Of the rows below the nodes of a row. -/
def All (P : Trees → Prop) : Trees → Prop
  | .nil => True
  | .cons _ _ _ ar r => P ar ∧ r.All P
theorem ind {P : Trees → Prop} (h : ∀ F : Trees, F.All P → P F) : ∀ F, P F := fun F => by
  have h2 : F.All P := by
    induction F with
    | nil => trivial
    | cons k n t ar r ih1 ih2 => exact ⟨h ar ih1, ih2⟩
  exact h F h2
/-- Every number and every length is one that a machine has. -/
def fits : Trees → Prop
  | .nil => True
  | .cons k n t ar r => (-9223372036854775808 ≤ k ∧ k ≤ 9223372036854775807) ∧ (-9223372036854775808 ≤ n ∧ n ≤ 9223372036854775807) ∧ t.size ≤ maxLen ∧ ar.length ≤ maxLen ∧ ar.fits ∧ r.fits
/-- The places that it takes: a node one, and the bytes of its text. -/
def size : Trees → Nat
  | .nil => 0
  | .cons _ _ t ar r => t.size + 1 + ar.size + r.size
/-- The nodes. -/
def count : Trees → Nat
  | .nil => 0
  | .cons _ _ _ ar r => 1 + ar.count + r.count
/-- The most nodes one below the other. -/
def deep : Trees → Nat
  | .nil => 0
  | .cons _ _ _ ar r => max (ar.deep + 1) r.deep
theorem length_le_size (F : Trees) : F.length ≤ F.size := by
  induction F with
  | nil => simp [length, size]
  | cons k n t ar r _ ih => simp [length, size]; omega
theorem length_le_count (F : Trees) : F.length ≤ F.count := by
  induction F with
  | nil => simp [length, count]
  | cons k n t ar r _ ih => simp [length, count]; omega
theorem count_le_size (F : Trees) : F.count ≤ F.size := by
  induction F with
  | nil => simp [count, size]
  | cons k n t ar r ih1 ih => simp [count, size]; omega
theorem deep_le_count (F : Trees) : F.deep ≤ F.count := by
  induction F with
  | nil => simp [deep, count]
  | cons k n t ar r ih1 ih => simp [deep, count]; omega
end Trees

/-- The fields behind the first of a node. -/
abbrev fieldAt (y : Addr) (i j : Nat) : Addr := { block := (y.add (i * 4)).block, off := (y.add (i * 4)).off + j }
/-- The row at a, from its i-th node on, reads as said. -/
def TreesAt (w : World) : Trees → Option Addr → Nat → Prop
  | .nil, _, _ => True
  | .cons k n t ar r, a, i => (∃ y p cap, a = some y ∧ w.cell? (y.add (i * 4)) = some (.int .i64 k) ∧ w.cell? (fieldAt y i 1) = some (.int .i64 n) ∧ w.cell? (fieldAt y i 2) = some (.string t) ∧ w.cell? (fieldAt y i 3) = some (.slice p ar.length cap) ∧ ar.length ≤ cap ∧ TreesAt w ar p 0) ∧ TreesAt w r a (i + 1)
theorem TreesAt.keep {w w' : World} (hc : ∀ p v, w.cell? p = some v → w'.cell? p = some v) : ∀ (F : Trees) (a : Option Addr) (i : Nat), TreesAt w F a i → TreesAt w' F a i := by
  intro F
  induction F with
  | nil => intro _ _ _; trivial
  | cons k n t ar r ih1 ih2 =>
    rintro a i ⟨⟨y, p, cap, h1, h2, h3, h4, h5, hl, h6⟩, h7⟩
    exact ⟨⟨y, p, cap, h1, hc _ _ h2, hc _ _ h3, hc _ _ h4, hc _ _ h5, hl, ih1 _ _ h6⟩, ih2 _ _ h7⟩
theorem TreesAt.below {w w' : World} {F : Trees} {a : Option Addr} {i : Nat} (h : TreesAt w F a i) (hb : Below w.heap.size w w') : TreesAt w' F a i :=
  TreesAt.keep (fun _ _ hc => cell_below hc hb) F a i h
theorem TreesAt.drew {w : World} {F : Trees} {a : Option Addr} {i : Nat} (h : TreesAt w F a i) : TreesAt w.drew F a i :=
  TreesAt.keep (w := w) (w' := w.drew) (fun _ _ hc => hc) F a i h
/-- The same row behind a world whose blocks below B lie as they lay, where the row's blocks are below B. -/
theorem TreesAt.low {w w' : World} {F : Trees} {a : Option Addr} {i B : Nat} (hB : B = w.heap.size) (h : TreesAt w F a i) (hk : ∀ b, b < B → w'.heap[b]? = w.heap[b]?) : TreesAt w' F a i := by
  subst hB
  refine TreesAt.keep (fun p v hc => ?_) F a i h
  rw [← hc]
  have hlt : p.block < w.heap.size := by
    rcases Nat.lt_or_ge p.block w.heap.size with h1 | h1
    · exact h1
    · simp [World.cell?, Array.getElem?_eq_none h1] at hc
  exact World.cell?_of_block (hk _ hlt)
/-- What is read of the i-th node. -/
theorem TreesAt.open {w : World} {k n : Int} {t : ByteArray} {ar r : Trees} {a : Option Addr} {i : Nat} (h : TreesAt w (.cons k n t ar r) a i) :
    ∃ y p cap, a = some y ∧ w.cell? (y.add (i * 4)) = some (.int .i64 k) ∧ w.cell? (fieldAt y i 1) = some (.int .i64 n) ∧ w.cell? (fieldAt y i 2) = some (.string t) ∧ w.cell? (fieldAt y i 3) = some (.slice p ar.length cap) ∧ TreesAt w ar p 0 ∧ TreesAt w r a (i + 1) := by
  obtain ⟨⟨y, p, cap, h1, h2, h3, h4, h5, _, h6⟩, h7⟩ := h
  exact ⟨y, p, cap, h1, h2, h3, h4, h5, h6, h7⟩
/-- Without the nodes of the row itself. -/
def Trees.inner : Trees → Nat
  | .nil => 0
  | .cons _ _ t ar r => t.size + ar.size + r.inner
theorem Trees.size_eq (F : Trees) : F.size = F.length + F.inner := by
  induction F with
  | nil => rfl
  | cons k n t ar r _ ih => simp [Trees.size, Trees.length, Trees.inner, ih]; omega

theorem Trees.append_count (A B : Trees) : (A.append B).count = A.count + B.count := by
  induction A with
  | nil => simp [Trees.append, Trees.count]
  | cons k n t ar r _ ih => simp [Trees.append, Trees.count, ih]; omega
end Go.Proofs.YtijbaienhaiamaaDoor
end

/- What is proved here: texts as lists of bytes. No condition. -/
section
namespace Go.Proofs.YtijbaienhaiamaaDoor
open Go.RowKit

/-- A text of these bytes. -/
def str (l : List UInt8) : ByteArray := ⟨l.toArray⟩
theorem str_size (l : List UInt8) : (str l).size = l.length := by show l.toArray.size = _; simp
theorem str_data (t : ByteArray) : str t.data.toList = t := by
  cases t
  simp [str]
theorem str_append (a b : List UInt8) : str a ++ str b = str (a ++ b) := by
  apply ByteArray.ext
  show (str a ++ str b).data = _
  rw [ByteArray.data_append]
  simp [str]
theorem str_inj {a b : List UInt8} (h : str a = str b) : a = b := by
  have : (str a).data.toList = (str b).data.toList := by rw [h]
  simpa [str] using this

theorem itoa_len (n : Int) (h0 : -9223372036854775808 ≤ n) (h1 : n ≤ 9223372036854775807) : (Lib.itoa n).length ≤ 21 := Lib.itoa_length_le n h0 h1
end Go.Proofs.YtijbaienhaiamaaDoor
end

/- What is proved here: the representation of a value as bytes, and what a walk with a stack has still to write of it. No condition. -/
section
namespace Go.Proofs.YtijbaienhaiamaaDoor
open Go.RowKit

/-- A node without what is below it. -/
def headText (k n : Int) (t : ByteArray) : List UInt8 :=
  if k = 1 then Lib.itoa n else if k = 2 then 34 :: (t.data.toList ++ [34]) else if k = 3 then t.data.toList else [63]
def Trees.close : Trees → List UInt8
  | .nil => []
  | .cons _ _ _ _ _ => [41]
/-- The nodes of a row, each behind a separator; the first one behind a parenthesis (b). -/
def Trees.tail : Trees → Bool → List UInt8
  | .nil, _ => []
  | .cons k n t ar r, b => (if b then [40] else [44, 32]) ++ (headText k n t ++ (if k = 3 then ar.tail true ++ ar.close else [])) ++ r.tail false
/-- The representation of a node. -/
def nodeText (k n : Int) (t : ByteArray) (ar : Trees) : List UInt8 := headText k n t ++ (if k = 3 then ar.tail true ++ ar.close else [])
theorem tail_cons (k n : Int) (t : ByteArray) (ar r : Trees) (b : Bool) : (Trees.cons k n t ar r).tail b = (if b then [40] else [44, 32]) ++ nodeText k n t ar ++ r.tail false := rfl
/-- The row without the first separator. -/
def Trees.first : Trees → List UInt8
  | .nil => []
  | .cons k n t ar r => nodeText k n t ar ++ r.tail false
theorem tail_first (F : Trees) (b : Bool) (h : F ≠ .nil) : F.tail b = (if b then [40] else [44, 32]) ++ F.first := by
  cases F with
  | nil => exact absurd rfl h
  | cons k n t ar r => rw [tail_cons, List.append_assoc]; rfl
/-- What is to be written behind the rest of a row, where the rows st (the last first) are open. -/
def after : List Trees → List UInt8
  | [] => []
  | G :: st => [41] ++ G.tail false ++ after st
/-- What a stack has still to write, where its last row has still to begin. -/
def fin : List Trees → List UInt8
  | [] => []
  | F :: st => F.first ++ after st
/-- The marks between a node and the next one of the stack; the stack that is left. -/
def marks2 : List Trees → List UInt8 × List Trees
  | [] => ([], [])
  | .cons k n t ar r :: st => ([44, 32], .cons k n t ar r :: st)
  | .nil :: st => (if st = [] then marks2 st else (41 :: (marks2 st).1, (marks2 st).2))
theorem marks2_fin (st : List Trees) : ∀ F : Trees, F.tail false ++ after st = (marks2 (F :: st)).1 ++ fin (marks2 (F :: st)).2 := by
  induction st with
  | nil =>
    intro F
    cases F with
    | nil => rfl
    | cons k n t ar r => simp [marks2, fin, after, tail_first _ false (by simp : Trees.cons k n t ar r ≠ .nil)]
  | cons G st ih =>
    intro F
    cases F with
    | nil =>
      have h := ih G
      simp only [Trees.tail, marks2, after, List.nil_append]
      rw [if_neg (by simp)]
      simp only [List.cons_append, List.nil_append]
      rw [h]
    | cons k n t ar r => simp [marks2, fin, tail_first _ false (by simp : Trees.cons k n t ar r ≠ .nil)]
/-- A node without a row below: its text, then the marks. -/
theorem fin_leaf (k n : Int) (t : ByteArray) (ar r : Trees) (st : List Trees) (h : k ≠ 3 ∨ ar = .nil) : fin (.cons k n t ar r :: st) = headText k n t ++ (marks2 (r :: st)).1 ++ fin (marks2 (r :: st)).2 := by
  have e : nodeText k n t ar = headText k n t := by
    unfold nodeText
    rcases h with h | rfl
    · rw [if_neg h, List.append_nil]
    · split <;> simp [Trees.tail, Trees.close]
  rw [List.append_assoc, ← marks2_fin]
  simp only [fin, Trees.first, e, List.append_assoc]
/-- A constructor with a row below. -/
theorem fin_node (n : Int) (t : ByteArray) (ar r : Trees) (st : List Trees) (h : ar ≠ .nil) : fin (.cons 3 n t ar r :: st) = headText 3 n t ++ [40] ++ fin (ar :: r :: st) := by
  have e : ar.close = [41] := by
    cases ar with
    | nil => exact absurd rfl h
    | cons _ _ _ _ _ => rfl
  simp only [fin, Trees.first, nodeText, if_true, after, tail_first ar true h, e, List.append_assoc]
theorem fin_one (k n : Int) (t : ByteArray) (ar : Trees) : fin [.cons k n t ar .nil] = nodeText k n t ar := by
  simp [fin, Trees.first, after, Trees.tail]
/-- The stack that the marks leave: what had begun is nowhere empty on top. -/
theorem marks2_top (st : List Trees) : (marks2 st).2 = [] ∨ ∃ k n t ar r st2, (marks2 st).2 = .cons k n t ar r :: st2 := by
  induction st with
  | nil => exact .inl rfl
  | cons F st ih =>
    cases F with
    | cons k n t ar r => exact .inr ⟨k, n, t, ar, r, st, rfl⟩
    | nil =>
      simp only [marks2]
      split
      · exact ih
      · exact ih

/-! Lengths. -/
theorem headText_len (k n : Int) (t : ByteArray) (hn : -9223372036854775808 ≤ n ∧ n ≤ 9223372036854775807) : (headText k n t).length ≤ 21 + t.size := by
  have h := itoa_len n hn.1 hn.2
  have e : t.data.toList.length = t.size := rfl
  unfold headText
  split
  · omega
  · split
    · simp only [List.length_cons, List.length_append, e]; simp; omega
    · split
      · omega
      · simp; omega
theorem tail_len (F : Trees) (hf : F.fits) : ∀ b, (F.tail b).length ≤ 24 * F.size := by
  induction F with
  | nil => intro b; simp [Trees.tail]
  | cons k n t ar r ih1 ih2 =>
    intro b
    obtain ⟨_, hn, _, _, h4, h5⟩ := hf
    have h := headText_len k n t hn
    have hc : ar.close.length ≤ 1 := by cases ar <;> simp [Trees.close]
    have a1 := ih1 h4 true
    have a2 := ih2 h5 false
    have e : ((if k = 3 then ar.tail true ++ ar.close else []) : List UInt8).length ≤ 24 * ar.size + 1 := by
      split
      · rw [List.length_append]; omega
      · simp
    have e2 : ((if b then [40] else [44, 32]) : List UInt8).length ≤ 2 := by cases b <;> simp
    simp only [Trees.tail, List.length_append, Trees.size]
    omega
theorem nodeText_len (k n : Int) (t : ByteArray) (ar : Trees) (hn : -9223372036854775808 ≤ n ∧ n ≤ 9223372036854775807) (hf : ar.fits) : (nodeText k n t ar).length ≤ 24 * (t.size + ar.size) + 22 := by
  have h := headText_len k n t hn
  have a1 := tail_len ar hf true
  have hc : ar.close.length ≤ 1 := by cases ar <;> simp [Trees.close]
  unfold nodeText
  rw [List.length_append]
  split
  · rw [List.length_append]; omega
  · simp; omega
end Go.Proofs.YtijbaienhaiamaaDoor
end

/- What is proved here: the Bool of a proposition. No condition. -/
section
namespace Go.Proofs.YtijbaienhaiamaaDoor
open Go.RowKit

noncomputable def bl (p : Prop) : Bool := @decide p (Classical.propDecidable p)
theorem bl_true {p : Prop} (h : p) : bl p = true := by unfold bl; exact @decide_eq_true _ (Classical.propDecidable p) h
theorem bl_false {p : Prop} (h : ¬ p) : bl p = false := by unfold bl; exact @decide_eq_false _ (Classical.propDecidable p) h
theorem bl_iff {p : Prop} : bl p = true ↔ p := by unfold bl; exact @decide_eq_true_iff _ (Classical.propDecidable p)
theorem bl_not_iff {p : Prop} : bl p = false ↔ ¬ p := by unfold bl; exact @decide_eq_false_iff_not _ (Classical.propDecidable p)
theorem bl_congr {p q : Prop} (h : p ↔ q) : bl p = bl q := by rw [propext h]

end Go.Proofs.YtijbaienhaiamaaDoor
end

/- What is proved here: the program's tests on words (impl: isLowerOrDigit, isWord) and the model's (spec: l2Lower, l2Digit, l2Rest, l1In) say what a word is. Condition: the text's length is a length. -/
section
namespace Go.Proofs.YtijbaienhaiamaaDoor
open Go.RowKit

/-- A lower-case letter or a digit. -/
def Good (c : UInt8) : Prop := (97 ≤ c.toNat ∧ c.toNat ≤ 122) ∨ (48 ≤ c.toNat ∧ c.toNat ≤ 57)
/-- 1 to 8 bytes, the first from lo to hi, the others lower-case letters or digits. -/
def Word (lo hi : Nat) (s : ByteArray) : Prop := 1 ≤ s.size ∧ s.size ≤ 8 ∧ (∀ h : 0 < s.size, lo ≤ s[0].toNat ∧ s[0].toNat ≤ hi) ∧ ∀ j (h : j < s.size), 1 ≤ j → Good s[j]
theorem impl_good (c : UInt8) (w : World) :
    Calls Tryd.prog 60 #[.int .u8 (c.toNat : Int)] w fun e w' => e = .returned (.bool (bl (Good c))) ∧ w = w' := by
  have h0 : 0 ≤ c.toNat := Nat.zero_le _
  have h255 : c.toNat < 256 := c.toNat_lt
  have HG : Hid (bl (Good c) = (decide (97 ≤ (c.toNat : Int)) && decide ((c.toNat : Int) ≤ 122) || decide (48 ≤ (c.toNat : Int)) && decide ((c.toNat : Int) ≤ 57))) := by
    unfold Hid
    by_cases h : Good c
    · rw [bl_true h]
      symm
      unfold Good at h
      simp
      omega
    · rw [bl_false h]
      symm
      unfold Good at h
      simp
      omega
  generalize c.toNat = n at *
  generalize bl (Good c) = b at *
  by_cases h1 : 97 ≤ n
  · have e1 : decide (97 ≤ (n : Int)) = true := by simp; omega
    by_cases h2 : n ≤ 122
    · have e2 : decide ((n : Int) ≤ 122) = true := by simp; omega
      have HB : Hid (b = true) := by unfold Hid; rw [HG.out, e1, e2]; rfl
      go_enter Tryd.func60, Tryd.ntmps60
      go_wp2
      go_ret
      exact ⟨by rw [HB.out]; rfl, rfl⟩
    · have e2 : decide ((n : Int) ≤ 122) = false := by simp; omega
      have e3 : decide (48 ≤ (n : Int)) = true := by simp; omega
      have e4 : decide ((n : Int) ≤ 57) = false := by simp; omega
      have HB : Hid (b = false) := by unfold Hid; rw [HG.out, e1, e2, e3, e4]; rfl
      go_enter Tryd.func60, Tryd.ntmps60
      go_wp2
      go_ret
      exact ⟨by rw [HB.out]; simp, rfl⟩
  · have e1 : decide (97 ≤ (n : Int)) = false := by simp; omega
    by_cases h3 : 48 ≤ n
    · have e3 : decide (48 ≤ (n : Int)) = true := by simp; omega
      have HB : Hid (b = decide ((n : Int) ≤ 57)) := by unfold Hid; rw [HG.out, e1, e3]; simp
      go_enter Tryd.func60, Tryd.ntmps60
      go_wp2
      go_ret
      exact ⟨by rw [HB.out]; rfl, rfl⟩
    · have e3 : decide (48 ≤ (n : Int)) = false := by simp; omega
      have HB : Hid (b = false) := by unfold Hid; rw [HG.out, e1, e3]; simp
      go_enter Tryd.func60, Tryd.ntmps60
      go_wp2
      go_ret
      exact ⟨by rw [HB.out]; rfl, rfl⟩

set_option maxHeartbeats 1000000 in
set_option maxRecDepth 100000 in
theorem impl_word (s : ByteArray) (lo hi : Nat) (hs : s.size ≤ maxLen) (w : World) :
    Calls Tryd.prog 47 #[.string s, .int .u8 (lo : Int), .int .u8 (hi : Int)] w fun e w' => e = .returned (.bool (bl (Word lo hi s))) ∧ Below w.heap.size w w' := by
  unfold maxLen at hs
  by_cases h0 : s.size < 1
  · rw [bl_false (fun h => by have := h.1; omega)]
    go_enter Tryd.func47, Tryd.ntmps47
    go_wp2
    go_ret
    exact ⟨rfl, Below.refl _ _⟩
  · have hp : 0 < s.size := by omega
    by_cases h8 : 8 < s.size
    · rw [bl_false (fun h => by have := h.2.1; omega)]
      go_enter Tryd.func47, Tryd.ntmps47
      go_wp2
      go_ret
      exact ⟨rfl, Below.refl _ _⟩
    · by_cases hl : s[0].toNat < lo
      · rw [bl_false (fun h => by have := (h.2.2.1 hp).1; omega)]
        go_enter Tryd.func47, Tryd.ntmps47
        go_wp2
        go_ret
        exact ⟨rfl, Below.refl _ _⟩
      · by_cases hh : hi < s[0].toNat
        · rw [bl_false (fun h => by have := (h.2.2.1 hp).2; omega)]
          go_enter Tryd.func47, Tryd.ntmps47
          go_wp2
          go_ret
          exact ⟨rfl, Below.refl _ _⟩
        · go_enter Tryd.func47, Tryd.ntmps47
          go_wp2
          go_loopw [7] (fun i wr => ∃ k : Nat, 1 ≤ k ∧ k ≤ s.size ∧ i = .int .i64 k ∧ (∀ j (h : j < s.size), 1 ≤ j → j < k → Good s[j]) ∧ Below w.heap.size w wr) (fun i _ => s.size - (intOf i).toNat)
          case atStart => exact ⟨1, Nat.le_refl _, by omega, rfl, fun j h h1 h2 => by omega, Below.refl _ _⟩
          case round =>
            obtain ⟨k, hk1, hk, rfl, hg, hB⟩ := hrel
            have HG := Lib.hid hg
            clear hg
            by_cases hlt : k < s.size
            · by_cases hgood : Good s[k]
              · have hb := bl_true hgood
                have HC := Lib.hid hgood
                clear hgood
                go_wp2_with fail
                refine (impl_good s[k] _).mono ?_
                rintro e w1 ⟨rfl, rfl⟩
                rw [hb]
                go_wp2
                go_roundw
                case rel =>
                  refine ⟨k + 1, by omega, by omega, by go_num, fun j h h1 h2 => ?_, hB⟩
                  rcases Nat.lt_or_ge j k with h3 | h3
                  · exact HG.out j h h1 h3
                  · obtain rfl : j = k := by omega
                    exact HC.out
                case measure => simp [intOf]; omega
              · have hb := bl_false hgood
                have hR : bl (Word lo hi s) = false := bl_false (fun h => hgood (h.2.2.2 k hlt hk1))
                have HR := Lib.hid hR
                clear hgood hR
                go_wp2_with fail
                refine (impl_good s[k] _).mono ?_
                rintro e w1 ⟨rfl, rfl⟩
                rw [hb]
                go_wp2
                go_ret
                exact ⟨by rw [HR.out]; rfl, hB⟩
            · have hR : bl (Word lo hi s) = true := bl_true ⟨by omega, by omega, fun _ => ⟨by omega, by omega⟩, fun j h h1 => HG.out j h h1 (by omega)⟩
              have HR := Lib.hid hR
              clear hR
              go_wp2
              go_ret
              exact ⟨by rw [HR.out]; rfl, hB⟩

theorem spec_lower (c : UInt8) (w : World) :
    Calls Tryd.prog 37 #[.int .u8 (c.toNat : Int)] w fun e w' => e = .returned (.bool (bl (97 ≤ c.toNat ∧ c.toNat ≤ 122))) ∧ w = w' := by
  have h255 : c.toNat < 256 := c.toNat_lt
  generalize c.toNat = n at *
  by_cases h1 : 97 ≤ n
  · have e1 : decide (97 ≤ (n : Int)) = true := by simp; omega
    have HB : Hid (bl (97 ≤ n ∧ n ≤ 122) = decide ((n : Int) ≤ 122)) := by
      by_cases h2 : n ≤ 122
      · exact (bl_true ⟨h1, h2⟩).trans (by symm; simp; omega)
      · exact (bl_false (fun h => h2 h.2)).trans (by symm; simp; omega)
    go_enter Tryd.func37, Tryd.ntmps37
    go_wp2
    go_ret
    exact ⟨by rw [HB.out]; rfl, rfl⟩
  · have e1 : decide (97 ≤ (n : Int)) = false := by simp; omega
    have HB : Hid (bl (97 ≤ n ∧ n ≤ 122) = false) := bl_false (fun h => h1 h.1)
    go_enter Tryd.func37, Tryd.ntmps37
    go_wp2
    go_ret
    exact ⟨by rw [HB.out]; rfl, rfl⟩

theorem spec_digit (c : UInt8) (w : World) :
    Calls Tryd.prog 38 #[.int .u8 (c.toNat : Int)] w fun e w' => e = .returned (.bool (bl (48 ≤ c.toNat ∧ c.toNat ≤ 57))) ∧ w = w' := by
  have h255 : c.toNat < 256 := c.toNat_lt
  generalize c.toNat = n at *
  by_cases h1 : 48 ≤ n
  · have e1 : decide (48 ≤ (n : Int)) = true := by simp; omega
    have HB : Hid (bl (48 ≤ n ∧ n ≤ 57) = decide ((n : Int) ≤ 57)) := by
      by_cases h2 : n ≤ 57
      · exact (bl_true ⟨h1, h2⟩).trans (by symm; simp; omega)
      · exact (bl_false (fun h => h2 h.2)).trans (by symm; simp; omega)
    go_enter Tryd.func38, Tryd.ntmps38
    go_wp2
    go_ret
    exact ⟨by rw [HB.out]; rfl, rfl⟩
  · have e1 : decide (48 ≤ (n : Int)) = false := by simp; omega
    have HB : Hid (bl (48 ≤ n ∧ n ≤ 57) = false) := bl_false (fun h => h1 h.1)
    go_enter Tryd.func38, Tryd.ntmps38
    go_wp2
    go_ret
    exact ⟨by rw [HB.out]; rfl, rfl⟩

theorem spec_in (n lo hi : Nat) (w : World) :
    Calls Tryd.prog 51 #[.int .i64 (n : Int), .int .i64 (lo : Int), .int .i64 (hi : Int)] w fun e w' => e = .returned (.bool (bl (lo ≤ n ∧ n ≤ hi))) ∧ w = w' := by
  by_cases h1 : lo ≤ n
  · have e1 : decide ((lo : Int) ≤ (n : Int)) = true := by simp; omega
    have HB : Hid (bl (lo ≤ n ∧ n ≤ hi) = decide (n ≤ hi)) := by
      by_cases h2 : n ≤ hi
      · exact (bl_true ⟨h1, h2⟩).trans (by symm; simp; omega)
      · exact (bl_false (fun h => h2 h.2)).trans (by symm; simp; omega)
    go_enter Tryd.func51, Tryd.ntmps51
    go_wp2
    go_ret
    exact ⟨by rw [HB.out]; rfl, rfl⟩
  · have e1 : decide ((lo : Int) ≤ (n : Int)) = false := by simp; omega
    have HB : Hid (bl (lo ≤ n ∧ n ≤ hi) = false) := bl_false (fun h => h1 h.1)
    go_enter Tryd.func51, Tryd.ntmps51
    go_wp2
    go_ret
    exact ⟨by rw [HB.out]; rfl, rfl⟩

/-- What l2Rest asks. -/
def Rest (s : ByteArray) : Prop := 1 ≤ s.size ∧ s.size ≤ 8 ∧ ∀ j (h : j < s.size), 1 ≤ j → Good s[j]

set_option maxHeartbeats 1000000 in
set_option maxRecDepth 100000 in
theorem spec_rest (s : ByteArray) (hs : s.size ≤ maxLen) (w : World) :
    Calls Tryd.prog 40 #[.string s] w fun e w' => e = .returned (.bool (bl (Rest s))) ∧ Below w.heap.size w w' := by
  unfold maxLen at hs
  go_enter Tryd.func40, Tryd.ntmps40
  go_wp2
  go_loopw [3] (fun i wr => ∃ k : Nat, 1 ≤ k ∧ (k ≤ s.size ∨ k = 1) ∧ i = .int .i64 k ∧ (∀ j (h : j < s.size), 1 ≤ j → j < k → Good s[j]) ∧ Below w.heap.size w wr) (fun i _ => s.size - (intOf i).toNat)
  case atStart => exact ⟨1, Nat.le_refl _, .inr rfl, rfl, fun j h h1 h2 => by omega, Below.refl _ _⟩
  case round =>
    obtain ⟨k, hk1, hk, rfl, hg, hB⟩ := hrel
    have HG := Lib.hid hg
    clear hg
    by_cases hlt : k < s.size
    · by_cases hl : 97 ≤ s[k].toNat ∧ s[k].toNat ≤ 122
      · have hb := bl_true hl
        have HC : Hid (Good s[k]) := .inl hl
        clear hl hk
        go_wp2_with fail
        refine (spec_lower s[k] _).mono ?_
        rintro e w1 ⟨rfl, rfl⟩
        rw [hb]
        go_wp2
        go_roundw
        case rel =>
          refine ⟨k + 1, by omega, by omega, by go_num, fun j h h1 h2 => ?_, hB⟩
          rcases Nat.lt_or_ge j k with h3 | h3
          · exact HG.out j h h1 h3
          · obtain rfl : j = k := by omega
            exact HC.out
        case measure => simp [intOf]; omega
      · have hb := bl_false hl
        by_cases hd : 48 ≤ s[k].toNat ∧ s[k].toNat ≤ 57
        · have hb2 := bl_true hd
          have HC : Hid (Good s[k]) := .inr hd
          clear hl hd hk
          go_wp2_with fail
          refine (spec_lower s[k] _).mono ?_
          rintro e w1 ⟨rfl, rfl⟩
          rw [hb]
          go_wp2_with fail
          refine (spec_digit s[k] _).mono ?_
          rintro e w1 ⟨rfl, rfl⟩
          rw [hb2]
          go_wp2
          go_roundw
          case rel =>
            refine ⟨k + 1, by omega, by omega, by go_num, fun j h h1 h2 => ?_, hB⟩
            rcases Nat.lt_or_ge j k with h3 | h3
            · exact HG.out j h h1 h3
            · obtain rfl : j = k := by omega
              exact HC.out
          case measure => simp [intOf]; omega
        · have hb2 := bl_false hd
          have hR : bl (Rest s) = false := bl_false (fun h => by
            rcases h.2.2 k hlt hk1 with h | h
            · exact hl h
            · exact hd h)
          have HR := Lib.hid hR
          clear hl hd hk hR
          go_wp2_with fail
          refine (spec_lower s[k] _).mono ?_
          rintro e w1 ⟨rfl, rfl⟩
          rw [hb]
          go_wp2_with fail
          refine (spec_digit s[k] _).mono ?_
          rintro e w1 ⟨rfl, rfl⟩
          rw [hb2]
          go_wp2
          go_ret
          exact ⟨by rw [HR.out]; rfl, hB⟩
    · have hR : bl (Rest s) = bl (1 ≤ s.size ∧ s.size ≤ 8) := bl_congr ⟨fun h => ⟨h.1, h.2.1⟩, fun h => ⟨h.1, h.2, fun j hj h1 => HG.out j hj h1 (by omega)⟩⟩
      have HR := Lib.hid hR
      clear hR hk
      go_wp2_with fail
      refine (spec_in s.size 1 8 _).mono ?_
      rintro e w1 ⟨rfl, rfl⟩
      go_wp2
      go_ret
      exact ⟨by rw [HR.out]; rfl, hB⟩
end Go.Proofs.YtijbaienhaiamaaDoor
end

/- What is proved here: IsConName, of the program and of the model, says what a constructor's name is. Condition: the text's length is a length. -/
section
namespace Go.Proofs.YtijbaienhaiamaaDoor
open Go.RowKit

set_option maxRecDepth 100000 in
theorem impl_con (s : ByteArray) (hs : s.size ≤ maxLen) (w : World) :
    Calls Tryd.prog 31 #[.string s] w fun e w' => e = .returned (.bool (bl (Word 65 90 s))) ∧ Below w.heap.size w w' := by
  go_enter Tryd.func31, Tryd.ntmps31
  go_wp2_with fail
  refine (impl_word s 65 90 hs _).mono ?_
  rintro e w1 ⟨rfl, hb⟩
  go_wp2
  go_ret
  exact ⟨rfl, hb⟩

theorem empty_of (s : ByteArray) (h : s.size = 0) : s = ⟨#[]⟩ := by
  cases s with | mk d => cases d with | mk l => cases l with | nil => rfl | cons c r => simp [ByteArray.size] at h
theorem ne_empty (s : ByteArray) (h : 0 < s.size) : (s.toList == []) = false := by
  rw [ByteArray.toList_eq]
  have : s.data.toList.length = s.size := rfl
  cases hl : s.data.toList with
  | nil => rw [hl] at this; simp at this; omega
  | cons c r => rfl
theorem bl_empty (s : ByteArray) (h : 0 < s.size) : (s.toList == ByteArray.toList ⟨#[]⟩) = false := by
  rw [Lib.bytes_beq_false_iff]
  intro e
  rw [e] at h
  exact absurd h (by decide)

set_option maxHeartbeats 1000000 in
set_option maxRecDepth 100000 in
theorem spec_con (s : ByteArray) (hs : s.size ≤ maxLen) (w : World) :
    Calls Tryd.prog 21 #[.string s] w fun e w' => e = .returned (.bool (bl (Word 65 90 s))) ∧ Below w.heap.size w w' := by
  by_cases h0 : s.size = 0
  · have HN : Hid (bl (Word 65 90 s) = false) := bl_false (fun h => by have := h.1; omega)
    obtain rfl := empty_of s h0
    go_enter Tryd.func21, Tryd.ntmps21
    go_wp2
    go_ret
    exact ⟨by rw [HN.out]; rfl, Below.refl _ _⟩
  · have hp : 0 < s.size := by omega
    have hne := ne_empty s hp
    have hne2 := bl_empty s hp
    by_cases h1 : 65 ≤ s[0].toNat
    · by_cases h2 : s[0].toNat ≤ 90
      · have HN : Hid (bl (Word 65 90 s) = bl (Rest s)) := bl_congr ⟨fun h => ⟨h.1, h.2.1, h.2.2.2⟩, fun h => ⟨h.1, h.2.1, fun _ => ⟨h1, h2⟩, h.2.2⟩⟩
        go_enter Tryd.func21, Tryd.ntmps21
        go_wp2_with fail
        refine (spec_rest s hs _).mono ?_
        rintro e w1 ⟨rfl, hb⟩
        go_wp2
        go_ret
        exact ⟨by rw [HN.out]; rfl, hb⟩
      · have HN : Hid (bl (Word 65 90 s) = false) := bl_false (fun h => h2 (h.2.2.1 hp).2)
        go_enter Tryd.func21, Tryd.ntmps21
        go_wp2
        go_ret
        exact ⟨by rw [HN.out]; rfl, Below.refl _ _⟩
    · have HN : Hid (bl (Word 65 90 s) = false) := bl_false (fun h => h1 (h.2.2.1 hp).1)
      go_enter Tryd.func21, Tryd.ntmps21
      go_wp2
      go_ret
      exact ⟨by rw [HN.out]; rfl, Below.refl _ _⟩
end Go.Proofs.YtijbaienhaiamaaDoor
end

/- What is proved here: the word that a text begins with (pure). No condition. -/
section
namespace Go.Proofs.YtijbaienhaiamaaDoor
open Go.RowKit

/-- A byte (or rune) that can stand in an integer, in a name or for a wildcard. -/
def isWZ (c : Int) : Bool := decide ((97 ≤ c ∧ c ≤ 122) ∨ (65 ≤ c ∧ c ≤ 90) ∨ (48 ≤ c ∧ c ≤ 57) ∨ c = 45 ∨ c = 95)
def isWB (c : UInt8) : Bool := isWZ (c.toNat : Int)
/-- The word at the start. -/
def lead (s : List UInt8) : List UInt8 := s.takeWhile isWB
theorem lead_all (a r : List UInt8) (ha : ∀ c ∈ a, isWB c = true) (hr : ∀ c t, r = c :: t → isWB c = false) : lead (a ++ r) = a := by
  unfold lead
  induction a with
  | nil =>
    cases r with
    | nil => rfl
    | cons c t => rw [List.nil_append, List.takeWhile_cons, hr c t rfl]; rfl
  | cons c a ih =>
    rw [List.cons_append, List.takeWhile_cons, ha c (by simp), if_pos rfl, ih (fun x hx => ha x (by simp [hx]))]
theorem lead_prefix (s : List UInt8) : (lead s).isPrefixOf s = true := by
  rw [List.isPrefixOf_iff_prefix]
  exact List.takeWhile_prefix _
theorem lead_take (s : List UInt8) : s.take (lead s).length = lead s := by
  have h := List.isPrefixOf_iff_prefix.1 (lead_prefix s)
  exact (List.prefix_iff_eq_take.1 h).symm
theorem lead_word (s : List UInt8) : ∀ c ∈ lead s, isWB c = true := by
  unfold lead
  induction s with
  | nil => intro c hc; cases hc
  | cons x r ih =>
    intro c hc
    rw [List.takeWhile_cons] at hc
    cases hx : isWB x with
    | false => rw [hx] at hc; cases hc
    | true =>
      rw [hx] at hc
      rcases List.mem_cons.1 hc with rfl | hc
      · exact hx
      · exact ih c hc
theorem lead_stop (s : List UInt8) (k : Nat) (hk : k < s.length) (h : ∀ j (hj : j < s.length), j < k → isWB s[j] = true) (hn : isWB s[k] = false) : lead s = s.take k := by
  have e : s = s.take k ++ s.drop k := (List.take_append_drop k s).symm
  have h1 := lead_all (s.take k) (s.drop k) (fun c hc => by
    obtain ⟨j, hj, rfl⟩ := List.mem_iff_getElem.1 hc
    rw [List.getElem_take]
    rw [List.length_take] at hj
    exact h j (by omega) (by omega)) (fun c t hct => by
    rw [List.drop_eq_getElem_cons hk] at hct
    injection hct with h1 _
    rw [← h1]
    exact hn)
  rw [← e] at h1
  exact h1
theorem lead_full (s : List UInt8) (h : ∀ j (hj : j < s.length), isWB s[j] = true) : lead s = s := by
  have h1 := lead_all s [] (fun c hc => by
    obtain ⟨j, hj, rfl⟩ := List.mem_iff_getElem.1 hc
    exact h j hj) (fun c t hct => by cases hct)
  rwa [List.append_nil] at h1
end Go.Proofs.YtijbaienhaiamaaDoor
end

/- Plain facts on decimal numerals: the numeral of u is that of u / 10 with the last digit behind it. No condition. -/
section
namespace Go.Proofs.YtijbaienhaiamaaDoor
open Go.Lib

/-- The digits of u, none for 0. -/
def digitsOf (u : Nat) : List UInt8 := if u = 0 then [] else decDigits u

theorem digitsOf_zero : digitsOf 0 = [] := if_pos rfl
theorem digitsOf_pos {u : Nat} (h : u ≠ 0) : digitsOf u = decDigits u := if_neg h
theorem digitsOf_step {u : Nat} (h : u ≠ 0) : digitsOf u = digitsOf (u / 10) ++ [UInt8.ofNat (48 + u % 10)] := by
  rw [digitsOf_pos h, decDigits]
  by_cases h1 : u < 10
  · rw [dif_pos h1, show u / 10 = 0 by omega, digitsOf_zero, show u % 10 = u by omega]; rfl
  · rw [dif_neg h1, digitsOf_pos (by omega)]
theorem digitsOf_le (u : Nat) : (digitsOf u).length ≤ nDigits u := by
  by_cases h : u = 0
  · rw [h, digitsOf_zero]; simp
  · rw [digitsOf_pos h, decDigits_length]; exact Nat.le_refl _

end Go.Proofs.YtijbaienhaiamaaDoor
end
