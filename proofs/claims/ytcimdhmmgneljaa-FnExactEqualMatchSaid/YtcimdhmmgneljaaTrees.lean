/- What is proved here: rows of nodes (a kind, a number, a text, and a row of nodes below) as they lie in memory: values, and whatever has their form. No condition. -/
import Derived.Test.YtcimdhmmgneljaaSigBase
namespace Go.Proofs.Ytcimdhmmgneljaa
open Go.RowKit

/-- A row of nodes. -/
inductive Trees where
  | nil : Trees
  | cons (kind num : Int) (text : ByteArray) (args rest : Trees) : Trees
namespace Trees
def length : Trees → Nat
  | .nil => 0
  | .cons _ _ _ _ r => r.length + 1
def append : Trees → Trees → Trees
  | .nil, b => b
  | .cons k n t ar r, b => .cons k n t ar (r.append b)
/-- One more at the end. -/
def snoc (a : Trees) (k n : Int) (t : ByteArray) (ar : Trees) : Trees := a.append (.cons k n t ar .nil)
theorem append_length (a b : Trees) : (a.append b).length = a.length + b.length := by
  induction a with
  | nil => simp [append, length]
  | cons k n t ar r _ ih => simp [append, length, ih]; omega
theorem append_nil (a : Trees) : a.append .nil = a := by
  induction a with
  | nil => rfl
  | cons k n t ar r _ ih => simp [append, ih]
theorem append_assoc (a b c : Trees) : (a.append b).append c = a.append (b.append c) := by
  induction a with
  | nil => rfl
  | cons k n t ar r _ ih => simp [append, ih]
theorem snoc_append (a b : Trees) (k n : Int) (t : ByteArray) (ar : Trees) : (a.snoc k n t ar).append b = a.append (.cons k n t ar b) := by
  unfold snoc
  rw [append_assoc]
  rfl
theorem snoc_length (a : Trees) (k n : Int) (t : ByteArray) (ar : Trees) : (a.snoc k n t ar).length = a.length + 1 := by
  unfold snoc
  rw [append_length]
  rfl
/-- Of the rows below the nodes of a row. -/
def All (P : Trees → Prop) : Trees → Prop
  | .nil => True
  | .cons _ _ _ ar r => P ar ∧ r.All P
theorem ind {P : Trees → Prop} (h : ∀ F : Trees, F.All P → P F) : ∀ F, P F := fun F => by
  have h2 : F.All P := by
    induction F with
    | nil => trivial
    | cons k n t ar r ih1 ih2 => exact ⟨h ar ih1, ih2⟩
  exact h F h2
/-- Every number and every length is one that a machine has. -/
def fits : Trees → Prop
  | .nil => True
  | .cons k n t ar r => (-9223372036854775808 ≤ k ∧ k ≤ 9223372036854775807) ∧ (-9223372036854775808 ≤ n ∧ n ≤ 9223372036854775807) ∧ t.size ≤ maxLen ∧ ar.length ≤ maxLen ∧ ar.fits ∧ r.fits
/-- The places that it takes: a node one, and the bytes of its text. -/
def size : Trees → Nat
  | .nil => 0
  | .cons _ _ t ar r => t.size + 1 + ar.size + r.size
/-- The nodes. -/
def count : Trees → Nat
  | .nil => 0
  | .cons _ _ _ ar r => 1 + ar.count + r.count
/-- The most nodes one below the other. -/
def deep : Trees → Nat
  | .nil => 0
  | .cons _ _ _ ar r => max (ar.deep + 1) r.deep
theorem length_le_size (F : Trees) : F.length ≤ F.size := by
  induction F with
  | nil => simp [length, size]
  | cons k n t ar r _ ih => simp [length, size]; omega
theorem length_le_count (F : Trees) : F.length ≤ F.count := by
  induction F with
  | nil => simp [length, count]
  | cons k n t ar r _ ih => simp [length, count]; omega
theorem count_le_size (F : Trees) : F.count ≤ F.size := by
  induction F with
  | nil => simp [count, size]
  | cons k n t ar r ih1 ih => simp [count, size]; omega
theorem deep_le_count (F : Trees) : F.deep ≤ F.count := by
  induction F with
  | nil => simp [deep, count]
  | cons k n t ar r ih1 ih => simp [deep, count]; omega
end Trees

/-- The fields behind the first of a node. -/
abbrev fieldAt (y : Addr) (i j : Nat) : Addr := { block := (y.add (i * 4)).block, off := (y.add (i * 4)).off + j }
/-- The row at a, from its i-th node on, reads as said. -/
def TreesAt (w : World) : Trees → Option Addr → Nat → Prop
  | .nil, _, _ => True
  | .cons k n t ar r, a, i => (∃ y p cap, a = some y ∧ w.cell? (y.add (i * 4)) = some (.int .i64 k) ∧ w.cell? (fieldAt y i 1) = some (.int .i64 n) ∧ w.cell? (fieldAt y i 2) = some (.string t) ∧ w.cell? (fieldAt y i 3) = some (.slice p ar.length cap) ∧ ar.length ≤ cap ∧ TreesAt w ar p 0) ∧ TreesAt w r a (i + 1)
theorem TreesAt.keep {w w' : World} (hc : ∀ p v, w.cell? p = some v → w'.cell? p = some v) : ∀ (F : Trees) (a : Option Addr) (i : Nat), TreesAt w F a i → TreesAt w' F a i := by
  intro F
  induction F with
  | nil => intro _ _ _; trivial
  | cons k n t ar r ih1 ih2 =>
    rintro a i ⟨⟨y, p, cap, h1, h2, h3, h4, h5, hl, h6⟩, h7⟩
    exact ⟨⟨y, p, cap, h1, hc _ _ h2, hc _ _ h3, hc _ _ h4, hc _ _ h5, hl, ih1 _ _ h6⟩, ih2 _ _ h7⟩
theorem TreesAt.below {w w' : World} {F : Trees} {a : Option Addr} {i : Nat} (h : TreesAt w F a i) (hb : Below w.heap.size w w') : TreesAt w' F a i :=
  TreesAt.keep (fun _ _ hc => cell_below hc hb) F a i h
theorem TreesAt.drew {w : World} {F : Trees} {a : Option Addr} {i : Nat} (h : TreesAt w F a i) : TreesAt w.drew F a i :=
  TreesAt.keep (w := w) (w' := w.drew) (fun _ _ hc => hc) F a i h
/-- The same row behind a world whose blocks below B lie as they lay, where the row's blocks are below B. -/
theorem TreesAt.low {w w' : World} {F : Trees} {a : Option Addr} {i B : Nat} (hB : B = w.heap.size) (h : TreesAt w F a i) (hk : ∀ b, b < B → w'.heap[b]? = w.heap[b]?) : TreesAt w' F a i := by
  subst hB
  refine TreesAt.keep (fun p v hc => ?_) F a i h
  rw [← hc]
  have hlt : p.block < w.heap.size := by
    rcases Nat.lt_or_ge p.block w.heap.size with h1 | h1
    · exact h1
    · simp [World.cell?, Array.getElem?_eq_none h1] at hc
  exact World.cell?_of_block (hk _ hlt)
/-- What is read of the i-th node. -/
theorem TreesAt.open {w : World} {k n : Int} {t : ByteArray} {ar r : Trees} {a : Option Addr} {i : Nat} (h : TreesAt w (.cons k n t ar r) a i) :
    ∃ y p cap, a = some y ∧ w.cell? (y.add (i * 4)) = some (.int .i64 k) ∧ w.cell? (fieldAt y i 1) = some (.int .i64 n) ∧ w.cell? (fieldAt y i 2) = some (.string t) ∧ w.cell? (fieldAt y i 3) = some (.slice p ar.length cap) ∧ TreesAt w ar p 0 ∧ TreesAt w r a (i + 1) := by
  obtain ⟨⟨y, p, cap, h1, h2, h3, h4, h5, _, h6⟩, h7⟩ := h
  exact ⟨y, p, cap, h1, h2, h3, h4, h5, h6, h7⟩
/-- Without the nodes of the row itself. -/
def Trees.inner : Trees → Nat
  | .nil => 0
  | .cons _ _ t ar r => t.size + ar.size + r.inner
theorem Trees.size_eq (F : Trees) : F.size = F.length + F.inner := by
  induction F with
  | nil => rfl
  | cons k n t ar r _ ih => simp [Trees.size, Trees.length, Trees.inner, ih]; omega

theorem Trees.append_count (A B : Trees) : (A.append B).count = A.count + B.count := by
  induction A with
  | nil => simp [Trees.append, Trees.count]
  | cons k n t ar r _ ih => simp [Trees.append, Trees.count, ih]; omega
end Go.Proofs.Ytcimdhmmgneljaa
