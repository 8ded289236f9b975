/- What is proved here: rows of clauses (a pattern, whether it is guarded, a guard) as they lie in memory; filled. No condition. -/
import Derived.Test.YtcimdhmmgneljaaPtTreeOwn
import Derived.Test.YtcimdhmmgneljaaExTreeOwn
namespace Go.Proofs.Ytcimdhmmgneljaa
open Go.RowKit

structure ClauseD where
  pk : Int
  pn : Int
  pt : ByteArray
  pF : Trees
  gd : Bool
  ek : Int
  en : Int
  et : ByteArray
  eF : Trees
/-- What a machine can have. -/
def ClauseD.fits (x : ClauseD) : Prop := ((-9223372036854775808 ≤ x.pk ∧ x.pk ≤ 9223372036854775807) ∧ (-9223372036854775808 ≤ x.pn ∧ x.pn ≤ 9223372036854775807) ∧ x.pt.size ≤ maxLen ∧ x.pF.length ≤ maxLen ∧ x.pF.fits) ∧ (-9223372036854775808 ≤ x.ek ∧ x.ek ≤ 9223372036854775807) ∧ (-9223372036854775808 ≤ x.en ∧ x.en ≤ 9223372036854775807) ∧ x.et.size ≤ maxLen ∧ x.eF.length ≤ maxLen ∧ x.eF.fits
def ClauseD.size (x : ClauseD) : Nat := (x.pt.size + x.pF.size) + (x.et.size + x.eF.size)
def clausesIn (l : List ClauseD) : Nat := (l.map ClauseD.size).sum
/-- The places that the clauses take. -/
def clausesSize (l : List ClauseD) : Nat := l.length + clausesIn l
abbrev clAt (y : Addr) (i j : Nat) : Addr := { block := (y.add (i * 9)).block, off := (y.add (i * 9)).off + j }
/-- The i-th clause of the row at y reads as said. -/
def ClauseAt (w : World) (x : ClauseD) (y : Addr) (i : Nat) (p : Option Addr) (cap : Nat) (q : Option Addr) (cap2 : Nat) : Prop :=
  w.cell? (y.add (i * 9)) = some (.int .i64 x.pk) ∧ w.cell? (clAt y i 1) = some (.int .i64 x.pn) ∧ w.cell? (clAt y i 2) = some (.string x.pt) ∧ w.cell? (clAt y i 3) = some (.slice p x.pF.length cap) ∧ w.cell? (clAt y i 4) = some (.bool x.gd) ∧ w.cell? (clAt y i 5) = some (.int .i64 x.ek) ∧ w.cell? (clAt y i 6) = some (.int .i64 x.en) ∧ w.cell? (clAt y i 7) = some (.string x.et) ∧ w.cell? (clAt y i 8) = some (.slice q x.eF.length cap2)
/-- The row at a, from its i-th clause on, reads as said. -/
def ClausesAt (w : World) : List ClauseD → Option Addr → Nat → Prop
  | [], _, _ => True
  | x :: r, a, i => (∃ y p cap q cap2, a = some y ∧ ClauseAt w x y i p cap q cap2 ∧ x.pF.length ≤ cap ∧ x.eF.length ≤ cap2 ∧ TreesAt w x.pF p 0 ∧ TreesAt w x.eF q 0) ∧ ClausesAt w r a (i + 1)
theorem ClauseAt.keep {w w' : World} (hc : ∀ p v, w.cell? p = some v → w'.cell? p = some v) {x : ClauseD} {y : Addr} {i : Nat} {p : Option Addr} {cap : Nat} {q : Option Addr} {cap2 : Nat} (h : ClauseAt w x y i p cap q cap2) : ClauseAt w' x y i p cap q cap2 := by
  obtain ⟨h0, h1, h2, h3, h4, h5, h6, h7, h8⟩ := h
  exact ⟨hc _ _ h0, hc _ _ h1, hc _ _ h2, hc _ _ h3, hc _ _ h4, hc _ _ h5, hc _ _ h6, hc _ _ h7, hc _ _ h8⟩
theorem ClausesAt.keep {w w' : World} (hc : ∀ p v, w.cell? p = some v → w'.cell? p = some v) : ∀ (l : List ClauseD) (a : Option Addr) (i : Nat), ClausesAt w l a i → ClausesAt w' l a i := by
  intro l
  induction l with
  | nil => intro _ _ _; trivial
  | cons x r ih =>
    rintro a i ⟨⟨y, p, cap, q, cap2, h1, h2, hl, hl2, h3, h4⟩, h8⟩
    exact ⟨⟨y, p, cap, q, cap2, h1, h2.keep hc, hl, hl2, TreesAt.keep hc _ _ _ h3, TreesAt.keep hc _ _ _ h4⟩, ih _ _ h8⟩
theorem ClausesAt.below {w w' : World} {l : List ClauseD} {a : Option Addr} {i : Nat} (h : ClausesAt w l a i) (hb : Below w.heap.size w w') : ClausesAt w' l a i :=
  ClausesAt.keep (fun _ _ hc => cell_below hc hb) l a i h
theorem ClausesAt.drew {w : World} {l : List ClauseD} {a : Option Addr} {i : Nat} (h : ClausesAt w l a i) : ClausesAt w.drew l a i :=
  ClausesAt.keep (w := w) (w' := w.drew) (fun _ _ hc => hc) l a i h
theorem ClausesAt.append {w : World} : ∀ (A B : List ClauseD) (a : Option Addr) (i : Nat), ClausesAt w A a i → ClausesAt w B a (i + A.length) → ClausesAt w (A ++ B) a i := by
  intro A
  induction A with
  | nil => intro B a i _ h; exact h
  | cons x r ih =>
    rintro B a i ⟨h1, h2⟩ h3
    exact ⟨h1, ih B a (i + 1) h2 (by rw [show i + 1 + r.length = i + (x :: r).length by simp only [List.length_cons]; omega]; exact h3)⟩
/-- What is read of the k-th clause. -/
theorem ClausesAt.get {w : World} : ∀ (l : List ClauseD) (a : Option Addr) (i : Nat), ClausesAt w l a i → ∀ (j : Nat) (h : j < l.length), ∃ y p cap q cap2, a = some y ∧ ClauseAt w l[j] y (i + j) p cap q cap2 ∧ (l[j]).pF.length ≤ cap ∧ (l[j]).eF.length ≤ cap2 ∧ TreesAt w (l[j]).pF p 0 ∧ TreesAt w (l[j]).eF q 0 := by
  intro l
  induction l with
  | nil => intro a i _ j h; simp at h
  | cons x r ih =>
    rintro a i ⟨h1, h2⟩ j h
    cases j with
    | zero => exact h1
    | succ j =>
      have := ih a (i + 1) h2 j (by simpa using h)
      rw [show i + 1 + j = i + (j + 1) by omega] at this
      exact this

theorem nine_cells {w : World} {b : Nat} {x0 x1 x2 x3 x4 x5 x6 x7 x8 : Value} {T : TypeId} (h : w.heap[b]? = some (.cells #[x0, x1, x2, x3, x4, x5, x6, x7, x8] T (0, 0))) : w.cell? ⟨b, 0, none⟩ = some x0 ∧ w.cell? ⟨b, 1, none⟩ = some x1 ∧ w.cell? ⟨b, 2, none⟩ = some x2 ∧ w.cell? ⟨b, 3, none⟩ = some x3 ∧ w.cell? ⟨b, 4, none⟩ = some x4 ∧ w.cell? ⟨b, 5, none⟩ = some x5 ∧ w.cell? ⟨b, 6, none⟩ = some x6 ∧ w.cell? ⟨b, 7, none⟩ = some x7 ∧ w.cell? ⟨b, 8, none⟩ = some x8 ∧ w.frozen? ⟨b, 0, none⟩ = false ∧ w.frozen? ⟨b, 1, none⟩ = false ∧ w.frozen? ⟨b, 2, none⟩ = false ∧ w.frozen? ⟨b, 3, none⟩ = false ∧ w.frozen? ⟨b, 4, none⟩ = false ∧ w.frozen? ⟨b, 5, none⟩ = false ∧ w.frozen? ⟨b, 6, none⟩ = false ∧ w.frozen? ⟨b, 7, none⟩ = false ∧ w.frozen? ⟨b, 8, none⟩ = false := by
  refine ⟨?_, ?_, ?_, ?_, ?_, ?_, ?_, ?_, ?_, ?_, ?_, ?_, ?_, ?_, ?_, ?_, ?_, ?_⟩ <;> simp [World.cell?, World.frozen?, h]
theorem nine_set {w : World} {b : Nat} {x0 x1 x2 x3 x4 x5 x6 x7 x8 : Value} {T : TypeId} (h : w.heap[b]? = some (.cells #[x0, x1, x2, x3, x4, x5, x6, x7, x8] T (0, 0))) (v : Value) : (w.setCell ⟨b, 0, none⟩ v).heap[b]? = some (.cells #[v, x1, x2, x3, x4, x5, x6, x7, x8] T (0, 0)) ∧ (w.setCell ⟨b, 1, none⟩ v).heap[b]? = some (.cells #[x0, v, x2, x3, x4, x5, x6, x7, x8] T (0, 0)) ∧ (w.setCell ⟨b, 2, none⟩ v).heap[b]? = some (.cells #[x0, x1, v, x3, x4, x5, x6, x7, x8] T (0, 0)) ∧ (w.setCell ⟨b, 3, none⟩ v).heap[b]? = some (.cells #[x0, x1, x2, v, x4, x5, x6, x7, x8] T (0, 0)) ∧ (w.setCell ⟨b, 4, none⟩ v).heap[b]? = some (.cells #[x0, x1, x2, x3, v, x5, x6, x7, x8] T (0, 0)) ∧ (w.setCell ⟨b, 5, none⟩ v).heap[b]? = some (.cells #[x0, x1, x2, x3, x4, v, x6, x7, x8] T (0, 0)) ∧ (w.setCell ⟨b, 6, none⟩ v).heap[b]? = some (.cells #[x0, x1, x2, x3, x4, x5, v, x7, x8] T (0, 0)) ∧ (w.setCell ⟨b, 7, none⟩ v).heap[b]? = some (.cells #[x0, x1, x2, x3, x4, x5, x6, v, x8] T (0, 0)) ∧ (w.setCell ⟨b, 8, none⟩ v).heap[b]? = some (.cells #[x0, x1, x2, x3, x4, x5, x6, x7, v] T (0, 0)) := by
  refine ⟨?_, ?_, ?_, ?_, ?_, ?_, ?_, ?_, ?_⟩ <;> simp [World.setCell, Array.getElem?_modify, h]
theorem pair_cells {w : World} {b : Nat} {x y : Value} {T : TypeId} (h : w.heap[b]? = some (.cells #[x, y] T (0, 0))) : w.cell? ⟨b, 0, none⟩ = some x ∧ w.cell? ⟨b, 1, none⟩ = some y ∧ w.frozen? ⟨b, 0, none⟩ = false ∧ w.frozen? ⟨b, 1, none⟩ = false := by
  refine ⟨?_, ?_, ?_, ?_⟩ <;> simp [World.cell?, World.frozen?, h]
theorem pair_set {w : World} {b : Nat} {x y : Value} {T : TypeId} (h : w.heap[b]? = some (.cells #[x, y] T (0, 0))) (v : Value) : (w.setCell ⟨b, 0, none⟩ v).heap[b]? = some (.cells #[v, y] T (0, 0)) ∧ (w.setCell ⟨b, 1, none⟩ v).heap[b]? = some (.cells #[x, v] T (0, 0)) := by
  constructor <;> simp [World.setCell, Array.getElem?_modify, h]
theorem cl_field (g i j : Nat) : clAt ⟨g, 0, none⟩ i j = ⟨g, i * 9 + j, none⟩ := by
  unfold clAt Addr.add
  by_cases hi : i * 9 = 0
  · rw [if_pos hi, hi]
  · rw [if_neg hi]; simp
theorem cl_first (g i : Nat) : (⟨g, 0, none⟩ : Addr).add (i * 9) = ⟨g, i * 9, none⟩ := by
  unfold Addr.add
  by_cases hi : i * 9 = 0
  · rw [if_pos hi, hi]
  · rw [if_neg hi]; simp

/-! A clause's cells, set. -/
def put9 (w : World) (g k : Nat) (u0 u1 u2 u3 u4 u5 u6 u7 u8 : Value) : World := (((((((((w.setCell ⟨g, k * 9, none⟩ u0).setCell ⟨g, k * 9 + 1, none⟩ u1).setCell ⟨g, k * 9 + 2, none⟩ u2).setCell ⟨g, k * 9 + 3, none⟩ u3).setCell ⟨g, k * 9 + 4, none⟩ u4).setCell ⟨g, k * 9 + 5, none⟩ u5).setCell ⟨g, k * 9 + 6, none⟩ u6).setCell ⟨g, k * 9 + 7, none⟩ u7).setCell ⟨g, k * 9 + 8, none⟩ u8)
theorem put9_other (w : World) (g k : Nat) (u0 u1 u2 u3 u4 u5 u6 u7 u8 : Value) (b : Nat) (h : b ≠ g) : (put9 w g k u0 u1 u2 u3 u4 u5 u6 u7 u8).heap[b]? = w.heap[b]? := by
  unfold put9
  rw [Below.heap_setCell _ _ _ _ h, Below.heap_setCell _ _ _ _ h, Below.heap_setCell _ _ _ _ h, Below.heap_setCell _ _ _ _ h, Below.heap_setCell _ _ _ _ h, Below.heap_setCell _ _ _ _ h, Below.heap_setCell _ _ _ _ h, Below.heap_setCell _ _ _ _ h, Below.heap_setCell _ _ _ _ h]
theorem put9_size (w : World) (g k : Nat) (u0 u1 u2 u3 u4 u5 u6 u7 u8 : Value) : (put9 w g k u0 u1 u2 u3 u4 u5 u6 u7 u8).heap.size = w.heap.size := by simp [put9, World.setCell]
theorem put9_below {B : Nat} {a w : World} (h : Below B a w) (g k : Nat) (u0 u1 u2 u3 u4 u5 u6 u7 u8 : Value) (hg : B ≤ g) : Below B a (put9 w g k u0 u1 u2 u3 u4 u5 u6 u7 u8) :=
  (((((((((h.setCell (p := ⟨g, k * 9, none⟩) hg u0).setCell (p := ⟨g, k * 9 + 1, none⟩) hg u1).setCell (p := ⟨g, k * 9 + 2, none⟩) hg u2).setCell (p := ⟨g, k * 9 + 3, none⟩) hg u3).setCell (p := ⟨g, k * 9 + 4, none⟩) hg u4).setCell (p := ⟨g, k * 9 + 5, none⟩) hg u5).setCell (p := ⟨g, k * 9 + 6, none⟩) hg u6).setCell (p := ⟨g, k * 9 + 7, none⟩) hg u7).setCell (p := ⟨g, k * 9 + 8, none⟩) hg u8)
theorem put9_block {w : World} {g : Nat} {cs : Array Value} {T : TypeId} (h : w.heap[g]? = some (.cells cs T (0, 0))) (k : Nat) (u0 u1 u2 u3 u4 u5 u6 u7 u8 : Value) :
    (put9 w g k u0 u1 u2 u3 u4 u5 u6 u7 u8).heap[g]? = some (.cells (((((((((cs.setIfInBounds (k * 9) u0).setIfInBounds (k * 9 + 1) u1).setIfInBounds (k * 9 + 2) u2).setIfInBounds (k * 9 + 3) u3).setIfInBounds (k * 9 + 4) u4).setIfInBounds (k * 9 + 5) u5).setIfInBounds (k * 9 + 6) u6).setIfInBounds (k * 9 + 7) u7).setIfInBounds (k * 9 + 8) u8) T (0, 0)) := by
  simp [put9, World.setCell, Array.getElem?_modify, h]
theorem clause_cells {w : World} {g : Nat} {cs : Array Value} {T : TypeId} (h : w.heap[g]? = some (.cells cs T (0, 0))) (k n : Nat) (hs : cs.size = n * 9) (hk : k < n) :
    ∃ x0 x1 x2 x3 x4 x5 x6 x7 x8, w.cell? ⟨g, k * 9, none⟩ = some x0 ∧ w.cell? ⟨g, k * 9 + 1, none⟩ = some x1 ∧ w.cell? ⟨g, k * 9 + 2, none⟩ = some x2 ∧ w.cell? ⟨g, k * 9 + 3, none⟩ = some x3 ∧ w.cell? ⟨g, k * 9 + 4, none⟩ = some x4 ∧ w.cell? ⟨g, k * 9 + 5, none⟩ = some x5 ∧ w.cell? ⟨g, k * 9 + 6, none⟩ = some x6 ∧ w.cell? ⟨g, k * 9 + 7, none⟩ = some x7 ∧ w.cell? ⟨g, k * 9 + 8, none⟩ = some x8 ∧ w.frozen? ⟨g, k * 9, none⟩ = false ∧ w.frozen? ⟨g, k * 9 + 1, none⟩ = false ∧ w.frozen? ⟨g, k * 9 + 2, none⟩ = false ∧ w.frozen? ⟨g, k * 9 + 3, none⟩ = false ∧ w.frozen? ⟨g, k * 9 + 4, none⟩ = false ∧ w.frozen? ⟨g, k * 9 + 5, none⟩ = false ∧ w.frozen? ⟨g, k * 9 + 6, none⟩ = false ∧ w.frozen? ⟨g, k * 9 + 7, none⟩ = false ∧ w.frozen? ⟨g, k * 9 + 8, none⟩ = false := by
  have e : ∀ o, o < n * 9 → ∃ x, w.cell? ⟨g, o, none⟩ = some x := fun o ho => ⟨cs[o]'(by omega), by simp [World.cell?, h, hs, ho]⟩
  obtain ⟨x0, h0⟩ := e (k * 9) (by omega)
  obtain ⟨x1, h1⟩ := e (k * 9 + 1) (by omega)
  obtain ⟨x2, h2⟩ := e (k * 9 + 2) (by omega)
  obtain ⟨x3, h3⟩ := e (k * 9 + 3) (by omega)
  obtain ⟨x4, h4⟩ := e (k * 9 + 4) (by omega)
  obtain ⟨x5, h5⟩ := e (k * 9 + 5) (by omega)
  obtain ⟨x6, h6⟩ := e (k * 9 + 6) (by omega)
  obtain ⟨x7, h7⟩ := e (k * 9 + 7) (by omega)
  obtain ⟨x8, h8⟩ := e (k * 9 + 8) (by omega)
  refine ⟨x0, x1, x2, x3, x4, x5, x6, x7, x8, h0, h1, h2, h3, h4, h5, h6, h7, h8, ?_, ?_, ?_, ?_, ?_, ?_, ?_, ?_, ?_⟩ <;> simp [World.frozen?, h]
theorem put9_cells {w : World} {g : Nat} {cs : Array Value} {T : TypeId} (h : w.heap[g]? = some (.cells cs T (0, 0))) (k n : Nat) (hs : cs.size = n * 9) (hk : k < n) (u0 u1 u2 u3 u4 u5 u6 u7 u8 : Value) :
    (put9 w g k u0 u1 u2 u3 u4 u5 u6 u7 u8).cell? ⟨g, k * 9, none⟩ = some u0 ∧ (put9 w g k u0 u1 u2 u3 u4 u5 u6 u7 u8).cell? ⟨g, k * 9 + 1, none⟩ = some u1 ∧ (put9 w g k u0 u1 u2 u3 u4 u5 u6 u7 u8).cell? ⟨g, k * 9 + 2, none⟩ = some u2 ∧ (put9 w g k u0 u1 u2 u3 u4 u5 u6 u7 u8).cell? ⟨g, k * 9 + 3, none⟩ = some u3 ∧ (put9 w g k u0 u1 u2 u3 u4 u5 u6 u7 u8).cell? ⟨g, k * 9 + 4, none⟩ = some u4 ∧ (put9 w g k u0 u1 u2 u3 u4 u5 u6 u7 u8).cell? ⟨g, k * 9 + 5, none⟩ = some u5 ∧ (put9 w g k u0 u1 u2 u3 u4 u5 u6 u7 u8).cell? ⟨g, k * 9 + 6, none⟩ = some u6 ∧ (put9 w g k u0 u1 u2 u3 u4 u5 u6 u7 u8).cell? ⟨g, k * 9 + 7, none⟩ = some u7 ∧ (put9 w g k u0 u1 u2 u3 u4 u5 u6 u7 u8).cell? ⟨g, k * 9 + 8, none⟩ = some u8 ∧
      ∀ o, (o < k * 9 ∨ k * 9 + 9 ≤ o) → (put9 w g k u0 u1 u2 u3 u4 u5 u6 u7 u8).cell? ⟨g, o, none⟩ = w.cell? ⟨g, o, none⟩ := by
  have hb := put9_block h k u0 u1 u2 u3 u4 u5 u6 u7 u8
  have l0 : k * 9 < cs.size := by omega
  have l1 : k * 9 + 1 < cs.size := by omega
  have l2 : k * 9 + 2 < cs.size := by omega
  have l3 : k * 9 + 3 < cs.size := by omega
  have l4 : k * 9 + 4 < cs.size := by omega
  have l5 : k * 9 + 5 < cs.size := by omega
  have l6 : k * 9 + 6 < cs.size := by omega
  have l7 : k * 9 + 7 < cs.size := by omega
  have l8 : k * 9 + 8 < cs.size := by omega
  refine ⟨?_, ?_, ?_, ?_, ?_, ?_, ?_, ?_, ?_, ?_⟩
  · simp [World.cell?, hb, l0]
  · simp [World.cell?, hb, l1]
  · simp [World.cell?, hb, l2]
  · simp [World.cell?, hb, l3]
  · simp [World.cell?, hb, l4]
  · simp [World.cell?, hb, l5]
  · simp [World.cell?, hb, l6]
  · simp [World.cell?, hb, l7]
  · simp [World.cell?, hb, l8]
  · intro o ho
    have e : (((((((((cs.setIfInBounds (k * 9) u0).setIfInBounds (k * 9 + 1) u1).setIfInBounds (k * 9 + 2) u2).setIfInBounds (k * 9 + 3) u3).setIfInBounds (k * 9 + 4) u4).setIfInBounds (k * 9 + 5) u5).setIfInBounds (k * 9 + 6) u6).setIfInBounds (k * 9 + 7) u7).setIfInBounds (k * 9 + 8) u8)[o]? = cs[o]? := by
      rw [Array.getElem?_setIfInBounds_ne (by omega), Array.getElem?_setIfInBounds_ne (by omega), Array.getElem?_setIfInBounds_ne (by omega), Array.getElem?_setIfInBounds_ne (by omega), Array.getElem?_setIfInBounds_ne (by omega), Array.getElem?_setIfInBounds_ne (by omega), Array.getElem?_setIfInBounds_ne (by omega), Array.getElem?_setIfInBounds_ne (by omega), Array.getElem?_setIfInBounds_ne (by omega)]
    simp only [World.cell?, hb, h, e]
/-- A row of n that is being filled in block g, which was new in w: what is there reads so in every world that holds these cells and the other blocks. -/
def FillC (w : World) (g n : Nat) (pre : List ClauseD) (w' : World) : Prop :=
  ∃ cs, w'.heap[g]? = some (.cells cs 40 (0, 0)) ∧ cs.size = n * 9 ∧ (∀ W : World, (∀ b, g < b → b < w'.heap.size → W.heap[b]? = w'.heap[b]?) → (∀ o, o < pre.length * 9 → W.cell? ⟨g, o, none⟩ = w'.cell? ⟨g, o, none⟩) → ClausesAt W pre (some ⟨g, 0, none⟩) 0) ∧ Below w.heap.size w w' ∧ w.heap.size ≤ g ∧ g < w'.heap.size
theorem FillC.below {w : World} {g n : Nat} {pre : List ClauseD} {w' : World} (h : FillC w g n pre w') : Below w.heap.size w w' := by
  obtain ⟨_, _, _, _, h, _⟩ := h
  exact h
theorem FillC.reads {w : World} {g n : Nat} {pre : List ClauseD} {w' : World} (h : FillC w g n pre w') : ∀ W : World, (∀ b, g ≤ b → b < w'.heap.size → W.heap[b]? = w'.heap[b]?) → ClausesAt W pre (some ⟨g, 0, none⟩) 0 := by
  obtain ⟨_, _, _, h, _, _, hlt⟩ := h
  exact fun W hW => h W (fun b hb hl => hW b (by omega) hl) (fun o _ => World.cell?_of_block (hW g (Nat.le_refl _) hlt))
theorem FillC.step {w : World} {g n : Nat} {pre : List ClauseD} {w' w1 : World} {x : ClauseD} {v v2 : Value} {b1 b2 : List Nat} (h : FillC w g n pre w') (hk : pre.length < n) (hb : Below w'.heap.size w' w1) (ho : Pt.OwnV w1 v x.pF b1) (hnew : ∀ b ∈ b1, w'.heap.size ≤ b ∧ b < w1.heap.size) (ho2 : Ex.OwnV w1 v2 x.eF b2) (hnew2 : ∀ b ∈ b2, w'.heap.size ≤ b ∧ b < w1.heap.size) :
    ∃ x0 x1 x2 x3 x4 x5 x6 x7 x8, w1.cell? ⟨g, pre.length * 9, none⟩ = some x0 ∧ w1.cell? ⟨g, pre.length * 9 + 1, none⟩ = some x1 ∧ w1.cell? ⟨g, pre.length * 9 + 2, none⟩ = some x2 ∧ w1.cell? ⟨g, pre.length * 9 + 3, none⟩ = some x3 ∧ w1.cell? ⟨g, pre.length * 9 + 4, none⟩ = some x4 ∧ w1.cell? ⟨g, pre.length * 9 + 5, none⟩ = some x5 ∧ w1.cell? ⟨g, pre.length * 9 + 6, none⟩ = some x6 ∧ w1.cell? ⟨g, pre.length * 9 + 7, none⟩ = some x7 ∧ w1.cell? ⟨g, pre.length * 9 + 8, none⟩ = some x8 ∧ w1.frozen? ⟨g, pre.length * 9, none⟩ = false ∧ w1.frozen? ⟨g, pre.length * 9 + 1, none⟩ = false ∧ w1.frozen? ⟨g, pre.length * 9 + 2, none⟩ = false ∧ w1.frozen? ⟨g, pre.length * 9 + 3, none⟩ = false ∧ w1.frozen? ⟨g, pre.length * 9 + 4, none⟩ = false ∧ w1.frozen? ⟨g, pre.length * 9 + 5, none⟩ = false ∧ w1.frozen? ⟨g, pre.length * 9 + 6, none⟩ = false ∧ w1.frozen? ⟨g, pre.length * 9 + 7, none⟩ = false ∧ w1.frozen? ⟨g, pre.length * 9 + 8, none⟩ = false ∧
      FillC w g n (pre ++ [x]) (put9 w1 g pre.length (.int .i64 x.pk) (.int .i64 x.pn) (.string x.pt) v (.bool x.gd) (.int .i64 x.ek) (.int .i64 x.en) (.string x.et) v2) := by
  obtain ⟨cs, hc, hs, hr, hB, hg, hgl⟩ := h
  have hs1 := hb.size
  have hc1 : w1.heap[g]? = some (.cells cs 40 (0, 0)) := (hb.block g hgl).trans hc
  obtain ⟨x0, x1, x2, x3, x4, x5, x6, x7, x8, c0, c1, c2, c3, c4, c5, c6, c7, c8, f0, f1, f2, f3, f4, f5, f6, f7, f8⟩ := clause_cells hc1 pre.length n hs hk
  refine ⟨x0, x1, x2, x3, x4, x5, x6, x7, x8, c0, c1, c2, c3, c4, c5, c6, c7, c8, f0, f1, f2, f3, f4, f5, f6, f7, f8, ?_⟩
  obtain ⟨d0, d1, d2, d3, d4, d5, d6, d7, d8, d9⟩ := put9_cells hc1 pre.length n hs hk (.int .i64 x.pk) (.int .i64 x.pn) (.string x.pt) v (.bool x.gd) (.int .i64 x.ek) (.int .i64 x.en) (.string x.et) v2
  obtain ⟨p, cap, hv, hl, _⟩ := ho.reads
  obtain ⟨q, cap2, hv2, hl2, _⟩ := ho2.reads
  have hot : ∀ b, b ≠ g → (put9 w1 g pre.length (.int .i64 x.pk) (.int .i64 x.pn) (.string x.pt) v (.bool x.gd) (.int .i64 x.ek) (.int .i64 x.en) (.string x.et) v2).heap[b]? = w1.heap[b]? := fun b hne => put9_other _ _ _ _ _ _ _ _ _ _ _ _ b hne
  refine ⟨_, put9_block hc1 _ _ _ _ _ _ _ _ _ _, by simp [hs], fun W hW hcW => ?_, put9_below (hB.trans (hb.mono hB.size)) _ _ _ _ _ _ _ _ _ _ _ hg, hg, by rw [put9_size]; omega⟩
  rw [put9_size] at hW
  have hWb : ∀ b, w'.heap.size ≤ b → b < w1.heap.size → W.heap[b]? = w1.heap[b]? := fun b h1 h2 => by rw [hW b (by omega) h2, hot b (by omega)]
  have hWc : ∀ o, o < (pre.length + 1) * 9 → W.cell? ⟨g, o, none⟩ = (put9 w1 g pre.length (.int .i64 x.pk) (.int .i64 x.pn) (.string x.pt) v (.bool x.gd) (.int .i64 x.ek) (.int .i64 x.en) (.string x.et) v2).cell? ⟨g, o, none⟩ := fun o h => hcW o (by simpa using h)
  have htx : TreesAt W x.pF p 0 := by
    obtain ⟨p', cap', hv', _, ht⟩ := (ho.keep (w' := W) (fun b hbm => hWb b (hnew b hbm).1 (hnew b hbm).2)).reads
    rw [hv] at hv'
    injection hv' with h1 _ _
    rw [h1]
    exact ht
  have hty : TreesAt W x.eF q 0 := by
    obtain ⟨p', cap', hv', _, ht⟩ := (ho2.keep (w' := W) (fun b hbm => hWb b (hnew2 b hbm).1 (hnew2 b hbm).2)).reads
    rw [hv2] at hv'
    injection hv' with h1 _ _
    rw [h1]
    exact ht
  refine ClausesAt.append pre [x] _ 0 (hr W (fun b hgb hlt => ?_) (fun o ho => ?_)) ⟨⟨_, p, cap, q, cap2, rfl, ⟨?_, ?_, ?_, ?_, ?_, ?_, ?_, ?_, ?_⟩, hl, hl2, htx, hty⟩, trivial⟩
  · rw [hW b hgb (by omega), hot b (by omega), hb.block b hlt]
  · rw [hWc o (by omega), d9 o (.inl (by omega))]
    exact World.cell?_of_block (hb.block g hgl)
  · rw [Nat.zero_add, cl_first, hWc _ (by omega), d0]
  · rw [Nat.zero_add, cl_field, hWc _ (by omega), d1]
  · rw [Nat.zero_add, cl_field, hWc _ (by omega), d2]
  · rw [Nat.zero_add, cl_field, hWc _ (by omega), d3]; rw [hv]
  · rw [Nat.zero_add, cl_field, hWc _ (by omega), d4]
  · rw [Nat.zero_add, cl_field, hWc _ (by omega), d5]
  · rw [Nat.zero_add, cl_field, hWc _ (by omega), d6]
  · rw [Nat.zero_add, cl_field, hWc _ (by omega), d7]
  · rw [Nat.zero_add, cl_field, hWc _ (by omega), d8]; rw [hv2]
end Go.Proofs.Ytcimdhmmgneljaa
