/- What is proved here: rows of bindings (a name and a value) as they lie in memory; in blocks of the call's own; filled. No condition. -/
import Derived.Test.YtdifefgigcjgeaaTreeOwn
namespace Go.Proofs.Ytdifefgigcjgeaa
open Go.RowKit

structure BindD where
  nm : ByteArray
  k : Int
  n : Int
  t : ByteArray
  F : Trees
/-- What a machine can have. -/
def BindD.fits (x : BindD) : Prop := x.nm.size ≤ maxLen ∧ (-9223372036854775808 ≤ x.k ∧ x.k ≤ 9223372036854775807) ∧ (-9223372036854775808 ≤ x.n ∧ x.n ≤ 9223372036854775807) ∧ x.t.size ≤ maxLen ∧ x.F.length ≤ maxLen ∧ x.F.fits
def BindD.size (x : BindD) : Nat := x.nm.size + (x.t.size + x.F.size)
def bindsIn (l : List BindD) : Nat := (l.map BindD.size).sum
/-- The places that the bindings take. -/
def bindsSize (l : List BindD) : Nat := l.length + bindsIn l
abbrev bindAt (y : Addr) (i j : Nat) : Addr := { block := (y.add (i * 5)).block, off := (y.add (i * 5)).off + j }
/-- The row at a, from its i-th binding on, reads as said. -/
def BindsAt (w : World) : List BindD → Option Addr → Nat → Prop
  | [], _, _ => True
  | x :: r, a, i => (∃ y p cap, a = some y ∧ w.cell? (y.add (i * 5)) = some (.string x.nm) ∧ w.cell? (bindAt y i 1) = some (.int .i64 x.k) ∧ w.cell? (bindAt y i 2) = some (.int .i64 x.n) ∧ w.cell? (bindAt y i 3) = some (.string x.t) ∧ w.cell? (bindAt y i 4) = some (.slice p x.F.length cap) ∧ x.F.length ≤ cap ∧ TreesAt w x.F p 0) ∧ BindsAt w r a (i + 1)
theorem BindsAt.keep {w w' : World} (hc : ∀ p v, w.cell? p = some v → w'.cell? p = some v) : ∀ (l : List BindD) (a : Option Addr) (i : Nat), BindsAt w l a i → BindsAt w' l a i := by
  intro l
  induction l with
  | nil => intro _ _ _; trivial
  | cons x r ih =>
    rintro a i ⟨⟨y, p, cap, h1, h2, h3, h4, h5, h6, hl, h7⟩, h8⟩
    exact ⟨⟨y, p, cap, h1, hc _ _ h2, hc _ _ h3, hc _ _ h4, hc _ _ h5, hc _ _ h6, hl, TreesAt.keep hc _ _ _ h7⟩, ih _ _ h8⟩
theorem BindsAt.below {w w' : World} {l : List BindD} {a : Option Addr} {i : Nat} (h : BindsAt w l a i) (hb : Below w.heap.size w w') : BindsAt w' l a i :=
  BindsAt.keep (fun _ _ hc => cell_below hc hb) l a i h
theorem BindsAt.drew {w : World} {l : List BindD} {a : Option Addr} {i : Nat} (h : BindsAt w l a i) : BindsAt w.drew l a i :=
  BindsAt.keep (w := w) (w' := w.drew) (fun _ _ hc => hc) l a i h
theorem five_cells {w : World} {b : Nat} {x y z u v : Value} {T : TypeId} (h : w.heap[b]? = some (.cells #[x, y, z, u, v] T (0, 0))) : w.cell? ⟨b, 0, none⟩ = some x ∧ w.cell? ⟨b, 1, none⟩ = some y ∧ w.cell? ⟨b, 2, none⟩ = some z ∧ w.cell? ⟨b, 3, none⟩ = some u ∧ w.cell? ⟨b, 4, none⟩ = some v ∧ w.frozen? ⟨b, 0, none⟩ = false ∧ w.frozen? ⟨b, 1, none⟩ = false ∧ w.frozen? ⟨b, 2, none⟩ = false ∧ w.frozen? ⟨b, 3, none⟩ = false ∧ w.frozen? ⟨b, 4, none⟩ = false := by
  refine ⟨?_, ?_, ?_, ?_, ?_, ?_, ?_, ?_, ?_, ?_⟩ <;> simp [World.cell?, World.frozen?, h]
theorem five_set {w : World} {b : Nat} {x y z u s : Value} {T : TypeId} (h : w.heap[b]? = some (.cells #[x, y, z, u, s] T (0, 0))) (v : Value) : (w.setCell ⟨b, 0, none⟩ v).heap[b]? = some (.cells #[v, y, z, u, s] T (0, 0)) ∧ (w.setCell ⟨b, 1, none⟩ v).heap[b]? = some (.cells #[x, v, z, u, s] T (0, 0)) ∧ (w.setCell ⟨b, 2, none⟩ v).heap[b]? = some (.cells #[x, y, v, u, s] T (0, 0)) ∧ (w.setCell ⟨b, 3, none⟩ v).heap[b]? = some (.cells #[x, y, z, v, s] T (0, 0)) ∧ (w.setCell ⟨b, 4, none⟩ v).heap[b]? = some (.cells #[x, y, z, u, v] T (0, 0)) := by
  refine ⟨?_, ?_, ?_, ?_, ?_⟩ <;> simp [World.setCell, Array.getElem?_modify, h]

/-! In blocks of the call's own. -/
/-- The row in block g from its i-th binding on; bs: the blocks of what is below. -/
def BRow (w : World) : List BindD → Nat → Nat → List Nat → Prop
  | [], _, _, bs => bs = []
  | x :: r, g, i, bs => ∃ v b1 b2, bs = b1 ++ b2 ∧ w.cell? ⟨g, i * 5, none⟩ = some (.string x.nm) ∧ w.cell? ⟨g, i * 5 + 1, none⟩ = some (.int .i64 x.k) ∧ w.cell? ⟨g, i * 5 + 2, none⟩ = some (.int .i64 x.n) ∧ w.cell? ⟨g, i * 5 + 3, none⟩ = some (.string x.t) ∧ w.cell? ⟨g, i * 5 + 4, none⟩ = some v ∧ OwnV w v x.F b1 ∧ BRow w r g (i + 1) b2
theorem BRow.keep {w w' : World} : ∀ (l : List BindD) (g i : Nat) (bs : List Nat), BRow w l g i bs → (∀ o, i * 5 ≤ o → o < (i + l.length) * 5 → w'.cell? ⟨g, o, none⟩ = w.cell? ⟨g, o, none⟩) → (∀ b ∈ bs, w'.heap[b]? = w.heap[b]?) → BRow w' l g i bs := by
  intro l
  induction l with
  | nil => intro g i bs h _ _; exact h
  | cons x r ih =>
    rintro g i bs ⟨v, b1, b2, rfl, h0, h1, h2, h3, h4, ho, hr⟩ hc hb
    simp only [List.length_cons] at hc
    refine ⟨v, b1, b2, rfl, ?_, ?_, ?_, ?_, ?_, ho.keep (fun b hbm => hb b (List.mem_append_left _ hbm)), ih g (i + 1) b2 hr (fun o ho1 ho2 => hc o (by omega) (by omega)) (fun b hbm => hb b (List.mem_append_right _ hbm))⟩
    · rw [hc _ (by omega) (by omega)]; exact h0
    · rw [hc _ (by omega) (by omega)]; exact h1
    · rw [hc _ (by omega) (by omega)]; exact h2
    · rw [hc _ (by omega) (by omega)]; exact h3
    · rw [hc _ (by omega) (by omega)]; exact h4
theorem BRow.append {w : World} : ∀ (A B : List BindD) (g i : Nat) (bs : List Nat), BRow w (A ++ B) g i bs ↔ ∃ b1 b2, bs = b1 ++ b2 ∧ BRow w A g i b1 ∧ BRow w B g (i + A.length) b2 := by
  intro A
  induction A with
  | nil =>
    intro B g i bs
    constructor
    · intro h; exact ⟨[], bs, rfl, rfl, h⟩
    · rintro ⟨b1, b2, rfl, rfl, h⟩; exact h
  | cons x r ih =>
    intro B g i bs
    constructor
    · rintro ⟨v, b1, b2, rfl, h0, h1, h2, h3, h4, ho, hr⟩
      obtain ⟨c1, c2, rfl, e1, e2⟩ := (ih B g (i + 1) b2).1 hr
      refine ⟨b1 ++ c1, c2, by simp, ⟨v, b1, c1, rfl, h0, h1, h2, h3, h4, ho, e1⟩, ?_⟩
      rw [show i + (x :: r).length = i + 1 + r.length by simp only [List.length_cons]; omega]
      exact e2
    · rintro ⟨b0, c2, rfl, ⟨v, b1, c1, rfl, h0, h1, h2, h3, h4, ho, e1⟩, e2⟩
      refine ⟨v, b1, c1 ++ c2, by simp, h0, h1, h2, h3, h4, ho, (ih B g (i + 1) _).2 ⟨c1, c2, rfl, e1, ?_⟩⟩
      rw [show i + 1 + r.length = i + (x :: r).length by simp only [List.length_cons]; omega]
      exact e2
theorem bind_field (g i j : Nat) : bindAt ⟨g, 0, none⟩ i j = ⟨g, i * 5 + j, none⟩ := by
  unfold bindAt Addr.add
  by_cases hi : i * 5 = 0
  · rw [if_pos hi, hi]
  · rw [if_neg hi]; simp
theorem bind_first (g i : Nat) : (⟨g, 0, none⟩ : Addr).add (i * 5) = ⟨g, i * 5, none⟩ := by
  unfold Addr.add
  by_cases hi : i * 5 = 0
  · rw [if_pos hi, hi]
  · rw [if_neg hi]; simp
theorem BRow.reads {w : World} : ∀ (l : List BindD) (g i : Nat) (bs : List Nat), BRow w l g i bs → BindsAt w l (some ⟨g, 0, none⟩) i := by
  intro l
  induction l with
  | nil => intro _ _ _ _; trivial
  | cons x r ih =>
    rintro g i bs ⟨v, b1, b2, rfl, h0, h1, h2, h3, h4, ho, hr⟩
    refine ⟨?_, ih g (i + 1) b2 hr⟩
    obtain ⟨p, cap, rfl, hl, hp⟩ := ho.reads
    refine ⟨⟨g, 0, none⟩, p, cap, rfl, ?_, ?_, ?_, ?_, ?_, hl, hp⟩
    · rw [bind_first]; exact h0
    · rw [bind_field]; exact h1
    · rw [bind_field]; exact h2
    · rw [bind_field]; exact h3
    · rw [bind_field]; exact h4
/-- v is a slice that reads as the bindings l, in the blocks bs. -/
def OwnB (w : World) (v : Value) (l : List BindD) (bs : List Nat) : Prop :=
  (∃ a cap, v = .slice a 0 cap ∧ l = [] ∧ bs = []) ∨ ∃ g cap b', v = .slice (some ⟨g, 0, none⟩) l.length cap ∧ l.length ≤ cap ∧ bs = g :: b' ∧ (∃ cs, w.heap[g]? = some (.cells cs 88 (0, 0))) ∧ BRow w l g 0 b'
theorem OwnB.keep {w w' : World} {v : Value} {l : List BindD} {bs : List Nat} (h : OwnB w v l bs) (hb : ∀ b ∈ bs, w'.heap[b]? = w.heap[b]?) : OwnB w' v l bs := by
  rcases h with h | ⟨g, cap, b', e1, hl, rfl, ⟨cs, hn⟩, hrow⟩
  · exact .inl h
  · have hg : w'.heap[g]? = w.heap[g]? := hb g (by simp)
    exact .inr ⟨g, cap, b', e1, hl, rfl, ⟨cs, hg.trans hn⟩, hrow.keep l g 0 b' (fun o _ _ => World.cell?_of_block hg) (fun b hbm => hb b (by simp [hbm]))⟩
theorem OwnB.reads {w : World} {v : Value} {l : List BindD} {bs : List Nat} (h : OwnB w v l bs) : ∃ p cap, v = .slice p l.length cap ∧ l.length ≤ cap ∧ BindsAt w l p 0 := by
  rcases h with ⟨a, cap, e1, rfl, _⟩ | ⟨g, cap, b', e1, hl, _, _, hrow⟩
  · exact ⟨a, cap, e1, Nat.zero_le _, trivial⟩
  · exact ⟨_, cap, e1, hl, hrow.reads l g 0 b'⟩

/-! A binding's cells, set. -/
def put5 (w : World) (g k : Nat) (u0 u1 u2 u3 u4 : Value) : World := ((((w.setCell ⟨g, k * 5, none⟩ u0).setCell ⟨g, k * 5 + 1, none⟩ u1).setCell ⟨g, k * 5 + 2, none⟩ u2).setCell ⟨g, k * 5 + 3, none⟩ u3).setCell ⟨g, k * 5 + 4, none⟩ u4
theorem put5_other (w : World) (g k : Nat) (u0 u1 u2 u3 u4 : Value) (b : Nat) (h : b ≠ g) : (put5 w g k u0 u1 u2 u3 u4).heap[b]? = w.heap[b]? := by
  unfold put5
  rw [Below.heap_setCell _ _ _ _ h, Below.heap_setCell _ _ _ _ h, Below.heap_setCell _ _ _ _ h, Below.heap_setCell _ _ _ _ h, Below.heap_setCell _ _ _ _ h]
theorem put5_size (w : World) (g k : Nat) (u0 u1 u2 u3 u4 : Value) : (put5 w g k u0 u1 u2 u3 u4).heap.size = w.heap.size := by simp [put5, World.setCell]
theorem put5_below {B : Nat} {a w : World} (h : Below B a w) (g k : Nat) (u0 u1 u2 u3 u4 : Value) (hg : B ≤ g) : Below B a (put5 w g k u0 u1 u2 u3 u4) :=
  ((((h.setCell (p := ⟨g, k * 5, none⟩) hg u0).setCell (p := ⟨g, k * 5 + 1, none⟩) hg u1).setCell (p := ⟨g, k * 5 + 2, none⟩) hg u2).setCell (p := ⟨g, k * 5 + 3, none⟩) hg u3).setCell (p := ⟨g, k * 5 + 4, none⟩) hg u4
theorem put5_block {w : World} {g : Nat} {cs : Array Value} {T : TypeId} (h : w.heap[g]? = some (.cells cs T (0, 0))) (k : Nat) (u0 u1 u2 u3 u4 : Value) :
    (put5 w g k u0 u1 u2 u3 u4).heap[g]? = some (.cells (((((cs.setIfInBounds (k * 5) u0).setIfInBounds (k * 5 + 1) u1).setIfInBounds (k * 5 + 2) u2).setIfInBounds (k * 5 + 3) u3).setIfInBounds (k * 5 + 4) u4) T (0, 0)) := by
  simp [put5, World.setCell, Array.getElem?_modify, h]
/-- The cells of a binding in a block of cells. -/
theorem bind_cells {w : World} {g : Nat} {cs : Array Value} {T : TypeId} (h : w.heap[g]? = some (.cells cs T (0, 0))) (k n : Nat) (hs : cs.size = n * 5) (hk : k < n) :
    ∃ x0 x1 x2 x3 x4, w.cell? ⟨g, k * 5, none⟩ = some x0 ∧ w.cell? ⟨g, k * 5 + 1, none⟩ = some x1 ∧ w.cell? ⟨g, k * 5 + 2, none⟩ = some x2 ∧ w.cell? ⟨g, k * 5 + 3, none⟩ = some x3 ∧ w.cell? ⟨g, k * 5 + 4, none⟩ = some x4 ∧
      w.frozen? ⟨g, k * 5, none⟩ = false ∧ w.frozen? ⟨g, k * 5 + 1, none⟩ = false ∧ w.frozen? ⟨g, k * 5 + 2, none⟩ = false ∧ w.frozen? ⟨g, k * 5 + 3, none⟩ = false ∧ w.frozen? ⟨g, k * 5 + 4, none⟩ = false := by
  have e : ∀ o, o < n * 5 → ∃ x, w.cell? ⟨g, o, none⟩ = some x := fun o ho => ⟨cs[o]'(by omega), by simp [World.cell?, h, hs, ho]⟩
  obtain ⟨x0, h0⟩ := e (k * 5) (by omega)
  obtain ⟨x1, h1⟩ := e (k * 5 + 1) (by omega)
  obtain ⟨x2, h2⟩ := e (k * 5 + 2) (by omega)
  obtain ⟨x3, h3⟩ := e (k * 5 + 3) (by omega)
  obtain ⟨x4, h4⟩ := e (k * 5 + 4) (by omega)
  refine ⟨x0, x1, x2, x3, x4, h0, h1, h2, h3, h4, ?_, ?_, ?_, ?_, ?_⟩ <;> simp [World.frozen?, h]
theorem put5_cells {w : World} {g : Nat} {cs : Array Value} {T : TypeId} (h : w.heap[g]? = some (.cells cs T (0, 0))) (k n : Nat) (hs : cs.size = n * 5) (hk : k < n) (u0 u1 u2 u3 u4 : Value) :
    (put5 w g k u0 u1 u2 u3 u4).cell? ⟨g, k * 5, none⟩ = some u0 ∧ (put5 w g k u0 u1 u2 u3 u4).cell? ⟨g, k * 5 + 1, none⟩ = some u1 ∧ (put5 w g k u0 u1 u2 u3 u4).cell? ⟨g, k * 5 + 2, none⟩ = some u2 ∧ (put5 w g k u0 u1 u2 u3 u4).cell? ⟨g, k * 5 + 3, none⟩ = some u3 ∧ (put5 w g k u0 u1 u2 u3 u4).cell? ⟨g, k * 5 + 4, none⟩ = some u4 ∧
      ∀ o, (o < k * 5 ∨ k * 5 + 5 ≤ o) → (put5 w g k u0 u1 u2 u3 u4).cell? ⟨g, o, none⟩ = w.cell? ⟨g, o, none⟩ := by
  have hb := put5_block h k u0 u1 u2 u3 u4
  have l0 : k * 5 < cs.size := by omega
  have l1 : k * 5 + 1 < cs.size := by omega
  have l2 : k * 5 + 2 < cs.size := by omega
  have l3 : k * 5 + 3 < cs.size := by omega
  have l4 : k * 5 + 4 < cs.size := by omega
  refine ⟨?_, ?_, ?_, ?_, ?_, ?_⟩
  · simp [World.cell?, hb, l0]
  · simp [World.cell?, hb, l1]
  · simp [World.cell?, hb, l2]
  · simp [World.cell?, hb, l3]
  · simp [World.cell?, hb, l4]
  · intro o ho
    have e : (((((cs.setIfInBounds (k * 5) u0).setIfInBounds (k * 5 + 1) u1).setIfInBounds (k * 5 + 2) u2).setIfInBounds (k * 5 + 3) u3).setIfInBounds (k * 5 + 4) u4)[o]? = cs[o]? := by
      rw [Array.getElem?_setIfInBounds_ne (by omega), Array.getElem?_setIfInBounds_ne (by omega), Array.getElem?_setIfInBounds_ne (by omega), Array.getElem?_setIfInBounds_ne (by omega), Array.getElem?_setIfInBounds_ne (by omega)]
    simp only [World.cell?, hb, h, e]
/-- A row of n that is being filled in block g, which was new in w. -/
def FillB (w : World) (g n : Nat) (pre : List BindD) (w' : World) : Prop :=
  ∃ cs bs, w'.heap[g]? = some (.cells cs 88 (0, 0)) ∧ cs.size = n * 5 ∧ BRow w' pre g 0 bs ∧ bs.Nodup ∧ (∀ b ∈ bs, g < b ∧ b < w'.heap.size) ∧ Below w.heap.size w w' ∧ w.heap.size ≤ g ∧ g < w'.heap.size
theorem FillB.below {w : World} {g n : Nat} {pre : List BindD} {w' : World} (h : FillB w g n pre w') : Below w.heap.size w w' := by
  obtain ⟨_, _, _, _, _, _, _, h, _⟩ := h
  exact h
theorem FillB.step {w : World} {g n : Nat} {pre : List BindD} {w' w1 : World} {x : BindD} {v : Value} {b1 : List Nat} (h : FillB w g n pre w') (hk : pre.length < n) (hb : Below w'.heap.size w' w1) (ho : OwnV w1 v x.F b1) (hnd : b1.Nodup) (hnew : ∀ b ∈ b1, w'.heap.size ≤ b ∧ b < w1.heap.size) :
    ∃ x0 x1 x2 x3 x4, w1.cell? ⟨g, pre.length * 5, none⟩ = some x0 ∧ w1.cell? ⟨g, pre.length * 5 + 1, none⟩ = some x1 ∧ w1.cell? ⟨g, pre.length * 5 + 2, none⟩ = some x2 ∧ w1.cell? ⟨g, pre.length * 5 + 3, none⟩ = some x3 ∧ w1.cell? ⟨g, pre.length * 5 + 4, none⟩ = some x4 ∧
      w1.frozen? ⟨g, pre.length * 5, none⟩ = false ∧ w1.frozen? ⟨g, pre.length * 5 + 1, none⟩ = false ∧ w1.frozen? ⟨g, pre.length * 5 + 2, none⟩ = false ∧ w1.frozen? ⟨g, pre.length * 5 + 3, none⟩ = false ∧ w1.frozen? ⟨g, pre.length * 5 + 4, none⟩ = false ∧
      FillB w g n (pre ++ [x]) (put5 w1 g pre.length (.string x.nm) (.int .i64 x.k) (.int .i64 x.n) (.string x.t) v) := by
  obtain ⟨cs, bs, hc, hs, hr, hn, hbs, hB, hg, hgl⟩ := h
  have hs1 := hb.size
  have hc1 : w1.heap[g]? = some (.cells cs 88 (0, 0)) := (hb.block g hgl).trans hc
  obtain ⟨x0, x1, x2, x3, x4, c0, c1, c2, c3, c4, f0, f1, f2, f3, f4⟩ := bind_cells hc1 pre.length n hs hk
  refine ⟨x0, x1, x2, x3, x4, c0, c1, c2, c3, c4, f0, f1, f2, f3, f4, ?_⟩
  obtain ⟨d0, d1, d2, d3, d4, d5⟩ := put5_cells hc1 pre.length n hs hk (.string x.nm) (.int .i64 x.k) (.int .i64 x.n) (.string x.t) v
  have hot : ∀ b, b ≠ g → (put5 w1 g pre.length (.string x.nm) (.int .i64 x.k) (.int .i64 x.n) (.string x.t) v).heap[b]? = w1.heap[b]? := fun b hne => put5_other _ _ _ _ _ _ _ _ b hne
  have hr1 : BRow (put5 w1 g pre.length (.string x.nm) (.int .i64 x.k) (.int .i64 x.n) (.string x.t) v) pre g 0 bs := by
    refine hr.keep pre g 0 bs (fun o _ ho2 => ?_) (fun b hbm => ?_)
    · rw [d5 o (.inl (by omega))]
      exact World.cell?_of_block (hb.block g hgl)
    · have := hbs b hbm
      rw [hot b (by omega), hb.block b this.2]
  have ho1 : OwnV (put5 w1 g pre.length (.string x.nm) (.int .i64 x.k) (.int .i64 x.n) (.string x.t) v) v x.F b1 := ho.keep (fun b hbm => hot b (by have := hnew b hbm; omega))
  refine ⟨_, bs ++ b1, put5_block hc1 _ _ _ _ _ _, by simp [hs], ?_, ?_, ?_, put5_below (hB.trans (hb.mono hB.size)) _ _ _ _ _ _ _ hg, hg, by rw [put5_size]; omega⟩
  · refine (BRow.append _ _ _ _ _).2 ⟨bs, b1, rfl, hr1, v, b1, [], by simp, ?_, ?_, ?_, ?_, ?_, ho1, rfl⟩
    · rw [Nat.zero_add]; exact d0
    · rw [Nat.zero_add]; exact d1
    · rw [Nat.zero_add]; exact d2
    · rw [Nat.zero_add]; exact d3
    · rw [Nat.zero_add]; exact d4
  · refine List.nodup_append.2 ⟨hn, hnd, fun b hb1 c hc1 => ?_⟩
    have := hbs b hb1
    have := hnew c hc1
    omega
  · intro b hbm
    rw [put5_size]
    rcases List.mem_append.1 hbm with h | h
    · have := hbs b h
      omega
    · have := hnew b h
      omega
theorem FillB.done {w : World} {g n : Nat} {l : List BindD} {w' : World} (h : FillB w g n l w') (hn : l.length = n) (cap : Nat) (hcap : n ≤ cap) : ∃ bs, OwnB w' (.slice (some ⟨g, 0, none⟩) n cap) l bs ∧ bs.Nodup ∧ ∀ b ∈ bs, w.heap.size ≤ b ∧ b < w'.heap.size := by
  obtain ⟨cs, bs, hc, hs, hr, hnd, hbs, hB, hg, hgl⟩ := h
  refine ⟨g :: bs, .inr ⟨g, cap, bs, by rw [hn], by omega, rfl, ⟨cs, hc⟩, hr⟩, ?_, ?_⟩
  · refine List.nodup_cons.2 ⟨fun hm => ?_, hnd⟩
    have := hbs g hm
    omega
  · intro b hbm
    rcases List.mem_cons.1 hbm with rfl | h
    · exact ⟨hg, hgl⟩
    · have := hbs b h
      omega
end Go.Proofs.Ytdifefgigcjgeaa
