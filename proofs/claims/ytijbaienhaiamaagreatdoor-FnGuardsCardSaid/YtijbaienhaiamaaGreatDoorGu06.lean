/- What is proved here: a piece of the proof of YtijbaienhaiamaaGreatDoorGuards (Binds, BindGrow, SigMem, SpecCon, SpecType). Condition: none beyond what each part says. -/
import Derived.Test.YtijbaienhaiamaaGreatDoorGu02
import Derived.Test.YtijbaienhaiamaaGreatDoorGu01
import Derived.Deep.AppendLies
import Derived.Test.YtijbaienhaiamaaGreatDoorGu05
import Derived.Laws.Rows
import Derived.Deep.RegionLaw

/- What is proved here: rows of bindings (a name and a value) as they lie in memory; in blocks of the call's own; filled. No condition. -/
section
namespace Go.Proofs.YtijbaienhaiamaaGreatDoor
open Go.RowKit

structure BindD where
  nm : ByteArray
  k : Int
  n : Int
  t : ByteArray
  F : Trees
/-- What a machine can have. -/
def BindD.fits (x : BindD) : Prop := x.nm.size ≤ maxLen ∧ (-9223372036854775808 ≤ x.k ∧ x.k ≤ 9223372036854775807) ∧ (-9223372036854775808 ≤ x.n ∧ x.n ≤ 9223372036854775807) ∧ x.t.size ≤ maxLen ∧ x.F.length ≤ maxLen ∧ x.F.fits
def BindD.size (x : BindD) : Nat := x.nm.size + (x.t.size + x.F.size)
def bindsIn (l : List BindD) : Nat := (l.map BindD.size).sum
/-- The places that the bindings take. -/
def bindsSize (l : List BindD) : Nat := l.length + bindsIn l
abbrev bindAt (y : Addr) (i j : Nat) : Addr := { block := (y.add (i * 5)).block, off := (y.add (i * 5)).off + j }
/-- The row at a, from its i-th binding on, reads as said. -/
def BindsAt (w : World) : List BindD → Option Addr → Nat → Prop
  | [], _, _ => True
  | x :: r, a, i => (∃ y p cap, a = some y ∧ w.cell? (y.add (i * 5)) = some (.string x.nm) ∧ w.cell? (bindAt y i 1) = some (.int .i64 x.k) ∧ w.cell? (bindAt y i 2) = some (.int .i64 x.n) ∧ w.cell? (bindAt y i 3) = some (.string x.t) ∧ w.cell? (bindAt y i 4) = some (.slice p x.F.length cap) ∧ x.F.length ≤ cap ∧ TreesAt w x.F p 0) ∧ BindsAt w r a (i + 1)
theorem BindsAt.keep {w w' : World} (hc : ∀ p v, w.cell? p = some v → w'.cell? p = some v) : ∀ (l : List BindD) (a : Option Addr) (i : Nat), BindsAt w l a i → BindsAt w' l a i := by
  intro l
  induction l with
  | nil => intro _ _ _; trivial
  | cons x r ih =>
    rintro a i ⟨⟨y, p, cap, h1, h2, h3, h4, h5, h6, hl, h7⟩, h8⟩
    exact ⟨⟨y, p, cap, h1, hc _ _ h2, hc _ _ h3, hc _ _ h4, hc _ _ h5, hc _ _ h6, hl, TreesAt.keep hc _ _ _ h7⟩, ih _ _ h8⟩
theorem BindsAt.below {w w' : World} {l : List BindD} {a : Option Addr} {i : Nat} (h : BindsAt w l a i) (hb : Below w.heap.size w w') : BindsAt w' l a i :=
  BindsAt.keep (fun _ _ hc => cell_below hc hb) l a i h
theorem BindsAt.drew {w : World} {l : List BindD} {a : Option Addr} {i : Nat} (h : BindsAt w l a i) : BindsAt w.drew l a i :=
  BindsAt.keep (w := w) (w' := w.drew) (fun _ _ hc => hc) l a i h
theorem five_cells {w : World} {b : Nat} {x y z u v : Value} {T : TypeId} (h : w.heap[b]? = some (.cells #[x, y, z, u, v] T (0, 0))) : w.cell? ⟨b, 0, none⟩ = some x ∧ w.cell? ⟨b, 1, none⟩ = some y ∧ w.cell? ⟨b, 2, none⟩ = some z ∧ w.cell? ⟨b, 3, none⟩ = some u ∧ w.cell? ⟨b, 4, none⟩ = some v ∧ w.frozen? ⟨b, 0, none⟩ = false ∧ w.frozen? ⟨b, 1, none⟩ = false ∧ w.frozen? ⟨b, 2, none⟩ = false ∧ w.frozen? ⟨b, 3, none⟩ = false ∧ w.frozen? ⟨b, 4, none⟩ = false := by
  refine ⟨?_, ?_, ?_, ?_, ?_, ?_, ?_, ?_, ?_, ?_⟩ <;> simp [World.cell?, World.frozen?, h]
theorem five_set {w : World} {b : Nat} {x y z u s : Value} {T : TypeId} (h : w.heap[b]? = some (.cells #[x, y, z, u, s] T (0, 0))) (v : Value) : (w.setCell ⟨b, 0, none⟩ v).heap[b]? = some (.cells #[v, y, z, u, s] T (0, 0)) ∧ (w.setCell ⟨b, 1, none⟩ v).heap[b]? = some (.cells #[x, v, z, u, s] T (0, 0)) ∧ (w.setCell ⟨b, 2, none⟩ v).heap[b]? = some (.cells #[x, y, v, u, s] T (0, 0)) ∧ (w.setCell ⟨b, 3, none⟩ v).heap[b]? = some (.cells #[x, y, z, v, s] T (0, 0)) ∧ (w.setCell ⟨b, 4, none⟩ v).heap[b]? = some (.cells #[x, y, z, u, v] T (0, 0)) := by
  refine ⟨?_, ?_, ?_, ?_, ?_⟩ <;> simp [World.setCell, Array.getElem?_modify, h]

/-! In blocks of the call's own. -/
/-- The row in block g from its i-th binding on; bs: the blocks of what is below. -/
def BRow (w : World) : List BindD → Nat → Nat → List Nat → Prop
  | [], _, _, bs => bs = []
  | x :: r, g, i, bs => ∃ v b1 b2, bs = b1 ++ b2 ∧ w.cell? ⟨g, i * 5, none⟩ = some (.string x.nm) ∧ w.cell? ⟨g, i * 5 + 1, none⟩ = some (.int .i64 x.k) ∧ w.cell? ⟨g, i * 5 + 2, none⟩ = some (.int .i64 x.n) ∧ w.cell? ⟨g, i * 5 + 3, none⟩ = some (.string x.t) ∧ w.cell? ⟨g, i * 5 + 4, none⟩ = some v ∧ OwnV w v x.F b1 ∧ BRow w r g (i + 1) b2
theorem BRow.keep {w w' : World} : ∀ (l : List BindD) (g i : Nat) (bs : List Nat), BRow w l g i bs → (∀ o, i * 5 ≤ o → o < (i + l.length) * 5 → w'.cell? ⟨g, o, none⟩ = w.cell? ⟨g, o, none⟩) → (∀ b ∈ bs, w'.heap[b]? = w.heap[b]?) → BRow w' l g i bs := by
  intro l
  induction l with
  | nil => intro g i bs h _ _; exact h
  | cons x r ih =>
    rintro g i bs ⟨v, b1, b2, rfl, h0, h1, h2, h3, h4, ho, hr⟩ hc hb
    simp only [List.length_cons] at hc
    refine ⟨v, b1, b2, rfl, ?_, ?_, ?_, ?_, ?_, ho.keep (fun b hbm => hb b (List.mem_append_left _ hbm)), ih g (i + 1) b2 hr (fun o ho1 ho2 => hc o (by omega) (by omega)) (fun b hbm => hb b (List.mem_append_right _ hbm))⟩
    · rw [hc _ (by omega) (by omega)]; exact h0
    · rw [hc _ (by omega) (by omega)]; exact h1
    · rw [hc _ (by omega) (by omega)]; exact h2
    · rw [hc _ (by omega) (by omega)]; exact h3
    · rw [hc _ (by omega) (by omega)]; exact h4
theorem BRow.append {w : World} : ∀ (A B : List BindD) (g i : Nat) (bs : List Nat), BRow w (A ++ B) g i bs ↔ ∃ b1 b2, bs = b1 ++ b2 ∧ BRow w A g i b1 ∧ BRow w B g (i + A.length) b2 := by
  intro A
  induction A with
  | nil =>
    intro B g i bs
    constructor
    · intro h; exact ⟨[], bs, rfl, rfl, h⟩
    · rintro ⟨b1, b2, rfl, rfl, h⟩; exact h
  | cons x r ih =>
    intro B g i bs
    constructor
    · rintro ⟨v, b1, b2, rfl, h0, h1, h2, h3, h4, ho, hr⟩
      obtain ⟨c1, c2, rfl, e1, e2⟩ := (ih B g (i + 1) b2).1 hr
      refine ⟨b1 ++ c1, c2, by simp, ⟨v, b1, c1, rfl, h0, h1, h2, h3, h4, ho, e1⟩, ?_⟩
      rw [show i + (x :: r).length = i + 1 + r.length by simp only [List.length_cons]; omega]
      exact e2
    · rintro ⟨b0, c2, rfl, ⟨v, b1, c1, rfl, h0, h1, h2, h3, h4, ho, e1⟩, e2⟩
      refine ⟨v, b1, c1 ++ c2, by simp, h0, h1, h2, h3, h4, ho, (ih B g (i + 1) _).2 ⟨c1, c2, rfl, e1, ?_⟩⟩
      rw [show i + 1 + r.length = i + (x :: r).length by simp only [List.length_cons]; omega]
      exact e2
theorem bind_field (g i j : Nat) : bindAt ⟨g, 0, none⟩ i j = ⟨g, i * 5 + j, none⟩ := by
  unfold bindAt Addr.add
  by_cases hi : i * 5 = 0
  · rw [if_pos hi, hi]
  · rw [if_neg hi]; simp
theorem bind_first (g i : Nat) : (⟨g, 0, none⟩ : Addr).add (i * 5) = ⟨g, i * 5, none⟩ := by
  unfold Addr.add
  by_cases hi : i * 5 = 0
  · rw [if_pos hi, hi]
  · rw [if_neg hi]; simp
theorem BRow.reads {w : World} : ∀ (l : List BindD) (g i : Nat) (bs : List Nat), BRow w l g i bs → BindsAt w l (some ⟨g, 0, none⟩) i := by
  intro l
  induction l with
  | nil => intro _ _ _ _; trivial
  | cons x r ih =>
    rintro g i bs ⟨v, b1, b2, rfl, h0, h1, h2, h3, h4, ho, hr⟩
    refine ⟨?_, ih g (i + 1) b2 hr⟩
    obtain ⟨p, cap, rfl, hl, hp⟩ := ho.reads
    refine ⟨⟨g, 0, none⟩, p, cap, rfl, ?_, ?_, ?_, ?_, ?_, hl, hp⟩
    · rw [bind_first]; exact h0
    · rw [bind_field]; exact h1
    · rw [bind_field]; exact h2
    · rw [bind_field]; exact h3
    · rw [bind_field]; exact h4
/-- v is a slice that reads as the bindings l, in the blocks bs. -/
def OwnB (w : World) (v : Value) (l : List BindD) (bs : List Nat) : Prop :=
  (∃ a cap, v = .slice a 0 cap ∧ l = [] ∧ bs = []) ∨ ∃ g cap b', v = .slice (some ⟨g, 0, none⟩) l.length cap ∧ l.length ≤ cap ∧ bs = g :: b' ∧ (∃ cs, w.heap[g]? = some (.cells cs 68 (0, 0))) ∧ BRow w l g 0 b'
theorem OwnB.keep {w w' : World} {v : Value} {l : List BindD} {bs : List Nat} (h : OwnB w v l bs) (hb : ∀ b ∈ bs, w'.heap[b]? = w.heap[b]?) : OwnB w' v l bs := by
  rcases h with h | ⟨g, cap, b', e1, hl, rfl, ⟨cs, hn⟩, hrow⟩
  · exact .inl h
  · have hg : w'.heap[g]? = w.heap[g]? := hb g (by simp)
    exact .inr ⟨g, cap, b', e1, hl, rfl, ⟨cs, hg.trans hn⟩, hrow.keep l g 0 b' (fun o _ _ => World.cell?_of_block hg) (fun b hbm => hb b (by simp [hbm]))⟩
theorem OwnB.reads {w : World} {v : Value} {l : List BindD} {bs : List Nat} (h : OwnB w v l bs) : ∃ p cap, v = .slice p l.length cap ∧ l.length ≤ cap ∧ BindsAt w l p 0 := by
  rcases h with ⟨a, cap, e1, rfl, _⟩ | ⟨g, cap, b', e1, hl, _, _, hrow⟩
  · exact ⟨a, cap, e1, Nat.zero_le _, trivial⟩
  · exact ⟨_, cap, e1, hl, hrow.reads l g 0 b'⟩

/-! A binding's cells, set. -/
def put5 (w : World) (g k : Nat) (u0 u1 u2 u3 u4 : Value) : World := ((((w.setCell ⟨g, k * 5, none⟩ u0).setCell ⟨g, k * 5 + 1, none⟩ u1).setCell ⟨g, k * 5 + 2, none⟩ u2).setCell ⟨g, k * 5 + 3, none⟩ u3).setCell ⟨g, k * 5 + 4, none⟩ u4
theorem put5_other (w : World) (g k : Nat) (u0 u1 u2 u3 u4 : Value) (b : Nat) (h : b ≠ g) : (put5 w g k u0 u1 u2 u3 u4).heap[b]? = w.heap[b]? := by
  unfold put5
  rw [Below.heap_setCell _ _ _ _ h, Below.heap_setCell _ _ _ _ h, Below.heap_setCell _ _ _ _ h, Below.heap_setCell _ _ _ _ h, Below.heap_setCell _ _ _ _ h]
theorem put5_size (w : World) (g k : Nat) (u0 u1 u2 u3 u4 : Value) : (put5 w g k u0 u1 u2 u3 u4).heap.size = w.heap.size := by simp [put5, World.setCell]
theorem put5_below {B : Nat} {a w : World} (h : Below B a w) (g k : Nat) (u0 u1 u2 u3 u4 : Value) (hg : B ≤ g) : Below B a (put5 w g k u0 u1 u2 u3 u4) :=
  ((((h.setCell (p := ⟨g, k * 5, none⟩) hg u0).setCell (p := ⟨g, k * 5 + 1, none⟩) hg u1).setCell (p := ⟨g, k * 5 + 2, none⟩) hg u2).setCell (p := ⟨g, k * 5 + 3, none⟩) hg u3).setCell (p := ⟨g, k * 5 + 4, none⟩) hg u4
theorem put5_block {w : World} {g : Nat} {cs : Array Value} {T : TypeId} (h : w.heap[g]? = some (.cells cs T (0, 0))) (k : Nat) (u0 u1 u2 u3 u4 : Value) :
    (put5 w g k u0 u1 u2 u3 u4).heap[g]? = some (.cells (((((cs.setIfInBounds (k * 5) u0).setIfInBounds (k * 5 + 1) u1).setIfInBounds (k * 5 + 2) u2).setIfInBounds (k * 5 + 3) u3).setIfInBounds (k * 5 + 4) u4) T (0, 0)) := by
  simp [put5, World.setCell, Array.getElem?_modify, h]
/-- The cells of a binding in a block of cells. -/
theorem bind_cells {w : World} {g : Nat} {cs : Array Value} {T : TypeId} (h : w.heap[g]? = some (.cells cs T (0, 0))) (k n : Nat) (hs : cs.size = n * 5) (hk : k < n) :
    ∃ x0 x1 x2 x3 x4, w.cell? ⟨g, k * 5, none⟩ = some x0 ∧ w.cell? ⟨g, k * 5 + 1, none⟩ = some x1 ∧ w.cell? ⟨g, k * 5 + 2, none⟩ = some x2 ∧ w.cell? ⟨g, k * 5 + 3, none⟩ = some x3 ∧ w.cell? ⟨g, k * 5 + 4, none⟩ = some x4 ∧
      w.frozen? ⟨g, k * 5, none⟩ = false ∧ w.frozen? ⟨g, k * 5 + 1, none⟩ = false ∧ w.frozen? ⟨g, k * 5 + 2, none⟩ = false ∧ w.frozen? ⟨g, k * 5 + 3, none⟩ = false ∧ w.frozen? ⟨g, k * 5 + 4, none⟩ = false := by
  have e : ∀ o, o < n * 5 → ∃ x, w.cell? ⟨g, o, none⟩ = some x := fun o ho => ⟨cs[o]'(by omega), by simp [World.cell?, h, hs, ho]⟩
  obtain ⟨x0, h0⟩ := e (k * 5) (by omega)
  obtain ⟨x1, h1⟩ := e (k * 5 + 1) (by omega)
  obtain ⟨x2, h2⟩ := e (k * 5 + 2) (by omega)
  obtain ⟨x3, h3⟩ := e (k * 5 + 3) (by omega)
  obtain ⟨x4, h4⟩ := e (k * 5 + 4) (by omega)
  refine ⟨x0, x1, x2, x3, x4, h0, h1, h2, h3, h4, ?_, ?_, ?_, ?_, ?_⟩ <;> simp [World.frozen?, h]
theorem put5_cells {w : World} {g : Nat} {cs : Array Value} {T : TypeId} (h : w.heap[g]? = some (.cells cs T (0, 0))) (k n : Nat) (hs : cs.size = n * 5) (hk : k < n) (u0 u1 u2 u3 u4 : Value) :
    (put5 w g k u0 u1 u2 u3 u4).cell? ⟨g, k * 5, none⟩ = some u0 ∧ (put5 w g k u0 u1 u2 u3 u4).cell? ⟨g, k * 5 + 1, none⟩ = some u1 ∧ (put5 w g k u0 u1 u2 u3 u4).cell? ⟨g, k * 5 + 2, none⟩ = some u2 ∧ (put5 w g k u0 u1 u2 u3 u4).cell? ⟨g, k * 5 + 3, none⟩ = some u3 ∧ (put5 w g k u0 u1 u2 u3 u4).cell? ⟨g, k * 5 + 4, none⟩ = some u4 ∧
      ∀ o, (o < k * 5 ∨ k * 5 + 5 ≤ o) → (put5 w g k u0 u1 u2 u3 u4).cell? ⟨g, o, none⟩ = w.cell? ⟨g, o, none⟩ := by
  have hb := put5_block h k u0 u1 u2 u3 u4
  have l0 : k * 5 < cs.size := by omega
  have l1 : k * 5 + 1 < cs.size := by omega
  have l2 : k * 5 + 2 < cs.size := by omega
  have l3 : k * 5 + 3 < cs.size := by omega
  have l4 : k * 5 + 4 < cs.size := by omega
  refine ⟨?_, ?_, ?_, ?_, ?_, ?_⟩
  · simp [World.cell?, hb, l0]
  · simp [World.cell?, hb, l1]
  · simp [World.cell?, hb, l2]
  · simp [World.cell?, hb, l3]
  · simp [World.cell?, hb, l4]
  · intro o ho
    have e : (((((cs.setIfInBounds (k * 5) u0).setIfInBounds (k * 5 + 1) u1).setIfInBounds (k * 5 + 2) u2).setIfInBounds (k * 5 + 3) u3).setIfInBounds (k * 5 + 4) u4)[o]? = cs[o]? := by
      rw [Array.getElem?_setIfInBounds_ne (by omega), Array.getElem?_setIfInBounds_ne (by omega), Array.getElem?_setIfInBounds_ne (by omega), Array.getElem?_setIfInBounds_ne (by omega), Array.getElem?_setIfInBounds_ne (by omega)]
    simp only [World.cell?, hb, h, e]
/-- A row of n that is being filled in block g, which was new in w. -/
def FillB (w : World) (g n : Nat) (pre : List BindD) (w' : World) : Prop :=
  ∃ cs bs, w'.heap[g]? = some (.cells cs 68 (0, 0)) ∧ cs.size = n * 5 ∧ BRow w' pre g 0 bs ∧ bs.Nodup ∧ (∀ b ∈ bs, g < b ∧ b < w'.heap.size) ∧ Below w.heap.size w w' ∧ w.heap.size ≤ g ∧ g < w'.heap.size
theorem FillB.below {w : World} {g n : Nat} {pre : List BindD} {w' : World} (h : FillB w g n pre w') : Below w.heap.size w w' := by
  obtain ⟨_, _, _, _, _, _, _, h, _⟩ := h
  exact h
theorem FillB.step {w : World} {g n : Nat} {pre : List BindD} {w' w1 : World} {x : BindD} {v : Value} {b1 : List Nat} (h : FillB w g n pre w') (hk : pre.length < n) (hb : Below w'.heap.size w' w1) (ho : OwnV w1 v x.F b1) (hnd : b1.Nodup) (hnew : ∀ b ∈ b1, w'.heap.size ≤ b ∧ b < w1.heap.size) :
    ∃ x0 x1 x2 x3 x4, w1.cell? ⟨g, pre.length * 5, none⟩ = some x0 ∧ w1.cell? ⟨g, pre.length * 5 + 1, none⟩ = some x1 ∧ w1.cell? ⟨g, pre.length * 5 + 2, none⟩ = some x2 ∧ w1.cell? ⟨g, pre.length * 5 + 3, none⟩ = some x3 ∧ w1.cell? ⟨g, pre.length * 5 + 4, none⟩ = some x4 ∧
      w1.frozen? ⟨g, pre.length * 5, none⟩ = false ∧ w1.frozen? ⟨g, pre.length * 5 + 1, none⟩ = false ∧ w1.frozen? ⟨g, pre.length * 5 + 2, none⟩ = false ∧ w1.frozen? ⟨g, pre.length * 5 + 3, none⟩ = false ∧ w1.frozen? ⟨g, pre.length * 5 + 4, none⟩ = false ∧
      FillB w g n (pre ++ [x]) (put5 w1 g pre.length (.string x.nm) (.int .i64 x.k) (.int .i64 x.n) (.string x.t) v) := by
  obtain ⟨cs, bs, hc, hs, hr, hn, hbs, hB, hg, hgl⟩ := h
  have hs1 := hb.size
  have hc1 : w1.heap[g]? = some (.cells cs 68 (0, 0)) := (hb.block g hgl).trans hc
  obtain ⟨x0, x1, x2, x3, x4, c0, c1, c2, c3, c4, f0, f1, f2, f3, f4⟩ := bind_cells hc1 pre.length n hs hk
  refine ⟨x0, x1, x2, x3, x4, c0, c1, c2, c3, c4, f0, f1, f2, f3, f4, ?_⟩
  obtain ⟨d0, d1, d2, d3, d4, d5⟩ := put5_cells hc1 pre.length n hs hk (.string x.nm) (.int .i64 x.k) (.int .i64 x.n) (.string x.t) v
  have hot : ∀ b, b ≠ g → (put5 w1 g pre.length (.string x.nm) (.int .i64 x.k) (.int .i64 x.n) (.string x.t) v).heap[b]? = w1.heap[b]? := fun b hne => put5_other _ _ _ _ _ _ _ _ b hne
  have hr1 : BRow (put5 w1 g pre.length (.string x.nm) (.int .i64 x.k) (.int .i64 x.n) (.string x.t) v) pre g 0 bs := by
    refine hr.keep pre g 0 bs (fun o _ ho2 => ?_) (fun b hbm => ?_)
    · rw [d5 o (.inl (by omega))]
      exact World.cell?_of_block (hb.block g hgl)
    · have := hbs b hbm
      rw [hot b (by omega), hb.block b this.2]
  have ho1 : OwnV (put5 w1 g pre.length (.string x.nm) (.int .i64 x.k) (.int .i64 x.n) (.string x.t) v) v x.F b1 := ho.keep (fun b hbm => hot b (by have := hnew b hbm; omega))
  refine ⟨_, bs ++ b1, put5_block hc1 _ _ _ _ _ _, by simp [hs], ?_, ?_, ?_, put5_below (hB.trans (hb.mono hB.size)) _ _ _ _ _ _ _ hg, hg, by rw [put5_size]; omega⟩
  · refine (BRow.append _ _ _ _ _).2 ⟨bs, b1, rfl, hr1, v, b1, [], by simp, ?_, ?_, ?_, ?_, ?_, ho1, rfl⟩
    · rw [Nat.zero_add]; exact d0
    · rw [Nat.zero_add]; exact d1
    · rw [Nat.zero_add]; exact d2
    · rw [Nat.zero_add]; exact d3
    · rw [Nat.zero_add]; exact d4
  · refine List.nodup_append.2 ⟨hn, hnd, fun b hb1 c hc1 => ?_⟩
    have := hbs b hb1
    have := hnew c hc1
    omega
  · intro b hbm
    rw [put5_size]
    rcases List.mem_append.1 hbm with h | h
    · have := hbs b h
      omega
    · have := hnew b h
      omega
theorem FillB.done {w : World} {g n : Nat} {l : List BindD} {w' : World} (h : FillB w g n l w') (hn : l.length = n) (cap : Nat) (hcap : n ≤ cap) : ∃ bs, OwnB w' (.slice (some ⟨g, 0, none⟩) n cap) l bs ∧ bs.Nodup ∧ ∀ b ∈ bs, w.heap.size ≤ b ∧ b < w'.heap.size := by
  obtain ⟨cs, bs, hc, hs, hr, hnd, hbs, hB, hg, hgl⟩ := h
  refine ⟨g :: bs, .inr ⟨g, cap, bs, by rw [hn], by omega, rfl, ⟨cs, hc⟩, hr⟩, ?_, ?_⟩
  · refine List.nodup_cons.2 ⟨fun hm => ?_, hnd⟩
    have := hbs g hm
    omega
  · intro b hbm
    rcases List.mem_cons.1 hbm with rfl | h
    · exact ⟨hg, hgl⟩
    · have := hbs b h
      omega
end Go.Proofs.YtijbaienhaiamaaGreatDoor
end

/- What is proved here: a row of bindings without parts that append makes longer, in a block of the call's own. No condition. -/
section
namespace Go.Proofs.YtijbaienhaiamaaGreatDoor
open Go.RowKit

/-- The cells of a row of bindings whose values have no parts. -/
def Flat : List BindD → List Value → Prop
  | [], xs => xs = []
  | x :: r, xs => ∃ a c ys, x.F = .nil ∧ xs = .string x.nm :: .int .i64 x.k :: .int .i64 x.n :: .string x.t :: .slice a 0 c :: ys ∧ Flat r ys
theorem Flat.length : ∀ (l : List BindD) (xs : List Value), Flat l xs → xs.length = l.length * 5 := by
  intro l
  induction l with
  | nil => rintro xs rfl; rfl
  | cons x r ih =>
    rintro xs ⟨a, c, ys, _, rfl, h⟩
    have := ih ys h
    simp
    omega
theorem Flat.snoc {x : BindD} (hx : x.F = .nil) (a : Option Addr) (c : Nat) : ∀ (l : List BindD) (xs : List Value), Flat l xs → Flat (l ++ [x]) (xs ++ [.string x.nm, .int .i64 x.k, .int .i64 x.n, .string x.t, .slice a 0 c]) := by
  intro l
  induction l with
  | nil => rintro xs rfl; exact ⟨a, c, [], hx, rfl, rfl⟩
  | cons y r ih =>
    rintro xs ⟨a2, c2, ys, h1, rfl, h⟩
    exact ⟨a2, c2, _, h1, rfl, ih ys h⟩
theorem Flat.reads {w : World} {g : Nat} : ∀ (l : List BindD) (xs : List Value) (i : Nat), Flat l xs → (∀ o, o < xs.length → w.cell? ⟨g, i * 5 + o, none⟩ = xs[o]?) → BindsAt w l (some ⟨g, 0, none⟩) i := by
  intro l
  induction l with
  | nil => intro _ _ _ _; trivial
  | cons x r ih =>
    rintro xs i ⟨a, c, ys, hF, rfl, h⟩ hc
    refine ⟨⟨⟨g, 0, none⟩, a, c, rfl, ?_, ?_, ?_, ?_, ?_, ?_, ?_⟩, ih ys (i + 1) h (fun o ho => ?_)⟩
    · rw [bind_first]; have := hc 0 (by simp); simpa using this
    · rw [bind_field]; have := hc 1 (by simp); simpa using this
    · rw [bind_field]; have := hc 2 (by simp); simpa using this
    · rw [bind_field]; have := hc 3 (by simp); simpa using this
    · rw [bind_field, hF]; have := hc 4 (by simp); simpa [Trees.length] using this
    · rw [hF]; exact Nat.zero_le _
    · rw [hF]; trivial
    · have := hc (o + 5) (by simp; omega)
      rw [show (i + 1) * 5 + o = i * 5 + (o + 5) by omega, this]
      rfl
/-- v is a slice of the bindings l that the call may append to. -/
structure GrowB (w : World) (B : Nat) (v : Value) (l : List BindD) (xs : List Value) : Prop where
  owns : w.ownsRow B 68 5 v l.length xs
  flat : Flat l xs
theorem GrowB.form {w : World} {B : Nat} {v : Value} {l : List BindD} {xs : List Value} (h : GrowB w B v l xs) : ∃ a cap, v = .slice a l.length cap := by
  rcases h.owns.2 with ⟨h1, h2⟩ | ⟨g, cap, cur, rfl, _⟩
  · exact ⟨none, 0, by rw [h1, h2]⟩
  · exact ⟨_, cap, rfl⟩
theorem GrowB.reads {w : World} {B : Nat} {v : Value} {l : List BindD} {xs : List Value} (h : GrowB w B v l xs) : ∃ a cap, v = .slice a l.length cap ∧ BindsAt w l a 0 := by
  rcases h.owns.2 with ⟨h1, h2⟩ | ⟨g, cap, cur, rfl, hB, hg, h1, h2, h3, h4⟩
  · have hl : l = [] := List.eq_nil_of_length_eq_zero h2
    subst hl
    exact ⟨none, 0, h1, trivial⟩
  · refine ⟨_, cap, rfl, Flat.reads l xs 0 h.flat (fun o ho => ?_)⟩
    have hl := Flat.length l xs h.flat
    rw [Nat.zero_mul, Nat.zero_add, h.owns.cellAt o (by omega)]
theorem GrowB.keep {w w' : World} {B : Nat} {v : Value} {l : List BindD} {xs : List Value} (h : GrowB w B v l xs) (hk : ∀ b, B ≤ b → b < w.heap.size → w'.heap[b]? = w.heap[b]?) : GrowB w' B v l xs := by
  refine ⟨⟨h.owns.1, ?_⟩, h.flat⟩
  rcases h.owns.2 with h | ⟨g, cap, cur, rfl, hB, hg, h1, h2, h3, h4⟩
  · exact .inl h
  · exact .inr ⟨g, cap, cur, rfl, hB, by rw [hk g hB (Array.getElem?_eq_some_iff.1 hg).1]; exact hg, h1, h2, h3, h4⟩
theorem GrowB.far {w : World} {B : Nat} {v : Value} {l : List BindD} {xs : List Value} (h : GrowB w B v l xs) (b : Nat) (hb : v.ownBlock = some b) : B ≤ b ∧ b < w.heap.size := by
  rcases h.owns.2 with ⟨e, _⟩ | ⟨g, cap, cur, rfl, hB, hg, _⟩
  · subst e; cases hb
  · cases hb; exact ⟨hB, (Array.getElem?_eq_some_iff.1 hg).1⟩
theorem grow_five (w : World) (x : ByteArray) (k n : Int) (t : ByteArray) (v : Value) (T : TypeId) : ∀ j u, [Value.string x, .int .i64 k, .int .i64 n, .string t, v][j]? = some u → (w.alloc (.cells #[.string x, .int .i64 k, .int .i64 n, .string t, v] T)).cell? ((⟨w.heap.size, 0, none⟩ : Addr).add j) = some u :=
  World.news_of_block (heap_at_new w _)
theorem grow_one5 (x : ByteArray) (k n : Int) (t : ByteArray) (p : Option Addr) (l c : Nat) : ∀ u ∈ [Value.string x, .int .i64 k, .int .i64 n, .string t, .slice p l c], u.oneCell' = true := by
  intro u hu
  simp at hu
  rcases hu with rfl | rfl | rfl | rfl | rfl <;> rfl
theorem GrowB.lit (w : World) {B : Nat} (hB : B ≤ w.heap.size) : GrowB (w.alloc (.cells #[] 68)) B (.slice (some ⟨w.heap.size, 0, none⟩) 0 0) [] [] :=
  ⟨World.ownsRow_lit (base := B) (e := 68) (size := 5) w #[] 0 hB (by unfold maxLen; omega) rfl, rfl⟩
end Go.Proofs.YtijbaienhaiamaaGreatDoor
end

/- What is proved here: the cells of small structs in blocks of their own. No condition. -/
section
namespace Go.Proofs.YtijbaienhaiamaaGreatDoor
open Go.RowKit

theorem two_cells {w : World} {b : Nat} {x y : Value} {T : TypeId} (h : w.heap[b]? = some (.cells #[x, y] T (0, 0))) : w.cell? ⟨b, 0, none⟩ = some x ∧ w.cell? ⟨b, 1, none⟩ = some y ∧ w.frozen? ⟨b, 0, none⟩ = false ∧ w.frozen? ⟨b, 1, none⟩ = false := by
  refine ⟨?_, ?_, ?_, ?_⟩ <;> simp [World.cell?, World.frozen?, h]
theorem one_cell {w : World} {b : Nat} {x : Value} {T : TypeId} (h : w.heap[b]? = some (.cells #[x] T (0, 0))) : w.cell? ⟨b, 0, none⟩ = some x ∧ w.frozen? ⟨b, 0, none⟩ = false := by
  refine ⟨?_, ?_⟩ <;> simp [World.cell?, World.frozen?, h]
theorem one_set {w : World} {b : Nat} {x : Value} {T : TypeId} (h : w.heap[b]? = some (.cells #[x] T (0, 0))) (v : Value) : (w.setCell ⟨b, 0, none⟩ v).heap[b]? = some (.cells #[v] T (0, 0)) := by
  simp [World.setCell, Array.getElem?_modify, h]
theorem two_set {w : World} {b : Nat} {x y : Value} {T : TypeId} (h : w.heap[b]? = some (.cells #[x, y] T (0, 0))) (v : Value) : (w.setCell ⟨b, 0, none⟩ v).heap[b]? = some (.cells #[v, y] T (0, 0)) ∧ (w.setCell ⟨b, 1, none⟩ v).heap[b]? = some (.cells #[x, v] T (0, 0)) := by
  constructor <;> simp [World.setCell, Array.getElem?_modify, h]
theorem three (w : World) (o0 o1 o2 : Obj) : (((w.alloc o0).alloc o1).alloc o2).heap.size = w.heap.size + 3 ∧ (((w.alloc o0).alloc o1).alloc o2).heap[w.heap.size + 1]? = some o1 ∧ (((w.alloc o0).alloc o1).alloc o2).heap[w.heap.size + 1 + 1]? = some o2 ∧ Below w.heap.size w (((w.alloc o0).alloc o1).alloc o2) := by
  have s1 : (w.alloc o0).heap.size = w.heap.size + 1 := Array.size_push _
  have s2 : ((w.alloc o0).alloc o1).heap.size = (w.alloc o0).heap.size + 1 := Array.size_push _
  have s3 : (((w.alloc o0).alloc o1).alloc o2).heap.size = ((w.alloc o0).alloc o1).heap.size + 1 := Array.size_push _
  have e1 := heap_at_new (w.alloc o0) o1
  have e2 := heap_at_new ((w.alloc o0).alloc o1) o2
  rw [s1] at e1
  rw [s2, s1] at e2
  refine ⟨by omega, ?_, e2, (((Below.refl _ _).alloc (Nat.le_refl _) _).alloc (by omega) _).alloc (by omega) _⟩
  rw [Below.heap_alloc _ _ _ (by omega)]
  exact e1
theorem zero_Con : ∃ i, Tryz.prog.info? 127 = some i ∧ i.zero = some (.agg #[.string ⟨#[]⟩, .slice none 0 0]) ∧ i.size = 2 ∧ i.bytes = 40 := by
  have hi : (Tryz.prog.info? 127).map (fun i => (i.zero, i.size, i.bytes)) = some (some (.agg #[.string ⟨#[]⟩, .slice none 0 0]), 2, 40) := by kernel_rfl
  obtain ⟨i0, hi, hz0, hz1, hz2⟩ := info_parts hi
  exact ⟨i0, hi, hz0, hz1, hz2⟩
end Go.Proofs.YtijbaienhaiamaaGreatDoor
end

/- What is proved here: the model's copy of a constructor (package spec, l3Con). Condition: it lies in memory as said, and is small. -/
section
namespace Go.Proofs.YtijbaienhaiamaaGreatDoor
open Go.RowKit

theorem texts_one (xs : List ByteArray) : ∀ u ∈ xs.map Value.string, u.oneCell' = true := by
  intro u hu
  obtain ⟨x, _, rfl⟩ := List.mem_map.1 hu
  rfl
theorem reads_news {w : World} {y : Addr} {xs : List ByteArray} (h : Reads w (some y) xs) : ∀ j u, (xs.map Value.string)[j]? = some u → w.cell? (y.add j) = some u := by
  intro j u hj
  rw [List.getElem?_map] at hj
  by_cases hl : j < xs.length
  · rw [List.getElem?_eq_getElem hl] at hj
    obtain rfl : Value.string xs[j] = u := Option.some.inj hj
    obtain ⟨y', hy, hc⟩ := h j hl
    obtain rfl := Option.some.inj hy
    exact hc
  · rw [List.getElem?_eq_none (by omega)] at hj
    cases hj
theorem three0 (w : World) (o0 o1 o2 : Obj) : (((w.alloc o0).alloc o1).alloc o2).heap[w.heap.size]? = some o0 := by
  have s1 : (w.alloc o0).heap.size = w.heap.size + 1 := Array.size_push _
  have s2 : ((w.alloc o0).alloc o1).heap.size = (w.alloc o0).heap.size + 1 := Array.size_push _
  rw [Below.heap_alloc _ _ _ (by omega), Below.heap_alloc _ _ _ (by omega)]
  exact heap_at_new w o0
theorem three_mid (w : World) (o0 o1 o2 : Obj) : (((w.alloc o0).alloc o1).alloc o2).drew.heap[w.heap.size + 1]? = some o1 := (three w o0 o1 o2).2.1
theorem three_grown {w w3 : World} {o0 o1 : Obj} {p : Prop} (h : w3.heap.size = w.heap.size + 3 ∧ w3.heap[w.heap.size + 1]? = some o1 ∧ p ∧ Below w.heap.size w w3) (h0 : w3.heap[w.heap.size]? = some o0) (w1 : World) (r : Option Nat) (hg : w3.drew.grownBy w1 r) (hr : r = some (w.heap.size + 1 + 1)) : w1.heap[w.heap.size + 1]? = some o1 ∧ w1.heap[w.heap.size]? = some o0 ∧ Below w.heap.size w w1 := by
  obtain ⟨h1, h2, _, h4⟩ := h
  subst hr
  have hs : w3.drew.heap.size = w3.heap.size := rfl
  exact ⟨(hg.block (w.heap.size + 1) (by omega) (fun e => by have := Option.some.inj e; omega)).trans h2, (hg.block w.heap.size (by omega) (fun e => by have := Option.some.inj e; omega)).trans h0, h4.drew.grown hg (by omega) (fun k e => by have := Option.some.inj e; omega)⟩
/-- What 'ownsRow' says of texts. -/
theorem owns_owned {w : World} {B : Nat} {g cap : Nat} {n : Nat} {xs : List ByteArray} (h : w.ownsRow B 9 1 (.slice (some ⟨g, 0, none⟩) n cap) n (xs.map Value.string)) : OwnS (fun b => b = g) w (.slice (some ⟨g, 0, none⟩) n cap) xs := by
  obtain ⟨g2, cap2, rest, hv, _, hb, hn⟩ := block_of_owned h (by intro e; cases e)
  injection hv with h1 h2 h3
  injection h1 with h1
  injection h1 with h1
  subst h1
  subst hn
  exact ⟨_, _, rfl, .inr ⟨g, rest, rfl, rfl, hb⟩⟩

set_option maxHeartbeats 1000000 in
set_option maxRecDepth 100000 in
theorem l3Con_any (w : World) (c : ConD) (u v : Value) (hx : ConAt w c u v) (hm : c.args.length ≤ 1048576) :
    Calls Tryz.prog 178 #[.agg #[u, v]] w fun e w' => (∃ u' v', e = .returned (.agg #[u', v']) ∧ OwnCon (Came w w') w' c u' v') ∧ Below w.heap.size w w' := by
  obtain ⟨a, cap, rfl, rfl, hr⟩ := hx
  by_cases h0 : c.args = []
  · have HR := Lib.hid h0
    have hl : c.args.length = 0 := by simp [h0]
    rw [hl]
    have HL := Lib.hid hl
    clear hr hl h0
    cases a
    all_goals
      go_enter Tryz.func178, Tryz.ntmps178
      go_wp2
      go_region
      go_wp2
      refine bodyPost_ret (results_cell_row rfl _ _ (w.heap.size + 1) _ _ _ _ rfl (three_mid _ _ _ _) Tryz.underlying127 rfl (by kernel_rfl)) rfl ?_
      exact ⟨⟨_, _, rfl, rfl, _, _, by rw [HL.out], .inl HR.out⟩, (three _ _ _ _).2.2.2.drew⟩
  · obtain ⟨y, rfl⟩ : ∃ y, a = some y := by
      obtain ⟨y, hy, _⟩ := hr 0 (List.length_pos_iff.2 h0)
      exact ⟨y, hy⟩
    have hi : (Tryz.prog.info? 9).map (fun i => (i.zero, i.size, i.bytes)) = some (some (.string ⟨#[]⟩), 1, 16) := by kernel_rfl
    obtain ⟨i0, hi, hz0, hz1, hz2⟩ := info_parts hi
    have hpos : 0 < c.args.length := List.length_pos_iff.2 h0
    have h3 := three w (.cells #[.string c.name, .slice (some y) c.args.length cap] 127) (.cells #[.string ⟨#[]⟩, .slice none 0 0] 127) (.cells #[] 9)
    have how := World.ownsRow_made (base := w.heap.size) (e := 9) (size := 1) ((w.alloc (.cells #[.string c.name, .slice (some y) c.args.length cap] 127)).alloc (.cells #[.string ⟨#[]⟩, .slice none 0 0] 127)) #[] 0 (by simp; omega) (by decide) (by simp)
    have hsz : ((w.alloc (.cells #[.string c.name, .slice (some y) c.args.length cap] 127)).alloc (.cells #[.string ⟨#[]⟩, .slice none 0 0] 127)).heap.size = w.heap.size + 1 + 1 := by simp
    rw [hsz] at how
    have HO := Lib.hid how.drew
    have HG := Lib.hid (three_grown h3 (three0 _ _ _ _))
    have H3 := Lib.hid h3
    have HR := Lib.hid hr
    clear h0 h3 hr how hsz
    go_enter Tryz.func178, Tryz.ntmps178
    go_wp2
    go_region_law (first
      | (refine step_append_lies _ rfl _ _ 45 rfl w.heap.size 9 i0 (.string ⟨#[]⟩) 1 16 Tryz.underlying45 hi hz0 hz1 hz2 rfl (by decide) _ 0 [] rfl HO.out y c.args.length cap (c.args.map Value.string) rfl (by simp) (reads_news (reads_below HR.out H3.out.2.2.2.drew)) (texts_one _) hpos (by unfold maxLen; omega) (by omega) (by simp; omega) (w.heap.size + 3) H3.out.1 ?_
         intro g cap2 w1 hown hgrow hat hlt
         obtain ⟨hq, hq0, hb1⟩ := HG.out w1 _ hgrow rfl
         obtain ⟨q5, q6, q7, q8⟩ := two_cells hq0
         obtain ⟨q1, q2, q3, q4⟩ := two_cells hq
         have HQ := Lib.hid hq
         have HB1 := Lib.hid hb1
         rw [Nat.zero_add] at hown
         have HRR := Lib.hid (owns_owned hown)
         have hg : w.heap.size + 1 ≠ g := by
           rcases hat with h | h
           · injection (show some (w.heap.size + 1 + 1) = some g from h) with h
             omega
           · omega
         have hg2 : w.heap.size ≤ g := by
           rcases hat with h | h
           · injection (show some (w.heap.size + 1 + 1) = some g from h) with h
             omega
           · omega
         clear hown hgrow hat hq hq0 hb1))
    all_goals
      go_wp2
      refine bodyPost_ret (results_cell_row rfl _ _ (w.heap.size + 1) _ _ _ _ rfl (two_set (two_set HQ.out _).1 _).2 Tryz.underlying127 rfl (by kernel_rfl)) rfl ?_
      refine ⟨⟨_, _, rfl, rfl, (HRR.out.keep ?_).wider ?_⟩, (HB1.out.setCell (by show _ ≤ w.heap.size + 1; omega) _).setCell (by show _ ≤ w.heap.size + 1; omega) _⟩
      · rintro b rfl
        rw [Below.heap_setCell _ _ _ _ (fun e => hg e.symm), Below.heap_setCell _ _ _ _ (fun e => hg e.symm)]
      · rintro b rfl
        exact ⟨hg2, by simpa [World.setCell] using hlt⟩
end Go.Proofs.YtijbaienhaiamaaGreatDoor
end

/- What is proved here: the model's copy of a declared type (package spec, l3Type). Condition: it lies in memory as said, and is small. -/
section
namespace Go.Proofs.YtijbaienhaiamaaGreatDoor
open Go.RowKit

theorem news_two (w : World) (x y : Value) (T : TypeId) (N : Nat) (hN : w.heap.size = N) : ∀ j u, [x, y][j]? = some u → (w.alloc (.cells #[x, y] T)).cell? ((⟨N, 0, none⟩ : Addr).add j) = some u := by
  subst hN
  have h := two_cells (heap_at_new w (.cells #[x, y] T))
  intro j u hj
  match j, hj with
  | 0, hj => simp at hj; subst hj; exact h.1
  | 1, hj => simp at hj; subst hj; exact h.2.1

/-- The copy of a type as it grows: its box, the result's cell, the copy. -/
def Copying (w : World) (t : TypeD) (a : Option Addr) (cap k : Nat) (v : Value) (wr : World) : Prop :=
  wr.heap[w.heap.size]? = some (.cells #[.string t.name, .slice a t.cons.length cap] 130 (0, 0)) ∧ wr.heap[w.heap.size + 1]? = some (.cells #[.string ⟨#[]⟩, .slice none 0 0] 130 (0, 0)) ∧
    wr.heap[w.heap.size + 1 + 1]? = some (.cells #[.string t.name, v] 130 (0, 0)) ∧ Growing 127 OwnCon (w.heap.size + 3) t.cons k v wr ∧ Below w.heap.size w wr

theorem Copying.next {w : World} {t : TypeD} {a : Option Addr} {cap k : Nat} {v v' : Value} {wr w4 : World} (h : Copying w t a cap k v wr) (hG : Growing 127 OwnCon (w.heap.size + 3) t.cons (k + 1) v' w4) (hold : ∀ b, b < w.heap.size + 3 → w4.heap[b]? = wr.heap[b]?)
    (h1 : w4.os = wr.os) (h2 : w4.tape = wr.tape) (h3 : w4.output = wr.output) (h4 : wr.heap.size ≤ w4.heap.size) :
    w4.cell? ⟨w.heap.size + 1 + 1, 1, none⟩ = some v ∧ w4.frozen? ⟨w.heap.size + 1 + 1, 1, none⟩ = false ∧ Copying w t a cap (k + 1) v' (w4.setCell ⟨w.heap.size + 1 + 1, 1, none⟩ v') := by
  obtain ⟨c0, c1, c2, c3, c4⟩ := h
  have d0 := (hold w.heap.size (by omega)).trans c0
  have d1 := (hold (w.heap.size + 1) (by omega)).trans c1
  have d2 := (hold (w.heap.size + 1 + 1) (by omega)).trans c2
  obtain ⟨_, q1, _, q2⟩ := two_cells d2
  refine ⟨q1, q2, ?_, ?_, (two_set d2 _).2, hG.keep keeps_con (by simp [World.setCell]) (fun b hb _ => Below.heap_setCell _ _ _ _ (by show b ≠ w.heap.size + 1 + 1; omega)), Below.setCell (p := ⟨w.heap.size + 1 + 1, 1, none⟩) (c4.trans ⟨h1, h2, h3, h4, fun b hb => hold b (by omega)⟩) (by show w.heap.size ≤ w.heap.size + 1 + 1; omega) _⟩
  · rw [Below.heap_setCell _ _ _ _ (by show w.heap.size ≠ w.heap.size + 1 + 1; omega)]
    exact d0
  · rw [Below.heap_setCell _ _ _ _ (by show w.heap.size + 1 ≠ w.heap.size + 1 + 1; omega)]
    exact d1

set_option maxHeartbeats 1000000 in
set_option maxRecDepth 100000 in
theorem l3Type_any (w : World) (t : TypeD) (u v : Value) (hx : TypeAt w t u v) (hm : t.cons.length ≤ 1048576) (hm2 : ∀ d ∈ t.cons, d.args.length ≤ 1048576) :
    Calls Tryz.prog 159 #[.agg #[u, v]] w fun e w' => (∃ u' v', e = .returned (.agg #[u', v']) ∧ OwnType (Came w w') w' t u' v') ∧ Below w.heap.size w w' := by
  obtain ⟨a, cap, rfl, rfl, hr⟩ := hx
  have HR := Lib.hid hr
  have HS := Lib.hid hm2
  obtain ⟨w3, h3⟩ : ∃ w3, w3 = ((w.alloc (.cells #[.string t.name, .slice a t.cons.length cap] 130)).alloc (.cells #[.string ⟨#[]⟩, .slice none 0 0] 130)).alloc (.cells #[.string t.name, .slice none 0 0] 130) := ⟨_, rfl⟩
  have hC : Copying w t a cap 0 (.slice none 0 0) w3 := by
    have h := three w (.cells #[.string t.name, .slice a t.cons.length cap] 130) (.cells #[.string ⟨#[]⟩, .slice none 0 0] 130) (.cells #[.string t.name, .slice none 0 0] 130)
    have h0 := three0 w (.cells #[.string t.name, .slice a t.cons.length cap] 130) (.cells #[.string ⟨#[]⟩, .slice none 0 0] 130) (.cells #[.string t.name, .slice none 0 0] 130)
    rw [← h3] at h h0
    exact ⟨h0, h.2.1, h.2.2.1, Growing.start (World.ownsRow_nil _ _ _ _) (by omega), h.2.2.2⟩
  have HC := Lib.hid hC
  have H3 := Lib.hid h3
  clear hr hm2 h3 hC
  generalize hn : t.cons.length = n at *
  have HN := Lib.hid hn
  clear hn
  go_enter Tryz.func159, Tryz.ntmps159
  go_wp2
  rw [← H3.out]
  go_loopw [4] (fun i wr => ∃ (k : Nat) (v : Value), k ≤ n ∧ i = .int .i64 k ∧ Hid (Copying w t a cap k v wr)) (fun i _ => n - (intOf i).toNat)
  case atStart => exact ⟨0, _, Nat.zero_le _, rfl, HC⟩
  case round =>
    obtain ⟨k, v, hk, rfl, hC⟩ := hrel
    have hC' := hC.out
    obtain ⟨c0, _, c2, HGW, c4⟩ := hC'
    rw [HN.out] at c0
    obtain ⟨_, e1, _, _⟩ := two_cells c0
    have HC4 := Lib.hid c4
    have HG4 := Lib.hid HGW
    have HC2 := Lib.hid c2
    clear c0 c4 HGW
    by_cases hlt : k < n
    · have hk' : k < t.cons.length := by rw [HN.out]; exact hlt
      obtain ⟨y, u1, v1, rfl, hc0, hc1, hr1⟩ := row2_below con_below HR.out HC4.out k hk'
      have hx : t.cons[k]? = some t.cons[k] := List.getElem?_eq_getElem hk'
      have H := l3Con_any wr.drew t.cons[k] u1 v1 hr1 (HS.out _ (List.getElem_mem hk'))
      generalize t.cons[k] = c at hx hr1 H
      have HX := Lib.hid hx
      have hltz : (k : Int) < (n : Int) := by omega
      obtain ⟨_, e2, _, _⟩ := two_cells c2
      obtain ⟨i0, hi, hz0, hz1, hz2⟩ := zero_Con
      clear hr1 hx c2
      go_wp2
      go_region_law (first
        | (go_simp; go_at_call 178; refine H.mono ?_
           rintro e w1 ⟨⟨u2, v2, rfl, ho⟩, hb1⟩
           have ho2 := ho
           obtain ⟨rfl, a2, cap2, rfl, _⟩ := ho2
           have HO := Lib.hid ho
           have hb1' : Below wr.heap.size wr w1 := below_of_drew hb1
           have HB1 := Lib.hid hb1'
           obtain ⟨_, e3, _, _⟩ := two_cells ((hb1'.block (w.heap.size + 1 + 1) (by rcases Nat.lt_or_ge (w.heap.size + 1 + 1) wr.heap.size with h | h; exact h; have := HC2.out; rw [Array.getElem?_eq_none h] at this; cases this)).trans HC2.out)
           have e4 : (w1.alloc (.cells #[.string c.name, .slice a2 c.args.length cap2] 127)).cell? ⟨w.heap.size + 1 + 1, 1, none⟩ = some v := cell_below e3 ((Below.refl _ _).alloc (Nat.le_refl _) _)
           clear hb1 hb1' ho)
        | (obtain ⟨ps, how, hBs, hstep⟩ := Growing.step keeps_con HG4.out HX.out HO.out HB1.out ((Below.refl _ _).alloc (Nat.le_refl _) (.cells #[.string c.name, .slice a2 c.args.length cap2] 127))
           refine step_append_lies _ rfl _ _ 128 rfl (w.heap.size + 3) 127 i0 (.agg #[.string ⟨#[]⟩, .slice none 0 0]) 2 40 Tryz.underlying128 hi hz0 hz1 hz2 rfl (by decide) v k (flat ps) rfl how ⟨w1.heap.size, 0, none⟩ 1 1 [.string c.name, .slice a2 c.args.length cap2] rfl rfl (news_two w1 _ _ _ _ rfl) (by intro u hu; simp at hu; rcases hu with rfl | rfl <;> rfl) (by decide) (by unfold maxLen; omega) (by omega) hBs _ rfl ?_
           intro g cap3 w4 hown hgrow hat hlt4
           obtain ⟨hG, hold, ho1, ho2, ho3, ho4⟩ := hstep g cap3 w4 hown hgrow hat
           obtain ⟨f1, f2, hC5⟩ := Copying.next hC.out hG hold ho1 ho2 ho3 ho4
           have HC5 := Lib.hid hC5
           clear how hBs hstep hown hgrow hat hG hold ho1 ho2 ho3 ho4 hC5))
      all_goals
        go_wp2
        go_roundw
        case rel => exact ⟨k + 1, _, by omega, by go_num, HC5⟩
        case measure => simp [intOf]; omega
    · obtain rfl : k = n := by omega
      have hD := HG4.out
      rw [← HN.out] at hD
      have hD2 := hD.done
      have hD3 := hD2
      obtain ⟨a2, cap2, rfl, _⟩ := hD3
      have HD := Lib.hid hD2
      obtain ⟨_, c1, _, _, _⟩ := hC.out
      have HC1 := Lib.hid c1
      obtain ⟨p1, p2, p3, p4⟩ := two_cells c1
      obtain ⟨p5, p6, p7, p8⟩ := two_cells c2
      clear c1 c2 hD hD2 HG4
      go_wp2
      refine bodyPost_ret (results_cell_row rfl _ _ (w.heap.size + 1) _ _ _ _ rfl (two_set (two_set HC1.out _).1 _).2 Tryz.underlying130 rfl (by kernel_rfl)) rfl ?_
      refine ⟨⟨_, _, rfl, rfl, (HD.out.keep keeps_con ?_).wider ?_⟩, (HC4.out.setCell (by show _ ≤ w.heap.size + 1; omega) _).setCell (by show _ ≤ w.heap.size + 1; omega) _⟩
      · rintro b ⟨hb1, _⟩
        rw [Below.heap_setCell _ _ _ _ (by show b ≠ w.heap.size + 1; omega), Below.heap_setCell _ _ _ _ (by show b ≠ w.heap.size + 1; omega)]
      · rintro b ⟨hb1, hb2⟩
        exact ⟨by omega, by simpa [World.setCell] using hb2⟩
end Go.Proofs.YtijbaienhaiamaaGreatDoor
end
