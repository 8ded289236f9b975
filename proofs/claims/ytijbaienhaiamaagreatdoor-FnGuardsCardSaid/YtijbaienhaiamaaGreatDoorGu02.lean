/- What is proved here: a piece of the proof of YtijbaienhaiamaaGreatDoorGuards (ExTreeOwn, TreeCells, ExTreeGrow, TreeOwn). Condition: none beyond what each part says. -/
import Derived.Test.YtijbaienhaiamaaGreatDoorGu01
import Derived.Deep.AppendLies
import Derived.Deep.RegionLaw

/- What is proved here: rows of nodes in memory of the call's own: the blocks that they lie in, no two parts in one; read, kept, split, filled. No condition. -/
section
namespace Go.Proofs.YtijbaienhaiamaaGreatDoor.Ex
open Go.RowKit

/-- Block b holds cells of nodes, none frozen. -/
def NodeBlock (w : World) (b : Nat) : Prop := ∃ cs, w.heap[b]? = some (.cells cs 54 (0, 0))
/-- The row in block g from its i-th node on; bs: the blocks of what is below its nodes. -/
def RowIn (w : World) : Trees → Nat → Nat → List Nat → Prop
  | .nil, _, _, bs => bs = []
  | .cons k n t ar r, g, i, bs => ∃ v b1 b2, bs = b1 ++ b2 ∧ w.cell? ⟨g, i * 4, none⟩ = some (.int .i64 k) ∧ w.cell? ⟨g, i * 4 + 1, none⟩ = some (.int .i64 n) ∧ w.cell? ⟨g, i * 4 + 2, none⟩ = some (.string t) ∧ w.cell? ⟨g, i * 4 + 3, none⟩ = some v ∧
      ((∃ a cap, v = .slice a 0 cap ∧ ar = .nil ∧ b1 = []) ∨ ∃ g' cap b', v = .slice (some ⟨g', 0, none⟩) ar.length cap ∧ ar.length ≤ cap ∧ b1 = g' :: b' ∧ NodeBlock w g' ∧ RowIn w ar g' 0 b') ∧ RowIn w r g (i + 1) b2
/-- v is a slice that reads as the row F, in the blocks bs. -/
def OwnV (w : World) (v : Value) (F : Trees) (bs : List Nat) : Prop :=
  (∃ a cap, v = .slice a 0 cap ∧ F = .nil ∧ bs = []) ∨ ∃ g cap b', v = .slice (some ⟨g, 0, none⟩) F.length cap ∧ F.length ≤ cap ∧ bs = g :: b' ∧ NodeBlock w g ∧ RowIn w F g 0 b'

theorem RowIn.keep {w w' : World} : ∀ (F : Trees) (g i : Nat) (bs : List Nat), RowIn w F g i bs → (∀ o, i * 4 ≤ o → o < (i + F.length) * 4 → w'.cell? ⟨g, o, none⟩ = w.cell? ⟨g, o, none⟩) → (∀ b ∈ bs, w'.heap[b]? = w.heap[b]?) → RowIn w' F g i bs := by
  intro F
  induction F with
  | nil => intro g i bs h _ _; exact h
  | cons k n t ar r ih1 ih2 =>
    rintro g i bs ⟨v, b1, b2, rfl, h0, h1, h2, h3, ho, hr⟩ hc hb
    simp only [Trees.length] at hc
    refine ⟨v, b1, b2, rfl, ?_, ?_, ?_, ?_, ?_, ih2 g (i + 1) b2 hr (fun o ho1 ho2 => hc o (by omega) (by omega)) (fun b hbm => hb b (List.mem_append_right _ hbm))⟩
    · rw [hc _ (by omega) (by omega)]; exact h0
    · rw [hc _ (by omega) (by omega)]; exact h1
    · rw [hc _ (by omega) (by omega)]; exact h2
    · rw [hc _ (by omega) (by omega)]; exact h3
    · rcases ho with h | ⟨g', cap, b', e1, hl, rfl, ⟨cs, hn⟩, hrow⟩
      · exact .inl h
      · have hg : w'.heap[g']? = w.heap[g']? := hb g' (by simp)
        exact .inr ⟨g', cap, b', e1, hl, rfl, ⟨cs, hg.trans hn⟩, ih1 g' 0 b' hrow (fun o _ _ => World.cell?_of_block hg) (fun b hbm => hb b (by simp [hbm]))⟩
theorem OwnV.keep {w w' : World} {v : Value} {F : Trees} {bs : List Nat} (h : OwnV w v F bs) (hb : ∀ b ∈ bs, w'.heap[b]? = w.heap[b]?) : OwnV w' v F bs := by
  rcases h with h | ⟨g, cap, b', e1, hl, rfl, ⟨cs, hn⟩, hrow⟩
  · exact .inl h
  · have hg : w'.heap[g]? = w.heap[g]? := hb g (by simp)
    exact .inr ⟨g, cap, b', e1, hl, rfl, ⟨cs, hg.trans hn⟩, hrow.keep F g 0 b' (fun o _ _ => World.cell?_of_block hg) (fun b hbm => hb b (by simp [hbm]))⟩
theorem NodeBlock.lt {w : World} {b : Nat} (h : NodeBlock w b) : b < w.heap.size := by
  obtain ⟨cs, h⟩ := h
  exact (Array.getElem?_eq_some_iff.1 h).1
theorem NodeBlock.free {w : World} {b : Nat} (h : NodeBlock w b) (o : Nat) : w.frozen? ⟨b, o, none⟩ = false := by
  obtain ⟨cs, h⟩ := h
  simp [World.frozen?, h]
theorem RowIn.blocks {w : World} : ∀ (F : Trees) (g i : Nat) (bs : List Nat), RowIn w F g i bs → ∀ b ∈ bs, NodeBlock w b := by
  intro F
  induction F with
  | nil => rintro g i bs rfl b hb; simp at hb
  | cons k n t ar r ih1 ih2 =>
    rintro g i bs ⟨v, b1, b2, rfl, h0, h1, h2, h3, ho, hr⟩ b hb
    rcases List.mem_append.1 hb with h | h
    · rcases ho with ⟨_, _, _, _, rfl⟩ | ⟨g', cap, b', e1, _, rfl, hn, hrow⟩
      · simp at h
      · rcases List.mem_cons.1 h with rfl | h
        · exact hn
        · exact ih1 g' 0 b' hrow b h
    · exact ih2 g (i + 1) b2 hr b h
theorem OwnV.blocks {w : World} {v : Value} {F : Trees} {bs : List Nat} (h : OwnV w v F bs) : ∀ b ∈ bs, NodeBlock w b := by
  intro b hb
  rcases h with ⟨_, _, _, _, rfl⟩ | ⟨g, cap, b', e1, _, rfl, hn, hrow⟩
  · simp at hb
  · rcases List.mem_cons.1 hb with rfl | h
    · exact hn
    · exact hrow.blocks F g 0 b' b h
theorem RowIn.append {w : World} : ∀ (A B : Trees) (g i : Nat) (bs : List Nat), RowIn w (A.append B) g i bs ↔ ∃ b1 b2, bs = b1 ++ b2 ∧ RowIn w A g i b1 ∧ RowIn w B g (i + A.length) b2 := by
  intro A
  induction A with
  | nil =>
    intro B g i bs
    constructor
    · intro h; exact ⟨[], bs, rfl, rfl, h⟩
    · rintro ⟨b1, b2, rfl, rfl, h⟩; exact h
  | cons k n t ar r ih1 ih2 =>
    intro B g i bs
    constructor
    · rintro ⟨v, b1, b2, rfl, h0, h1, h2, h3, ho, hr⟩
      obtain ⟨c1, c2, rfl, e1, e2⟩ := (ih2 B g (i + 1) b2).1 hr
      refine ⟨b1 ++ c1, c2, by simp, ⟨v, b1, c1, rfl, h0, h1, h2, h3, ho, e1⟩, ?_⟩
      rw [show i + (Trees.cons k n t ar r).length = i + 1 + r.length by simp only [Trees.length]; omega]
      exact e2
    · rintro ⟨b0, c2, rfl, ⟨v, b1, c1, rfl, h0, h1, h2, h3, ho, e1⟩, e2⟩
      refine ⟨v, b1, c1 ++ c2, by simp, h0, h1, h2, h3, ho, (ih2 B g (i + 1) _).2 ⟨c1, c2, rfl, e1, ?_⟩⟩
      rw [show i + 1 + r.length = i + (Trees.cons k n t ar r).length by simp only [Trees.length]; omega]
      exact e2
theorem own_field (g i j : Nat) : fieldAt ⟨g, 0, none⟩ i j = ⟨g, i * 4 + j, none⟩ := by
  unfold fieldAt Addr.add
  by_cases hi : i * 4 = 0
  · rw [if_pos hi, hi]
  · rw [if_neg hi]; simp
theorem own_first (g i : Nat) : (⟨g, 0, none⟩ : Addr).add (i * 4) = ⟨g, i * 4, none⟩ := by
  unfold Addr.add
  by_cases hi : i * 4 = 0
  · rw [if_pos hi, hi]
  · rw [if_neg hi]; simp
theorem RowIn.reads {w : World} : ∀ (F : Trees) (g i : Nat) (bs : List Nat), RowIn w F g i bs → TreesAt w F (some ⟨g, 0, none⟩) i := by
  intro F
  induction F with
  | nil => intro _ _ _ _; trivial
  | cons k n t ar r ih1 ih2 =>
    rintro g i bs ⟨v, b1, b2, rfl, h0, h1, h2, h3, ho, hr⟩
    refine ⟨?_, ih2 g (i + 1) b2 hr⟩
    have hv : ∃ p cap, v = .slice p ar.length cap ∧ ar.length ≤ cap ∧ TreesAt w ar p 0 := by
      rcases ho with ⟨a, cap, e1, rfl, _⟩ | ⟨g', cap, b', e1, hl, _, _, hrow⟩
      · exact ⟨a, cap, e1, Nat.zero_le _, trivial⟩
      · exact ⟨_, cap, e1, hl, ih1 g' 0 b' hrow⟩
    obtain ⟨p, cap, rfl, hl, hp⟩ := hv
    refine ⟨⟨g, 0, none⟩, p, cap, rfl, ?_, ?_, ?_, ?_, hl, hp⟩
    · rw [own_first]; exact h0
    · rw [own_field]; exact h1
    · rw [own_field]; exact h2
    · rw [own_field]; exact h3
theorem OwnV.reads {w : World} {v : Value} {F : Trees} {bs : List Nat} (h : OwnV w v F bs) : ∃ p cap, v = .slice p F.length cap ∧ F.length ≤ cap ∧ TreesAt w F p 0 := by
  rcases h with ⟨a, cap, e1, rfl, _⟩ | ⟨g, cap, b', e1, hl, _, _, hrow⟩
  · exact ⟨a, cap, e1, Nat.zero_le _, trivial⟩
  · exact ⟨_, cap, e1, hl, hrow.reads F g 0 b'⟩

/-! A node's cells, set. -/
def put4 (w : World) (g k : Nat) (u0 u1 u2 u3 : Value) : World := (((w.setCell ⟨g, k * 4, none⟩ u0).setCell ⟨g, k * 4 + 1, none⟩ u1).setCell ⟨g, k * 4 + 2, none⟩ u2).setCell ⟨g, k * 4 + 3, none⟩ u3
theorem put4_other (w : World) (g k : Nat) (u0 u1 u2 u3 : Value) (b : Nat) (h : b ≠ g) : (put4 w g k u0 u1 u2 u3).heap[b]? = w.heap[b]? := by
  unfold put4
  rw [Below.heap_setCell _ _ _ _ h, Below.heap_setCell _ _ _ _ h, Below.heap_setCell _ _ _ _ h, Below.heap_setCell _ _ _ _ h]
theorem put4_size (w : World) (g k : Nat) (u0 u1 u2 u3 : Value) : (put4 w g k u0 u1 u2 u3).heap.size = w.heap.size := by simp [put4, World.setCell]
theorem put4_below {B : Nat} {a w : World} (h : Below B a w) (g k : Nat) (u0 u1 u2 u3 : Value) (hg : B ≤ g) : Below B a (put4 w g k u0 u1 u2 u3) :=
  (((h.setCell (p := ⟨g, k * 4, none⟩) hg u0).setCell (p := ⟨g, k * 4 + 1, none⟩) hg u1).setCell (p := ⟨g, k * 4 + 2, none⟩) hg u2).setCell (p := ⟨g, k * 4 + 3, none⟩) hg u3
theorem put4_block {w : World} {g : Nat} {cs : Array Value} {T : TypeId} (h : w.heap[g]? = some (.cells cs T (0, 0))) (k : Nat) (u0 u1 u2 u3 : Value) :
    (put4 w g k u0 u1 u2 u3).heap[g]? = some (.cells ((((cs.setIfInBounds (k * 4) u0).setIfInBounds (k * 4 + 1) u1).setIfInBounds (k * 4 + 2) u2).setIfInBounds (k * 4 + 3) u3) T (0, 0)) := by
  simp [put4, World.setCell, Array.getElem?_modify, h]
/-- The cells of a node in a block of cells. -/
theorem node_cells {w : World} {g : Nat} {cs : Array Value} {T : TypeId} (h : w.heap[g]? = some (.cells cs T (0, 0))) (k n : Nat) (hs : cs.size = n * 4) (hk : k < n) :
    ∃ x0 x1 x2 x3, w.cell? ⟨g, k * 4, none⟩ = some x0 ∧ w.cell? ⟨g, k * 4 + 1, none⟩ = some x1 ∧ w.cell? ⟨g, k * 4 + 2, none⟩ = some x2 ∧ w.cell? ⟨g, k * 4 + 3, none⟩ = some x3 ∧
      w.frozen? ⟨g, k * 4, none⟩ = false ∧ w.frozen? ⟨g, k * 4 + 1, none⟩ = false ∧ w.frozen? ⟨g, k * 4 + 2, none⟩ = false ∧ w.frozen? ⟨g, k * 4 + 3, none⟩ = false := by
  have e : ∀ o, o < n * 4 → ∃ x, w.cell? ⟨g, o, none⟩ = some x := fun o ho => ⟨cs[o]'(by omega), by simp [World.cell?, h, hs, ho]⟩
  obtain ⟨x0, h0⟩ := e (k * 4) (by omega)
  obtain ⟨x1, h1⟩ := e (k * 4 + 1) (by omega)
  obtain ⟨x2, h2⟩ := e (k * 4 + 2) (by omega)
  obtain ⟨x3, h3⟩ := e (k * 4 + 3) (by omega)
  refine ⟨x0, x1, x2, x3, h0, h1, h2, h3, ?_, ?_, ?_, ?_⟩ <;> simp [World.frozen?, h]
theorem put4_cells {w : World} {g : Nat} {cs : Array Value} {T : TypeId} (h : w.heap[g]? = some (.cells cs T (0, 0))) (k n : Nat) (hs : cs.size = n * 4) (hk : k < n) (u0 u1 u2 u3 : Value) :
    (put4 w g k u0 u1 u2 u3).cell? ⟨g, k * 4, none⟩ = some u0 ∧ (put4 w g k u0 u1 u2 u3).cell? ⟨g, k * 4 + 1, none⟩ = some u1 ∧ (put4 w g k u0 u1 u2 u3).cell? ⟨g, k * 4 + 2, none⟩ = some u2 ∧ (put4 w g k u0 u1 u2 u3).cell? ⟨g, k * 4 + 3, none⟩ = some u3 ∧
      ∀ o, (o < k * 4 ∨ k * 4 + 4 ≤ o) → (put4 w g k u0 u1 u2 u3).cell? ⟨g, o, none⟩ = w.cell? ⟨g, o, none⟩ := by
  have hb := put4_block h k u0 u1 u2 u3
  have l0 : k * 4 < cs.size := by omega
  have l1 : k * 4 + 1 < cs.size := by omega
  have l2 : k * 4 + 2 < cs.size := by omega
  have l3 : k * 4 + 3 < cs.size := by omega
  refine ⟨?_, ?_, ?_, ?_, ?_⟩
  · simp [World.cell?, hb, l0]
  · simp [World.cell?, hb, l1]
  · simp [World.cell?, hb, l2]
  · simp [World.cell?, hb, l3]
  · intro o ho
    have e : ((((cs.setIfInBounds (k * 4) u0).setIfInBounds (k * 4 + 1) u1).setIfInBounds (k * 4 + 2) u2).setIfInBounds (k * 4 + 3) u3)[o]? = cs[o]? := by
      rw [Array.getElem?_setIfInBounds_ne (by omega), Array.getElem?_setIfInBounds_ne (by omega), Array.getElem?_setIfInBounds_ne (by omega), Array.getElem?_setIfInBounds_ne (by omega)]
    simp only [World.cell?, hb, h, e]

/-- A row of n that is being filled in block g, which was new in w: the first nodes are there, what is below them in blocks that came behind. -/
def FillIn (w : World) (g n : Nat) (pre : Trees) (w' : World) : Prop :=
  ∃ cs bs, w'.heap[g]? = some (.cells cs 54 (0, 0)) ∧ cs.size = n * 4 ∧ RowIn w' pre g 0 bs ∧ bs.Nodup ∧ (∀ b ∈ bs, g < b ∧ b < w'.heap.size) ∧ Below w.heap.size w w' ∧ w.heap.size ≤ g ∧ g < w'.heap.size
theorem FillIn.below {w : World} {g n : Nat} {pre : Trees} {w' : World} (h : FillIn w g n pre w') : Below w.heap.size w w' := by
  obtain ⟨_, _, _, _, _, _, _, h, _⟩ := h
  exact h
/-- What the walk needs at the store, and what is behind it. -/
theorem FillIn.step {w : World} {g n : Nat} {pre : Trees} {w' w1 : World} {k m : Int} {t : ByteArray} {ar : Trees} {v : Value} {b1 : List Nat} (h : FillIn w g n pre w') (hk : pre.length < n) (hb : Below w'.heap.size w' w1) (ho : OwnV w1 v ar b1) (hnd : b1.Nodup) (hnew : ∀ b ∈ b1, w'.heap.size ≤ b ∧ b < w1.heap.size) :
    ∃ x0 x1 x2 x3, w1.cell? ⟨g, pre.length * 4, none⟩ = some x0 ∧ w1.cell? ⟨g, pre.length * 4 + 1, none⟩ = some x1 ∧ w1.cell? ⟨g, pre.length * 4 + 2, none⟩ = some x2 ∧ w1.cell? ⟨g, pre.length * 4 + 3, none⟩ = some x3 ∧
      w1.frozen? ⟨g, pre.length * 4, none⟩ = false ∧ w1.frozen? ⟨g, pre.length * 4 + 1, none⟩ = false ∧ w1.frozen? ⟨g, pre.length * 4 + 2, none⟩ = false ∧ w1.frozen? ⟨g, pre.length * 4 + 3, none⟩ = false ∧
      FillIn w g n (pre.snoc k m t ar) (put4 w1 g pre.length (.int .i64 k) (.int .i64 m) (.string t) v) := by
  obtain ⟨cs, bs, hc, hs, hr, hn, hbs, hB, hg, hgl⟩ := h
  have hs1 := hb.size
  have hc1 : w1.heap[g]? = some (.cells cs 54 (0, 0)) := (hb.block g hgl).trans hc
  obtain ⟨x0, x1, x2, x3, c0, c1, c2, c3, f0, f1, f2, f3⟩ := node_cells hc1 pre.length n hs hk
  refine ⟨x0, x1, x2, x3, c0, c1, c2, c3, f0, f1, f2, f3, ?_⟩
  obtain ⟨d0, d1, d2, d3, d4⟩ := put4_cells hc1 pre.length n hs hk (.int .i64 k) (.int .i64 m) (.string t) v
  have hot : ∀ b, b ≠ g → (put4 w1 g pre.length (.int .i64 k) (.int .i64 m) (.string t) v).heap[b]? = w1.heap[b]? := fun b hne => put4_other _ _ _ _ _ _ _ b hne
  have hr1 : RowIn (put4 w1 g pre.length (.int .i64 k) (.int .i64 m) (.string t) v) pre g 0 bs := by
    refine hr.keep pre g 0 bs (fun o _ ho2 => ?_) (fun b hbm => ?_)
    · rw [d4 o (.inl (by omega))]
      exact World.cell?_of_block (hb.block g hgl)
    · have := hbs b hbm
      rw [hot b (by omega), hb.block b this.2]
  have ho1 : OwnV (put4 w1 g pre.length (.int .i64 k) (.int .i64 m) (.string t) v) v ar b1 := ho.keep (fun b hbm => hot b (by have := hnew b hbm; omega))
  refine ⟨_, bs ++ b1, put4_block hc1 _ _ _ _ _, by simp [hs], ?_, ?_, ?_, put4_below (hB.trans (hb.mono hB.size)) _ _ _ _ _ _ hg, hg, by rw [put4_size]; omega⟩
  · refine (RowIn.append _ _ _ _ _).2 ⟨bs, b1, rfl, hr1, v, b1, [], by simp, ?_, ?_, ?_, ?_, ?_, rfl⟩
    · rw [Nat.zero_add]; exact d0
    · rw [Nat.zero_add]; exact d1
    · rw [Nat.zero_add]; exact d2
    · rw [Nat.zero_add]; exact d3
    · exact ho1
  · refine List.nodup_append.2 ⟨hn, hnd, fun b hb1 c hc1 => ?_⟩
    have := hbs b hb1
    have := hnew c hc1
    omega
  · intro b hbm
    rw [put4_size]
    rcases List.mem_append.1 hbm with h | h
    · have := hbs b h
      omega
    · have := hnew b h
      omega
theorem FillIn.done {w : World} {g n : Nat} {F : Trees} {w' : World} (h : FillIn w g n F w') (hn : F.length = n) (cap : Nat) (hcap : n ≤ cap) : ∃ bs, OwnV w' (.slice (some ⟨g, 0, none⟩) n cap) F bs ∧ bs.Nodup ∧ ∀ b ∈ bs, w.heap.size ≤ b ∧ b < w'.heap.size := by
  obtain ⟨cs, bs, hc, hs, hr, hnd, hbs, hB, hg, hgl⟩ := h
  refine ⟨g :: bs, .inr ⟨g, cap, bs, by rw [hn], by omega, rfl, ⟨cs, hc⟩, hr⟩, ?_, ?_⟩
  · refine List.nodup_cons.2 ⟨fun hm => ?_, hnd⟩
    have := hbs g hm
    omega
  · intro b hbm
    rcases List.mem_cons.1 hbm with rfl | h
    · exact ⟨hg, hgl⟩
    · have := hbs b h
      omega
end Go.Proofs.YtijbaienhaiamaaGreatDoor.Ex
end

/- What is proved here: the cells of a struct of four fields in a block. No condition. -/
section
namespace Go.Proofs.YtijbaienhaiamaaGreatDoor
open Go.RowKit

/-- A struct of four fields in a block of the call's own. -/
theorem four_cells {w : World} {b : Nat} {x y z u : Value} {T : TypeId} (h : w.heap[b]? = some (.cells #[x, y, z, u] T (0, 0))) : w.cell? ⟨b, 0, none⟩ = some x ∧ w.cell? ⟨b, 1, none⟩ = some y ∧ w.cell? ⟨b, 2, none⟩ = some z ∧ w.cell? ⟨b, 3, none⟩ = some u ∧ w.frozen? ⟨b, 0, none⟩ = false ∧ w.frozen? ⟨b, 1, none⟩ = false ∧ w.frozen? ⟨b, 2, none⟩ = false ∧ w.frozen? ⟨b, 3, none⟩ = false := by
  refine ⟨?_, ?_, ?_, ?_, ?_, ?_, ?_, ?_⟩ <;> simp [World.cell?, World.frozen?, h]
theorem four_set {w : World} {b : Nat} {x y z u : Value} {T : TypeId} (h : w.heap[b]? = some (.cells #[x, y, z, u] T (0, 0))) (v : Value) : (w.setCell ⟨b, 0, none⟩ v).heap[b]? = some (.cells #[v, y, z, u] T (0, 0)) ∧ (w.setCell ⟨b, 1, none⟩ v).heap[b]? = some (.cells #[x, v, z, u] T (0, 0)) ∧ (w.setCell ⟨b, 2, none⟩ v).heap[b]? = some (.cells #[x, y, v, u] T (0, 0)) ∧ (w.setCell ⟨b, 3, none⟩ v).heap[b]? = some (.cells #[x, y, z, v] T (0, 0)) := by
  refine ⟨?_, ?_, ?_, ?_⟩ <;> simp [World.setCell, Array.getElem?_modify, h]
end Go.Proofs.YtijbaienhaiamaaGreatDoor
end

/- What is proved here: a row of nodes that append makes longer, in a block of the call's own, and what lies below its nodes in blocks of the call's own, no two in one. No condition. -/
section
namespace Go.Proofs.YtijbaienhaiamaaGreatDoor.Ex
open Go.RowKit

/-- The cells of a row of nodes; bs: the blocks of what is below them. -/
def RowV (w : World) : Trees → List Value → List Nat → Prop
  | .nil, xs, bs => xs = [] ∧ bs = []
  | .cons k n t ar r, xs, bs => ∃ v b1 b2 ys, xs = .int .i64 k :: .int .i64 n :: .string t :: v :: ys ∧ bs = b1 ++ b2 ∧ OwnV w v ar b1 ∧ RowV w r ys b2
theorem RowV.keep {w w' : World} : ∀ (F : Trees) (xs : List Value) (bs : List Nat), RowV w F xs bs → (∀ b ∈ bs, w'.heap[b]? = w.heap[b]?) → RowV w' F xs bs := by
  intro F
  induction F with
  | nil => intro xs bs h _; exact h
  | cons k n t ar r _ ih =>
    rintro xs bs ⟨v, b1, b2, ys, rfl, rfl, h1, h2⟩ hk
    exact ⟨v, b1, b2, ys, rfl, rfl, h1.keep (fun b hb => hk b (List.mem_append_left _ hb)), ih ys b2 h2 (fun b hb => hk b (List.mem_append_right _ hb))⟩
theorem RowV.length {w : World} : ∀ (F : Trees) (xs : List Value) (bs : List Nat), RowV w F xs bs → xs.length = F.length * 4 := by
  intro F
  induction F with
  | nil => rintro xs bs ⟨rfl, rfl⟩; rfl
  | cons k n t ar r _ ih =>
    rintro xs bs ⟨v, b1, b2, ys, rfl, rfl, h1, h2⟩
    have := ih ys b2 h2
    simp [Trees.length]
    omega
theorem RowV.snoc {w : World} {k n : Int} {t : ByteArray} {ar : Trees} {v : Value} {c : List Nat} (hx : OwnV w v ar c) : ∀ (F : Trees) (xs : List Value) (bs : List Nat), RowV w F xs bs → RowV w (F.snoc k n t ar) (xs ++ [.int .i64 k, .int .i64 n, .string t, v]) (bs ++ c) := by
  intro F
  induction F with
  | nil => rintro xs bs ⟨rfl, rfl⟩; exact ⟨v, c, [], [], rfl, by simp, hx, rfl, rfl⟩
  | cons k2 n2 t2 ar2 r _ ih =>
    rintro xs bs ⟨v2, b1, b2, ys, rfl, rfl, h1, h2⟩
    exact ⟨v2, b1, b2 ++ c, _, rfl, by simp, h1, ih ys b2 h2⟩
theorem RowV.row {w : World} {g : Nat} : ∀ (F : Trees) (xs : List Value) (bs : List Nat) (i : Nat), RowV w F xs bs → (∀ o, o < xs.length → w.cell? ⟨g, i * 4 + o, none⟩ = xs[o]?) → RowIn w F g i bs := by
  intro F
  induction F with
  | nil => rintro xs bs i ⟨rfl, rfl⟩ _; rfl
  | cons k n t ar r _ ih =>
    rintro xs bs i ⟨v, b1, b2, ys, rfl, rfl, h1, h2⟩ hc
    have hl := RowV.length r ys b2 h2
    refine ⟨v, b1, b2, rfl, ?_, ?_, ?_, ?_, h1, ih ys b2 (i + 1) h2 (fun o ho => ?_)⟩
    · have := hc 0 (by simp); simpa using this
    · have := hc 1 (by simp); simpa using this
    · have := hc 2 (by simp); simpa using this
    · have := hc 3 (by simp); simpa using this
    · have := hc (o + 4) (by simp; omega)
      rw [show (i + 1) * 4 + o = i * 4 + (o + 4) by omega, this]
      rfl

/-- v is a slice of the nodes F that the call may append to; bs: the blocks of what is below them. -/
structure GrowV (w : World) (B : Nat) (v : Value) (F : Trees) (bs : List Nat) (xs : List Value) : Prop where
  owns : w.ownsRow B 54 4 v F.length xs
  row : RowV w F xs bs
  nodup : bs.Nodup
  near : ∀ b ∈ bs, B ≤ b ∧ b < w.heap.size ∧ v.ownBlock ≠ some b
theorem GrowV.nil (w : World) (B : Nat) : GrowV w B (.slice none 0 0) .nil [] [] := ⟨⟨rfl, .inl ⟨rfl, rfl⟩⟩, ⟨rfl, rfl⟩, List.nodup_nil, by simp⟩
theorem GrowV.form {w : World} {B : Nat} {v : Value} {F : Trees} {bs : List Nat} {xs : List Value} (h : GrowV w B v F bs xs) : ∃ a cap, v = .slice a F.length cap := by
  rcases h.owns.2 with ⟨h1, h2⟩ | ⟨g, cap, cur, rfl, _⟩
  · exact ⟨none, 0, by rw [h1, h2]⟩
  · exact ⟨_, cap, rfl⟩
theorem GrowV.own {w : World} {B : Nat} {v : Value} {F : Trees} {bs : List Nat} {xs : List Value} (h : GrowV w B v F bs xs) : ∃ cs, OwnV w v F cs ∧ cs.Nodup ∧ ∀ b ∈ cs, B ≤ b ∧ b < w.heap.size := by
  rcases h.owns.2 with ⟨h1, h2⟩ | ⟨g, cap, cur, rfl, hB, hg, h1, h2, h3, h4⟩
  · have hF : F = .nil := by
      cases F with
      | nil => rfl
      | cons _ _ _ _ _ => simp [Trees.length] at h2
    exact ⟨[], .inl ⟨none, 0, h1, hF, rfl⟩, List.nodup_nil, by simp⟩
  · refine ⟨g :: bs, .inr ⟨g, cap, bs, rfl, h1, rfl, ⟨cur, hg⟩, RowV.row F xs bs 0 h.row (fun o ho => ?_)⟩, List.nodup_cons.2 ⟨fun hm => (h.near g hm).2.2 rfl, h.nodup⟩, fun b hb => ?_⟩
    · have hl := RowV.length F xs bs h.row
      rw [Nat.zero_mul, Nat.zero_add, h.owns.cellAt o (by omega)]
    · rcases List.mem_cons.1 hb with rfl | hb
      · exact ⟨hB, (Array.getElem?_eq_some_iff.1 hg).1⟩
      · exact ⟨(h.near b hb).1, (h.near b hb).2.1⟩
theorem GrowV.below {w w' : World} {B : Nat} {v : Value} {F : Trees} {bs : List Nat} {xs : List Value} (h : GrowV w B v F bs xs) (hb : Below w.heap.size w w') : GrowV w' B v F bs xs := by
  refine ⟨⟨h.owns.1, ?_⟩, h.row.keep F xs bs (fun b hm => hb.block b (h.near b hm).2.1), h.nodup, fun b hm => ⟨(h.near b hm).1, Nat.lt_of_lt_of_le (h.near b hm).2.1 hb.size, (h.near b hm).2.2⟩⟩
  rcases h.owns.2 with h | ⟨g, cap, cur, rfl, hB, hg, h1, h2, h3, h4⟩
  · exact .inl h
  · exact .inr ⟨g, cap, cur, rfl, hB, by rw [hb.block g (Array.getElem?_eq_some_iff.1 hg).1]; exact hg, h1, h2, h3, h4⟩
/-- The same row where only other blocks were written. -/
theorem GrowV.aside {w : World} {B : Nat} {v : Value} {F : Trees} {bs : List Nat} {xs : List Value} (h : GrowV w B v F bs xs) (g o : Nat) (u : Value) (hg : g < B) : GrowV (w.setCell ⟨g, o, none⟩ u) B v F bs xs := by
  have hk : ∀ b, B ≤ b → (w.setCell ⟨g, o, none⟩ u).heap[b]? = w.heap[b]? := fun b hb => Below.heap_setCell _ _ _ _ (by show b ≠ g; omega)
  refine ⟨⟨h.owns.1, ?_⟩, h.row.keep F xs bs (fun b hm => hk b (h.near b hm).1), h.nodup, fun b hm => ⟨(h.near b hm).1, by simpa [World.setCell] using (h.near b hm).2.1, (h.near b hm).2.2⟩⟩
  rcases h.owns.2 with h | ⟨g', cap, cur, rfl, hB, hg', h1, h2, h3, h4⟩
  · exact .inl h
  · exact .inr ⟨g', cap, cur, rfl, hB, by rw [hk g' hB]; exact hg', h1, h2, h3, h4⟩
theorem GrowV.far {w : World} {B : Nat} {v : Value} {F : Trees} {bs : List Nat} {xs : List Value} (h : GrowV w B v F bs xs) (b : Nat) (hb : v.ownBlock = some b) : B ≤ b := by
  rcases h.owns.2 with ⟨e, _⟩ | ⟨g, cap, cur, rfl, hB, _⟩
  · subst e; cases hb
  · cases hb; exact hB
theorem grow_four (w : World) (k n : Int) (t : ByteArray) (v : Value) (T : TypeId) : ∀ j u, [Value.int .i64 k, .int .i64 n, .string t, v][j]? = some u → (w.alloc (.cells #[.int .i64 k, .int .i64 n, .string t, v] T)).cell? ((⟨w.heap.size, 0, none⟩ : Addr).add j) = some u :=
  World.news_of_block (heap_at_new w _)
theorem grow_one (k n : Int) (t : ByteArray) (p : Option Addr) (l c : Nat) : ∀ u ∈ [Value.int .i64 k, .int .i64 n, .string t, .slice p l c], u.oneCell' = true := by
  intro u hu
  simp at hu
  rcases hu with rfl | rfl | rfl | rfl <;> rfl
/-- Behind an append of one node: w the world ahead of the node's making, w1 behind it, w2 ahead of the append, w3 behind it. -/
theorem GrowV.more {w w1 w2 w3 : World} {B : Nat} {F ar : Trees} {bs c : List Nat} {xs : List Value} {k n : Int} {t : ByteArray} {u v : Value} {g cap : Nat}
    (h : GrowV w B v F bs xs) (hB : B ≤ w.heap.size) (h1 : Below w.heap.size w w1) (ho : OwnV w1 u ar c) (hnd : c.Nodup) (hc : ∀ b ∈ c, w.heap.size ≤ b ∧ b < w1.heap.size) (h2 : Below w1.heap.size w1 w2)
    (hown : w3.ownsRow B 54 4 (.slice (some ⟨g, 0, none⟩) (F.length + 1) cap) (F.length + 1) (xs ++ [.int .i64 k, .int .i64 n, .string t, u])) (hgrow : w2.grownBy w3 v.ownBlock) (hat : v.ownBlock = some g ∨ g = w2.heap.size) :
    GrowV w3 B (.slice (some ⟨g, 0, none⟩) (F.length + 1) cap) (F.snoc k n t ar) (bs ++ c) (xs ++ [.int .i64 k, .int .i64 n, .string t, u]) := by
  have s1 := h1.size
  have s2 := h2.size
  have s3 := hgrow.size
  have hvb : ∀ b, v.ownBlock = some b → b < w.heap.size := fun b hb => by
    rcases h.owns.2 with ⟨e, _⟩ | ⟨g', cap', cur, rfl, _, hg', _⟩
    · subst e; cases hb
    · cases hb; exact (Array.getElem?_eq_some_iff.1 hg').1
  have kb : ∀ b ∈ bs, w3.heap[b]? = w.heap[b]? := fun b hm => by
    have hn := h.near b hm
    rw [hgrow.block b (by omega) (fun e => hn.2.2 e.symm), h2.block b (by omega), h1.block b hn.2.1]
  have kc : ∀ b ∈ c, w3.heap[b]? = w1.heap[b]? := fun b hm => by
    have hn := hc b hm
    rw [hgrow.block b (by omega) (fun e => by have := hvb b e.symm; omega), h2.block b hn.2]
  refine ⟨?_, RowV.snoc (ho.keep kc) F xs bs (h.row.keep F xs bs kb), List.nodup_append.2 ⟨h.nodup, hnd, fun b hb1 b' hb2 e => ?_⟩, fun b hm => ?_⟩
  · rw [Trees.snoc_length]; exact hown
  · have := (h.near b hb1).2.1
    have := (hc b' hb2).1
    omega
  · rcases List.mem_append.1 hm with hm | hm
    · have hn := h.near b hm
      refine ⟨hn.1, by omega, fun e => ?_⟩
      have e : g = b := Option.some.inj e
      subst e
      rcases hat with ha | ha
      · exact hn.2.2 ha
      · omega
    · have hn := hc b hm
      refine ⟨by omega, by omega, fun e => ?_⟩
      have e : g = b := Option.some.inj e
      subst e
      rcases hat with ha | ha
      · have := hvb g ha; omega
      · omega
end Go.Proofs.YtijbaienhaiamaaGreatDoor.Ex
end

/- What is proved here: rows of nodes in memory of the call's own: the blocks that they lie in, no two parts in one; read, kept, split, filled. No condition. -/
section
namespace Go.Proofs.YtijbaienhaiamaaGreatDoor
open Go.RowKit

/-- Block b holds cells of nodes, none frozen. -/
def NodeBlock (w : World) (b : Nat) : Prop := ∃ cs, w.heap[b]? = some (.cells cs 29 (0, 0))
/-- The row in block g from its i-th node on; bs: the blocks of what is below its nodes. -/
def RowIn (w : World) : Trees → Nat → Nat → List Nat → Prop
  | .nil, _, _, bs => bs = []
  | .cons k n t ar r, g, i, bs => ∃ v b1 b2, bs = b1 ++ b2 ∧ w.cell? ⟨g, i * 4, none⟩ = some (.int .i64 k) ∧ w.cell? ⟨g, i * 4 + 1, none⟩ = some (.int .i64 n) ∧ w.cell? ⟨g, i * 4 + 2, none⟩ = some (.string t) ∧ w.cell? ⟨g, i * 4 + 3, none⟩ = some v ∧
      ((∃ a cap, v = .slice a 0 cap ∧ ar = .nil ∧ b1 = []) ∨ ∃ g' cap b', v = .slice (some ⟨g', 0, none⟩) ar.length cap ∧ ar.length ≤ cap ∧ b1 = g' :: b' ∧ NodeBlock w g' ∧ RowIn w ar g' 0 b') ∧ RowIn w r g (i + 1) b2
/-- v is a slice that reads as the row F, in the blocks bs. -/
def OwnV (w : World) (v : Value) (F : Trees) (bs : List Nat) : Prop :=
  (∃ a cap, v = .slice a 0 cap ∧ F = .nil ∧ bs = []) ∨ ∃ g cap b', v = .slice (some ⟨g, 0, none⟩) F.length cap ∧ F.length ≤ cap ∧ bs = g :: b' ∧ NodeBlock w g ∧ RowIn w F g 0 b'

theorem RowIn.keep {w w' : World} : ∀ (F : Trees) (g i : Nat) (bs : List Nat), RowIn w F g i bs → (∀ o, i * 4 ≤ o → o < (i + F.length) * 4 → w'.cell? ⟨g, o, none⟩ = w.cell? ⟨g, o, none⟩) → (∀ b ∈ bs, w'.heap[b]? = w.heap[b]?) → RowIn w' F g i bs := by
  intro F
  induction F with
  | nil => intro g i bs h _ _; exact h
  | cons k n t ar r ih1 ih2 =>
    rintro g i bs ⟨v, b1, b2, rfl, h0, h1, h2, h3, ho, hr⟩ hc hb
    simp only [Trees.length] at hc
    refine ⟨v, b1, b2, rfl, ?_, ?_, ?_, ?_, ?_, ih2 g (i + 1) b2 hr (fun o ho1 ho2 => hc o (by omega) (by omega)) (fun b hbm => hb b (List.mem_append_right _ hbm))⟩
    · rw [hc _ (by omega) (by omega)]; exact h0
    · rw [hc _ (by omega) (by omega)]; exact h1
    · rw [hc _ (by omega) (by omega)]; exact h2
    · rw [hc _ (by omega) (by omega)]; exact h3
    · rcases ho with h | ⟨g', cap, b', e1, hl, rfl, ⟨cs, hn⟩, hrow⟩
      · exact .inl h
      · have hg : w'.heap[g']? = w.heap[g']? := hb g' (by simp)
        exact .inr ⟨g', cap, b', e1, hl, rfl, ⟨cs, hg.trans hn⟩, ih1 g' 0 b' hrow (fun o _ _ => World.cell?_of_block hg) (fun b hbm => hb b (by simp [hbm]))⟩
theorem OwnV.keep {w w' : World} {v : Value} {F : Trees} {bs : List Nat} (h : OwnV w v F bs) (hb : ∀ b ∈ bs, w'.heap[b]? = w.heap[b]?) : OwnV w' v F bs := by
  rcases h with h | ⟨g, cap, b', e1, hl, rfl, ⟨cs, hn⟩, hrow⟩
  · exact .inl h
  · have hg : w'.heap[g]? = w.heap[g]? := hb g (by simp)
    exact .inr ⟨g, cap, b', e1, hl, rfl, ⟨cs, hg.trans hn⟩, hrow.keep F g 0 b' (fun o _ _ => World.cell?_of_block hg) (fun b hbm => hb b (by simp [hbm]))⟩
theorem NodeBlock.lt {w : World} {b : Nat} (h : NodeBlock w b) : b < w.heap.size := by
  obtain ⟨cs, h⟩ := h
  exact (Array.getElem?_eq_some_iff.1 h).1
theorem NodeBlock.free {w : World} {b : Nat} (h : NodeBlock w b) (o : Nat) : w.frozen? ⟨b, o, none⟩ = false := by
  obtain ⟨cs, h⟩ := h
  simp [World.frozen?, h]
theorem RowIn.blocks {w : World} : ∀ (F : Trees) (g i : Nat) (bs : List Nat), RowIn w F g i bs → ∀ b ∈ bs, NodeBlock w b := by
  intro F
  induction F with
  | nil => rintro g i bs rfl b hb; simp at hb
  | cons k n t ar r ih1 ih2 =>
    rintro g i bs ⟨v, b1, b2, rfl, h0, h1, h2, h3, ho, hr⟩ b hb
    rcases List.mem_append.1 hb with h | h
    · rcases ho with ⟨_, _, _, _, rfl⟩ | ⟨g', cap, b', e1, _, rfl, hn, hrow⟩
      · simp at h
      · rcases List.mem_cons.1 h with rfl | h
        · exact hn
        · exact ih1 g' 0 b' hrow b h
    · exact ih2 g (i + 1) b2 hr b h
theorem OwnV.blocks {w : World} {v : Value} {F : Trees} {bs : List Nat} (h : OwnV w v F bs) : ∀ b ∈ bs, NodeBlock w b := by
  intro b hb
  rcases h with ⟨_, _, _, _, rfl⟩ | ⟨g, cap, b', e1, _, rfl, hn, hrow⟩
  · simp at hb
  · rcases List.mem_cons.1 hb with rfl | h
    · exact hn
    · exact hrow.blocks F g 0 b' b h
theorem RowIn.append {w : World} : ∀ (A B : Trees) (g i : Nat) (bs : List Nat), RowIn w (A.append B) g i bs ↔ ∃ b1 b2, bs = b1 ++ b2 ∧ RowIn w A g i b1 ∧ RowIn w B g (i + A.length) b2 := by
  intro A
  induction A with
  | nil =>
    intro B g i bs
    constructor
    · intro h; exact ⟨[], bs, rfl, rfl, h⟩
    · rintro ⟨b1, b2, rfl, rfl, h⟩; exact h
  | cons k n t ar r ih1 ih2 =>
    intro B g i bs
    constructor
    · rintro ⟨v, b1, b2, rfl, h0, h1, h2, h3, ho, hr⟩
      obtain ⟨c1, c2, rfl, e1, e2⟩ := (ih2 B g (i + 1) b2).1 hr
      refine ⟨b1 ++ c1, c2, by simp, ⟨v, b1, c1, rfl, h0, h1, h2, h3, ho, e1⟩, ?_⟩
      rw [show i + (Trees.cons k n t ar r).length = i + 1 + r.length by simp only [Trees.length]; omega]
      exact e2
    · rintro ⟨b0, c2, rfl, ⟨v, b1, c1, rfl, h0, h1, h2, h3, ho, e1⟩, e2⟩
      refine ⟨v, b1, c1 ++ c2, by simp, h0, h1, h2, h3, ho, (ih2 B g (i + 1) _).2 ⟨c1, c2, rfl, e1, ?_⟩⟩
      rw [show i + 1 + r.length = i + (Trees.cons k n t ar r).length by simp only [Trees.length]; omega]
      exact e2
theorem own_field (g i j : Nat) : fieldAt ⟨g, 0, none⟩ i j = ⟨g, i * 4 + j, none⟩ := by
  unfold fieldAt Addr.add
  by_cases hi : i * 4 = 0
  · rw [if_pos hi, hi]
  · rw [if_neg hi]; simp
theorem own_first (g i : Nat) : (⟨g, 0, none⟩ : Addr).add (i * 4) = ⟨g, i * 4, none⟩ := by
  unfold Addr.add
  by_cases hi : i * 4 = 0
  · rw [if_pos hi, hi]
  · rw [if_neg hi]; simp
theorem RowIn.reads {w : World} : ∀ (F : Trees) (g i : Nat) (bs : List Nat), RowIn w F g i bs → TreesAt w F (some ⟨g, 0, none⟩) i := by
  intro F
  induction F with
  | nil => intro _ _ _ _; trivial
  | cons k n t ar r ih1 ih2 =>
    rintro g i bs ⟨v, b1, b2, rfl, h0, h1, h2, h3, ho, hr⟩
    refine ⟨?_, ih2 g (i + 1) b2 hr⟩
    have hv : ∃ p cap, v = .slice p ar.length cap ∧ ar.length ≤ cap ∧ TreesAt w ar p 0 := by
      rcases ho with ⟨a, cap, e1, rfl, _⟩ | ⟨g', cap, b', e1, hl, _, _, hrow⟩
      · exact ⟨a, cap, e1, Nat.zero_le _, trivial⟩
      · exact ⟨_, cap, e1, hl, ih1 g' 0 b' hrow⟩
    obtain ⟨p, cap, rfl, hl, hp⟩ := hv
    refine ⟨⟨g, 0, none⟩, p, cap, rfl, ?_, ?_, ?_, ?_, hl, hp⟩
    · rw [own_first]; exact h0
    · rw [own_field]; exact h1
    · rw [own_field]; exact h2
    · rw [own_field]; exact h3
theorem OwnV.reads {w : World} {v : Value} {F : Trees} {bs : List Nat} (h : OwnV w v F bs) : ∃ p cap, v = .slice p F.length cap ∧ F.length ≤ cap ∧ TreesAt w F p 0 := by
  rcases h with ⟨a, cap, e1, rfl, _⟩ | ⟨g, cap, b', e1, hl, _, _, hrow⟩
  · exact ⟨a, cap, e1, Nat.zero_le _, trivial⟩
  · exact ⟨_, cap, e1, hl, hrow.reads F g 0 b'⟩

/-! A node's cells, set. -/
def put4 (w : World) (g k : Nat) (u0 u1 u2 u3 : Value) : World := (((w.setCell ⟨g, k * 4, none⟩ u0).setCell ⟨g, k * 4 + 1, none⟩ u1).setCell ⟨g, k * 4 + 2, none⟩ u2).setCell ⟨g, k * 4 + 3, none⟩ u3
theorem put4_other (w : World) (g k : Nat) (u0 u1 u2 u3 : Value) (b : Nat) (h : b ≠ g) : (put4 w g k u0 u1 u2 u3).heap[b]? = w.heap[b]? := by
  unfold put4
  rw [Below.heap_setCell _ _ _ _ h, Below.heap_setCell _ _ _ _ h, Below.heap_setCell _ _ _ _ h, Below.heap_setCell _ _ _ _ h]
theorem put4_size (w : World) (g k : Nat) (u0 u1 u2 u3 : Value) : (put4 w g k u0 u1 u2 u3).heap.size = w.heap.size := by simp [put4, World.setCell]
theorem put4_below {B : Nat} {a w : World} (h : Below B a w) (g k : Nat) (u0 u1 u2 u3 : Value) (hg : B ≤ g) : Below B a (put4 w g k u0 u1 u2 u3) :=
  (((h.setCell (p := ⟨g, k * 4, none⟩) hg u0).setCell (p := ⟨g, k * 4 + 1, none⟩) hg u1).setCell (p := ⟨g, k * 4 + 2, none⟩) hg u2).setCell (p := ⟨g, k * 4 + 3, none⟩) hg u3
theorem put4_block {w : World} {g : Nat} {cs : Array Value} {T : TypeId} (h : w.heap[g]? = some (.cells cs T (0, 0))) (k : Nat) (u0 u1 u2 u3 : Value) :
    (put4 w g k u0 u1 u2 u3).heap[g]? = some (.cells ((((cs.setIfInBounds (k * 4) u0).setIfInBounds (k * 4 + 1) u1).setIfInBounds (k * 4 + 2) u2).setIfInBounds (k * 4 + 3) u3) T (0, 0)) := by
  simp [put4, World.setCell, Array.getElem?_modify, h]
/-- The cells of a node in a block of cells. -/
theorem node_cells {w : World} {g : Nat} {cs : Array Value} {T : TypeId} (h : w.heap[g]? = some (.cells cs T (0, 0))) (k n : Nat) (hs : cs.size = n * 4) (hk : k < n) :
    ∃ x0 x1 x2 x3, w.cell? ⟨g, k * 4, none⟩ = some x0 ∧ w.cell? ⟨g, k * 4 + 1, none⟩ = some x1 ∧ w.cell? ⟨g, k * 4 + 2, none⟩ = some x2 ∧ w.cell? ⟨g, k * 4 + 3, none⟩ = some x3 ∧
      w.frozen? ⟨g, k * 4, none⟩ = false ∧ w.frozen? ⟨g, k * 4 + 1, none⟩ = false ∧ w.frozen? ⟨g, k * 4 + 2, none⟩ = false ∧ w.frozen? ⟨g, k * 4 + 3, none⟩ = false := by
  have e : ∀ o, o < n * 4 → ∃ x, w.cell? ⟨g, o, none⟩ = some x := fun o ho => ⟨cs[o]'(by omega), by simp [World.cell?, h, hs, ho]⟩
  obtain ⟨x0, h0⟩ := e (k * 4) (by omega)
  obtain ⟨x1, h1⟩ := e (k * 4 + 1) (by omega)
  obtain ⟨x2, h2⟩ := e (k * 4 + 2) (by omega)
  obtain ⟨x3, h3⟩ := e (k * 4 + 3) (by omega)
  refine ⟨x0, x1, x2, x3, h0, h1, h2, h3, ?_, ?_, ?_, ?_⟩ <;> simp [World.frozen?, h]
theorem put4_cells {w : World} {g : Nat} {cs : Array Value} {T : TypeId} (h : w.heap[g]? = some (.cells cs T (0, 0))) (k n : Nat) (hs : cs.size = n * 4) (hk : k < n) (u0 u1 u2 u3 : Value) :
    (put4 w g k u0 u1 u2 u3).cell? ⟨g, k * 4, none⟩ = some u0 ∧ (put4 w g k u0 u1 u2 u3).cell? ⟨g, k * 4 + 1, none⟩ = some u1 ∧ (put4 w g k u0 u1 u2 u3).cell? ⟨g, k * 4 + 2, none⟩ = some u2 ∧ (put4 w g k u0 u1 u2 u3).cell? ⟨g, k * 4 + 3, none⟩ = some u3 ∧
      ∀ o, (o < k * 4 ∨ k * 4 + 4 ≤ o) → (put4 w g k u0 u1 u2 u3).cell? ⟨g, o, none⟩ = w.cell? ⟨g, o, none⟩ := by
  have hb := put4_block h k u0 u1 u2 u3
  have l0 : k * 4 < cs.size := by omega
  have l1 : k * 4 + 1 < cs.size := by omega
  have l2 : k * 4 + 2 < cs.size := by omega
  have l3 : k * 4 + 3 < cs.size := by omega
  refine ⟨?_, ?_, ?_, ?_, ?_⟩
  · simp [World.cell?, hb, l0]
  · simp [World.cell?, hb, l1]
  · simp [World.cell?, hb, l2]
  · simp [World.cell?, hb, l3]
  · intro o ho
    have e : ((((cs.setIfInBounds (k * 4) u0).setIfInBounds (k * 4 + 1) u1).setIfInBounds (k * 4 + 2) u2).setIfInBounds (k * 4 + 3) u3)[o]? = cs[o]? := by
      rw [Array.getElem?_setIfInBounds_ne (by omega), Array.getElem?_setIfInBounds_ne (by omega), Array.getElem?_setIfInBounds_ne (by omega), Array.getElem?_setIfInBounds_ne (by omega)]
    simp only [World.cell?, hb, h, e]

/-- A row of n that is being filled in block g, which was new in w: the first nodes are there, what is below them in blocks that came behind. -/
def FillIn (w : World) (g n : Nat) (pre : Trees) (w' : World) : Prop :=
  ∃ cs bs, w'.heap[g]? = some (.cells cs 29 (0, 0)) ∧ cs.size = n * 4 ∧ RowIn w' pre g 0 bs ∧ bs.Nodup ∧ (∀ b ∈ bs, g < b ∧ b < w'.heap.size) ∧ Below w.heap.size w w' ∧ w.heap.size ≤ g ∧ g < w'.heap.size
theorem FillIn.below {w : World} {g n : Nat} {pre : Trees} {w' : World} (h : FillIn w g n pre w') : Below w.heap.size w w' := by
  obtain ⟨_, _, _, _, _, _, _, h, _⟩ := h
  exact h
/-- What the walk needs at the store, and what is behind it. -/
theorem FillIn.step {w : World} {g n : Nat} {pre : Trees} {w' w1 : World} {k m : Int} {t : ByteArray} {ar : Trees} {v : Value} {b1 : List Nat} (h : FillIn w g n pre w') (hk : pre.length < n) (hb : Below w'.heap.size w' w1) (ho : OwnV w1 v ar b1) (hnd : b1.Nodup) (hnew : ∀ b ∈ b1, w'.heap.size ≤ b ∧ b < w1.heap.size) :
    ∃ x0 x1 x2 x3, w1.cell? ⟨g, pre.length * 4, none⟩ = some x0 ∧ w1.cell? ⟨g, pre.length * 4 + 1, none⟩ = some x1 ∧ w1.cell? ⟨g, pre.length * 4 + 2, none⟩ = some x2 ∧ w1.cell? ⟨g, pre.length * 4 + 3, none⟩ = some x3 ∧
      w1.frozen? ⟨g, pre.length * 4, none⟩ = false ∧ w1.frozen? ⟨g, pre.length * 4 + 1, none⟩ = false ∧ w1.frozen? ⟨g, pre.length * 4 + 2, none⟩ = false ∧ w1.frozen? ⟨g, pre.length * 4 + 3, none⟩ = false ∧
      FillIn w g n (pre.snoc k m t ar) (put4 w1 g pre.length (.int .i64 k) (.int .i64 m) (.string t) v) := by
  obtain ⟨cs, bs, hc, hs, hr, hn, hbs, hB, hg, hgl⟩ := h
  have hs1 := hb.size
  have hc1 : w1.heap[g]? = some (.cells cs 29 (0, 0)) := (hb.block g hgl).trans hc
  obtain ⟨x0, x1, x2, x3, c0, c1, c2, c3, f0, f1, f2, f3⟩ := node_cells hc1 pre.length n hs hk
  refine ⟨x0, x1, x2, x3, c0, c1, c2, c3, f0, f1, f2, f3, ?_⟩
  obtain ⟨d0, d1, d2, d3, d4⟩ := put4_cells hc1 pre.length n hs hk (.int .i64 k) (.int .i64 m) (.string t) v
  have hot : ∀ b, b ≠ g → (put4 w1 g pre.length (.int .i64 k) (.int .i64 m) (.string t) v).heap[b]? = w1.heap[b]? := fun b hne => put4_other _ _ _ _ _ _ _ b hne
  have hr1 : RowIn (put4 w1 g pre.length (.int .i64 k) (.int .i64 m) (.string t) v) pre g 0 bs := by
    refine hr.keep pre g 0 bs (fun o _ ho2 => ?_) (fun b hbm => ?_)
    · rw [d4 o (.inl (by omega))]
      exact World.cell?_of_block (hb.block g hgl)
    · have := hbs b hbm
      rw [hot b (by omega), hb.block b this.2]
  have ho1 : OwnV (put4 w1 g pre.length (.int .i64 k) (.int .i64 m) (.string t) v) v ar b1 := ho.keep (fun b hbm => hot b (by have := hnew b hbm; omega))
  refine ⟨_, bs ++ b1, put4_block hc1 _ _ _ _ _, by simp [hs], ?_, ?_, ?_, put4_below (hB.trans (hb.mono hB.size)) _ _ _ _ _ _ hg, hg, by rw [put4_size]; omega⟩
  · refine (RowIn.append _ _ _ _ _).2 ⟨bs, b1, rfl, hr1, v, b1, [], by simp, ?_, ?_, ?_, ?_, ?_, rfl⟩
    · rw [Nat.zero_add]; exact d0
    · rw [Nat.zero_add]; exact d1
    · rw [Nat.zero_add]; exact d2
    · rw [Nat.zero_add]; exact d3
    · exact ho1
  · refine List.nodup_append.2 ⟨hn, hnd, fun b hb1 c hc1 => ?_⟩
    have := hbs b hb1
    have := hnew c hc1
    omega
  · intro b hbm
    rw [put4_size]
    rcases List.mem_append.1 hbm with h | h
    · have := hbs b h
      omega
    · have := hnew b h
      omega
theorem FillIn.done {w : World} {g n : Nat} {F : Trees} {w' : World} (h : FillIn w g n F w') (hn : F.length = n) (cap : Nat) (hcap : n ≤ cap) : ∃ bs, OwnV w' (.slice (some ⟨g, 0, none⟩) n cap) F bs ∧ bs.Nodup ∧ ∀ b ∈ bs, w.heap.size ≤ b ∧ b < w'.heap.size := by
  obtain ⟨cs, bs, hc, hs, hr, hnd, hbs, hB, hg, hgl⟩ := h
  refine ⟨g :: bs, .inr ⟨g, cap, bs, by rw [hn], by omega, rfl, ⟨cs, hc⟩, hr⟩, ?_, ?_⟩
  · refine List.nodup_cons.2 ⟨fun hm => ?_, hnd⟩
    have := hbs g hm
    omega
  · intro b hbm
    rcases List.mem_cons.1 hbm with rfl | h
    · exact ⟨hg, hgl⟩
    · have := hbs b h
      omega
end Go.Proofs.YtijbaienhaiamaaGreatDoor
end
