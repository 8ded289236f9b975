/- What is proved here: rows of nodes in memory of the call's own: the blocks that they lie in, no two parts in one; read, kept, split, filled. No condition. -/
import Derived.Test.YtcimdhmmgneljaaTrees
namespace Go.Proofs.Ytcimdhmmgneljaa.Ex
open Go.RowKit

/-- Block b holds cells of nodes, none frozen. -/
def NodeBlock (w : World) (b : Nat) : Prop := ∃ cs, w.heap[b]? = some (.cells cs 38 (0, 0))
/-- The row in block g from its i-th node on; bs: the blocks of what is below its nodes. -/
def RowIn (w : World) : Trees → Nat → Nat → List Nat → Prop
  | .nil, _, _, bs => bs = []
  | .cons k n t ar r, g, i, bs => ∃ v b1 b2, bs = b1 ++ b2 ∧ w.cell? ⟨g, i * 4, none⟩ = some (.int .i64 k) ∧ w.cell? ⟨g, i * 4 + 1, none⟩ = some (.int .i64 n) ∧ w.cell? ⟨g, i * 4 + 2, none⟩ = some (.string t) ∧ w.cell? ⟨g, i * 4 + 3, none⟩ = some v ∧
      ((∃ a cap, v = .slice a 0 cap ∧ ar = .nil ∧ b1 = []) ∨ ∃ g' cap b', v = .slice (some ⟨g', 0, none⟩) ar.length cap ∧ ar.length ≤ cap ∧ b1 = g' :: b' ∧ NodeBlock w g' ∧ RowIn w ar g' 0 b') ∧ RowIn w r g (i + 1) b2
/-- v is a slice that reads as the row F, in the blocks bs. -/
def OwnV (w : World) (v : Value) (F : Trees) (bs : List Nat) : Prop :=
  (∃ a cap, v = .slice a 0 cap ∧ F = .nil ∧ bs = []) ∨ ∃ g cap b', v = .slice (some ⟨g, 0, none⟩) F.length cap ∧ F.length ≤ cap ∧ bs = g :: b' ∧ NodeBlock w g ∧ RowIn w F g 0 b'

theorem RowIn.keep {w w' : World} : ∀ (F : Trees) (g i : Nat) (bs : List Nat), RowIn w F g i bs → (∀ o, i * 4 ≤ o → o < (i + F.length) * 4 → w'.cell? ⟨g, o, none⟩ = w.cell? ⟨g, o, none⟩) → (∀ b ∈ bs, w'.heap[b]? = w.heap[b]?) → RowIn w' F g i bs := by
  intro F
  induction F with
  | nil => intro g i bs h _ _; exact h
  | cons k n t ar r ih1 ih2 =>
    rintro g i bs ⟨v, b1, b2, rfl, h0, h1, h2, h3, ho, hr⟩ hc hb
    simp only [Trees.length] at hc
    refine ⟨v, b1, b2, rfl, ?_, ?_, ?_, ?_, ?_, ih2 g (i + 1) b2 hr (fun o ho1 ho2 => hc o (by omega) (by omega)) (fun b hbm => hb b (List.mem_append_right _ hbm))⟩
    · rw [hc _ (by omega) (by omega)]; exact h0
    · rw [hc _ (by omega) (by omega)]; exact h1
    · rw [hc _ (by omega) (by omega)]; exact h2
    · rw [hc _ (by omega) (by omega)]; exact h3
    · rcases ho with h | ⟨g', cap, b', e1, hl, rfl, ⟨cs, hn⟩, hrow⟩
      · exact .inl h
      · have hg : w'.heap[g']? = w.heap[g']? := hb g' (by simp)
        exact .inr ⟨g', cap, b', e1, hl, rfl, ⟨cs, hg.trans hn⟩, ih1 g' 0 b' hrow (fun o _ _ => World.cell?_of_block hg) (fun b hbm => hb b (by simp [hbm]))⟩
theorem OwnV.keep {w w' : World} {v : Value} {F : Trees} {bs : List Nat} (h : OwnV w v F bs) (hb : ∀ b ∈ bs, w'.heap[b]? = w.heap[b]?) : OwnV w' v F bs := by
  rcases h with h | ⟨g, cap, b', e1, hl, rfl, ⟨cs, hn⟩, hrow⟩
  · exact .inl h
  · have hg : w'.heap[g]? = w.heap[g]? := hb g (by simp)
    exact .inr ⟨g, cap, b', e1, hl, rfl, ⟨cs, hg.trans hn⟩, hrow.keep F g 0 b' (fun o _ _ => World.cell?_of_block hg) (fun b hbm => hb b (by simp [hbm]))⟩
theorem NodeBlock.lt {w : World} {b : Nat} (h : NodeBlock w b) : b < w.heap.size := by
  obtain ⟨cs, h⟩ := h
  exact (Array.getElem?_eq_some_iff.1 h).1
theorem NodeBlock.free {w : World} {b : Nat} (h : NodeBlock w b) (o : Nat) : w.frozen? ⟨b, o, none⟩ = false := by
  obtain ⟨cs, h⟩ := h
  simp [World.frozen?, h]
theorem RowIn.blocks {w : World} : ∀ (F : Trees) (g i : Nat) (bs : List Nat), RowIn w F g i bs → ∀ b ∈ bs, NodeBlock w b := by
  intro F
  induction F with
  | nil => rintro g i bs rfl b hb; simp at hb
  | cons k n t ar r ih1 ih2 =>
    rintro g i bs ⟨v, b1, b2, rfl, h0, h1, h2, h3, ho, hr⟩ b hb
    rcases List.mem_append.1 hb with h | h
    · rcases ho with ⟨_, _, _, _, rfl⟩ | ⟨g', cap, b', e1, _, rfl, hn, hrow⟩
      · simp at h
      · rcases List.mem_cons.1 h with rfl | h
        · exact hn
        · exact ih1 g' 0 b' hrow b h
    · exact ih2 g (i + 1) b2 hr b h
theorem OwnV.blocks {w : World} {v : Value} {F : Trees} {bs : List Nat} (h : OwnV w v F bs) : ∀ b ∈ bs, NodeBlock w b := by
  intro b hb
  rcases h with ⟨_, _, _, _, rfl⟩ | ⟨g, cap, b', e1, _, rfl, hn, hrow⟩
  · simp at hb
  · rcases List.mem_cons.1 hb with rfl | h
    · exact hn
    · exact hrow.blocks F g 0 b' b h
theorem RowIn.append {w : World} : ∀ (A B : Trees) (g i : Nat) (bs : List Nat), RowIn w (A.append B) g i bs ↔ ∃ b1 b2, bs = b1 ++ b2 ∧ RowIn w A g i b1 ∧ RowIn w B g (i + A.length) b2 := by
  intro A
  induction A with
  | nil =>
    intro B g i bs
    constructor
    · intro h; exact ⟨[], bs, rfl, rfl, h⟩
    · rintro ⟨b1, b2, rfl, rfl, h⟩; exact h
  | cons k n t ar r ih1 ih2 =>
    intro B g i bs
    constructor
    · rintro ⟨v, b1, b2, rfl, h0, h1, h2, h3, ho, hr⟩
      obtain ⟨c1, c2, rfl, e1, e2⟩ := (ih2 B g (i + 1) b2).1 hr
      refine ⟨b1 ++ c1, c2, by simp, ⟨v, b1, c1, rfl, h0, h1, h2, h3, ho, e1⟩, ?_⟩
      rw [show i + (Trees.cons k n t ar r).length = i + 1 + r.length by simp only [Trees.length]; omega]
      exact e2
    · rintro ⟨b0, c2, rfl, ⟨v, b1, c1, rfl, h0, h1, h2, h3, ho, e1⟩, e2⟩
      refine ⟨v, b1, c1 ++ c2, by simp, h0, h1, h2, h3, ho, (ih2 B g (i + 1) _).2 ⟨c1, c2, rfl, e1, ?_⟩⟩
      rw [show i + 1 + r.length = i + (Trees.cons k n t ar r).length by simp only [Trees.length]; omega]
      exact e2
theorem own_field (g i j : Nat) : fieldAt ⟨g, 0, none⟩ i j = ⟨g, i * 4 + j, none⟩ := by
  unfold fieldAt Addr.add
  by_cases hi : i * 4 = 0
  · rw [if_pos hi, hi]
  · rw [if_neg hi]; simp
theorem own_first (g i : Nat) : (⟨g, 0, none⟩ : Addr).add (i * 4) = ⟨g, i * 4, none⟩ := by
  unfold Addr.add
  by_cases hi : i * 4 = 0
  · rw [if_pos hi, hi]
  · rw [if_neg hi]; simp
theorem RowIn.reads {w : World} : ∀ (F : Trees) (g i : Nat) (bs : List Nat), RowIn w F g i bs → TreesAt w F (some ⟨g, 0, none⟩) i := by
  intro F
  induction F with
  | nil => intro _ _ _ _; trivial
  | cons k n t ar r ih1 ih2 =>
    rintro g i bs ⟨v, b1, b2, rfl, h0, h1, h2, h3, ho, hr⟩
    refine ⟨?_, ih2 g (i + 1) b2 hr⟩
    have hv : ∃ p cap, v = .slice p ar.length cap ∧ ar.length ≤ cap ∧ TreesAt w ar p 0 := by
      rcases ho with ⟨a, cap, e1, rfl, _⟩ | ⟨g', cap, b', e1, hl, _, _, hrow⟩
      · exact ⟨a, cap, e1, Nat.zero_le _, trivial⟩
      · exact ⟨_, cap, e1, hl, ih1 g' 0 b' hrow⟩
    obtain ⟨p, cap, rfl, hl, hp⟩ := hv
    refine ⟨⟨g, 0, none⟩, p, cap, rfl, ?_, ?_, ?_, ?_, hl, hp⟩
    · rw [own_first]; exact h0
    · rw [own_field]; exact h1
    · rw [own_field]; exact h2
    · rw [own_field]; exact h3
theorem OwnV.reads {w : World} {v : Value} {F : Trees} {bs : List Nat} (h : OwnV w v F bs) : ∃ p cap, v = .slice p F.length cap ∧ F.length ≤ cap ∧ TreesAt w F p 0 := by
  rcases h with ⟨a, cap, e1, rfl, _⟩ | ⟨g, cap, b', e1, hl, _, _, hrow⟩
  · exact ⟨a, cap, e1, Nat.zero_le _, trivial⟩
  · exact ⟨_, cap, e1, hl, hrow.reads F g 0 b'⟩

/-! A node's cells, set. -/
def put4 (w : World) (g k : Nat) (u0 u1 u2 u3 : Value) : World := (((w.setCell ⟨g, k * 4, none⟩ u0).setCell ⟨g, k * 4 + 1, none⟩ u1).setCell ⟨g, k * 4 + 2, none⟩ u2).setCell ⟨g, k * 4 + 3, none⟩ u3
theorem put4_other (w : World) (g k : Nat) (u0 u1 u2 u3 : Value) (b : Nat) (h : b ≠ g) : (put4 w g k u0 u1 u2 u3).heap[b]? = w.heap[b]? := by
  unfold put4
  rw [Below.heap_setCell _ _ _ _ h, Below.heap_setCell _ _ _ _ h, Below.heap_setCell _ _ _ _ h, Below.heap_setCell _ _ _ _ h]
theorem put4_size (w : World) (g k : Nat) (u0 u1 u2 u3 : Value) : (put4 w g k u0 u1 u2 u3).heap.size = w.heap.size := by simp [put4, World.setCell]
theorem put4_below {B : Nat} {a w : World} (h : Below B a w) (g k : Nat) (u0 u1 u2 u3 : Value) (hg : B ≤ g) : Below B a (put4 w g k u0 u1 u2 u3) :=
  (((h.setCell (p := ⟨g, k * 4, none⟩) hg u0).setCell (p := ⟨g, k * 4 + 1, none⟩) hg u1).setCell (p := ⟨g, k * 4 + 2, none⟩) hg u2).setCell (p := ⟨g, k * 4 + 3, none⟩) hg u3
theorem put4_block {w : World} {g : Nat} {cs : Array Value} {T : TypeId} (h : w.heap[g]? = some (.cells cs T (0, 0))) (k : Nat) (u0 u1 u2 u3 : Value) :
    (put4 w g k u0 u1 u2 u3).heap[g]? = some (.cells ((((cs.setIfInBounds (k * 4) u0).setIfInBounds (k * 4 + 1) u1).setIfInBounds (k * 4 + 2) u2).setIfInBounds (k * 4 + 3) u3) T (0, 0)) := by
  simp [put4, World.setCell, Array.getElem?_modify, h]
/-- The cells of a node in a block of cells. -/
theorem node_cells {w : World} {g : Nat} {cs : Array Value} {T : TypeId} (h : w.heap[g]? = some (.cells cs T (0, 0))) (k n : Nat) (hs : cs.size = n * 4) (hk : k < n) :
    ∃ x0 x1 x2 x3, w.cell? ⟨g, k * 4, none⟩ = some x0 ∧ w.cell? ⟨g, k * 4 + 1, none⟩ = some x1 ∧ w.cell? ⟨g, k * 4 + 2, none⟩ = some x2 ∧ w.cell? ⟨g, k * 4 + 3, none⟩ = some x3 ∧
      w.frozen? ⟨g, k * 4, none⟩ = false ∧ w.frozen? ⟨g, k * 4 + 1, none⟩ = false ∧ w.frozen? ⟨g, k * 4 + 2, none⟩ = false ∧ w.frozen? ⟨g, k * 4 + 3, none⟩ = false := by
  have e : ∀ o, o < n * 4 → ∃ x, w.cell? ⟨g, o, none⟩ = some x := fun o ho => ⟨cs[o]'(by omega), by simp [World.cell?, h, hs, ho]⟩
  obtain ⟨x0, h0⟩ := e (k * 4) (by omega)
  obtain ⟨x1, h1⟩ := e (k * 4 + 1) (by omega)
  obtain ⟨x2, h2⟩ := e (k * 4 + 2) (by omega)
  obtain ⟨x3, h3⟩ := e (k * 4 + 3) (by omega)
  refine ⟨x0, x1, x2, x3, h0, h1, h2, h3, ?_, ?_, ?_, ?_⟩ <;> simp [World.frozen?, h]
theorem put4_cells {w : World} {g : Nat} {cs : Array Value} {T : TypeId} (h : w.heap[g]? = some (.cells cs T (0, 0))) (k n : Nat) (hs : cs.size = n * 4) (hk : k < n) (u0 u1 u2 u3 : Value) :
    (put4 w g k u0 u1 u2 u3).cell? ⟨g, k * 4, none⟩ = some u0 ∧ (put4 w g k u0 u1 u2 u3).cell? ⟨g, k * 4 + 1, none⟩ = some u1 ∧ (put4 w g k u0 u1 u2 u3).cell? ⟨g, k * 4 + 2, none⟩ = some u2 ∧ (put4 w g k u0 u1 u2 u3).cell? ⟨g, k * 4 + 3, none⟩ = some u3 ∧
      ∀ o, (o < k * 4 ∨ k * 4 + 4 ≤ o) → (put4 w g k u0 u1 u2 u3).cell? ⟨g, o, none⟩ = w.cell? ⟨g, o, none⟩ := by
  have hb := put4_block h k u0 u1 u2 u3
  have l0 : k * 4 < cs.size := by omega
  have l1 : k * 4 + 1 < cs.size := by omega
  have l2 : k * 4 + 2 < cs.size := by omega
  have l3 : k * 4 + 3 < cs.size := by omega
  refine ⟨?_, ?_, ?_, ?_, ?_⟩
  · simp [World.cell?, hb, l0]
  · simp [World.cell?, hb, l1]
  · simp [World.cell?, hb, l2]
  · simp [World.cell?, hb, l3]
  · intro o ho
    have e : ((((cs.setIfInBounds (k * 4) u0).setIfInBounds (k * 4 + 1) u1).setIfInBounds (k * 4 + 2) u2).setIfInBounds (k * 4 + 3) u3)[o]? = cs[o]? := by
      rw [Array.getElem?_setIfInBounds_ne (by omega), Array.getElem?_setIfInBounds_ne (by omega), Array.getElem?_setIfInBounds_ne (by omega), Array.getElem?_setIfInBounds_ne (by omega)]
    simp only [World.cell?, hb, h, e]

/-- A row of n that is being filled in block g, which was new in w: the first nodes are there, what is below them in blocks that came behind. -/
def FillIn (w : World) (g n : Nat) (pre : Trees) (w' : World) : Prop :=
  ∃ cs bs, w'.heap[g]? = some (.cells cs 38 (0, 0)) ∧ cs.size = n * 4 ∧ RowIn w' pre g 0 bs ∧ bs.Nodup ∧ (∀ b ∈ bs, g < b ∧ b < w'.heap.size) ∧ Below w.heap.size w w' ∧ w.heap.size ≤ g ∧ g < w'.heap.size
theorem FillIn.below {w : World} {g n : Nat} {pre : Trees} {w' : World} (h : FillIn w g n pre w') : Below w.heap.size w w' := by
  obtain ⟨_, _, _, _, _, _, _, h, _⟩ := h
  exact h
/-- What the walk needs at the store, and what is behind it. -/
theorem FillIn.step {w : World} {g n : Nat} {pre : Trees} {w' w1 : World} {k m : Int} {t : ByteArray} {ar : Trees} {v : Value} {b1 : List Nat} (h : FillIn w g n pre w') (hk : pre.length < n) (hb : Below w'.heap.size w' w1) (ho : OwnV w1 v ar b1) (hnd : b1.Nodup) (hnew : ∀ b ∈ b1, w'.heap.size ≤ b ∧ b < w1.heap.size) :
    ∃ x0 x1 x2 x3, w1.cell? ⟨g, pre.length * 4, none⟩ = some x0 ∧ w1.cell? ⟨g, pre.length * 4 + 1, none⟩ = some x1 ∧ w1.cell? ⟨g, pre.length * 4 + 2, none⟩ = some x2 ∧ w1.cell? ⟨g, pre.length * 4 + 3, none⟩ = some x3 ∧
      w1.frozen? ⟨g, pre.length * 4, none⟩ = false ∧ w1.frozen? ⟨g, pre.length * 4 + 1, none⟩ = false ∧ w1.frozen? ⟨g, pre.length * 4 + 2, none⟩ = false ∧ w1.frozen? ⟨g, pre.length * 4 + 3, none⟩ = false ∧
      FillIn w g n (pre.snoc k m t ar) (put4 w1 g pre.length (.int .i64 k) (.int .i64 m) (.string t) v) := by
  obtain ⟨cs, bs, hc, hs, hr, hn, hbs, hB, hg, hgl⟩ := h
  have hs1 := hb.size
  have hc1 : w1.heap[g]? = some (.cells cs 38 (0, 0)) := (hb.block g hgl).trans hc
  obtain ⟨x0, x1, x2, x3, c0, c1, c2, c3, f0, f1, f2, f3⟩ := node_cells hc1 pre.length n hs hk
  refine ⟨x0, x1, x2, x3, c0, c1, c2, c3, f0, f1, f2, f3, ?_⟩
  obtain ⟨d0, d1, d2, d3, d4⟩ := put4_cells hc1 pre.length n hs hk (.int .i64 k) (.int .i64 m) (.string t) v
  have hot : ∀ b, b ≠ g → (put4 w1 g pre.length (.int .i64 k) (.int .i64 m) (.string t) v).heap[b]? = w1.heap[b]? := fun b hne => put4_other _ _ _ _ _ _ _ b hne
  have hr1 : RowIn (put4 w1 g pre.length (.int .i64 k) (.int .i64 m) (.string t) v) pre g 0 bs := by
    refine hr.keep pre g 0 bs (fun o _ ho2 => ?_) (fun b hbm => ?_)
    · rw [d4 o (.inl (by omega))]
      exact World.cell?_of_block (hb.block g hgl)
    · have := hbs b hbm
      rw [hot b (by omega), hb.block b this.2]
  have ho1 : OwnV (put4 w1 g pre.length (.int .i64 k) (.int .i64 m) (.string t) v) v ar b1 := ho.keep (fun b hbm => hot b (by have := hnew b hbm; omega))
  refine ⟨_, bs ++ b1, put4_block hc1 _ _ _ _ _, by simp [hs], ?_, ?_, ?_, put4_below (hB.trans (hb.mono hB.size)) _ _ _ _ _ _ hg, hg, by rw [put4_size]; omega⟩
  · refine (RowIn.append _ _ _ _ _).2 ⟨bs, b1, rfl, hr1, v, b1, [], by simp, ?_, ?_, ?_, ?_, ?_, rfl⟩
    · rw [Nat.zero_add]; exact d0
    · rw [Nat.zero_add]; exact d1
    · rw [Nat.zero_add]; exact d2
    · rw [Nat.zero_add]; exact d3
    · exact ho1
  · refine List.nodup_append.2 ⟨hn, hnd, fun b hb1 c hc1 => ?_⟩
    have := hbs b hb1
    have := hnew c hc1
    omega
  · intro b hbm
    rw [put4_size]
    rcases List.mem_append.1 hbm with h | h
    · have := hbs b h
      omega
    · have := hnew b h
      omega
theorem FillIn.done {w : World} {g n : Nat} {F : Trees} {w' : World} (h : FillIn w g n F w') (hn : F.length = n) (cap : Nat) (hcap : n ≤ cap) : ∃ bs, OwnV w' (.slice (some ⟨g, 0, none⟩) n cap) F bs ∧ bs.Nodup ∧ ∀ b ∈ bs, w.heap.size ≤ b ∧ b < w'.heap.size := by
  obtain ⟨cs, bs, hc, hs, hr, hnd, hbs, hB, hg, hgl⟩ := h
  refine ⟨g :: bs, .inr ⟨g, cap, bs, by rw [hn], by omega, rfl, ⟨cs, hc⟩, hr⟩, ?_, ?_⟩
  · refine List.nodup_cons.2 ⟨fun hm => ?_, hnd⟩
    have := hbs g hm
    omega
  · intro b hbm
    rcases List.mem_cons.1 hbm with rfl | h
    · exact ⟨hg, hgl⟩
    · have := hbs b h
      omega
end Go.Proofs.Ytcimdhmmgneljaa.Ex
