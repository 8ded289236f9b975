/- What is proved here: a piece of the proof of YtdilegbigaahnaaGreatExactIsValueOf (TreeOwn, TreeMake, PartsOf, Most, ImplLimits). Condition: none beyond what each part says. -/
import Derived.Test.YtdilegbigaahnaaGreatVo02
import Derived.Laws.Rows
import Derived.Test.YtdilegbigaahnaaGreatVo06
import Derived.Shelf.Abstract

/- What is proved here: rows of nodes in memory of the call's own: the blocks that they lie in, no two parts in one; read, kept, split, filled. No condition. -/
section
namespace Go.Proofs.YtdilegbigaahnaaGreat
open Go.RowKit

/-- Block b holds cells of nodes, none frozen. -/
def NodeBlock (w : World) (b : Nat) : Prop := ∃ cs, w.heap[b]? = some (.cells cs 37 (0, 0))
/-- The row in block g from its i-th node on; bs: the blocks of what is below its nodes. -/
def RowIn (w : World) : Trees → Nat → Nat → List Nat → Prop
  | .nil, _, _, bs => bs = []
  | .cons k n t ar r, g, i, bs => ∃ v b1 b2, bs = b1 ++ b2 ∧ w.cell? ⟨g, i * 4, none⟩ = some (.int .i64 k) ∧ w.cell? ⟨g, i * 4 + 1, none⟩ = some (.int .i64 n) ∧ w.cell? ⟨g, i * 4 + 2, none⟩ = some (.string t) ∧ w.cell? ⟨g, i * 4 + 3, none⟩ = some v ∧
      ((∃ a cap, v = .slice a 0 cap ∧ ar = .nil ∧ b1 = []) ∨ ∃ g' cap b', v = .slice (some ⟨g', 0, none⟩) ar.length cap ∧ ar.length ≤ cap ∧ b1 = g' :: b' ∧ NodeBlock w g' ∧ RowIn w ar g' 0 b') ∧ RowIn w r g (i + 1) b2
/-- v is a slice that reads as the row F, in the blocks bs. -/
def OwnV (w : World) (v : Value) (F : Trees) (bs : List Nat) : Prop :=
  (∃ a cap, v = .slice a 0 cap ∧ F = .nil ∧ bs = []) ∨ ∃ g cap b', v = .slice (some ⟨g, 0, none⟩) F.length cap ∧ F.length ≤ cap ∧ bs = g :: b' ∧ NodeBlock w g ∧ RowIn w F g 0 b'

theorem RowIn.keep {w w' : World} : ∀ (F : Trees) (g i : Nat) (bs : List Nat), RowIn w F g i bs → (∀ o, i * 4 ≤ o → o < (i + F.length) * 4 → w'.cell? ⟨g, o, none⟩ = w.cell? ⟨g, o, none⟩) → (∀ b ∈ bs, w'.heap[b]? = w.heap[b]?) → RowIn w' F g i bs := by
  intro F
  induction F with
  | nil => intro g i bs h _ _; exact h
  | cons k n t ar r ih1 ih2 =>
    rintro g i bs ⟨v, b1, b2, rfl, h0, h1, h2, h3, ho, hr⟩ hc hb
    simp only [Trees.length] at hc
    refine ⟨v, b1, b2, rfl, ?_, ?_, ?_, ?_, ?_, ih2 g (i + 1) b2 hr (fun o ho1 ho2 => hc o (by omega) (by omega)) (fun b hbm => hb b (List.mem_append_right _ hbm))⟩
    · rw [hc _ (by omega) (by omega)]; exact h0
    · rw [hc _ (by omega) (by omega)]; exact h1
    · rw [hc _ (by omega) (by omega)]; exact h2
    · rw [hc _ (by omega) (by omega)]; exact h3
    · rcases ho with h | ⟨g', cap, b', e1, hl, rfl, ⟨cs, hn⟩, hrow⟩
      · exact .inl h
      · have hg : w'.heap[g']? = w.heap[g']? := hb g' (by simp)
        exact .inr ⟨g', cap, b', e1, hl, rfl, ⟨cs, hg.trans hn⟩, ih1 g' 0 b' hrow (fun o _ _ => World.cell?_of_block hg) (fun b hbm => hb b (by simp [hbm]))⟩
theorem OwnV.keep {w w' : World} {v : Value} {F : Trees} {bs : List Nat} (h : OwnV w v F bs) (hb : ∀ b ∈ bs, w'.heap[b]? = w.heap[b]?) : OwnV w' v F bs := by
  rcases h with h | ⟨g, cap, b', e1, hl, rfl, ⟨cs, hn⟩, hrow⟩
  · exact .inl h
  · have hg : w'.heap[g]? = w.heap[g]? := hb g (by simp)
    exact .inr ⟨g, cap, b', e1, hl, rfl, ⟨cs, hg.trans hn⟩, hrow.keep F g 0 b' (fun o _ _ => World.cell?_of_block hg) (fun b hbm => hb b (by simp [hbm]))⟩
theorem NodeBlock.lt {w : World} {b : Nat} (h : NodeBlock w b) : b < w.heap.size := by
  obtain ⟨cs, h⟩ := h
  exact (Array.getElem?_eq_some_iff.1 h).1
theorem NodeBlock.free {w : World} {b : Nat} (h : NodeBlock w b) (o : Nat) : w.frozen? ⟨b, o, none⟩ = false := by
  obtain ⟨cs, h⟩ := h
  simp [World.frozen?, h]
theorem RowIn.blocks {w : World} : ∀ (F : Trees) (g i : Nat) (bs : List Nat), RowIn w F g i bs → ∀ b ∈ bs, NodeBlock w b := by
  intro F
  induction F with
  | nil => rintro g i bs rfl b hb; simp at hb
  | cons k n t ar r ih1 ih2 =>
    rintro g i bs ⟨v, b1, b2, rfl, h0, h1, h2, h3, ho, hr⟩ b hb
    rcases List.mem_append.1 hb with h | h
    · rcases ho with ⟨_, _, _, _, rfl⟩ | ⟨g', cap, b', e1, _, rfl, hn, hrow⟩
      · simp at h
      · rcases List.mem_cons.1 h with rfl | h
        · exact hn
        · exact ih1 g' 0 b' hrow b h
    · exact ih2 g (i + 1) b2 hr b h
theorem OwnV.blocks {w : World} {v : Value} {F : Trees} {bs : List Nat} (h : OwnV w v F bs) : ∀ b ∈ bs, NodeBlock w b := by
  intro b hb
  rcases h with ⟨_, _, _, _, rfl⟩ | ⟨g, cap, b', e1, _, rfl, hn, hrow⟩
  · simp at hb
  · rcases List.mem_cons.1 hb with rfl | h
    · exact hn
    · exact hrow.blocks F g 0 b' b h
theorem RowIn.append {w : World} : ∀ (A B : Trees) (g i : Nat) (bs : List Nat), RowIn w (A.append B) g i bs ↔ ∃ b1 b2, bs = b1 ++ b2 ∧ RowIn w A g i b1 ∧ RowIn w B g (i + A.length) b2 := by
  intro A
  induction A with
  | nil =>
    intro B g i bs
    constructor
    · intro h; exact ⟨[], bs, rfl, rfl, h⟩
    · rintro ⟨b1, b2, rfl, rfl, h⟩; exact h
  | cons k n t ar r ih1 ih2 =>
    intro B g i bs
    constructor
    · rintro ⟨v, b1, b2, rfl, h0, h1, h2, h3, ho, hr⟩
      obtain ⟨c1, c2, rfl, e1, e2⟩ := (ih2 B g (i + 1) b2).1 hr
      refine ⟨b1 ++ c1, c2, by simp, ⟨v, b1, c1, rfl, h0, h1, h2, h3, ho, e1⟩, ?_⟩
      rw [show i + (Trees.cons k n t ar r).length = i + 1 + r.length by simp only [Trees.length]; omega]
      exact e2
    · rintro ⟨b0, c2, rfl, ⟨v, b1, c1, rfl, h0, h1, h2, h3, ho, e1⟩, e2⟩
      refine ⟨v, b1, c1 ++ c2, by simp, h0, h1, h2, h3, ho, (ih2 B g (i + 1) _).2 ⟨c1, c2, rfl, e1, ?_⟩⟩
      rw [show i + 1 + r.length = i + (Trees.cons k n t ar r).length by simp only [Trees.length]; omega]
      exact e2
theorem own_field (g i j : Nat) : fieldAt ⟨g, 0, none⟩ i j = ⟨g, i * 4 + j, none⟩ := by
  unfold fieldAt Addr.add
  by_cases hi : i * 4 = 0
  · rw [if_pos hi, hi]
  · rw [if_neg hi]; simp
theorem own_first (g i : Nat) : (⟨g, 0, none⟩ : Addr).add (i * 4) = ⟨g, i * 4, none⟩ := by
  unfold Addr.add
  by_cases hi : i * 4 = 0
  · rw [if_pos hi, hi]
  · rw [if_neg hi]; simp
theorem RowIn.reads {w : World} : ∀ (F : Trees) (g i : Nat) (bs : List Nat), RowIn w F g i bs → TreesAt w F (some ⟨g, 0, none⟩) i := by
  intro F
  induction F with
  | nil => intro _ _ _ _; trivial
  | cons k n t ar r ih1 ih2 =>
    rintro g i bs ⟨v, b1, b2, rfl, h0, h1, h2, h3, ho, hr⟩
    refine ⟨?_, ih2 g (i + 1) b2 hr⟩
    have hv : ∃ p cap, v = .slice p ar.length cap ∧ ar.length ≤ cap ∧ TreesAt w ar p 0 := by
      rcases ho with ⟨a, cap, e1, rfl, _⟩ | ⟨g', cap, b', e1, hl, _, _, hrow⟩
      · exact ⟨a, cap, e1, Nat.zero_le _, trivial⟩
      · exact ⟨_, cap, e1, hl, ih1 g' 0 b' hrow⟩
    obtain ⟨p, cap, rfl, hl, hp⟩ := hv
    refine ⟨⟨g, 0, none⟩, p, cap, rfl, ?_, ?_, ?_, ?_, hl, hp⟩
    · rw [own_first]; exact h0
    · rw [own_field]; exact h1
    · rw [own_field]; exact h2
    · rw [own_field]; exact h3
theorem OwnV.reads {w : World} {v : Value} {F : Trees} {bs : List Nat} (h : OwnV w v F bs) : ∃ p cap, v = .slice p F.length cap ∧ F.length ≤ cap ∧ TreesAt w F p 0 := by
  rcases h with ⟨a, cap, e1, rfl, _⟩ | ⟨g, cap, b', e1, hl, _, _, hrow⟩
  · exact ⟨a, cap, e1, Nat.zero_le _, trivial⟩
  · exact ⟨_, cap, e1, hl, hrow.reads F g 0 b'⟩

/-! A node's cells, set. -/
def put4 (w : World) (g k : Nat) (u0 u1 u2 u3 : Value) : World := (((w.setCell ⟨g, k * 4, none⟩ u0).setCell ⟨g, k * 4 + 1, none⟩ u1).setCell ⟨g, k * 4 + 2, none⟩ u2).setCell ⟨g, k * 4 + 3, none⟩ u3
theorem put4_other (w : World) (g k : Nat) (u0 u1 u2 u3 : Value) (b : Nat) (h : b ≠ g) : (put4 w g k u0 u1 u2 u3).heap[b]? = w.heap[b]? := by
  unfold put4
  rw [Below.heap_setCell _ _ _ _ h, Below.heap_setCell _ _ _ _ h, Below.heap_setCell _ _ _ _ h, Below.heap_setCell _ _ _ _ h]
theorem put4_size (w : World) (g k : Nat) (u0 u1 u2 u3 : Value) : (put4 w g k u0 u1 u2 u3).heap.size = w.heap.size := by simp [put4, World.setCell]
theorem put4_below {B : Nat} {a w : World} (h : Below B a w) (g k : Nat) (u0 u1 u2 u3 : Value) (hg : B ≤ g) : Below B a (put4 w g k u0 u1 u2 u3) :=
  (((h.setCell (p := ⟨g, k * 4, none⟩) hg u0).setCell (p := ⟨g, k * 4 + 1, none⟩) hg u1).setCell (p := ⟨g, k * 4 + 2, none⟩) hg u2).setCell (p := ⟨g, k * 4 + 3, none⟩) hg u3
theorem put4_block {w : World} {g : Nat} {cs : Array Value} {T : TypeId} (h : w.heap[g]? = some (.cells cs T (0, 0))) (k : Nat) (u0 u1 u2 u3 : Value) :
    (put4 w g k u0 u1 u2 u3).heap[g]? = some (.cells ((((cs.setIfInBounds (k * 4) u0).setIfInBounds (k * 4 + 1) u1).setIfInBounds (k * 4 + 2) u2).setIfInBounds (k * 4 + 3) u3) T (0, 0)) := by
  simp [put4, World.setCell, Array.getElem?_modify, h]
/-- The cells of a node in a block of cells. -/
theorem node_cells {w : World} {g : Nat} {cs : Array Value} {T : TypeId} (h : w.heap[g]? = some (.cells cs T (0, 0))) (k n : Nat) (hs : cs.size = n * 4) (hk : k < n) :
    ∃ x0 x1 x2 x3, w.cell? ⟨g, k * 4, none⟩ = some x0 ∧ w.cell? ⟨g, k * 4 + 1, none⟩ = some x1 ∧ w.cell? ⟨g, k * 4 + 2, none⟩ = some x2 ∧ w.cell? ⟨g, k * 4 + 3, none⟩ = some x3 ∧
      w.frozen? ⟨g, k * 4, none⟩ = false ∧ w.frozen? ⟨g, k * 4 + 1, none⟩ = false ∧ w.frozen? ⟨g, k * 4 + 2, none⟩ = false ∧ w.frozen? ⟨g, k * 4 + 3, none⟩ = false := by
  have e : ∀ o, o < n * 4 → ∃ x, w.cell? ⟨g, o, none⟩ = some x := fun o ho => ⟨cs[o]'(by omega), by simp [World.cell?, h, hs, ho]⟩
  obtain ⟨x0, h0⟩ := e (k * 4) (by omega)
  obtain ⟨x1, h1⟩ := e (k * 4 + 1) (by omega)
  obtain ⟨x2, h2⟩ := e (k * 4 + 2) (by omega)
  obtain ⟨x3, h3⟩ := e (k * 4 + 3) (by omega)
  refine ⟨x0, x1, x2, x3, h0, h1, h2, h3, ?_, ?_, ?_, ?_⟩ <;> simp [World.frozen?, h]
theorem put4_cells {w : World} {g : Nat} {cs : Array Value} {T : TypeId} (h : w.heap[g]? = some (.cells cs T (0, 0))) (k n : Nat) (hs : cs.size = n * 4) (hk : k < n) (u0 u1 u2 u3 : Value) :
    (put4 w g k u0 u1 u2 u3).cell? ⟨g, k * 4, none⟩ = some u0 ∧ (put4 w g k u0 u1 u2 u3).cell? ⟨g, k * 4 + 1, none⟩ = some u1 ∧ (put4 w g k u0 u1 u2 u3).cell? ⟨g, k * 4 + 2, none⟩ = some u2 ∧ (put4 w g k u0 u1 u2 u3).cell? ⟨g, k * 4 + 3, none⟩ = some u3 ∧
      ∀ o, (o < k * 4 ∨ k * 4 + 4 ≤ o) → (put4 w g k u0 u1 u2 u3).cell? ⟨g, o, none⟩ = w.cell? ⟨g, o, none⟩ := by
  have hb := put4_block h k u0 u1 u2 u3
  have l0 : k * 4 < cs.size := by omega
  have l1 : k * 4 + 1 < cs.size := by omega
  have l2 : k * 4 + 2 < cs.size := by omega
  have l3 : k * 4 + 3 < cs.size := by omega
  refine ⟨?_, ?_, ?_, ?_, ?_⟩
  · simp [World.cell?, hb, l0]
  · simp [World.cell?, hb, l1]
  · simp [World.cell?, hb, l2]
  · simp [World.cell?, hb, l3]
  · intro o ho
    have e : ((((cs.setIfInBounds (k * 4) u0).setIfInBounds (k * 4 + 1) u1).setIfInBounds (k * 4 + 2) u2).setIfInBounds (k * 4 + 3) u3)[o]? = cs[o]? := by
      rw [Array.getElem?_setIfInBounds_ne (by omega), Array.getElem?_setIfInBounds_ne (by omega), Array.getElem?_setIfInBounds_ne (by omega), Array.getElem?_setIfInBounds_ne (by omega)]
    simp only [World.cell?, hb, h, e]

/-- A row of n that is being filled in block g, which was new in w: the first nodes are there, what is below them in blocks that came behind. -/
def FillIn (w : World) (g n : Nat) (pre : Trees) (w' : World) : Prop :=
  ∃ cs bs, w'.heap[g]? = some (.cells cs 37 (0, 0)) ∧ cs.size = n * 4 ∧ RowIn w' pre g 0 bs ∧ bs.Nodup ∧ (∀ b ∈ bs, g < b ∧ b < w'.heap.size) ∧ Below w.heap.size w w' ∧ w.heap.size ≤ g ∧ g < w'.heap.size
theorem FillIn.below {w : World} {g n : Nat} {pre : Trees} {w' : World} (h : FillIn w g n pre w') : Below w.heap.size w w' := by
  obtain ⟨_, _, _, _, _, _, _, h, _⟩ := h
  exact h
/-- What the walk needs at the store, and what is behind it. -/
theorem FillIn.step {w : World} {g n : Nat} {pre : Trees} {w' w1 : World} {k m : Int} {t : ByteArray} {ar : Trees} {v : Value} {b1 : List Nat} (h : FillIn w g n pre w') (hk : pre.length < n) (hb : Below w'.heap.size w' w1) (ho : OwnV w1 v ar b1) (hnd : b1.Nodup) (hnew : ∀ b ∈ b1, w'.heap.size ≤ b ∧ b < w1.heap.size) :
    ∃ x0 x1 x2 x3, w1.cell? ⟨g, pre.length * 4, none⟩ = some x0 ∧ w1.cell? ⟨g, pre.length * 4 + 1, none⟩ = some x1 ∧ w1.cell? ⟨g, pre.length * 4 + 2, none⟩ = some x2 ∧ w1.cell? ⟨g, pre.length * 4 + 3, none⟩ = some x3 ∧
      w1.frozen? ⟨g, pre.length * 4, none⟩ = false ∧ w1.frozen? ⟨g, pre.length * 4 + 1, none⟩ = false ∧ w1.frozen? ⟨g, pre.length * 4 + 2, none⟩ = false ∧ w1.frozen? ⟨g, pre.length * 4 + 3, none⟩ = false ∧
      FillIn w g n (pre.snoc k m t ar) (put4 w1 g pre.length (.int .i64 k) (.int .i64 m) (.string t) v) := by
  obtain ⟨cs, bs, hc, hs, hr, hn, hbs, hB, hg, hgl⟩ := h
  have hs1 := hb.size
  have hc1 : w1.heap[g]? = some (.cells cs 37 (0, 0)) := (hb.block g hgl).trans hc
  obtain ⟨x0, x1, x2, x3, c0, c1, c2, c3, f0, f1, f2, f3⟩ := node_cells hc1 pre.length n hs hk
  refine ⟨x0, x1, x2, x3, c0, c1, c2, c3, f0, f1, f2, f3, ?_⟩
  obtain ⟨d0, d1, d2, d3, d4⟩ := put4_cells hc1 pre.length n hs hk (.int .i64 k) (.int .i64 m) (.string t) v
  have hot : ∀ b, b ≠ g → (put4 w1 g pre.length (.int .i64 k) (.int .i64 m) (.string t) v).heap[b]? = w1.heap[b]? := fun b hne => put4_other _ _ _ _ _ _ _ b hne
  have hr1 : RowIn (put4 w1 g pre.length (.int .i64 k) (.int .i64 m) (.string t) v) pre g 0 bs := by
    refine hr.keep pre g 0 bs (fun o _ ho2 => ?_) (fun b hbm => ?_)
    · rw [d4 o (.inl (by omega))]
      exact World.cell?_of_block (hb.block g hgl)
    · have := hbs b hbm
      rw [hot b (by omega), hb.block b this.2]
  have ho1 : OwnV (put4 w1 g pre.length (.int .i64 k) (.int .i64 m) (.string t) v) v ar b1 := ho.keep (fun b hbm => hot b (by have := hnew b hbm; omega))
  refine ⟨_, bs ++ b1, put4_block hc1 _ _ _ _ _, by simp [hs], ?_, ?_, ?_, put4_below (hB.trans (hb.mono hB.size)) _ _ _ _ _ _ hg, hg, by rw [put4_size]; omega⟩
  · refine (RowIn.append _ _ _ _ _).2 ⟨bs, b1, rfl, hr1, v, b1, [], by simp, ?_, ?_, ?_, ?_, ?_, rfl⟩
    · rw [Nat.zero_add]; exact d0
    · rw [Nat.zero_add]; exact d1
    · rw [Nat.zero_add]; exact d2
    · rw [Nat.zero_add]; exact d3
    · exact ho1
  · refine List.nodup_append.2 ⟨hn, hnd, fun b hb1 c hc1 => ?_⟩
    have := hbs b hb1
    have := hnew c hc1
    omega
  · intro b hbm
    rw [put4_size]
    rcases List.mem_append.1 hbm with h | h
    · have := hbs b h
      omega
    · have := hnew b h
      omega
theorem FillIn.done {w : World} {g n : Nat} {F : Trees} {w' : World} (h : FillIn w g n F w') (hn : F.length = n) (cap : Nat) (hcap : n ≤ cap) : ∃ bs, OwnV w' (.slice (some ⟨g, 0, none⟩) n cap) F bs ∧ bs.Nodup ∧ ∀ b ∈ bs, w.heap.size ≤ b ∧ b < w'.heap.size := by
  obtain ⟨cs, bs, hc, hs, hr, hnd, hbs, hB, hg, hgl⟩ := h
  refine ⟨g :: bs, .inr ⟨g, cap, bs, by rw [hn], by omega, rfl, ⟨cs, hc⟩, hr⟩, ?_, ?_⟩
  · refine List.nodup_cons.2 ⟨fun hm => ?_, hnd⟩
    have := hbs g hm
    omega
  · intro b hbm
    rcases List.mem_cons.1 hbm with rfl | h
    · exact ⟨hg, hgl⟩
    · have := hbs b h
      omega
end Go.Proofs.YtdilegbigaahnaaGreat
end

/- What is proved here: the laws' copy of a value (toValue and toValueS) is the same value in memory of its own. Condition: it lies in memory as said, and is small. -/
section
namespace Go.Proofs.YtdilegbigaahnaaGreat
open Go.RowKit

theorem three4 (w : World) (o0 o1 o2 : Obj) : (((w.alloc o0).alloc o1).alloc o2).heap.size = w.heap.size + 3 ∧ (((w.alloc o0).alloc o1).alloc o2).heap[w.heap.size + 1]? = some o1 ∧ (((w.alloc o0).alloc o1).alloc o2).heap[w.heap.size + 1 + 1]? = some o2 ∧ Below w.heap.size w (((w.alloc o0).alloc o1).alloc o2) := by
  have s1 : (w.alloc o0).heap.size = w.heap.size + 1 := Array.size_push _
  have s2 : ((w.alloc o0).alloc o1).heap.size = (w.alloc o0).heap.size + 1 := Array.size_push _
  have s3 : (((w.alloc o0).alloc o1).alloc o2).heap.size = ((w.alloc o0).alloc o1).heap.size + 1 := Array.size_push _
  have e1 := heap_at_new (w.alloc o0) o1
  have e2 := heap_at_new ((w.alloc o0).alloc o1) o2
  rw [s1] at e1
  rw [s2, s1] at e2
  refine ⟨by omega, ?_, e2, (((Below.refl _ _).alloc (Nat.le_refl _) _).alloc (by omega) _).alloc (by omega) _⟩
  rw [Below.heap_alloc _ _ _ (by omega)]
  exact e1

/-- A new slice of nodes. -/
theorem make_Value (n : Nat) (hn : n ≤ 1048576) (W : World) : ∃ cs : Array Value, cs.size = n * 4 ∧
    (Instr.makeSlice 35 (.int .i64 (n : Int)) (.int .i64 (n : Int))).run Tryz.prog W = .ok (.slice (some ⟨W.heap.size, 0, none⟩) n n) (W.alloc (.cells cs 37)) := by
  have hi : (Tryz.prog.info? 37).map (fun i => (i.zero, i.size, i.bytes)) = some (some (.agg #[.int .i64 0, .int .i64 0, .string ⟨#[]⟩, .slice none 0 0]), 4, 56) := by kernel_rfl
  obtain ⟨i0, hi, hz0, hz1, hz2⟩ := info_parts hi
  have hr := run_make (P := Tryz.prog) W 35 37 i0 _ Tryz.underlying35 hi hz0 .i64 .i64 n n (by omega) (by omega) (by rw [hz2]; omega) (by omega)
  rw [hr]
  simp only [Int.toNat_natCast]
  exact ⟨_, by rw [hz1]; simp [madeCells], rfl⟩

set_option maxHeartbeats 1000000 in
set_option maxRecDepth 100000 in
theorem toNode (w : World) (k n : Int) (t : ByteArray) (ar : Trees) (p : Option Addr) (cap : Nat)
    (H : ∀ w', Below w.heap.size w w' → Calls Tryz.prog 25 #[.slice p ar.length cap] w' fun e w'' => (∃ v bs, e = .returned v ∧ OwnV w'' v ar bs ∧ bs.Nodup ∧ ∀ b ∈ bs, w'.heap.size ≤ b ∧ b < w''.heap.size) ∧ Below w'.heap.size w' w'') :
    Calls Tryz.prog 9 #[.agg #[.int .i64 k, .int .i64 n, .string t, .slice p ar.length cap]] w fun e w' => (∃ v bs, e = .returned (.agg #[.int .i64 k, .int .i64 n, .string t, v]) ∧ OwnV w' v ar bs ∧ bs.Nodup ∧ ∀ b ∈ bs, w.heap.size ≤ b ∧ b < w'.heap.size) ∧ Below w.heap.size w w' := by
  obtain ⟨w3, h3⟩ : ∃ w3, w3 = ((w.alloc (.cells #[.int .i64 k, .int .i64 n, .string t, .slice p ar.length cap] 27)).alloc (.cells #[.int .i64 0, .int .i64 0, .string ⟨#[]⟩, .slice none 0 0] 37)).alloc (.cells #[.int .i64 k, .int .i64 n, .string t, .slice none 0 0] 37) := ⟨_, rfl⟩
  have h := three4 w (.cells #[.int .i64 k, .int .i64 n, .string t, .slice p ar.length cap] 27) (.cells #[.int .i64 0, .int .i64 0, .string ⟨#[]⟩, .slice none 0 0] 37) (.cells #[.int .i64 k, .int .i64 n, .string t, .slice none 0 0] 37)
  rw [← h3] at h
  obtain ⟨hs3, hp1, hp2, hB⟩ := h
  have HB := Lib.hid hB
  have HS := Lib.hid hs3
  have HP1 := Lib.hid hp1
  have HP2 := Lib.hid hp2
  have H3 := Lib.hid h3
  clear hB hs3 hp1 hp2 h3
  go_enter Tryz.func9, Tryz.ntmps9
  go_wp2_with fail
  rw [← H3.out]
  refine (H w3 HB.out).mono ?_
  rintro e w1 ⟨⟨v1, bs, rfl, hO, hnd, hbs⟩, hb1⟩
  have hs := HS.out
  obtain ⟨p2, cap2, rfl, _, _⟩ := hO.reads
  have HO := Lib.hid hO
  have HBS := Lib.hid hbs
  have HND := Lib.hid hnd
  clear hO hbs hnd
  have hr1 := (hb1.block (w.heap.size + 1) (by omega)).trans HP1.out
  have HR1 := Lib.hid hr1
  obtain ⟨q1, q2, q3, q4, q5, q6, q7, q8⟩ := four_cells hr1
  obtain ⟨g1, g2, g3, g4, g5, g6, g7, g8⟩ := four_cells ((hb1.block (w.heap.size + 1 + 1) (by omega)).trans HP2.out)
  have HB1 : Hid (Below w.heap.size w w1) := HB.out.trans (hb1.mono (by omega))
  have HS1 : Hid (w.heap.size + 3 ≤ w1.heap.size) := by unfold Hid; have := hb1.size; omega
  clear hb1 HB HP1 HP2 hr1 H
  go_wp2
  have hz1 : (w1.setCell ⟨w.heap.size + 1 + 1, 3, none⟩ (.slice p2 ar.length cap2)).heap[w.heap.size + 1]? = some (.cells #[.int .i64 0, .int .i64 0, .string ⟨#[]⟩, .slice none 0 0] 37 (0, 0)) := by
    rw [Below.heap_setCell _ _ _ _ (by show w.heap.size + 1 ≠ w.heap.size + 1 + 1; omega)]
    exact HR1.out
  refine bodyPost_ret (results_cell_row rfl _ _ (w.heap.size + 1) _ _ _ _ rfl (four_set (four_set (four_set (four_set hz1 _).1 _).2.1 _).2.2.1 _).2.2.2 Tryz.underlying37 rfl (by kernel_rfl)) rfl ?_
  have hag : ∀ b ∈ bs, w.heap.size + 3 ≤ b ∧ b < w1.heap.size := fun b hb => by have := HBS.out b hb; omega
  refine ⟨⟨_, bs, rfl, HO.out.keep (fun b hb => ?_), HND.out, fun b hb => ?_⟩, ((((HB1.out.setCell (by show _ ≤ w.heap.size + 1 + 1; omega) _).setCell (by show _ ≤ w.heap.size + 1; omega) _).setCell (by show _ ≤ w.heap.size + 1; omega) _).setCell (by show _ ≤ w.heap.size + 1; omega) _).setCell (by show _ ≤ w.heap.size + 1; omega) _⟩
  · have := hag b hb
    rw [Below.heap_setCell _ _ _ _ (by show b ≠ w.heap.size + 1; omega), Below.heap_setCell _ _ _ _ (by show b ≠ w.heap.size + 1; omega), Below.heap_setCell _ _ _ _ (by show b ≠ w.heap.size + 1; omega), Below.heap_setCell _ _ _ _ (by show b ≠ w.heap.size + 1; omega), Below.heap_setCell _ _ _ _ (by show b ≠ w.heap.size + 1 + 1; omega)]
  · have := hag b hb
    exact ⟨by omega, by simpa [World.setCell] using this.2⟩

set_option maxHeartbeats 1000000 in
set_option maxRecDepth 100000 in
theorem toValueS_any : ∀ F : Trees, F.fits → F.length ≤ 1048576 → F.size ≤ 1048576 → ∀ (w : World) (a : Option Addr) (cap : Nat), TreesAt w F a 0 →
    Calls Tryz.prog 25 #[.slice a F.length cap] w fun e w' => (∃ v bs, e = .returned v ∧ OwnV w' v F bs ∧ bs.Nodup ∧ ∀ b ∈ bs, w.heap.size ≤ b ∧ b < w'.heap.size) ∧ Below w.heap.size w w' := by
  refine Trees.ind fun F hall hfit hm hsz w a cap hx => ?_
  obtain ⟨cs, hcs, hmk⟩ := make_Value F.length hm w
  have HX := Lib.hid hx
  have HALL := Lib.hid hall
  have HF := Lib.hid hfit
  have HSZ := Lib.hid hsz
  clear hx hall hfit hsz
  go_enter Tryz.func25, Tryz.ntmps25
  go_wp2
  clear hmk
  have hb0 := heap_at_new w (.cells cs 37)
  have hB0 : Below w.heap.size w (w.alloc (.cells cs 37)) := (Below.refl _ _).alloc (Nat.le_refl _) _
  have hst : (w.alloc (.cells cs 37)).heap.size = w.heap.size + 1 := Array.size_push _
  generalize w.alloc (.cells cs 37) = w0 at hb0 hB0 hst ⊢
  generalize hn : F.length = n at *
  have HN := Lib.hid hn
  have HI : Hid (FillIn w w.heap.size n .nil w0) := ⟨cs, [], hb0, hcs, rfl, List.nodup_nil, fun b hb => absurd hb (by simp), hB0, Nat.le_refl _, by omega⟩
  clear hb0 hB0 hst hcs hn
  go_loopw [4] (fun i wr => ∃ (k : Nat) (pre rest : Trees), i = .int .i64 k ∧ pre.length = k ∧ k + rest.length = n ∧ Hid (pre.append rest = F) ∧ Hid (TreesAt w rest a k) ∧ Hid (rest.All (fun G => G.fits → G.length ≤ 1048576 → G.size ≤ 1048576 → ∀ (w : World) (a : Option Addr) (cap : Nat), TreesAt w G a 0 →
    Calls Tryz.prog 25 #[.slice a G.length cap] w fun e w' => (∃ v bs, e = .returned v ∧ OwnV w' v G bs ∧ bs.Nodup ∧ ∀ b ∈ bs, w.heap.size ≤ b ∧ b < w'.heap.size) ∧ Below w.heap.size w w')) ∧ Hid rest.fits ∧ Hid (rest.size ≤ 1048576) ∧ Hid (FillIn w w.heap.size n pre wr)) (fun i _ => n - (intOf i).toNat)
  case atStart => exact ⟨0, .nil, F, rfl, rfl, by rw [HN.out]; omega, rfl, HX, HALL, HF, HSZ, HI⟩
  case round =>
    obtain ⟨k, pre, rest, rfl, hpk, hkn, hpr, hxr, hall, hfr, hsr, hI⟩ := hrel
    cases rest with
    | cons kd nu t ar r =>
      have hkl : k < n := by simp only [Trees.length] at hkn; omega
      have hkn2 : k + 1 + r.length = n := by simp only [Trees.length] at hkn; omega
      obtain ⟨y, p, cp, rfl, h1, h2, h3, h4, hs, hr⟩ := (hxr.out.below hI.out.below).open
      obtain ⟨hfk, hfn, hft, hfl, hfa, hfr2⟩ := hfr.out
      obtain ⟨ha1, ha2⟩ := hall.out
      have hsr2 := hsr.out
      simp only [Trees.size] at hsr2
      have hal := ar.length_le_size
      have hxr2 : Hid (TreesAt w r (some y) (k + 1)) := hxr.out.2
      have H := toNode wr kd nu t ar p cp (fun w' hb => ha1 hfa (by omega) (by omega) w' p cp (hs.below hb))
      have HR2 := Lib.hid hfr2
      have HA2 := Lib.hid ha2
      have HS2 : Hid (r.size ≤ 1048576) := by unfold Hid; omega
      have HPR2 : Hid ((pre.snoc kd nu t ar).append r = F) := by unfold Hid; rw [Trees.snoc_append]; exact hpr.out
      clear hxr hall hfr hs hr hfk hfn hft hfl hfa hfr2 ha1 ha2 hkn hsr hsr2 hal hpr
      go_wp2_with fail
      refine H.mono ?_
      clear H
      rintro e w1 ⟨⟨v', bs, rfl, ho, hnd, hbs⟩, hb1⟩
      obtain ⟨p2, cap2, hv2, _, _⟩ := ho.reads
      subst hv2
      obtain ⟨x0, x1, x2, x3, c0, c1, c2, c3, f0, f1, f2, f3, hF2⟩ := FillIn.step (k := kd) (m := nu) (t := t) hI.out (by omega) hb1 ho hnd hbs
      have hpl := Trees.snoc_length pre kd nu t ar
      generalize pre.snoc kd nu t ar = pre2 at *
      rw [hpk] at c0 c1 c2 c3 f0 f1 f2 f3 hF2 hpl
      have HF2 := Lib.hid hF2
      clear hF2 ho hb1 hbs hnd hI
      go_wp2
      go_roundw
      case rel => exact ⟨k + 1, pre2, r, by go_num, hpl, hkn2, HPR2, hxr2, HA2, HR2, HS2, HF2⟩
      case measure => simp [intOf]; omega
    | nil =>
      obtain rfl : k = n := by simp only [Trees.length] at hkn; omega
      have hp := hpr.out
      rw [Trees.append_nil] at hp
      subst hp
      clear hxr hall hfr hsr
      go_wp2
      go_ret
      obtain ⟨bs, ho, hnd, hbs⟩ := hI.out.done hpk k (Nat.le_refl _)
      exact ⟨⟨_, bs, rfl, ho, hnd, hbs⟩, hI.out.below⟩

theorem toValue_any (w : World) (k n : Int) (t : ByteArray) (ar : Trees) (p : Option Addr) (cap : Nat) (hf : ar.fits) (hm : ar.size ≤ 1048576) (hx : TreesAt w ar p 0) :
    Calls Tryz.prog 9 #[.agg #[.int .i64 k, .int .i64 n, .string t, .slice p ar.length cap]] w fun e w' => (∃ v bs, e = .returned (.agg #[.int .i64 k, .int .i64 n, .string t, v]) ∧ OwnV w' v ar bs ∧ bs.Nodup ∧ ∀ b ∈ bs, w.heap.size ≤ b ∧ b < w'.heap.size) ∧ Below w.heap.size w w' :=
  toNode w k n t ar p cap (fun w' hb => toValueS_any ar hf (by have := ar.length_le_size; omega) hm w' p cap (hx.below hb))
end Go.Proofs.YtdilegbigaahnaaGreat
end

/- What is proved here: the program's partsOf hands back its iterator. No condition. -/
section
namespace Go.Proofs.YtdilegbigaahnaaGreat
open Go.RowKit Go.Shelf

attribute [local go_sem] Oper.semAt_some

set_option maxHeartbeats 1000000 in
theorem parts_of (n : Nat) (k nu : Int) (t : ByteArray) (p : Option Addr) (len cap : Nat) (w : World) :
    CallsIn Fence.wide n Tryz.prog 50 #[.agg #[.int .i64 k, .int .i64 nu, .string t, .slice p len cap]] w fun e w' =>
      e = .returned (.func (.func 78) #[] #[.pointer (some ⟨w.heap.size, 0, none⟩)]) ∧ w' = w.alloc (.cells #[.int .i64 k, .int .i64 nu, .string t, .slice p len cap] 37) := by
  refine callsIn_of_wp Tryz.func50 rfl trivial ?_ rfl
  simp only [Tryz.ntmps50, List.size_toArray, List.length_cons, List.length_nil, Nat.reduceAdd, Nat.reduceSub, Array.replicate_succ, Array.replicate_zero, List.push_toArray, List.append_toArray, List.nil_append, List.cons_append]
  gi_wp2
  go_ret
  exact ⟨rfl, rfl⟩

theorem one_cell4 {w : World} {b : Nat} {x : Value} {T : TypeId} (h : w.heap[b]? = some (.cells #[x] T (0, 0))) : w.cell? ⟨b, 0, none⟩ = some x ∧ w.frozen? ⟨b, 0, none⟩ = false := by
  refine ⟨?_, ?_⟩ <;> simp [World.cell?, World.frozen?, h]

end Go.Proofs.YtdilegbigaahnaaGreat
end

/- What is proved here: the greatest depth of what partsOf yields (pure). No condition. -/
section
namespace Go.Proofs.YtdilegbigaahnaaGreat
open Go.RowKit

def most (l : List Part) : Nat := (l.map Prod.fst).foldl max 0
theorem foldl_max (l : List Nat) : ∀ a, l.foldl max a = max a (l.foldl max 0) := by
  induction l with
  | nil => intro a; simp
  | cons x r ih => intro a; rw [List.foldl_cons, List.foldl_cons, ih, ih (max 0 x)]; omega
theorem most_append (a b : List Part) : most (a ++ b) = max (most a) (most b) := by
  unfold most
  rw [List.map_append, List.foldl_append, foldl_max]
theorem most_cons (x : Part) (r : List Part) : most (x :: r) = max x.1 (most r) := by
  unfold most
  rw [List.map_cons, List.foldl_cons, foldl_max]
  omega
theorem most_pre (F : Trees) : ∀ d, (F.deep = 0 → most (F.pre (d + 1)) = 0) ∧ (F.deep ≠ 0 → most (F.pre (d + 1)) = d + F.deep) := by
  induction F with
  | nil => intro d; exact ⟨fun _ => rfl, fun h => absurd rfl h⟩
  | cons k n t ar r ih1 ih2 =>
    intro d
    have h1 := ih1 (d + 1)
    have h2 := ih2 d
    have e : most (Trees.pre (.cons k n t ar r) (d + 1)) = max (d + 1) (max (most (ar.pre (d + 1 + 1))) (most (r.pre (d + 1)))) := by
      rw [Trees.pre, most_cons, most_append]
    have e2 : (Trees.cons k n t ar r).deep = max (ar.deep + 1) r.deep := rfl
    rw [e, e2]
    refine ⟨fun h => by omega, fun _ => ?_⟩
    by_cases ha : ar.deep = 0 <;> by_cases hr : r.deep = 0
    · rw [h1.1 ha, h2.1 hr]; omega
    · rw [h1.1 ha, h2.2 hr]; omega
    · rw [h1.2 ha, h2.1 hr]; omega
    · rw [h1.2 ha, h2.2 hr]; omega
theorem most_seq (x : Part) (F : Trees) (hx : x.1 = 1) : most (x :: F.pre 2) = F.deep + 1 := by
  rw [most_cons, hx]
  by_cases h : F.deep = 0
  · rw [(most_pre F 1).1 h]; omega
  · rw [(most_pre F 1).2 h]; omega
theorem most_take (l : List Part) (j : Nat) (x : Part) (h : l[j]? = some x) : most (l.take (j + 1)) = max (most (l.take j)) x.1 := by
  obtain ⟨hj, rfl⟩ := List.getElem?_eq_some_iff.1 h
  rw [List.take_succ_eq_append_getElem hj, most_append, most_cons]
  simp [most]
theorem most_le (l : List Part) (j : Nat) : most (l.take j) ≤ most l := by
  have e : most l = max (most (l.take j)) (most (l.drop j)) := by rw [← most_append, List.take_append_drop]
  omega
theorem le_most (l : List Part) (j : Nat) (x : Part) (h : l[j]? = some x) : x.1 ≤ most l := by
  have := most_le l (j + 1)
  rw [most_take l j x h] at this
  omega

end Go.Proofs.YtdilegbigaahnaaGreat
end

/- What is proved here: the program's isWithinLimits says whether a value has at most 40 nodes and a depth of at most 12. Condition: the value lies in memory as said, and is small. -/
section
namespace Go.Proofs.YtdilegbigaahnaaGreat
open Go.RowKit Go.Shelf

attribute [local go_sem] Oper.semAt_some

/-- Six new blocks. -/
theorem six6 (w : World) (o1 o2 o3 o4 o5 o6 : Obj) : ((((((w.alloc o1).alloc o2).alloc o3).alloc o4).alloc o5).alloc o6).heap.size = w.heap.size + 6 ∧ (((((w.alloc o1).alloc o2).alloc o3).alloc o4).alloc o5).heap.size = w.heap.size + 5 ∧
    ((((((w.alloc o1).alloc o2).alloc o3).alloc o4).alloc o5).alloc o6).heap[w.heap.size + 1]? = some o2 ∧ ((((((w.alloc o1).alloc o2).alloc o3).alloc o4).alloc o5).alloc o6).heap[w.heap.size + 1 + 1]? = some o3 ∧ ((((((w.alloc o1).alloc o2).alloc o3).alloc o4).alloc o5).alloc o6).heap[w.heap.size + 1 + 1 + 1]? = some o4 ∧ ((((((w.alloc o1).alloc o2).alloc o3).alloc o4).alloc o5).alloc o6).heap[w.heap.size + 1 + 1 + 1 + 1]? = some o5 ∧ ((((((w.alloc o1).alloc o2).alloc o3).alloc o4).alloc o5).alloc o6).heap[w.heap.size + 1 + 1 + 1 + 1 + 1]? = some o6 ∧ Below w.heap.size w ((((((w.alloc o1).alloc o2).alloc o3).alloc o4).alloc o5).alloc o6) := by
  have s1 : (w.alloc o1).heap.size = w.heap.size + 1 := by simp
  have s2 : ((w.alloc o1).alloc o2).heap.size = w.heap.size + 2 := by simp
  have s3 : (((w.alloc o1).alloc o2).alloc o3).heap.size = w.heap.size + 3 := by simp
  have s4 : ((((w.alloc o1).alloc o2).alloc o3).alloc o4).heap.size = w.heap.size + 4 := by simp
  have s5 : (((((w.alloc o1).alloc o2).alloc o3).alloc o4).alloc o5).heap.size = w.heap.size + 5 := by simp
  have s6 : ((((((w.alloc o1).alloc o2).alloc o3).alloc o4).alloc o5).alloc o6).heap.size = w.heap.size + 6 := by simp
  have n2 := heap_at_new (w.alloc o1) o2
  have n3 := heap_at_new ((w.alloc o1).alloc o2) o3
  have n4 := heap_at_new (((w.alloc o1).alloc o2).alloc o3) o4
  have n5 := heap_at_new ((((w.alloc o1).alloc o2).alloc o3).alloc o4) o5
  have n6 := heap_at_new (((((w.alloc o1).alloc o2).alloc o3).alloc o4).alloc o5) o6
  rw [s1] at n2
  rw [s2] at n3
  rw [s3] at n4
  rw [s4] at n5
  rw [s5] at n6
  refine ⟨s6, s5, ?_, ?_, ?_, ?_, n6, ((((((Below.refl _ _).alloc (Nat.le_refl _) _).alloc (by omega) _).alloc (by omega) _).alloc (by omega) _).alloc (by omega) _).alloc (by omega) _⟩
  · rw [Below.heap_alloc _ _ _ (by omega), Below.heap_alloc _ _ _ (by omega), Below.heap_alloc _ _ _ (by omega), Below.heap_alloc _ _ _ (by omega)]; exact n2
  · rw [Below.heap_alloc _ _ _ (by omega), Below.heap_alloc _ _ _ (by omega), Below.heap_alloc _ _ _ (by omega)]; exact n3
  · rw [Below.heap_alloc _ _ _ (by omega), Below.heap_alloc _ _ _ (by omega)]; exact n4
  · rw [Below.heap_alloc _ _ _ (by omega)]; exact n5

set_option maxHeartbeats 2000000 in
set_option maxRecDepth 100000 in
theorem impl_limits (N D : Nat) (hN : N ≤ 1048576) (w : World) (k nu : Int) (t : ByteArray) (F : Trees) (p : Option Addr) (cap : Nat) (hx : TreesAt w F p 0) (hcap : F.length ≤ cap) (hc : F.count ≤ 1048576) :
    Calls Tryz.prog 27 #[.agg #[.int .i64 k, .int .i64 nu, .string t, .slice p F.length cap], .int .i64 (N : Int), .int .i64 (D : Int)] w fun e w' => e = .returned (.bool (decide (1 + F.count ≤ N ∧ F.deep + 1 ≤ D))) ∧ Below w.heap.size w w' := by
  refine (callsIn_wide (n := 9)).1 ?_
  refine callsIn_of_wp_marks Tryz.func27 rfl trivial ?_ rfl
  simp only [Tryz.ntmps27, List.size_toArray, List.length_cons, List.length_nil, Nat.reduceAdd, Nat.reduceSub, Array.replicate_succ, Array.replicate_zero, List.push_toArray, List.append_toArray, List.nil_append, List.cons_append]
  gi_wp2_with (refine ⟨trivial, ?_⟩; gi_at_call 50; refine (parts_of _ k nu t p F.length cap _).mono ?_; rintro e w' ⟨rfl, rfl⟩)
  obtain ⟨w3, hw3⟩ : ∃ w3, w3 = (((((w.alloc (.cells #[.int .i64 k, .int .i64 nu, .string t, .slice p F.length cap] 37)).alloc (.cells #[.int .i64 (N : Int)] 3)).alloc (.cells #[.int .i64 (D : Int)] 3)).alloc (.cells #[.bool false] 4)).alloc (.cells #[.int .i64 0] 3)).alloc (.cells #[.int .i64 k, .int .i64 nu, .string t, .slice p F.length cap] 37) := ⟨_, rfl⟩
  obtain ⟨hs6, hs5, hpN, hpD, hp0, hp1, hp2, hB⟩ := six6 w (.cells #[.int .i64 k, .int .i64 nu, .string t, .slice p F.length cap] 37) (.cells #[.int .i64 (N : Int)] 3) (.cells #[.int .i64 (D : Int)] 3) (.cells #[.bool false] 4) (.cells #[.int .i64 0] 3) (.cells #[.int .i64 k, .int .i64 nu, .string t, .slice p F.length cap] 37)
  rw [← hw3] at hs6 hpN hpD hp0 hp1 hp2 hB ⊢
  have hseq := parts_seq (9 - 1) k nu t F p cap (w.heap.size + 1 + 1 + 1 + 1 + 1) w.heap.size w3 hp2 (TreesOn.keep (fun b hb => hB.block b hb) _ _ _ (TreesOn.of _ _ _ hx)) (by omega) hc hcap
  have hdeep := most_seq (1, k, nu, t, F.length) F rfl
  have hdb := F.deep_le_count
  have hlen : ((1, k, nu, t, F.length) :: F.pre 2 : List Part).length = 1 + F.count := by rw [List.length_cons, Trees.pre_length]; omega
  generalize (1, k, nu, t, F.length) :: F.pre 2 = seq at *
  generalize hz : decide (1 + F.count ≤ N ∧ F.deep + 1 ≤ D) = z
  have HZ := Lib.hid hz
  clear hw3 hx hp2 hz
  refine wpIn_rangeFunc_go rfl (by omega) (gf := 78) (lb := #[.pointer (some ⟨w.heap.size + 1 + 1 + 1 + 1 + 1, 0, none⟩)]) rfl trivial (enters_of Tryz.func78 (by kernel_rfl) rfl)
    hseq (Below.refl _ _) (by omega) (fun _ => rfl)
    (fun j W => ((W.cell? ⟨w.heap.size + 1 + 1 + 1 + 1, 0, none⟩ = some (.int .i64 (j : Int)) ∧ W.frozen? ⟨w.heap.size + 1 + 1 + 1 + 1, 0, none⟩ = false ∧ W.cell? ⟨w.heap.size + 1 + 1 + 1, 0, none⟩ = some (.bool false) ∧ W.frozen? ⟨w.heap.size + 1 + 1 + 1, 0, none⟩ = false) ∧ W.cell? ⟨w.heap.size + 1, 0, none⟩ = some (.int .i64 (N : Int)) ∧ W.cell? ⟨w.heap.size + 1 + 1, 0, none⟩ = some (.int .i64 (D : Int))) ∧ (j ≤ N ∧ most (seq.take j) ≤ D) ∧ Below w.heap.size w W)
    (fun c W => c = .ret ∧ z = false ∧ W.cell? ⟨w.heap.size + 1 + 1 + 1, 0, none⟩ = some (.bool false) ∧ Below w.heap.size w W)
    (fun j A C hs hb => ⟨⟨⟨(hb.cell (p := ⟨w.heap.size + 1 + 1 + 1 + 1, 0, none⟩) (by show w.heap.size + 1 + 1 + 1 + 1 < _; omega)).trans hs.1.1.1, (hb.frozen (p := ⟨w.heap.size + 1 + 1 + 1 + 1, 0, none⟩) (by show w.heap.size + 1 + 1 + 1 + 1 < _; omega)).trans hs.1.1.2.1, (hb.cell (p := ⟨w.heap.size + 1 + 1 + 1, 0, none⟩) (by show w.heap.size + 1 + 1 + 1 < _; omega)).trans hs.1.1.2.2.1, (hb.frozen (p := ⟨w.heap.size + 1 + 1 + 1, 0, none⟩) (by show w.heap.size + 1 + 1 + 1 < _; omega)).trans hs.1.1.2.2.2⟩, (hb.cell (p := ⟨w.heap.size + 1, 0, none⟩) (by show w.heap.size + 1 < _; omega)).trans hs.1.2.1, (hb.cell (p := ⟨w.heap.size + 1 + 1, 0, none⟩) (by show w.heap.size + 1 + 1 < _; omega)).trans hs.1.2.2⟩, hs.2.1, hs.2.2.trans (hb.mono (by omega))⟩)
    (fun _ A C hs hb => ⟨hs.1, hs.2.1, (hb.cell (p := ⟨w.heap.size + 1 + 1 + 1, 0, none⟩) (by show w.heap.size + 1 + 1 + 1 < _; omega)).trans hs.2.2.1, hs.2.2.2.trans (hb.mono (by omega))⟩)
    ⟨⟨⟨(one_cell4 hp1).1, (one_cell4 hp1).2, (one_cell4 hp0).1, (one_cell4 hp0).2⟩, (one_cell4 hpN).1, (one_cell4 hpD).1⟩, ⟨by omega, by simp [most]⟩, hB⟩
    (fun x => { tmps := #[.agg #[.int .i64 k, .int .i64 nu, .string t, .slice p F.length cap], .int .i64 (N : Int), .int .i64 (D : Int), .pointer (some ⟨w.heap.size, 0, none⟩), .pointer (some ⟨w.heap.size + 1, 0, none⟩), .pointer (some ⟨w.heap.size + 1 + 1, 0, none⟩), .pointer (some ⟨w.heap.size + 1 + 1 + 1, 0, none⟩), .pointer (some ⟨w.heap.size + 1 + 1 + 1 + 1, 0, none⟩), .int .i64 (x.d : Int), .agg #[.int .i64 k, .int .i64 nu, .string t, .slice p F.length cap], .func (.func 78) #[] #[.pointer (some ⟨w.heap.size + 1 + 1 + 1 + 1 + 1, 0, none⟩)], .int .i64 (x.d : Int), x.val, undef, undef, undef, undef, undef, undef, undef, undef, undef, undef], defers := [] }) ?assign ?body ?done ?stop
  case assign =>
    intro l x W K hK
    simp only [List.zip_toArray, List.foldl_toArray, List.zip_cons_cons, List.zip_nil_right, List.foldl_cons, List.foldl_nil, List.setIfInBounds_toArray, List.set_cons_succ, List.set_cons_zero]
    gi_wp2
    simpa using hK
  case body =>
    rintro l j ⟨d, vk, vn, vt, vp, vl, vc⟩ W hj ⟨⟨⟨hc1, hf1, hc2, hf2⟩, hcN, hcD⟩, ⟨hjN, hmD⟩, hBW⟩ hws
    have hm := most_take seq j _ hj
    have hl2 := le_most seq j _ hj
    rw [hdeep] at hl2
    dsimp only [PartX.key] at hm hl2
    have hjl : j < 1 + F.count := by
      rw [← hlen]
      exact (List.getElem?_eq_some_iff.1 hj).1
    have HB := Lib.hid hBW
    have HM : Hid (most (seq.take (j + 1)) = max (most (seq.take j)) d) := hm
    have HMD := Lib.hid hmD
    have hx1 := World.cell?_setCell_same' W ⟨w.heap.size + 1 + 1 + 1 + 1, 0, none⟩ (.int .i64 ((j : Int) + 1)) (by rw [hc1]; rfl)
    have hx2 : (W.setCell ⟨w.heap.size + 1 + 1 + 1 + 1, 0, none⟩ (.int .i64 ((j : Int) + 1))).cell? ⟨w.heap.size + 1 + 1 + 1, 0, none⟩ = some (.bool false) := by
      rw [← hc2]
      exact World.cell?_of_block (Below.heap_setCell _ _ _ _ (by show w.heap.size + 1 + 1 + 1 ≠ w.heap.size + 1 + 1 + 1 + 1; omega))
    have hxN : (W.setCell ⟨w.heap.size + 1 + 1 + 1 + 1, 0, none⟩ (.int .i64 ((j : Int) + 1))).cell? ⟨w.heap.size + 1, 0, none⟩ = some (.int .i64 (N : Int)) := by
      rw [← hcN]
      exact World.cell?_of_block (Below.heap_setCell _ _ _ _ (by show w.heap.size + 1 ≠ w.heap.size + 1 + 1 + 1 + 1; omega))
    have hxD : (W.setCell ⟨w.heap.size + 1 + 1 + 1 + 1, 0, none⟩ (.int .i64 ((j : Int) + 1))).cell? ⟨w.heap.size + 1 + 1, 0, none⟩ = some (.int .i64 (D : Int)) := by
      rw [← hcD]
      exact World.cell?_of_block (Below.heap_setCell _ _ _ _ (by show w.heap.size + 1 + 1 ≠ w.heap.size + 1 + 1 + 1 + 1; omega))
    have hx3 : (W.setCell ⟨w.heap.size + 1 + 1 + 1 + 1, 0, none⟩ (.int .i64 ((j : Int) + 1))).frozen? ⟨w.heap.size + 1 + 1 + 1, 0, none⟩ = false := by rw [World.frozen?_setCell]; exact hf2
    have hB1 : Below w.heap.size w (W.setCell ⟨w.heap.size + 1 + 1 + 1 + 1, 0, none⟩ (.int .i64 ((j : Int) + 1))) := HB.out.setCell (by show _ ≤ w.heap.size + 1 + 1 + 1 + 1; omega) _
    have HX2 := Lib.hid hx2
    have HB1 := Lib.hid hB1
    have hA1 : Apart w.heap.size w3.heap.size W (W.setCell ⟨w.heap.size + 1 + 1 + 1 + 1, 0, none⟩ (.int .i64 ((j : Int) + 1))) := Apart.setCell _ _ _ (by show _ ≤ w.heap.size + 1 + 1 + 1 + 1; omega) (by show w.heap.size + 1 + 1 + 1 + 1 < _; omega)
    have HA1 := Lib.hid hA1
    have HF1 : Hid ((W.setCell ⟨w.heap.size + 1 + 1 + 1 + 1, 0, none⟩ (.int .i64 ((j : Int) + 1))).frozen? ⟨w.heap.size + 1 + 1 + 1 + 1, 0, none⟩ = false) := by unfold Hid; rw [World.frozen?_setCell]; exact hf1
    have HF2 := Lib.hid hx3
    have HX1 := Lib.hid hx1
    have HXN := Lib.hid hxN
    have HXD := Lib.hid hxD
    have HW3 := Lib.hid hs6
    clear hj hBW hseq hm hmD hB1 hA1 hs6 hs5 hlen hdeep hp0 hp1 hB hpN hpD hcN hcD
    by_cases hgt : N < j + 1
    · have HE : Hid (z = false) := by unfold Hid; rw [← HZ.out]; simp; omega
      have hg : (N : Int) < (j : Int) + 1 := by omega
      clear hjl hl2 hdb
      gi_wp2
      refine ⟨HA1.out.trans (Apart.setCell _ _ _ (by show _ ≤ w.heap.size + 1 + 1 + 1; omega) (by show w.heap.size + 1 + 1 + 1 < _; have := HW3.out; omega)), rfl, HE.out, World.cell?_setCell_same' _ _ _ (by rw [HX2.out]; rfl), HB1.out.setCell (by show _ ≤ w.heap.size + 1 + 1 + 1; omega) _⟩
    · have hg : ¬ (N : Int) < (j : Int) + 1 := by omega
      by_cases hd : D < d
      · have HE : Hid (z = false) := by unfold Hid; rw [← HZ.out]; simp; omega
        have hg2 : (D : Int) < (d : Int) := by omega
        clear hjl hl2 hdb
        gi_wp2
        refine ⟨HA1.out.trans (Apart.setCell _ _ _ (by show _ ≤ w.heap.size + 1 + 1 + 1; omega) (by show w.heap.size + 1 + 1 + 1 < _; have := HW3.out; omega)), rfl, HE.out, World.cell?_setCell_same' _ _ _ (by rw [HX2.out]; rfl), HB1.out.setCell (by show _ ≤ w.heap.size + 1 + 1 + 1; omega) _⟩
      · have hg2 : ¬ (D : Int) < (d : Int) := by omega
        clear hjl hl2 hdb
        gi_wp2
        refine ⟨HA1.out, ⟨⟨⟨by rw [HX1.out]; rfl, HF1.out, HX2.out, HF2.out⟩, HXN.out, HXD.out⟩, ⟨by omega, by rw [HM.out]; have := HMD.out; omega⟩, HB1.out⟩⟩
  case done =>
    rintro Df W hD' ⟨⟨⟨hc1, hf1, hc2, hf2⟩, hcN, hcD⟩, ⟨hjN, hmD⟩, hBW⟩ hK
    rw [List.take_length, hdeep] at hmD
    rw [hlen] at hjN
    have HE : Hid (z = true) := by unfold Hid; rw [← HZ.out]; simp; omega
    have HB := Lib.hid hBW
    have hK4 : (W.setCell ⟨w.heap.size + 1 + 1 + 1, 0, none⟩ (.bool true)).heap[Df]? = some (.deferred (some [])) := (Below.heap_setCell W ⟨w.heap.size + 1 + 1 + 1, 0, none⟩ _ _ (by show Df ≠ w.heap.size + 1 + 1 + 1; omega)).trans hK
    have hc5 : ((W.setCell ⟨w.heap.size + 1 + 1 + 1, 0, none⟩ (.bool true)).putObj Df (.deferred none)).cell? ⟨w.heap.size + 1 + 1 + 1, 0, none⟩ = some (.bool true) :=
      (World.cell?_of_block (World.putObj_heap_other (k := w.heap.size + 1 + 1 + 1) (by omega))).trans (World.cell?_setCell_same' _ _ _ (by rw [hc2]; rfl))
    have HB2 : Hid (Below w.heap.size w (W.setCell ⟨w.heap.size + 1 + 1 + 1, 0, none⟩ (.bool true))) := HB.out.setCell (by show _ ≤ w.heap.size + 1 + 1 + 1; omega) _
    clear hBW hseq hcN hcD
    gi_wp2
    refine ⟨by simp, .inl ⟨_, _, rfl, run_takeDeferred hK4, ?_⟩⟩
    refine ⟨.bool true, ?_, by rw [HZ.out, HE.out], HB2.out.trans (Below.putObj' _ Df (by omega) _)⟩
    simp [results, Tryz.f27, go_sem, hc5]
  case stop =>
    rintro Df c W hD' ⟨rfl, hzf, hc2, hBW⟩ hK
    have HB := Lib.hid hBW
    have hc5 : (W.putObj Df (.deferred none)).cell? ⟨w.heap.size + 1 + 1 + 1, 0, none⟩ = some (.bool false) :=
      (World.cell?_of_block (World.putObj_heap_other (k := w.heap.size + 1 + 1 + 1) (by omega))).trans hc2
    clear hBW hseq
    gi_wp2
    refine ⟨by simp, .inl ⟨_, _, rfl, run_takeDeferred hK, ?_⟩⟩
    refine ⟨.bool false, ?_, by rw [HZ.out, hzf], HB.out.trans (Below.putObj' _ Df (by omega) _)⟩
    simp [results, Tryz.f27, go_sem, hc5]
end Go.Proofs.YtdilegbigaahnaaGreat
end
