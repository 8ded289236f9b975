/- What is proved here: a row of nodes that append makes longer, in a block of the call's own, and what lies below its nodes in blocks of the call's own, no two in one. No condition. -/
import Derived.Test.YtcalgjggmgnofaaDoorTreeOwn
import Derived.Test.YtcalgjggmgnofaaDoorTreeCells
import Derived.Deep.AppendLies
import Derived.Deep.RegionLaw
namespace Go.Proofs.YtcalgjggmgnofaaDoor
open Go.RowKit

/-- The cells of a row of nodes; bs: the blocks of what is below them. -/
def RowV (w : World) : Trees → List Value → List Nat → Prop
  | .nil, xs, bs => xs = [] ∧ bs = []
  | .cons k n t ar r, xs, bs => ∃ v b1 b2 ys, xs = .int .i64 k :: .int .i64 n :: .string t :: v :: ys ∧ bs = b1 ++ b2 ∧ OwnV w v ar b1 ∧ RowV w r ys b2
theorem RowV.keep {w w' : World} : ∀ (F : Trees) (xs : List Value) (bs : List Nat), RowV w F xs bs → (∀ b ∈ bs, w'.heap[b]? = w.heap[b]?) → RowV w' F xs bs := by
  intro F
  induction F with
  | nil => intro xs bs h _; exact h
  | cons k n t ar r _ ih =>
    rintro xs bs ⟨v, b1, b2, ys, rfl, rfl, h1, h2⟩ hk
    exact ⟨v, b1, b2, ys, rfl, rfl, h1.keep (fun b hb => hk b (List.mem_append_left _ hb)), ih ys b2 h2 (fun b hb => hk b (List.mem_append_right _ hb))⟩
theorem RowV.length {w : World} : ∀ (F : Trees) (xs : List Value) (bs : List Nat), RowV w F xs bs → xs.length = F.length * 4 := by
  intro F
  induction F with
  | nil => rintro xs bs ⟨rfl, rfl⟩; rfl
  | cons k n t ar r _ ih =>
    rintro xs bs ⟨v, b1, b2, ys, rfl, rfl, h1, h2⟩
    have := ih ys b2 h2
    simp [Trees.length]
    omega
theorem RowV.snoc {w : World} {k n : Int} {t : ByteArray} {ar : Trees} {v : Value} {c : List Nat} (hx : OwnV w v ar c) : ∀ (F : Trees) (xs : List Value) (bs : List Nat), RowV w F xs bs → RowV w (F.snoc k n t ar) (xs ++ [.int .i64 k, .int .i64 n, .string t, v]) (bs ++ c) := by
  intro F
  induction F with
  | nil => rintro xs bs ⟨rfl, rfl⟩; exact ⟨v, c, [], [], rfl, by simp, hx, rfl, rfl⟩
  | cons k2 n2 t2 ar2 r _ ih =>
    rintro xs bs ⟨v2, b1, b2, ys, rfl, rfl, h1, h2⟩
    exact ⟨v2, b1, b2 ++ c, _, rfl, by simp, h1, ih ys b2 h2⟩
theorem RowV.row {w : World} {g : Nat} : ∀ (F : Trees) (xs : List Value) (bs : List Nat) (i : Nat), RowV w F xs bs → (∀ o, o < xs.length → w.cell? ⟨g, i * 4 + o, none⟩ = xs[o]?) → RowIn w F g i bs := by
  intro F
  induction F with
  | nil => rintro xs bs i ⟨rfl, rfl⟩ _; rfl
  | cons k n t ar r _ ih =>
    rintro xs bs i ⟨v, b1, b2, ys, rfl, rfl, h1, h2⟩ hc
    have hl := RowV.length r ys b2 h2
    refine ⟨v, b1, b2, rfl, ?_, ?_, ?_, ?_, h1, ih ys b2 (i + 1) h2 (fun o ho => ?_)⟩
    · have := hc 0 (by simp); simpa using this
    · have := hc 1 (by simp); simpa using this
    · have := hc 2 (by simp); simpa using this
    · have := hc 3 (by simp); simpa using this
    · have := hc (o + 4) (by simp; omega)
      rw [show (i + 1) * 4 + o = i * 4 + (o + 4) by omega, this]
      rfl

/-- v is a slice of the nodes F that the call may append to; bs: the blocks of what is below them. -/
structure GrowV (w : World) (B : Nat) (v : Value) (F : Trees) (bs : List Nat) (xs : List Value) : Prop where
  owns : w.ownsRow B 26 4 v F.length xs
  row : RowV w F xs bs
  nodup : bs.Nodup
  near : ∀ b ∈ bs, B ≤ b ∧ b < w.heap.size ∧ v.ownBlock ≠ some b
theorem GrowV.nil (w : World) (B : Nat) : GrowV w B (.slice none 0 0) .nil [] [] := ⟨⟨rfl, .inl ⟨rfl, rfl⟩⟩, ⟨rfl, rfl⟩, List.nodup_nil, by simp⟩
theorem GrowV.form {w : World} {B : Nat} {v : Value} {F : Trees} {bs : List Nat} {xs : List Value} (h : GrowV w B v F bs xs) : ∃ a cap, v = .slice a F.length cap := by
  rcases h.owns.2 with ⟨h1, h2⟩ | ⟨g, cap, cur, rfl, _⟩
  · exact ⟨none, 0, by rw [h1, h2]⟩
  · exact ⟨_, cap, rfl⟩
theorem GrowV.own {w : World} {B : Nat} {v : Value} {F : Trees} {bs : List Nat} {xs : List Value} (h : GrowV w B v F bs xs) : ∃ cs, OwnV w v F cs ∧ cs.Nodup ∧ ∀ b ∈ cs, B ≤ b ∧ b < w.heap.size := by
  rcases h.owns.2 with ⟨h1, h2⟩ | ⟨g, cap, cur, rfl, hB, hg, h1, h2, h3, h4⟩
  · have hF : F = .nil := by
      cases F with
      | nil => rfl
      | cons _ _ _ _ _ => simp [Trees.length] at h2
    exact ⟨[], .inl ⟨none, 0, h1, hF, rfl⟩, List.nodup_nil, by simp⟩
  · refine ⟨g :: bs, .inr ⟨g, cap, bs, rfl, h1, rfl, ⟨cur, hg⟩, RowV.row F xs bs 0 h.row (fun o ho => ?_)⟩, List.nodup_cons.2 ⟨fun hm => (h.near g hm).2.2 rfl, h.nodup⟩, fun b hb => ?_⟩
    · have hl := RowV.length F xs bs h.row
      rw [Nat.zero_mul, Nat.zero_add, h.owns.cellAt o (by omega)]
    · rcases List.mem_cons.1 hb with rfl | hb
      · exact ⟨hB, (Array.getElem?_eq_some_iff.1 hg).1⟩
      · exact ⟨(h.near b hb).1, (h.near b hb).2.1⟩
theorem GrowV.below {w w' : World} {B : Nat} {v : Value} {F : Trees} {bs : List Nat} {xs : List Value} (h : GrowV w B v F bs xs) (hb : Below w.heap.size w w') : GrowV w' B v F bs xs := by
  refine ⟨⟨h.owns.1, ?_⟩, h.row.keep F xs bs (fun b hm => hb.block b (h.near b hm).2.1), h.nodup, fun b hm => ⟨(h.near b hm).1, Nat.lt_of_lt_of_le (h.near b hm).2.1 hb.size, (h.near b hm).2.2⟩⟩
  rcases h.owns.2 with h | ⟨g, cap, cur, rfl, hB, hg, h1, h2, h3, h4⟩
  · exact .inl h
  · exact .inr ⟨g, cap, cur, rfl, hB, by rw [hb.block g (Array.getElem?_eq_some_iff.1 hg).1]; exact hg, h1, h2, h3, h4⟩
/-- The same row where only other blocks were written. -/
theorem GrowV.aside {w : World} {B : Nat} {v : Value} {F : Trees} {bs : List Nat} {xs : List Value} (h : GrowV w B v F bs xs) (g o : Nat) (u : Value) (hg : g < B) : GrowV (w.setCell ⟨g, o, none⟩ u) B v F bs xs := by
  have hk : ∀ b, B ≤ b → (w.setCell ⟨g, o, none⟩ u).heap[b]? = w.heap[b]? := fun b hb => Below.heap_setCell _ _ _ _ (by show b ≠ g; omega)
  refine ⟨⟨h.owns.1, ?_⟩, h.row.keep F xs bs (fun b hm => hk b (h.near b hm).1), h.nodup, fun b hm => ⟨(h.near b hm).1, by simpa [World.setCell] using (h.near b hm).2.1, (h.near b hm).2.2⟩⟩
  rcases h.owns.2 with h | ⟨g', cap, cur, rfl, hB, hg', h1, h2, h3, h4⟩
  · exact .inl h
  · exact .inr ⟨g', cap, cur, rfl, hB, by rw [hk g' hB]; exact hg', h1, h2, h3, h4⟩
theorem GrowV.far {w : World} {B : Nat} {v : Value} {F : Trees} {bs : List Nat} {xs : List Value} (h : GrowV w B v F bs xs) (b : Nat) (hb : v.ownBlock = some b) : B ≤ b := by
  rcases h.owns.2 with ⟨e, _⟩ | ⟨g, cap, cur, rfl, hB, _⟩
  · subst e; cases hb
  · cases hb; exact hB
theorem grow_four (w : World) (k n : Int) (t : ByteArray) (v : Value) (T : TypeId) : ∀ j u, [Value.int .i64 k, .int .i64 n, .string t, v][j]? = some u → (w.alloc (.cells #[.int .i64 k, .int .i64 n, .string t, v] T)).cell? ((⟨w.heap.size, 0, none⟩ : Addr).add j) = some u :=
  World.news_of_block (heap_at_new w _)
theorem grow_one (k n : Int) (t : ByteArray) (p : Option Addr) (l c : Nat) : ∀ u ∈ [Value.int .i64 k, .int .i64 n, .string t, .slice p l c], u.oneCell' = true := by
  intro u hu
  simp at hu
  rcases hu with rfl | rfl | rfl | rfl <;> rfl
/-- Behind an append of one node: w the world ahead of the node's making, w1 behind it, w2 ahead of the append, w3 behind it. -/
theorem GrowV.more {w w1 w2 w3 : World} {B : Nat} {F ar : Trees} {bs c : List Nat} {xs : List Value} {k n : Int} {t : ByteArray} {u v : Value} {g cap : Nat}
    (h : GrowV w B v F bs xs) (hB : B ≤ w.heap.size) (h1 : Below w.heap.size w w1) (ho : OwnV w1 u ar c) (hnd : c.Nodup) (hc : ∀ b ∈ c, w.heap.size ≤ b ∧ b < w1.heap.size) (h2 : Below w1.heap.size w1 w2)
    (hown : w3.ownsRow B 26 4 (.slice (some ⟨g, 0, none⟩) (F.length + 1) cap) (F.length + 1) (xs ++ [.int .i64 k, .int .i64 n, .string t, u])) (hgrow : w2.grownBy w3 v.ownBlock) (hat : v.ownBlock = some g ∨ g = w2.heap.size) :
    GrowV w3 B (.slice (some ⟨g, 0, none⟩) (F.length + 1) cap) (F.snoc k n t ar) (bs ++ c) (xs ++ [.int .i64 k, .int .i64 n, .string t, u]) := by
  have s1 := h1.size
  have s2 := h2.size
  have s3 := hgrow.size
  have hvb : ∀ b, v.ownBlock = some b → b < w.heap.size := fun b hb => by
    rcases h.owns.2 with ⟨e, _⟩ | ⟨g', cap', cur, rfl, _, hg', _⟩
    · subst e; cases hb
    · cases hb; exact (Array.getElem?_eq_some_iff.1 hg').1
  have kb : ∀ b ∈ bs, w3.heap[b]? = w.heap[b]? := fun b hm => by
    have hn := h.near b hm
    rw [hgrow.block b (by omega) (fun e => hn.2.2 e.symm), h2.block b (by omega), h1.block b hn.2.1]
  have kc : ∀ b ∈ c, w3.heap[b]? = w1.heap[b]? := fun b hm => by
    have hn := hc b hm
    rw [hgrow.block b (by omega) (fun e => by have := hvb b e.symm; omega), h2.block b hn.2]
  refine ⟨?_, RowV.snoc (ho.keep kc) F xs bs (h.row.keep F xs bs kb), List.nodup_append.2 ⟨h.nodup, hnd, fun b hb1 b' hb2 e => ?_⟩, fun b hm => ?_⟩
  · rw [Trees.snoc_length]; exact hown
  · have := (h.near b hb1).2.1
    have := (hc b' hb2).1
    omega
  · rcases List.mem_append.1 hm with hm | hm
    · have hn := h.near b hm
      refine ⟨hn.1, by omega, fun e => ?_⟩
      have e : g = b := Option.some.inj e
      subst e
      rcases hat with ha | ha
      · exact hn.2.2 ha
      · omega
    · have hn := hc b hm
      refine ⟨by omega, by omega, fun e => ?_⟩
      have e : g = b := Option.some.inj e
      subst e
      rcases hat with ha | ha
      · have := hvb g ha; omega
      · omega
end Go.Proofs.YtcalgjggmgnofaaDoor
