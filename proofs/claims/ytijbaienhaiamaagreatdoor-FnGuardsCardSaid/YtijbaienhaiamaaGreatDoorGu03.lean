/- What is proved here: a piece of the proof of YtijbaienhaiamaaGreatDoorGuards (TreeGrow, DrawTame, BoxAt, ExDrawTame, Once, Pick, PickInt). Condition: none beyond what each part says. -/
import Derived.Test.YtijbaienhaiamaaGreatDoorGu02
import Derived.Deep.AppendLies
import Derived.Deep.RegionLaw
import Derived.Test.YtijbaienhaiamaaGreatDoorGu01

/- What is proved here: a row of nodes that append makes longer, in a block of the call's own, and what lies below its nodes in blocks of the call's own, no two in one. No condition. -/
section
namespace Go.Proofs.YtijbaienhaiamaaGreatDoor
open Go.RowKit

/-- The cells of a row of nodes; bs: the blocks of what is below them. -/
def RowV (w : World) : Trees → List Value → List Nat → Prop
  | .nil, xs, bs => xs = [] ∧ bs = []
  | .cons k n t ar r, xs, bs => ∃ v b1 b2 ys, xs = .int .i64 k :: .int .i64 n :: .string t :: v :: ys ∧ bs = b1 ++ b2 ∧ OwnV w v ar b1 ∧ RowV w r ys b2
theorem RowV.keep {w w' : World} : ∀ (F : Trees) (xs : List Value) (bs : List Nat), RowV w F xs bs → (∀ b ∈ bs, w'.heap[b]? = w.heap[b]?) → RowV w' F xs bs := by
  intro F
  induction F with
  | nil => intro xs bs h _; exact h
  | cons k n t ar r _ ih =>
    rintro xs bs ⟨v, b1, b2, ys, rfl, rfl, h1, h2⟩ hk
    exact ⟨v, b1, b2, ys, rfl, rfl, h1.keep (fun b hb => hk b (List.mem_append_left _ hb)), ih ys b2 h2 (fun b hb => hk b (List.mem_append_right _ hb))⟩
theorem RowV.length {w : World} : ∀ (F : Trees) (xs : List Value) (bs : List Nat), RowV w F xs bs → xs.length = F.length * 4 := by
  intro F
  induction F with
  | nil => rintro xs bs ⟨rfl, rfl⟩; rfl
  | cons k n t ar r _ ih =>
    rintro xs bs ⟨v, b1, b2, ys, rfl, rfl, h1, h2⟩
    have := ih ys b2 h2
    simp [Trees.length]
    omega
theorem RowV.snoc {w : World} {k n : Int} {t : ByteArray} {ar : Trees} {v : Value} {c : List Nat} (hx : OwnV w v ar c) : ∀ (F : Trees) (xs : List Value) (bs : List Nat), RowV w F xs bs → RowV w (F.snoc k n t ar) (xs ++ [.int .i64 k, .int .i64 n, .string t, v]) (bs ++ c) := by
  intro F
  induction F with
  | nil => rintro xs bs ⟨rfl, rfl⟩; exact ⟨v, c, [], [], rfl, by simp, hx, rfl, rfl⟩
  | cons k2 n2 t2 ar2 r _ ih =>
    rintro xs bs ⟨v2, b1, b2, ys, rfl, rfl, h1, h2⟩
    exact ⟨v2, b1, b2 ++ c, _, rfl, by simp, h1, ih ys b2 h2⟩
theorem RowV.row {w : World} {g : Nat} : ∀ (F : Trees) (xs : List Value) (bs : List Nat) (i : Nat), RowV w F xs bs → (∀ o, o < xs.length → w.cell? ⟨g, i * 4 + o, none⟩ = xs[o]?) → RowIn w F g i bs := by
  intro F
  induction F with
  | nil => rintro xs bs i ⟨rfl, rfl⟩ _; rfl
  | cons k n t ar r _ ih =>
    rintro xs bs i ⟨v, b1, b2, ys, rfl, rfl, h1, h2⟩ hc
    have hl := RowV.length r ys b2 h2
    refine ⟨v, b1, b2, rfl, ?_, ?_, ?_, ?_, h1, ih ys b2 (i + 1) h2 (fun o ho => ?_)⟩
    · have := hc 0 (by simp); simpa using this
    · have := hc 1 (by simp); simpa using this
    · have := hc 2 (by simp); simpa using this
    · have := hc 3 (by simp); simpa using this
    · have := hc (o + 4) (by simp; omega)
      rw [show (i + 1) * 4 + o = i * 4 + (o + 4) by omega, this]
      rfl

/-- v is a slice of the nodes F that the call may append to; bs: the blocks of what is below them. -/
structure GrowV (w : World) (B : Nat) (v : Value) (F : Trees) (bs : List Nat) (xs : List Value) : Prop where
  owns : w.ownsRow B 29 4 v F.length xs
  row : RowV w F xs bs
  nodup : bs.Nodup
  near : ∀ b ∈ bs, B ≤ b ∧ b < w.heap.size ∧ v.ownBlock ≠ some b
theorem GrowV.nil (w : World) (B : Nat) : GrowV w B (.slice none 0 0) .nil [] [] := ⟨⟨rfl, .inl ⟨rfl, rfl⟩⟩, ⟨rfl, rfl⟩, List.nodup_nil, by simp⟩
theorem GrowV.form {w : World} {B : Nat} {v : Value} {F : Trees} {bs : List Nat} {xs : List Value} (h : GrowV w B v F bs xs) : ∃ a cap, v = .slice a F.length cap := by
  rcases h.owns.2 with ⟨h1, h2⟩ | ⟨g, cap, cur, rfl, _⟩
  · exact ⟨none, 0, by rw [h1, h2]⟩
  · exact ⟨_, cap, rfl⟩
theorem GrowV.own {w : World} {B : Nat} {v : Value} {F : Trees} {bs : List Nat} {xs : List Value} (h : GrowV w B v F bs xs) : ∃ cs, OwnV w v F cs ∧ cs.Nodup ∧ ∀ b ∈ cs, B ≤ b ∧ b < w.heap.size := by
  rcases h.owns.2 with ⟨h1, h2⟩ | ⟨g, cap, cur, rfl, hB, hg, h1, h2, h3, h4⟩
  · have hF : F = .nil := by
      cases F with
      | nil => rfl
      | cons _ _ _ _ _ => simp [Trees.length] at h2
    exact ⟨[], .inl ⟨none, 0, h1, hF, rfl⟩, List.nodup_nil, by simp⟩
  · refine ⟨g :: bs, .inr ⟨g, cap, bs, rfl, h1, rfl, ⟨cur, hg⟩, RowV.row F xs bs 0 h.row (fun o ho => ?_)⟩, List.nodup_cons.2 ⟨fun hm => (h.near g hm).2.2 rfl, h.nodup⟩, fun b hb => ?_⟩
    · have hl := RowV.length F xs bs h.row
      rw [Nat.zero_mul, Nat.zero_add, h.owns.cellAt o (by omega)]
    · rcases List.mem_cons.1 hb with rfl | hb
      · exact ⟨hB, (Array.getElem?_eq_some_iff.1 hg).1⟩
      · exact ⟨(h.near b hb).1, (h.near b hb).2.1⟩
theorem GrowV.below {w w' : World} {B : Nat} {v : Value} {F : Trees} {bs : List Nat} {xs : List Value} (h : GrowV w B v F bs xs) (hb : Below w.heap.size w w') : GrowV w' B v F bs xs := by
  refine ⟨⟨h.owns.1, ?_⟩, h.row.keep F xs bs (fun b hm => hb.block b (h.near b hm).2.1), h.nodup, fun b hm => ⟨(h.near b hm).1, Nat.lt_of_lt_of_le (h.near b hm).2.1 hb.size, (h.near b hm).2.2⟩⟩
  rcases h.owns.2 with h | ⟨g, cap, cur, rfl, hB, hg, h1, h2, h3, h4⟩
  · exact .inl h
  · exact .inr ⟨g, cap, cur, rfl, hB, by rw [hb.block g (Array.getElem?_eq_some_iff.1 hg).1]; exact hg, h1, h2, h3, h4⟩
/-- The same row where only other blocks were written. -/
theorem GrowV.aside {w : World} {B : Nat} {v : Value} {F : Trees} {bs : List Nat} {xs : List Value} (h : GrowV w B v F bs xs) (g o : Nat) (u : Value) (hg : g < B) : GrowV (w.setCell ⟨g, o, none⟩ u) B v F bs xs := by
  have hk : ∀ b, B ≤ b → (w.setCell ⟨g, o, none⟩ u).heap[b]? = w.heap[b]? := fun b hb => Below.heap_setCell _ _ _ _ (by show b ≠ g; omega)
  refine ⟨⟨h.owns.1, ?_⟩, h.row.keep F xs bs (fun b hm => hk b (h.near b hm).1), h.nodup, fun b hm => ⟨(h.near b hm).1, by simpa [World.setCell] using (h.near b hm).2.1, (h.near b hm).2.2⟩⟩
  rcases h.owns.2 with h | ⟨g', cap, cur, rfl, hB, hg', h1, h2, h3, h4⟩
  · exact .inl h
  · exact .inr ⟨g', cap, cur, rfl, hB, by rw [hk g' hB]; exact hg', h1, h2, h3, h4⟩
theorem GrowV.far {w : World} {B : Nat} {v : Value} {F : Trees} {bs : List Nat} {xs : List Value} (h : GrowV w B v F bs xs) (b : Nat) (hb : v.ownBlock = some b) : B ≤ b := by
  rcases h.owns.2 with ⟨e, _⟩ | ⟨g, cap, cur, rfl, hB, _⟩
  · subst e; cases hb
  · cases hb; exact hB
theorem grow_four (w : World) (k n : Int) (t : ByteArray) (v : Value) (T : TypeId) : ∀ j u, [Value.int .i64 k, .int .i64 n, .string t, v][j]? = some u → (w.alloc (.cells #[.int .i64 k, .int .i64 n, .string t, v] T)).cell? ((⟨w.heap.size, 0, none⟩ : Addr).add j) = some u :=
  World.news_of_block (heap_at_new w _)
theorem grow_one (k n : Int) (t : ByteArray) (p : Option Addr) (l c : Nat) : ∀ u ∈ [Value.int .i64 k, .int .i64 n, .string t, .slice p l c], u.oneCell' = true := by
  intro u hu
  simp at hu
  rcases hu with rfl | rfl | rfl | rfl <;> rfl
/-- Behind an append of one node: w the world ahead of the node's making, w1 behind it, w2 ahead of the append, w3 behind it. -/
theorem GrowV.more {w w1 w2 w3 : World} {B : Nat} {F ar : Trees} {bs c : List Nat} {xs : List Value} {k n : Int} {t : ByteArray} {u v : Value} {g cap : Nat}
    (h : GrowV w B v F bs xs) (hB : B ≤ w.heap.size) (h1 : Below w.heap.size w w1) (ho : OwnV w1 u ar c) (hnd : c.Nodup) (hc : ∀ b ∈ c, w.heap.size ≤ b ∧ b < w1.heap.size) (h2 : Below w1.heap.size w1 w2)
    (hown : w3.ownsRow B 29 4 (.slice (some ⟨g, 0, none⟩) (F.length + 1) cap) (F.length + 1) (xs ++ [.int .i64 k, .int .i64 n, .string t, u])) (hgrow : w2.grownBy w3 v.ownBlock) (hat : v.ownBlock = some g ∨ g = w2.heap.size) :
    GrowV w3 B (.slice (some ⟨g, 0, none⟩) (F.length + 1) cap) (F.snoc k n t ar) (bs ++ c) (xs ++ [.int .i64 k, .int .i64 n, .string t, u]) := by
  have s1 := h1.size
  have s2 := h2.size
  have s3 := hgrow.size
  have hvb : ∀ b, v.ownBlock = some b → b < w.heap.size := fun b hb => by
    rcases h.owns.2 with ⟨e, _⟩ | ⟨g', cap', cur, rfl, _, hg', _⟩
    · subst e; cases hb
    · cases hb; exact (Array.getElem?_eq_some_iff.1 hg').1
  have kb : ∀ b ∈ bs, w3.heap[b]? = w.heap[b]? := fun b hm => by
    have hn := h.near b hm
    rw [hgrow.block b (by omega) (fun e => hn.2.2 e.symm), h2.block b (by omega), h1.block b hn.2.1]
  have kc : ∀ b ∈ c, w3.heap[b]? = w1.heap[b]? := fun b hm => by
    have hn := hc b hm
    rw [hgrow.block b (by omega) (fun e => by have := hvb b e.symm; omega), h2.block b hn.2]
  refine ⟨?_, RowV.snoc (ho.keep kc) F xs bs (h.row.keep F xs bs kb), List.nodup_append.2 ⟨h.nodup, hnd, fun b hb1 b' hb2 e => ?_⟩, fun b hm => ?_⟩
  · rw [Trees.snoc_length]; exact hown
  · have := (h.near b hb1).2.1
    have := (hc b' hb2).1
    omega
  · rcases List.mem_append.1 hm with hm | hm
    · have hn := h.near b hm
      refine ⟨hn.1, by omega, fun e => ?_⟩
      have e : g = b := Option.some.inj e
      subst e
      rcases hat with ha | ha
      · exact hn.2.2 ha
      · omega
    · have hn := hc b hm
      refine ⟨by omega, by omega, fun e => ?_⟩
      have e : g = b := Option.some.inj e
      subst e
      rcases hat with ha | ha
      · have := hvb g ha; omega
      · omega
end Go.Proofs.YtijbaienhaiamaaGreatDoor
end

/- What is proved here: small rows of nodes, and rows that grow beside a cursor. No condition. -/
section
namespace Go.Proofs.YtijbaienhaiamaaGreatDoor
open Go.RowKit

/-- Small numbers and small texts. -/
def Trees.tame : Trees → Prop
  | .nil => True
  | .cons k n t ar r => (0 ≤ k ∧ k ≤ 9) ∧ (-1000000000000 ≤ n ∧ n ≤ 1000000000000) ∧ t.size ≤ 16 ∧ ar.tame ∧ r.tame
theorem Trees.tame_snoc {k n : Int} {t : ByteArray} {ar : Trees} (hk : 0 ≤ k ∧ k ≤ 9) (hn : -1000000000000 ≤ n ∧ n ≤ 1000000000000) (ht : t.size ≤ 16) (ha : ar.tame) : ∀ F : Trees, F.tame → (F.snoc k n t ar).tame := by
  intro F
  induction F with
  | nil => intro _; exact ⟨hk, hn, ht, ha, trivial⟩
  | cons k2 n2 t2 ar2 r _ ih => rintro ⟨h1, h2, h3, h4, h5⟩; exact ⟨h1, h2, h3, h4, ih h5⟩
theorem Trees.snoc_count (F : Trees) (k n : Int) (t : ByteArray) (ar : Trees) : (F.snoc k n t ar).count = F.count + (1 + ar.count) := by
  induction F with
  | nil => simp [Trees.snoc, Trees.append, Trees.count]
  | cons k2 n2 t2 ar2 r _ ih =>
    have e : (Trees.cons k2 n2 t2 ar2 r).snoc k n t ar = .cons k2 n2 t2 ar2 (r.snoc k n t ar) := rfl
    rw [e]
    simp only [Trees.count, ih]
    omega
theorem Trees.tame_fits (F : Trees) (h : F.tame) (hc : F.count ≤ maxLen) : F.fits := by
  induction F with
  | nil => trivial
  | cons k n t ar r ih1 ih2 =>
    obtain ⟨h1, h2, h3, h4, h5⟩ := h
    simp only [Trees.count] at hc
    have hl := ar.length_le_count
    have hm : (16 : Nat) ≤ maxLen := by decide
    exact ⟨by omega, by omega, by omega, by omega, ih1 h4 (by omega), ih2 h5 (by omega)⟩
theorem Trees.tame_size (F : Trees) (h : F.tame) : F.size ≤ 17 * F.count := by
  induction F with
  | nil => simp [Trees.size]
  | cons k n t ar r ih1 ih2 =>
    obtain ⟨_, _, h3, h4, h5⟩ := h
    have := ih1 h4
    have := ih2 h5
    simp only [Trees.size, Trees.count]
    omega

/-- Only block N, below the row, has changed. -/
theorem GrowV.grown {w w' : World} {B N : Nat} {v : Value} {F : Trees} {bs : List Nat} {xs : List Value} (h : GrowV w B v F bs xs) (hg : w.grownBy w' (some N)) (hN : N < B) : GrowV w' B v F bs xs := by
  refine ⟨⟨h.owns.1, ?_⟩, h.row.keep F xs bs (fun b hm => hg.block b (h.near b hm).2.1 (fun e => by have := (h.near b hm).1; injection e with e; omega)), h.nodup, fun b hm => ⟨(h.near b hm).1, Nat.lt_of_lt_of_le (h.near b hm).2.1 hg.size, (h.near b hm).2.2⟩⟩
  rcases h.owns.2 with h | ⟨g, cap, cur, rfl, hB, hh, h1, h2, h3, h4⟩
  · exact .inl h
  · exact .inr ⟨g, cap, cur, rfl, hB, by rw [hg.block g (Array.getElem?_eq_some_iff.1 hh).1 (fun e => by injection e with e; omega)]; exact hh, h1, h2, h3, h4⟩
/-- Behind an append of one node that was made while only block N of the old ones changed. -/
theorem GrowV.moreN {w w1 w2 w3 : World} {B N : Nat} {F ar : Trees} {bs c : List Nat} {xs : List Value} {k n : Int} {t : ByteArray} {u v : Value} {g cap : Nat}
    (h : GrowV w B v F bs xs) (hB : B ≤ w.heap.size) (h1 : w.grownBy w1 (some N)) (hN : N < B) (ho : OwnV w1 u ar c) (hnd : c.Nodup) (hc : ∀ b ∈ c, w.heap.size ≤ b ∧ b < w1.heap.size) (h2 : Below w1.heap.size w1 w2)
    (hown : w3.ownsRow B 29 4 (.slice (some ⟨g, 0, none⟩) (F.length + 1) cap) (F.length + 1) (xs ++ [.int .i64 k, .int .i64 n, .string t, u])) (hgrow : w2.grownBy w3 v.ownBlock) (hat : v.ownBlock = some g ∨ g = w2.heap.size) :
    GrowV w3 B (.slice (some ⟨g, 0, none⟩) (F.length + 1) cap) (F.snoc k n t ar) (bs ++ c) (xs ++ [.int .i64 k, .int .i64 n, .string t, u]) := by
  have h' := h.grown h1 hN
  have s1 := h1.size
  have s2 := h2.size
  have hvb : ∀ b, v.ownBlock = some b → b < w.heap.size := fun b hb => by
    rcases h.owns.2 with ⟨e, _⟩ | ⟨g', cap', cur, rfl, _, hg', _⟩
    · subst e; cases hb
    · cases hb; exact (Array.getElem?_eq_some_iff.1 hg').1
  have s3 := hgrow.size
  have kb : ∀ b ∈ bs, w3.heap[b]? = w1.heap[b]? := fun b hm => by
    have hn := h'.near b hm
    rw [hgrow.block b (by omega) (fun e => hn.2.2 e.symm), h2.block b hn.2.1]
  have kc : ∀ b ∈ c, w3.heap[b]? = w1.heap[b]? := fun b hm => by
    have hn := hc b hm
    rw [hgrow.block b (by omega) (fun e => by have := hvb b e.symm; omega), h2.block b hn.2]
  refine ⟨?_, RowV.snoc (ho.keep kc) F xs bs (h'.row.keep F xs bs kb), List.nodup_append.2 ⟨h.nodup, hnd, fun b hb1 b' hb2 e => ?_⟩, fun b hm => ?_⟩
  · rw [Trees.snoc_length]; exact hown
  · have := (h.near b hb1).2.1
    have := (hc b' hb2).1
    omega
  · rcases List.mem_append.1 hm with hm | hm
    · have hn := h'.near b hm
      refine ⟨hn.1, by omega, fun e => ?_⟩
      have e : g = b := Option.some.inj e
      subst e
      rcases hat with ha | ha
      · exact hn.2.2 ha
      · omega
    · have hn := hc b hm
      refine ⟨by omega, by omega, fun e => ?_⟩
      have e : g = b := Option.some.inj e
      subst e
      rcases hat with ha | ha
      · have := hvb g ha; omega
      · omega

/-- The cursor where only a later block was written. -/
theorem Cur.later {N : Nat} {w w' : World} {row : Option Nat} (h : Cur N w) (hg : w.grownBy w' row) (hN : ∀ g, row = some g → N < g) : Cur N w' := by
  cases row with
  | none => exact h.stays hg
  | some g =>
    have hg' := hN g rfl
    have hlt := h.lt
    obtain ⟨a, len, cap, zs, i, h', hc⟩ := h
    exact ⟨a, len, cap, zs, i, h', ⟨by rw [hg.block N hlt (fun e => by injection e with e; omega)]; exact hc.block,
      row_stays hc.row hg (fun x hx h0 => by have := hc.far x hx h0; intro e; injection e with e; omega), hc.at_le, hc.far, hc.lo, hc.hi⟩⟩
theorem grown_of_below {w w1 : World} (h : Below w.heap.size w w1) : w.grownBy w1 none := ⟨h.os, h.tape, h.output, h.size, fun b hb _ => h.block b hb⟩
/-- Two steps, the second one writes a block that came with the first one, or N. -/
theorem grown_join {w w1 w2 : World} {N : Nat} {row : Option Nat} (h : w.grownBy w1 (some N)) (k : w1.grownBy w2 row) (hr : ∀ g, row = some g → g = N ∨ w.heap.size ≤ g) : w.grownBy w2 (some N) :=
  ⟨k.os.trans h.os, k.tape.trans h.tape, k.output.trans h.output, Nat.le_trans h.size k.size, fun b hb hne => by
    rw [k.block b (Nat.lt_of_lt_of_le hb h.size) (fun e => by
      rcases hr b e.symm with h1 | h1
      · exact hne (by rw [h1])
      · omega), h.block b hb hne]⟩
theorem grown_wide {w w1 : World} {N : Nat} (h : w.grownBy w1 none) : w.grownBy w1 (some N) := ⟨h.os, h.tape, h.output, h.size, fun b hb _ => h.block b hb (by simp)⟩

/-- A drawn value comes back: small, of at most C nodes below, in memory of the call's own; the cursor's step is done. -/
def Drawn (N C : Nat) (w : World) (e : Ending) (w' : World) : Prop :=
  ∃ k n t v F bs xs, e = .returned (.agg #[.int .i64 k, .int .i64 n, .string t, v]) ∧ GrowV w' w.heap.size v F bs xs ∧ F.count ≤ C ∧ F.tame ∧ (0 ≤ k ∧ k ≤ 9) ∧ (-1000000000000 ≤ n ∧ n ≤ 1000000000000) ∧ t.size ≤ 16 ∧ CurStep N w w'
end Go.Proofs.YtijbaienhaiamaaGreatDoor
end

/- What is proved here: a node in a block of its own. No condition. -/
section
namespace Go.Proofs.YtijbaienhaiamaaGreatDoor
open Go.RowKit

/-- The cells of a node in a block of its own. -/
def BoxAt (w : World) (b : Nat) (k n : Int) (t : ByteArray) (a : Option Addr) (l c : Nat) (T : TypeId) : Prop := w.heap[b]? = some (.cells #[.int .i64 k, .int .i64 n, .string t, .slice a l c] T (0, 0))
theorem BoxAt.below {w w' : World} {b : Nat} {k n : Int} {t : ByteArray} {a : Option Addr} {l c : Nat} {T : TypeId} (h : BoxAt w b k n t a l c T) (hb : Below w.heap.size w w') : BoxAt w' b k n t a l c T :=
  (hb.block b (Array.getElem?_eq_some_iff.1 h).1).trans h
theorem BoxAt.cells {w : World} {b : Nat} {k n : Int} {t : ByteArray} {a : Option Addr} {l c : Nat} {T : TypeId} (h : BoxAt w b k n t a l c T) : w.cell? ⟨b, 0, none⟩ = some (.int .i64 k) ∧ w.cell? ⟨b, 1, none⟩ = some (.int .i64 n) ∧ w.cell? ⟨b, 2, none⟩ = some (.string t) ∧ w.cell? ⟨b, 3, none⟩ = some (.slice a l c) := by
  obtain ⟨h0, h1, h2, h3, _⟩ := four_cells h
  exact ⟨h0, h1, h2, h3⟩

/-- One value in a block of its own. -/
def OneAt (w : World) (b : Nat) (v : Value) : Prop := w.cell? ⟨b, 0, none⟩ = some v ∧ b < w.heap.size
theorem OneAt.below {w w' : World} {b : Nat} {v : Value} (h : OneAt w b v) (hb : Below w.heap.size w w') : OneAt w' b v :=
  ⟨(World.cell?_of_block (hb.block b h.2)).trans h.1, Nat.lt_of_lt_of_le h.2 hb.size⟩
theorem one_at {w : World} {b : Nat} {v : Value} {T : TypeId} {fr : Nat × Nat} (h : w.heap[b]? = some (.cells #[v] T fr)) : w.cell? ⟨b, 0, none⟩ = some v := by
  simp [World.cell?, h]
theorem OneAt.new (w : World) (v : Value) (T : TypeId) : OneAt (w.alloc (.cells #[v] T)) w.heap.size v := by
  refine ⟨?_, by simp⟩
  exact one_at (heap_at_new w (.cells #[v] T))
end Go.Proofs.YtijbaienhaiamaaGreatDoor
end

/- What is proved here: rows of nodes that grow beside a cursor. No condition. -/
section
namespace Go.Proofs.YtijbaienhaiamaaGreatDoor.Ex
open Go.RowKit

/-- Only block N, below the row, has changed. -/
theorem GrowV.grown {w w' : World} {B N : Nat} {v : Value} {F : Trees} {bs : List Nat} {xs : List Value} (h : GrowV w B v F bs xs) (hg : w.grownBy w' (some N)) (hN : N < B) : GrowV w' B v F bs xs := by
  refine ⟨⟨h.owns.1, ?_⟩, h.row.keep F xs bs (fun b hm => hg.block b (h.near b hm).2.1 (fun e => by have := (h.near b hm).1; injection e with e; omega)), h.nodup, fun b hm => ⟨(h.near b hm).1, Nat.lt_of_lt_of_le (h.near b hm).2.1 hg.size, (h.near b hm).2.2⟩⟩
  rcases h.owns.2 with h | ⟨g, cap, cur, rfl, hB, hh, h1, h2, h3, h4⟩
  · exact .inl h
  · exact .inr ⟨g, cap, cur, rfl, hB, by rw [hg.block g (Array.getElem?_eq_some_iff.1 hh).1 (fun e => by injection e with e; omega)]; exact hh, h1, h2, h3, h4⟩
/-- Behind an append of one node that was made while only block N of the old ones changed. -/
theorem GrowV.moreN {w w1 w2 w3 : World} {B N : Nat} {F ar : Trees} {bs c : List Nat} {xs : List Value} {k n : Int} {t : ByteArray} {u v : Value} {g cap : Nat}
    (h : GrowV w B v F bs xs) (hB : B ≤ w.heap.size) (h1 : w.grownBy w1 (some N)) (hN : N < B) (ho : OwnV w1 u ar c) (hnd : c.Nodup) (hc : ∀ b ∈ c, w.heap.size ≤ b ∧ b < w1.heap.size) (h2 : Below w1.heap.size w1 w2)
    (hown : w3.ownsRow B 54 4 (.slice (some ⟨g, 0, none⟩) (F.length + 1) cap) (F.length + 1) (xs ++ [.int .i64 k, .int .i64 n, .string t, u])) (hgrow : w2.grownBy w3 v.ownBlock) (hat : v.ownBlock = some g ∨ g = w2.heap.size) :
    GrowV w3 B (.slice (some ⟨g, 0, none⟩) (F.length + 1) cap) (F.snoc k n t ar) (bs ++ c) (xs ++ [.int .i64 k, .int .i64 n, .string t, u]) := by
  have h' := h.grown h1 hN
  have s1 := h1.size
  have s2 := h2.size
  have hvb : ∀ b, v.ownBlock = some b → b < w.heap.size := fun b hb => by
    rcases h.owns.2 with ⟨e, _⟩ | ⟨g', cap', cur, rfl, _, hg', _⟩
    · subst e; cases hb
    · cases hb; exact (Array.getElem?_eq_some_iff.1 hg').1
  have s3 := hgrow.size
  have kb : ∀ b ∈ bs, w3.heap[b]? = w1.heap[b]? := fun b hm => by
    have hn := h'.near b hm
    rw [hgrow.block b (by omega) (fun e => hn.2.2 e.symm), h2.block b hn.2.1]
  have kc : ∀ b ∈ c, w3.heap[b]? = w1.heap[b]? := fun b hm => by
    have hn := hc b hm
    rw [hgrow.block b (by omega) (fun e => by have := hvb b e.symm; omega), h2.block b hn.2]
  refine ⟨?_, RowV.snoc (ho.keep kc) F xs bs (h'.row.keep F xs bs kb), List.nodup_append.2 ⟨h.nodup, hnd, fun b hb1 b' hb2 e => ?_⟩, fun b hm => ?_⟩
  · rw [Trees.snoc_length]; exact hown
  · have := (h.near b hb1).2.1
    have := (hc b' hb2).1
    omega
  · rcases List.mem_append.1 hm with hm | hm
    · have hn := h'.near b hm
      refine ⟨hn.1, by omega, fun e => ?_⟩
      have e : g = b := Option.some.inj e
      subst e
      rcases hat with ha | ha
      · exact hn.2.2 ha
      · omega
    · have hn := hc b hm
      refine ⟨by omega, by omega, fun e => ?_⟩
      have e : g = b := Option.some.inj e
      subst e
      rcases hat with ha | ha
      · have := hvb g ha; omega
      · omega

/-- A drawn node comes back: small, of at most C nodes below, in memory of the call's own; the cursor's step is done. -/
def Drawn (Z : Int) (N C : Nat) (w : World) (e : Ending) (w' : World) : Prop :=
  ∃ k n t v F bs xs, e = .returned (.agg #[.int .i64 k, .int .i64 n, .string t, v]) ∧ GrowV w' w.heap.size v F bs xs ∧ F.count ≤ C ∧ F.tame ∧ (0 ≤ k ∧ k ≤ 9) ∧ (-Z ≤ n ∧ n ≤ Z) ∧ t.size ≤ 16 ∧ CurStep N w w'
theorem Drawn.more {Z : Int} {N C C' : Nat} {w : World} {e : Ending} {w' : World} (h : Drawn Z N C w e w') (hC : C ≤ C') : Drawn Z N C' w e w' := by
  obtain ⟨k, n, t, v, F, bs, xs, h1, h2, h3, h4⟩ := h
  exact ⟨k, n, t, v, F, bs, xs, h1, h2, Nat.le_trans h3 hC, h4⟩
/-- What is drawn is stored in the result's block. -/
theorem drawn_end {Z : Int} {N C B : Nat} {w W : World} {k n : Int} {t : ByteArray} {v : Value} {F : Trees} {bs : List Nat} {xs : List Value} (hN : N < w.heap.size) (hB : w.heap.size < B) (hG : GrowV W B v F bs xs) (hcn : F.count ≤ C) (htm : F.tame) (hk : 0 ≤ k ∧ k ≤ 9) (hn : -Z ≤ n ∧ n ≤ Z) (ht : t.size ≤ 16) (hc : Cur N W) (hgr : w.grownBy W (some N)) (u0 u1 u2 u3 : Value) :
    Drawn Z N C w (.returned (.agg #[.int .i64 k, .int .i64 n, .string t, v])) ((((W.setCell ⟨w.heap.size, 0, none⟩ u0).setCell ⟨w.heap.size, 1, none⟩ u1).setCell ⟨w.heap.size, 2, none⟩ u2).setCell ⟨w.heap.size, 3, none⟩ u3) := by
  have hg : ∀ (W : World) (o : Nat) (u : Value), W.grownBy (W.setCell ⟨w.heap.size, o, none⟩ u) (some w.heap.size) := fun W o u => grown_set W w.heap.size o u
  have hl : ∀ g, some w.heap.size = some g → N < g := fun g e => by injection e with e; omega
  have hj : ∀ g, some w.heap.size = some g → g = N ∨ w.heap.size ≤ g := fun g e => by injection e with e; omega
  have hG4 := (((hG.aside w.heap.size 0 u0 hB).aside w.heap.size 1 u1 hB).aside w.heap.size 2 u2 hB).aside w.heap.size 3 u3 hB
  refine ⟨k, n, t, v, F, bs, xs, rfl, ⟨⟨hG4.owns.1, hG4.owns.2.imp id ?_⟩, hG4.row, hG4.nodup, fun b hb => ⟨by have := (hG4.near b hb).1; omega, (hG4.near b hb).2⟩⟩, hcn, htm, hk, hn, ht,
    ((((hc.later (hg _ _ _) hl).later (hg _ _ _) hl).later (hg _ _ _) hl).later (hg _ _ _) hl),
    grown_join (grown_join (grown_join (grown_join hgr (hg _ _ _) hj) (hg _ _ _) hj) (hg _ _ _) hj) (hg _ _ _) hj⟩
  rintro ⟨g', cap', cur, e, hB, r⟩
  exact ⟨g', cap', cur, e, by omega, r⟩

/-- A row of the call's own, apart from block g. -/
def Aloof (g : Nat) (v : Value) (bs : List Nat) : Prop := ∀ b, (b ∈ bs ∨ v.ownBlock = some b) → b ≠ g
theorem GrowV.asideN {w : World} {B : Nat} {v : Value} {F : Trees} {bs : List Nat} {xs : List Value} (h : GrowV w B v F bs xs) {g : Nat} (ha : Aloof g v bs) (o : Nat) (u : Value) : GrowV (w.setCell ⟨g, o, none⟩ u) B v F bs xs := by
  have hk : ∀ b, b ≠ g → (w.setCell ⟨g, o, none⟩ u).heap[b]? = w.heap[b]? := fun b hb => Below.heap_setCell _ _ _ _ hb
  refine ⟨⟨h.owns.1, ?_⟩, h.row.keep F xs bs (fun b hm => hk b (ha b (.inl hm))), h.nodup, fun b hm => ⟨(h.near b hm).1, by simpa [World.setCell] using (h.near b hm).2.1, (h.near b hm).2.2⟩⟩
  rcases h.owns.2 with h | ⟨g', cap, cur, rfl, hB, hg', h1, h2, h3, h4⟩
  · exact .inl h
  · exact .inr ⟨g', cap, cur, rfl, hB, by rw [hk g' (ha g' (.inr rfl))]; exact hg', h1, h2, h3, h4⟩
theorem GrowV.apart {w : World} {B : Nat} {v : Value} {F : Trees} {bs : List Nat} {xs : List Value} (h : GrowV w B v F bs xs) {g : Nat} (hg : w.heap.size ≤ g) : Aloof g v bs := by
  intro b hb
  rcases hb with hb | hb
  · have := (h.near b hb).2.1; omega
  · rcases h.owns.2 with ⟨e, _⟩ | ⟨g', cap, cur, rfl, _, hg', _⟩
    · subst e; cases hb
    · have e : g' = b := Option.some.inj hb
      subst e
      have := (Array.getElem?_eq_some_iff.1 hg').1
      omega
/-- New rows of one node, of two nodes. -/
theorem GrowV.lit1 {w : World} {B : Nat} {k n : Int} {t : ByteArray} {v : Value} {F : Trees} {cs : List Nat} (ho : OwnV w v F cs) (hnd : cs.Nodup) (hfr : ∀ b ∈ cs, B ≤ b ∧ b < w.heap.size) (hB : B ≤ w.heap.size) :
    GrowV (w.alloc (.cells #[.int .i64 k, .int .i64 n, .string t, v] 54)) B (.slice (some ⟨w.heap.size, 0, none⟩) 1 1) (.cons k n t F .nil) cs [.int .i64 k, .int .i64 n, .string t, v] := by
  have hown := World.ownsRow_lit (base := B) (e := 54) (size := 4) w #[.int .i64 k, .int .i64 n, .string t, v] 1 hB (by unfold maxLen; omega) rfl
  have hk : ∀ b, b < w.heap.size → (w.alloc (.cells #[.int .i64 k, .int .i64 n, .string t, v] 54)).heap[b]? = w.heap[b]? := fun b hb => Below.heap_alloc _ _ _ hb
  refine ⟨hown, ⟨v, cs, [], [], rfl, by simp, ho.keep (fun b hb => hk b (hfr b hb).2), rfl, rfl⟩, hnd, fun b hb => ⟨(hfr b hb).1, by simp; have := (hfr b hb).2; omega, fun e => ?_⟩⟩
  have e : w.heap.size = b := Option.some.inj e
  have := (hfr b hb).2
  omega
theorem GrowV.lit2 {w : World} {B Y : Nat} {k n k2 n2 : Int} {t t2 : ByteArray} {v v2 : Value} {F F2 : Trees} {cs cs2 : List Nat} (ho : OwnV w v F cs) (hnd : cs.Nodup) (hfr : ∀ b ∈ cs, B ≤ b ∧ b < Y) (ho2 : OwnV w v2 F2 cs2) (hnd2 : cs2.Nodup) (hfr2 : ∀ b ∈ cs2, Y ≤ b ∧ b < w.heap.size) (hB : B ≤ Y) (hY : Y ≤ w.heap.size) :
    GrowV (w.alloc (.cells #[.int .i64 k, .int .i64 n, .string t, v, .int .i64 k2, .int .i64 n2, .string t2, v2] 54)) B (.slice (some ⟨w.heap.size, 0, none⟩) 2 2) (.cons k n t F (.cons k2 n2 t2 F2 .nil)) (cs ++ cs2) [.int .i64 k, .int .i64 n, .string t, v, .int .i64 k2, .int .i64 n2, .string t2, v2] := by
  have hown := World.ownsRow_lit (base := B) (e := 54) (size := 4) w #[.int .i64 k, .int .i64 n, .string t, v, .int .i64 k2, .int .i64 n2, .string t2, v2] 2 (by omega) (by unfold maxLen; omega) rfl
  have hk : ∀ b, b < w.heap.size → (w.alloc (.cells #[.int .i64 k, .int .i64 n, .string t, v, .int .i64 k2, .int .i64 n2, .string t2, v2] 54)).heap[b]? = w.heap[b]? := fun b hb => Below.heap_alloc _ _ _ hb
  refine ⟨hown, ⟨v, cs, cs2, _, rfl, rfl, ho.keep (fun b hb => hk b (by have := (hfr b hb).2; omega)), v2, cs2, [], [], rfl, by simp, ho2.keep (fun b hb => hk b (hfr2 b hb).2), rfl, rfl⟩, List.nodup_append.2 ⟨hnd, hnd2, fun b hb1 b' hb2 e => ?_⟩, fun b hb => ?_⟩
  · have := (hfr b hb1).2
    have := (hfr2 b' hb2).1
    omega
  · have hlt : B ≤ b ∧ b < w.heap.size := by
      rcases List.mem_append.1 hb with hb | hb
      · have := hfr b hb; omega
      · have := hfr2 b hb; omega
    refine ⟨hlt.1, by simp; omega, fun e => ?_⟩
    have e : w.heap.size = b := Option.some.inj e
    omega
/-- What lies in memory while a node is bent. -/
structure BentMem (N C : Nat) (w : World) (bv B : Nat) (k n : Int) (t : ByteArray) (v : Value) (F : Trees) (bs : List Nat) (xs : List Value) (W : World) : Prop where
  res : Go.Proofs.YtijbaienhaiamaaGreatDoor.BoxAt W w.heap.size 0 0 ⟨#[]⟩ none 0 0 54
  vbox : W.heap[bv]? = some (.cells #[.int .i64 k, .int .i64 n, .string t, v] 54 (0, 0))
  grow : GrowV W B v F bs xs
  apart : Aloof bv v bs
  cur : Cur N W
  grown : w.grownBy W (some N)
  room : w.heap.size < B ∧ B ≤ bv ∧ bv < W.heap.size
  most : F.count ≤ C
  tame : F.tame
  kb : 0 ≤ k ∧ k ≤ 9
  nb : -9223372036854775807 ≤ n ∧ n ≤ 9223372036854775807
  tb : t.size ≤ 16
theorem BentMem.step {N C : Nat} {w : World} {bv B : Nat} {k n : Int} {t : ByteArray} {v : Value} {F : Trees} {bs : List Nat} {xs : List Value} {W W' : World} (h : BentMem N C w bv B k n t v F bs xs W) (hN : N < w.heap.size) (hs : CurStep N W W') : BentMem N C w bv B k n t v F bs xs W' := by
  have hr := h.room
  exact ⟨(hs.2.block _ (by omega) (fun e => by injection e with e; omega)).trans h.res, (hs.2.block _ hr.2.2 (fun e => by injection e with e; omega)).trans h.vbox, h.grow.grown hs.2 (by omega), h.apart, hs.1, grown_join h.grown hs.2 (fun g e => by injection e with e; exact .inl e.symm), ⟨hr.1, hr.2.1, Nat.lt_of_lt_of_le hr.2.2 hs.size⟩, h.most, h.tame, h.kb, h.nb, h.tb⟩
theorem BentMem.below {N C : Nat} {w : World} {bv B : Nat} {k n : Int} {t : ByteArray} {v : Value} {F : Trees} {bs : List Nat} {xs : List Value} {W W' : World} (h : BentMem N C w bv B k n t v F bs xs W) (hN : N < w.heap.size) (hb : Below W.heap.size W W') : BentMem N C w bv B k n t v F bs xs W' :=
  h.step hN ⟨h.cur.later (grown_of_below hb) (fun g e => by cases e), grown_wide (grown_of_below hb)⟩
/-- Another field is stored in the value's block. -/
theorem BentMem.store {N C C' : Nat} {w : World} {bv B : Nat} {k n k' n' : Int} {t t' : ByteArray} {v v' : Value} {F F' : Trees} {bs bs' : List Nat} {xs xs' : List Value} {W : World} (h : BentMem N C w bv B k n t v F bs xs W) (hN : N < w.heap.size) (o : Nat) (u : Value)
    (hv : (W.setCell ⟨bv, o, none⟩ u).heap[bv]? = some (.cells #[.int .i64 k', .int .i64 n', .string t', v'] 54 (0, 0))) (hg : GrowV W B v' F' bs' xs') (ha : Aloof bv v' bs') (h1 : F'.count ≤ C') (h2 : F'.tame) (h3 : 0 ≤ k' ∧ k' ≤ 9) (h4 : -9223372036854775807 ≤ n' ∧ n' ≤ 9223372036854775807) (h5 : t'.size ≤ 16) :
    BentMem N C' w bv B k' n' t' v' F' bs' xs' (W.setCell ⟨bv, o, none⟩ u) := by
  have hr := h.room
  have hgs : W.grownBy (W.setCell ⟨bv, o, none⟩ u) (some bv) := grown_set W bv o u
  exact ⟨(Below.heap_setCell _ _ _ _ (by show w.heap.size ≠ bv; omega)).trans h.res, hv, hg.asideN ha o u, ha, h.cur.later hgs (fun g e => by injection e with e; omega), grown_join h.grown hgs (fun g e => by injection e with e; right; omega), ⟨hr.1, hr.2.1, by simpa [World.setCell] using hr.2.2⟩, h1, h2, h3, h4, h5⟩


end Go.Proofs.YtijbaienhaiamaaGreatDoor.Ex
end

/- What is proved here: l1Once of package spec. Condition: the cursor's block holds a cursor. -/
section
namespace Go.Proofs.YtijbaienhaiamaaGreatDoor
open Go.RowKit

/-- A truth value comes back, and the cursor's step is done. -/
def SomeBool (N : Nat) (w : World) (e : Ending) (w' : World) : Prop := ∃ b : Bool, e = .returned (.bool b) ∧ CurStep N w w'

set_option maxRecDepth 100000 in
theorem once_any (N : Nat) (n : Int) (h0 : 0 < n) (h1 : n ≤ 9223372036854775807) (w : World) (hc : Cur N w) : Calls Tryz.prog 47 #[.pointer (some ⟨N, 0, none⟩), .int .i64 n] w (SomeBool N w) := by
  go_enter Tryz.func47, Tryz.ntmps47
  go_wp2_with fail
  refine (below_any N n h0 h1 _ hc).mono ?_
  rintro e w1 ⟨x, x0, x1, rfl, hs⟩
  go_wp2
  go_ret
  exact ⟨_, rfl, hs⟩
end Go.Proofs.YtijbaienhaiamaaGreatDoor
end

/- What is proved here: l1Pick of package spec. Condition: the cursor's block holds a cursor. -/
section
namespace Go.Proofs.YtijbaienhaiamaaGreatDoor
open Go.RowKit

set_option maxHeartbeats 1000000 in
set_option maxRecDepth 100000 in
/-- spec.l1Pick: one of the texts of a list in a block of its own. -/
theorem pick_any (N M : Nat) (L : List ByteArray) (cap : Nat) (T : TypeId) (w : World) (hc : Cur N w) (hM : w.heap[M]? = some (.cells (L.map Value.string).toArray T (0, 0))) (hNM : M ≠ N) (hL : 0 < L.length) (hle : L.length ≤ 1000) :
    Calls Tryz.prog 99 #[.pointer (some ⟨N, 0, none⟩), .slice (some ⟨M, 0, none⟩) L.length cap] w fun e w' => ∃ s ∈ L, e = .returned (.string s) ∧ CurStep N w w' := by
  have hMlt : M < w.heap.size := by
    rcases Nat.lt_or_ge M w.heap.size with h | h
    · exact h
    · rw [Array.getElem?_eq_none h] at hM
      cases hM
  generalize hn : L.length = n at *
  have HN := Lib.hid hn
  clear hn
  go_enter Tryz.func99, Tryz.ntmps99
  go_wp2_with fail
  refine (below_any N (n : Int) (by omega) (by omega) _ hc).mono ?_
  rintro e w1 ⟨x, x0, x1, rfl, hs⟩
  obtain ⟨j, rfl⟩ : ∃ j : Nat, x = j := ⟨x.toNat, by omega⟩
  have hj : j < L.length := by rw [HN.out]; omega
  have hM1 : w1.heap[M]? = some (.cells (L.map Value.string).toArray T (0, 0)) := by rw [hs.2.block M hMlt (fun e => hNM (by injection e))]; exact hM
  have hcell : w1.cell? ⟨M, j, none⟩ = some (.string L[j]) := by
    have := cells_at hM1 j (by simpa using hj)
    simpa using this
  have hmem : L[j] ∈ L := List.getElem_mem hj
  have HM := Lib.hid hM
  have HM1 := Lib.hid hM1
  have HS := Lib.hid hs
  clear hM hM1 hs
  generalize L[j] = s at hcell hmem
  have HE := Lib.hid hmem
  clear hmem
  go_wp2
  go_ret
  exact ⟨s, HE.out, rfl, HS.out⟩
end Go.Proofs.YtijbaienhaiamaaGreatDoor
end

/- What is proved here: l1PickInt of package spec. Condition: the cursor's block holds a cursor. -/
section
namespace Go.Proofs.YtijbaienhaiamaaGreatDoor
open Go.RowKit

set_option maxHeartbeats 1000000 in
set_option maxRecDepth 100000 in
/-- spec.l1PickInt: one of the integers of a list in a block of its own. -/
theorem pick_int (N M : Nat) (L : List Int) (cap : Nat) (T : TypeId) (w : World) (hc : Cur N w) (hM : w.heap[M]? = some (.cells (L.map (Value.int .i64)).toArray T (0, 0))) (hNM : M ≠ N) (hL : 0 < L.length) (hle : L.length ≤ 1000) :
    Calls Tryz.prog 101 #[.pointer (some ⟨N, 0, none⟩), .slice (some ⟨M, 0, none⟩) L.length cap] w fun e w' => ∃ x ∈ L, e = .returned (.int .i64 x) ∧ CurStep N w w' := by
  have hMlt : M < w.heap.size := by
    rcases Nat.lt_or_ge M w.heap.size with h | h
    · exact h
    · rw [Array.getElem?_eq_none h] at hM
      cases hM
  generalize hn : L.length = n at *
  have HN := Lib.hid hn
  clear hn
  go_enter Tryz.func101, Tryz.ntmps101
  go_wp2_with fail
  refine (below_any N (n : Int) (by omega) (by omega) _ hc).mono ?_
  rintro e w1 ⟨x, x0, x1, rfl, hs⟩
  obtain ⟨j, rfl⟩ : ∃ j : Nat, x = j := ⟨x.toNat, by omega⟩
  have hj : j < L.length := by rw [HN.out]; omega
  have hM1 : w1.heap[M]? = some (.cells (L.map (Value.int .i64)).toArray T (0, 0)) := by rw [hs.2.block M hMlt (fun e => hNM (by injection e))]; exact hM
  have hcell : w1.cell? ⟨M, j, none⟩ = some (.int .i64 L[j]) := by
    have := cells_at hM1 j (by simpa using hj)
    simpa using this
  have hmem : L[j] ∈ L := List.getElem_mem hj
  have HM := Lib.hid hM
  have HM1 := Lib.hid hM1
  have HS := Lib.hid hs
  clear hM hM1 hs
  generalize L[j] = s at hcell hmem
  have HE := Lib.hid hmem
  clear hmem
  go_wp2
  go_ret
  exact ⟨s, HE.out, rfl, HS.out⟩
end Go.Proofs.YtijbaienhaiamaaGreatDoor
end
