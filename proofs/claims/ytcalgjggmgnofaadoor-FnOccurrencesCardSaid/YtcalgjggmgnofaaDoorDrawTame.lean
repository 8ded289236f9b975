/- What is proved here: small rows of nodes, and rows that grow beside a cursor. No condition. -/
import Derived.Test.YtcalgjggmgnofaaDoorTreeGrow
import Derived.Test.YtcalgjggmgnofaaDoorCursor
namespace Go.Proofs.YtcalgjggmgnofaaDoor
open Go.RowKit

/-- Small numbers and small texts. -/
def Trees.tame : Trees → Prop
  | .nil => True
  | .cons k n t ar r => (0 ≤ k ∧ k ≤ 9) ∧ (-1000000000000 ≤ n ∧ n ≤ 1000000000000) ∧ t.size ≤ 16 ∧ ar.tame ∧ r.tame
theorem Trees.tame_snoc {k n : Int} {t : ByteArray} {ar : Trees} (hk : 0 ≤ k ∧ k ≤ 9) (hn : -1000000000000 ≤ n ∧ n ≤ 1000000000000) (ht : t.size ≤ 16) (ha : ar.tame) : ∀ F : Trees, F.tame → (F.snoc k n t ar).tame := by
  intro F
  induction F with
  | nil => intro _; exact ⟨hk, hn, ht, ha, trivial⟩
  | cons k2 n2 t2 ar2 r _ ih => rintro ⟨h1, h2, h3, h4, h5⟩; exact ⟨h1, h2, h3, h4, ih h5⟩
theorem Trees.snoc_count (F : Trees) (k n : Int) (t : ByteArray) (ar : Trees) : (F.snoc k n t ar).count = F.count + (1 + ar.count) := by
  induction F with
  | nil => simp [Trees.snoc, Trees.append, Trees.count]
  | cons k2 n2 t2 ar2 r _ ih =>
    have e : (Trees.cons k2 n2 t2 ar2 r).snoc k n t ar = .cons k2 n2 t2 ar2 (r.snoc k n t ar) := rfl
    rw [e]
    simp only [Trees.count, ih]
    omega
theorem Trees.tame_fits (F : Trees) (h : F.tame) (hc : F.count ≤ maxLen) : F.fits := by
  induction F with
  | nil => trivial
  | cons k n t ar r ih1 ih2 =>
    obtain ⟨h1, h2, h3, h4, h5⟩ := h
    simp only [Trees.count] at hc
    have hl := ar.length_le_count
    have hm : (16 : Nat) ≤ maxLen := by decide
    exact ⟨by omega, by omega, by omega, by omega, ih1 h4 (by omega), ih2 h5 (by omega)⟩
theorem Trees.tame_size (F : Trees) (h : F.tame) : F.size ≤ 17 * F.count := by
  induction F with
  | nil => simp [Trees.size]
  | cons k n t ar r ih1 ih2 =>
    obtain ⟨_, _, h3, h4, h5⟩ := h
    have := ih1 h4
    have := ih2 h5
    simp only [Trees.size, Trees.count]
    omega

/-- Only block N, below the row, has changed. -/
theorem GrowV.grown {w w' : World} {B N : Nat} {v : Value} {F : Trees} {bs : List Nat} {xs : List Value} (h : GrowV w B v F bs xs) (hg : w.grownBy w' (some N)) (hN : N < B) : GrowV w' B v F bs xs := by
  refine ⟨⟨h.owns.1, ?_⟩, h.row.keep F xs bs (fun b hm => hg.block b (h.near b hm).2.1 (fun e => by have := (h.near b hm).1; injection e with e; omega)), h.nodup, fun b hm => ⟨(h.near b hm).1, Nat.lt_of_lt_of_le (h.near b hm).2.1 hg.size, (h.near b hm).2.2⟩⟩
  rcases h.owns.2 with h | ⟨g, cap, cur, rfl, hB, hh, h1, h2, h3, h4⟩
  · exact .inl h
  · exact .inr ⟨g, cap, cur, rfl, hB, by rw [hg.block g (Array.getElem?_eq_some_iff.1 hh).1 (fun e => by injection e with e; omega)]; exact hh, h1, h2, h3, h4⟩
/-- Behind an append of one node that was made while only block N of the old ones changed. -/
theorem GrowV.moreN {w w1 w2 w3 : World} {B N : Nat} {F ar : Trees} {bs c : List Nat} {xs : List Value} {k n : Int} {t : ByteArray} {u v : Value} {g cap : Nat}
    (h : GrowV w B v F bs xs) (hB : B ≤ w.heap.size) (h1 : w.grownBy w1 (some N)) (hN : N < B) (ho : OwnV w1 u ar c) (hnd : c.Nodup) (hc : ∀ b ∈ c, w.heap.size ≤ b ∧ b < w1.heap.size) (h2 : Below w1.heap.size w1 w2)
    (hown : w3.ownsRow B 26 4 (.slice (some ⟨g, 0, none⟩) (F.length + 1) cap) (F.length + 1) (xs ++ [.int .i64 k, .int .i64 n, .string t, u])) (hgrow : w2.grownBy w3 v.ownBlock) (hat : v.ownBlock = some g ∨ g = w2.heap.size) :
    GrowV w3 B (.slice (some ⟨g, 0, none⟩) (F.length + 1) cap) (F.snoc k n t ar) (bs ++ c) (xs ++ [.int .i64 k, .int .i64 n, .string t, u]) := by
  have h' := h.grown h1 hN
  have s1 := h1.size
  have s2 := h2.size
  have hvb : ∀ b, v.ownBlock = some b → b < w.heap.size := fun b hb => by
    rcases h.owns.2 with ⟨e, _⟩ | ⟨g', cap', cur, rfl, _, hg', _⟩
    · subst e; cases hb
    · cases hb; exact (Array.getElem?_eq_some_iff.1 hg').1
  have s3 := hgrow.size
  have kb : ∀ b ∈ bs, w3.heap[b]? = w1.heap[b]? := fun b hm => by
    have hn := h'.near b hm
    rw [hgrow.block b (by omega) (fun e => hn.2.2 e.symm), h2.block b hn.2.1]
  have kc : ∀ b ∈ c, w3.heap[b]? = w1.heap[b]? := fun b hm => by
    have hn := hc b hm
    rw [hgrow.block b (by omega) (fun e => by have := hvb b e.symm; omega), h2.block b hn.2]
  refine ⟨?_, RowV.snoc (ho.keep kc) F xs bs (h'.row.keep F xs bs kb), List.nodup_append.2 ⟨h.nodup, hnd, fun b hb1 b' hb2 e => ?_⟩, fun b hm => ?_⟩
  · rw [Trees.snoc_length]; exact hown
  · have := (h.near b hb1).2.1
    have := (hc b' hb2).1
    omega
  · rcases List.mem_append.1 hm with hm | hm
    · have hn := h'.near b hm
      refine ⟨hn.1, by omega, fun e => ?_⟩
      have e : g = b := Option.some.inj e
      subst e
      rcases hat with ha | ha
      · exact hn.2.2 ha
      · omega
    · have hn := hc b hm
      refine ⟨by omega, by omega, fun e => ?_⟩
      have e : g = b := Option.some.inj e
      subst e
      rcases hat with ha | ha
      · have := hvb g ha; omega
      · omega

/-- The cursor where only a later block was written. -/
theorem Cur.later {N : Nat} {w w' : World} {row : Option Nat} (h : Cur N w) (hg : w.grownBy w' row) (hN : ∀ g, row = some g → N < g) : Cur N w' := by
  cases row with
  | none => exact h.stays hg
  | some g =>
    have hg' := hN g rfl
    have hlt := h.lt
    obtain ⟨a, len, cap, zs, i, h', hc⟩ := h
    exact ⟨a, len, cap, zs, i, h', ⟨by rw [hg.block N hlt (fun e => by injection e with e; omega)]; exact hc.block,
      row_stays hc.row hg (fun x hx h0 => by have := hc.far x hx h0; intro e; injection e with e; omega), hc.at_le, hc.far, hc.lo, hc.hi⟩⟩
theorem grown_of_below {w w1 : World} (h : Below w.heap.size w w1) : w.grownBy w1 none := ⟨h.os, h.tape, h.output, h.size, fun b hb _ => h.block b hb⟩
/-- Two steps, the second one writes a block that came with the first one, or N. -/
theorem grown_join {w w1 w2 : World} {N : Nat} {row : Option Nat} (h : w.grownBy w1 (some N)) (k : w1.grownBy w2 row) (hr : ∀ g, row = some g → g = N ∨ w.heap.size ≤ g) : w.grownBy w2 (some N) :=
  ⟨k.os.trans h.os, k.tape.trans h.tape, k.output.trans h.output, Nat.le_trans h.size k.size, fun b hb hne => by
    rw [k.block b (Nat.lt_of_lt_of_le hb h.size) (fun e => by
      rcases hr b e.symm with h1 | h1
      · exact hne (by rw [h1])
      · omega), h.block b hb hne]⟩
theorem grown_wide {w w1 : World} {N : Nat} (h : w.grownBy w1 none) : w.grownBy w1 (some N) := ⟨h.os, h.tape, h.output, h.size, fun b hb _ => h.block b hb (by simp)⟩

/-- A drawn value comes back: small, of at most C nodes below, in memory of the call's own; the cursor's step is done. -/
def Drawn (N C : Nat) (w : World) (e : Ending) (w' : World) : Prop :=
  ∃ k n t v F bs xs, e = .returned (.agg #[.int .i64 k, .int .i64 n, .string t, v]) ∧ GrowV w' w.heap.size v F bs xs ∧ F.count ≤ C ∧ F.tame ∧ (0 ≤ k ∧ k ≤ 9) ∧ (-1000000000000 ≤ n ∧ n ≤ 1000000000000) ∧ t.size ≤ 16 ∧ CurStep N w w'
end Go.Proofs.YtcalgjggmgnofaaDoor
