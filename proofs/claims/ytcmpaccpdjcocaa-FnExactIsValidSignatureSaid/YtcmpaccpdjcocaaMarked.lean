/- What is proved here: marks on the parts of a signature in memory of the call's own: what a marked list is; that marking one part leaves the others alone. No condition. -/
import Derived.Test.YtcmpaccpdjcocaaSigOwn
namespace Go.Proofs.Ytcmpaccpdjcocaa
open Go.RowKit

/-- Only the blocks F (and new ones) have changed. -/
structure Only (F : Nat → Prop) (w w' : World) : Prop where
  os : w'.os = w.os
  tape : w'.tape = w.tape
  output : w'.output = w.output
  size : w.heap.size ≤ w'.heap.size
  block : ∀ b, b < w.heap.size → ¬ F b → w'.heap[b]? = w.heap[b]?
theorem Only.refl (F : Nat → Prop) (w : World) : Only F w w := ⟨rfl, rfl, rfl, Nat.le_refl _, fun _ _ _ => rfl⟩
theorem Only.trans {F : Nat → Prop} {a b c : World} (h : Only F a b) (k : Only F b c) : Only F a c :=
  ⟨k.os.trans h.os, k.tape.trans h.tape, k.output.trans h.output, Nat.le_trans h.size k.size, fun i hi hn => (k.block i (Nat.lt_of_lt_of_le hi h.size) hn).trans (h.block i hi hn)⟩
theorem Only.wider {F F' : Nat → Prop} {w w' : World} (h : Only F w w') (hF : ∀ b, F b → F' b) : Only F' w w' := ⟨h.os, h.tape, h.output, h.size, fun b hb hn => h.block b hb (fun e => hn (hF b e))⟩
theorem Only.of_below {F : Nat → Prop} {w w' : World} (h : Below w.heap.size w w') : Only F w w' := ⟨h.os, h.tape, h.output, h.size, fun b hb _ => h.block b hb⟩
theorem Only.of_grown {w w' : World} {g : Nat} (h : w.grownBy w' (some g)) : Only (fun b => b = g) w w' := ⟨h.os, h.tape, h.output, h.size, fun b hb hn => h.block b hb (fun e => hn (Option.some.inj e))⟩
theorem Only.setCell {F : Nat → Prop} {w : World} {p : Addr} (hp : F p.block) (v : Value) : Only F w (w.setCell p v) := ⟨rfl, rfl, rfl, by simp [World.setCell], fun b _ hn => Below.heap_setCell _ _ _ _ (fun e => hn (e ▸ hp))⟩
theorem Only.below {F : Nat → Prop} {B : Nat} {w w' : World} (h : Only F w w') (hF : ∀ b, F b → B ≤ b) (hB : B ≤ w.heap.size) : Below B w w' := ⟨h.os, h.tape, h.output, h.size, fun b hb => h.block b (by omega) (fun e => by have := hF b e; omega)⟩

/-- A list whose elements are marked one after another, from k on; each takes as many marks as cnt says. -/
def markedList {α : Type} (mk : Nat → α → α) (cnt : α → Nat) : Nat → List α → List α
  | _, [] => []
  | k, x :: r => mk k x :: markedList mk cnt (k + cnt x) r
theorem markedList_length {α : Type} (mk : Nat → α → α) (cnt : α → Nat) (l : List α) : ∀ k, (markedList mk cnt k l).length = l.length := by
  induction l with
  | nil => intro k; rfl
  | cons x r ih => intro k; simp [markedList, ih]
theorem markedList_at {α : Type} (mk : Nat → α → α) (cnt : α → Nat) (l : List α) : ∀ (k j : Nat) (x : α), l[j]? = some x → (markedList mk cnt k l)[j]? = some (mk (k + sumBy cnt (l.take j)) x) := by
  induction l with
  | nil => intro k j x h; simp at h
  | cons y r ih =>
    intro k j x h
    cases j with
    | zero => simp at h; subst h; simp [markedList, sumBy]
    | succ j =>
      have := ih (k + cnt y) j x (by simpa using h)
      simp only [markedList, List.getElem?_cons_succ, this, List.take_succ_cons]
      have e : sumBy cnt (y :: r.take j) = cnt y + sumBy cnt (r.take j) := by simp [sumBy]
      rw [e, Nat.add_assoc]
/-- The first j elements are marked. -/
def mixed {α : Type} (mk : Nat → α → α) (cnt : α → Nat) (k : Nat) (l : List α) (j : Nat) : List α := (markedList mk cnt k l).take j ++ l.drop j
theorem mixed_zero {α : Type} (mk : Nat → α → α) (cnt : α → Nat) (k : Nat) (l : List α) : mixed mk cnt k l 0 = l := by simp [mixed]
theorem mixed_all {α : Type} (mk : Nat → α → α) (cnt : α → Nat) (k : Nat) (l : List α) : mixed mk cnt k l l.length = markedList mk cnt k l := by
  unfold mixed
  rw [List.take_of_length_le (by rw [markedList_length]; exact Nat.le_refl _), List.drop_length, List.append_nil]
theorem mixed_length {α : Type} (mk : Nat → α → α) (cnt : α → Nat) (k : Nat) (l : List α) (j : Nat) (h : j ≤ l.length) : (mixed mk cnt k l j).length = l.length := by
  unfold mixed
  rw [List.length_append, List.length_take, List.length_drop, markedList_length]
  omega
theorem mixed_at {α : Type} (mk : Nat → α → α) (cnt : α → Nat) (k : Nat) (l : List α) (j : Nat) (h : j ≤ l.length) : (mixed mk cnt k l j)[j]? = l[j]? := by
  unfold mixed
  have e : ((markedList mk cnt k l).take j).length = j := by rw [List.length_take, markedList_length]; omega
  rw [List.getElem?_append_right (by omega), e, Nat.sub_self, List.getElem?_drop, Nat.add_zero]
theorem mixed_set {α : Type} (mk : Nat → α → α) (cnt : α → Nat) (k : Nat) (l : List α) (j : Nat) (x : α) (h : l[j]? = some x) : (mixed mk cnt k l j).set j (mk (k + sumBy cnt (l.take j)) x) = mixed mk cnt k l (j + 1) := by
  obtain ⟨hj, hx⟩ := List.getElem?_eq_some_iff.1 h
  have hm := markedList_at mk cnt l k j x h
  obtain ⟨hj2, hx2⟩ := List.getElem?_eq_some_iff.1 hm
  unfold mixed
  have e : ((markedList mk cnt k l).take j).length = j := by rw [List.length_take, markedList_length]; omega
  rw [List.set_append_right j _ (by omega), e, Nat.sub_self, List.drop_eq_getElem_cons hj, List.set_cons_zero, List.take_succ_eq_append_getElem hj2, hx2, List.append_assoc]
  rfl

/-- Block g holds a row whose parts are the list l, each in blocks of its own (G). -/
def RowOf {α : Type} (T : TypeId) (E : (Nat → Prop) → World → α → Value → Value → Prop) (F : Nat → Prop) (g : Nat) (G : Nat → Nat → Prop) (w : World) (l : List α) : Prop :=
  ∃ (ps : List (Value × Value)) (rest : List Value), ps.length = l.length ∧ Pairs T w g ps rest ∧ Parts E w F g G l ps l.length
theorem flat_set1 (ps : List (Value × Value)) (rest : List Value) (j : Nat) (u : Value) (p : Value × Value) (h : ps[j]? = some p) : (flat ps ++ rest).set (j * 2) u = flat (ps.set j (u, p.2)) ++ rest := by
  induction ps generalizing j with
  | nil => simp at h
  | cons q r ih =>
    have e : flat (q :: r) ++ rest = q.1 :: q.2 :: (flat r ++ rest) := by simp [flat]
    cases j with
    | zero => simp at h; subst h; simp [flat]
    | succ j =>
      rw [e, show (j + 1) * 2 = j * 2 + 1 + 1 by omega]
      simp only [List.set_cons_succ]
      rw [ih j (by simpa using h)]
      simp [flat]
/-- One part: its cells, and the row when its name and its own blocks have changed. -/
theorem RowOf.part {α : Type} {T : TypeId} {E : (Nat → Prop) → World → α → Value → Value → Prop} (hK : Keeps E) {F : Nat → Prop} {g : Nat} {G : Nat → Nat → Prop} {w : World} {l : List α} (h : RowOf T E F g G w l) (hF : ∀ b, F b → b < w.heap.size) {j : Nat} {x : α} (hj : l[j]? = some x) :
    ∃ u v, w.cell? ⟨g, j * 2, none⟩ = some u ∧ w.cell? ⟨g, j * 2 + 1, none⟩ = some v ∧ w.frozen? ⟨g, j * 2, none⟩ = false ∧ E (G j) w x u v ∧ (∀ b, G j b → F b ∧ b ≠ g) ∧ g < w.heap.size ∧
      ∀ w1 w2 m x', Below w.heap.size w w1 → Only (G j) (w1.setCell ⟨g, j * 2, none⟩ m) w2 → E (G j) w2 x' m v → RowOf T E F g G w2 (l.set j x') := by
  obtain ⟨ps, rest, hl, hp, h1, h2, h3⟩ := h
  obtain ⟨hjl, _⟩ := List.getElem?_eq_some_iff.1 hj
  obtain ⟨c1, c2, c3, _⟩ := hp.cells j (by omega)
  have hpj : ps[j]? = some ps[j] := List.getElem?_eq_getElem (by omega)
  refine ⟨_, _, c1, c2, c3, h3 j x _ hjl hj hpj, h1 j hjl, hp.lt, ?_⟩
  intro w1 w2 m x' hb ho hE
  have hgl := hp.lt
  have hs := hb.size
  have hsz : (w1.setCell ⟨g, j * 2, none⟩ m).heap.size = w1.heap.size := by simp [World.setCell]
  have hall : ∀ b, b < w.heap.size → ¬ G j b → b ≠ g → w2.heap[b]? = w.heap[b]? := fun b hl hn hne => by
    rw [ho.block b (by omega) hn, Below.heap_setCell _ _ _ _ hne, hb.block b hl]
  refine ⟨ps.set j (m, ps[j].2), rest, by simp [hl], ?_, ?_, ?_, ?_⟩
  · have hng : ¬ G j g := fun e => (h1 j hjl g e).2 rfl
    unfold Pairs at hp ⊢
    rw [ho.block g (by omega) hng, ← flat_set1 ps rest j m ps[j] hpj]
    rw [← hb.block g hgl] at hp
    simp [World.setCell, Array.getElem?_modify, hp]
  · intro i hi b hb'
    exact h1 i (by simpa using hi) b hb'
  · intro i k hik hk b hb1 hb2
    exact h2 i k hik (by simpa using hk) b hb1 hb2
  · intro i y p hi hy hpi
    rw [List.length_set] at hi
    by_cases e : i = j
    · subst e
      rw [List.getElem?_set_self hjl] at hy
      rw [List.getElem?_set_self (by omega)] at hpi
      obtain rfl := Option.some.inj hy
      obtain rfl := Option.some.inj hpi
      exact hE
    · rw [List.getElem?_set_ne (fun h => e h.symm)] at hy hpi
      refine hK _ _ _ _ _ _ (h3 i y p hi hy hpi) (fun b hb' => ?_)
      obtain ⟨f1, f2⟩ := h1 i hi b hb'
      refine hall b (hF b f1) (fun e2 => ?_) f2
      rcases Nat.lt_or_gt_of_ne e with h | h
      · exact h2 i j h hjl b hb' e2
      · exact h2 j i h hi b e2 hb'
end Go.Proofs.Ytcmpaccpdjcocaa
