/- What is proved here: a piece of the proof of YtlbmohdebbapgaaGreatExactIsValueOf (SigOwn, Find, Bl, ValidText, HasType, TreeCells). Condition: none beyond what each part says. -/
import Derived.Test.YtlbmohdebbapgaaGreatIvA01
import Derived.Laws.Rows

/- What is proved here: a signature in memory of the call's own (which blocks it lies in, that no two parts share one), read and kept. No condition. -/
section
namespace Go.Proofs.YtlbmohdebbapgaaGreat
open Go.RowKit

/-- w' holds in the blocks F what w holds there. -/
def Agree (F : Nat → Prop) (w w' : World) : Prop := ∀ b, F b → w'.heap[b]? = w.heap[b]?
/-- The cells of a row of pairs. -/
def flat (ps : List (Value × Value)) : List Value := ps.flatMap fun p => [p.1, p.2]
theorem flat_length (ps : List (Value × Value)) : (flat ps).length = 2 * ps.length := by
  induction ps with
  | nil => rfl
  | cons p r ih => simp [flat] at ih ⊢; omega
theorem flat_at (ps : List (Value × Value)) (rest : List Value) (j : Nat) (p : Value × Value) (h : ps[j]? = some p) : (flat ps ++ rest)[j * 2]? = some p.1 ∧ (flat ps ++ rest)[j * 2 + 1]? = some p.2 := by
  induction ps generalizing j with
  | nil => simp at h
  | cons q r ih =>
    cases j with
    | zero => simp at h; subst h; simp [flat]
    | succ j =>
      have := ih j (by simpa using h)
      have e : flat (q :: r) ++ rest = q.1 :: q.2 :: (flat r ++ rest) := by simp [flat]
      rw [e, show (j + 1) * 2 = j * 2 + 1 + 1 by omega]
      simpa using this
theorem flat_set (ps : List (Value × Value)) (rest : List Value) (j : Nat) (u v : Value) (h : j < ps.length) : ((flat ps ++ rest).set (j * 2) u).set (j * 2 + 1) v = flat (ps.set j (u, v)) ++ rest := by
  induction ps generalizing j with
  | nil => simp at h
  | cons q r ih =>
    have e : flat (q :: r) ++ rest = q.1 :: q.2 :: (flat r ++ rest) := by simp [flat]
    cases j with
    | zero => simp [flat]
    | succ j =>
      rw [e, show (j + 1) * 2 = j * 2 + 1 + 1 by omega]
      simp only [List.set_cons_succ]
      rw [ih j (by simpa using h)]
      simp [flat]

/-- A slice of texts in a block of F. -/
def OwnS (F : Nat → Prop) (w : World) (v : Value) (xs : List ByteArray) : Prop := ∃ a cap, v = .slice a xs.length cap ∧ (xs = [] ∨ ∃ g rest, a = some ⟨g, 0, none⟩ ∧ F g ∧ Block w g xs rest)
/-- Block g holds the pairs ps, then rest. -/
def Pairs (T : TypeId) (w : World) (g : Nat) (ps : List (Value × Value)) (rest : List Value) : Prop := w.heap[g]? = some (.cells (flat ps ++ rest).toArray T (0, 0))
/-- The parts of a row, k of them: each in blocks of its own; neither in g nor in another's. -/
def Parts {α : Type} (E : (Nat → Prop) → World → α → Value → Value → Prop) (w : World) (F : Nat → Prop) (g : Nat) (G : Nat → Nat → Prop) (l : List α) (ps : List (Value × Value)) (k : Nat) : Prop :=
  (∀ j, j < k → ∀ b, G j b → F b ∧ b ≠ g) ∧ (∀ i j, i < j → j < k → ∀ b, G i b → ¬ G j b) ∧ ∀ j x p, j < k → l[j]? = some x → ps[j]? = some p → E (G j) w x p.1 p.2
/-- A slice of pairs in a block of F, its parts in others of F. -/
def Own2 {α : Type} (T : TypeId) (E : (Nat → Prop) → World → α → Value → Value → Prop) (F : Nat → Prop) (w : World) (v : Value) (l : List α) : Prop :=
  ∃ a cap, v = .slice a l.length cap ∧ (l = [] ∨ ∃ g ps rest G, a = some ⟨g, 0, none⟩ ∧ F g ∧ ps.length = l.length ∧ Pairs T w g ps rest ∧ Parts E w F g G l ps l.length)
def OwnCon (F : Nat → Prop) (w : World) (c : ConD) (u v : Value) : Prop := u = .string c.name ∧ OwnS F w v c.args
def OwnType (F : Nat → Prop) (w : World) (t : TypeD) (u v : Value) : Prop := u = .string t.name ∧ Own2 73 OwnCon F w v t.cons
abbrev OwnSig (F : Nat → Prop) (w : World) (v : Value) (s : List TypeD) : Prop := Own2 71 OwnType F w v s

/-- Kept where the blocks of F are; and within more blocks. -/
def Keeps {α : Type} (E : (Nat → Prop) → World → α → Value → Value → Prop) : Prop := ∀ F w w' x u v, E F w x u v → Agree F w w' → E F w' x u v
def Wider {α : Type} (E : (Nat → Prop) → World → α → Value → Value → Prop) : Prop := ∀ F F' w x u v, E F w x u v → (∀ b, F b → F' b) → E F' w x u v

theorem OwnS.keep {F : Nat → Prop} {w w' : World} {v : Value} {xs : List ByteArray} (h : OwnS F w v xs) (ha : Agree F w w') : OwnS F w' v xs := by
  obtain ⟨a, cap, hv, h | ⟨g, rest, h1, h2, h3⟩⟩ := h
  · exact ⟨a, cap, hv, .inl h⟩
  · refine ⟨a, cap, hv, .inr ⟨g, rest, h1, h2, ?_⟩⟩
    unfold Block
    rw [ha g h2]
    exact h3
theorem Parts.keep {α : Type} {E : (Nat → Prop) → World → α → Value → Value → Prop} (hE : Keeps E) {w w' : World} {F : Nat → Prop} {g : Nat} {G : Nat → Nat → Prop} {l : List α} {ps : List (Value × Value)} {k : Nat} (h : Parts E w F g G l ps k) (ha : Agree (fun b => F b ∧ b ≠ g) w w') : Parts E w' F g G l ps k :=
  ⟨h.1, h.2.1, fun j x p hj hx hp => hE _ _ _ _ _ _ (h.2.2 j x p hj hx hp) (fun b hb => ha b (h.1 j hj b hb))⟩
theorem Own2.keep {α : Type} {T : TypeId} {E : (Nat → Prop) → World → α → Value → Value → Prop} (hE : Keeps E) {F : Nat → Prop} {w w' : World} {v : Value} {l : List α} (h : Own2 T E F w v l) (ha : Agree F w w') : Own2 T E F w' v l := by
  obtain ⟨a, cap, hv, h | ⟨g, ps, rest, G, h1, h2, h3, h4, h5⟩⟩ := h
  · exact ⟨a, cap, hv, .inl h⟩
  · refine ⟨a, cap, hv, .inr ⟨g, ps, rest, G, h1, h2, h3, ?_, h5.keep hE (fun b hb => ha b hb.1)⟩⟩
    unfold Pairs
    rw [ha g h2]
    exact h4
theorem keeps_con : Keeps OwnCon := fun _ _ _ _ _ _ h ha => ⟨h.1, h.2.keep ha⟩
theorem keeps_type : Keeps OwnType := fun _ _ _ _ _ _ h ha => ⟨h.1, h.2.keep keeps_con ha⟩
theorem OwnS.wider {F F' : Nat → Prop} {w : World} {v : Value} {xs : List ByteArray} (h : OwnS F w v xs) (hF : ∀ b, F b → F' b) : OwnS F' w v xs := by
  obtain ⟨a, cap, hv, h | ⟨g, rest, h1, h2, h3⟩⟩ := h
  · exact ⟨a, cap, hv, .inl h⟩
  · exact ⟨a, cap, hv, .inr ⟨g, rest, h1, hF g h2, h3⟩⟩
theorem Own2.wider {α : Type} {T : TypeId} {E : (Nat → Prop) → World → α → Value → Value → Prop} {F F' : Nat → Prop} {w : World} {v : Value} {l : List α} (h : Own2 T E F w v l) (hF : ∀ b, F b → F' b) : Own2 T E F' w v l := by
  obtain ⟨a, cap, hv, h | ⟨g, ps, rest, G, h1, h2, h3, h4, h5, h6⟩⟩ := h
  · exact ⟨a, cap, hv, .inl h⟩
  · exact ⟨a, cap, hv, .inr ⟨g, ps, rest, G, h1, hF g h2, h3, h4, fun j hj b hb => ⟨hF b (h5 j hj b hb).1, (h5 j hj b hb).2⟩, h6⟩⟩
theorem wider_con : Wider OwnCon := fun _ _ _ _ _ _ h hF => ⟨h.1, h.2.wider hF⟩
theorem wider_type : Wider OwnType := fun _ _ _ _ _ _ h hF => ⟨h.1, h.2.wider hF⟩

/-- What is owned reads. -/
theorem OwnS.reads {F : Nat → Prop} {w : World} {v : Value} {xs : List ByteArray} (h : OwnS F w v xs) : ∃ a cap, v = .slice a xs.length cap ∧ Reads w a xs := by
  obtain ⟨a, cap, hv, rfl | ⟨g, rest, rfl, h2, h3⟩⟩ := h
  · exact ⟨a, cap, hv, fun j hj => absurd hj (by simp)⟩
  · exact ⟨_, cap, hv, h3.reads⟩
theorem Own2.reads {α : Type} {T : TypeId} {E : (Nat → Prop) → World → α → Value → Value → Prop} {R : World → α → Value → Value → Prop} (hE : ∀ F w x u v, E F w x u v → R w x u v) {F : Nat → Prop} {w : World} {v : Value} {l : List α} (h : Own2 T E F w v l) : ∃ a cap, v = .slice a l.length cap ∧ Row2 R w a l := by
  obtain ⟨a, cap, hv, rfl | ⟨g, ps, rest, G, rfl, h2, h3, h4, h5⟩⟩ := h
  · exact ⟨a, cap, hv, fun j hj => absurd hj (by simp)⟩
  · refine ⟨_, cap, hv, fun j hj => ?_⟩
    obtain ⟨p, hp⟩ : ∃ p, ps[j]? = some p := ⟨ps[j]'(by omega), List.getElem?_eq_getElem (by omega)⟩
    have hr := hE _ _ _ _ _ (h5.2.2 j l[j] p hj (List.getElem?_eq_getElem hj) hp)
    have hf := flat_at ps rest j p hp
    have e : (⟨g, 0, none⟩ : Addr).add (j * 2) = ⟨g, j * 2, none⟩ := by simp [Addr.add]; intro h; omega
    refine ⟨_, p.1, p.2, rfl, ?_, ?_, hr⟩
    · rw [e]
      unfold Pairs at h4
      simp [World.cell?, h4, hf.1]
    · rw [e]
      unfold Pairs at h4
      simp [World.cell?, h4, hf.2]
theorem OwnCon.reads (F : Nat → Prop) (w : World) (c : ConD) (u v : Value) (h : OwnCon F w c u v) : ConAt w c u v := by
  obtain ⟨hu, h⟩ := h
  obtain ⟨a, cap, hv, hr⟩ := h.reads
  exact ⟨a, cap, hu, hv, hr⟩
theorem OwnType.reads (F : Nat → Prop) (w : World) (t : TypeD) (u v : Value) (h : OwnType F w t u v) : TypeAt w t u v := by
  obtain ⟨hu, h⟩ := h
  obtain ⟨a, cap, hv, hr⟩ := h.reads OwnCon.reads
  exact ⟨a, cap, hu, hv, hr⟩
theorem OwnSig.reads {F : Nat → Prop} {w : World} {v : Value} {s : List TypeD} (h : OwnSig F w v s) : ∃ a cap, v = .slice a s.length cap ∧ Row2 TypeAt w a s := Own2.reads OwnType.reads h

/-- The blocks that came between two worlds. -/
def Came (w w' : World) (b : Nat) : Prop := w.heap.size ≤ b ∧ b < w'.heap.size

/-- A row that is being filled: k of its parts are there, in blocks that came since w; the row itself is block g. -/
def Filling {α : Type} (T : TypeId) (E : (Nat → Prop) → World → α → Value → Value → Prop) (w : World) (g : Nat) (l : List α) (k : Nat) (w' : World) : Prop :=
  ∃ ps G, ps.length = l.length ∧ Pairs T w' g ps [] ∧ Parts E w' (Came w w') g G l ps k ∧ Below w.heap.size w w' ∧ w.heap.size ≤ g
theorem Filling.below {α : Type} {T : TypeId} {E : (Nat → Prop) → World → α → Value → Value → Prop} {w : World} {g : Nat} {l : List α} {k : Nat} {w' : World} (h : Filling T E w g l k w') : Below w.heap.size w w' := by
  obtain ⟨_, _, _, _, _, h, _⟩ := h
  exact h
theorem Pairs.lt {T : TypeId} {w : World} {g : Nat} {ps : List (Value × Value)} {rest : List Value} (h : Pairs T w g ps rest) : g < w.heap.size := by
  rcases Nat.lt_or_ge g w.heap.size with h1 | h1
  · exact h1
  · unfold Pairs at h
    rw [Array.getElem?_eq_none h1] at h
    cases h
theorem Pairs.cells {T : TypeId} {w : World} {g : Nat} {ps : List (Value × Value)} {rest : List Value} (h : Pairs T w g ps rest) (k : Nat) (hk : k < ps.length) :
    w.cell? ⟨g, k * 2, none⟩ = some ps[k].1 ∧ w.cell? ⟨g, k * 2 + 1, none⟩ = some ps[k].2 ∧ w.frozen? ⟨g, k * 2, none⟩ = false ∧ w.frozen? ⟨g, k * 2 + 1, none⟩ = false := by
  have hf := flat_at ps rest k ps[k] (List.getElem?_eq_getElem hk)
  unfold Pairs at h
  refine ⟨?_, ?_, ?_, ?_⟩
  · simp [World.cell?, h, hf.1]
  · simp [World.cell?, h, hf.2]
  · simp [World.frozen?, h]
  · simp [World.frozen?, h]
theorem Pairs.set {T : TypeId} {w : World} {g : Nat} {ps : List (Value × Value)} {rest : List Value} (h : Pairs T w g ps rest) (k : Nat) (hk : k < ps.length) (u v : Value) : Pairs T ((w.setCell ⟨g, k * 2, none⟩ u).setCell ⟨g, k * 2 + 1, none⟩ v) g (ps.set k (u, v)) rest := by
  unfold Pairs at h ⊢
  rw [← flat_set ps rest k u v hk]
  simp [World.setCell, Array.getElem?_modify, h]
/-- One part more: what the walk needs at the store, and the row behind it. -/
theorem Filling.step {α : Type} {T : TypeId} {E : (Nat → Prop) → World → α → Value → Value → Prop} (hK : Keeps E) {w : World} {g : Nat} {l : List α} {k : Nat} {w' w1 : World} {u v : Value} (h : Filling T E w g l k w') (hk : k < l.length) (ho : E (Came w' w1) w1 l[k] u v) (hb : Below w'.heap.size w' w1) :
    ∃ x y, w1.cell? ⟨g, k * 2, none⟩ = some x ∧ w1.cell? ⟨g, k * 2 + 1, none⟩ = some y ∧ w1.frozen? ⟨g, k * 2, none⟩ = false ∧ w1.frozen? ⟨g, k * 2 + 1, none⟩ = false ∧ Filling T E w g l (k + 1) ((w1.setCell ⟨g, k * 2, none⟩ u).setCell ⟨g, k * 2 + 1, none⟩ v) := by
  obtain ⟨ps, G, hl, hp, hP, hB, hg⟩ := h
  have hgl := hp.lt
  have hs := hb.size
  have hs0 := hB.size
  have hp1 : Pairs T w1 g ps [] := by
    unfold Pairs
    rw [hb.block g hgl]
    exact hp
  obtain ⟨c1, c2, c3, c4⟩ := hp1.cells k (by omega)
  have hz : ((w1.setCell ⟨g, k * 2, none⟩ u).setCell ⟨g, k * 2 + 1, none⟩ v).heap.size = w1.heap.size := by simp [World.setCell]
  have hag : ∀ b, b ≠ g → ((w1.setCell ⟨g, k * 2, none⟩ u).setCell ⟨g, k * 2 + 1, none⟩ v).heap[b]? = w1.heap[b]? := fun b hne => by
    rw [Below.heap_setCell _ _ _ _ hne, Below.heap_setCell _ _ _ _ hne]
  refine ⟨_, _, c1, c2, c3, c4, ps.set k (u, v), fun j => if j = k then Came w' w1 else G j, by simp [hl], hp1.set k (by omega) u v, ⟨?_, ?_, ?_⟩, ((hB.trans (hb.mono hs0)).setCell hg _).setCell hg _, hg⟩
  · intro j hj b hGb
    unfold Came
    rw [hz]
    by_cases e : j = k
    · rw [if_pos e] at hGb
      obtain ⟨g1, g2⟩ := hGb
      exact ⟨⟨by omega, g2⟩, by omega⟩
    · rw [if_neg e] at hGb
      obtain ⟨⟨g1, g2⟩, g3⟩ := hP.1 j (by omega) b hGb
      exact ⟨⟨g1, by omega⟩, g3⟩
  · intro i j hij hj b hGb hGb2
    have hi : ¬ i = k := by omega
    rw [if_neg hi] at hGb
    by_cases e : j = k
    · rw [if_pos e] at hGb2
      have := (hP.1 i (by omega) b hGb).1.2
      have := hGb2.1
      omega
    · rw [if_neg e] at hGb2
      exact hP.2.1 i j hij (by omega) b hGb hGb2
  · intro j x p hj hx hpj
    dsimp only
    by_cases e : j = k
    · subst e
      rw [if_pos rfl]
      rw [List.getElem?_eq_getElem hk] at hx
      rw [List.getElem?_set_self (by omega)] at hpj
      obtain rfl := Option.some.inj hx
      obtain rfl := Option.some.inj hpj
      exact hK _ _ _ _ _ _ ho (fun b hb' => hag b (by have := hb'.1; omega))
    · rw [if_neg e]
      rw [List.getElem?_set_ne (by omega)] at hpj
      refine hK _ _ _ _ _ _ (hP.2.2 j x p (by omega) hx hpj) (fun b hb' => ?_)
      obtain ⟨⟨g1, g2⟩, g3⟩ := hP.1 j (by omega) b hb'
      rw [hag b g3, hb.block b (by omega)]
theorem Filling.done {α : Type} {T : TypeId} {E : (Nat → Prop) → World → α → Value → Value → Prop} {w : World} {g : Nat} {l : List α} {w' : World} (h : Filling T E w g l l.length w') (cap : Nat) : Own2 T E (Came w w') w' (.slice (some ⟨g, 0, none⟩) l.length cap) l := by
  obtain ⟨ps, G, hl, hp, hP, hB, hg⟩ := h
  exact ⟨_, cap, rfl, .inr ⟨g, ps, [], G, rfl, ⟨hg, hp.lt⟩, hl, hp, hP⟩⟩

/-- A row that append makes longer: its k parts lie in blocks from B on, none in the row's own. -/
def Growing {α : Type} (T : TypeId) (E : (Nat → Prop) → World → α → Value → Value → Prop) (B : Nat) (l : List α) (k : Nat) (v : Value) (w : World) : Prop :=
  ∃ (ps : List (Value × Value)) (G : Nat → Nat → Prop), ps.length = k ∧ w.ownsRow B T 2 v k (flat ps) ∧ B ≤ w.heap.size ∧ (∀ j, j < k → ∀ b, G j b → B ≤ b ∧ b < w.heap.size ∧ v.ownBlock ≠ some b) ∧ (∀ i j, i < j → j < k → ∀ b, G i b → ¬ G j b) ∧ ∀ j x p, j < k → l[j]? = some x → ps[j]? = some p → E (G j) w x p.1 p.2
theorem Growing.start {α : Type} {T : TypeId} {E : (Nat → Prop) → World → α → Value → Value → Prop} {B : Nat} {l : List α} {v : Value} {w : World} (h : w.ownsRow B T 2 v 0 []) (hB : B ≤ w.heap.size) : Growing T E B l 0 v w :=
  ⟨[], fun _ _ => False, rfl, h, hB, fun _ hj => absurd hj (Nat.not_lt_zero _), fun _ _ _ hj => absurd hj (Nat.not_lt_zero _), fun _ _ _ hj => absurd hj (Nat.not_lt_zero _)⟩
theorem Growing.keep {α : Type} {T : TypeId} {E : (Nat → Prop) → World → α → Value → Value → Prop} (hK : Keeps E) {B : Nat} {l : List α} {k : Nat} {v : Value} {w w' : World} (h : Growing T E B l k v w) (hs : w.heap.size ≤ w'.heap.size) (ha : ∀ b, B ≤ b → b < w.heap.size → w'.heap[b]? = w.heap[b]?) : Growing T E B l k v w' := by
  obtain ⟨ps, G, h1, h2, h3, h4, h5, h6⟩ := h
  refine ⟨ps, G, h1, ⟨h2.1, ?_⟩, by omega, fun j hj b hb => by have := h4 j hj b hb; exact ⟨this.1, by omega, this.2.2⟩, h5, fun j x p hj hx hp => hK _ _ _ _ _ _ (h6 j x p hj hx hp) (fun b hb => by have := h4 j hj b hb; exact ha b this.1 this.2.1)⟩
  rcases h2.2 with h7 | ⟨g, cap, cur, e1, e2, e3, e4⟩
  · exact .inl h7
  · refine .inr ⟨g, cap, cur, e1, e2, ?_, e4⟩
    rw [ha g e2 ?_]
    · exact e3
    · rcases Nat.lt_or_ge g w.heap.size with h | h
      · exact h
      · rw [Array.getElem?_eq_none h] at e3
        cases e3
/-- One part more: what the append needs, and what is behind it. -/
theorem Growing.step {α : Type} {T : TypeId} {E : (Nat → Prop) → World → α → Value → Value → Prop} (hK : Keeps E) {B : Nat} {l : List α} {k : Nat} {v : Value} {w w1 w2 : World} {x : α} {u1 v1 : Value} (h : Growing T E B l k v w) (hx : l[k]? = some x) (ho : E (Came w w1) w1 x u1 v1) (hb : Below w.heap.size w w1) (hb2 : Below w1.heap.size w1 w2) :
    ∃ ps, w2.ownsRow B T 2 v k (flat ps) ∧ B ≤ w2.heap.size ∧ ∀ g cap w3, w3.ownsRow B T 2 (.slice (some ⟨g, 0, none⟩) (k + 1) cap) (k + 1) (flat ps ++ [u1, v1]) → w2.grownBy w3 v.ownBlock → (v.ownBlock = some g ∨ g = w2.heap.size) →
      Growing T E B l (k + 1) (.slice (some ⟨g, 0, none⟩) (k + 1) cap) w3 ∧ (∀ b, b < B → w3.heap[b]? = w.heap[b]?) ∧ w3.os = w.os ∧ w3.tape = w.tape ∧ w3.output = w.output ∧ w.heap.size ≤ w3.heap.size := by
  have hs1 := hb.size
  have hs2 := hb2.size
  have hall : ∀ b, b < w.heap.size → w2.heap[b]? = w.heap[b]? := fun b hl => (hb2.block b (by omega)).trans (hb.block b hl)
  have hB : B ≤ w.heap.size := by
    obtain ⟨_, _, _, _, h3, _⟩ := h
    exact h3
  have hvl : ∀ g, v.ownBlock = some g → B ≤ g ∧ g < w.heap.size := by
    obtain ⟨_, _, _, h2, _⟩ := h
    exact h2.lt
  obtain ⟨ps, G, h1, h2, h3, h4, h5, h6⟩ := h.keep hK (w' := w2) (by omega) (fun b _ hl => hall b hl)
  have h4' : ∀ j, j < k → ∀ b, G j b → b < w.heap.size ∨ w.heap.size ≤ b := fun j _ b _ => by omega
  clear h4'
  obtain ⟨ps0, G0, k1, k2, k3, k4, k5, k6⟩ := h
  refine ⟨ps0, ?_, h3, ?_⟩
  · refine ⟨k2.1, ?_⟩
    rcases k2.2 with h7 | ⟨g, cap, cur, e1, e2, e3, e4⟩
    · exact .inl h7
    · exact .inr ⟨g, cap, cur, e1, e2, by rw [hall g (hvl g (by rw [e1]; rfl)).2]; exact e3, e4⟩
  · intro g cap w3 hown hg hat
    have hs3 := hg.size
    have hk3 : ∀ b, b < w2.heap.size → v.ownBlock ≠ some b → w3.heap[b]? = w2.heap[b]? := fun b hl hne => hg.block b hl (fun e => hne e.symm)
    have hne : ∀ b, b < w2.heap.size → v.ownBlock ≠ some b → g ≠ b := fun b hl hv e => by
      rcases hat with h | h
      · exact hv (by rw [h, e])
      · omega
    have hfl : flat ps0 ++ [u1, v1] = flat (ps0 ++ [(u1, v1)]) := by simp [flat]
    rw [hfl] at hown
    refine ⟨⟨ps0 ++ [(u1, v1)], fun j => if j = k then Came w w1 else G0 j, by simp [k1], hown, by omega, ?_, ?_, ?_⟩, ?_, hg.os.trans (hb2.os.trans hb.os), hg.tape.trans (hb2.tape.trans hb.tape), hg.output.trans (hb2.output.trans hb.output), by omega⟩
    · intro j hj b hGb
      by_cases e : j = k
      · rw [if_pos e] at hGb
        obtain ⟨g1, g2⟩ := hGb
        have hv : v.ownBlock ≠ some b := fun e => by have := (hvl b e).2; omega
        exact ⟨by omega, by omega, fun e => hne b (by omega) hv (by injection e)⟩
      · rw [if_neg e] at hGb
        obtain ⟨g1, g2, g3⟩ := k4 j (by omega) b hGb
        exact ⟨g1, by omega, fun e => hne b (by omega) g3 (by injection e)⟩
    · intro i j hij hj b hGb hGb2
      have hi : ¬ i = k := by omega
      rw [if_neg hi] at hGb
      by_cases e : j = k
      · rw [if_pos e] at hGb2
        have := (k4 i (by omega) b hGb).2.1
        have := hGb2.1
        omega
      · rw [if_neg e] at hGb2
        exact k5 i j hij (by omega) b hGb hGb2
    · intro j x' p hj hx' hpj
      dsimp only
      by_cases e : j = k
      · subst e
        rw [if_pos rfl]
        rw [hx] at hx'
        rw [List.getElem?_append_right (by omega), k1, Nat.sub_self] at hpj
        obtain rfl := Option.some.inj hx'
        obtain rfl := Option.some.inj hpj
        refine hK _ _ _ _ _ _ ho (fun b hb' => ?_)
        obtain ⟨g1, g2⟩ := hb'
        rw [hk3 b (by omega) (fun e => by have := (hvl b e).2; omega), hb2.block b g2]
      · rw [if_neg e]
        rw [List.getElem?_append_left (by omega)] at hpj
        refine hK _ _ _ _ _ _ (k6 j x' p (by omega) hx' hpj) (fun b hb' => ?_)
        obtain ⟨g1, g2, g3⟩ := k4 j (by omega) b hb'
        rw [hk3 b (by omega) g3, hall b g2]
    · intro b hl
      rw [hk3 b (by omega) (fun e => by have := (hvl b e).1; omega), hall b (by omega)]
theorem Growing.done {α : Type} {T : TypeId} {E : (Nat → Prop) → World → α → Value → Value → Prop} {B : Nat} {l : List α} {v : Value} {w : World} (h : Growing T E B l l.length v w) : Own2 T E (fun b => B ≤ b ∧ b < w.heap.size) w v l := by
  obtain ⟨ps, G, h1, h2, h3, h4, h5, h6⟩ := h
  rcases h2.2 with ⟨e1, e2⟩ | ⟨g, cap, cur, rfl, hb, hg, _, _, hc, ht⟩
  · exact ⟨none, 0, by rw [e1, e2], .inl (List.eq_nil_of_length_eq_zero e2)⟩
  · have hp : Pairs T w g ps (cur.toList.drop (l.length * 2)) := by
      unfold Pairs
      rw [hg, ← ht, List.take_append_drop, Array.toArray_toList]
    exact ⟨_, cap, rfl, .inr ⟨g, ps, _, G, rfl, ⟨hb, hp.lt⟩, h1, hp, fun j hj b hGb => ⟨⟨(h4 j hj b hGb).1, (h4 j hj b hGb).2.1⟩, fun e => (h4 j hj b hGb).2.2 (by rw [e]; rfl)⟩, h5, h6⟩⟩
end Go.Proofs.YtlbmohdebbapgaaGreat
end

/- What is proved here: the first element of a list that a test picks, by its place; the first type, the first constructor of a name. No condition. -/
section
namespace Go.Proofs.YtlbmohdebbapgaaGreat
open Go.RowKit

theorem find_at {α : Type} (p : α → Bool) (l : List α) (k : Nat) (x : α) (hx : l[k]? = some x) (hp : p x = true) (hne : ∀ (j : Nat) y, j < k → l[j]? = some y → p y = false) : l.find? p = some x := by
  induction l generalizing k with
  | nil => simp at hx
  | cons z r ih =>
    cases k with
    | zero =>
      simp at hx
      subst hx
      simp [List.find?, hp]
    | succ k =>
      have h0 := hne 0 z (by omega) (by simp)
      rw [List.find?_cons_of_neg (by simp [h0])]
      exact ih k (by simpa using hx) (fun j y hj hy => hne (j + 1) y (by omega) (by simpa using hy))
theorem find_no {α : Type} (p : α → Bool) (l : List α) (hne : ∀ (j : Nat) y, l[j]? = some y → p y = false) : l.find? p = none := by
  rw [List.find?_eq_none]
  intro x hx
  obtain ⟨j, hj, e⟩ := List.mem_iff_getElem.1 hx
  simp [hne j x (by rw [List.getElem?_eq_getElem hj, e])]

def TypeD.named (nm : ByteArray) (t : TypeD) : Bool := t.name.toList == nm.toList
def ConD.named (nm : ByteArray) (c : ConD) : Bool := c.name.toList == nm.toList
/-- The first type of a name. -/
def theType (s : List TypeD) (nm : ByteArray) : Option TypeD := s.find? (TypeD.named nm)
def hasCon (nm : ByteArray) (t : TypeD) : Bool := (t.cons.find? (ConD.named nm)).isSome
/-- The first constructor of a name, with the name of its type. -/
def theCon (s : List TypeD) (nm : ByteArray) : Option (ConD × ByteArray) := (s.find? (hasCon nm)).bind fun t => (t.cons.find? (ConD.named nm)).map fun c => (c, t.name)
theorem two_alloc (w : World) (o0 o1 : Obj) : ((w.alloc o0).alloc o1).heap.size = w.heap.size + 1 + 1 ∧ ((w.alloc o0).alloc o1).heap[w.heap.size]? = some o0 ∧ ((w.alloc o0).alloc o1).heap[w.heap.size + 1]? = some o1 ∧ Below w.heap.size w ((w.alloc o0).alloc o1) := by
  have s1 : (w.alloc o0).heap.size = w.heap.size + 1 := Array.size_push _
  have s2 : ((w.alloc o0).alloc o1).heap.size = (w.alloc o0).heap.size + 1 := Array.size_push _
  refine ⟨by omega, ?_, ?_, ((Below.refl _ _).alloc (Nat.le_refl _) _).alloc (by omega) _⟩
  · rw [Below.heap_alloc _ _ _ (by omega)]
    exact heap_at_new w o0
  · rw [← s1]
    exact heap_at_new _ o1

theorem results_row_tmp {P : Program} {fn : Func} {p u : Tmp} {ty : TypeId} (h : fn.results = #[.cell p ty, .tmp u]) (tmps : Array Value) (w : World) (g : Nat) (t : TypeId) (cs : Array Value) (fr : Nat × Nat) (d : TypeDesc)
    (hp : tmps.getD p undef = .pointer (some ⟨g, 0, none⟩)) (hg : w.heap[g]? = some (.cells cs t fr))
    (hu : P.underlying ty = some d) (hd : (match d with | .struct _ | .array _ _ => true | _ => false) = true) (hi : (P.info? ty).map (·.size) = some cs.size) :
    (results fn tmps).run P w = .ok (.tuple #[.agg cs, tmps.getD u undef]) w := by
  have hp' : tmps[p]?.getD undef = .pointer (some ⟨g, 0, none⟩) := by simpa using hp
  simp [results, h, hp', asAddr, run_loadVar_row w g t ty cs fr d hg hu hd hi]
theorem results_row_tmp2 {P : Program} {fn : Func} {p u v : Tmp} {ty : TypeId} (h : fn.results = #[.cell p ty, .tmp u, .tmp v]) (tmps : Array Value) (w : World) (g : Nat) (t : TypeId) (cs : Array Value) (fr : Nat × Nat) (d : TypeDesc)
    (hp : tmps.getD p undef = .pointer (some ⟨g, 0, none⟩)) (hg : w.heap[g]? = some (.cells cs t fr))
    (hu : P.underlying ty = some d) (hd : (match d with | .struct _ | .array _ _ => true | _ => false) = true) (hi : (P.info? ty).map (·.size) = some cs.size) :
    (results fn tmps).run P w = .ok (.tuple #[.agg cs, tmps.getD u undef, tmps.getD v undef]) w := by
  have hp' : tmps[p]?.getD undef = .pointer (some ⟨g, 0, none⟩) := by simpa using hp
  simp [results, h, hp', asAddr, run_loadVar_row w g t ty cs fr d hg hu hd hi]
theorem block_of_cell {w : World} {p : Addr} {v : Value} (h : w.cell? p = some v) : p.block < w.heap.size := by
  rcases Nat.lt_or_ge p.block w.heap.size with h1 | h1
  · exact h1
  · simp [World.cell?, Array.getElem?_eq_none h1] at h
end Go.Proofs.YtlbmohdebbapgaaGreat
end

/- What is proved here: the Bool of a proposition. No condition. -/
section
namespace Go.Proofs.YtlbmohdebbapgaaGreat
open Go.RowKit

noncomputable def bl (p : Prop) : Bool := @decide p (Classical.propDecidable p)
theorem bl_true {p : Prop} (h : p) : bl p = true := by unfold bl; exact @decide_eq_true _ (Classical.propDecidable p) h
theorem bl_false {p : Prop} (h : ¬ p) : bl p = false := by unfold bl; exact @decide_eq_false _ (Classical.propDecidable p) h
theorem bl_iff {p : Prop} : bl p = true ↔ p := by unfold bl; exact @decide_eq_true_iff _ (Classical.propDecidable p)
theorem bl_not_iff {p : Prop} : bl p = false ↔ ¬ p := by unfold bl; exact @decide_eq_false_iff_not _ (Classical.propDecidable p)
theorem bl_congr {p q : Prop} (h : p ↔ q) : bl p = bl q := by rw [propext h]

end Go.Proofs.YtlbmohdebbapgaaGreat
end

/- What is proved here: the model's and the program's IsValidText say what a valid text is. Condition: the text's length is a length. -/
section
namespace Go.Proofs.YtlbmohdebbapgaaGreat
open Go.RowKit

/-- A byte that may stand in a text. -/
def OkByte (c : UInt8) : Prop := 32 ≤ c.toNat ∧ c.toNat ≤ 126 ∧ c.toNat ≠ 34
def ValidText (s : ByteArray) : Prop := s.size ≤ 8 ∧ ∀ j (h : j < s.size), OkByte s[j]

set_option maxHeartbeats 1000000 in
set_option maxRecDepth 100000 in
theorem spec_text (s : ByteArray) (hs : s.size ≤ maxLen) (w : World) :
    Calls Tryz.prog 44 #[.string s] w fun e w' => e = .returned (.bool (bl (ValidText s))) ∧ Below w.heap.size w w' := by
  unfold maxLen at hs
  go_enter Tryz.func44, Tryz.ntmps44
  go_wp2
  go_loopw [3] (fun i wr => ∃ k : Nat, k ≤ s.size ∧ i = .int .i64 k ∧ Hid (∀ j (h : j < s.size), j < k → OkByte s[j]) ∧ Below w.heap.size w wr) (fun i _ => s.size - (intOf i).toNat)
  case atStart => exact ⟨0, Nat.zero_le _, rfl, fun j h h1 => by omega, Below.refl _ _⟩
  case round =>
    obtain ⟨k, hk, rfl, HG, hB⟩ := hrel
    by_cases hlt : k < s.size
    · have hbad : ¬ OkByte s[k] → Hid (bl (ValidText s) = false) := fun h => bl_false (fun hv => h (hv.2 k hlt))
      have HBAD := Lib.hid hbad
      clear hbad
      have h255 : s[k].toNat < 256 := s[k].toNat_lt
      by_cases h1 : s[k].toNat < 32
      · have HE := HBAD.out (fun h => by have := h.1; omega)
        go_wp2
        go_ret
        exact ⟨by rw [HE.out]; rfl, hB⟩
      · by_cases h2 : 126 < s[k].toNat
        · have HE := HBAD.out (fun h => by have := h.2.1; omega)
          go_wp2
          go_ret
          exact ⟨by rw [HE.out]; rfl, hB⟩
        · by_cases h3 : s[k].toNat = 34
          · have HE := HBAD.out (fun h => h.2.2 h3)
            go_wp2
            go_ret
            exact ⟨by rw [HE.out]; rfl, hB⟩
          · have HC : Hid (OkByte s[k]) := ⟨by omega, by omega, h3⟩
            have e3 : ((s[k].toNat : Int) == 34) = false := by simpa using (by omega : ¬ (s[k].toNat : Int) = 34)
            clear HBAD
            go_wp2
            go_roundw
            case rel =>
              refine ⟨k + 1, by omega, by go_num, fun j h h4 => ?_, hB⟩
              rcases Nat.lt_or_ge j k with h5 | h5
              · exact HG.out j h h5
              · obtain rfl : j = k := by omega
                exact HC.out
            case measure => simp [intOf]; omega
    · by_cases h8 : s.size ≤ 8
      · have hR : bl (ValidText s) = true := bl_true ⟨h8, fun j h => HG.out j h (by omega)⟩
        have e8 : decide ((s.size : Int) ≤ 8) = true := by simp; omega
        have HR := Lib.hid hR
        clear hR
        go_wp2
        go_ret
        exact ⟨by rw [HR.out]; rfl, hB⟩
      · have hR : bl (ValidText s) = false := bl_false (fun h => h8 h.1)
        have e8 : decide ((s.size : Int) ≤ 8) = false := by simp; omega
        have HR := Lib.hid hR
        clear hR
        go_wp2
        go_ret
        exact ⟨by rw [HR.out]; rfl, hB⟩

set_option maxHeartbeats 1000000 in
set_option maxRecDepth 100000 in
theorem impl_text (s : ByteArray) (hs : s.size ≤ maxLen) (w : World) :
    Calls Tryz.prog 54 #[.string s] w fun e w' => e = .returned (.bool (bl (ValidText s))) ∧ Below w.heap.size w w' := by
  unfold maxLen at hs
  by_cases h8 : 8 < s.size
  · have HR : Hid (bl (ValidText s) = false) := bl_false (fun h => by have := h.1; omega)
    go_enter Tryz.func54, Tryz.ntmps54
    go_wp2
    go_ret
    exact ⟨by rw [HR.out]; rfl, Below.refl _ _⟩
  · go_enter Tryz.func54, Tryz.ntmps54
    go_wp2
    go_loopw [9] (fun i wr => ∃ k : Nat, k ≤ s.size ∧ i = .int .i64 k ∧ Hid (∀ j (h : j < s.size), j < k → OkByte s[j]) ∧ Below w.heap.size w wr) (fun i _ => s.size - (intOf i).toNat)
    case atStart => exact ⟨0, Nat.zero_le _, rfl, fun j h h1 => by omega, Below.refl _ _⟩
    case round =>
      obtain ⟨k, hk, rfl, HG, hB⟩ := hrel
      by_cases hlt : k < s.size
      · have hbad : ¬ OkByte s[k] → Hid (bl (ValidText s) = false) := fun h => bl_false (fun hv => h (hv.2 k hlt))
        have HBAD := Lib.hid hbad
        clear hbad
        have h255 : s[k].toNat < 256 := s[k].toNat_lt
        by_cases h1 : s[k].toNat < 32
        · have HE := HBAD.out (fun h => by have := h.1; omega)
          go_wp2
          go_ret
          exact ⟨by rw [HE.out]; rfl, hB⟩
        · by_cases h2 : 126 < s[k].toNat
          · have HE := HBAD.out (fun h => by have := h.2.1; omega)
            go_wp2
            go_ret
            exact ⟨by rw [HE.out]; rfl, hB⟩
          · by_cases h3 : s[k].toNat = 34
            · have HE := HBAD.out (fun h => h.2.2 h3)
              go_wp2
              go_ret
              exact ⟨by rw [HE.out]; rfl, hB⟩
            · have HC : Hid (OkByte s[k]) := ⟨by omega, by omega, h3⟩
              have e3 : ((s[k].toNat : Int) == 34) = false := by simpa using (by omega : ¬ (s[k].toNat : Int) = 34)
              clear HBAD
              go_wp2
              go_roundw
              case rel =>
                refine ⟨k + 1, by omega, by go_num, fun j h h4 => ?_, hB⟩
                rcases Nat.lt_or_ge j k with h5 | h5
                · exact HG.out j h h5
                · obtain rfl : j = k := by omega
                  exact HC.out
              case measure => simp [intOf]; omega
      · have hR : bl (ValidText s) = true := bl_true ⟨by omega, fun j h => HG.out j h (by omega)⟩
        have HR := Lib.hid hR
        clear hR
        go_wp2
        go_ret
        exact ⟨by rw [HR.out]; rfl, hB⟩
end Go.Proofs.YtlbmohdebbapgaaGreat
end

/- What is proved here: what it is for a value to have a type (pure), and that a valid integer is told by model and program. No condition. -/
section
namespace Go.Proofs.YtlbmohdebbapgaaGreat
open Go.RowKit

def inInt (n : Int) : Bool := decide (-999999999999 ≤ n) && decide (n ≤ 999999999999)
/-- A node of the type nm, with nn nodes below of which 'below' says whether they have their types. -/
noncomputable def nodeHas (s : List TypeD) (k n : Int) (t : ByteArray) (nn : Nat) (below : List ByteArray → Bool) (nm : ByteArray) : Bool :=
  if k = 1 then (nm.toList == [105, 110, 116]) && inInt n && (t.toList == []) && decide (nn = 0)
  else if k = 2 then (nm.toList == [116, 101, 120, 116]) && (n == 0) && decide (nn = 0) && bl (ValidText t)
  else if k = 3 then match theCon s t with
    | some (c, tn) => (tn.toList == nm.toList) && (n == 0) && decide (c.args.length = nn) && below c.args
    | none => false
  else false
noncomputable def Trees.has (s : List TypeD) : Trees → List ByteArray → Bool
  | .nil, _ => true
  | .cons _ _ _ _ _, [] => true
  | .cons k n t ar r, x :: xs => nodeHas s k n t ar.length (fun l => ar.has s l) x && r.has s xs

theorem theCon_args {s : List TypeD} (hs : ∀ c ∈ s, c.cons.length ≤ 1048576 ∧ ∀ d ∈ c.cons, d.args.length ≤ 1048576) {nm : ByteArray} {c : ConD} {tn : ByteArray} (h : theCon s nm = some (c, tn)) : c.args.length ≤ 1048576 := by
  unfold theCon at h
  obtain ⟨t, ht, h⟩ := Option.bind_eq_some_iff.1 h
  obtain ⟨d, hd, h⟩ := Option.map_eq_some_iff.1 h
  cases h
  exact (hs t (List.mem_of_find?_eq_some ht)).2 _ (List.mem_of_find?_eq_some hd)

set_option maxRecDepth 100000 in
theorem spec_inInt (n : Int) (w : World) :
    Calls Tryz.prog 43 #[.int .i64 n, .int .i64 (-999999999999), .int .i64 999999999999] w fun e w' => e = .returned (.bool (inInt n)) ∧ w' = w := by
  unfold inInt
  by_cases h1 : -999999999999 ≤ n
  · have e1 : decide (-999999999999 ≤ n) = true := by simpa using h1
    rw [e1]
    clear h1
    go_enter Tryz.func43, Tryz.ntmps43
    go_wp2
    go_ret
    exact ⟨rfl, rfl⟩
  · have e1 : decide (-999999999999 ≤ n) = false := by simpa using h1
    rw [e1]
    clear h1
    go_enter Tryz.func43, Tryz.ntmps43
    go_wp2
    go_ret
    exact ⟨rfl, rfl⟩
set_option maxRecDepth 100000 in
theorem impl_inInt (n : Int) (w : World) :
    Calls Tryz.prog 53 #[.int .i64 n] w fun e w' => e = .returned (.bool (inInt n)) ∧ w' = w := by
  unfold inInt
  by_cases h1 : -999999999999 ≤ n
  · have e1 : decide (-999999999999 ≤ n) = true := by simpa using h1
    rw [e1]
    clear h1
    go_enter Tryz.func53, Tryz.ntmps53
    go_wp2
    go_ret
    exact ⟨rfl, rfl⟩
  · have e1 : decide (-999999999999 ≤ n) = false := by simpa using h1
    rw [e1]
    clear h1
    go_enter Tryz.func53, Tryz.ntmps53
    go_wp2
    go_ret
    exact ⟨rfl, rfl⟩
end Go.Proofs.YtlbmohdebbapgaaGreat
end

/- What is proved here: the cells of a struct of four fields in a block. No condition. -/
section
namespace Go.Proofs.YtlbmohdebbapgaaGreat
open Go.RowKit

/-- A struct of four fields in a block of the call's own. -/
theorem four_cells {w : World} {b : Nat} {x y z u : Value} {T : TypeId} (h : w.heap[b]? = some (.cells #[x, y, z, u] T (0, 0))) : w.cell? ⟨b, 0, none⟩ = some x ∧ w.cell? ⟨b, 1, none⟩ = some y ∧ w.cell? ⟨b, 2, none⟩ = some z ∧ w.cell? ⟨b, 3, none⟩ = some u ∧ w.frozen? ⟨b, 0, none⟩ = false ∧ w.frozen? ⟨b, 1, none⟩ = false ∧ w.frozen? ⟨b, 2, none⟩ = false ∧ w.frozen? ⟨b, 3, none⟩ = false := by
  refine ⟨?_, ?_, ?_, ?_, ?_, ?_, ?_, ?_⟩ <;> simp [World.cell?, World.frozen?, h]
theorem four_set {w : World} {b : Nat} {x y z u : Value} {T : TypeId} (h : w.heap[b]? = some (.cells #[x, y, z, u] T (0, 0))) (v : Value) : (w.setCell ⟨b, 0, none⟩ v).heap[b]? = some (.cells #[v, y, z, u] T (0, 0)) ∧ (w.setCell ⟨b, 1, none⟩ v).heap[b]? = some (.cells #[x, v, z, u] T (0, 0)) ∧ (w.setCell ⟨b, 2, none⟩ v).heap[b]? = some (.cells #[x, y, v, u] T (0, 0)) ∧ (w.setCell ⟨b, 3, none⟩ v).heap[b]? = some (.cells #[x, y, z, v] T (0, 0)) := by
  refine ⟨?_, ?_, ?_, ?_⟩ <;> simp [World.setCell, Array.getElem?_modify, h]
end Go.Proofs.YtlbmohdebbapgaaGreat
end
