/- What is proved here: a signature in memory of the call's own (which blocks it lies in, that no two parts share one), read and kept. No condition. -/
import Derived.Test.YtcalgjggmgnofaaDoorSig
import Derived.Test.YtcalgjggmgnofaaDoorBlock
namespace Go.Proofs.YtcalgjggmgnofaaDoor
open Go.RowKit

/-- w' holds in the blocks F what w holds there. -/
def Agree (F : Nat → Prop) (w w' : World) : Prop := ∀ b, F b → w'.heap[b]? = w.heap[b]?
/-- The cells of a row of pairs. -/
def flat (ps : List (Value × Value)) : List Value := ps.flatMap fun p => [p.1, p.2]
theorem flat_length (ps : List (Value × Value)) : (flat ps).length = 2 * ps.length := by
  induction ps with
  | nil => rfl
  | cons p r ih => simp [flat] at ih ⊢; omega
theorem flat_at (ps : List (Value × Value)) (rest : List Value) (j : Nat) (p : Value × Value) (h : ps[j]? = some p) : (flat ps ++ rest)[j * 2]? = some p.1 ∧ (flat ps ++ rest)[j * 2 + 1]? = some p.2 := by
  induction ps generalizing j with
  | nil => simp at h
  | cons q r ih =>
    cases j with
    | zero => simp at h; subst h; simp [flat]
    | succ j =>
      have := ih j (by simpa using h)
      have e : flat (q :: r) ++ rest = q.1 :: q.2 :: (flat r ++ rest) := by simp [flat]
      rw [e, show (j + 1) * 2 = j * 2 + 1 + 1 by omega]
      simpa using this
theorem flat_set (ps : List (Value × Value)) (rest : List Value) (j : Nat) (u v : Value) (h : j < ps.length) : ((flat ps ++ rest).set (j * 2) u).set (j * 2 + 1) v = flat (ps.set j (u, v)) ++ rest := by
  induction ps generalizing j with
  | nil => simp at h
  | cons q r ih =>
    have e : flat (q :: r) ++ rest = q.1 :: q.2 :: (flat r ++ rest) := by simp [flat]
    cases j with
    | zero => simp [flat]
    | succ j =>
      rw [e, show (j + 1) * 2 = j * 2 + 1 + 1 by omega]
      simp only [List.set_cons_succ]
      rw [ih j (by simpa using h)]
      simp [flat]

/-- A slice of texts in a block of F. -/
def OwnS (F : Nat → Prop) (w : World) (v : Value) (xs : List ByteArray) : Prop := ∃ a cap, v = .slice a xs.length cap ∧ (xs = [] ∨ ∃ g rest, a = some ⟨g, 0, none⟩ ∧ F g ∧ Block w g xs rest)
/-- Block g holds the pairs ps, then rest. -/
def Pairs (T : TypeId) (w : World) (g : Nat) (ps : List (Value × Value)) (rest : List Value) : Prop := w.heap[g]? = some (.cells (flat ps ++ rest).toArray T (0, 0))
/-- The parts of a row, k of them: each in blocks of its own; neither in g nor in another's. -/
def Parts {α : Type} (E : (Nat → Prop) → World → α → Value → Value → Prop) (w : World) (F : Nat → Prop) (g : Nat) (G : Nat → Nat → Prop) (l : List α) (ps : List (Value × Value)) (k : Nat) : Prop :=
  (∀ j, j < k → ∀ b, G j b → F b ∧ b ≠ g) ∧ (∀ i j, i < j → j < k → ∀ b, G i b → ¬ G j b) ∧ ∀ j x p, j < k → l[j]? = some x → ps[j]? = some p → E (G j) w x p.1 p.2
/-- A slice of pairs in a block of F, its parts in others of F. -/
def Own2 {α : Type} (T : TypeId) (E : (Nat → Prop) → World → α → Value → Value → Prop) (F : Nat → Prop) (w : World) (v : Value) (l : List α) : Prop :=
  ∃ a cap, v = .slice a l.length cap ∧ (l = [] ∨ ∃ g ps rest G, a = some ⟨g, 0, none⟩ ∧ F g ∧ ps.length = l.length ∧ Pairs T w g ps rest ∧ Parts E w F g G l ps l.length)
def OwnCon (F : Nat → Prop) (w : World) (c : ConD) (u v : Value) : Prop := u = .string c.name ∧ OwnS F w v c.args
def OwnType (F : Nat → Prop) (w : World) (t : TypeD) (u v : Value) : Prop := u = .string t.name ∧ Own2 116 OwnCon F w v t.cons
abbrev OwnSig (F : Nat → Prop) (w : World) (v : Value) (s : List TypeD) : Prop := Own2 108 OwnType F w v s

/-- Kept where the blocks of F are; and within more blocks. -/
def Keeps {α : Type} (E : (Nat → Prop) → World → α → Value → Value → Prop) : Prop := ∀ F w w' x u v, E F w x u v → Agree F w w' → E F w' x u v
def Wider {α : Type} (E : (Nat → Prop) → World → α → Value → Value → Prop) : Prop := ∀ F F' w x u v, E F w x u v → (∀ b, F b → F' b) → E F' w x u v

theorem OwnS.keep {F : Nat → Prop} {w w' : World} {v : Value} {xs : List ByteArray} (h : OwnS F w v xs) (ha : Agree F w w') : OwnS F w' v xs := by
  obtain ⟨a, cap, hv, h | ⟨g, rest, h1, h2, h3⟩⟩ := h
  · exact ⟨a, cap, hv, .inl h⟩
  · refine ⟨a, cap, hv, .inr ⟨g, rest, h1, h2, ?_⟩⟩
    unfold Block
    rw [ha g h2]
    exact h3
theorem Parts.keep {α : Type} {E : (Nat → Prop) → World → α → Value → Value → Prop} (hE : Keeps E) {w w' : World} {F : Nat → Prop} {g : Nat} {G : Nat → Nat → Prop} {l : List α} {ps : List (Value × Value)} {k : Nat} (h : Parts E w F g G l ps k) (ha : Agree (fun b => F b ∧ b ≠ g) w w') : Parts E w' F g G l ps k :=
  ⟨h.1, h.2.1, fun j x p hj hx hp => hE _ _ _ _ _ _ (h.2.2 j x p hj hx hp) (fun b hb => ha b (h.1 j hj b hb))⟩
theorem Own2.keep {α : Type} {T : TypeId} {E : (Nat → Prop) → World → α → Value → Value → Prop} (hE : Keeps E) {F : Nat → Prop} {w w' : World} {v : Value} {l : List α} (h : Own2 T E F w v l) (ha : Agree F w w') : Own2 T E F w' v l := by
  obtain ⟨a, cap, hv, h | ⟨g, ps, rest, G, h1, h2, h3, h4, h5⟩⟩ := h
  · exact ⟨a, cap, hv, .inl h⟩
  · refine ⟨a, cap, hv, .inr ⟨g, ps, rest, G, h1, h2, h3, ?_, h5.keep hE (fun b hb => ha b hb.1)⟩⟩
    unfold Pairs
    rw [ha g h2]
    exact h4
theorem keeps_con : Keeps OwnCon := fun _ _ _ _ _ _ h ha => ⟨h.1, h.2.keep ha⟩
theorem keeps_type : Keeps OwnType := fun _ _ _ _ _ _ h ha => ⟨h.1, h.2.keep keeps_con ha⟩
theorem OwnS.wider {F F' : Nat → Prop} {w : World} {v : Value} {xs : List ByteArray} (h : OwnS F w v xs) (hF : ∀ b, F b → F' b) : OwnS F' w v xs := by
  obtain ⟨a, cap, hv, h | ⟨g, rest, h1, h2, h3⟩⟩ := h
  · exact ⟨a, cap, hv, .inl h⟩
  · exact ⟨a, cap, hv, .inr ⟨g, rest, h1, hF g h2, h3⟩⟩
theorem Own2.wider {α : Type} {T : TypeId} {E : (Nat → Prop) → World → α → Value → Value → Prop} {F F' : Nat → Prop} {w : World} {v : Value} {l : List α} (h : Own2 T E F w v l) (hF : ∀ b, F b → F' b) : Own2 T E F' w v l := by
  obtain ⟨a, cap, hv, h | ⟨g, ps, rest, G, h1, h2, h3, h4, h5, h6⟩⟩ := h
  · exact ⟨a, cap, hv, .inl h⟩
  · exact ⟨a, cap, hv, .inr ⟨g, ps, rest, G, h1, hF g h2, h3, h4, fun j hj b hb => ⟨hF b (h5 j hj b hb).1, (h5 j hj b hb).2⟩, h6⟩⟩
theorem wider_con : Wider OwnCon := fun _ _ _ _ _ _ h hF => ⟨h.1, h.2.wider hF⟩
theorem wider_type : Wider OwnType := fun _ _ _ _ _ _ h hF => ⟨h.1, h.2.wider hF⟩

/-- What is owned reads. -/
theorem OwnS.reads {F : Nat → Prop} {w : World} {v : Value} {xs : List ByteArray} (h : OwnS F w v xs) : ∃ a cap, v = .slice a xs.length cap ∧ Reads w a xs := by
  obtain ⟨a, cap, hv, rfl | ⟨g, rest, rfl, h2, h3⟩⟩ := h
  · exact ⟨a, cap, hv, fun j hj => absurd hj (by simp)⟩
  · exact ⟨_, cap, hv, h3.reads⟩
theorem Own2.reads {α : Type} {T : TypeId} {E : (Nat → Prop) → World → α → Value → Value → Prop} {R : World → α → Value → Value → Prop} (hE : ∀ F w x u v, E F w x u v → R w x u v) {F : Nat → Prop} {w : World} {v : Value} {l : List α} (h : Own2 T E F w v l) : ∃ a cap, v = .slice a l.length cap ∧ Row2 R w a l := by
  obtain ⟨a, cap, hv, rfl | ⟨g, ps, rest, G, rfl, h2, h3, h4, h5⟩⟩ := h
  · exact ⟨a, cap, hv, fun j hj => absurd hj (by simp)⟩
  · refine ⟨_, cap, hv, fun j hj => ?_⟩
    obtain ⟨p, hp⟩ : ∃ p, ps[j]? = some p := ⟨ps[j]'(by omega), List.getElem?_eq_getElem (by omega)⟩
    have hr := hE _ _ _ _ _ (h5.2.2 j l[j] p hj (List.getElem?_eq_getElem hj) hp)
    have hf := flat_at ps rest j p hp
    have e : (⟨g, 0, none⟩ : Addr).add (j * 2) = ⟨g, j * 2, none⟩ := by simp [Addr.add]; intro h; omega
    refine ⟨_, p.1, p.2, rfl, ?_, ?_, hr⟩
    · rw [e]
      unfold Pairs at h4
      simp [World.cell?, h4, hf.1]
    · rw [e]
      unfold Pairs at h4
      simp [World.cell?, h4, hf.2]
theorem OwnCon.reads (F : Nat → Prop) (w : World) (c : ConD) (u v : Value) (h : OwnCon F w c u v) : ConAt w c u v := by
  obtain ⟨hu, h⟩ := h
  obtain ⟨a, cap, hv, hr⟩ := h.reads
  exact ⟨a, cap, hu, hv, hr⟩
theorem OwnType.reads (F : Nat → Prop) (w : World) (t : TypeD) (u v : Value) (h : OwnType F w t u v) : TypeAt w t u v := by
  obtain ⟨hu, h⟩ := h
  obtain ⟨a, cap, hv, hr⟩ := h.reads OwnCon.reads
  exact ⟨a, cap, hu, hv, hr⟩
theorem OwnSig.reads {F : Nat → Prop} {w : World} {v : Value} {s : List TypeD} (h : OwnSig F w v s) : ∃ a cap, v = .slice a s.length cap ∧ Row2 TypeAt w a s := Own2.reads OwnType.reads h

/-- The blocks that came between two worlds. -/
def Came (w w' : World) (b : Nat) : Prop := w.heap.size ≤ b ∧ b < w'.heap.size

/-- A row that is being filled: k of its parts are there, in blocks that came since w; the row itself is block g. -/
def Filling {α : Type} (T : TypeId) (E : (Nat → Prop) → World → α → Value → Value → Prop) (w : World) (g : Nat) (l : List α) (k : Nat) (w' : World) : Prop :=
  ∃ ps G, ps.length = l.length ∧ Pairs T w' g ps [] ∧ Parts E w' (Came w w') g G l ps k ∧ Below w.heap.size w w' ∧ w.heap.size ≤ g
theorem Filling.below {α : Type} {T : TypeId} {E : (Nat → Prop) → World → α → Value → Value → Prop} {w : World} {g : Nat} {l : List α} {k : Nat} {w' : World} (h : Filling T E w g l k w') : Below w.heap.size w w' := by
  obtain ⟨_, _, _, _, _, h, _⟩ := h
  exact h
theorem Pairs.lt {T : TypeId} {w : World} {g : Nat} {ps : List (Value × Value)} {rest : List Value} (h : Pairs T w g ps rest) : g < w.heap.size := by
  rcases Nat.lt_or_ge g w.heap.size with h1 | h1
  · exact h1
  · unfold Pairs at h
    rw [Array.getElem?_eq_none h1] at h
    cases h
theorem Pairs.cells {T : TypeId} {w : World} {g : Nat} {ps : List (Value × Value)} {rest : List Value} (h : Pairs T w g ps rest) (k : Nat) (hk : k < ps.length) :
    w.cell? ⟨g, k * 2, none⟩ = some ps[k].1 ∧ w.cell? ⟨g, k * 2 + 1, none⟩ = some ps[k].2 ∧ w.frozen? ⟨g, k * 2, none⟩ = false ∧ w.frozen? ⟨g, k * 2 + 1, none⟩ = false := by
  have hf := flat_at ps rest k ps[k] (List.getElem?_eq_getElem hk)
  unfold Pairs at h
  refine ⟨?_, ?_, ?_, ?_⟩
  · simp [World.cell?, h, hf.1]
  · simp [World.cell?, h, hf.2]
  · simp [World.frozen?, h]
  · simp [World.frozen?, h]
theorem Pairs.set {T : TypeId} {w : World} {g : Nat} {ps : List (Value × Value)} {rest : List Value} (h : Pairs T w g ps rest) (k : Nat) (hk : k < ps.length) (u v : Value) : Pairs T ((w.setCell ⟨g, k * 2, none⟩ u).setCell ⟨g, k * 2 + 1, none⟩ v) g (ps.set k (u, v)) rest := by
  unfold Pairs at h ⊢
  rw [← flat_set ps rest k u v hk]
  simp [World.setCell, Array.getElem?_modify, h]
/-- One part more: what the walk needs at the store, and the row behind it. -/
theorem Filling.step {α : Type} {T : TypeId} {E : (Nat → Prop) → World → α → Value → Value → Prop} (hK : Keeps E) {w : World} {g : Nat} {l : List α} {k : Nat} {w' w1 : World} {u v : Value} (h : Filling T E w g l k w') (hk : k < l.length) (ho : E (Came w' w1) w1 l[k] u v) (hb : Below w'.heap.size w' w1) :
    ∃ x y, w1.cell? ⟨g, k * 2, none⟩ = some x ∧ w1.cell? ⟨g, k * 2 + 1, none⟩ = some y ∧ w1.frozen? ⟨g, k * 2, none⟩ = false ∧ w1.frozen? ⟨g, k * 2 + 1, none⟩ = false ∧ Filling T E w g l (k + 1) ((w1.setCell ⟨g, k * 2, none⟩ u).setCell ⟨g, k * 2 + 1, none⟩ v) := by
  obtain ⟨ps, G, hl, hp, hP, hB, hg⟩ := h
  have hgl := hp.lt
  have hs := hb.size
  have hs0 := hB.size
  have hp1 : Pairs T w1 g ps [] := by
    unfold Pairs
    rw [hb.block g hgl]
    exact hp
  obtain ⟨c1, c2, c3, c4⟩ := hp1.cells k (by omega)
  have hz : ((w1.setCell ⟨g, k * 2, none⟩ u).setCell ⟨g, k * 2 + 1, none⟩ v).heap.size = w1.heap.size := by simp [World.setCell]
  have hag : ∀ b, b ≠ g → ((w1.setCell ⟨g, k * 2, none⟩ u).setCell ⟨g, k * 2 + 1, none⟩ v).heap[b]? = w1.heap[b]? := fun b hne => by
    rw [Below.heap_setCell _ _ _ _ hne, Below.heap_setCell _ _ _ _ hne]
  refine ⟨_, _, c1, c2, c3, c4, ps.set k (u, v), fun j => if j = k then Came w' w1 else G j, by simp [hl], hp1.set k (by omega) u v, ⟨?_, ?_, ?_⟩, ((hB.trans (hb.mono hs0)).setCell hg _).setCell hg _, hg⟩
  · intro j hj b hGb
    unfold Came
    rw [hz]
    by_cases e : j = k
    · rw [if_pos e] at hGb
      obtain ⟨g1, g2⟩ := hGb
      exact ⟨⟨by omega, g2⟩, by omega⟩
    · rw [if_neg e] at hGb
      obtain ⟨⟨g1, g2⟩, g3⟩ := hP.1 j (by omega) b hGb
      exact ⟨⟨g1, by omega⟩, g3⟩
  · intro i j hij hj b hGb hGb2
    have hi : ¬ i = k := by omega
    rw [if_neg hi] at hGb
    by_cases e : j = k
    · rw [if_pos e] at hGb2
      have := (hP.1 i (by omega) b hGb).1.2
      have := hGb2.1
      omega
    · rw [if_neg e] at hGb2
      exact hP.2.1 i j hij (by omega) b hGb hGb2
  · intro j x p hj hx hpj
    dsimp only
    by_cases e : j = k
    · subst e
      rw [if_pos rfl]
      rw [List.getElem?_eq_getElem hk] at hx
      rw [List.getElem?_set_self (by omega)] at hpj
      obtain rfl := Option.some.inj hx
      obtain rfl := Option.some.inj hpj
      exact hK _ _ _ _ _ _ ho (fun b hb' => hag b (by have := hb'.1; omega))
    · rw [if_neg e]
      rw [List.getElem?_set_ne (by omega)] at hpj
      refine hK _ _ _ _ _ _ (hP.2.2 j x p (by omega) hx hpj) (fun b hb' => ?_)
      obtain ⟨⟨g1, g2⟩, g3⟩ := hP.1 j (by omega) b hb'
      rw [hag b g3, hb.block b (by omega)]
theorem Filling.done {α : Type} {T : TypeId} {E : (Nat → Prop) → World → α → Value → Value → Prop} {w : World} {g : Nat} {l : List α} {w' : World} (h : Filling T E w g l l.length w') (cap : Nat) : Own2 T E (Came w w') w' (.slice (some ⟨g, 0, none⟩) l.length cap) l := by
  obtain ⟨ps, G, hl, hp, hP, hB, hg⟩ := h
  exact ⟨_, cap, rfl, .inr ⟨g, ps, [], G, rfl, ⟨hg, hp.lt⟩, hl, hp, hP⟩⟩

/-- A row that append makes longer: its k parts lie in blocks from B on, none in the row's own. -/
def Growing {α : Type} (T : TypeId) (E : (Nat → Prop) → World → α → Value → Value → Prop) (B : Nat) (l : List α) (k : Nat) (v : Value) (w : World) : Prop :=
  ∃ (ps : List (Value × Value)) (G : Nat → Nat → Prop), ps.length = k ∧ w.ownsRow B T 2 v k (flat ps) ∧ B ≤ w.heap.size ∧ (∀ j, j < k → ∀ b, G j b → B ≤ b ∧ b < w.heap.size ∧ v.ownBlock ≠ some b) ∧ (∀ i j, i < j → j < k → ∀ b, G i b → ¬ G j b) ∧ ∀ j x p, j < k → l[j]? = some x → ps[j]? = some p → E (G j) w x p.1 p.2
theorem Growing.start {α : Type} {T : TypeId} {E : (Nat → Prop) → World → α → Value → Value → Prop} {B : Nat} {l : List α} {v : Value} {w : World} (h : w.ownsRow B T 2 v 0 []) (hB : B ≤ w.heap.size) : Growing T E B l 0 v w :=
  ⟨[], fun _ _ => False, rfl, h, hB, fun _ hj => absurd hj (Nat.not_lt_zero _), fun _ _ _ hj => absurd hj (Nat.not_lt_zero _), fun _ _ _ hj => absurd hj (Nat.not_lt_zero _)⟩
theorem Growing.keep {α : Type} {T : TypeId} {E : (Nat → Prop) → World → α → Value → Value → Prop} (hK : Keeps E) {B : Nat} {l : List α} {k : Nat} {v : Value} {w w' : World} (h : Growing T E B l k v w) (hs : w.heap.size ≤ w'.heap.size) (ha : ∀ b, B ≤ b → b < w.heap.size → w'.heap[b]? = w.heap[b]?) : Growing T E B l k v w' := by
  obtain ⟨ps, G, h1, h2, h3, h4, h5, h6⟩ := h
  refine ⟨ps, G, h1, ⟨h2.1, ?_⟩, by omega, fun j hj b hb => by have := h4 j hj b hb; exact ⟨this.1, by omega, this.2.2⟩, h5, fun j x p hj hx hp => hK _ _ _ _ _ _ (h6 j x p hj hx hp) (fun b hb => by have := h4 j hj b hb; exact ha b this.1 this.2.1)⟩
  rcases h2.2 with h7 | ⟨g, cap, cur, e1, e2, e3, e4⟩
  · exact .inl h7
  · refine .inr ⟨g, cap, cur, e1, e2, ?_, e4⟩
    rw [ha g e2 ?_]
    · exact e3
    · rcases Nat.lt_or_ge g w.heap.size with h | h
      · exact h
      · rw [Array.getElem?_eq_none h] at e3
        cases e3
/-- One part more: what the append needs, and what is behind it. -/
theorem Growing.step {α : Type} {T : TypeId} {E : (Nat → Prop) → World → α → Value → Value → Prop} (hK : Keeps E) {B : Nat} {l : List α} {k : Nat} {v : Value} {w w1 w2 : World} {x : α} {u1 v1 : Value} (h : Growing T E B l k v w) (hx : l[k]? = some x) (ho : E (Came w w1) w1 x u1 v1) (hb : Below w.heap.size w w1) (hb2 : Below w1.heap.size w1 w2) :
    ∃ ps, w2.ownsRow B T 2 v k (flat ps) ∧ B ≤ w2.heap.size ∧ ∀ g cap w3, w3.ownsRow B T 2 (.slice (some ⟨g, 0, none⟩) (k + 1) cap) (k + 1) (flat ps ++ [u1, v1]) → w2.grownBy w3 v.ownBlock → (v.ownBlock = some g ∨ g = w2.heap.size) →
      Growing T E B l (k + 1) (.slice (some ⟨g, 0, none⟩) (k + 1) cap) w3 ∧ (∀ b, b < B → w3.heap[b]? = w.heap[b]?) ∧ w3.os = w.os ∧ w3.tape = w.tape ∧ w3.output = w.output ∧ w.heap.size ≤ w3.heap.size := by
  have hs1 := hb.size
  have hs2 := hb2.size
  have hall : ∀ b, b < w.heap.size → w2.heap[b]? = w.heap[b]? := fun b hl => (hb2.block b (by omega)).trans (hb.block b hl)
  have hB : B ≤ w.heap.size := by
    obtain ⟨_, _, _, _, h3, _⟩ := h
    exact h3
  have hvl : ∀ g, v.ownBlock = some g → B ≤ g ∧ g < w.heap.size := by
    obtain ⟨_, _, _, h2, _⟩ := h
    exact h2.lt
  obtain ⟨ps, G, h1, h2, h3, h4, h5, h6⟩ := h.keep hK (w' := w2) (by omega) (fun b _ hl => hall b hl)
  have h4' : ∀ j, j < k → ∀ b, G j b → b < w.heap.size ∨ w.heap.size ≤ b := fun j _ b _ => by omega
  clear h4'
  obtain ⟨ps0, G0, k1, k2, k3, k4, k5, k6⟩ := h
  refine ⟨ps0, ?_, h3, ?_⟩
  · refine ⟨k2.1, ?_⟩
    rcases k2.2 with h7 | ⟨g, cap, cur, e1, e2, e3, e4⟩
    · exact .inl h7
    · exact .inr ⟨g, cap, cur, e1, e2, by rw [hall g (hvl g (by rw [e1]; rfl)).2]; exact e3, e4⟩
  · intro g cap w3 hown hg hat
    have hs3 := hg.size
    have hk3 : ∀ b, b < w2.heap.size → v.ownBlock ≠ some b → w3.heap[b]? = w2.heap[b]? := fun b hl hne => hg.block b hl (fun e => hne e.symm)
    have hne : ∀ b, b < w2.heap.size → v.ownBlock ≠ some b → g ≠ b := fun b hl hv e => by
      rcases hat with h | h
      · exact hv (by rw [h, e])
      · omega
    have hfl : flat ps0 ++ [u1, v1] = flat (ps0 ++ [(u1, v1)]) := by simp [flat]
    rw [hfl] at hown
    refine ⟨⟨ps0 ++ [(u1, v1)], fun j => if j = k then Came w w1 else G0 j, by simp [k1], hown, by omega, ?_, ?_, ?_⟩, ?_, hg.os.trans (hb2.os.trans hb.os), hg.tape.trans (hb2.tape.trans hb.tape), hg.output.trans (hb2.output.trans hb.output), by omega⟩
    · intro j hj b hGb
      by_cases e : j = k
      · rw [if_pos e] at hGb
        obtain ⟨g1, g2⟩ := hGb
        have hv : v.ownBlock ≠ some b := fun e => by have := (hvl b e).2; omega
        exact ⟨by omega, by omega, fun e => hne b (by omega) hv (by injection e)⟩
      · rw [if_neg e] at hGb
        obtain ⟨g1, g2, g3⟩ := k4 j (by omega) b hGb
        exact ⟨g1, by omega, fun e => hne b (by omega) g3 (by injection e)⟩
    · intro i j hij hj b hGb hGb2
      have hi : ¬ i = k := by omega
      rw [if_neg hi] at hGb
      by_cases e : j = k
      · rw [if_pos e] at hGb2
        have := (k4 i (by omega) b hGb).2.1
        have := hGb2.1
        omega
      · rw [if_neg e] at hGb2
        exact k5 i j hij (by omega) b hGb hGb2
    · intro j x' p hj hx' hpj
      dsimp only
      by_cases e : j = k
      · subst e
        rw [if_pos rfl]
        rw [hx] at hx'
        rw [List.getElem?_append_right (by omega), k1, Nat.sub_self] at hpj
        obtain rfl := Option.some.inj hx'
        obtain rfl := Option.some.inj hpj
        refine hK _ _ _ _ _ _ ho (fun b hb' => ?_)
        obtain ⟨g1, g2⟩ := hb'
        rw [hk3 b (by omega) (fun e => by have := (hvl b e).2; omega), hb2.block b g2]
      · rw [if_neg e]
        rw [List.getElem?_append_left (by omega)] at hpj
        refine hK _ _ _ _ _ _ (k6 j x' p (by omega) hx' hpj) (fun b hb' => ?_)
        obtain ⟨g1, g2, g3⟩ := k4 j (by omega) b hb'
        rw [hk3 b (by omega) g3, hall b g2]
    · intro b hl
      rw [hk3 b (by omega) (fun e => by have := (hvl b e).1; omega), hall b (by omega)]
theorem Growing.done {α : Type} {T : TypeId} {E : (Nat → Prop) → World → α → Value → Value → Prop} {B : Nat} {l : List α} {v : Value} {w : World} (h : Growing T E B l l.length v w) : Own2 T E (fun b => B ≤ b ∧ b < w.heap.size) w v l := by
  obtain ⟨ps, G, h1, h2, h3, h4, h5, h6⟩ := h
  rcases h2.2 with ⟨e1, e2⟩ | ⟨g, cap, cur, rfl, hb, hg, _, _, hc, ht⟩
  · exact ⟨none, 0, by rw [e1, e2], .inl (List.eq_nil_of_length_eq_zero e2)⟩
  · have hp : Pairs T w g ps (cur.toList.drop (l.length * 2)) := by
      unfold Pairs
      rw [hg, ← ht, List.take_append_drop, Array.toArray_toList]
    exact ⟨_, cap, rfl, .inr ⟨g, ps, _, G, rfl, ⟨hb, hp.lt⟩, h1, hp, fun j hj b hGb => ⟨⟨(h4 j hj b hGb).1, (h4 j hj b hGb).2.1⟩, fun e => (h4 j hj b hGb).2.2 (by rw [e]; rfl)⟩, h5, h6⟩⟩
end Go.Proofs.YtcalgjggmgnofaaDoor
