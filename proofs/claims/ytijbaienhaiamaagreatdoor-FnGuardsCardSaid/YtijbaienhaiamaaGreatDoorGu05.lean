/- What is proved here: a piece of the proof of YtijbaienhaiamaaGreatDoorGuards (SigOwn, Results, Find, ExBent). Condition: none beyond what each part says. -/
import Derived.Test.YtijbaienhaiamaaGreatDoorGu04
import Derived.Test.YtijbaienhaiamaaGreatDoorGu01
import Derived.Laws.Rows
import Derived.Deep.AppendLies
import Derived.Deep.RegionLaw

/- What is proved here: a signature in memory of the call's own (which blocks it lies in, that no two parts share one), read and kept. No condition. -/
section
namespace Go.Proofs.YtijbaienhaiamaaGreatDoor
open Go.RowKit

/-- w' holds in the blocks F what w holds there. -/
def Agree (F : Nat → Prop) (w w' : World) : Prop := ∀ b, F b → w'.heap[b]? = w.heap[b]?
/-- The cells of a row of pairs. -/
def flat (ps : List (Value × Value)) : List Value := ps.flatMap fun p => [p.1, p.2]
theorem flat_length (ps : List (Value × Value)) : (flat ps).length = 2 * ps.length := by
  induction ps with
  | nil => rfl
  | cons p r ih => simp [flat] at ih ⊢; omega
theorem flat_at (ps : List (Value × Value)) (rest : List Value) (j : Nat) (p : Value × Value) (h : ps[j]? = some p) : (flat ps ++ rest)[j * 2]? = some p.1 ∧ (flat ps ++ rest)[j * 2 + 1]? = some p.2 := by
  induction ps generalizing j with
  | nil => simp at h
  | cons q r ih =>
    cases j with
    | zero => simp at h; subst h; simp [flat]
    | succ j =>
      have := ih j (by simpa using h)
      have e : flat (q :: r) ++ rest = q.1 :: q.2 :: (flat r ++ rest) := by simp [flat]
      rw [e, show (j + 1) * 2 = j * 2 + 1 + 1 by omega]
      simpa using this
theorem flat_set (ps : List (Value × Value)) (rest : List Value) (j : Nat) (u v : Value) (h : j < ps.length) : ((flat ps ++ rest).set (j * 2) u).set (j * 2 + 1) v = flat (ps.set j (u, v)) ++ rest := by
  induction ps generalizing j with
  | nil => simp at h
  | cons q r ih =>
    have e : flat (q :: r) ++ rest = q.1 :: q.2 :: (flat r ++ rest) := by simp [flat]
    cases j with
    | zero => simp [flat]
    | succ j =>
      rw [e, show (j + 1) * 2 = j * 2 + 1 + 1 by omega]
      simp only [List.set_cons_succ]
      rw [ih j (by simpa using h)]
      simp [flat]

/-- A slice of texts in a block of F. -/
def OwnS (F : Nat → Prop) (w : World) (v : Value) (xs : List ByteArray) : Prop := ∃ a cap, v = .slice a xs.length cap ∧ (xs = [] ∨ ∃ g rest, a = some ⟨g, 0, none⟩ ∧ F g ∧ Block w g xs rest)
/-- Block g holds the pairs ps, then rest. -/
def Pairs (T : TypeId) (w : World) (g : Nat) (ps : List (Value × Value)) (rest : List Value) : Prop := w.heap[g]? = some (.cells (flat ps ++ rest).toArray T (0, 0))
/-- The parts of a row, k of them: each in blocks of its own; neither in g nor in another's. -/
def Parts {α : Type} (E : (Nat → Prop) → World → α → Value → Value → Prop) (w : World) (F : Nat → Prop) (g : Nat) (G : Nat → Nat → Prop) (l : List α) (ps : List (Value × Value)) (k : Nat) : Prop :=
  (∀ j, j < k → ∀ b, G j b → F b ∧ b ≠ g) ∧ (∀ i j, i < j → j < k → ∀ b, G i b → ¬ G j b) ∧ ∀ j x p, j < k → l[j]? = some x → ps[j]? = some p → E (G j) w x p.1 p.2
/-- A slice of pairs in a block of F, its parts in others of F. -/
def Own2 {α : Type} (T : TypeId) (E : (Nat → Prop) → World → α → Value → Value → Prop) (F : Nat → Prop) (w : World) (v : Value) (l : List α) : Prop :=
  ∃ a cap, v = .slice a l.length cap ∧ (l = [] ∨ ∃ g ps rest G, a = some ⟨g, 0, none⟩ ∧ F g ∧ ps.length = l.length ∧ Pairs T w g ps rest ∧ Parts E w F g G l ps l.length)
def OwnCon (F : Nat → Prop) (w : World) (c : ConD) (u v : Value) : Prop := u = .string c.name ∧ OwnS F w v c.args
def OwnType (F : Nat → Prop) (w : World) (t : TypeD) (u v : Value) : Prop := u = .string t.name ∧ Own2 127 OwnCon F w v t.cons
abbrev OwnSig (F : Nat → Prop) (w : World) (v : Value) (s : List TypeD) : Prop := Own2 130 OwnType F w v s

/-- Kept where the blocks of F are; and within more blocks. -/
def KeepsOwn {α : Type} (E : (Nat → Prop) → World → α → Value → Value → Prop) : Prop := ∀ F w w' x u v, E F w x u v → Agree F w w' → E F w' x u v
def Wider {α : Type} (E : (Nat → Prop) → World → α → Value → Value → Prop) : Prop := ∀ F F' w x u v, E F w x u v → (∀ b, F b → F' b) → E F' w x u v

theorem OwnS.keep {F : Nat → Prop} {w w' : World} {v : Value} {xs : List ByteArray} (h : OwnS F w v xs) (ha : Agree F w w') : OwnS F w' v xs := by
  obtain ⟨a, cap, hv, h | ⟨g, rest, h1, h2, h3⟩⟩ := h
  · exact ⟨a, cap, hv, .inl h⟩
  · refine ⟨a, cap, hv, .inr ⟨g, rest, h1, h2, ?_⟩⟩
    unfold Block
    rw [ha g h2]
    exact h3
theorem Parts.keep {α : Type} {E : (Nat → Prop) → World → α → Value → Value → Prop} (hE : KeepsOwn E) {w w' : World} {F : Nat → Prop} {g : Nat} {G : Nat → Nat → Prop} {l : List α} {ps : List (Value × Value)} {k : Nat} (h : Parts E w F g G l ps k) (ha : Agree (fun b => F b ∧ b ≠ g) w w') : Parts E w' F g G l ps k :=
  ⟨h.1, h.2.1, fun j x p hj hx hp => hE _ _ _ _ _ _ (h.2.2 j x p hj hx hp) (fun b hb => ha b (h.1 j hj b hb))⟩
theorem Own2.keep {α : Type} {T : TypeId} {E : (Nat → Prop) → World → α → Value → Value → Prop} (hE : KeepsOwn E) {F : Nat → Prop} {w w' : World} {v : Value} {l : List α} (h : Own2 T E F w v l) (ha : Agree F w w') : Own2 T E F w' v l := by
  obtain ⟨a, cap, hv, h | ⟨g, ps, rest, G, h1, h2, h3, h4, h5⟩⟩ := h
  · exact ⟨a, cap, hv, .inl h⟩
  · refine ⟨a, cap, hv, .inr ⟨g, ps, rest, G, h1, h2, h3, ?_, h5.keep hE (fun b hb => ha b hb.1)⟩⟩
    unfold Pairs
    rw [ha g h2]
    exact h4
theorem keeps_con : KeepsOwn OwnCon := fun _ _ _ _ _ _ h ha => ⟨h.1, h.2.keep ha⟩
theorem keeps_type : KeepsOwn OwnType := fun _ _ _ _ _ _ h ha => ⟨h.1, h.2.keep keeps_con ha⟩
theorem OwnS.wider {F F' : Nat → Prop} {w : World} {v : Value} {xs : List ByteArray} (h : OwnS F w v xs) (hF : ∀ b, F b → F' b) : OwnS F' w v xs := by
  obtain ⟨a, cap, hv, h | ⟨g, rest, h1, h2, h3⟩⟩ := h
  · exact ⟨a, cap, hv, .inl h⟩
  · exact ⟨a, cap, hv, .inr ⟨g, rest, h1, hF g h2, h3⟩⟩
theorem Own2.wider {α : Type} {T : TypeId} {E : (Nat → Prop) → World → α → Value → Value → Prop} {F F' : Nat → Prop} {w : World} {v : Value} {l : List α} (h : Own2 T E F w v l) (hF : ∀ b, F b → F' b) : Own2 T E F' w v l := by
  obtain ⟨a, cap, hv, h | ⟨g, ps, rest, G, h1, h2, h3, h4, h5, h6⟩⟩ := h
  · exact ⟨a, cap, hv, .inl h⟩
  · exact ⟨a, cap, hv, .inr ⟨g, ps, rest, G, h1, hF g h2, h3, h4, fun j hj b hb => ⟨hF b (h5 j hj b hb).1, (h5 j hj b hb).2⟩, h6⟩⟩
theorem wider_con : Wider OwnCon := fun _ _ _ _ _ _ h hF => ⟨h.1, h.2.wider hF⟩
theorem wider_type : Wider OwnType := fun _ _ _ _ _ _ h hF => ⟨h.1, h.2.wider hF⟩

/-- What is owned reads. -/
theorem OwnS.reads {F : Nat → Prop} {w : World} {v : Value} {xs : List ByteArray} (h : OwnS F w v xs) : ∃ a cap, v = .slice a xs.length cap ∧ Reads w a xs := by
  obtain ⟨a, cap, hv, rfl | ⟨g, rest, rfl, h2, h3⟩⟩ := h
  · exact ⟨a, cap, hv, fun j hj => absurd hj (by simp)⟩
  · exact ⟨_, cap, hv, h3.reads⟩
theorem Own2.reads {α : Type} {T : TypeId} {E : (Nat → Prop) → World → α → Value → Value → Prop} {R : World → α → Value → Value → Prop} (hE : ∀ F w x u v, E F w x u v → R w x u v) {F : Nat → Prop} {w : World} {v : Value} {l : List α} (h : Own2 T E F w v l) : ∃ a cap, v = .slice a l.length cap ∧ Row2 R w a l := by
  obtain ⟨a, cap, hv, rfl | ⟨g, ps, rest, G, rfl, h2, h3, h4, h5⟩⟩ := h
  · exact ⟨a, cap, hv, fun j hj => absurd hj (by simp)⟩
  · refine ⟨_, cap, hv, fun j hj => ?_⟩
    obtain ⟨p, hp⟩ : ∃ p, ps[j]? = some p := ⟨ps[j]'(by omega), List.getElem?_eq_getElem (by omega)⟩
    have hr := hE _ _ _ _ _ (h5.2.2 j l[j] p hj (List.getElem?_eq_getElem hj) hp)
    have hf := flat_at ps rest j p hp
    have e : (⟨g, 0, none⟩ : Addr).add (j * 2) = ⟨g, j * 2, none⟩ := by simp [Addr.add]; intro h; omega
    refine ⟨_, p.1, p.2, rfl, ?_, ?_, hr⟩
    · rw [e]
      unfold Pairs at h4
      simp [World.cell?, h4, hf.1]
    · rw [e]
      unfold Pairs at h4
      simp [World.cell?, h4, hf.2]
theorem OwnCon.reads (F : Nat → Prop) (w : World) (c : ConD) (u v : Value) (h : OwnCon F w c u v) : ConAt w c u v := by
  obtain ⟨hu, h⟩ := h
  obtain ⟨a, cap, hv, hr⟩ := h.reads
  exact ⟨a, cap, hu, hv, hr⟩
theorem OwnType.reads (F : Nat → Prop) (w : World) (t : TypeD) (u v : Value) (h : OwnType F w t u v) : TypeAt w t u v := by
  obtain ⟨hu, h⟩ := h
  obtain ⟨a, cap, hv, hr⟩ := h.reads OwnCon.reads
  exact ⟨a, cap, hu, hv, hr⟩
theorem OwnSig.reads {F : Nat → Prop} {w : World} {v : Value} {s : List TypeD} (h : OwnSig F w v s) : ∃ a cap, v = .slice a s.length cap ∧ Row2 TypeAt w a s := Own2.reads OwnType.reads h

/-- The blocks that came between two worlds. -/
def Came (w w' : World) (b : Nat) : Prop := w.heap.size ≤ b ∧ b < w'.heap.size

/-- A row that is being filled: k of its parts are there, in blocks that came since w; the row itself is block g. -/
def Filling {α : Type} (T : TypeId) (E : (Nat → Prop) → World → α → Value → Value → Prop) (w : World) (g : Nat) (l : List α) (k : Nat) (w' : World) : Prop :=
  ∃ ps G, ps.length = l.length ∧ Pairs T w' g ps [] ∧ Parts E w' (Came w w') g G l ps k ∧ Below w.heap.size w w' ∧ w.heap.size ≤ g
theorem Filling.below {α : Type} {T : TypeId} {E : (Nat → Prop) → World → α → Value → Value → Prop} {w : World} {g : Nat} {l : List α} {k : Nat} {w' : World} (h : Filling T E w g l k w') : Below w.heap.size w w' := by
  obtain ⟨_, _, _, _, _, h, _⟩ := h
  exact h
theorem Pairs.lt {T : TypeId} {w : World} {g : Nat} {ps : List (Value × Value)} {rest : List Value} (h : Pairs T w g ps rest) : g < w.heap.size := by
  rcases Nat.lt_or_ge g w.heap.size with h1 | h1
  · exact h1
  · unfold Pairs at h
    rw [Array.getElem?_eq_none h1] at h
    cases h
theorem Pairs.cells {T : TypeId} {w : World} {g : Nat} {ps : List (Value × Value)} {rest : List Value} (h : Pairs T w g ps rest) (k : Nat) (hk : k < ps.length) :
    w.cell? ⟨g, k * 2, none⟩ = some ps[k].1 ∧ w.cell? ⟨g, k * 2 + 1, none⟩ = some ps[k].2 ∧ w.frozen? ⟨g, k * 2, none⟩ = false ∧ w.frozen? ⟨g, k * 2 + 1, none⟩ = false := by
  have hf := flat_at ps rest k ps[k] (List.getElem?_eq_getElem hk)
  unfold Pairs at h
  refine ⟨?_, ?_, ?_, ?_⟩
  · simp [World.cell?, h, hf.1]
  · simp [World.cell?, h, hf.2]
  · simp [World.frozen?, h]
  · simp [World.frozen?, h]
theorem Pairs.set {T : TypeId} {w : World} {g : Nat} {ps : List (Value × Value)} {rest : List Value} (h : Pairs T w g ps rest) (k : Nat) (hk : k < ps.length) (u v : Value) : Pairs T ((w.setCell ⟨g, k * 2, none⟩ u).setCell ⟨g, k * 2 + 1, none⟩ v) g (ps.set k (u, v)) rest := by
  unfold Pairs at h ⊢
  rw [← flat_set ps rest k u v hk]
  simp [World.setCell, Array.getElem?_modify, h]
/-- One part more: what the walk needs at the store, and the row behind it. -/
theorem Filling.step {α : Type} {T : TypeId} {E : (Nat → Prop) → World → α → Value → Value → Prop} (hK : KeepsOwn E) {w : World} {g : Nat} {l : List α} {k : Nat} {w' w1 : World} {u v : Value} (h : Filling T E w g l k w') (hk : k < l.length) (ho : E (Came w' w1) w1 l[k] u v) (hb : Below w'.heap.size w' w1) :
    ∃ x y, w1.cell? ⟨g, k * 2, none⟩ = some x ∧ w1.cell? ⟨g, k * 2 + 1, none⟩ = some y ∧ w1.frozen? ⟨g, k * 2, none⟩ = false ∧ w1.frozen? ⟨g, k * 2 + 1, none⟩ = false ∧ Filling T E w g l (k + 1) ((w1.setCell ⟨g, k * 2, none⟩ u).setCell ⟨g, k * 2 + 1, none⟩ v) := by
  obtain ⟨ps, G, hl, hp, hP, hB, hg⟩ := h
  have hgl := hp.lt
  have hs := hb.size
  have hs0 := hB.size
  have hp1 : Pairs T w1 g ps [] := by
    unfold Pairs
    rw [hb.block g hgl]
    exact hp
  obtain ⟨c1, c2, c3, c4⟩ := hp1.cells k (by omega)
  have hz : ((w1.setCell ⟨g, k * 2, none⟩ u).setCell ⟨g, k * 2 + 1, none⟩ v).heap.size = w1.heap.size := by simp [World.setCell]
  have hag : ∀ b, b ≠ g → ((w1.setCell ⟨g, k * 2, none⟩ u).setCell ⟨g, k * 2 + 1, none⟩ v).heap[b]? = w1.heap[b]? := fun b hne => by
    rw [Below.heap_setCell _ _ _ _ hne, Below.heap_setCell _ _ _ _ hne]
  refine ⟨_, _, c1, c2, c3, c4, ps.set k (u, v), fun j => if j = k then Came w' w1 else G j, by simp [hl], hp1.set k (by omega) u v, ⟨?_, ?_, ?_⟩, ((hB.trans (hb.mono hs0)).setCell hg _).setCell hg _, hg⟩
  · intro j hj b hGb
    unfold Came
    rw [hz]
    by_cases e : j = k
    · rw [if_pos e] at hGb
      obtain ⟨g1, g2⟩ := hGb
      exact ⟨⟨by omega, g2⟩, by omega⟩
    · rw [if_neg e] at hGb
      obtain ⟨⟨g1, g2⟩, g3⟩ := hP.1 j (by omega) b hGb
      exact ⟨⟨g1, by omega⟩, g3⟩
  · intro i j hij hj b hGb hGb2
    have hi : ¬ i = k := by omega
    rw [if_neg hi] at hGb
    by_cases e : j = k
    · rw [if_pos e] at hGb2
      have := (hP.1 i (by omega) b hGb).1.2
      have := hGb2.1
      omega
    · rw [if_neg e] at hGb2
      exact hP.2.1 i j hij (by omega) b hGb hGb2
  · intro j x p hj hx hpj
    dsimp only
    by_cases e : j = k
    · subst e
      rw [if_pos rfl]
      rw [List.getElem?_eq_getElem hk] at hx
      rw [List.getElem?_set_self (by omega)] at hpj
      obtain rfl := Option.some.inj hx
      obtain rfl := Option.some.inj hpj
      exact hK _ _ _ _ _ _ ho (fun b hb' => hag b (by have := hb'.1; omega))
    · rw [if_neg e]
      rw [List.getElem?_set_ne (by omega)] at hpj
      refine hK _ _ _ _ _ _ (hP.2.2 j x p (by omega) hx hpj) (fun b hb' => ?_)
      obtain ⟨⟨g1, g2⟩, g3⟩ := hP.1 j (by omega) b hb'
      rw [hag b g3, hb.block b (by omega)]
theorem Filling.done {α : Type} {T : TypeId} {E : (Nat → Prop) → World → α → Value → Value → Prop} {w : World} {g : Nat} {l : List α} {w' : World} (h : Filling T E w g l l.length w') (cap : Nat) : Own2 T E (Came w w') w' (.slice (some ⟨g, 0, none⟩) l.length cap) l := by
  obtain ⟨ps, G, hl, hp, hP, hB, hg⟩ := h
  exact ⟨_, cap, rfl, .inr ⟨g, ps, [], G, rfl, ⟨hg, hp.lt⟩, hl, hp, hP⟩⟩

/-- A row that append makes longer: its k parts lie in blocks from B on, none in the row's own. -/
def Growing {α : Type} (T : TypeId) (E : (Nat → Prop) → World → α → Value → Value → Prop) (B : Nat) (l : List α) (k : Nat) (v : Value) (w : World) : Prop :=
  ∃ (ps : List (Value × Value)) (G : Nat → Nat → Prop), ps.length = k ∧ w.ownsRow B T 2 v k (flat ps) ∧ B ≤ w.heap.size ∧ (∀ j, j < k → ∀ b, G j b → B ≤ b ∧ b < w.heap.size ∧ v.ownBlock ≠ some b) ∧ (∀ i j, i < j → j < k → ∀ b, G i b → ¬ G j b) ∧ ∀ j x p, j < k → l[j]? = some x → ps[j]? = some p → E (G j) w x p.1 p.2
theorem Growing.start {α : Type} {T : TypeId} {E : (Nat → Prop) → World → α → Value → Value → Prop} {B : Nat} {l : List α} {v : Value} {w : World} (h : w.ownsRow B T 2 v 0 []) (hB : B ≤ w.heap.size) : Growing T E B l 0 v w :=
  ⟨[], fun _ _ => False, rfl, h, hB, fun _ hj => absurd hj (Nat.not_lt_zero _), fun _ _ _ hj => absurd hj (Nat.not_lt_zero _), fun _ _ _ hj => absurd hj (Nat.not_lt_zero _)⟩
theorem Growing.keep {α : Type} {T : TypeId} {E : (Nat → Prop) → World → α → Value → Value → Prop} (hK : KeepsOwn E) {B : Nat} {l : List α} {k : Nat} {v : Value} {w w' : World} (h : Growing T E B l k v w) (hs : w.heap.size ≤ w'.heap.size) (ha : ∀ b, B ≤ b → b < w.heap.size → w'.heap[b]? = w.heap[b]?) : Growing T E B l k v w' := by
  obtain ⟨ps, G, h1, h2, h3, h4, h5, h6⟩ := h
  refine ⟨ps, G, h1, ⟨h2.1, ?_⟩, by omega, fun j hj b hb => by have := h4 j hj b hb; exact ⟨this.1, by omega, this.2.2⟩, h5, fun j x p hj hx hp => hK _ _ _ _ _ _ (h6 j x p hj hx hp) (fun b hb => by have := h4 j hj b hb; exact ha b this.1 this.2.1)⟩
  rcases h2.2 with h7 | ⟨g, cap, cur, e1, e2, e3, e4⟩
  · exact .inl h7
  · refine .inr ⟨g, cap, cur, e1, e2, ?_, e4⟩
    rw [ha g e2 ?_]
    · exact e3
    · rcases Nat.lt_or_ge g w.heap.size with h | h
      · exact h
      · rw [Array.getElem?_eq_none h] at e3
        cases e3
/-- One part more: what the append needs, and what is behind it. -/
theorem Growing.step {α : Type} {T : TypeId} {E : (Nat → Prop) → World → α → Value → Value → Prop} (hK : KeepsOwn E) {B : Nat} {l : List α} {k : Nat} {v : Value} {w w1 w2 : World} {x : α} {u1 v1 : Value} (h : Growing T E B l k v w) (hx : l[k]? = some x) (ho : E (Came w w1) w1 x u1 v1) (hb : Below w.heap.size w w1) (hb2 : Below w1.heap.size w1 w2) :
    ∃ ps, w2.ownsRow B T 2 v k (flat ps) ∧ B ≤ w2.heap.size ∧ ∀ g cap w3, w3.ownsRow B T 2 (.slice (some ⟨g, 0, none⟩) (k + 1) cap) (k + 1) (flat ps ++ [u1, v1]) → w2.grownBy w3 v.ownBlock → (v.ownBlock = some g ∨ g = w2.heap.size) →
      Growing T E B l (k + 1) (.slice (some ⟨g, 0, none⟩) (k + 1) cap) w3 ∧ (∀ b, b < B → w3.heap[b]? = w.heap[b]?) ∧ w3.os = w.os ∧ w3.tape = w.tape ∧ w3.output = w.output ∧ w.heap.size ≤ w3.heap.size := by
  have hs1 := hb.size
  have hs2 := hb2.size
  have hall : ∀ b, b < w.heap.size → w2.heap[b]? = w.heap[b]? := fun b hl => (hb2.block b (by omega)).trans (hb.block b hl)
  have hB : B ≤ w.heap.size := by
    obtain ⟨_, _, _, _, h3, _⟩ := h
    exact h3
  have hvl : ∀ g, v.ownBlock = some g → B ≤ g ∧ g < w.heap.size := by
    obtain ⟨_, _, _, h2, _⟩ := h
    exact h2.lt
  obtain ⟨ps, G, h1, h2, h3, h4, h5, h6⟩ := h.keep hK (w' := w2) (by omega) (fun b _ hl => hall b hl)
  have h4' : ∀ j, j < k → ∀ b, G j b → b < w.heap.size ∨ w.heap.size ≤ b := fun j _ b _ => by omega
  clear h4'
  obtain ⟨ps0, G0, k1, k2, k3, k4, k5, k6⟩ := h
  refine ⟨ps0, ?_, h3, ?_⟩
  · refine ⟨k2.1, ?_⟩
    rcases k2.2 with h7 | ⟨g, cap, cur, e1, e2, e3, e4⟩
    · exact .inl h7
    · exact .inr ⟨g, cap, cur, e1, e2, by rw [hall g (hvl g (by rw [e1]; rfl)).2]; exact e3, e4⟩
  · intro g cap w3 hown hg hat
    have hs3 := hg.size
    have hk3 : ∀ b, b < w2.heap.size → v.ownBlock ≠ some b → w3.heap[b]? = w2.heap[b]? := fun b hl hne => hg.block b hl (fun e => hne e.symm)
    have hne : ∀ b, b < w2.heap.size → v.ownBlock ≠ some b → g ≠ b := fun b hl hv e => by
      rcases hat with h | h
      · exact hv (by rw [h, e])
      · omega
    have hfl : flat ps0 ++ [u1, v1] = flat (ps0 ++ [(u1, v1)]) := by simp [flat]
    rw [hfl] at hown
    refine ⟨⟨ps0 ++ [(u1, v1)], fun j => if j = k then Came w w1 else G0 j, by simp [k1], hown, by omega, ?_, ?_, ?_⟩, ?_, hg.os.trans (hb2.os.trans hb.os), hg.tape.trans (hb2.tape.trans hb.tape), hg.output.trans (hb2.output.trans hb.output), by omega⟩
    · intro j hj b hGb
      by_cases e : j = k
      · rw [if_pos e] at hGb
        obtain ⟨g1, g2⟩ := hGb
        have hv : v.ownBlock ≠ some b := fun e => by have := (hvl b e).2; omega
        exact ⟨by omega, by omega, fun e => hne b (by omega) hv (by injection e)⟩
      · rw [if_neg e] at hGb
        obtain ⟨g1, g2, g3⟩ := k4 j (by omega) b hGb
        exact ⟨g1, by omega, fun e => hne b (by omega) g3 (by injection e)⟩
    · intro i j hij hj b hGb hGb2
      have hi : ¬ i = k := by omega
      rw [if_neg hi] at hGb
      by_cases e : j = k
      · rw [if_pos e] at hGb2
        have := (k4 i (by omega) b hGb).2.1
        have := hGb2.1
        omega
      · rw [if_neg e] at hGb2
        exact k5 i j hij (by omega) b hGb hGb2
    · intro j x' p hj hx' hpj
      dsimp only
      by_cases e : j = k
      · subst e
        rw [if_pos rfl]
        rw [hx] at hx'
        rw [List.getElem?_append_right (by omega), k1, Nat.sub_self] at hpj
        obtain rfl := Option.some.inj hx'
        obtain rfl := Option.some.inj hpj
        refine hK _ _ _ _ _ _ ho (fun b hb' => ?_)
        obtain ⟨g1, g2⟩ := hb'
        rw [hk3 b (by omega) (fun e => by have := (hvl b e).2; omega), hb2.block b g2]
      · rw [if_neg e]
        rw [List.getElem?_append_left (by omega)] at hpj
        refine hK _ _ _ _ _ _ (k6 j x' p (by omega) hx' hpj) (fun b hb' => ?_)
        obtain ⟨g1, g2, g3⟩ := k4 j (by omega) b hb'
        rw [hk3 b (by omega) g3, hall b g2]
    · intro b hl
      rw [hk3 b (by omega) (fun e => by have := (hvl b e).1; omega), hall b (by omega)]
theorem Growing.done {α : Type} {T : TypeId} {E : (Nat → Prop) → World → α → Value → Value → Prop} {B : Nat} {l : List α} {v : Value} {w : World} (h : Growing T E B l l.length v w) : Own2 T E (fun b => B ≤ b ∧ b < w.heap.size) w v l := by
  obtain ⟨ps, G, h1, h2, h3, h4, h5, h6⟩ := h
  rcases h2.2 with ⟨e1, e2⟩ | ⟨g, cap, cur, rfl, hb, hg, _, _, hc, ht⟩
  · exact ⟨none, 0, by rw [e1, e2], .inl (List.eq_nil_of_length_eq_zero e2)⟩
  · have hp : Pairs T w g ps (cur.toList.drop (l.length * 2)) := by
      unfold Pairs
      rw [hg, ← ht, List.take_append_drop, Array.toArray_toList]
    exact ⟨_, cap, rfl, .inr ⟨g, ps, _, G, rfl, ⟨hb, hp.lt⟩, h1, hp, fun j hj b hGb => ⟨⟨(h4 j hj b hGb).1, (h4 j hj b hGb).2.1⟩, fun e => (h4 j hj b hGb).2.2 (by rw [e]; rfl)⟩, h5, h6⟩⟩
end Go.Proofs.YtijbaienhaiamaaGreatDoor
end

/- What is proved here: results of which the first lies in a cell. No condition. -/
section
namespace Go.Proofs.YtijbaienhaiamaaGreatDoor
open Go.RowKit

theorem results_row_tmp {P : Program} {fn : Func} {p u : Tmp} {ty : TypeId} (h : fn.results = #[.cell p ty, .tmp u]) (tmps : Array Value) (w : World) (g : Nat) (t : TypeId) (cs : Array Value) (fr : Nat × Nat) (d : TypeDesc)
    (hp : tmps.getD p undef = .pointer (some ⟨g, 0, none⟩)) (hg : w.heap[g]? = some (.cells cs t fr))
    (hu : P.underlying ty = some d) (hd : (match d with | .struct _ | .array _ _ => true | _ => false) = true) (hi : (P.info? ty).map (·.size) = some cs.size) :
    (results fn tmps).run P w = .ok (.tuple #[.agg cs, tmps.getD u undef]) w := by
  have hp' : tmps[p]?.getD undef = .pointer (some ⟨g, 0, none⟩) := by simpa using hp
  simp [results, h, hp', asAddr, run_loadVar_row w g t ty cs fr d hg hu hd hi]
theorem results_row_tmp2 {P : Program} {fn : Func} {p u v : Tmp} {ty : TypeId} (h : fn.results = #[.cell p ty, .tmp u, .tmp v]) (tmps : Array Value) (w : World) (g : Nat) (t : TypeId) (cs : Array Value) (fr : Nat × Nat) (d : TypeDesc)
    (hp : tmps.getD p undef = .pointer (some ⟨g, 0, none⟩)) (hg : w.heap[g]? = some (.cells cs t fr))
    (hu : P.underlying ty = some d) (hd : (match d with | .struct _ | .array _ _ => true | _ => false) = true) (hi : (P.info? ty).map (·.size) = some cs.size) :
    (results fn tmps).run P w = .ok (.tuple #[.agg cs, tmps.getD u undef, tmps.getD v undef]) w := by
  have hp' : tmps[p]?.getD undef = .pointer (some ⟨g, 0, none⟩) := by simpa using hp
  simp [results, h, hp', asAddr, run_loadVar_row w g t ty cs fr d hg hu hd hi]
end Go.Proofs.YtijbaienhaiamaaGreatDoor
end

/- What is proved here: the first element of a list that a test picks, by its place; the first type, the first constructor of a name. No condition. -/
section
namespace Go.Proofs.YtijbaienhaiamaaGreatDoor
open Go.RowKit

theorem find_at {α : Type} (p : α → Bool) (l : List α) (k : Nat) (x : α) (hx : l[k]? = some x) (hp : p x = true) (hne : ∀ (j : Nat) y, j < k → l[j]? = some y → p y = false) : l.find? p = some x := by
  induction l generalizing k with
  | nil => simp at hx
  | cons z r ih =>
    cases k with
    | zero =>
      simp at hx
      subst hx
      simp [List.find?, hp]
    | succ k =>
      have h0 := hne 0 z (by omega) (by simp)
      rw [List.find?_cons_of_neg (by simp [h0])]
      exact ih k (by simpa using hx) (fun j y hj hy => hne (j + 1) y (by omega) (by simpa using hy))
theorem find_no {α : Type} (p : α → Bool) (l : List α) (hne : ∀ (j : Nat) y, l[j]? = some y → p y = false) : l.find? p = none := by
  rw [List.find?_eq_none]
  intro x hx
  obtain ⟨j, hj, e⟩ := List.mem_iff_getElem.1 hx
  simp [hne j x (by rw [List.getElem?_eq_getElem hj, e])]

def TypeD.named (nm : ByteArray) (t : TypeD) : Bool := t.name.toList == nm.toList
def ConD.named (nm : ByteArray) (c : ConD) : Bool := c.name.toList == nm.toList
/-- The first type of a name. -/
def theType (s : List TypeD) (nm : ByteArray) : Option TypeD := s.find? (TypeD.named nm)
def hasCon (nm : ByteArray) (t : TypeD) : Bool := (t.cons.find? (ConD.named nm)).isSome
/-- The first constructor of a name, with the name of its type. -/
def theCon (s : List TypeD) (nm : ByteArray) : Option (ConD × ByteArray) := (s.find? (hasCon nm)).bind fun t => (t.cons.find? (ConD.named nm)).map fun c => (c, t.name)
theorem two_alloc (w : World) (o0 o1 : Obj) : ((w.alloc o0).alloc o1).heap.size = w.heap.size + 1 + 1 ∧ ((w.alloc o0).alloc o1).heap[w.heap.size]? = some o0 ∧ ((w.alloc o0).alloc o1).heap[w.heap.size + 1]? = some o1 ∧ Below w.heap.size w ((w.alloc o0).alloc o1) := by
  have s1 : (w.alloc o0).heap.size = w.heap.size + 1 := Array.size_push _
  have s2 : ((w.alloc o0).alloc o1).heap.size = (w.alloc o0).heap.size + 1 := Array.size_push _
  refine ⟨by omega, ?_, ?_, ((Below.refl _ _).alloc (Nat.le_refl _) _).alloc (by omega) _⟩
  · rw [Below.heap_alloc _ _ _ (by omega)]
    exact heap_at_new w o0
  · rw [← s1]
    exact heap_at_new _ o1

theorem block_of_cell {w : World} {p : Addr} {v : Value} (h : w.cell? p = some v) : p.block < w.heap.size := by
  rcases Nat.lt_or_ge p.block w.heap.size with h1 | h1
  · exact h1
  · simp [World.cell?, Array.getElem?_eq_none h1] at h
end Go.Proofs.YtijbaienhaiamaaGreatDoor
end

/- What is proved here: drawn and bent expressions (package spec, l7Bent). Condition: the cursor's block holds a cursor. -/
section
namespace Go.Proofs.YtijbaienhaiamaaGreatDoor.Ex
open Go.RowKit

theorem draw_any3 (N M : Nat) (x : Int) (x0 : 0 ≤ x) (x1 : x < 3) : DrawOk N M (1 + x) 14 := by
  intro w hc hM hne
  have h : x = 0 ∨ x = 1 ∨ x = 2 := by omega
  rcases h with rfl | rfl | rfl
  · exact ((draw3 N M).1 w hc hM hne).mono (fun e w' h => h.more (by omega))
  · exact ((draw3 N M).2.1 w hc hM hne).mono (fun e w' h => h.more (by omega))
  · exact (draw3 N M).2.2 w hc hM hne
def bentInts : List Int := [0, 8, 7, 999999999999, 1000000000000, 9223372036854775807]
theorem bentInts_small : ∀ x ∈ bentInts, -9223372036854775807 ≤ x ∧ x ≤ 9223372036854775807 := by decide

set_option maxHeartbeats 8000000 in
set_option maxRecDepth 100000 in
theorem bent_any (N : Nat) (w : World) (hc : Cur N w) : Calls Tryz.prog 82 #[.pointer (some ⟨N, 0, none⟩)] w (Drawn 9223372036854775807 N 100 w) := by
  have hi : (Tryz.prog.info? 54).map (fun i => (i.zero, i.size, i.bytes)) = some (some (.agg #[.int .i64 0, .int .i64 0, .string ⟨#[]⟩, .slice none 0 0]), 4, 56) := by kernel_rfl
  obtain ⟨i0, hi, hz0, hz1, hz2⟩ := info_parts hi
  have hNw := hc.lt
  obtain ⟨w2, hw2⟩ : ∃ w2, w2 = (w.alloc (.cells #[.int .i64 0, .int .i64 0, .string ⟨#[]⟩, .slice none 0 0] 54)).alloc (.cells (exNames.map Value.string).toArray 9) := ⟨_, rfl⟩
  have hs1 := CurStep.alloc hc (.cells #[.int .i64 0, .int .i64 0, .string ⟨#[]⟩, .slice none 0 0] 54)
  have hs2 := hs1.trans (CurStep.alloc hs1.1 (.cells (exNames.map Value.string).toArray 9))
  have hb := two_alloc w (.cells #[.int .i64 0, .int .i64 0, .string ⟨#[]⟩, .slice none 0 0] 54) (.cells (exNames.map Value.string).toArray 9)
  rw [← hw2] at hs2 hb
  have HW2 := Lib.hid hw2
  have HS2 := Lib.hid hs2
  have HR2 : Hid (Go.Proofs.YtijbaienhaiamaaGreatDoor.BoxAt w2 w.heap.size 0 0 ⟨#[]⟩ none 0 0 54 ∧ w2.heap[w.heap.size + 1]? = some (.cells (exNames.map Value.string).toArray 9 (0, 0)) ∧ w.heap.size + 2 ≤ w2.heap.size) := ⟨hb.2.1, hb.2.2.1, by have := hb.1; omega⟩
  have HNW := Lib.hid hNw
  clear hs1 hs2 hb hw2 hNw hc
  go_enter Tryz.func82, Tryz.ntmps82
  go_wp2_with fail
  change Calls _ _ _ ((w.alloc (.cells #[.int .i64 0, .int .i64 0, .string ⟨#[]⟩, .slice none 0 0] 54)).alloc (.cells (exNames.map Value.string).toArray 9)) _
  rw [← HW2.out]
  refine (below_any N 3 (by omega) (by omega) w2 HS2.out.1).mono ?_
  rintro e w3 ⟨x, x0, x1, rfl, hs3⟩
  have HS3 := Lib.hid (HS2.out.trans hs3)
  have HR3 : Hid (Go.Proofs.YtijbaienhaiamaaGreatDoor.BoxAt w3 w.heap.size 0 0 ⟨#[]⟩ none 0 0 54 ∧ w3.heap[w.heap.size + 1]? = some (.cells (exNames.map Value.string).toArray 9 (0, 0)) ∧ w.heap.size + 2 ≤ w3.heap.size) := ⟨(hs3.2.block _ (by have := HR2.out.2.2; omega) (fun e => by injection e with e; have := HNW.out; omega)).trans HR2.out.1, (hs3.2.block _ (by have := HR2.out.2.2; omega) (fun e => by injection e with e; have := HNW.out; omega)).trans HR2.out.2.1, by have := hs3.size; have := HR2.out.2.2; omega⟩
  have HD := Lib.hid (draw_any3 N (w.heap.size + 1) x x0 x1 w3 HS3.out.1 HR3.out.2.1 (by have := HNW.out; omega))
  clear hs3 HS2 HR2 HW2
  go_wp2_with fail
  refine HD.out.mono ?_
  rintro e w4 ⟨k, n, t, v, F, bs, xs, rfl, hG, hcn, htm, hk, hn, ht, hs4⟩
  obtain ⟨a, ca, rfl⟩ := hG.form
  obtain ⟨w5, hw5⟩ : ∃ w5, w5 = w4.alloc (.cells #[.int .i64 k, .int .i64 n, .string t, .slice a F.length ca] 54) := ⟨_, rfl⟩
  have hal : Below w4.heap.size w4 w5 := by rw [hw5]; exact (Below.refl _ _).alloc (Nat.le_refl _) _
  have hvb : w5.heap[w4.heap.size]? = some (.cells #[.int .i64 k, .int .i64 n, .string t, .slice a F.length ca] 54 (0, 0)) := by rw [hw5]; exact heap_at_new w4 _
  have hz5 : w5.heap.size = w4.heap.size + 1 := by rw [hw5]; exact Array.size_push _
  have hR4 : Go.Proofs.YtijbaienhaiamaaGreatDoor.BoxAt w4 w.heap.size 0 0 ⟨#[]⟩ none 0 0 54 := (hs4.2.block _ (by have := HR3.out.2.2; omega) (fun e => by injection e with e; have := HNW.out; omega)).trans HR3.out.1
  have hM5 : BentMem N 14 w w4.heap.size w3.heap.size k n t (.slice a F.length ca) F bs xs w5 :=
    ⟨hR4.below hal, hvb, hG.below hal, hG.apart (Nat.le_refl _), (hs4.1).later (grown_of_below hal) (fun g e => by cases e), grown_join (HS3.out.2) (grown_join hs4.2 (grown_of_below hal) (fun g e => by cases e)) (fun g e => by injection e with e; exact .inl e.symm), ⟨by have := HR3.out.2.2; omega, hs4.size, by omega⟩, hcn, htm, hk, ⟨by omega, by omega⟩, ht⟩
  have HM5 := Lib.hid hM5
  have HNB := Lib.hid hn
  have HW5 := Lib.hid hw5
  clear hal hvb hz5 hw5 hR4 hM5 hG hcn htm hk hn ht hs4 HD HS3 HR3
  go_wp2_with fail
  rw [← HW5.out]
  refine (below_any N 10 (by omega) (by omega) w5 HM5.out.cur).mono ?_
  rintro e w6 ⟨y, y0, y1, rfl, hs6⟩
  have HM6 := Lib.hid (HM5.out.step HNW.out hs6)
  clear hs6 HM5 HW5
  have HM6r : Hid (w.heap.size < w4.heap.size) := by have := HM6.out.room; unfold Hid; omega
  obtain ⟨v0, v1, v2, v3, g0, g1, g2, g3⟩ := four_cells HM6.out.vbox
  obtain ⟨r0, r1, r2, r3, f0, f1, f2, f3⟩ := four_cells HM6.out.res
  by_cases c0 : y = 0
  · subst c0
    go_wp2_with fail
    refine (below_any N 6 (by omega) (by omega) w6 HM6.out.cur).mono ?_
    rintro e w7 ⟨z, z0, z1, rfl, hs7⟩
    have HM7 := Lib.hid (HM6.out.step HNW.out hs7)
    clear hs7 v0 v1 v2 v3 g0 g1 g2 g3 r0 r1 r2 r3 f0 f1 f2 f3 HM6
    obtain ⟨v0, v1, v2, v3, g0, g1, g2, g3⟩ := four_cells HM7.out.vbox
    obtain ⟨r0, r1, r2, r3, f0, f1, f2, f3⟩ := four_cells HM7.out.res
    have HM8 := Lib.hid (HM7.out.store HNW.out 0 (.int .i64 z) (four_set HM7.out.vbox _).1 HM7.out.grow HM7.out.apart HM7.out.most HM7.out.tame ⟨z0, by omega⟩ HM7.out.nb HM7.out.tb)
    have hne1 : ¬ (w.heap.size = w4.heap.size) := by have := HM6r.out; omega
    have hne2 : ¬ (w4.heap.size = w.heap.size) := by have := HM6r.out; omega
    go_wp2
    refine bodyPost_ret (results_cell_row rfl _ _ w.heap.size _ _ _ _ rfl (four_set (four_set (four_set (four_set HM8.out.res _).1 _).2.1 _).2.2.1 _).2.2.2 Tryz.underlying54 rfl (by kernel_rfl)) rfl ?_
    exact drawn_end HNW.out HM8.out.room.1 HM8.out.grow (Nat.le_trans HM8.out.most (by omega)) HM8.out.tame HM8.out.kb HM8.out.nb HM8.out.tb HM8.out.cur HM8.out.grown _ _ _ _
  · have d0 : (y == 0) = false := by simpa using c0
    by_cases c1 : y = 1
    · subst c1
      have hal : Below w6.heap.size w6 (w6.alloc (.cells (bentInts.map (Value.int .i64)).toArray 3)) := (Below.refl _ _).alloc (Nat.le_refl _) _
      have hm7 := HM6.out.below HNW.out hal
      have HP := Lib.hid (pick_int N w6.heap.size bentInts 6 3 _ hm7.cur (heap_new w6 _) (by have := HM6.out.room; have := HNW.out; omega) (by decide) (by decide))
      have HM7 := Lib.hid hm7
      clear hal hm7
      go_wp2_with fail
      refine HP.out.mono ?_
      rintro e w8 ⟨z, hz, rfl, hs8⟩
      have HM8 := Lib.hid (HM7.out.step HNW.out hs8)
      have HZB := Lib.hid (bentInts_small z hz)
      clear hs8 hz HP HM7 v0 v1 v2 v3 g0 g1 g2 g3 r0 r1 r2 r3 f0 f1 f2 f3 HM6
      obtain ⟨v0, v1, v2, v3, g0, g1, g2, g3⟩ := four_cells HM8.out.vbox
      obtain ⟨r0, r1, r2, r3, f0, f1, f2, f3⟩ := four_cells HM8.out.res
      have HM9 := Lib.hid (HM8.out.store HNW.out 1 (.int .i64 z) (four_set HM8.out.vbox _).2.1 HM8.out.grow HM8.out.apart HM8.out.most HM8.out.tame HM8.out.kb HZB.out HM8.out.tb)
      have hne1 : ¬ (w.heap.size = w4.heap.size) := by have := HM6r.out; omega
      have hne2 : ¬ (w4.heap.size = w.heap.size) := by have := HM6r.out; omega
      go_wp2
      refine bodyPost_ret (results_cell_row rfl _ _ w.heap.size _ _ _ _ rfl (four_set (four_set (four_set (four_set HM9.out.res _).1 _).2.1 _).2.2.1 _).2.2.2 Tryz.underlying54 rfl (by kernel_rfl)) rfl ?_
      exact drawn_end HNW.out HM9.out.room.1 HM9.out.grow (Nat.le_trans HM9.out.most (by omega)) HM9.out.tame HM9.out.kb HM9.out.nb HM9.out.tb HM9.out.cur HM9.out.grown _ _ _ _
    · have d1 : (y == 1) = false := by simpa using c1
      by_cases c2 : y = 2
      · subst c2
        obtain ⟨cs0, ho0, hnd0, hfr0⟩ := HM6.out.grow.own
        obtain ⟨p0, cp0, hp0, hlp0, hread0⟩ := ho0.reads
        have hpe : p0 = a ∧ cp0 = ca := by injection hp0 with h1 h2 h3; exact ⟨h1.symm, h3.symm⟩
        obtain ⟨rfl, rfl⟩ := hpe
        have HFL : Hid (F.length ≤ 14 ∧ F.count ≤ 14) := ⟨Nat.le_trans F.length_le_count HM6.out.most, HM6.out.most⟩
        have HCALL := Lib.hid (copy_any F (by have := HFL.out; omega) w6.drew k n t p0 cp0 hread0.drew)
        clear ho0 hnd0 hfr0 hp0 hlp0 hread0 r0 r1 r2 r3 f0 f1 f2 f3
        go_wp2
        go_region_law
          (first
            | (go_simp; go_at_call 143; refine HCALL.out.mono ?_
               rintro e w7 ⟨⟨u, c1, rfl, ho, hnd, hfr⟩, hb⟩
               obtain ⟨q2, cq2, rfl, hl2, _⟩ := ho.reads
               have hb1 := below_of_drew hb
               have hal : Below w7.heap.size w7 (w7.alloc (.cells #[.int .i64 k, .int .i64 n, .string t, .slice q2 F.length cq2] 54)) := (Below.refl _ _).alloc (Nat.le_refl _) _
               have HM7 := Lib.hid (HM6.out.below HNW.out hb1)
               have HM8 := Lib.hid (HM7.out.below HNW.out hal)
               have HG8 := Lib.hid HM8.out.grow.owns
               have HO7 : Hid (OwnV w7 (.slice q2 F.length cq2) F c1 ∧ c1.Nodup ∧ (∀ b ∈ c1, w6.heap.size ≤ b ∧ b < w7.heap.size)) := ⟨ho, hnd, hfr⟩
               have HBW := Lib.hid hb1
               have HAL := Lib.hid hal
               obtain ⟨s0, s1, s2, s3, s4, s5, s6, s7⟩ := four_cells HM7.out.vbox
               obtain ⟨t0, t1, t2, t3, t4, t5, t6, t7⟩ := four_cells HM8.out.vbox
               clear ho hnd hfr hb hb1 hal)
            | (refine step_append_lies _ rfl (.tmp 26) (.tmp 29) 52 rfl w3.heap.size 54 i0 (.agg #[.int .i64 0, .int .i64 0, .string ⟨#[]⟩, .slice none 0 0]) 4 56 Tryz.underlying52 hi hz0 hz1 hz2 rfl (by decide) (.slice p0 F.length cp0) F.length xs (by simp [Act.eval]) HG8.out ⟨w7.heap.size, 0, none⟩ 1 1 [.int .i64 k, .int .i64 n, .string t, .slice q2 F.length cq2] (by simp [Act.eval]) rfl (grow_four _ _ _ _ _ _) (grow_one _ _ _ _ _ _) (by decide) (by unfold maxLen; have := HFL.out; omega) (by have := HFL.out; omega) (by have := HM7.out.room; simp; omega) (w7.heap.size + 1) (by simp) ?_
               intro g9 cap9 w9 hown hgrow hat hlt9
               have hroom := HM6.out.room
               have hroom7 := HM7.out.room
               have hz67 := HBW.out.size
               have hz78 := HAL.out.size
               have hGM := GrowV.more (w := w6) (w1 := w7) HM6.out.grow (by omega) HBW.out HO7.out.1 HO7.out.2.1 HO7.out.2.2 HAL.out hown hgrow (by rcases hat with h | h; exact .inl h; exact .inr (by simp [h]))
               have hfar := HM7.out.grow.far
               have hap9 : Aloof w4.heap.size (.slice (some ⟨g9, 0, none⟩) (F.length + 1) cap9) (bs ++ c1) := fun b hb => by
                 rcases hb with hb | hb
                 · rcases List.mem_append.1 hb with hb | hb
                   · exact HM6.out.apart b (.inl hb)
                   · have := HO7.out.2.2 b hb; omega
                 · have e : g9 = b := Option.some.inj hb
                   subst e
                   rcases hat with h | h
                   · exact HM6.out.apart g9 (.inr h)
                   · omega
               have hk9 : ∀ b, b < w6.heap.size → (∀ g, (Value.slice p0 F.length cp0).ownBlock = some g → b ≠ g) → w9.heap[b]? = w6.heap[b]? := fun b hb hne => by
                 rw [hgrow.block b (by omega) (fun e => hne b e.symm rfl), HAL.out.block b (by omega), HBW.out.block b hb]
               have hvb9 : w9.heap[w4.heap.size]? = some (.cells #[.int .i64 k, .int .i64 n, .string t, .slice p0 F.length cp0] 54 (0, 0)) := (hk9 _ (by omega) (fun g e h => by have := HM6.out.apart g (.inr e); omega)).trans HM6.out.vbox
               have hres9 : Go.Proofs.YtijbaienhaiamaaGreatDoor.BoxAt w9 w.heap.size 0 0 ⟨#[]⟩ none 0 0 54 := (hk9 _ (by omega) (fun g e h => by have := HM6.out.grow.far g e; omega)).trans HM6.out.res
               have hcur9 : Cur N w9 := HM8.out.cur.later hgrow (fun g e => by have := hfar g e; have := HNW.out; omega)
               have hgr9 : w.grownBy w9 (some N) := grown_join HM8.out.grown hgrow (fun g e => by have := hfar g e; right; omega)
               have hz9 := hgrow.size
               have HT9 : Hid ((F.snoc k n t F).tame ∧ (F.snoc k n t F).count ≤ 31) := ⟨Trees.tame_snoc HM6.out.kb HNB.out HM6.out.tb HM6.out.tame F HM6.out.tame, by rw [Trees.snoc_count]; have := HM6.out.most; omega⟩
               have hmid : BentMem N 31 w w4.heap.size w3.heap.size k n t (.slice (some ⟨g9, 0, none⟩) (F.length + 1) cap9) (F.snoc k n t F) (bs ++ c1) _ (w9.setCell ⟨w4.heap.size, 3, none⟩ (.slice (some ⟨g9, 0, none⟩) (F.length + 1) cap9)) :=
                 ⟨(Below.heap_setCell _ _ _ _ (by show w.heap.size ≠ w4.heap.size; omega)).trans hres9, (four_set hvb9 _).2.2.2, hGM.asideN hap9 _ _, hap9, hcur9.later (grown_set w9 _ _ _) (fun g e => by injection e with e; have := HNW.out; omega), grown_join hgr9 (grown_set w9 _ _ _) (fun g e => by injection e with e; right; omega), ⟨hroom.1, hroom.2.1, by simp only [World.setCell, Array.size_modify]; omega⟩, HT9.out.2, HT9.out.1, HM6.out.kb, HM6.out.nb, HM6.out.tb⟩
               have HM9 := Lib.hid hmid
               obtain ⟨q0, q1, q2', q3, p0', p1, p2, p3⟩ := four_cells hvb9
               clear hmid hGM hfar hap9 hk9 hvb9 hres9 hcur9 hgr9 hz9 hown hgrow hat hlt9 hroom hroom7 hz67 hz78 HG8))
        all_goals
          clear v0 v1 v2 v3 g0 g1 g2 g3
          obtain ⟨v0, v1, v2, v3, g0, g1, g2, g3⟩ := four_cells HM9.out.vbox
          obtain ⟨r0, r1, r2, r3, f0, f1, f2, f3⟩ := four_cells HM9.out.res
          have hne1 : ¬ (w.heap.size = w4.heap.size) := by have := HM6r.out; omega
          have hne2 : ¬ (w4.heap.size = w.heap.size) := by have := HM6r.out; omega
          clear HM7 HM8 HO7 HBW HAL HCALL HM6
          go_wp2
          refine bodyPost_ret (results_cell_row rfl _ _ w.heap.size _ _ _ _ rfl (four_set (four_set (four_set (four_set HM9.out.res _).1 _).2.1 _).2.2.1 _).2.2.2 Tryz.underlying54 rfl (by kernel_rfl)) rfl ?_
          exact drawn_end HNW.out HM9.out.room.1 HM9.out.grow (Nat.le_trans HM9.out.most (by omega)) HM9.out.tame HM9.out.kb HM9.out.nb HM9.out.tb HM9.out.cur HM9.out.grown _ _ _ _
      · have d2 : (y == 2) = false := by simpa using c2
        go_wp2
        refine bodyPost_ret (results_cell_row rfl _ _ w.heap.size _ _ _ _ rfl (four_set (four_set (four_set (four_set HM6.out.res _).1 _).2.1 _).2.2.1 _).2.2.2 Tryz.underlying54 rfl (by kernel_rfl)) rfl ?_
        exact drawn_end HNW.out HM6.out.room.1 HM6.out.grow (Nat.le_trans HM6.out.most (by omega)) HM6.out.tame HM6.out.kb HM6.out.nb HM6.out.tb HM6.out.cur HM6.out.grown _ _ _ _
end Go.Proofs.YtijbaienhaiamaaGreatDoor.Ex
end
