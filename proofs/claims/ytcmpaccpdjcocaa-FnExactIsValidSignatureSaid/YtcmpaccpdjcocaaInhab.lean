/- What is proved here: which declared types have values (the least set of names closed under the constructors), and when a list of names is that set. No condition. -/
import Derived.Test.YtcmpaccpdjcocaaIsType
import Derived.Test.YtcmpaccpdjcocaaSorted
namespace Go.Proofs.Ytcmpaccpdjcocaa
open Go.RowKit

theorem before_succ' {α : Type} {p : α → Prop} {l : List α} {k : Nat} {x : α} (h : ∀ (j : Nat) y, j < k → l[j]? = some y → p y) (hx : l[k]? = some x) (hp : p x) : ∀ (j : Nat) y, j < k + 1 → l[j]? = some y → p y := by
  intro j y hj hy
  rcases Nat.lt_or_ge j k with h3 | h3
  · exact h j y h3 hy
  · obtain rfl : j = k := by omega
    rw [hx] at hy
    obtain rfl := Option.some.inj hy
    exact hp

def argOk (S : ByteArray → Prop) (a : ByteArray) : Prop := isBasic a = true ∨ S a
def conOk (S : ByteArray → Prop) (c : ConD) : Prop := ∀ a ∈ c.args, argOk S a
def typeOk (S : ByteArray → Prop) (t : TypeD) : Prop := ∃ c ∈ t.cons, conOk S c
def Closed (s : List TypeD) (S : ByteArray → Prop) : Prop := ∀ t ∈ s, typeOk S t → S t.name
/-- The types that have values. -/
def Inh (s : List TypeD) (n : ByteArray) : Prop := ∀ S, Closed s S → S n

theorem conOk_mono {S S' : ByteArray → Prop} (h : ∀ x, S x → S' x) {c : ConD} (hc : conOk S c) : conOk S' c := fun a ha => (hc a ha).imp id (h a)
theorem typeOk_mono {S S' : ByteArray → Prop} (h : ∀ x, S x → S' x) {t : TypeD} (ht : typeOk S t) : typeOk S' t := by
  obtain ⟨c, h1, h2⟩ := ht
  exact ⟨c, h1, conOk_mono h h2⟩
theorem inh_step {s : List TypeD} {S : ByteArray → Prop} (hS : ∀ x, S x → Inh s x) {t : TypeD} (ht : t ∈ s) (ho : typeOk S t) : Inh s t.name := fun S' hC => hC t ht (typeOk_mono (fun x hx => hS x hx S' hC) ho)
theorem inh_name {s : List TypeD} {n : ByteArray} (h : Inh s n) : n ∈ s.map TypeD.name := h (fun x => x ∈ s.map TypeD.name) (fun _ ht _ => List.mem_map_of_mem ht)
theorem inh_closed {s : List TypeD} {S : ByteArray → Prop} (hC : Closed s S) (hS : ∀ x, S x → Inh s x) (n : ByteArray) : S n ↔ Inh s n := ⟨hS n, fun h => h S hC⟩

/-- Names that have values, each once. -/
def Stage (s : List TypeD) (xs : List ByteArray) : Prop := xs.Nodup ∧ ∀ x ∈ xs, Inh s x
theorem Stage.length {s : List TypeD} {xs : List ByteArray} (h : Stage s xs) : xs.length ≤ s.length := by
  have := nodup_length xs (s.map TypeD.name) h.1 (fun x hx => inh_name (h.2 x hx))
  simpa using this
theorem Stage.add {s : List TypeD} {xs : List ByteArray} (h : Stage s xs) {x : ByteArray} (hx : ¬ x ∈ xs) (hi : Inh s x) : Stage s (xs ++ [x]) := by
  refine ⟨List.nodup_append.2 ⟨h.1, by simp, fun a ha b hb e => ?_⟩, fun y hy => ?_⟩
  · simp at hb
    subst hb
    subst e
    exact hx ha
  · rcases List.mem_append.1 hy with h1 | h1
    · exact h.2 y h1
    · simp at h1
      subst h1
      exact hi

theorem filter_less {α : Type} (p q : α → Bool) : ∀ l : List α, (∀ x ∈ l, q x = true → p x = true) → (l.filter q).length ≤ (l.filter p).length ∧ ((∃ x ∈ l, p x = true ∧ q x = false) → (l.filter q).length < (l.filter p).length)
  | [], _ => ⟨by simp, fun ⟨x, hx, _⟩ => by cases hx⟩
  | a :: r, h => by
    obtain ⟨h1, h2⟩ := filter_less p q r (fun x hx => h x (List.mem_cons_of_mem _ hx))
    have ha := h a (by simp)
    have more : ∀ x, x ∈ a :: r → p x = true → q x = false → (p a = true ∧ q a = false) ∨ ∃ x ∈ r, p x = true ∧ q x = false := by
      intro x hx e1 e2
      rcases List.mem_cons.1 hx with e | hx
      · subst e
        exact .inl ⟨e1, e2⟩
      · exact .inr ⟨x, hx, e1, e2⟩
    rw [List.filter_cons, List.filter_cons]
    cases hp : p a
    · cases hq : q a
      · rw [if_neg (by simp), if_neg (by simp)]
        refine ⟨h1, fun ⟨x, hx, e1, e2⟩ => ?_⟩
        rcases more x hx e1 e2 with ⟨e, _⟩ | hr
        · rw [hp] at e; cases e
        · exact h2 hr
      · exact absurd (ha hq) (by rw [hp]; simp)
    · cases hq : q a
      · rw [if_neg (by simp), if_pos rfl, List.length_cons]
        exact ⟨by omega, fun _ => by omega⟩
      · rw [if_pos rfl, if_pos rfl, List.length_cons, List.length_cons]
        refine ⟨by omega, fun ⟨x, hx, e1, e2⟩ => ?_⟩
        rcases more x hx e1 e2 with ⟨_, e⟩ | hr
        · rw [hq] at e; cases e
        · have := h2 hr
          omega

/-- How many declarations' names are not there yet. -/
noncomputable def missing (s : List TypeD) (S : ByteArray → Prop) : Nat := ((s.map TypeD.name).filter fun n => !bl (S n)).length
theorem missing_le (s : List TypeD) (S : ByteArray → Prop) : missing s S ≤ s.length := by
  have := List.length_filter_le (fun n => !bl (S n)) (s.map TypeD.name)
  unfold missing
  simpa using this
theorem missing_less {s : List TypeD} {S S' : ByteArray → Prop} (h : ∀ x, S x → S' x) : missing s S' ≤ missing s S ∧ ((∃ x ∈ s.map TypeD.name, ¬ S x ∧ S' x) → missing s S' < missing s S) := by
  unfold missing
  have key := filter_less (fun n => !bl (S n)) (fun n => !bl (S' n)) (s.map TypeD.name) (fun x _ hx => by
    simp only [Bool.not_eq_true', bl_not_iff] at hx ⊢
    exact fun e => hx (h x e))
  refine ⟨key.1, fun ⟨x, hx, h1, h2⟩ => key.2 ⟨x, hx, ?_, ?_⟩⟩
  · simp only [Bool.not_eq_true', bl_not_iff]; exact h1
  · simp only [Bool.not_eq_false', bl_iff]; exact h2
theorem missing_zero {s : List TypeD} {S : ByteArray → Prop} (h : missing s S = 0) : Closed s S := by
  intro t ht _
  unfold missing at h
  have h2 := List.eq_nil_of_length_eq_zero h
  rw [List.filter_eq_nil_iff] at h2
  have := h2 t.name (List.mem_map_of_mem ht)
  simpa only [Bool.not_eq_true', bl_not_iff, Classical.not_not] using this

/-- The declared names that have values, in their order. -/
noncomputable def inhabited (s : List TypeD) : List ByteArray := (s.map TypeD.name).filter fun n => bl (Inh s n)
theorem inhabited_take (s : List TypeD) (k : Nat) (h : k < s.length) : ((s.take (k + 1)).map TypeD.name).filter (fun n => bl (Inh s n)) = ((s.take k).map TypeD.name).filter (fun n => bl (Inh s n)) ++ (if bl (Inh s s[k].name) = true then [s[k].name] else []) := by
  rw [List.take_succ_eq_append_getElem h, List.map_append, List.filter_append]
  congr 1
  cases hb : bl (Inh s s[k].name) <;> simp [hb]
theorem inhabited_len (s : List TypeD) (k : Nat) : (((s.take k).map TypeD.name).filter (fun n => bl (Inh s n))).length ≤ s.length := by
  have h1 := List.length_filter_le (fun n => bl (Inh s n)) ((s.take k).map TypeD.name)
  have h2 : ((s.take k).map TypeD.name).length ≤ s.length := by rw [List.length_map, List.length_take]; omega
  exact Nat.le_trans h1 h2
end Go.Proofs.Ytcmpaccpdjcocaa
