/- What is proved here: a piece of the proof of YtdilegbigaahnaaGreatExactIsValueOf (Sorted, Inhab, Names, ValidCon). Condition: none beyond what each part says. -/
import Derived.Test.YtdilegbigaahnaaGreatVo08
import Derived.Lib.RowBridge
import Derived.Lib.SlicesCompact

/- What is proved here: pure facts on lists of texts: a strictly ascending list with the same elements is unique; sorting and compacting gives one; inserting keeps one; a list is distinct just if its sorted form is as long. No condition. -/
section
namespace Go.Proofs.YtdilegbigaahnaaGreat
open Go.RowKit

abbrev key (s : ByteArray) : List UInt8 := s.data.toList
theorem key_inj {a b : ByteArray} (h : key a = key b) : a = b := ByteArray.ext (Array.toList_inj.1 h)

/-- Strictly ascending. -/
def Rising (ys : List ByteArray) : Prop := ys.Pairwise fun a b => key a < key b
/-- ys is xs sorted, each text once. -/
def SortOf (xs ys : List ByteArray) : Prop := Rising ys ∧ ∀ x, x ∈ ys ↔ x ∈ xs

theorem lt_irrefl' (a : List UInt8) : ¬ a < a := List.lt_irrefl a
theorem lt_trans' {a b c : List UInt8} (h : a < b) (k : b < c) : a < c := List.lt_trans h k
theorem lt_asymm' {a b : List UInt8} (h : a < b) : ¬ b < a := fun k => lt_irrefl' a (lt_trans' h k)
theorem lt_tri {a b : List UInt8} (h : ¬ a < b) (k : a ≠ b) : b < a := by
  have h1 : b ≤ a := List.not_lt.1 h
  rcases List.le_iff_lt_or_eq.1 h1 with h2 | h2
  · exact h2
  · exact absurd h2.symm k

theorem rising_unique : ∀ (l r : List ByteArray), Rising l → Rising r → (∀ x, x ∈ l ↔ x ∈ r) → l = r
  | [], [], _, _, _ => rfl
  | [], b :: r, _, _, h => absurd ((h b).2 (by simp)) (by simp)
  | a :: l, [], _, _, h => absurd ((h a).1 (by simp)) (by simp)
  | a :: l, b :: r, hl, hr, h => by
    unfold Rising at hl hr
    rw [List.pairwise_cons] at hl hr
    have e : a = b := by
      rcases List.mem_cons.1 ((h a).1 (by simp)) with h1 | h1
      · exact h1
      · rcases List.mem_cons.1 ((h b).2 (by simp)) with h2 | h2
        · exact h2.symm
        · exact absurd (hl.1 b h2) (lt_asymm' (hr.1 a h1))
    subst e
    congr 1
    refine rising_unique l r hl.2 hr.2 (fun x => ⟨fun hx => ?_, fun hx => ?_⟩)
    · rcases List.mem_cons.1 ((h x).1 (List.mem_cons_of_mem _ hx)) with h1 | h1
      · subst h1
        exact absurd (hl.1 _ hx) (lt_irrefl' _)
      · exact h1
    · rcases List.mem_cons.1 ((h x).2 (List.mem_cons_of_mem _ hx)) with h1 | h1
      · subst h1
        exact absurd (hr.1 _ hx) (lt_irrefl' _)
      · exact h1
theorem sortOf_unique {xs l r : List ByteArray} (h : SortOf xs l) (k : SortOf xs r) : l = r :=
  rising_unique l r h.1 k.1 (fun x => (h.2 x).trans (k.2 x).symm)

/-- What slices.Compact leaves of an ascending row. -/
theorem compactUpTo_rising (d : Array (List UInt8)) (hd : ∀ i j, i < j → j < d.size → d[i]! ≤ d[j]!) : ∀ m, m ≤ d.size →
    (Lib.compactUpTo d m).Pairwise (· < ·) ∧ ∀ x, x ∈ Lib.compactUpTo d m ↔ ∃ j, j < m ∧ d[j]! = x
  | 0, _ => by simp [Lib.compactUpTo]
  | m + 1, hm => by
    obtain ⟨h1, h2⟩ := compactUpTo_rising d hd m (by omega)
    rw [Lib.compactUpTo_succ]
    by_cases hk : Lib.keeps d m = true
    · rw [if_pos hk]
      refine ⟨?_, fun x => ?_⟩
      · rw [List.pairwise_append]
        refine ⟨h1, by simp, fun x hx y hy => ?_⟩
        obtain rfl : y = d[m]! := by simpa using hy
        obtain ⟨j, hj, rfl⟩ := (h2 x).1 hx
        have hne : d[m]! ≠ d[m - 1]! := by
          have := hk
          unfold Lib.keeps at this
          rw [decide_eq_true_eq] at this
          rcases this with h | h
          · omega
          · exact h
        have ha : d[m - 1]! < d[m]! := by
          rcases List.le_iff_lt_or_eq.1 (hd (m - 1) m (by omega) (by omega)) with h | h
          · exact h
          · exact absurd h.symm hne
        rcases Nat.lt_or_ge j (m - 1) with h | h
        · rcases List.le_iff_lt_or_eq.1 (hd j (m - 1) h (by omega)) with h3 | h3
          · exact lt_trans' h3 ha
          · rw [h3]; exact ha
        · obtain rfl : j = m - 1 := by omega
          exact ha
      · rw [List.mem_append, h2 x]
        constructor
        · rintro (⟨j, hj, e⟩ | h)
          · exact ⟨j, by omega, e⟩
          · exact ⟨m, by omega, (by simpa using h : x = d[m]!).symm⟩
        · rintro ⟨j, hj, e⟩
          rcases Nat.lt_or_ge j m with h | h
          · exact .inl ⟨j, h, e⟩
          · obtain rfl : j = m := by omega
            exact .inr (by simp [e])
    · rw [if_neg hk, List.append_nil]
      refine ⟨h1, fun x => ?_⟩
      rw [h2 x]
      have hk2 : 0 < m ∧ d[m]! = d[m - 1]! := by
        have := hk
        unfold Lib.keeps at this
        rw [decide_eq_true_eq] at this
        constructor
        · rcases Nat.eq_zero_or_pos m with h | h
          · exact absurd (.inl h) this
          · exact h
        · exact Classical.byContradiction fun h => this (.inr h)
      constructor
      · rintro ⟨j, hj, e⟩
        exact ⟨j, by omega, e⟩
      · rintro ⟨j, hj, e⟩
        rcases Nat.lt_or_ge j m with h | h
        · exact ⟨j, h, e⟩
        · obtain rfl : j = m := by omega
          exact ⟨j - 1, by omega, by rw [← hk2.2]; exact e⟩

/-- Sorted and compacted. -/
def sorted (xs : List ByteArray) : List ByteArray := (Lib.compact ((xs.map key).mergeSort fun x y => decide (x ≤ y))).map fun l => ⟨l.toArray⟩
theorem sorted_key (xs : List ByteArray) : (sorted xs).map key = Lib.compact ((xs.map key).mergeSort fun x y => decide (x ≤ y)) := by
  unfold sorted
  rw [List.map_map]
  exact (List.map_congr_left (fun l _ => rfl)).trans (List.map_id _)
theorem le_trans' (a b c : List UInt8) (h : decide (a ≤ b) = true) (k : decide (b ≤ c) = true) : decide (a ≤ c) = true := by
  rw [decide_eq_true_eq] at *
  exact List.le_trans h k
theorem le_total' (a b : List UInt8) : (decide (a ≤ b) || decide (b ≤ a)) = true := by
  rw [Bool.or_eq_true, decide_eq_true_eq, decide_eq_true_eq]
  exact List.le_total a b

theorem sorted_ok (xs : List ByteArray) : SortOf xs (sorted xs) := by
  have hp := List.pairwise_mergeSort le_trans' le_total' (xs.map key)
  have hm : ∀ x, x ∈ (xs.map key).mergeSort (fun x y => decide (x ≤ y)) ↔ x ∈ xs.map key := fun x => (List.mergeSort_perm (xs.map key) _).mem_iff
  have hk := sorted_key xs
  generalize (xs.map key).mergeSort (fun x y => decide (x ≤ y)) = zs at hp hm hk
  have hd : ∀ i j, i < j → j < zs.toArray.size → zs.toArray[i]! ≤ zs.toArray[j]! := by
    intro i j hij hj
    have hj' : j < zs.length := by simpa using hj
    have := (List.pairwise_iff_getElem.1 hp) i j (by omega) hj' hij
    rw [decide_eq_true_eq] at this
    simpa [getElem!_pos, hj', show i < zs.length by omega] using this
  obtain ⟨h1, h2⟩ := compactUpTo_rising zs.toArray hd zs.length (by simp)
  have hk' : (sorted xs).map key = Lib.compactUpTo zs.toArray zs.length := hk
  rw [← hk'] at h1 h2
  refine ⟨?_, fun x => ?_⟩
  · unfold Rising
    exact List.pairwise_map.1 h1
  · have e1 : x ∈ sorted xs ↔ key x ∈ (sorted xs).map key := by
      constructor
      · exact fun h => List.mem_map.2 ⟨x, h, rfl⟩
      · intro h
        obtain ⟨y, hy, e⟩ := List.mem_map.1 h
        rw [← key_inj e]; exact hy
    rw [e1, h2]
    constructor
    · rintro ⟨j, hj, e⟩
      have : key x ∈ zs := by
        rw [← e]
        have : zs.toArray[j]! = zs[j] := by simp [getElem!_pos, hj]
        rw [this]
        exact List.getElem_mem hj
      obtain ⟨y, hy, e⟩ := List.mem_map.1 ((hm _).1 this)
      rw [← key_inj e]; exact hy
    · intro h
      obtain ⟨j, hj, e⟩ := List.mem_iff_getElem.1 ((hm (key x)).2 (List.mem_map.2 ⟨x, h, rfl⟩))
      exact ⟨j, hj, by simp [getElem!_pos, hj, e]⟩

theorem sorted_length_le (xs : List ByteArray) : (sorted xs).length ≤ xs.length := by
  have h := Lib.compact_length_le ((xs.map key).mergeSort fun x y => decide (x ≤ y))
  rw [← sorted_key, List.length_map, List.length_mergeSort, List.length_map] at h
  exact h

theorem rising_nodup {ys : List ByteArray} (h : Rising ys) : ys.Nodup := by
  unfold Rising at h
  unfold List.Nodup
  exact h.imp (fun hab e => by subst e; exact lt_irrefl' _ hab)

/-- Distinct: no two are equal. -/
theorem distinct_iff_nodup (xs : List ByteArray) : Distinct xs ↔ xs.Nodup := by
  unfold Distinct
  rw [List.Nodup, List.pairwise_iff_getElem]
  constructor
  · intro h i j hi hj hij e
    have h1 := h i hi
    have h2 := h j hj
    rw [e, h2] at h1
    omega
  · intro h j hj
    exact idx_hit xs j xs[j] hj rfl (fun i hi hij e => h i j hi hj hij e)

theorem nodup_lengthK : ∀ (l r : List (List UInt8)), l.Nodup → (∀ x, x ∈ l → x ∈ r) → l.length ≤ r.length
  | [], r, _, _ => by simp
  | a :: l, r, hl, h => by
    rw [List.nodup_cons] at hl
    have ha := h a (by simp)
    have := nodup_lengthK l (r.erase a) hl.2 (fun x hx => by
      have hne : x ≠ a := fun e => hl.1 (e ▸ hx)
      exact (List.mem_erase_of_ne hne).2 (h x (List.mem_cons_of_mem _ hx)))
    rw [List.length_erase_of_mem ha] at this
    have hp : 0 < r.length := List.length_pos_of_mem ha
    rw [List.length_cons]
    omega
theorem nodup_length (l r : List ByteArray) (hl : l.Nodup) (h : ∀ x, x ∈ l → x ∈ r) : l.length ≤ r.length := by
  have hn : (l.map key).Nodup := by
    unfold List.Nodup at hl ⊢
    rw [List.pairwise_map]
    exact hl.imp (fun hne e => hne (key_inj e))
  have := nodup_lengthK (l.map key) (r.map key) hn (fun x hx => by
    obtain ⟨y, hy, rfl⟩ := List.mem_map.1 hx
    exact List.mem_map.2 ⟨y, h y hy, rfl⟩)
  simpa using this

/-- A list is distinct just if nothing is lost when it is sorted, each once. -/
theorem distinct_iff_length {xs ys : List ByteArray} (h : SortOf xs ys) : Distinct xs ↔ ys.length = xs.length := by
  have hy := rising_nodup h.1
  have h1 := nodup_length ys xs hy (fun x hx => (h.2 x).1 hx)
  rw [distinct_iff_nodup]
  constructor
  · intro hx
    have h2 := nodup_length xs ys hx (fun x hx => (h.2 x).2 hx)
    omega
  · intro hl
    refine Classical.byContradiction fun hn => ?_
    have key : ∀ zs : List ByteArray, ¬ zs.Nodup → ∃ l : List ByteArray, l.length < zs.length ∧ ∀ x, x ∈ zs → x ∈ l := by
      intro zs
      induction zs with
      | nil => intro h; exact absurd List.nodup_nil h
      | cons a r ih =>
        intro h
        by_cases ha : a ∈ r
        · exact ⟨r, by simp, fun x hx => by
            rcases List.mem_cons.1 hx with e | e
            · rw [e]; exact ha
            · exact e⟩
        · obtain ⟨l, hl, hs⟩ := ih (fun hr => h (List.nodup_cons.2 ⟨ha, hr⟩))
          refine ⟨a :: l, by simp; omega, fun x hx => ?_⟩
          rcases List.mem_cons.1 hx with e | e
          · rw [e]; simp
          · exact List.mem_cons_of_mem _ (hs x e)
    obtain ⟨l, hl2, hs⟩ := key xs hn
    have := nodup_length ys l hy (fun x hx => hs x ((h.2 x).1 hx))
    omega

/-- Inserting at the right place. -/
theorem insert_rising {ys : List ByteArray} {x : ByteArray} {a : Nat} (h : Rising ys) (ha : a ≤ ys.length) (hb : ∀ j (hj : j < ys.length), j < a → key ys[j] < key x) (hn : ∀ hl : a < ys.length, ¬ key ys[a] < key x ∧ ys[a] ≠ x) :
    Rising (ys.take a ++ [x] ++ ys.drop a) := by
  unfold Rising at h ⊢
  rw [List.pairwise_append, List.pairwise_append]
  refine ⟨⟨h.sublist (List.take_sublist _ _), by simp, ?_⟩, h.sublist (List.drop_sublist _ _), ?_⟩
  · intro u hu v hv
    obtain rfl : v = x := by simpa using hv
    obtain ⟨j, hj, e⟩ := List.mem_iff_getElem.1 hu
    rw [List.length_take] at hj
    rw [List.getElem_take] at e
    rw [← e]
    exact hb j (by omega) (by omega)
  · intro u hu v hv
    obtain ⟨i, hi, e⟩ := List.mem_iff_getElem.1 hv
    rw [List.length_drop] at hi
    rw [List.getElem_drop] at e
    have hl : a < ys.length := by omega
    have hxa : key x < key ys[a] := lt_tri (hn hl).1 (fun e => (hn hl).2 (key_inj e))
    have hxv : key x < key v := by
      rw [← e]
      rcases Nat.eq_zero_or_pos i with h0 | h0
      · subst h0; exact hxa
      · exact lt_trans' hxa ((List.pairwise_iff_getElem.1 h) a (a + i) hl (by omega) (by omega))
    rcases List.mem_append.1 hu with h1 | h1
    · obtain ⟨j, hj, e2⟩ := List.mem_iff_getElem.1 h1
      rw [List.length_take] at hj
      rw [List.getElem_take] at e2
      rw [← e2]
      exact lt_trans' (hb j (by omega) (by omega)) hxv
    · obtain rfl : u = x := by simpa using h1
      exact hxv
theorem insert_mem (ys : List ByteArray) (x : ByteArray) (a : Nat) (u : ByteArray) : u ∈ ys.take a ++ [x] ++ ys.drop a ↔ u ∈ ys ∨ u = x := by
  have e : u ∈ ys ↔ u ∈ ys.take a ∨ u ∈ ys.drop a := by rw [← List.mem_append, List.take_append_drop]
  rw [e]
  simp only [List.mem_append, List.mem_cons, List.mem_nil_iff, or_false]
  constructor
  · rintro ((h | h) | h)
    · exact .inl (.inl h)
    · exact .inr h
    · exact .inl (.inr h)
  · rintro ((h | h) | h)
    · exact .inl (.inl h)
    · exact .inr h
    · exact .inl (.inr h)
theorem insert_length (ys : List ByteArray) (x : ByteArray) (a : Nat) : (ys.take a ++ [x] ++ ys.drop a).length = ys.length + 1 := by
  simp
  omega
end Go.Proofs.YtdilegbigaahnaaGreat
end

/- What is proved here: which declared types have values (the least set of names closed under the constructors), and when a list of names is that set. No condition. -/
section
namespace Go.Proofs.YtdilegbigaahnaaGreat
open Go.RowKit

theorem before_succ' {α : Type} {p : α → Prop} {l : List α} {k : Nat} {x : α} (h : ∀ (j : Nat) y, j < k → l[j]? = some y → p y) (hx : l[k]? = some x) (hp : p x) : ∀ (j : Nat) y, j < k + 1 → l[j]? = some y → p y := by
  intro j y hj hy
  rcases Nat.lt_or_ge j k with h3 | h3
  · exact h j y h3 hy
  · obtain rfl : j = k := by omega
    rw [hx] at hy
    obtain rfl := Option.some.inj hy
    exact hp

def argOk (S : ByteArray → Prop) (a : ByteArray) : Prop := isBasic a = true ∨ S a
def conOk (S : ByteArray → Prop) (c : ConD) : Prop := ∀ a ∈ c.args, argOk S a
def typeOk (S : ByteArray → Prop) (t : TypeD) : Prop := ∃ c ∈ t.cons, conOk S c
def Closed (s : List TypeD) (S : ByteArray → Prop) : Prop := ∀ t ∈ s, typeOk S t → S t.name
/-- The types that have values. -/
def Inh (s : List TypeD) (n : ByteArray) : Prop := ∀ S, Closed s S → S n

theorem conOk_mono {S S' : ByteArray → Prop} (h : ∀ x, S x → S' x) {c : ConD} (hc : conOk S c) : conOk S' c := fun a ha => (hc a ha).imp id (h a)
theorem typeOk_mono {S S' : ByteArray → Prop} (h : ∀ x, S x → S' x) {t : TypeD} (ht : typeOk S t) : typeOk S' t := by
  obtain ⟨c, h1, h2⟩ := ht
  exact ⟨c, h1, conOk_mono h h2⟩
theorem inh_step {s : List TypeD} {S : ByteArray → Prop} (hS : ∀ x, S x → Inh s x) {t : TypeD} (ht : t ∈ s) (ho : typeOk S t) : Inh s t.name := fun S' hC => hC t ht (typeOk_mono (fun x hx => hS x hx S' hC) ho)
theorem inh_name {s : List TypeD} {n : ByteArray} (h : Inh s n) : n ∈ s.map TypeD.name := h (fun x => x ∈ s.map TypeD.name) (fun _ ht _ => List.mem_map_of_mem ht)
theorem inh_closed {s : List TypeD} {S : ByteArray → Prop} (hC : Closed s S) (hS : ∀ x, S x → Inh s x) (n : ByteArray) : S n ↔ Inh s n := ⟨hS n, fun h => h S hC⟩

/-- Names that have values, each once. -/
def Stage (s : List TypeD) (xs : List ByteArray) : Prop := xs.Nodup ∧ ∀ x ∈ xs, Inh s x
theorem Stage.length {s : List TypeD} {xs : List ByteArray} (h : Stage s xs) : xs.length ≤ s.length := by
  have := nodup_length xs (s.map TypeD.name) h.1 (fun x hx => inh_name (h.2 x hx))
  simpa using this
theorem Stage.add {s : List TypeD} {xs : List ByteArray} (h : Stage s xs) {x : ByteArray} (hx : ¬ x ∈ xs) (hi : Inh s x) : Stage s (xs ++ [x]) := by
  refine ⟨List.nodup_append.2 ⟨h.1, by simp, fun a ha b hb e => ?_⟩, fun y hy => ?_⟩
  · simp at hb
    subst hb
    subst e
    exact hx ha
  · rcases List.mem_append.1 hy with h1 | h1
    · exact h.2 y h1
    · simp at h1
      subst h1
      exact hi

theorem filter_less {α : Type} (p q : α → Bool) : ∀ l : List α, (∀ x ∈ l, q x = true → p x = true) → (l.filter q).length ≤ (l.filter p).length ∧ ((∃ x ∈ l, p x = true ∧ q x = false) → (l.filter q).length < (l.filter p).length)
  | [], _ => ⟨by simp, fun ⟨x, hx, _⟩ => by cases hx⟩
  | a :: r, h => by
    obtain ⟨h1, h2⟩ := filter_less p q r (fun x hx => h x (List.mem_cons_of_mem _ hx))
    have ha := h a (by simp)
    have more : ∀ x, x ∈ a :: r → p x = true → q x = false → (p a = true ∧ q a = false) ∨ ∃ x ∈ r, p x = true ∧ q x = false := by
      intro x hx e1 e2
      rcases List.mem_cons.1 hx with e | hx
      · subst e
        exact .inl ⟨e1, e2⟩
      · exact .inr ⟨x, hx, e1, e2⟩
    rw [List.filter_cons, List.filter_cons]
    cases hp : p a
    · cases hq : q a
      · rw [if_neg (by simp), if_neg (by simp)]
        refine ⟨h1, fun ⟨x, hx, e1, e2⟩ => ?_⟩
        rcases more x hx e1 e2 with ⟨e, _⟩ | hr
        · rw [hp] at e; cases e
        · exact h2 hr
      · exact absurd (ha hq) (by rw [hp]; simp)
    · cases hq : q a
      · rw [if_neg (by simp), if_pos rfl, List.length_cons]
        exact ⟨by omega, fun _ => by omega⟩
      · rw [if_pos rfl, if_pos rfl, List.length_cons, List.length_cons]
        refine ⟨by omega, fun ⟨x, hx, e1, e2⟩ => ?_⟩
        rcases more x hx e1 e2 with ⟨_, e⟩ | hr
        · rw [hq] at e; cases e
        · have := h2 hr
          omega

/-- How many declarations' names are not there yet. -/
noncomputable def missing (s : List TypeD) (S : ByteArray → Prop) : Nat := ((s.map TypeD.name).filter fun n => !bl (S n)).length
theorem missing_le (s : List TypeD) (S : ByteArray → Prop) : missing s S ≤ s.length := by
  have := List.length_filter_le (fun n => !bl (S n)) (s.map TypeD.name)
  unfold missing
  simpa using this
theorem missing_less {s : List TypeD} {S S' : ByteArray → Prop} (h : ∀ x, S x → S' x) : missing s S' ≤ missing s S ∧ ((∃ x ∈ s.map TypeD.name, ¬ S x ∧ S' x) → missing s S' < missing s S) := by
  unfold missing
  have key := filter_less (fun n => !bl (S n)) (fun n => !bl (S' n)) (s.map TypeD.name) (fun x _ hx => by
    simp only [Bool.not_eq_true', bl_not_iff] at hx ⊢
    exact fun e => hx (h x e))
  refine ⟨key.1, fun ⟨x, hx, h1, h2⟩ => key.2 ⟨x, hx, ?_, ?_⟩⟩
  · simp only [Bool.not_eq_true', bl_not_iff]; exact h1
  · simp only [Bool.not_eq_false', bl_iff]; exact h2
theorem missing_zero {s : List TypeD} {S : ByteArray → Prop} (h : missing s S = 0) : Closed s S := by
  intro t ht _
  unfold missing at h
  have h2 := List.eq_nil_of_length_eq_zero h
  rw [List.filter_eq_nil_iff] at h2
  have := h2 t.name (List.mem_map_of_mem ht)
  simpa only [Bool.not_eq_true', bl_not_iff, Classical.not_not] using this

/-- The declared names that have values, in their order. -/
noncomputable def inhabited (s : List TypeD) : List ByteArray := (s.map TypeD.name).filter fun n => bl (Inh s n)
theorem inhabited_take (s : List TypeD) (k : Nat) (h : k < s.length) : ((s.take (k + 1)).map TypeD.name).filter (fun n => bl (Inh s n)) = ((s.take k).map TypeD.name).filter (fun n => bl (Inh s n)) ++ (if bl (Inh s s[k].name) = true then [s[k].name] else []) := by
  rw [List.take_succ_eq_append_getElem h, List.map_append, List.filter_append]
  congr 1
  cases hb : bl (Inh s s[k].name) <;> simp [hb]
theorem inhabited_len (s : List TypeD) (k : Nat) : (((s.take k).map TypeD.name).filter (fun n => bl (Inh s n))).length ≤ s.length := by
  have h1 := List.length_filter_le (fun n => bl (Inh s n)) ((s.take k).map TypeD.name)
  have h2 : ((s.take k).map TypeD.name).length ≤ s.length := by rw [List.length_map, List.length_take]; omega
  exact Nat.le_trans h1 h2
end Go.Proofs.YtdilegbigaahnaaGreat
end

/- What is proved here: IsReserved, IsName, IsConName, of the program and of the model, say what a name is. Condition: the text's length is a length. -/
section
namespace Go.Proofs.YtdilegbigaahnaaGreat
open Go.RowKit

def reserved : List ByteArray := [⟨#[116, 121, 112, 101]⟩, ⟨#[109, 97, 116, 99, 104]⟩, ⟨#[99, 97, 115, 101]⟩, ⟨#[105, 102]⟩, ⟨#[105, 110, 116]⟩, ⟨#[116, 101, 120, 116]⟩]

set_option maxHeartbeats 1000000 in
set_option maxRecDepth 100000 in
theorem impl_reserved (s : ByteArray) (hs : s.size ≤ maxLen) (w : World) :
    Calls Tryz.prog 97 #[.string s] w fun e w' => e = .returned (.bool (bl (s ∈ reserved))) ∧ Below w.heap.size w w' := by
  have hmm := @run_makeMap Tryz.prog
  have h0 := isSet_made w
  have hb0 : Below w.heap.size w (w.alloc (.map #[] 0)) := (Below.refl _ _).alloc (Nat.le_refl _) _
  obtain ⟨w1, e1, h1, g1⟩ := h0.put (by decide) ⟨#[116, 121, 112, 101]⟩ (by decide)
  obtain ⟨w2, e2, h2, g2⟩ := h1.put (by decide) ⟨#[109, 97, 116, 99, 104]⟩ (by decide)
  obtain ⟨w3, e3, h3, g3⟩ := h2.put (by decide) ⟨#[99, 97, 115, 101]⟩ (by decide)
  obtain ⟨w4, e4, h4, g4⟩ := h3.put (by decide) ⟨#[105, 102]⟩ (by decide)
  obtain ⟨w5, e5, h5, g5⟩ := h4.put (by decide) ⟨#[105, 110, 116]⟩ (by decide)
  obtain ⟨w6, e6, h6, g6⟩ := h5.put (by decide) ⟨#[116, 101, 120, 116]⟩ (by decide)
  have hg := ((((g1.trans g2).trans g3).trans g4).trans g5).trans g6
  have hB : Below w.heap.size w w6 := hb0.grown hg hb0.size (fun j hj => by injection hj with hj; omega)
  have hl : (Instr.lookup 111 (.map (some w.heap.size)) (.string s) false).run Tryz.prog w6 = .ok (.bool (bl (s ∈ reserved))) w6 := h6.look s hs
  generalize bl (s ∈ reserved) = q at hl ⊢
  have HB := Lib.hid hB
  have HS := Lib.hid hs
  clear g1 g2 g3 g4 g5 g6 hg h0 h1 h2 h3 h4 h5 h6 hb0 hB hs
  go_enter Tryz.func97, Tryz.ntmps97
  go_wp2
  go_ret
  exact ⟨rfl, HB.out⟩

set_option maxHeartbeats 1000000 in
set_option maxRecDepth 100000 in
theorem spec_reserved (s : ByteArray) (w : World) :
    Calls Tryz.prog 93 #[.string s] w fun e w' => e = .returned (.bool (bl (s ∈ reserved))) ∧ Below w.heap.size w w' := by
  have hM := heap_at_new w (.cells (reserved.map Value.string).toArray 9)
  have hR := reads_new hM
  have hB : Below w.heap.size w (w.alloc (.cells (reserved.map Value.string).toArray 9)) := (Below.refl _ _).alloc (Nat.le_refl _) _
  have HI : Hid (bl (s ∈ reserved) = decide (0 ≤ Lib.idxOfS reserved s)) := by
    unfold Hid
    by_cases h : s ∈ reserved
    · rw [bl_true h, decide_eq_true ((Lib.idxOfS_nonneg_iff _ _).2 h)]
    · rw [bl_false h, decide_eq_false (fun h2 => h ((Lib.idxOfS_nonneg_iff _ _).1 h2))]
  have H := spec_index _ _ 6 reserved s hR (by decide)
  clear hM hR
  go_enter Tryz.func93, Tryz.ntmps93
  go_wp2_with fail
  refine H.mono ?_
  rintro e w1 ⟨rfl, rfl⟩
  generalize Lib.idxOfS reserved s = z at *
  go_wp2
  go_ret
  exact ⟨by rw [HI.out]; rfl, hB⟩

def Name (s : ByteArray) : Prop := Word 97 122 s ∧ ¬ s ∈ reserved

set_option maxRecDepth 100000 in
theorem impl_con (s : ByteArray) (hs : s.size ≤ maxLen) (w : World) :
    Calls Tryz.prog 98 #[.string s] w fun e w' => e = .returned (.bool (bl (Word 65 90 s))) ∧ Below w.heap.size w w' := by
  go_enter Tryz.func98, Tryz.ntmps98
  go_wp2_with fail
  refine (impl_word s 65 90 hs _).mono ?_
  rintro e w1 ⟨rfl, hb⟩
  go_wp2
  go_ret
  exact ⟨rfl, hb⟩

set_option maxRecDepth 100000 in
theorem impl_name (s : ByteArray) (hs : s.size ≤ maxLen) (w : World) :
    Calls Tryz.prog 74 #[.string s] w fun e w' => e = .returned (.bool (bl (Name s))) ∧ Below w.heap.size w w' := by
  by_cases h : Word 97 122 s
  · have hb := bl_true h
    have HN : Hid (bl (Name s) = !bl (s ∈ reserved)) := by
      unfold Hid
      by_cases h2 : s ∈ reserved
      · rw [bl_true h2, bl_false (fun h3 => h3.2 h2)]; rfl
      · rw [bl_false h2, bl_true ⟨h, h2⟩]; rfl
    go_enter Tryz.func74, Tryz.ntmps74
    go_wp2_with fail
    refine (impl_word s 97 122 hs _).mono ?_
    rintro e w1 ⟨rfl, hb1⟩
    rw [hb]
    go_wp2_with fail
    refine (impl_reserved s hs _).mono ?_
    rintro e w2 ⟨rfl, hb2⟩
    have hb3 := hb1.trans (hb2.mono hb1.size)
    go_wp2
    go_ret
    exact ⟨by rw [HN.out]; rfl, hb3⟩
  · have hb := bl_false h
    have HN : Hid (bl (Name s) = false) := bl_false (fun h3 => h h3.1)
    go_enter Tryz.func74, Tryz.ntmps74
    go_wp2_with fail
    refine (impl_word s 97 122 hs _).mono ?_
    rintro e w1 ⟨rfl, hb1⟩
    rw [hb]
    go_wp2
    go_ret
    exact ⟨by rw [HN.out]; rfl, hb1⟩

theorem empty_of (s : ByteArray) (h : s.size = 0) : s = ⟨#[]⟩ := by
  cases s with | mk d => cases d with | mk l => cases l with | nil => rfl | cons c r => simp [ByteArray.size] at h
theorem ne_empty (s : ByteArray) (h : 0 < s.size) : (s.toList == []) = false := by
  rw [ByteArray.toList_eq]
  have : s.data.toList.length = s.size := rfl
  cases hl : s.data.toList with
  | nil => rw [hl] at this; simp at this; omega
  | cons c r => rfl
theorem bl_empty (s : ByteArray) (h : 0 < s.size) : (s.toList == ByteArray.toList ⟨#[]⟩) = false := by
  rw [Lib.bytes_beq_false_iff]
  intro e
  rw [e] at h
  exact absurd h (by decide)

set_option maxHeartbeats 1000000 in
set_option maxRecDepth 100000 in
theorem spec_con (s : ByteArray) (hs : s.size ≤ maxLen) (w : World) :
    Calls Tryz.prog 68 #[.string s] w fun e w' => e = .returned (.bool (bl (Word 65 90 s))) ∧ Below w.heap.size w w' := by
  by_cases h0 : s.size = 0
  · have HN : Hid (bl (Word 65 90 s) = false) := bl_false (fun h => by have := h.1; omega)
    obtain rfl := empty_of s h0
    go_enter Tryz.func68, Tryz.ntmps68
    go_wp2
    go_ret
    exact ⟨by rw [HN.out]; rfl, Below.refl _ _⟩
  · have hp : 0 < s.size := by omega
    have hne := ne_empty s hp
    have hne2 := bl_empty s hp
    by_cases h1 : 65 ≤ s[0].toNat
    · by_cases h2 : s[0].toNat ≤ 90
      · have HN : Hid (bl (Word 65 90 s) = bl (Rest s)) := bl_congr ⟨fun h => ⟨h.1, h.2.1, h.2.2.2⟩, fun h => ⟨h.1, h.2.1, fun _ => ⟨h1, h2⟩, h.2.2⟩⟩
        go_enter Tryz.func68, Tryz.ntmps68
        go_wp2_with fail
        refine (spec_rest s hs _).mono ?_
        rintro e w1 ⟨rfl, hb⟩
        go_wp2
        go_ret
        exact ⟨by rw [HN.out]; rfl, hb⟩
      · have HN : Hid (bl (Word 65 90 s) = false) := bl_false (fun h => h2 (h.2.2.1 hp).2)
        go_enter Tryz.func68, Tryz.ntmps68
        go_wp2
        go_ret
        exact ⟨by rw [HN.out]; rfl, Below.refl _ _⟩
    · have HN : Hid (bl (Word 65 90 s) = false) := bl_false (fun h => h1 (h.2.2.1 hp).1)
      go_enter Tryz.func68, Tryz.ntmps68
      go_wp2
      go_ret
      exact ⟨by rw [HN.out]; rfl, Below.refl _ _⟩

set_option maxHeartbeats 1000000 in
set_option maxRecDepth 100000 in
theorem spec_name (s : ByteArray) (hs : s.size ≤ maxLen) (w : World) :
    Calls Tryz.prog 69 #[.string s] w fun e w' => e = .returned (.bool (bl (Name s))) ∧ Below w.heap.size w w' := by
  by_cases h0 : s.size = 0
  · have HN : Hid (bl (Name s) = false) := bl_false (fun h => by have := h.1.1; omega)
    obtain rfl := empty_of s h0
    go_enter Tryz.func69, Tryz.ntmps69
    go_wp2
    go_ret
    exact ⟨by rw [HN.out]; rfl, Below.refl _ _⟩
  · have hp : 0 < s.size := by omega
    have hne := ne_empty s hp
    have hne2 := bl_empty s hp
    by_cases h1 : 97 ≤ s[0].toNat ∧ s[0].toNat ≤ 122
    · have hb1 := bl_true h1
      by_cases h2 : Rest s
      · have hb2 := bl_true h2
        have HN : Hid (bl (Name s) = !bl (s ∈ reserved)) := by
          unfold Hid
          have hW : Word 97 122 s := ⟨h2.1, h2.2.1, fun _ => h1, h2.2.2⟩
          by_cases h3 : s ∈ reserved
          · rw [bl_true h3, bl_false (fun h => h.2 h3)]; rfl
          · rw [bl_false h3, bl_true ⟨hW, h3⟩]; rfl
        go_enter Tryz.func69, Tryz.ntmps69
        go_wp2_with fail
        refine (spec_lower s[0] _).mono ?_
        rintro e w1 ⟨rfl, rfl⟩
        rw [hb1]
        go_wp2_with fail
        refine (spec_rest s hs _).mono ?_
        rintro e w2 ⟨rfl, hB1⟩
        rw [hb2]
        go_wp2_with fail
        refine (spec_reserved s _).mono ?_
        rintro e w3 ⟨rfl, hB2⟩
        have hB3 := hB1.trans (hB2.mono hB1.size)
        go_wp2
        go_ret
        exact ⟨by rw [HN.out]; rfl, hB3⟩
      · have hb2 := bl_false h2
        have HN : Hid (bl (Name s) = false) := bl_false (fun h => h2 ⟨h.1.1, h.1.2.1, h.1.2.2.2⟩)
        go_enter Tryz.func69, Tryz.ntmps69
        go_wp2_with fail
        refine (spec_lower s[0] _).mono ?_
        rintro e w1 ⟨rfl, rfl⟩
        rw [hb1]
        go_wp2_with fail
        refine (spec_rest s hs _).mono ?_
        rintro e w2 ⟨rfl, hB1⟩
        rw [hb2]
        go_wp2
        go_ret
        exact ⟨by rw [HN.out]; rfl, hB1⟩
    · have hb1 := bl_false h1
      have HN : Hid (bl (Name s) = false) := bl_false (fun h => h1 (h.1.2.2.1 hp))
      go_enter Tryz.func69, Tryz.ntmps69
      go_wp2_with fail
      refine (spec_lower s[0] _).mono ?_
      rintro e w1 ⟨rfl, rfl⟩
      rw [hb1]
      go_wp2
      go_ret
      exact ⟨by rw [HN.out]; rfl, Below.refl _ _⟩
end Go.Proofs.YtdilegbigaahnaaGreat
end

/- What is proved here: the program's tests on one declaration (isValidCon, isValidType) say whether it is good by itself. Condition: it lies in memory as said, and is small. -/
section
namespace Go.Proofs.YtdilegbigaahnaaGreat
open Go.RowKit

/-- A constructor, a type that is good by itself. -/
def GoodC (s : List TypeD) (c : ConD) : Prop := Word 65 90 c.name ∧ c.args.length ≤ 3 ∧ ∀ a ∈ c.args, isTypeB s a = true
def GoodT (s : List TypeD) (t : TypeD) : Prop := Name t.name ∧ 1 ≤ t.cons.length ∧ t.cons.length ≤ 5 ∧ ∀ c ∈ t.cons, GoodC s c

theorem all_of_index {α : Type} {p : α → Prop} {l : List α} (h : ∀ (j : Nat) y, j < l.length → l[j]? = some y → p y) : ∀ x ∈ l, p x := by
  intro x hx
  obtain ⟨j, hj, e⟩ := List.mem_iff_getElem.1 hx
  exact h j x hj (by rw [List.getElem?_eq_getElem hj, e])

set_option maxHeartbeats 2000000 in
set_option maxRecDepth 100000 in
theorem impl_validCon (w : World) (a : Option Addr) (cap : Nat) (s : List TypeD) (c : ConD) (u v : Value) (hx : Row2 TypeAt w a s) (hm : s.length ≤ 1048576) (hc : ConAt w c u v) (hf : c.fits) (hl : c.args.length ≤ 1048576) :
    Calls Tryz.prog 75 #[.agg #[.slice a s.length cap], .agg #[u, v]] w fun e w' => e = .returned (.bool (bl (GoodC s c))) ∧ Below w.heap.size w w' := by
  obtain ⟨a2, cap2, rfl, rfl, hr⟩ := hc
  obtain ⟨w2, h2⟩ : ∃ w2, w2 = (w.alloc (.cells #[.slice a s.length cap] 33)).alloc (.cells #[.string c.name, .slice a2 c.args.length cap2] 73) := ⟨_, rfl⟩
  have h := two_alloc w (.cells #[.slice a s.length cap] 33) (.cells #[.string c.name, .slice a2 c.args.length cap2] 73)
  rw [← h2] at h
  obtain ⟨hsz, hp0, hp1, hB⟩ := h
  have HX := Lib.hid hx
  have HR := Lib.hid (reads_below hr hB)
  have HB := Lib.hid hB
  have H2 := Lib.hid h2
  obtain ⟨q0, _⟩ := one_cell hp0
  obtain ⟨q1, q2, _, _⟩ := two_cells hp1
  have hK := impl_con c.name hf.1 w2
  clear hx hr hB h2 hsz hp0 hp1 hf
  generalize hn : c.args.length = n at *
  have HN := Lib.hid hn
  clear hn
  by_cases hw : Word 65 90 c.name
  · rw [bl_true hw] at hK
    have HW := Lib.hid hw
    clear hw
    by_cases h3 : n ≤ 3
    · go_enter Tryz.func75, Tryz.ntmps75
      go_wp2_with fail
      rw [← H2.out]
      refine hK.mono ?_
      rintro e w3 ⟨rfl, hb3⟩
      have HB3 : Hid (Below w.heap.size w w3) := HB.out.trans (hb3.mono HB.out.size)
      have HR3 := Lib.hid (reads_below HR.out hb3)
      have c0 := cell_below q0 hb3
      have c1 := cell_below q1 hb3
      have c2 := cell_below q2 hb3
      have HC0 := Lib.hid c0
      clear hb3 hK q0 q1 q2
      go_wp2
      clear c0 c1 c2
      go_loopw [20] (fun i wr => ∃ (k : Nat), k ≤ n ∧ i = .int .i64 k ∧ Hid (Below w3.heap.size w3 wr) ∧ Hid (∀ (j : Nat) y, j < k → c.args[j]? = some y → isTypeB s y = true)) (fun i _ => n - (intOf i).toNat)
      case atStart => exact ⟨0, Nat.zero_le _, rfl, Below.refl _ _, fun j _ h => by omega⟩
      case round =>
        obtain ⟨k, hk, rfl, hBR, hne⟩ := hrel
        have c0 := cell_below HC0.out hBR.out
        by_cases hlt : k < n
        · have hk' : k < c.args.length := by rw [HN.out]; exact hlt
          have hltz : (k : Int) < (n : Int) := by omega
          obtain ⟨y, rfl, hc⟩ := reads_below HR3.out hBR.out k hk'
          have hx : c.args[k]? = some c.args[k] := List.getElem?_eq_getElem hk'
          generalize c.args[k] = x at hx hc
          have HXE := Lib.hid hx
          clear hx
          have H := impl_isType wr a cap s x (row2_below type_below HX.out (HB3.out.trans (hBR.out.mono HB3.out.size))) hm
          cases hb : isTypeB s x with
          | true =>
            rw [hb] at H
            have HBB := Lib.hid hb
            clear hb
            go_wp2_with fail
            refine H.mono ?_
            rintro e w4 ⟨rfl, hb4⟩
            have HB4 : Hid (Below w3.heap.size w3 w4) := hBR.out.trans (hb4.mono hBR.out.size)
            clear hb4 H
            go_wp2
            go_roundw
            case rel => exact ⟨k + 1, by omega, by go_num, HB4, before_succ' (p := fun y => isTypeB s y = true) hne.out HXE.out HBB.out⟩
            case measure => simp [intOf]; omega
          | false =>
            rw [hb] at H
            have HRES : Hid (bl (GoodC s c) = false) := bl_false (fun h => by
              obtain ⟨h4, h5⟩ := List.getElem?_eq_some_iff.1 HXE.out
              have := h.2.2 x (h5 ▸ List.getElem_mem h4)
              rw [hb] at this
              cases this)
            clear hb
            go_wp2_with fail
            refine H.mono ?_
            rintro e w4 ⟨rfl, hb4⟩
            have HB4 : Hid (Below w3.heap.size w3 w4) := hBR.out.trans (hb4.mono hBR.out.size)
            clear hb4 H
            go_wp2
            go_ret
            exact ⟨by rw [HRES.out]; rfl, HB3.out.trans (HB4.out.mono HB3.out.size)⟩
        · have HRES : Hid (bl (GoodC s c) = true) := bl_true ⟨HW.out, by rw [HN.out]; exact h3, all_of_index (fun j y hj hy => hne.out j y (by have := HN.out; omega) hy)⟩
          go_wp2
          go_ret
          exact ⟨by rw [HRES.out]; rfl, HB3.out.trans (hBR.out.mono HB3.out.size)⟩
    · have HRES : Hid (bl (GoodC s c) = false) := bl_false (fun h => by have := h.2.1; have := HN.out; omega)
      have h3' : (3 : Int) < (n : Int) := by omega
      go_enter Tryz.func75, Tryz.ntmps75
      go_wp2_with fail
      rw [← H2.out]
      refine hK.mono ?_
      rintro e w3 ⟨rfl, hb3⟩
      have HB3 : Hid (Below w.heap.size w w3) := HB.out.trans (hb3.mono HB.out.size)
      have c1 := cell_below q1 hb3
      have c2 := cell_below q2 hb3
      clear hb3 hK q0 q1 q2
      go_wp2
      go_ret
      exact ⟨by rw [HRES.out]; rfl, HB3.out⟩
  · rw [bl_false hw] at hK
    have HRES : Hid (bl (GoodC s c) = false) := bl_false (fun h => hw h.1)
    clear hw
    go_enter Tryz.func75, Tryz.ntmps75
    go_wp2_with fail
    rw [← H2.out]
    refine hK.mono ?_
    rintro e w3 ⟨rfl, hb3⟩
    have HB3 : Hid (Below w.heap.size w w3) := HB.out.trans (hb3.mono HB.out.size)
    clear hb3 hK q0 q1 q2
    go_wp2
    go_ret
    exact ⟨by rw [HRES.out]; rfl, HB3.out⟩

set_option maxHeartbeats 2000000 in
set_option maxRecDepth 100000 in
theorem impl_validType (w : World) (a : Option Addr) (cap : Nat) (s : List TypeD) (t : TypeD) (u v : Value) (hx : Row2 TypeAt w a s) (hm : s.length ≤ 1048576) (ht : TypeAt w t u v) (hf : t.fits) (hl : t.cons.length ≤ 1048576) (hl2 : ∀ d ∈ t.cons, d.args.length ≤ 1048576) :
    Calls Tryz.prog 47 #[.agg #[.slice a s.length cap], .agg #[u, v]] w fun e w' => e = .returned (.bool (bl (GoodT s t))) ∧ Below w.heap.size w w' := by
  obtain ⟨a2, cap2, rfl, rfl, hr⟩ := ht
  obtain ⟨w2, h2⟩ : ∃ w2, w2 = (w.alloc (.cells #[.slice a s.length cap] 33)).alloc (.cells #[.string t.name, .slice a2 t.cons.length cap2] 71) := ⟨_, rfl⟩
  have h := two_alloc w (.cells #[.slice a s.length cap] 33) (.cells #[.string t.name, .slice a2 t.cons.length cap2] 71)
  rw [← h2] at h
  obtain ⟨hsz, hp0, hp1, hB⟩ := h
  have HX := Lib.hid hx
  have HR := Lib.hid (row2_below con_below hr hB)
  have HB := Lib.hid hB
  have H2 := Lib.hid h2
  have HF := Lib.hid hf.2.2
  have HL := Lib.hid hl2
  obtain ⟨q0, _⟩ := one_cell hp0
  obtain ⟨q1, q2, _, _⟩ := two_cells hp1
  have hK := impl_name t.name hf.1 w2
  clear hx hr hB h2 hsz hp0 hp1 hf hl2
  generalize hn : t.cons.length = n at *
  have HN := Lib.hid hn
  clear hn
  by_cases hw : Name t.name
  · rw [bl_true hw] at hK
    have HW := Lib.hid hw
    clear hw
    by_cases h3 : 1 ≤ n ∧ n ≤ 5
    · obtain ⟨h3a, h3b⟩ := h3
      go_enter Tryz.func47, Tryz.ntmps47
      go_wp2_with fail
      rw [← H2.out]
      refine hK.mono ?_
      rintro e w3 ⟨rfl, hb3⟩
      have HB3 : Hid (Below w.heap.size w w3) := HB.out.trans (hb3.mono HB.out.size)
      have HR3 := Lib.hid (row2_below con_below HR.out hb3)
      have c0 := cell_below q0 hb3
      have c1 := cell_below q1 hb3
      have c2 := cell_below q2 hb3
      have HC0 := Lib.hid c0
      clear hb3 hK q0 q1 q2
      go_wp2
      clear c0 c1 c2
      go_loopw [26] (fun i wr => ∃ (k : Nat), k ≤ n ∧ i = .int .i64 k ∧ Hid (Below w3.heap.size w3 wr) ∧ Hid (∀ (j : Nat) y, j < k → t.cons[j]? = some y → GoodC s y)) (fun i _ => n - (intOf i).toNat)
      case atStart => exact ⟨0, Nat.zero_le _, rfl, Below.refl _ _, fun j _ h => by omega⟩
      case round =>
        obtain ⟨k, hk, rfl, hBR, hne⟩ := hrel
        by_cases hlt : k < n
        · have hk' : k < t.cons.length := by rw [HN.out]; exact hlt
          have hltz : (k : Int) < (n : Int) := by omega
          obtain ⟨y, u1, v1, rfl, hc0, hc1, hr1⟩ := row2_below con_below HR3.out hBR.out k hk'
          have hx : t.cons[k]? = some t.cons[k] := List.getElem?_eq_getElem hk'
          have hfx := HF.out _ (List.getElem_mem hk')
          have hlx := HL.out _ (List.getElem_mem hk')
          generalize t.cons[k] = c at hx hr1 hfx hlx
          have HXE := Lib.hid hx
          have hr2 := hr1
          obtain ⟨ca, cc, hu, hv, _⟩ := hr2
          subst hu
          subst hv
          have hbD : Below wr.heap.size wr (wr.alloc (.cells #[.string c.name, .slice ca c.args.length cc] 73)) := (Below.refl _ _).alloc (Nat.le_refl _) _
          have HBD : Hid (Below w3.heap.size w3 (wr.alloc (.cells #[.string c.name, .slice ca c.args.length cc] 73))) := hBR.out.trans (hbD.mono hBR.out.size)
          have c0 := cell_below HC0.out HBD.out
          have H := impl_validCon _ a cap s c _ _ (row2_below type_below HX.out (HB3.out.trans (HBD.out.mono HB3.out.size))) hm (con_below _ _ _ _ _ hr1 hbD) hfx hlx
          clear hx hr1 hfx hlx hbD
          by_cases hg : GoodC s c
          · rw [bl_true hg] at H
            have HG := Lib.hid hg
            clear hg
            go_wp2_with fail
            refine H.mono ?_
            rintro e w4 ⟨rfl, hb4⟩
            have HB4 : Hid (Below w3.heap.size w3 w4) := HBD.out.trans (hb4.mono HBD.out.size)
            clear hb4 H
            go_wp2
            go_roundw
            case rel => exact ⟨k + 1, by omega, by go_num, HB4, before_succ' hne.out HXE.out HG.out⟩
            case measure => simp [intOf]; omega
          · rw [bl_false hg] at H
            have HRES : Hid (bl (GoodT s t) = false) := bl_false (fun h => by
              obtain ⟨h4, h5⟩ := List.getElem?_eq_some_iff.1 HXE.out
              exact hg (h.2.2.2 c (h5 ▸ List.getElem_mem h4)))
            clear hg
            go_wp2_with fail
            refine H.mono ?_
            rintro e w4 ⟨rfl, hb4⟩
            have HB4 : Hid (Below w3.heap.size w3 w4) := HBD.out.trans (hb4.mono HBD.out.size)
            clear hb4 H
            go_wp2
            go_ret
            exact ⟨by rw [HRES.out]; rfl, HB3.out.trans (HB4.out.mono HB3.out.size)⟩
        · have HRES : Hid (bl (GoodT s t) = true) := bl_true ⟨HW.out, by rw [HN.out]; exact h3a, by rw [HN.out]; exact h3b, all_of_index (fun j y hj hy => hne.out j y (by have := HN.out; omega) hy)⟩
          go_wp2
          go_ret
          exact ⟨by rw [HRES.out]; rfl, HB3.out.trans (hBR.out.mono HB3.out.size)⟩
    · have HRES : Hid (bl (GoodT s t) = false) := bl_false (fun h => by have := h.2.1; have := h.2.2.1; have := HN.out; omega)
      by_cases h4 : n < 1
      · have h4' : (n : Int) < 1 := by omega
        go_enter Tryz.func47, Tryz.ntmps47
        go_wp2_with fail
        rw [← H2.out]
        refine hK.mono ?_
        rintro e w3 ⟨rfl, hb3⟩
        have HB3 : Hid (Below w.heap.size w w3) := HB.out.trans (hb3.mono HB.out.size)
        have c1 := cell_below q1 hb3
        have c2 := cell_below q2 hb3
        clear hb3 hK q0 q1 q2 h3
        go_wp2
        go_ret
        exact ⟨by rw [HRES.out]; rfl, HB3.out⟩
      · have h4' : ¬ (n : Int) < 1 := by omega
        have h5' : (5 : Int) < (n : Int) := by omega
        go_enter Tryz.func47, Tryz.ntmps47
        go_wp2_with fail
        rw [← H2.out]
        refine hK.mono ?_
        rintro e w3 ⟨rfl, hb3⟩
        have HB3 : Hid (Below w.heap.size w w3) := HB.out.trans (hb3.mono HB.out.size)
        have c1 := cell_below q1 hb3
        have c2 := cell_below q2 hb3
        clear hb3 hK q0 q1 q2 h3
        go_wp2
        go_ret
        exact ⟨by rw [HRES.out]; rfl, HB3.out⟩
  · rw [bl_false hw] at hK
    have HRES : Hid (bl (GoodT s t) = false) := bl_false (fun h => hw h.1)
    clear hw
    go_enter Tryz.func47, Tryz.ntmps47
    go_wp2_with fail
    rw [← H2.out]
    refine hK.mono ?_
    rintro e w3 ⟨rfl, hb3⟩
    have HB3 : Hid (Below w.heap.size w w3) := HB.out.trans (hb3.mono HB.out.size)
    clear hb3 hK q0 q1 q2
    go_wp2
    go_ret
    exact ⟨by rw [HRES.out]; rfl, HB3.out⟩
end Go.Proofs.YtdilegbigaahnaaGreat
end
