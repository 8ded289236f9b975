/- What is proved here: pure facts on lists of texts: a strictly ascending list with the same elements is unique; sorting and compacting gives one; inserting keeps one; a list is distinct just if its sorted form is as long. No condition. -/
import Derived.Test.YtdifefgigcjgeaaIdx
import Derived.Lib.RowBridge
import Derived.Lib.SlicesCompact
namespace Go.Proofs.Ytdifefgigcjgeaa
open Go.RowKit

abbrev key (s : ByteArray) : List UInt8 := s.data.toList
theorem key_inj {a b : ByteArray} (h : key a = key b) : a = b := ByteArray.ext (Array.toList_inj.1 h)

/-- Strictly ascending. -/
def Rising (ys : List ByteArray) : Prop := ys.Pairwise fun a b => key a < key b
/-- ys is xs sorted, each text once. -/
def SortOf (xs ys : List ByteArray) : Prop := Rising ys ∧ ∀ x, x ∈ ys ↔ x ∈ xs

theorem lt_irrefl' (a : List UInt8) : ¬ a < a := List.lt_irrefl a
theorem lt_trans' {a b c : List UInt8} (h : a < b) (k : b < c) : a < c := List.lt_trans h k
theorem lt_asymm' {a b : List UInt8} (h : a < b) : ¬ b < a := fun k => lt_irrefl' a (lt_trans' h k)
theorem lt_tri {a b : List UInt8} (h : ¬ a < b) (k : a ≠ b) : b < a := by
  have h1 : b ≤ a := List.not_lt.1 h
  rcases List.le_iff_lt_or_eq.1 h1 with h2 | h2
  · exact h2
  · exact absurd h2.symm k

theorem rising_unique : ∀ (l r : List ByteArray), Rising l → Rising r → (∀ x, x ∈ l ↔ x ∈ r) → l = r
  | [], [], _, _, _ => rfl
  | [], b :: r, _, _, h => absurd ((h b).2 (by simp)) (by simp)
  | a :: l, [], _, _, h => absurd ((h a).1 (by simp)) (by simp)
  | a :: l, b :: r, hl, hr, h => by
    unfold Rising at hl hr
    rw [List.pairwise_cons] at hl hr
    have e : a = b := by
      rcases List.mem_cons.1 ((h a).1 (by simp)) with h1 | h1
      · exact h1
      · rcases List.mem_cons.1 ((h b).2 (by simp)) with h2 | h2
        · exact h2.symm
        · exact absurd (hl.1 b h2) (lt_asymm' (hr.1 a h1))
    subst e
    congr 1
    refine rising_unique l r hl.2 hr.2 (fun x => ⟨fun hx => ?_, fun hx => ?_⟩)
    · rcases List.mem_cons.1 ((h x).1 (List.mem_cons_of_mem _ hx)) with h1 | h1
      · subst h1
        exact absurd (hl.1 _ hx) (lt_irrefl' _)
      · exact h1
    · rcases List.mem_cons.1 ((h x).2 (List.mem_cons_of_mem _ hx)) with h1 | h1
      · subst h1
        exact absurd (hr.1 _ hx) (lt_irrefl' _)
      · exact h1
theorem sortOf_unique {xs l r : List ByteArray} (h : SortOf xs l) (k : SortOf xs r) : l = r :=
  rising_unique l r h.1 k.1 (fun x => (h.2 x).trans (k.2 x).symm)

/-- What slices.Compact leaves of an ascending row. -/
theorem compactUpTo_rising (d : Array (List UInt8)) (hd : ∀ i j, i < j → j < d.size → d[i]! ≤ d[j]!) : ∀ m, m ≤ d.size →
    (Lib.compactUpTo d m).Pairwise (· < ·) ∧ ∀ x, x ∈ Lib.compactUpTo d m ↔ ∃ j, j < m ∧ d[j]! = x
  | 0, _ => by simp [Lib.compactUpTo]
  | m + 1, hm => by
    obtain ⟨h1, h2⟩ := compactUpTo_rising d hd m (by omega)
    rw [Lib.compactUpTo_succ]
    by_cases hk : Lib.keeps d m = true
    · rw [if_pos hk]
      refine ⟨?_, fun x => ?_⟩
      · rw [List.pairwise_append]
        refine ⟨h1, by simp, fun x hx y hy => ?_⟩
        obtain rfl : y = d[m]! := by simpa using hy
        obtain ⟨j, hj, rfl⟩ := (h2 x).1 hx
        have hne : d[m]! ≠ d[m - 1]! := by
          have := hk
          unfold Lib.keeps at this
          rw [decide_eq_true_eq] at this
          rcases this with h | h
          · omega
          · exact h
        have ha : d[m - 1]! < d[m]! := by
          rcases List.le_iff_lt_or_eq.1 (hd (m - 1) m (by omega) (by omega)) with h | h
          · exact h
          · exact absurd h.symm hne
        rcases Nat.lt_or_ge j (m - 1) with h | h
        · rcases List.le_iff_lt_or_eq.1 (hd j (m - 1) h (by omega)) with h3 | h3
          · exact lt_trans' h3 ha
          · rw [h3]; exact ha
        · obtain rfl : j = m - 1 := by omega
          exact ha
      · rw [List.mem_append, h2 x]
        constructor
        · rintro (⟨j, hj, e⟩ | h)
          · exact ⟨j, by omega, e⟩
          · exact ⟨m, by omega, (by simpa using h : x = d[m]!).symm⟩
        · rintro ⟨j, hj, e⟩
          rcases Nat.lt_or_ge j m with h | h
          · exact .inl ⟨j, h, e⟩
          · obtain rfl : j = m := by omega
            exact .inr (by simp [e])
    · rw [if_neg hk, List.append_nil]
      refine ⟨h1, fun x => ?_⟩
      rw [h2 x]
      have hk2 : 0 < m ∧ d[m]! = d[m - 1]! := by
        have := hk
        unfold Lib.keeps at this
        rw [decide_eq_true_eq] at this
        constructor
        · rcases Nat.eq_zero_or_pos m with h | h
          · exact absurd (.inl h) this
          · exact h
        · exact Classical.byContradiction fun h => this (.inr h)
      constructor
      · rintro ⟨j, hj, e⟩
        exact ⟨j, by omega, e⟩
      · rintro ⟨j, hj, e⟩
        rcases Nat.lt_or_ge j m with h | h
        · exact ⟨j, h, e⟩
        · obtain rfl : j = m := by omega
          exact ⟨j - 1, by omega, by rw [← hk2.2]; exact e⟩

/-- Sorted and compacted. -/
def sorted (xs : List ByteArray) : List ByteArray := (Lib.compact ((xs.map key).mergeSort fun x y => decide (x ≤ y))).map fun l => ⟨l.toArray⟩
theorem sorted_key (xs : List ByteArray) : (sorted xs).map key = Lib.compact ((xs.map key).mergeSort fun x y => decide (x ≤ y)) := by
  unfold sorted
  rw [List.map_map]
  exact (List.map_congr_left (fun l _ => rfl)).trans (List.map_id _)
theorem le_trans' (a b c : List UInt8) (h : decide (a ≤ b) = true) (k : decide (b ≤ c) = true) : decide (a ≤ c) = true := by
  rw [decide_eq_true_eq] at *
  exact List.le_trans h k
theorem le_total' (a b : List UInt8) : (decide (a ≤ b) || decide (b ≤ a)) = true := by
  rw [Bool.or_eq_true, decide_eq_true_eq, decide_eq_true_eq]
  exact List.le_total a b

theorem sorted_ok (xs : List ByteArray) : SortOf xs (sorted xs) := by
  have hp := List.pairwise_mergeSort le_trans' le_total' (xs.map key)
  have hm : ∀ x, x ∈ (xs.map key).mergeSort (fun x y => decide (x ≤ y)) ↔ x ∈ xs.map key := fun x => (List.mergeSort_perm (xs.map key) _).mem_iff
  have hk := sorted_key xs
  generalize (xs.map key).mergeSort (fun x y => decide (x ≤ y)) = zs at hp hm hk
  have hd : ∀ i j, i < j → j < zs.toArray.size → zs.toArray[i]! ≤ zs.toArray[j]! := by
    intro i j hij hj
    have hj' : j < zs.length := by simpa using hj
    have := (List.pairwise_iff_getElem.1 hp) i j (by omega) hj' hij
    rw [decide_eq_true_eq] at this
    simpa [getElem!_pos, hj', show i < zs.length by omega] using this
  obtain ⟨h1, h2⟩ := compactUpTo_rising zs.toArray hd zs.length (by simp)
  have hk' : (sorted xs).map key = Lib.compactUpTo zs.toArray zs.length := hk
  rw [← hk'] at h1 h2
  refine ⟨?_, fun x => ?_⟩
  · unfold Rising
    exact List.pairwise_map.1 h1
  · have e1 : x ∈ sorted xs ↔ key x ∈ (sorted xs).map key := by
      constructor
      · exact fun h => List.mem_map.2 ⟨x, h, rfl⟩
      · intro h
        obtain ⟨y, hy, e⟩ := List.mem_map.1 h
        rw [← key_inj e]; exact hy
    rw [e1, h2]
    constructor
    · rintro ⟨j, hj, e⟩
      have : key x ∈ zs := by
        rw [← e]
        have : zs.toArray[j]! = zs[j] := by simp [getElem!_pos, hj]
        rw [this]
        exact List.getElem_mem hj
      obtain ⟨y, hy, e⟩ := List.mem_map.1 ((hm _).1 this)
      rw [← key_inj e]; exact hy
    · intro h
      obtain ⟨j, hj, e⟩ := List.mem_iff_getElem.1 ((hm (key x)).2 (List.mem_map.2 ⟨x, h, rfl⟩))
      exact ⟨j, hj, by simp [getElem!_pos, hj, e]⟩

theorem sorted_length_le (xs : List ByteArray) : (sorted xs).length ≤ xs.length := by
  have h := Lib.compact_length_le ((xs.map key).mergeSort fun x y => decide (x ≤ y))
  rw [← sorted_key, List.length_map, List.length_mergeSort, List.length_map] at h
  exact h

theorem rising_nodup {ys : List ByteArray} (h : Rising ys) : ys.Nodup := by
  unfold Rising at h
  unfold List.Nodup
  exact h.imp (fun hab e => by subst e; exact lt_irrefl' _ hab)

/-- Distinct: no two are equal. -/
theorem distinct_iff_nodup (xs : List ByteArray) : Distinct xs ↔ xs.Nodup := by
  unfold Distinct
  rw [List.Nodup, List.pairwise_iff_getElem]
  constructor
  · intro h i j hi hj hij e
    have h1 := h i hi
    have h2 := h j hj
    rw [e, h2] at h1
    omega
  · intro h j hj
    exact idx_hit xs j xs[j] hj rfl (fun i hi hij e => h i j hi hj hij e)

theorem nodup_lengthK : ∀ (l r : List (List UInt8)), l.Nodup → (∀ x, x ∈ l → x ∈ r) → l.length ≤ r.length
  | [], r, _, _ => by simp
  | a :: l, r, hl, h => by
    rw [List.nodup_cons] at hl
    have ha := h a (by simp)
    have := nodup_lengthK l (r.erase a) hl.2 (fun x hx => by
      have hne : x ≠ a := fun e => hl.1 (e ▸ hx)
      exact (List.mem_erase_of_ne hne).2 (h x (List.mem_cons_of_mem _ hx)))
    rw [List.length_erase_of_mem ha] at this
    have hp : 0 < r.length := List.length_pos_of_mem ha
    rw [List.length_cons]
    omega
theorem nodup_length (l r : List ByteArray) (hl : l.Nodup) (h : ∀ x, x ∈ l → x ∈ r) : l.length ≤ r.length := by
  have hn : (l.map key).Nodup := by
    unfold List.Nodup at hl ⊢
    rw [List.pairwise_map]
    exact hl.imp (fun hne e => hne (key_inj e))
  have := nodup_lengthK (l.map key) (r.map key) hn (fun x hx => by
    obtain ⟨y, hy, rfl⟩ := List.mem_map.1 hx
    exact List.mem_map.2 ⟨y, h y hy, rfl⟩)
  simpa using this

/-- A list is distinct just if nothing is lost when it is sorted, each once. -/
theorem distinct_iff_length {xs ys : List ByteArray} (h : SortOf xs ys) : Distinct xs ↔ ys.length = xs.length := by
  have hy := rising_nodup h.1
  have h1 := nodup_length ys xs hy (fun x hx => (h.2 x).1 hx)
  rw [distinct_iff_nodup]
  constructor
  · intro hx
    have h2 := nodup_length xs ys hx (fun x hx => (h.2 x).2 hx)
    omega
  · intro hl
    refine Classical.byContradiction fun hn => ?_
    have key : ∀ zs : List ByteArray, ¬ zs.Nodup → ∃ l : List ByteArray, l.length < zs.length ∧ ∀ x, x ∈ zs → x ∈ l := by
      intro zs
      induction zs with
      | nil => intro h; exact absurd List.nodup_nil h
      | cons a r ih =>
        intro h
        by_cases ha : a ∈ r
        · exact ⟨r, by simp, fun x hx => by
            rcases List.mem_cons.1 hx with e | e
            · rw [e]; exact ha
            · exact e⟩
        · obtain ⟨l, hl, hs⟩ := ih (fun hr => h (List.nodup_cons.2 ⟨ha, hr⟩))
          refine ⟨a :: l, by simp; omega, fun x hx => ?_⟩
          rcases List.mem_cons.1 hx with e | e
          · rw [e]; simp
          · exact List.mem_cons_of_mem _ (hs x e)
    obtain ⟨l, hl2, hs⟩ := key xs hn
    have := nodup_length ys l hy (fun x hx => hs x ((h.2 x).1 hx))
    omega

/-- Inserting at the right place. -/
theorem insert_rising {ys : List ByteArray} {x : ByteArray} {a : Nat} (h : Rising ys) (ha : a ≤ ys.length) (hb : ∀ j (hj : j < ys.length), j < a → key ys[j] < key x) (hn : ∀ hl : a < ys.length, ¬ key ys[a] < key x ∧ ys[a] ≠ x) :
    Rising (ys.take a ++ [x] ++ ys.drop a) := by
  unfold Rising at h ⊢
  rw [List.pairwise_append, List.pairwise_append]
  refine ⟨⟨h.sublist (List.take_sublist _ _), by simp, ?_⟩, h.sublist (List.drop_sublist _ _), ?_⟩
  · intro u hu v hv
    obtain rfl : v = x := by simpa using hv
    obtain ⟨j, hj, e⟩ := List.mem_iff_getElem.1 hu
    rw [List.length_take] at hj
    rw [List.getElem_take] at e
    rw [← e]
    exact hb j (by omega) (by omega)
  · intro u hu v hv
    obtain ⟨i, hi, e⟩ := List.mem_iff_getElem.1 hv
    rw [List.length_drop] at hi
    rw [List.getElem_drop] at e
    have hl : a < ys.length := by omega
    have hxa : key x < key ys[a] := lt_tri (hn hl).1 (fun e => (hn hl).2 (key_inj e))
    have hxv : key x < key v := by
      rw [← e]
      rcases Nat.eq_zero_or_pos i with h0 | h0
      · subst h0; exact hxa
      · exact lt_trans' hxa ((List.pairwise_iff_getElem.1 h) a (a + i) hl (by omega) (by omega))
    rcases List.mem_append.1 hu with h1 | h1
    · obtain ⟨j, hj, e2⟩ := List.mem_iff_getElem.1 h1
      rw [List.length_take] at hj
      rw [List.getElem_take] at e2
      rw [← e2]
      exact lt_trans' (hb j (by omega) (by omega)) hxv
    · obtain rfl : u = x := by simpa using h1
      exact hxv
theorem insert_mem (ys : List ByteArray) (x : ByteArray) (a : Nat) (u : ByteArray) : u ∈ ys.take a ++ [x] ++ ys.drop a ↔ u ∈ ys ∨ u = x := by
  have e : u ∈ ys ↔ u ∈ ys.take a ∨ u ∈ ys.drop a := by rw [← List.mem_append, List.take_append_drop]
  rw [e]
  simp only [List.mem_append, List.mem_cons, List.mem_nil_iff, or_false]
  constructor
  · rintro ((h | h) | h)
    · exact .inl (.inl h)
    · exact .inr h
    · exact .inl (.inr h)
  · rintro ((h | h) | h)
    · exact .inl (.inl h)
    · exact .inr h
    · exact .inl (.inr h)
theorem insert_length (ys : List ByteArray) (x : ByteArray) (a : Nat) : (ys.take a ++ [x] ++ ys.drop a).length = ys.length + 1 := by
  simp
  omega
end Go.Proofs.Ytdifefgigcjgeaa
