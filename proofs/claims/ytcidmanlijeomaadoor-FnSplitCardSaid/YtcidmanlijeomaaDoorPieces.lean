/- Plain facts on splitting bytes at one byte: the library's splitting gives the pieces between the occurrences. No condition beyond those typed. -/
import Derived.Lib.SplitLaws
import Derived.Lib.IndexBytes
import Derived.Lib.CountLaws
import Derived.Lib.Split
import Derived.WideShapes
import Derived.Lib.Join
namespace Go.Proofs.YtcidmanlijeomaaDoor
open Go.Lib

/-- The pieces between the occurrences of c. -/
def pieces (c : UInt8) : List UInt8 → List (List UInt8)
  | [] => [[]]
  | b :: l => if b = c then [] :: pieces c l else
    match pieces c l with
    | [] => [[b]]
    | p :: ps => (b :: p) :: ps

theorem pieces_ne (c : UInt8) (l : List UInt8) : pieces c l ≠ [] := by
  cases l with
  | nil => simp [pieces]
  | cons b l =>
    unfold pieces
    split
    · simp
    · split <;> simp

theorem pieces_snoc_hit (c : UInt8) : ∀ (l : List UInt8), pieces c (l ++ [c]) = pieces c l ++ [[]]
  | [] => by simp [pieces]
  | b :: l => by
    have ih := pieces_snoc_hit c l
    by_cases h : b = c
    · simp [pieces, h, ih]
    · simp only [List.cons_append, pieces, if_neg h, ih]
      cases hp : pieces c l with
      | nil => exact absurd hp (pieces_ne c l)
      | cons p ps => rfl
theorem pieces_snoc_miss (c x : UInt8) (hx : x ≠ c) : ∀ (l : List UInt8) (ps : List (List UInt8)) (p : List UInt8), pieces c l = ps ++ [p] → pieces c (l ++ [x]) = ps ++ [p ++ [x]]
  | [], ps, p, h => by
    have e : ps = [] ∧ p = [] := by
      cases ps with
      | nil => simp [pieces] at h; exact ⟨rfl, h⟩
      | cons q qs => simp [pieces] at h
    rw [e.1, e.2]
    simp [pieces, hx]
  | b :: l, ps, p, h => by
    by_cases hb : b = c
    · simp only [pieces, if_pos hb] at h
      cases ps with
      | nil =>
        simp at h
        exact absurd h.2 (pieces_ne c l)
      | cons q qs =>
        simp only [List.cons_append, List.cons.injEq] at h
        have ih := pieces_snoc_miss c x hx l qs p h.2
        simp only [List.cons_append, pieces, if_pos hb, ih, ← h.1]
    · simp only [pieces, if_neg hb] at h
      cases hp : pieces c l with
      | nil => exact absurd hp (pieces_ne c l)
      | cons q qs =>
        rw [hp] at h
        cases ps with
        | nil =>
          simp at h
          obtain ⟨rfl, rfl⟩ := h
          have ih := pieces_snoc_miss c x hx l [] q (by rw [hp]; rfl)
          simp only [List.cons_append, pieces, if_neg hb, ih]
          rfl
        | cons r rs =>
          simp only [List.cons_append, List.cons.injEq] at h
          obtain ⟨rfl, h2⟩ := h
          have ih := pieces_snoc_miss c x hx l (q :: rs) p (by rw [hp, h2]; rfl)
          simp only [List.cons_append, pieces, if_neg hb, ih]

theorem pieces_none (c : UInt8) : ∀ (l : List UInt8), c ∉ l → pieces c l = [l]
  | [], _ => rfl
  | b :: l, h => by
    have hb : b ≠ c := fun e => h (by simp [e])
    have ih := pieces_none c l (fun e => h (by simp [e]))
    simp only [pieces, if_neg hb, ih]
theorem pieces_hit (c : UInt8) : ∀ (p r : List UInt8), c ∉ p → pieces c (p ++ c :: r) = p :: pieces c r
  | [], r, _ => by simp [pieces]
  | b :: p, r, h => by
    have hb : b ≠ c := fun e => h (by simp [e])
    have ih := pieces_hit c p r (fun e => h (by simp [e]))
    simp only [List.cons_append, pieces, if_neg hb, ih]

theorem indexByte_cases (c : UInt8) : ∀ (l : List UInt8), (indexByte l c = -1 ∧ c ∉ l) ∨ ∃ p r, l = p ++ c :: r ∧ c ∉ p ∧ indexByte l c = p.length
  | [] => .inl ⟨rfl, by simp⟩
  | b :: l => by
    by_cases hb : b = c
    · subst hb
      exact .inr ⟨[], l, rfl, by simp, by simp [indexByte]⟩
    · have hb2 : (b == c) = false := by simpa using hb
      rcases indexByte_cases c l with ⟨h1, h2⟩ | ⟨p, r, rfl, h2, h3⟩
      · refine .inl ⟨by simp [indexByte, hb2, h1], ?_⟩
        simp [h2]
        exact fun e => hb e.symm
      · refine .inr ⟨b :: p, r, rfl, ?_, ?_⟩
        · simp [h2]
          exact fun e => hb e.symm
        · have h4 : (indexByte (p ++ c :: r) c == -1) = false := by rw [h3]; simp
          unfold indexByte
          rw [hb2, h4, h3]
          simp

/-- strings.Split at one byte. -/
theorem split_pieces (c : UInt8) (sep : ByteArray) (hs : sep.data.toList = [c]) : ∀ (k : Nat) (s : ByteArray), s.size ≤ k → (splitB sep 0 (countB s sep) s).map (·.data.toList) = pieces c s.data.toList ∧ (splitB sep 0 (countB s sep) s).length = countB s sep + 1 := by
  have h1 : sep.size = 1 := by
    have : sep.size = sep.data.toList.length := rfl
    rw [this, hs]; rfl
  intro k s hk
  refine ⟨?_, splitB_all sep (by omega) 0 _ s rfl⟩
  induction k using Nat.strongRecOn generalizing s with
  | _ k ih =>
    have hi : indexB s sep = indexByte s.data.toList c := by
      show index s.data.toList sep.data.toList = _
      rw [hs, index_one]
    rcases indexByte_cases c s.data.toList with ⟨e1, e2⟩ | ⟨p, r, e1, e2, e3⟩
    · rw [splitB_miss _ _ _ _ (by rw [hi, e1]), pieces_none c _ e2]
      rfl
    · have hit : indexB s sep = (p.length : Int) := by rw [hi, e3]
      rw [countB_hit s sep p.length (by omega) hit, Nat.add_comm, splitB_hit _ _ _ _ _ hit, h1]
      have hlen : s.size = p.length + 1 + r.length := by
        have : s.size = s.data.toList.length := rfl
        rw [this, e1]; simp; omega
      have ea : (s.extract 0 (p.length + 0)).data.toList = p := by
        rw [ByteArray.data_extract, Array.toList_extract, List.extract_eq_take_drop, e1]; simp
      have eb : (s.extract (p.length + 1) s.size).data.toList = r := by
        have hd : (p ++ c :: r).drop (p.length + 1) = r := by simp [List.drop_append]
        rw [ByteArray.data_extract, Array.toList_extract, List.extract_eq_take_drop, e1, hd]
        exact List.take_of_length_le (l := r) (by omega)
      have sb : (s.extract (p.length + 1) s.size).size = r.length := by
        have : (s.extract (p.length + 1) s.size).size = (s.extract (p.length + 1) s.size).data.toList.length := rfl
        rw [this, eb]
      have := ih r.length (by omega) (s.extract (p.length + 1) s.size) (by omega)
      rw [List.map_cons, this, ea, eb, e1, pieces_hit c p r e2]
theorem pieces_free (c : UInt8) : ∀ (l : List UInt8), ∀ p ∈ pieces c l, c ∉ p
  | [], p, hp => by simp [pieces] at hp; simp [hp]
  | b :: l, p, hp => by
    have ih := pieces_free c l
    by_cases hb : b = c
    · simp only [pieces, if_pos hb, List.mem_cons] at hp
      rcases hp with rfl | hp
      · simp
      · exact ih p hp
    · simp only [pieces, if_neg hb] at hp
      cases hq : pieces c l with
      | nil => exact absurd hq (pieces_ne c l)
      | cons q qs =>
        rw [hq] at hp ih
        simp only [List.mem_cons] at hp
        rcases hp with rfl | hp
        · have := ih q (by simp)
          simp [this]
          exact fun e => hb e.symm
        · exact ih p (by simp [hp])
theorem join_pieces (c : UInt8) : ∀ (l : List UInt8), Lib.join (pieces c l) [c] = l
  | [] => by simp [pieces, Lib.join, List.intercalate]
  | b :: l => by
    have ih := join_pieces c l
    cases hq : pieces c l with
    | nil => exact absurd hq (pieces_ne c l)
    | cons q qs =>
      rw [hq, Lib.join_cons] at ih
      by_cases hb : b = c
      · simp only [pieces, if_pos hb, hq, Lib.join_cons, Lib.joinTail, List.map_cons, List.flatten_cons]
        rw [← ih, hb]
        simp [Lib.joinTail]
      · simp only [pieces, if_neg hb, hq, Lib.join_cons]
        rw [List.cons_append, ih]
end Go.Proofs.YtcidmanlijeomaaDoor
