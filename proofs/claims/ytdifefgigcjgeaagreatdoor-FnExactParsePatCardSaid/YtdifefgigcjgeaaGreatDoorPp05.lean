/- What is proved here: a piece of the proof of YtdifefgigcjgeaaGreatDoorExactParsePat (PatGram, PatSteps, PatSteps2). Condition: none beyond what each part says. -/
import Derived.Test.YtdifefgigcjgeaaGreatDoorPp02
import Derived.Test.YtdifefgigcjgeaaGreatDoorPp03
import Derived.Test.YtdifefgigcjgeaaGreatDoorPp04

/- What is proved here: the grammar of patterns: which pattern a text begins with (pure). No condition. -/
section
namespace Go.Proofs.YtdifefgigcjgeaaGreatDoor
open Go.RowKit

def PatD.text (q : PatD) : List UInt8 := nodeP q.k q.n q.t q.F.texts
def PatD.good (q : PatD) : Prop := patForm q.k q.n q.t q.F.length = true ∧ q.F.formed = true
/-- What may stand behind a pattern. -/
def Ends (s : List UInt8) : Prop := s = [] ∨ ∃ r, s = 44 :: r ∨ s = 41 :: r ∨ s = 32 :: 124 :: r
def Fits (m d : Nat) (q : PatD) : Prop := m + (1 + q.F.count) ≤ 24 ∧ d + q.F.deep ≤ 8
def NoneP (s : List UInt8) (m d : Nat) : Prop := ∀ q s2, PatD.good q → s = q.text ++ s2 → Ends s2 → ¬ Fits m d q
structure OkP (s : List UInt8) (m d : Nat) (p : PatD) (s' : List UInt8) (m' : Nat) : Prop where
  good : p.good
  text : s = p.text ++ s'
  nodes : m' = m + (1 + p.F.count)
  fits : Fits m d p
  uniq : ∀ q s2, PatD.good q → s = q.text ++ s2 → Ends s2 → Fits m d q → q = p ∧ s2 = s'

theorem good_cases (q : PatD) (h : q.good) : q = leaf 1 0 ⟨#[]⟩ ∨ (∃ t, q = leaf 2 0 t ∧ Name t) ∨ (∃ n, q = leaf 3 n ⟨#[]⟩ ∧ inInt n = true) ∨ (∃ t, q = leaf 4 0 t ∧ ValidText t) ∨ (∃ t F, q = ⟨5, 0, t, F⟩ ∧ Word 65 90 t ∧ F.formed = true) ∨
    (∃ a b, PatD.good a ∧ PatD.good b ∧ q = ⟨6, 0, ⟨#[]⟩, a.one (b.one .nil)⟩) ∨ (∃ t a, PatD.good a ∧ Name t ∧ q = ⟨7, 0, t, a.one .nil⟩) := by
  obtain ⟨k, n, t, F⟩ := q
  obtain ⟨h1, h2⟩ := h
  change F.formed = true at h2
  rcases (patForm_iff k n t F.length).1 h1 with ⟨rfl, rfl, ht, hl⟩ | ⟨rfl, rfl, hN, hl⟩ | ⟨rfl, hi, ht, hl⟩ | ⟨rfl, rfl, hv, hl⟩ | ⟨rfl, rfl, hw⟩ | ⟨rfl, rfl, ht, hl⟩ | ⟨rfl, rfl, hN, hl⟩
  · left; rw [empty_of' ht, nil_of_len hl]; rfl
  · right; left; exact ⟨t, by rw [nil_of_len hl]; rfl, hN⟩
  · right; right; left; exact ⟨n, by rw [empty_of' ht, nil_of_len hl]; rfl, hi⟩
  · right; right; right; left; exact ⟨t, by rw [nil_of_len hl]; rfl, hv⟩
  · right; right; right; right; left; exact ⟨t, F, rfl, hw, h2⟩
  · right; right; right; right; right; left
    cases F with
    | nil => simp [Trees.length] at hl
    | cons ka na ta Fa R =>
      cases R with
      | nil => simp [Trees.length] at hl
      | cons kb nb tb Fb R2 =>
        have e : R2 = .nil := nil_of_len (by simp [Trees.length] at hl; omega)
        subst e
        simp only [Trees.formed, Bool.and_eq_true] at h2
        exact ⟨⟨ka, na, ta, Fa⟩, ⟨kb, nb, tb, Fb⟩, ⟨h2.1, h2.2.1⟩, ⟨h2.2.2.1, h2.2.2.2.1⟩, by rw [empty_of' ht]; rfl⟩
  · right; right; right; right; right; right
    cases F with
    | nil => simp [Trees.length] at hl
    | cons ka na ta Fa R =>
      have e : R = .nil := nil_of_len (by simp [Trees.length] at hl; omega)
      subst e
      simp only [Trees.formed, Bool.and_eq_true] at h2
      exact ⟨t, ⟨ka, na, ta, Fa⟩, ⟨h2.1, h2.2.1⟩, hN, rfl⟩
theorem good_leaf {k n : Int} {t : ByteArray} (h : patForm k n t 0 = true) : (leaf k n t).good := ⟨h, rfl⟩
theorem good_one {a : PatD} {r : Trees} (ha : a.good) (hr : r.formed = true) : (a.one r).formed = true := by
  show (patForm a.k a.n a.t a.F.length && (a.F.formed && r.formed)) = true
  rw [ha.1, ha.2, hr]
  rfl
theorem good_or {a b : PatD} (ha : a.good) (hb : b.good) : PatD.good ⟨6, 0, ⟨#[]⟩, a.one (b.one .nil)⟩ :=
  ⟨(patForm_iff _ _ _ _).2 (.inr (.inr (.inr (.inr (.inr (.inl ⟨rfl, rfl, rfl, rfl⟩)))))), good_one ha (good_one hb rfl)⟩
theorem good_as {t : ByteArray} {a : PatD} (hN : Name t) (ha : a.good) : PatD.good ⟨7, 0, t, a.one .nil⟩ :=
  ⟨(patForm_iff _ _ _ _).2 (.inr (.inr (.inr (.inr (.inr (.inr ⟨rfl, rfl, hN, rfl⟩)))))), good_one ha rfl⟩
theorem good_con {t : ByteArray} {F : Trees} (hw : Word 65 90 t) (hF : F.formed = true) : PatD.good ⟨5, 0, t, F⟩ :=
  ⟨(patForm_iff _ _ _ _).2 (.inr (.inr (.inr (.inr (.inl ⟨rfl, rfl, hw⟩))))), hF⟩
theorem text_any : (leaf 1 0 ⟨#[]⟩).text = [95] := rfl
theorem text_var (t : ByteArray) : (leaf 2 0 t).text = t.data.toList := rfl
theorem text_int (n : Int) : (leaf 3 n ⟨#[]⟩).text = Lib.itoa n := rfl
theorem text_str (t : ByteArray) : (leaf 4 0 t).text = 34 :: (t.data.toList ++ [34]) := rfl
theorem text_con0 (t : ByteArray) : PatD.text ⟨5, 0, t, .nil⟩ = t.data.toList := rfl
theorem text_con (t : ByteArray) (F : Trees) (h : F ≠ .nil) : PatD.text ⟨5, 0, t, F⟩ = t.data.toList ++ 40 :: (Lib.join F.texts [44, 32] ++ [41]) := by
  have e : F.texts ≠ [] := by cases F with | nil => exact absurd rfl h | cons _ _ _ _ _ => simp [Trees.texts]
  show (if F.texts = [] then t.data.toList else t.data.toList ++ [40] ++ Lib.join F.texts [44, 32] ++ [41]) = _
  rw [if_neg e]
  simp
theorem text_or (a b : PatD) : PatD.text ⟨6, 0, ⟨#[]⟩, a.one (b.one .nil)⟩ = 40 :: (a.text ++ (32 :: 124 :: 32 :: (b.text ++ [41]))) := by
  show [40] ++ Lib.join [a.text, b.text] [32, 124, 32] ++ [41] = _
  rw [Lib.join_cons]
  simp [Lib.joinTail]
theorem text_as (t : ByteArray) (a : PatD) : PatD.text ⟨7, 0, t, a.one .nil⟩ = t.data.toList ++ (32 :: 64 :: 32 :: a.text) := by
  show t.data.toList ++ [32, 64, 32] ++ a.text = _
  simp

theorem ends_stop {s : List UInt8} (h : Ends s) : ∀ c t, s = c :: t → isWB c = false := by
  intro c t hc
  rcases h with h | ⟨r, h | h | h⟩
  · rw [h] at hc; cases hc
  · rw [h] at hc; injection hc with h1 _; rw [← h1]; decide
  · rw [h] at hc; injection hc with h1 _; rw [← h1]; decide
  · rw [h] at hc; injection hc with h1 _; rw [← h1]; decide
end Go.Proofs.YtdifefgigcjgeaaGreatDoor
end

/- What is proved here: how a pattern is read, step by step (pure). No condition. -/
section
namespace Go.Proofs.YtdifefgigcjgeaaGreatDoor
open Go.RowKit

theorem none_begin {s : List UInt8} {m d : Nat} (h : ¬ (m + 1 ≤ 24 ∧ d ≤ 8)) : NoneP s m d := fun q s2 _ _ _ hf => by
  have h1 := hf.1
  have h2 := hf.2
  omega
/-- The first byte of a pattern that is no text and no alternative, and its word. -/
theorem lead_of (q : PatD) (hq : q.good) (s2 : List UInt8) (he : Ends s2) (h34 : ∀ r, q.text ++ s2 ≠ 34 :: r) (h40 : ∀ r, q.text ++ s2 ≠ 40 :: r) :
    (q = leaf 1 0 ⟨#[]⟩ ∧ lead (q.text ++ s2) = [95] ∧ q.text ++ s2 = [95] ++ s2) ∨
    (∃ t, q = leaf 2 0 t ∧ Name t ∧ lead (q.text ++ s2) = t.data.toList ∧ q.text ++ s2 = t.data.toList ++ s2) ∨
    (∃ n, q = leaf 3 n ⟨#[]⟩ ∧ inInt n = true ∧ lead (q.text ++ s2) = Lib.itoa n ∧ q.text ++ s2 = Lib.itoa n ++ s2) ∨
    (∃ t, q = ⟨5, 0, t, .nil⟩ ∧ Word 65 90 t ∧ lead (q.text ++ s2) = t.data.toList ∧ q.text ++ s2 = t.data.toList ++ s2) ∨
    (∃ t F, q = ⟨5, 0, t, F⟩ ∧ F ≠ .nil ∧ F.formed = true ∧ Word 65 90 t ∧ lead (q.text ++ s2) = t.data.toList ∧ q.text ++ s2 = t.data.toList ++ 40 :: (Lib.join F.texts [44, 32] ++ 41 :: s2)) ∨
    (∃ t a, q = ⟨7, 0, t, a.one .nil⟩ ∧ PatD.good a ∧ Name t ∧ lead (q.text ++ s2) = t.data.toList ∧ q.text ++ s2 = t.data.toList ++ (32 :: 64 :: 32 :: (a.text ++ s2))) := by
  have hst := ends_stop he
  rcases good_cases q hq with rfl | ⟨t, rfl, hN⟩ | ⟨n, rfl, hi⟩ | ⟨t, rfl, hv⟩ | ⟨t, F, rfl, hw, hF⟩ | ⟨a, b, _, _, rfl⟩ | ⟨t, a, ha, hN, rfl⟩
  · left
    exact ⟨rfl, by rw [text_any]; exact lead_all _ _ (by simp [isWB, isWZ]) hst, rfl⟩
  · right; left
    refine ⟨t, rfl, hN, ?_, rfl⟩
    rw [text_var]
    exact lead_all _ _ (word_bytes hN.1 (.inl ⟨rfl, rfl⟩)) hst
  · right; right; left
    refine ⟨n, rfl, hi, ?_, rfl⟩
    rw [text_int]
    obtain ⟨c, r, _, _, h⟩ := itoa_head n
    exact lead_all _ _ h hst
  · rw [text_str] at h34
    exact absurd rfl (h34 _)
  · by_cases h0 : F = .nil
    · subst h0
      right; right; right; left
      refine ⟨t, rfl, hw, ?_, rfl⟩
      rw [text_con0]
      exact lead_all _ _ (word_bytes hw (.inr ⟨rfl, rfl⟩)) hst
    · right; right; right; right; left
      have e : PatD.text ⟨5, 0, t, F⟩ ++ s2 = t.data.toList ++ 40 :: (Lib.join F.texts [44, 32] ++ 41 :: s2) := by rw [text_con t F h0]; simp
      refine ⟨t, F, rfl, h0, hF, hw, ?_, e⟩
      rw [e]
      exact lead_all _ _ (word_bytes hw (.inr ⟨rfl, rfl⟩)) (fun c r h => by injection h with h1 _; rw [← h1]; decide)
  · rw [text_or] at h40
    exact absurd rfl (h40 _)
  · right; right; right; right; right
    have e : PatD.text ⟨7, 0, t, a.one .nil⟩ ++ s2 = t.data.toList ++ (32 :: 64 :: 32 :: (a.text ++ s2)) := by rw [text_as]; simp
    refine ⟨t, a, rfl, ha, hN, ?_, e⟩
    rw [e]
    exact lead_all _ _ (word_bytes hN.1 (.inl ⟨rfl, rfl⟩)) (fun c r h => by injection h with h1 _; rw [← h1]; decide)
/-- The first byte of the others. -/
theorem first_34 (q : PatD) (hq : q.good) (s2 r : List UInt8) (h : q.text ++ s2 = 34 :: r) : ∃ t, q = leaf 4 0 t ∧ ValidText t ∧ r = t.data.toList ++ 34 :: s2 := by
  rcases good_cases q hq with rfl | ⟨t, rfl, hN⟩ | ⟨n, rfl, hi⟩ | ⟨t, rfl, hv⟩ | ⟨t, F, rfl, hw, hF⟩ | ⟨a, b, _, _, rfl⟩ | ⟨t, a, ha, hN, rfl⟩
  · rw [text_any] at h; cases h
  · obtain ⟨c, r', e, h1, h2⟩ := word_head hN.1
    rw [text_var, e] at h; injection h with h3 _; subst h3; exact absurd h1 (by decide)
  · obtain ⟨c, r', e, h1, _⟩ := itoa_head n
    rw [text_int, e] at h; injection h with h3 _; subst h3; exact absurd h1 (by decide)
  · rw [text_str] at h
    injection h with _ h3
    exact ⟨t, rfl, hv, by rw [← h3]; simp⟩
  · obtain ⟨c, r', e, h1, h2⟩ := word_head hw
    by_cases h0 : F = .nil
    · subst h0; rw [text_con0, e] at h; injection h with h3 _; subst h3; exact absurd h1 (by decide)
    · rw [text_con t F h0, e] at h; injection h with h3 _; subst h3; exact absurd h1 (by decide)
  · rw [text_or] at h; injection h with h3 _; exact absurd h3 (by decide)
  · obtain ⟨c, r', e, h1, h2⟩ := word_head hN.1
    rw [text_as, e] at h; injection h with h3 _; subst h3; exact absurd h1 (by decide)
theorem first_40 (q : PatD) (hq : q.good) (s2 r : List UInt8) (h : q.text ++ s2 = 40 :: r) : ∃ a b, q = ⟨6, 0, ⟨#[]⟩, a.one (b.one .nil)⟩ ∧ PatD.good a ∧ PatD.good b ∧ r = a.text ++ (32 :: 124 :: 32 :: (b.text ++ 41 :: s2)) := by
  rcases good_cases q hq with rfl | ⟨t, rfl, hN⟩ | ⟨n, rfl, hi⟩ | ⟨t, rfl, hv⟩ | ⟨t, F, rfl, hw, hF⟩ | ⟨a, b, ha, hb, rfl⟩ | ⟨t, a, ha, hN, rfl⟩
  · rw [text_any] at h; cases h
  · obtain ⟨c, r', e, h1, h2⟩ := word_head hN.1
    rw [text_var, e] at h; injection h with h3 _; subst h3; exact absurd h1 (by decide)
  · obtain ⟨c, r', e, h1, _⟩ := itoa_head n
    rw [text_int, e] at h; injection h with h3 _; subst h3; exact absurd h1 (by decide)
  · rw [text_str] at h; injection h with h3 _; exact absurd h3 (by decide)
  · obtain ⟨c, r', e, h1, h2⟩ := word_head hw
    by_cases h0 : F = .nil
    · subst h0; rw [text_con0, e] at h; injection h with h3 _; subst h3; exact absurd h1 (by decide)
    · rw [text_con t F h0, e] at h; injection h with h3 _; subst h3; exact absurd h1 (by decide)
  · rw [text_or] at h
    injection h with _ h3
    exact ⟨a, b, rfl, ha, hb, by rw [← h3]; simp⟩
  · obtain ⟨c, r', e, h1, h2⟩ := word_head hN.1
    rw [text_as, e] at h; injection h with h3 _; subst h3; exact absurd h1 (by decide)

/-! A text. -/
theorem valid_no34 {t : ByteArray} (h : ValidText t) : ∀ c ∈ t.data.toList, c ≠ 34 := by
  intro c hc e
  obtain ⟨j, hj, rfl⟩ := List.mem_iff_getElem.1 hc
  have := h.2 j hj
  unfold OkByte at this
  have e2 : (t.data.toList[j] : UInt8) = t[j]'hj := rfl
  rw [e2] at e
  rw [e] at this
  exact this.2.2 rfl
theorem quoted_eq {t : ByteArray} (h : ValidText t) (s2 : List UInt8) : quoted (t.data.toList ++ 34 :: s2) = some (t.data.toList, s2) := by
  unfold quoted
  rw [splitQ_eq _ _ (valid_no34 h)]
  simp only [Option.bind_some]
  rw [str_data, if_pos (bl_true h)]
theorem quoted_ok {r a b : List UInt8} (h : quoted r = some (a, b)) : r = a ++ 34 :: b ∧ ValidText (str a) := by
  unfold quoted at h
  obtain ⟨p, h1, h2⟩ := Option.bind_eq_some_iff.1 h
  split at h2
  · rename_i hb
    cases h2
    exact ⟨(splitQ_some h1).1, bl_iff.1 hb⟩
  · cases h2
theorem text_step_ok {r a b : List UInt8} {m d : Nat} (hm : m + 1 ≤ 24) (hd : d ≤ 8) (h : quoted r = some (a, b)) : OkP (34 :: r) m d (leaf 4 0 (str a)) b (m + 1) := by
  obtain ⟨h1, h2⟩ := quoted_ok h
  refine ⟨good_leaf ((patForm_iff _ _ _ _).2 (.inr (.inr (.inr (.inl ⟨rfl, rfl, h2, rfl⟩))))), ?_, rfl, ⟨hm, hd⟩, fun q s2 hq hs he hf => ?_⟩
  · rw [text_str, h1]; simp [str]
  · obtain ⟨t, rfl, hv, hr⟩ := first_34 q hq s2 r hs.symm
    rw [hr, quoted_eq hv] at h
    cases h
    exact ⟨by rw [str_data], rfl⟩
theorem text_step_none {r : List UInt8} {m d : Nat} (h : quoted r = none) : NoneP (34 :: r) m d := fun q s2 hq hs he hf => by
  obtain ⟨t, rfl, hv, hr⟩ := first_34 q hq s2 r hs.symm
  rw [hr, quoted_eq hv] at h
  cases h
end Go.Proofs.YtdifefgigcjgeaaGreatDoor
end

/- What is proved here: how alternatives, words, variables and constructors are read, step by step (pure). No condition. -/
section
namespace Go.Proofs.YtdifefgigcjgeaaGreatDoor
open Go.RowKit

/-! An alternative: behind the parenthesis. -/
theorem fits_left {m d : Nat} {a b : PatD} (h : Fits m d ⟨6, 0, ⟨#[]⟩, a.one (b.one .nil)⟩) : Fits (m + 1) (d + 1) a := by
  obtain ⟨h1, h2⟩ := h
  simp only [PatD.one, Trees.count, Trees.deep] at h1 h2
  exact ⟨by omega, by omega⟩
theorem fits_right {m d : Nat} {a b : PatD} (h : Fits m d ⟨6, 0, ⟨#[]⟩, a.one (b.one .nil)⟩) : Fits (m + 1 + (1 + a.F.count)) (d + 1) b := by
  obtain ⟨h1, h2⟩ := h
  simp only [PatD.one, Trees.count, Trees.deep] at h1 h2
  exact ⟨by omega, by omega⟩
theorem ends_bar (r : List UInt8) : Ends (32 :: 124 :: 32 :: r) := .inr ⟨32 :: r, .inr (.inr rfl)⟩
theorem ends_close (r : List UInt8) : Ends (41 :: r) := .inr ⟨r, .inr (.inl rfl)⟩
theorem ends_comma (r : List UInt8) : Ends (44 :: r) := .inr ⟨r, .inl rfl⟩
theorem or_none1 {r : List UInt8} {m d : Nat} (h : NoneP r (m + 1) (d + 1)) : NoneP (40 :: r) m d := fun q s2 hq hs he hf => by
  obtain ⟨a, b, rfl, ha, hb, hr⟩ := first_40 q hq s2 r hs.symm
  exact h a _ ha hr (ends_bar _) (fits_left hf)
theorem or_none2 {r s1 : List UInt8} {m d m1 : Nat} {a : PatD} (h : OkP r (m + 1) (d + 1) a s1 m1) (hn : ∀ r1, s1 ≠ 32 :: 124 :: 32 :: r1) : NoneP (40 :: r) m d := fun q s2 hq hs he hf => by
  obtain ⟨a', b, rfl, ha, hb, hr⟩ := first_40 q hq s2 r hs.symm
  obtain ⟨_, e⟩ := h.uniq a' _ ha hr (ends_bar _) (fits_left hf)
  exact hn _ e.symm
theorem or_none3 {r r1 : List UInt8} {m d m1 : Nat} {a : PatD} (h : OkP r (m + 1) (d + 1) a (32 :: 124 :: 32 :: r1) m1) (hn : NoneP r1 m1 (d + 1)) : NoneP (40 :: r) m d := fun q s2 hq hs he hf => by
  obtain ⟨a', b, rfl, ha, hb, hr⟩ := first_40 q hq s2 r hs.symm
  obtain ⟨rfl, e⟩ := h.uniq a' _ ha hr (ends_bar _) (fits_left hf)
  injection e with _ e
  injection e with _ e
  injection e with _ e
  rw [h.nodes] at hn
  exact hn b (41 :: s2) hb e.symm (ends_close _) (fits_right hf)
theorem or_none4 {r r1 s3 : List UInt8} {m d m1 m2 : Nat} {a b : PatD} (h : OkP r (m + 1) (d + 1) a (32 :: 124 :: 32 :: r1) m1) (k : OkP r1 m1 (d + 1) b s3 m2) (hn : ∀ r2, s3 ≠ 41 :: r2) : NoneP (40 :: r) m d := fun q s2 hq hs he hf => by
  obtain ⟨a', b', rfl, ha, hb, hr⟩ := first_40 q hq s2 r hs.symm
  obtain ⟨rfl, e⟩ := h.uniq a' _ ha hr (ends_bar _) (fits_left hf)
  injection e with _ e
  injection e with _ e
  injection e with _ e
  have hf2 := fits_right hf
  rw [← h.nodes] at hf2
  obtain ⟨_, e2⟩ := k.uniq b' (41 :: s2) hb e.symm (ends_close _) hf2
  exact hn _ e2.symm
theorem or_ok {r r1 r2 : List UInt8} {m d m1 m2 : Nat} {a b : PatD} (h : OkP r (m + 1) (d + 1) a (32 :: 124 :: 32 :: r1) m1) (k : OkP r1 m1 (d + 1) b (41 :: r2) m2) : OkP (40 :: r) m d ⟨6, 0, ⟨#[]⟩, a.one (b.one .nil)⟩ r2 m2 := by
  have h1 := h.nodes
  have k1 := k.nodes
  have h2 := h.fits
  have k2 := k.fits
  unfold Fits at h2 k2
  refine ⟨good_or h.good k.good, ?_, ?_, ⟨?_, ?_⟩, fun q s2 hq hs he hf => ?_⟩
  · rw [text_or, h.text, k.text]; simp
  · simp only [PatD.one, Trees.count]; omega
  · simp only [PatD.one, Trees.count]; omega
  · simp only [PatD.one, Trees.deep]; omega
  · obtain ⟨a', b', rfl, ha, hb, hr⟩ := first_40 q hq s2 r hs.symm
    obtain ⟨rfl, e⟩ := h.uniq a' _ ha hr (ends_bar _) (fits_left hf)
    injection e with _ e
    injection e with _ e
    injection e with _ e
    have hf2 := fits_right hf
    rw [← h.nodes] at hf2
    obtain ⟨rfl, e2⟩ := k.uniq b' (41 :: s2) hb e.symm (ends_close _) hf2
    injection e2 with _ e2
    exact ⟨rfl, e2⟩

/-! A word: s = wd ++ r, wd the word at the start. -/
structure AtWord (s wd r : List UInt8) : Prop where
  eq : s = wd ++ r
  word : lead s = wd
  n34 : ∀ x, s ≠ 34 :: x
  n40 : ∀ x, s ≠ 40 :: x
theorem AtWord.cases {s wd r : List UInt8} (h : AtWord s wd r) (q : PatD) (hq : q.good) (s2 : List UInt8) (hs : s = q.text ++ s2) (he : Ends s2) :
    (q = leaf 1 0 ⟨#[]⟩ ∧ wd = [95] ∧ r = s2) ∨ (∃ t, q = leaf 2 0 t ∧ Name t ∧ wd = t.data.toList ∧ r = s2) ∨ (∃ n, q = leaf 3 n ⟨#[]⟩ ∧ inInt n = true ∧ wd = Lib.itoa n ∧ r = s2) ∨
    (∃ t, q = ⟨5, 0, t, .nil⟩ ∧ Word 65 90 t ∧ wd = t.data.toList ∧ r = s2) ∨ (∃ t F, q = ⟨5, 0, t, F⟩ ∧ F ≠ .nil ∧ F.formed = true ∧ Word 65 90 t ∧ wd = t.data.toList ∧ r = 40 :: (Lib.join F.texts [44, 32] ++ 41 :: s2)) ∨
    (∃ t a, q = ⟨7, 0, t, a.one .nil⟩ ∧ PatD.good a ∧ Name t ∧ wd = t.data.toList ∧ r = 32 :: 64 :: 32 :: (a.text ++ s2)) := by
  have hl := h.word
  have e := h.eq
  have h34 := h.n34
  have h40 := h.n40
  rw [hs] at hl e h34 h40
  have fin : ∀ x y, lead (q.text ++ s2) = x → q.text ++ s2 = x ++ y → wd = x ∧ r = y := fun x y h1 h2 => by
    have e1 : wd = x := hl.symm.trans h1
    subst e1
    exact ⟨rfl, List.append_cancel_left (e.symm.trans h2)⟩
  rcases lead_of q hq s2 he h34 h40 with ⟨h0, h1, h2⟩ | ⟨t, h0, hN, h1, h2⟩ | ⟨n, h0, hi, h1, h2⟩ | ⟨t, h0, hw, h1, h2⟩ | ⟨t, F, h0, hn, hF, hw, h1, h2⟩ | ⟨t, a, h0, ha, hN, h1, h2⟩
  · obtain ⟨a1, a2⟩ := fin _ _ h1 h2; exact .inl ⟨h0, a1, a2⟩
  · obtain ⟨a1, a2⟩ := fin _ _ h1 h2; exact .inr (.inl ⟨t, h0, hN, a1, a2⟩)
  · obtain ⟨a1, a2⟩ := fin _ _ h1 h2; exact .inr (.inr (.inl ⟨n, h0, hi, a1, a2⟩))
  · obtain ⟨a1, a2⟩ := fin _ _ h1 h2; exact .inr (.inr (.inr (.inl ⟨t, h0, hw, a1, a2⟩)))
  · obtain ⟨a1, a2⟩ := fin _ _ h1 h2; exact .inr (.inr (.inr (.inr (.inl ⟨t, F, h0, hn, hF, hw, a1, a2⟩))))
  · obtain ⟨a1, a2⟩ := fin _ _ h1 h2; exact .inr (.inr (.inr (.inr (.inr ⟨t, a, h0, ha, hN, a1, a2⟩))))
theorem data_inj {t u : ByteArray} (h : t.data.toList = u.data.toList) : t = u := by
  rw [← str_data t, ← str_data u, h]
/-- The kinds of words exclude each other. -/
theorem name_no_int {t : ByteArray} (hN : Name t) (n : Int) : t.data.toList ≠ Lib.itoa n := fun h => by
  obtain ⟨c, r, e, h1, h2⟩ := word_head hN.1
  obtain ⟨c', r', e', h1', _⟩ := itoa_head n
  rw [e, e'] at h
  injection h with h3 _
  subst h3
  rcases h1' with h | h
  · rw [h] at h1; exact absurd h1 (by decide)
  · omega
theorem con_no_int {t : ByteArray} (hw : Word 65 90 t) (n : Int) : t.data.toList ≠ Lib.itoa n := fun h => by
  obtain ⟨c, r, e, h1, h2⟩ := word_head hw
  obtain ⟨c', r', e', h1', _⟩ := itoa_head n
  rw [e, e'] at h
  injection h with h3 _
  subst h3
  rcases h1' with h | h
  · rw [h] at h1; exact absurd h1 (by decide)
  · omega
theorem con_no_name {t u : ByteArray} (hw : Word 65 90 t) (hN : Name u) : t.data.toList ≠ u.data.toList := fun h => by
  obtain ⟨c, r, e, h1, h2⟩ := word_head hw
  obtain ⟨c', r', e', h1', h2'⟩ := word_head hN.1
  rw [e, e'] at h
  injection h with h3 _
  subst h3
  omega
theorem any_no_int (n : Int) : [95] ≠ Lib.itoa n := fun h => by
  obtain ⟨c', r', e', h1', _⟩ := itoa_head n
  rw [e'] at h
  injection h with h3 _
  subst h3
  rcases h1' with h | h
  · exact absurd h (by decide)
  · exact absurd h (by decide)
theorem any_no_name {u : ByteArray} (hN : Name u) : [95] ≠ u.data.toList := fun h => by
  obtain ⟨c', r', e', h1', h2'⟩ := word_head hN.1
  rw [e'] at h
  injection h with h3 _
  subst h3
  exact absurd h1' (by decide)
theorem any_no_con {u : ByteArray} (hw : Word 65 90 u) : [95] ≠ u.data.toList := fun h => by
  obtain ⟨c', r', e', h1', h2'⟩ := word_head hw
  rw [e'] at h
  injection h with h3 _
  subst h3
  exact absurd h2' (by decide)
theorem itoa_inj {a b : Int} (ha : inInt a = true) (hb : inInt b = true) (h : Lib.itoa a = Lib.itoa b) : a = b := by
  unfold inInt at ha hb
  simp only [Bool.and_eq_true, decide_eq_true_eq] at ha hb
  have h1 := atoi_itoa a (by omega) (by omega)
  have h2 := atoi_itoa b (by omega) (by omega)
  rw [h] at h1
  have := h1.symm.trans h2
  injection this
theorem int_ok {s wd r : List UInt8} {m d : Nat} {n : Int} (h : AtWord s wd r) (hm : m + 1 ≤ 24) (hd : d ≤ 8) (hi : inInt n = true) (hw : Lib.itoa n = wd) : OkP s m d (leaf 3 n ⟨#[]⟩) r (m + 1) := by
  refine ⟨good_leaf ((patForm_iff _ _ _ _).2 (.inr (.inr (.inl ⟨rfl, hi, rfl, rfl⟩)))), by rw [text_int, hw]; exact h.eq, rfl, ⟨hm, hd⟩, fun q s2 hq hs he hf => ?_⟩
  rcases h.cases q hq s2 hs he with ⟨rfl, e, hr⟩ | ⟨t, rfl, hN, e, hr⟩ | ⟨n', rfl, hi', e, hr⟩ | ⟨t, rfl, hw', e, hr⟩ | ⟨t, F, rfl, _, _, hw', e, hr⟩ | ⟨t, a, rfl, _, hN, e, hr⟩
  · exact absurd (e.symm.trans hw.symm) (any_no_int n)
  · exact absurd (e.symm.trans hw.symm) (name_no_int hN n)
  · rw [itoa_inj hi' hi (e.symm.trans hw.symm)]; exact ⟨rfl, hr.symm⟩
  · exact absurd (e.symm.trans hw.symm) (con_no_int hw' n)
  · exact absurd (e.symm.trans hw.symm) (con_no_int hw' n)
  · exact absurd (e.symm.trans hw.symm) (name_no_int hN n)
theorem any_ok {s r : List UInt8} {m d : Nat} (h : AtWord s [95] r) (hm : m + 1 ≤ 24) (hd : d ≤ 8) : OkP s m d (leaf 1 0 ⟨#[]⟩) r (m + 1) := by
  refine ⟨good_leaf ((patForm_iff _ _ _ _).2 (.inl ⟨rfl, rfl, rfl, rfl⟩)), by rw [text_any]; exact h.eq, rfl, ⟨hm, hd⟩, fun q s2 hq hs he hf => ?_⟩
  rcases h.cases q hq s2 hs he with ⟨rfl, e, hr⟩ | ⟨t, rfl, hN, e, hr⟩ | ⟨n', rfl, hi', e, hr⟩ | ⟨t, rfl, hw', e, hr⟩ | ⟨t, F, rfl, _, _, hw', e, hr⟩ | ⟨t, a, rfl, _, hN, e, hr⟩
  · exact ⟨rfl, hr.symm⟩
  · exact absurd e (any_no_name hN)
  · exact absurd e (any_no_int n')
  · exact absurd e (any_no_con hw')
  · exact absurd e (any_no_con hw')
  · exact absurd e (any_no_name hN)
/-- A word that is none. -/
theorem word_none {s wd r : List UInt8} {m d : Nat} (h : AtWord s wd r) (h1 : wd ≠ [95]) (h2 : ¬ Name (str wd)) (h3 : ¬ Word 65 90 (str wd)) (h4 : ∀ n, inInt n = true → Lib.itoa n ≠ wd) : NoneP s m d := fun q s2 hq hs he hf => by
  rcases h.cases q hq s2 hs he with ⟨rfl, e, hr⟩ | ⟨t, rfl, hN, e, hr⟩ | ⟨n', rfl, hi', e, hr⟩ | ⟨t, rfl, hw', e, hr⟩ | ⟨t, F, rfl, _, _, hw', e, hr⟩ | ⟨t, a, rfl, _, hN, e, hr⟩
  · exact h1 e
  · rw [e, str_data] at h2; exact h2 hN
  · exact h4 n' hi' e.symm
  · rw [e, str_data] at h3; exact h3 hw'
  · rw [e, str_data] at h3; exact h3 hw'
  · rw [e, str_data] at h2; exact h2 hN
/-! A name. -/
theorem AtWord.name {s r : List UInt8} {t : ByteArray} (h : AtWord s t.data.toList r) (hN : Name t) (q : PatD) (hq : q.good) (s2 : List UInt8) (hs : s = q.text ++ s2) (he : Ends s2) :
    (q = leaf 2 0 t ∧ r = s2) ∨ ∃ a, q = ⟨7, 0, t, a.one .nil⟩ ∧ PatD.good a ∧ r = 32 :: 64 :: 32 :: (a.text ++ s2) := by
  rcases h.cases q hq s2 hs he with ⟨rfl, e, hr⟩ | ⟨u, rfl, hN', e, hr⟩ | ⟨n', rfl, hi', e, hr⟩ | ⟨u, rfl, hw', e, hr⟩ | ⟨u, F, rfl, _, _, hw', e, hr⟩ | ⟨u, a, rfl, ha, hN', e, hr⟩
  · exact absurd e.symm (any_no_name hN)
  · rw [data_inj e]; exact .inl ⟨rfl, hr⟩
  · exact absurd e (name_no_int hN n')
  · exact absurd e.symm (con_no_name hw' hN)
  · exact absurd e.symm (con_no_name hw' hN)
  · rw [data_inj e]; exact .inr ⟨a, rfl, ha, hr⟩
theorem var_ok {s r : List UInt8} {t : ByteArray} {m d : Nat} (h : AtWord s t.data.toList r) (hN : Name t) (hm : m + 1 ≤ 24) (hd : d ≤ 8) (hr0 : ∀ x, r ≠ 32 :: 64 :: 32 :: x) : OkP s m d (leaf 2 0 t) r (m + 1) := by
  refine ⟨good_leaf ((patForm_iff _ _ _ _).2 (.inr (.inl ⟨rfl, rfl, hN, rfl⟩))), by rw [text_var]; exact h.eq, rfl, ⟨hm, hd⟩, fun q s2 hq hs he hf => ?_⟩
  rcases h.name hN q hq s2 hs he with ⟨rfl, hr⟩ | ⟨a, rfl, ha, hr⟩
  · exact ⟨rfl, hr.symm⟩
  · exact absurd hr (hr0 _)
theorem fits_as {m d : Nat} {t : ByteArray} {a : PatD} (h : Fits m d ⟨7, 0, t, a.one .nil⟩) : Fits (m + 1) (d + 1) a := by
  obtain ⟨h1, h2⟩ := h
  simp only [PatD.one, Trees.count, Trees.deep] at h1 h2
  exact ⟨by omega, by omega⟩
theorem no_as {r1 s2 : List UInt8} (h : 32 :: 64 :: 32 :: r1 = s2) (he : Ends s2) : False := by
  rcases he with e | ⟨r, e | e | e⟩
  · rw [e] at h; cases h
  · rw [e] at h; injection h with h _; exact absurd h (by decide)
  · rw [e] at h; injection h with h _; exact absurd h (by decide)
  · rw [e] at h; injection h with _ h; injection h with h _; exact absurd h (by decide)
theorem as_none {s r1 : List UInt8} {t : ByteArray} {m d : Nat} (h : AtWord s t.data.toList (32 :: 64 :: 32 :: r1)) (hN : Name t) (hn : NoneP r1 (m + 1) (d + 1)) : NoneP s m d := fun q s2 hq hs he hf => by
  rcases h.name hN q hq s2 hs he with ⟨rfl, hr⟩ | ⟨a, rfl, ha, hr⟩
  · exact no_as hr he
  · injection hr with _ hr
    injection hr with _ hr
    injection hr with _ hr
    exact hn a s2 ha hr he (fits_as hf)
theorem as_ok {s r1 s' : List UInt8} {t : ByteArray} {m d m' : Nat} {a : PatD} (h : AtWord s t.data.toList (32 :: 64 :: 32 :: r1)) (hN : Name t) (k : OkP r1 (m + 1) (d + 1) a s' m') : OkP s m d ⟨7, 0, t, a.one .nil⟩ s' m' := by
  have k1 := k.nodes
  have k2 := k.fits
  unfold Fits at k2
  refine ⟨good_as hN k.good, ?_, ?_, ⟨?_, ?_⟩, fun q s2 hq hs he hf => ?_⟩
  · rw [text_as, h.eq, k.text]; simp
  · simp only [PatD.one, Trees.count]; omega
  · simp only [PatD.one, Trees.count]; omega
  · simp only [PatD.one, Trees.deep]; omega
  · rcases h.name hN q hq s2 hs he with ⟨rfl, hr⟩ | ⟨a', rfl, ha, hr⟩
    · exact (no_as hr he).elim
    · injection hr with _ hr
      injection hr with _ hr
      injection hr with _ hr
      obtain ⟨rfl, e⟩ := k.uniq a' s2 ha hr he (fits_as hf)
      exact ⟨rfl, e⟩
/-! A constructor. -/
theorem AtWord.con {s r : List UInt8} {t : ByteArray} (h : AtWord s t.data.toList r) (hw : Word 65 90 t) (q : PatD) (hq : q.good) (s2 : List UInt8) (hs : s = q.text ++ s2) (he : Ends s2) :
    (q = ⟨5, 0, t, .nil⟩ ∧ r = s2) ∨ ∃ F, q = ⟨5, 0, t, F⟩ ∧ F ≠ .nil ∧ F.formed = true ∧ r = 40 :: (Lib.join F.texts [44, 32] ++ 41 :: s2) := by
  rcases h.cases q hq s2 hs he with ⟨rfl, e, hr⟩ | ⟨u, rfl, hN', e, hr⟩ | ⟨n', rfl, hi', e, hr⟩ | ⟨u, rfl, hw', e, hr⟩ | ⟨u, F, rfl, hn, hF, hw', e, hr⟩ | ⟨u, a, rfl, ha, hN', e, hr⟩
  · exact absurd e.symm (any_no_con hw)
  · exact absurd e (con_no_name hw hN')
  · exact absurd e (con_no_int hw n')
  · rw [data_inj e]; exact .inl ⟨rfl, hr⟩
  · rw [data_inj e]; exact .inr ⟨F, rfl, hn, hF, hr⟩
  · exact absurd e (con_no_name hw hN')
theorem no_open {r1 s2 : List UInt8} (h : 40 :: r1 = s2) (he : Ends s2) : False := by
  rcases he with e | ⟨r, e | e | e⟩
  · rw [e] at h; cases h
  · rw [e] at h; injection h with h _; exact absurd h (by decide)
  · rw [e] at h; injection h with h _; exact absurd h (by decide)
  · rw [e] at h; injection h with h _; exact absurd h (by decide)
theorem con0_ok {s r : List UInt8} {t : ByteArray} {m d : Nat} (h : AtWord s t.data.toList r) (hw : Word 65 90 t) (hm : m + 1 ≤ 24) (hd : d ≤ 8) (hr0 : ∀ x, r ≠ 40 :: x) : OkP s m d ⟨5, 0, t, .nil⟩ r (m + 1) := by
  refine ⟨good_con hw rfl, by rw [text_con0]; exact h.eq, rfl, ⟨hm, hd⟩, fun q s2 hq hs he hf => ?_⟩
  rcases h.con hw q hq s2 hs he with ⟨rfl, hr⟩ | ⟨F, rfl, _, _, hr⟩
  · exact ⟨rfl, hr.symm⟩
  · exact absurd hr (hr0 _)
/-! Its arguments, behind the parenthesis: s; d: the constructor's depth; m: the nodes begun. -/
structure ArgsOk (s : List UInt8) (m d : Nat) (G : Trees) (s' : List UInt8) (m' : Nat) : Prop where
  ne : G ≠ .nil
  good : G.formed = true
  text : s = Lib.join G.texts [44, 32] ++ 41 :: s'
  nodes : m' = m + G.count
  fits : m + G.count ≤ 24 ∧ d + G.deep ≤ 8
  uniq : ∀ (H : Trees) (s2 : List UInt8), H ≠ .nil → H.formed = true → s = Lib.join H.texts [44, 32] ++ 41 :: s2 → m + H.count ≤ 24 → d + H.deep ≤ 8 → H = G ∧ s2 = s'
def ArgsNone (s : List UInt8) (m d : Nat) : Prop := ∀ (H : Trees) (s2 : List UInt8), H ≠ .nil → H.formed = true → s = Lib.join H.texts [44, 32] ++ 41 :: s2 → m + H.count ≤ 24 → ¬ d + H.deep ≤ 8
theorem con_none {s r1 : List UInt8} {t : ByteArray} {m d : Nat} (h : AtWord s t.data.toList (40 :: r1)) (hw : Word 65 90 t) (hn : ArgsNone r1 (m + 1) d) : NoneP s m d := fun q s2 hq hs he hf => by
  rcases h.con hw q hq s2 hs he with ⟨rfl, hr⟩ | ⟨F, rfl, h1, h2, hr⟩
  · exact no_open hr he
  · injection hr with _ hr
    exact hn F s2 h1 h2 hr (by have := hf.1; simp only at this; omega) hf.2
theorem con_ok {s r1 s' : List UInt8} {t : ByteArray} {m d m' : Nat} {G : Trees} (h : AtWord s t.data.toList (40 :: r1)) (hw : Word 65 90 t) (k : ArgsOk r1 (m + 1) d G s' m') : OkP s m d ⟨5, 0, t, G⟩ s' m' := by
  have k1 := k.nodes
  have k2 := k.fits
  refine ⟨good_con hw k.good, ?_, by simp only; omega, ⟨by simp only; omega, k2.2⟩, fun q s2 hq hs he hf => ?_⟩
  · rw [text_con t G k.ne, h.eq, k.text]; simp
  · rcases h.con hw q hq s2 hs he with ⟨rfl, hr⟩ | ⟨F, rfl, h1, h2, hr⟩
    · exact (no_open hr he).elim
    · injection hr with _ hr
      obtain ⟨rfl, e⟩ := k.uniq F s2 h1 h2 hr (by have := hf.1; simp only at this; omega) hf.2
      exact ⟨rfl, e⟩
/-- Some arguments are read, each with the comma behind it. -/
structure ArgsIn (s : List UInt8) (m d : Nat) (A : Trees) (s1 : List UInt8) (m1 : Nat) : Prop where
  good : A.formed = true
  nodes : m1 = m + A.count
  deep : d + A.deep ≤ 8
  text : ∀ R, R ≠ Trees.nil → ∀ x, s1 = Lib.join R.texts [44, 32] ++ x → s = Lib.join (A.append R).texts [44, 32] ++ x
  uniq : ∀ (H : Trees) (s2 : List UInt8), H ≠ .nil → H.formed = true → s = Lib.join H.texts [44, 32] ++ 41 :: s2 → m + H.count ≤ 24 → d + H.deep ≤ 8 → ∃ R, R ≠ .nil ∧ H = A.append R ∧ R.formed = true ∧ s1 = Lib.join R.texts [44, 32] ++ 41 :: s2 ∧ m1 + R.count ≤ 24 ∧ d + R.deep ≤ 8
theorem ArgsIn.start (s : List UInt8) (m d : Nat) (hd : d ≤ 8) : ArgsIn s m d .nil s m :=
  ⟨rfl, rfl, hd, fun _ _ _ h => h, fun H _ h1 h2 h3 h4 h5 => ⟨H, h1, rfl, h2, h3, h4, h5⟩⟩
theorem append_formed (A B : Trees) : (A.append B).formed = (A.formed && B.formed) := by
  induction A with
  | nil => rfl
  | cons k n t ar r _ ih => simp only [Trees.append, Trees.formed, ih, Bool.and_assoc]
theorem append_deep (A B : Trees) : (A.append B).deep = max A.deep B.deep := by
  induction A with
  | nil => simp [Trees.append, Trees.deep]
  | cons k n t ar r _ ih => simp only [Trees.append, Trees.deep, ih]; omega
theorem append_texts (A B : Trees) : (A.append B).texts = A.texts ++ B.texts := by
  induction A with
  | nil => rfl
  | cons k n t ar r _ ih => simp only [Trees.append, Trees.texts, ih]; rfl
theorem row_cases (R : Trees) (h : R ≠ .nil) (hf : R.formed = true) : ∃ (q : PatD) (R' : Trees), R = q.one R' ∧ q.good ∧ R'.formed = true := by
  cases R with
  | nil => exact absurd rfl h
  | cons k n t ar r =>
    simp only [Trees.formed, Bool.and_eq_true] at hf
    exact ⟨⟨k, n, t, ar⟩, r, rfl, ⟨hf.1, hf.2.1⟩, hf.2.2⟩
theorem join_one (q : PatD) : Lib.join (q.one .nil).texts [44, 32] = q.text := Lib.join_one _ _
theorem join_more (q : PatD) (R : Trees) (h : R ≠ .nil) : Lib.join (q.one R).texts [44, 32] = q.text ++ (44 :: 32 :: Lib.join R.texts [44, 32]) := by
  cases R with
  | nil => exact absurd rfl h
  | cons k n t ar r =>
    show Lib.join (q.text :: nodeP k n t ar.texts :: r.texts) [44, 32] = _ ++ (44 :: 32 :: Lib.join (nodeP k n t ar.texts :: r.texts) [44, 32])
    rw [Lib.join_cons, Lib.join_cons]
    simp [Lib.joinTail]
/-- What the next argument must be. -/
theorem ArgsIn.next {s s1 : List UInt8} {m d m1 : Nat} {A : Trees} (h : ArgsIn s m d A s1 m1) {H : Trees} {s2 : List UInt8} (a1 : H ≠ .nil) (a2 : H.formed = true) (a3 : s = Lib.join H.texts [44, 32] ++ 41 :: s2) (a4 : m + H.count ≤ 24) (a5 : d + H.deep ≤ 8) :
    ∃ (q : PatD) (R : Trees), H = A.append (q.one R) ∧ q.good ∧ R.formed = true ∧ Fits m1 (d + 1) q ∧ m1 + (1 + q.F.count) + R.count ≤ 24 ∧ d + R.deep ≤ 8 ∧ ∃ x, s1 = q.text ++ x ∧ Ends x ∧ ((R = .nil ∧ x = 41 :: s2) ∨ (R ≠ .nil ∧ x = 44 :: 32 :: (Lib.join R.texts [44, 32] ++ 41 :: s2))) := by
  obtain ⟨R0, b1, b2, b3, b4, b5, b6⟩ := h.uniq H s2 a1 a2 a3 a4 a5
  obtain ⟨q, R, rfl, hq, hR⟩ := row_cases R0 b1 b3
  simp only [PatD.one, Trees.count, Trees.deep] at b5 b6
  refine ⟨q, R, b2, hq, hR, ⟨by omega, by omega⟩, by omega, by omega, ?_⟩
  by_cases h0 : R = .nil
  · subst h0
    rw [join_one] at b4
    exact ⟨_, b4, ends_close _, .inl ⟨rfl, rfl⟩⟩
  · rw [join_more q R h0] at b4
    exact ⟨_, by rw [b4]; simp, ends_comma _, .inr ⟨h0, rfl⟩⟩
theorem args_none1 {s s1 : List UInt8} {m d m1 : Nat} {A : Trees} (h : ArgsIn s m d A s1 m1) (hn : NoneP s1 m1 (d + 1)) : ArgsNone s m d := fun H s2 a1 a2 a3 a4 a5 => by
  obtain ⟨q, R, _, hq, _, hf, _, _, x, hx, he, _⟩ := h.next a1 a2 a3 a4 a5
  exact hn q x hq hx he hf
theorem args_none2 {s s1 s3 : List UInt8} {m d m1 m3 : Nat} {A : Trees} {p : PatD} (h : ArgsIn s m d A s1 m1) (k : OkP s1 m1 (d + 1) p s3 m3) (h1 : ∀ r, s3 ≠ 41 :: r) (h2 : ∀ r, s3 ≠ 44 :: 32 :: r) : ArgsNone s m d := fun H s2 a1 a2 a3 a4 a5 => by
  obtain ⟨q, R, _, hq, _, hf, _, _, x, hx, he, hc⟩ := h.next a1 a2 a3 a4 a5
  obtain ⟨_, e⟩ := k.uniq q x hq hx he hf
  rcases hc with ⟨_, hc⟩ | ⟨_, hc⟩
  · exact h1 _ (e.symm.trans hc)
  · exact h2 _ (e.symm.trans hc)
def Trees.add (A : Trees) (p : PatD) : Trees := A.snoc p.k p.n p.t p.F
theorem add_append (A R : Trees) (p : PatD) : (A.add p).append R = A.append (p.one R) := Trees.snoc_append _ _ _ _ _ _
theorem add_formed {A : Trees} {p : PatD} (hA : A.formed = true) (hp : p.good) : (A.add p).formed = true := by
  have e : A.add p = A.append (p.one .nil) := rfl
  rw [e, append_formed, hA, good_one hp rfl]
  rfl
theorem add_count (A : Trees) (p : PatD) : (A.add p).count = A.count + (1 + p.F.count) := by
  have e : A.add p = A.append (p.one .nil) := rfl
  rw [e, Trees.append_count]
  simp [PatD.one, Trees.count]
theorem add_deep (A : Trees) (p : PatD) : (A.add p).deep = max A.deep (p.F.deep + 1) := by
  have e : A.add p = A.append (p.one .nil) := rfl
  rw [e, append_deep]
  simp [PatD.one, Trees.deep]
theorem args_ok {s s1 s' : List UInt8} {m d m1 m3 : Nat} {A : Trees} {p : PatD} (h : ArgsIn s m d A s1 m1) (k : OkP s1 m1 (d + 1) p (41 :: s') m3) : ArgsOk s m d (A.add p) s' m3 := by
  have h1 := h.nodes
  have h2 := h.deep
  have k1 := k.nodes
  have k2 := k.fits
  unfold Fits at k2
  refine ⟨fun e => ?_, add_formed h.good k.good, ?_, by rw [add_count]; omega, ⟨by rw [add_count]; omega, by rw [add_deep]; omega⟩, fun H s2 a1 a2 a3 a4 a5 => ?_⟩
  · have := congrArg Trees.count e
    rw [add_count] at this
    simp [Trees.count] at this
  · exact h.text (p.one .nil) (by simp [PatD.one]) (41 :: s') (by rw [join_one]; exact k.text)
  · obtain ⟨q, R, rfl, hq, _, hf, _, _, x, hx, he, hc⟩ := h.next a1 a2 a3 a4 a5
    obtain ⟨rfl, e⟩ := k.uniq q x hq hx he hf
    rcases hc with ⟨rfl, hc⟩ | ⟨_, hc⟩
    · rw [e] at hc
      injection hc with _ hc
      exact ⟨rfl, hc.symm⟩
    · rw [e] at hc
      injection hc with hc _
      exact absurd hc (by decide)
theorem args_more {s s1 s' : List UInt8} {m d m1 m3 : Nat} {A : Trees} {p : PatD} (h : ArgsIn s m d A s1 m1) (k : OkP s1 m1 (d + 1) p (44 :: 32 :: s') m3) : ArgsIn s m d (A.add p) s' m3 := by
  have h1 := h.nodes
  have h2 := h.deep
  have k1 := k.nodes
  have k2 := k.fits
  unfold Fits at k2
  refine ⟨add_formed h.good k.good, by rw [add_count]; omega, by rw [add_deep]; omega, fun R hR x hx => ?_, fun H s2 a1 a2 a3 a4 a5 => ?_⟩
  · rw [add_append]
    refine h.text (p.one R) (by simp [PatD.one]) x ?_
    rw [join_more p R hR, k.text, hx]
    try simp
  · obtain ⟨q, R, rfl, hq, hR, hf, hc1, hc2, x, hx, he, hc⟩ := h.next a1 a2 a3 a4 a5
    obtain ⟨rfl, e⟩ := k.uniq q x hq hx he hf
    rcases hc with ⟨rfl, hc⟩ | ⟨hn, hc⟩
    · rw [e] at hc
      injection hc with hc _
      exact absurd hc (by decide)
    · rw [e] at hc
      injection hc with _ hc
      injection hc with _ hc
      exact ⟨R, hn, (add_append _ _ _).symm, hR, hc, by omega, hc2⟩
end Go.Proofs.YtdifefgigcjgeaaGreatDoor
end
