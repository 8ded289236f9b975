/- What is proved here: a piece of the proof of YtdifefgigcjgeaaGreatDoorExactParsePat (SpSteps, STake, SPatRead, PtTreeGrow). Condition: none beyond what each part says. -/
import Derived.Test.YtdifefgigcjgeaaGreatDoorPp05
import Derived.Test.YtdifefgigcjgeaaGreatDoorPp08
import Derived.Test.YtdifefgigcjgeaaGreatDoorPp07
import Derived.Test.YtdifefgigcjgeaaGreatDoorPp06
import Derived.Test.YtdifefgigcjgeaaGreatDoorPp03
import Derived.Deep.AppendLies
import Derived.Deep.RegionLaw

/- What is proved here: the grammar of patterns as the specification's reader meets it (pure): no bound on the nodes but one that no text reaches. No condition. -/
section
namespace Go.Proofs.YtdifefgigcjgeaaGreatDoor.Sp
open Go.RowKit

/-- Each node takes at least one byte. -/
theorem sum_join (sep : List UInt8) (xs : List (List UInt8)) : (xs.map List.length).sum ≤ (Lib.join xs sep).length := by
  have hj : ∀ r : List (List UInt8), (r.map List.length).sum ≤ (Lib.joinTail sep r).length := by
    intro r
    induction r with
    | nil => simp
    | cons y r ih => simp only [List.map_cons, List.sum_cons, Lib.joinTail, List.flatten_cons, List.length_append] at ih ⊢; omega
  cases xs with
  | nil => simp
  | cons x r => have := hj r; rw [Lib.join_cons, List.length_append]; simp only [List.map_cons, List.sum_cons]; omega
theorem node_ge (k n : Int) (t : ByteArray) (l : Nat) (xs : List (List UInt8)) (hl : xs.length = l) (h : patForm k n t l = true) : 1 + (xs.map List.length).sum ≤ (nodeP k n t xs).length := by
  have e : t.data.toList.length = t.size := rfl
  have h1 := sum_join [32, 124, 32] xs
  have h2 := sum_join [44, 32] xs
  unfold nodeP
  rcases (patForm_iff k n t l).1 h with ⟨rfl, _, _, h0⟩ | ⟨rfl, _, hN, h0⟩ | ⟨rfl, hi, _, h0⟩ | ⟨rfl, _, hv, h0⟩ | ⟨rfl, _, hw⟩ | ⟨rfl, _⟩ | ⟨rfl, _, hN, h0⟩
  · have : xs = [] := List.eq_nil_of_length_eq_zero (by omega)
    subst this
    simp
  · have : xs = [] := List.eq_nil_of_length_eq_zero (by omega)
    subst this
    have := hN.1.1
    simp
    omega
  · have : xs = [] := List.eq_nil_of_length_eq_zero (by omega)
    subst this
    obtain ⟨c, r, hc, _⟩ := itoa_head n
    simp [hc]
  · have : xs = [] := List.eq_nil_of_length_eq_zero (by omega)
    subst this
    simp
  · have := hw.1
    simp only [show ¬ (5 : Int) = 1 by decide, show ¬ (5 : Int) = 3 by decide, show ¬ (5 : Int) = 4 by decide, show ¬ (5 : Int) = 6 by decide, show ¬ (5 : Int) = 7 by decide, if_false]
    split
    · rename_i h0; subst h0; simp; omega
    · simp only [List.length_append, List.length_singleton]; omega
  · simp only [show ¬ (6 : Int) = 1 by decide, show ¬ (6 : Int) = 3 by decide, show ¬ (6 : Int) = 4 by decide, if_false, if_true, List.length_append, List.length_singleton]
    omega
  · have := hN.1.1
    match xs, hl with
    | [x], _ =>
      simp only [show ¬ (7 : Int) = 1 by decide, show ¬ (7 : Int) = 3 by decide, show ¬ (7 : Int) = 4 by decide, show ¬ (7 : Int) = 6 by decide, if_false, if_true, List.length_append, List.length_cons, List.length_nil, List.headD_cons, List.map_cons, List.map_nil, List.sum_cons, List.sum_nil]
      omega
    | [], hl => simp at hl; omega
    | _ :: _ :: _, hl => simp at hl; omega
theorem texts_ge (F : Trees) (h : F.formed = true) : F.count ≤ (F.texts.map List.length).sum := by
  induction F with
  | nil => simp [Trees.count]
  | cons k n t ar r ih1 ih2 =>
    simp only [Trees.formed, Bool.and_eq_true] at h
    have h1 := node_ge k n t ar.length ar.texts (texts_length ar) h.1
    have h2 := ih1 h.2.1
    have h3 := ih2 h.2.2
    simp only [Trees.texts, Trees.count, List.map_cons, List.sum_cons]
    omega
theorem good_ge {q : PatD} (h : q.good) : 1 + q.F.count ≤ q.text.length := by
  have h1 := node_ge q.k q.n q.t q.F.length q.F.texts (texts_length q.F) h.1
  have h2 := texts_ge q.F h.2
  unfold PatD.text
  omega
def Fits (m d : Nat) (q : PatD) : Prop := m + (1 + q.F.count) ≤ 2097152 ∧ d + q.F.deep ≤ 8
def NoneP (s : List UInt8) (m d : Nat) : Prop := ∀ q s2, PatD.good q → s = q.text ++ s2 → Ends s2 → ¬ Fits m d q
structure OkP (s : List UInt8) (m d : Nat) (p : PatD) (s' : List UInt8) (m' : Nat) : Prop where
  good : p.good
  text : s = p.text ++ s'
  nodes : m' = m + (1 + p.F.count)
  fits : Fits m d p
  uniq : ∀ q s2, PatD.good q → s = q.text ++ s2 → Ends s2 → Fits m d q → q = p ∧ s2 = s'

theorem none_begin {s : List UInt8} {m d : Nat} (h : ¬ (m + 1 ≤ 2097152 ∧ d ≤ 8)) : NoneP s m d := fun q s2 _ _ _ hf => by
  have h1 := hf.1
  have h2 := hf.2
  omega
theorem text_step_ok {r a b : List UInt8} {m d : Nat} (hm : m + 1 ≤ 2097152) (hd : d ≤ 8) (h : quoted r = some (a, b)) : OkP (34 :: r) m d (leaf 4 0 (str a)) b (m + 1) := by
  obtain ⟨h1, h2⟩ := quoted_ok h
  refine ⟨good_leaf ((patForm_iff _ _ _ _).2 (.inr (.inr (.inr (.inl ⟨rfl, rfl, h2, rfl⟩))))), ?_, rfl, ⟨hm, hd⟩, fun q s2 hq hs he hf => ?_⟩
  · rw [text_str, h1]; simp [str]
  · obtain ⟨t, rfl, hv, hr⟩ := first_34 q hq s2 r hs.symm
    rw [hr, quoted_eq hv] at h
    cases h
    exact ⟨by rw [str_data], rfl⟩
theorem text_step_none {r : List UInt8} {m d : Nat} (h : quoted r = none) : NoneP (34 :: r) m d := fun q s2 hq hs he hf => by
  obtain ⟨t, rfl, hv, hr⟩ := first_34 q hq s2 r hs.symm
  rw [hr, quoted_eq hv] at h
  cases h
theorem fits_left {m d : Nat} {a b : PatD} (h : Fits m d ⟨6, 0, ⟨#[]⟩, a.one (b.one .nil)⟩) : Fits (m + 1) (d + 1) a := by
  obtain ⟨h1, h2⟩ := h
  simp only [PatD.one, Trees.count, Trees.deep] at h1 h2
  exact ⟨by omega, by omega⟩
theorem fits_right {m d : Nat} {a b : PatD} (h : Fits m d ⟨6, 0, ⟨#[]⟩, a.one (b.one .nil)⟩) : Fits (m + 1 + (1 + a.F.count)) (d + 1) b := by
  obtain ⟨h1, h2⟩ := h
  simp only [PatD.one, Trees.count, Trees.deep] at h1 h2
  exact ⟨by omega, by omega⟩
theorem or_none1 {r : List UInt8} {m d : Nat} (h : NoneP r (m + 1) (d + 1)) : NoneP (40 :: r) m d := fun q s2 hq hs he hf => by
  obtain ⟨a, b, rfl, ha, hb, hr⟩ := first_40 q hq s2 r hs.symm
  exact h a _ ha hr (ends_bar _) (fits_left hf)
theorem or_none2 {r s1 : List UInt8} {m d m1 : Nat} {a : PatD} (h : OkP r (m + 1) (d + 1) a s1 m1) (hn : ∀ r1, s1 ≠ 32 :: 124 :: 32 :: r1) : NoneP (40 :: r) m d := fun q s2 hq hs he hf => by
  obtain ⟨a', b, rfl, ha, hb, hr⟩ := first_40 q hq s2 r hs.symm
  obtain ⟨_, e⟩ := h.uniq a' _ ha hr (ends_bar _) (fits_left hf)
  exact hn _ e.symm
theorem or_none3 {r r1 : List UInt8} {m d m1 : Nat} {a : PatD} (h : OkP r (m + 1) (d + 1) a (32 :: 124 :: 32 :: r1) m1) (hn : NoneP r1 m1 (d + 1)) : NoneP (40 :: r) m d := fun q s2 hq hs he hf => by
  obtain ⟨a', b, rfl, ha, hb, hr⟩ := first_40 q hq s2 r hs.symm
  obtain ⟨rfl, e⟩ := h.uniq a' _ ha hr (ends_bar _) (fits_left hf)
  injection e with _ e
  injection e with _ e
  injection e with _ e
  rw [h.nodes] at hn
  exact hn b (41 :: s2) hb e.symm (ends_close _) (fits_right hf)
theorem or_none4 {r r1 s3 : List UInt8} {m d m1 m2 : Nat} {a b : PatD} (h : OkP r (m + 1) (d + 1) a (32 :: 124 :: 32 :: r1) m1) (k : OkP r1 m1 (d + 1) b s3 m2) (hn : ∀ r2, s3 ≠ 41 :: r2) : NoneP (40 :: r) m d := fun q s2 hq hs he hf => by
  obtain ⟨a', b', rfl, ha, hb, hr⟩ := first_40 q hq s2 r hs.symm
  obtain ⟨rfl, e⟩ := h.uniq a' _ ha hr (ends_bar _) (fits_left hf)
  injection e with _ e
  injection e with _ e
  injection e with _ e
  have hf2 := fits_right hf
  rw [← h.nodes] at hf2
  obtain ⟨_, e2⟩ := k.uniq b' (41 :: s2) hb e.symm (ends_close _) hf2
  exact hn _ e2.symm
theorem or_ok {r r1 r2 : List UInt8} {m d m1 m2 : Nat} {a b : PatD} (h : OkP r (m + 1) (d + 1) a (32 :: 124 :: 32 :: r1) m1) (k : OkP r1 m1 (d + 1) b (41 :: r2) m2) : OkP (40 :: r) m d ⟨6, 0, ⟨#[]⟩, a.one (b.one .nil)⟩ r2 m2 := by
  have h1 := h.nodes
  have k1 := k.nodes
  have h2 := h.fits
  have k2 := k.fits
  unfold Fits at h2 k2
  refine ⟨good_or h.good k.good, ?_, ?_, ⟨?_, ?_⟩, fun q s2 hq hs he hf => ?_⟩
  · rw [text_or, h.text, k.text]; simp
  · simp only [PatD.one, Trees.count]; omega
  · simp only [PatD.one, Trees.count]; omega
  · simp only [PatD.one, Trees.deep]; omega
  · obtain ⟨a', b', rfl, ha, hb, hr⟩ := first_40 q hq s2 r hs.symm
    obtain ⟨rfl, e⟩ := h.uniq a' _ ha hr (ends_bar _) (fits_left hf)
    injection e with _ e
    injection e with _ e
    injection e with _ e
    have hf2 := fits_right hf
    rw [← h.nodes] at hf2
    obtain ⟨rfl, e2⟩ := k.uniq b' (41 :: s2) hb e.symm (ends_close _) hf2
    injection e2 with _ e2
    exact ⟨rfl, e2⟩

structure AtWord (s wd r : List UInt8) : Prop where
  eq : s = wd ++ r
  word : leadS s = wd
  n34 : ∀ x, s ≠ 34 :: x
  n40 : ∀ x, s ≠ 40 :: x
theorem AtWord.cases {s wd r : List UInt8} (h : AtWord s wd r) (q : PatD) (hq : q.good) (s2 : List UInt8) (hs : s = q.text ++ s2) (he : Ends s2) :
    (q = leaf 1 0 ⟨#[]⟩ ∧ wd = [95] ∧ r = s2) ∨ (∃ t, q = leaf 2 0 t ∧ Name t ∧ wd = t.data.toList ∧ r = s2) ∨ (∃ n, q = leaf 3 n ⟨#[]⟩ ∧ inInt n = true ∧ wd = Lib.itoa n ∧ r = s2) ∨
    (∃ t, q = ⟨5, 0, t, .nil⟩ ∧ Word 65 90 t ∧ wd = t.data.toList ∧ r = s2) ∨ (∃ t F, q = ⟨5, 0, t, F⟩ ∧ F ≠ .nil ∧ F.formed = true ∧ Word 65 90 t ∧ wd = t.data.toList ∧ r = 40 :: (Lib.join F.texts [44, 32] ++ 41 :: s2)) ∨
    (∃ t a, q = ⟨7, 0, t, a.one .nil⟩ ∧ PatD.good a ∧ Name t ∧ wd = t.data.toList ∧ r = 32 :: 64 :: 32 :: (a.text ++ s2)) := by
  have hl := h.word
  have e := h.eq
  have h34 := h.n34
  have h40 := h.n40
  rw [hs] at hl e h34 h40
  have fin : ∀ x y, IsW x → lead (q.text ++ s2) = x → q.text ++ s2 = x ++ y → wd = x ∧ r = y := fun x y hw h1 h2 => by
    have e1 : wd = x := hl.symm.trans (by rw [h2] at h1 ⊢; exact leadS_of hw h1)
    subst e1
    exact ⟨rfl, List.append_cancel_left (e.symm.trans h2)⟩
  rcases lead_of q hq s2 he h34 h40 with ⟨h0, h1, h2⟩ | ⟨t, h0, hN, h1, h2⟩ | ⟨n, h0, hi, h1, h2⟩ | ⟨t, h0, hw, h1, h2⟩ | ⟨t, F, h0, hn, hF, hw, h1, h2⟩ | ⟨t, a, h0, ha, hN, h1, h2⟩
  · obtain ⟨a1, a2⟩ := fin _ _ isW_any h1 h2; exact .inl ⟨h0, a1, a2⟩
  · obtain ⟨a1, a2⟩ := fin _ _ (isW_word (.inl hN.1)) h1 h2; exact .inr (.inl ⟨t, h0, hN, a1, a2⟩)
  · obtain ⟨a1, a2⟩ := fin _ _ (isW_int n) h1 h2; exact .inr (.inr (.inl ⟨n, h0, hi, a1, a2⟩))
  · obtain ⟨a1, a2⟩ := fin _ _ (isW_word (.inr hw)) h1 h2; exact .inr (.inr (.inr (.inl ⟨t, h0, hw, a1, a2⟩)))
  · obtain ⟨a1, a2⟩ := fin _ _ (isW_word (.inr hw)) h1 h2; exact .inr (.inr (.inr (.inr (.inl ⟨t, F, h0, hn, hF, hw, a1, a2⟩))))
  · obtain ⟨a1, a2⟩ := fin _ _ (isW_word (.inl hN.1)) h1 h2; exact .inr (.inr (.inr (.inr (.inr ⟨t, a, h0, ha, hN, a1, a2⟩))))
theorem int_ok {s wd r : List UInt8} {m d : Nat} {n : Int} (h : AtWord s wd r) (hm : m + 1 ≤ 2097152) (hd : d ≤ 8) (hi : inInt n = true) (hw : Lib.itoa n = wd) : OkP s m d (leaf 3 n ⟨#[]⟩) r (m + 1) := by
  refine ⟨good_leaf ((patForm_iff _ _ _ _).2 (.inr (.inr (.inl ⟨rfl, hi, rfl, rfl⟩)))), by rw [text_int, hw]; exact h.eq, rfl, ⟨hm, hd⟩, fun q s2 hq hs he hf => ?_⟩
  rcases h.cases q hq s2 hs he with ⟨rfl, e, hr⟩ | ⟨t, rfl, hN, e, hr⟩ | ⟨n', rfl, hi', e, hr⟩ | ⟨t, rfl, hw', e, hr⟩ | ⟨t, F, rfl, _, _, hw', e, hr⟩ | ⟨t, a, rfl, _, hN, e, hr⟩
  · exact absurd (e.symm.trans hw.symm) (any_no_int n)
  · exact absurd (e.symm.trans hw.symm) (name_no_int hN n)
  · rw [itoa_inj hi' hi (e.symm.trans hw.symm)]; exact ⟨rfl, hr.symm⟩
  · exact absurd (e.symm.trans hw.symm) (con_no_int hw' n)
  · exact absurd (e.symm.trans hw.symm) (con_no_int hw' n)
  · exact absurd (e.symm.trans hw.symm) (name_no_int hN n)
theorem any_ok {s r : List UInt8} {m d : Nat} (h : AtWord s [95] r) (hm : m + 1 ≤ 2097152) (hd : d ≤ 8) : OkP s m d (leaf 1 0 ⟨#[]⟩) r (m + 1) := by
  refine ⟨good_leaf ((patForm_iff _ _ _ _).2 (.inl ⟨rfl, rfl, rfl, rfl⟩)), by rw [text_any]; exact h.eq, rfl, ⟨hm, hd⟩, fun q s2 hq hs he hf => ?_⟩
  rcases h.cases q hq s2 hs he with ⟨rfl, e, hr⟩ | ⟨t, rfl, hN, e, hr⟩ | ⟨n', rfl, hi', e, hr⟩ | ⟨t, rfl, hw', e, hr⟩ | ⟨t, F, rfl, _, _, hw', e, hr⟩ | ⟨t, a, rfl, _, hN, e, hr⟩
  · exact ⟨rfl, hr.symm⟩
  · exact absurd e (any_no_name hN)
  · exact absurd e (any_no_int n')
  · exact absurd e (any_no_con hw')
  · exact absurd e (any_no_con hw')
  · exact absurd e (any_no_name hN)
theorem word_none {s wd r : List UInt8} {m d : Nat} (h : AtWord s wd r) (h1 : wd ≠ [95]) (h2 : ¬ Name (str wd)) (h3 : ¬ Word 65 90 (str wd)) (h4 : ∀ n, inInt n = true → Lib.itoa n ≠ wd) : NoneP s m d := fun q s2 hq hs he hf => by
  rcases h.cases q hq s2 hs he with ⟨rfl, e, hr⟩ | ⟨t, rfl, hN, e, hr⟩ | ⟨n', rfl, hi', e, hr⟩ | ⟨t, rfl, hw', e, hr⟩ | ⟨t, F, rfl, _, _, hw', e, hr⟩ | ⟨t, a, rfl, _, hN, e, hr⟩
  · exact h1 e
  · rw [e, str_data] at h2; exact h2 hN
  · exact h4 n' hi' e.symm
  · rw [e, str_data] at h3; exact h3 hw'
  · rw [e, str_data] at h3; exact h3 hw'
  · rw [e, str_data] at h2; exact h2 hN
theorem AtWord.name {s r : List UInt8} {t : ByteArray} (h : AtWord s t.data.toList r) (hN : Name t) (q : PatD) (hq : q.good) (s2 : List UInt8) (hs : s = q.text ++ s2) (he : Ends s2) :
    (q = leaf 2 0 t ∧ r = s2) ∨ ∃ a, q = ⟨7, 0, t, a.one .nil⟩ ∧ PatD.good a ∧ r = 32 :: 64 :: 32 :: (a.text ++ s2) := by
  rcases h.cases q hq s2 hs he with ⟨rfl, e, hr⟩ | ⟨u, rfl, hN', e, hr⟩ | ⟨n', rfl, hi', e, hr⟩ | ⟨u, rfl, hw', e, hr⟩ | ⟨u, F, rfl, _, _, hw', e, hr⟩ | ⟨u, a, rfl, ha, hN', e, hr⟩
  · exact absurd e.symm (any_no_name hN)
  · rw [data_inj e]; exact .inl ⟨rfl, hr⟩
  · exact absurd e (name_no_int hN n')
  · exact absurd e.symm (con_no_name hw' hN)
  · exact absurd e.symm (con_no_name hw' hN)
  · rw [data_inj e]; exact .inr ⟨a, rfl, ha, hr⟩
theorem var_ok {s r : List UInt8} {t : ByteArray} {m d : Nat} (h : AtWord s t.data.toList r) (hN : Name t) (hm : m + 1 ≤ 2097152) (hd : d ≤ 8) (hr0 : ∀ x, r ≠ 32 :: 64 :: 32 :: x) : OkP s m d (leaf 2 0 t) r (m + 1) := by
  refine ⟨good_leaf ((patForm_iff _ _ _ _).2 (.inr (.inl ⟨rfl, rfl, hN, rfl⟩))), by rw [text_var]; exact h.eq, rfl, ⟨hm, hd⟩, fun q s2 hq hs he hf => ?_⟩
  rcases h.name hN q hq s2 hs he with ⟨rfl, hr⟩ | ⟨a, rfl, ha, hr⟩
  · exact ⟨rfl, hr.symm⟩
  · exact absurd hr (hr0 _)
theorem fits_as {m d : Nat} {t : ByteArray} {a : PatD} (h : Fits m d ⟨7, 0, t, a.one .nil⟩) : Fits (m + 1) (d + 1) a := by
  obtain ⟨h1, h2⟩ := h
  simp only [PatD.one, Trees.count, Trees.deep] at h1 h2
  exact ⟨by omega, by omega⟩
theorem as_none {s r1 : List UInt8} {t : ByteArray} {m d : Nat} (h : AtWord s t.data.toList (32 :: 64 :: 32 :: r1)) (hN : Name t) (hn : NoneP r1 (m + 1) (d + 1)) : NoneP s m d := fun q s2 hq hs he hf => by
  rcases h.name hN q hq s2 hs he with ⟨rfl, hr⟩ | ⟨a, rfl, ha, hr⟩
  · exact no_as hr he
  · injection hr with _ hr
    injection hr with _ hr
    injection hr with _ hr
    exact hn a s2 ha hr he (fits_as hf)
theorem as_ok {s r1 s' : List UInt8} {t : ByteArray} {m d m' : Nat} {a : PatD} (h : AtWord s t.data.toList (32 :: 64 :: 32 :: r1)) (hN : Name t) (k : OkP r1 (m + 1) (d + 1) a s' m') : OkP s m d ⟨7, 0, t, a.one .nil⟩ s' m' := by
  have k1 := k.nodes
  have k2 := k.fits
  unfold Fits at k2
  refine ⟨good_as hN k.good, ?_, ?_, ⟨?_, ?_⟩, fun q s2 hq hs he hf => ?_⟩
  · rw [text_as, h.eq, k.text]; simp
  · simp only [PatD.one, Trees.count]; omega
  · simp only [PatD.one, Trees.count]; omega
  · simp only [PatD.one, Trees.deep]; omega
  · rcases h.name hN q hq s2 hs he with ⟨rfl, hr⟩ | ⟨a', rfl, ha, hr⟩
    · exact (no_as hr he).elim
    · injection hr with _ hr
      injection hr with _ hr
      injection hr with _ hr
      obtain ⟨rfl, e⟩ := k.uniq a' s2 ha hr he (fits_as hf)
      exact ⟨rfl, e⟩
theorem AtWord.con {s r : List UInt8} {t : ByteArray} (h : AtWord s t.data.toList r) (hw : Word 65 90 t) (q : PatD) (hq : q.good) (s2 : List UInt8) (hs : s = q.text ++ s2) (he : Ends s2) :
    (q = ⟨5, 0, t, .nil⟩ ∧ r = s2) ∨ ∃ F, q = ⟨5, 0, t, F⟩ ∧ F ≠ .nil ∧ F.formed = true ∧ r = 40 :: (Lib.join F.texts [44, 32] ++ 41 :: s2) := by
  rcases h.cases q hq s2 hs he with ⟨rfl, e, hr⟩ | ⟨u, rfl, hN', e, hr⟩ | ⟨n', rfl, hi', e, hr⟩ | ⟨u, rfl, hw', e, hr⟩ | ⟨u, F, rfl, hn, hF, hw', e, hr⟩ | ⟨u, a, rfl, ha, hN', e, hr⟩
  · exact absurd e.symm (any_no_con hw)
  · exact absurd e (con_no_name hw hN')
  · exact absurd e (con_no_int hw n')
  · rw [data_inj e]; exact .inl ⟨rfl, hr⟩
  · rw [data_inj e]; exact .inr ⟨F, rfl, hn, hF, hr⟩
  · exact absurd e (con_no_name hw hN')
theorem con0_ok {s r : List UInt8} {t : ByteArray} {m d : Nat} (h : AtWord s t.data.toList r) (hw : Word 65 90 t) (hm : m + 1 ≤ 2097152) (hd : d ≤ 8) (hr0 : ∀ x, r ≠ 40 :: x) : OkP s m d ⟨5, 0, t, .nil⟩ r (m + 1) := by
  refine ⟨good_con hw rfl, by rw [text_con0]; exact h.eq, rfl, ⟨hm, hd⟩, fun q s2 hq hs he hf => ?_⟩
  rcases h.con hw q hq s2 hs he with ⟨rfl, hr⟩ | ⟨F, rfl, _, _, hr⟩
  · exact ⟨rfl, hr.symm⟩
  · exact absurd hr (hr0 _)
structure ArgsOk (s : List UInt8) (m d : Nat) (G : Trees) (s' : List UInt8) (m' : Nat) : Prop where
  ne : G ≠ .nil
  good : G.formed = true
  text : s = Lib.join G.texts [44, 32] ++ 41 :: s'
  nodes : m' = m + G.count
  fits : m + G.count ≤ 2097152 ∧ d + G.deep ≤ 8
  uniq : ∀ (H : Trees) (s2 : List UInt8), H ≠ .nil → H.formed = true → s = Lib.join H.texts [44, 32] ++ 41 :: s2 → m + H.count ≤ 2097152 → d + H.deep ≤ 8 → H = G ∧ s2 = s'
def ArgsNone (s : List UInt8) (m d : Nat) : Prop := ∀ (H : Trees) (s2 : List UInt8), H ≠ .nil → H.formed = true → s = Lib.join H.texts [44, 32] ++ 41 :: s2 → m + H.count ≤ 2097152 → ¬ d + H.deep ≤ 8
theorem con_none {s r1 : List UInt8} {t : ByteArray} {m d : Nat} (h : AtWord s t.data.toList (40 :: r1)) (hw : Word 65 90 t) (hn : ArgsNone r1 (m + 1) d) : NoneP s m d := fun q s2 hq hs he hf => by
  rcases h.con hw q hq s2 hs he with ⟨rfl, hr⟩ | ⟨F, rfl, h1, h2, hr⟩
  · exact no_open hr he
  · injection hr with _ hr
    exact hn F s2 h1 h2 hr (by have := hf.1; simp only at this; omega) hf.2
theorem con_ok {s r1 s' : List UInt8} {t : ByteArray} {m d m' : Nat} {G : Trees} (h : AtWord s t.data.toList (40 :: r1)) (hw : Word 65 90 t) (k : ArgsOk r1 (m + 1) d G s' m') : OkP s m d ⟨5, 0, t, G⟩ s' m' := by
  have k1 := k.nodes
  have k2 := k.fits
  refine ⟨good_con hw k.good, ?_, by simp only; omega, ⟨by simp only; omega, k2.2⟩, fun q s2 hq hs he hf => ?_⟩
  · rw [text_con t G k.ne, h.eq, k.text]; simp
  · rcases h.con hw q hq s2 hs he with ⟨rfl, hr⟩ | ⟨F, rfl, h1, h2, hr⟩
    · exact (no_open hr he).elim
    · injection hr with _ hr
      obtain ⟨rfl, e⟩ := k.uniq F s2 h1 h2 hr (by have := hf.1; simp only at this; omega) hf.2
      exact ⟨rfl, e⟩
structure ArgsIn (s : List UInt8) (m d : Nat) (A : Trees) (s1 : List UInt8) (m1 : Nat) : Prop where
  good : A.formed = true
  nodes : m1 = m + A.count
  deep : d + A.deep ≤ 8
  text : ∀ R, R ≠ Trees.nil → ∀ x, s1 = Lib.join R.texts [44, 32] ++ x → s = Lib.join (A.append R).texts [44, 32] ++ x
  uniq : ∀ (H : Trees) (s2 : List UInt8), H ≠ .nil → H.formed = true → s = Lib.join H.texts [44, 32] ++ 41 :: s2 → m + H.count ≤ 2097152 → d + H.deep ≤ 8 → ∃ R, R ≠ .nil ∧ H = A.append R ∧ R.formed = true ∧ s1 = Lib.join R.texts [44, 32] ++ 41 :: s2 ∧ m1 + R.count ≤ 2097152 ∧ d + R.deep ≤ 8
theorem ArgsIn.start (s : List UInt8) (m d : Nat) (hd : d ≤ 8) : ArgsIn s m d .nil s m :=
  ⟨rfl, rfl, hd, fun _ _ _ h => h, fun H _ h1 h2 h3 h4 h5 => ⟨H, h1, rfl, h2, h3, h4, h5⟩⟩
theorem ArgsIn.next {s s1 : List UInt8} {m d m1 : Nat} {A : Trees} (h : ArgsIn s m d A s1 m1) {H : Trees} {s2 : List UInt8} (a1 : H ≠ .nil) (a2 : H.formed = true) (a3 : s = Lib.join H.texts [44, 32] ++ 41 :: s2) (a4 : m + H.count ≤ 2097152) (a5 : d + H.deep ≤ 8) :
    ∃ (q : PatD) (R : Trees), H = A.append (q.one R) ∧ q.good ∧ R.formed = true ∧ Fits m1 (d + 1) q ∧ m1 + (1 + q.F.count) + R.count ≤ 2097152 ∧ d + R.deep ≤ 8 ∧ ∃ x, s1 = q.text ++ x ∧ Ends x ∧ ((R = .nil ∧ x = 41 :: s2) ∨ (R ≠ .nil ∧ x = 44 :: 32 :: (Lib.join R.texts [44, 32] ++ 41 :: s2))) := by
  obtain ⟨R0, b1, b2, b3, b4, b5, b6⟩ := h.uniq H s2 a1 a2 a3 a4 a5
  obtain ⟨q, R, rfl, hq, hR⟩ := row_cases R0 b1 b3
  simp only [PatD.one, Trees.count, Trees.deep] at b5 b6
  refine ⟨q, R, b2, hq, hR, ⟨by omega, by omega⟩, by omega, by omega, ?_⟩
  by_cases h0 : R = .nil
  · subst h0
    rw [join_one] at b4
    exact ⟨_, b4, ends_close _, .inl ⟨rfl, rfl⟩⟩
  · rw [join_more q R h0] at b4
    exact ⟨_, by rw [b4]; simp, ends_comma _, .inr ⟨h0, rfl⟩⟩
theorem args_none1 {s s1 : List UInt8} {m d m1 : Nat} {A : Trees} (h : ArgsIn s m d A s1 m1) (hn : NoneP s1 m1 (d + 1)) : ArgsNone s m d := fun H s2 a1 a2 a3 a4 a5 => by
  obtain ⟨q, R, _, hq, _, hf, _, _, x, hx, he, _⟩ := h.next a1 a2 a3 a4 a5
  exact hn q x hq hx he hf
theorem args_none2 {s s1 s3 : List UInt8} {m d m1 m3 : Nat} {A : Trees} {p : PatD} (h : ArgsIn s m d A s1 m1) (k : OkP s1 m1 (d + 1) p s3 m3) (h1 : ∀ r, s3 ≠ 41 :: r) (h2 : ∀ r, s3 ≠ 44 :: 32 :: r) : ArgsNone s m d := fun H s2 a1 a2 a3 a4 a5 => by
  obtain ⟨q, R, _, hq, _, hf, _, _, x, hx, he, hc⟩ := h.next a1 a2 a3 a4 a5
  obtain ⟨_, e⟩ := k.uniq q x hq hx he hf
  rcases hc with ⟨_, hc⟩ | ⟨_, hc⟩
  · exact h1 _ (e.symm.trans hc)
  · exact h2 _ (e.symm.trans hc)
theorem args_ok {s s1 s' : List UInt8} {m d m1 m3 : Nat} {A : Trees} {p : PatD} (h : ArgsIn s m d A s1 m1) (k : OkP s1 m1 (d + 1) p (41 :: s') m3) : ArgsOk s m d (A.add p) s' m3 := by
  have h1 := h.nodes
  have h2 := h.deep
  have k1 := k.nodes
  have k2 := k.fits
  unfold Fits at k2
  refine ⟨fun e => ?_, add_formed h.good k.good, ?_, by rw [add_count]; omega, ⟨by rw [add_count]; omega, by rw [add_deep]; omega⟩, fun H s2 a1 a2 a3 a4 a5 => ?_⟩
  · have := congrArg Trees.count e
    rw [add_count] at this
    simp [Trees.count] at this
  · exact h.text (p.one .nil) (by simp [PatD.one]) (41 :: s') (by rw [join_one]; exact k.text)
  · obtain ⟨q, R, rfl, hq, _, hf, _, _, x, hx, he, hc⟩ := h.next a1 a2 a3 a4 a5
    obtain ⟨rfl, e⟩ := k.uniq q x hq hx he hf
    rcases hc with ⟨rfl, hc⟩ | ⟨_, hc⟩
    · rw [e] at hc
      injection hc with _ hc
      exact ⟨rfl, hc.symm⟩
    · rw [e] at hc
      injection hc with hc _
      exact absurd hc (by decide)
theorem args_more {s s1 s' : List UInt8} {m d m1 m3 : Nat} {A : Trees} {p : PatD} (h : ArgsIn s m d A s1 m1) (k : OkP s1 m1 (d + 1) p (44 :: 32 :: s') m3) : ArgsIn s m d (A.add p) s' m3 := by
  have h1 := h.nodes
  have h2 := h.deep
  have k1 := k.nodes
  have k2 := k.fits
  unfold Fits at k2
  refine ⟨add_formed h.good k.good, by rw [add_count]; omega, by rw [add_deep]; omega, fun R hR x hx => ?_, fun H s2 a1 a2 a3 a4 a5 => ?_⟩
  · rw [add_append]
    refine h.text (p.one R) (by simp [PatD.one]) x ?_
    rw [join_more p R hR, k.text, hx]
    try simp
  · obtain ⟨q, R, rfl, hq, hR, hf, hc1, hc2, x, hx, he, hc⟩ := h.next a1 a2 a3 a4 a5
    obtain ⟨rfl, e⟩ := k.uniq q x hq hx he hf
    rcases hc with ⟨rfl, hc⟩ | ⟨hn, hc⟩
    · rw [e] at hc
      injection hc with hc _
      exact absurd hc (by decide)
    · rw [e] at hc
      injection hc with _ hc
      injection hc with _ hc
      exact ⟨R, hn, (add_append _ _ _).symm, hR, hc, by omega, hc2⟩
end Go.Proofs.YtdifefgigcjgeaaGreatDoor.Sp
end

/- What is proved here: the specification's l4Take in its cases; what is seen at a place of a text. Conditions: as for the reader. -/
section
namespace Go.Proofs.YtdifefgigcjgeaaGreatDoor
open Go.RowKit

theorem sees_true {s : ByteArray} {k : Nat} {p : List UInt8} (h : sees s k p = true) (hk : k ≤ s.size) : s.data.toList.drop k = p ++ s.data.toList.drop (k + p.length) ∧ k + p.length ≤ s.size := by
  obtain ⟨x, e⟩ := List.isPrefixOf_iff_prefix.1 h
  have hl : s.data.toList.length = s.size := rfl
  have h1 := congrArg List.length e
  rw [List.length_append, List.length_drop, hl] at h1
  refine ⟨?_, by omega⟩
  have h2 : s.data.toList.drop (k + p.length) = (s.data.toList.drop k).drop p.length := by rw [List.drop_drop]
  rw [h2, ← e]
  simp
theorem sees_false {s : ByteArray} {k : Nat} {p : List UInt8} (h : sees s k p = false) : ∀ x, s.data.toList.drop k ≠ p ++ x := fun x e => by
  have : sees s k p = true := List.isPrefixOf_iff_prefix.2 ⟨x, e.symm⟩
  rw [h] at this
  cases this
theorem take_yes (w : World) (b : Nat) (s : ByteArray) (k : Nat) (p : List UInt8) (h : SAt w b s k false) (hs : s.size ≤ 1048576) (hk : k ≤ s.size) (hp : p.length ≤ 16) (hse : sees s k p = true) :
    Calls Tryz.prog 102 #[.pointer (some ⟨b, 0, none⟩), .string (str p)] w fun e w' => e = .returned (.bool true) ∧ SAt w' b s (k + p.length) false ∧ Only (Just b) w w' := by
  have H := spec_take w b s k false p h hs hk hp
  rw [hse] at H
  exact H
theorem take_no (w : World) (b : Nat) (s : ByteArray) (k : Nat) (p : List UInt8) (h : SAt w b s k false) (hs : s.size ≤ 1048576) (hk : k ≤ s.size) (hp : p.length ≤ 16) (hse : sees s k p = false) :
    Calls Tryz.prog 102 #[.pointer (some ⟨b, 0, none⟩), .string (str p)] w fun e w' => e = .returned (.bool false) ∧ SAt w' b s k false ∧ Only (Just b) w w' := by
  have H := spec_take w b s k false p h hs hk hp
  rw [hse] at H
  exact H
theorem take_bad (w : World) (b : Nat) (s : ByteArray) (k : Nat) (p : List UInt8) (h : SAt w b s k true) (hs : s.size ≤ 1048576) (hk : k ≤ s.size) (hp : p.length ≤ 16) :
    Calls Tryz.prog 102 #[.pointer (some ⟨b, 0, none⟩), .string (str p)] w fun e w' => e = .returned (.bool false) ∧ SAt w' b s k true ∧ Only (Just b) w w' := spec_take w b s k true p h hs hk hp
theorem SAt.at {w w' : World} {b : Nat} {s : ByteArray} {p : Nat} {bad : Bool} (h : SAt w b s p bad) (k : w'.heap[b]? = w.heap[b]?) : SAt w' b s p bad := k.trans h
theorem SAt.set4 {w : World} {b g : Nat} {s : ByteArray} {p : Nat} {bad : Bool} (h : SAt w b s p bad) (hg : b ≠ g) (k n : Int) (t : ByteArray) (v : Value) : SAt (Go.Proofs.YtdifefgigcjgeaaGreatDoor.set4 w g k n t v) b s p bad := (set4_other k n t v hg).trans h
end Go.Proofs.YtdifefgigcjgeaaGreatDoor
end

/- What is proved here: what the specification's reader of a pattern answers, and where; at once where it has failed before. Conditions: as for the reader. -/
section
namespace Go.Proofs.YtdifefgigcjgeaaGreatDoor.Sp
open Go.RowKit

/-- What reading a pattern ends as, from the place k, at the depth d (the program's answer without a bound on the nodes). -/
def SpAns (w : World) (b : Nat) (s : ByteArray) (k m d : Nat) (e : Ending) (w' : World) : Prop :=
  (∃ p k' m' v bs, e = .returned (.agg #[.int .i64 (PatD.k p), .int .i64 p.n, .string p.t, v]) ∧ Pt.OwnV w' v p.F bs ∧ bs.Nodup ∧ (∀ c ∈ bs, w.heap.size ≤ c ∧ c < w'.heap.size) ∧ SAt w' b s k' false ∧ k' ≤ s.size ∧ OkP (s.data.toList.drop k) m d p (s.data.toList.drop k') m') ∨
  (∃ kk nn t a l c k', e = .returned (.agg #[.int .i64 kk, .int .i64 nn, .string t, .slice a l c]) ∧ SAt w' b s k' true ∧ k' ≤ s.size ∧ NoneP (s.data.toList.drop k) m d)
def SReadOk (b d : Nat) : Prop := ∀ (w : World) (s : ByteArray) (k m : Nat), SAt w b s k false → s.size ≤ 1048576 → k ≤ s.size → m ≤ k →
  Calls Tryz.prog 60 #[.pointer (some ⟨b, 0, none⟩), .int .i64 (d : Int)] w fun e w' => SpAns w b s k m d e w' ∧ Only (Just b) w w'
theorem only_set (w : World) (b o : Nat) (v : Value) : Only (Just b) w (w.setCell ⟨b, o, none⟩ v) := ⟨rfl, rfl, rfl, by simp [World.setCell], fun c _ hn => Below.heap_setCell _ _ _ _ (by show c ≠ b; exact hn)⟩
theorem pb_keep {b g : Nat} {W W' : World} {k n : Int} {t : ByteArray} {v : Value} (h : PBox W g k n t v) (hO : Only (Just b) W W') (hg : g ≠ b) : PBox W' g k n t v := (hO.block g (Array.getElem?_eq_some_iff.1 h).1 (by show ¬ g = b; exact hg)).trans h
theorem okp_le {s : ByteArray} {k k' m m' d : Nat} {p : PatD} (h : OkP (s.data.toList.drop k) m d p (s.data.toList.drop k') m') (hm : m ≤ k) (hk : k ≤ s.size) (hk' : k' ≤ s.size) : m' ≤ k' := by
  have hl : s.data.toList.length = s.size := rfl
  have h1 := congrArg List.length h.text
  rw [List.length_append, List.length_drop, List.length_drop, hl] at h1
  have h2 := good_ge h.good
  have h3 := h.nodes
  omega
/-- The end of a walk: it failed. -/
theorem sp_none {w w' : World} {b g : Nat} {s : ByteArray} {k k' m d : Nat} {e : Ending} {kk nn : Int} {t : ByteArray} {a : Option Addr} {l c : Nat} (he : e = .returned (.agg #[.int .i64 kk, .int .i64 nn, .string t, .slice a l c])) (hR : SAt w' b s k' true) (hk : k' ≤ s.size) (hN : NoneP (s.data.toList.drop k) m d) (hO : Only (Just b) w w') (hg : w.heap.size ≤ g) (hb : b ≠ g) :
    SpAns w b s k m d e (Go.Proofs.YtdifefgigcjgeaaGreatDoor.set4 w' g kk nn t (.slice a l c)) ∧ Only (Just b) w (Go.Proofs.YtdifefgigcjgeaaGreatDoor.set4 w' g kk nn t (.slice a l c)) :=
  ⟨.inr ⟨kk, nn, t, a, l, c, k', he, hR.set4 hb _ _ _ _, hk, hN⟩, set4_only hO hg _ _ _ _⟩
/-- The end of a walk: a pattern in the box g. -/
theorem sp_some {w w' : World} {b g : Nat} {s : ByteArray} {k k' m d m' : Nat} {e : Ending} {p : PatD} {v : Value} {bs : List Nat} (he : e = .returned (.agg #[.int .i64 p.k, .int .i64 p.n, .string p.t, v])) (ho : Pt.OwnV w' v p.F bs) (hnd : bs.Nodup) (hbs : ∀ c ∈ bs, w.heap.size ≤ c ∧ c < w'.heap.size) (hbg : ∀ c ∈ bs, c ≠ g) (hR : SAt w' b s k' false) (hk : k' ≤ s.size) (hP : OkP (s.data.toList.drop k) m d p (s.data.toList.drop k') m') (hO : Only (Just b) w w') (hg : w.heap.size ≤ g) (hb : b ≠ g) :
    SpAns w b s k m d e (Go.Proofs.YtdifefgigcjgeaaGreatDoor.set4 w' g p.k p.n p.t v) ∧ Only (Just b) w (Go.Proofs.YtdifefgigcjgeaaGreatDoor.set4 w' g p.k p.n p.t v) :=
  ⟨.inl ⟨p, k', m', v, bs, he, ho.keep (fun c hc => set4_other _ _ _ _ (hbg c hc)), hnd, fun c hc => by rw [set4_size]; exact hbs c hc, hR.set4 hb _ _ _ _, hk, hP⟩, set4_only hO hg _ _ _ _⟩
theorem sp_leaf {w w' : World} {b g : Nat} {s : ByteArray} {k k' m d m' : Nat} {e : Ending} {kk n : Int} {t : ByteArray} (he : e = .returned (.agg #[.int .i64 kk, .int .i64 n, .string t, .slice none 0 0])) (hR : SAt w' b s k' false) (hk : k' ≤ s.size) (hP : OkP (s.data.toList.drop k) m d (Go.Proofs.YtdifefgigcjgeaaGreatDoor.leaf kk n t) (s.data.toList.drop k') m') (hO : Only (Just b) w w') (hg : w.heap.size ≤ g) (hb : b ≠ g) :
    SpAns w b s k m d e (Go.Proofs.YtdifefgigcjgeaaGreatDoor.set4 w' g kk n t (.slice none 0 0)) ∧ Only (Just b) w (Go.Proofs.YtdifefgigcjgeaaGreatDoor.set4 w' g kk n t (.slice none 0 0)) :=
  sp_some (p := Go.Proofs.YtdifefgigcjgeaaGreatDoor.leaf kk n t) he (.inl ⟨Option.none, 0, rfl, rfl, rfl⟩) List.nodup_nil (by simp) (by simp) hR hk hP hO hg hb

set_option maxHeartbeats 1000000 in
set_option maxRecDepth 100000 in
theorem spec_pat_bad (b : Nat) (d : Int) (w : World) (s : ByteArray) (k : Nat) (h : SAt w b s k true) :
    Calls Tryz.prog 60 #[.pointer (some ⟨b, 0, none⟩), .int .i64 d] w fun e w' => (e = .returned (.agg #[.int .i64 0, .int .i64 0, .string ⟨#[]⟩, .slice none 0 0]) ∧ SAt w' b s k true) ∧ Only (Just b) w w' := by
  have hlt := h.lt
  obtain ⟨w1, hw1⟩ : ∃ w1, w1 = w.alloc (.cells #[.int .i64 0, .int .i64 0, .string ⟨#[]⟩, .slice none 0 0] 49) := ⟨_, rfl⟩
  have hb1 : PBox w1 w.heap.size 0 0 ⟨#[]⟩ (.slice none 0 0) := by rw [hw1]; exact heap_at_new w _
  have hB1 : Only (Just b) w w1 := by rw [hw1]; exact (Only.refl _ _).more _
  have hS1 : SAt w1 b s k true := by rw [hw1]; exact h.below ((Below.refl _ _).alloc (Nat.le_refl _) _)
  have hS2 := hS1.fail true
  have hb2 : PBox (w1.setCell ⟨b, 2, none⟩ (.bool true)) w.heap.size 0 0 ⟨#[]⟩ (.slice none 0 0) := (Below.heap_setCell _ _ _ _ (by show w.heap.size ≠ b; omega)).trans hb1
  have hB2 : Only (Just b) w (w1.setCell ⟨b, 2, none⟩ (.bool true)) := hB1.trans ⟨rfl, rfl, rfl, by simp [World.setCell], fun c _ hn => Below.heap_setCell _ _ _ _ (by show c ≠ b; exact hn)⟩
  obtain ⟨c0, c1, c2, f1, f2⟩ := hS1.cells
  obtain ⟨d0, d1, d2, g1, g2⟩ := hS2.cells
  obtain ⟨x0, x1, x2, x3, i0, i1, i2, i3⟩ := four_cells hb2
  have H2 : Hid (SAt (w1.setCell ⟨b, 2, none⟩ (.bool true)) b s k true ∧ PBox (w1.setCell ⟨b, 2, none⟩ (.bool true)) w.heap.size 0 0 ⟨#[]⟩ (.slice none 0 0) ∧ Only (Just b) w (w1.setCell ⟨b, 2, none⟩ (.bool true)) ∧ b < w.heap.size) := ⟨hS2, hb2, hB2, hlt⟩
  rw [hw1] at c0 c1 c2 f1 f2 d0 d1 d2 g1 g2 x0 x1 x2 x3 i0 i1 i2 i3 H2
  clear hb1 hB1 hS1 hS2 hb2 hB2 h hw1 hlt
  go_enter Tryz.func60, Tryz.ntmps60
  go_wp2
  refine bodyPost_ret (results_cell_row rfl _ _ w.heap.size _ _ _ _ rfl (set4_box H2.out.2.1 _ _ _ _) Tryz.underlying49 rfl (by kernel_rfl)) rfl ?_
  exact ⟨⟨rfl, H2.out.1.set4 (by have := H2.out.2.2.2; omega) _ _ _ _⟩, set4_only H2.out.2.2.1 (Nat.le_refl _) _ _ _ _⟩
end Go.Proofs.YtdifefgigcjgeaaGreatDoor.Sp
end

/- What is proved here: a row of nodes that append makes longer, in a block of the call's own, and what lies below its nodes in blocks of the call's own, no two in one. No condition. -/
section
namespace Go.Proofs.YtdifefgigcjgeaaGreatDoor.Pt
open Go.RowKit

/-- The cells of a row of nodes; bs: the blocks of what is below them. -/
def RowV (w : World) : Trees → List Value → List Nat → Prop
  | .nil, xs, bs => xs = [] ∧ bs = []
  | .cons k n t ar r, xs, bs => ∃ v b1 b2 ys, xs = .int .i64 k :: .int .i64 n :: .string t :: v :: ys ∧ bs = b1 ++ b2 ∧ OwnV w v ar b1 ∧ RowV w r ys b2
theorem RowV.keep {w w' : World} : ∀ (F : Trees) (xs : List Value) (bs : List Nat), RowV w F xs bs → (∀ b ∈ bs, w'.heap[b]? = w.heap[b]?) → RowV w' F xs bs := by
  intro F
  induction F with
  | nil => intro xs bs h _; exact h
  | cons k n t ar r _ ih =>
    rintro xs bs ⟨v, b1, b2, ys, rfl, rfl, h1, h2⟩ hk
    exact ⟨v, b1, b2, ys, rfl, rfl, h1.keep (fun b hb => hk b (List.mem_append_left _ hb)), ih ys b2 h2 (fun b hb => hk b (List.mem_append_right _ hb))⟩
theorem RowV.length {w : World} : ∀ (F : Trees) (xs : List Value) (bs : List Nat), RowV w F xs bs → xs.length = F.length * 4 := by
  intro F
  induction F with
  | nil => rintro xs bs ⟨rfl, rfl⟩; rfl
  | cons k n t ar r _ ih =>
    rintro xs bs ⟨v, b1, b2, ys, rfl, rfl, h1, h2⟩
    have := ih ys b2 h2
    simp [Trees.length]
    omega
theorem RowV.snoc {w : World} {k n : Int} {t : ByteArray} {ar : Trees} {v : Value} {c : List Nat} (hx : OwnV w v ar c) : ∀ (F : Trees) (xs : List Value) (bs : List Nat), RowV w F xs bs → RowV w (F.snoc k n t ar) (xs ++ [.int .i64 k, .int .i64 n, .string t, v]) (bs ++ c) := by
  intro F
  induction F with
  | nil => rintro xs bs ⟨rfl, rfl⟩; exact ⟨v, c, [], [], rfl, by simp, hx, rfl, rfl⟩
  | cons k2 n2 t2 ar2 r _ ih =>
    rintro xs bs ⟨v2, b1, b2, ys, rfl, rfl, h1, h2⟩
    exact ⟨v2, b1, b2 ++ c, _, rfl, by simp, h1, ih ys b2 h2⟩
theorem RowV.row {w : World} {g : Nat} : ∀ (F : Trees) (xs : List Value) (bs : List Nat) (i : Nat), RowV w F xs bs → (∀ o, o < xs.length → w.cell? ⟨g, i * 4 + o, none⟩ = xs[o]?) → RowIn w F g i bs := by
  intro F
  induction F with
  | nil => rintro xs bs i ⟨rfl, rfl⟩ _; rfl
  | cons k n t ar r _ ih =>
    rintro xs bs i ⟨v, b1, b2, ys, rfl, rfl, h1, h2⟩ hc
    have hl := RowV.length r ys b2 h2
    refine ⟨v, b1, b2, rfl, ?_, ?_, ?_, ?_, h1, ih ys b2 (i + 1) h2 (fun o ho => ?_)⟩
    · have := hc 0 (by simp); simpa using this
    · have := hc 1 (by simp); simpa using this
    · have := hc 2 (by simp); simpa using this
    · have := hc 3 (by simp); simpa using this
    · have := hc (o + 4) (by simp; omega)
      rw [show (i + 1) * 4 + o = i * 4 + (o + 4) by omega, this]
      rfl

/-- v is a slice of the nodes F that the call may append to; bs: the blocks of what is below them. -/
structure GrowV (w : World) (B : Nat) (v : Value) (F : Trees) (bs : List Nat) (xs : List Value) : Prop where
  owns : w.ownsRow B 49 4 v F.length xs
  row : RowV w F xs bs
  nodup : bs.Nodup
  near : ∀ b ∈ bs, B ≤ b ∧ b < w.heap.size ∧ v.ownBlock ≠ some b
theorem GrowV.nil (w : World) (B : Nat) : GrowV w B (.slice none 0 0) .nil [] [] := ⟨⟨rfl, .inl ⟨rfl, rfl⟩⟩, ⟨rfl, rfl⟩, List.nodup_nil, by simp⟩
theorem GrowV.form {w : World} {B : Nat} {v : Value} {F : Trees} {bs : List Nat} {xs : List Value} (h : GrowV w B v F bs xs) : ∃ a cap, v = .slice a F.length cap := by
  rcases h.owns.2 with ⟨h1, h2⟩ | ⟨g, cap, cur, rfl, _⟩
  · exact ⟨none, 0, by rw [h1, h2]⟩
  · exact ⟨_, cap, rfl⟩
theorem GrowV.own {w : World} {B : Nat} {v : Value} {F : Trees} {bs : List Nat} {xs : List Value} (h : GrowV w B v F bs xs) : ∃ cs, OwnV w v F cs ∧ cs.Nodup ∧ ∀ b ∈ cs, B ≤ b ∧ b < w.heap.size := by
  rcases h.owns.2 with ⟨h1, h2⟩ | ⟨g, cap, cur, rfl, hB, hg, h1, h2, h3, h4⟩
  · have hF : F = .nil := by
      cases F with
      | nil => rfl
      | cons _ _ _ _ _ => simp [Trees.length] at h2
    exact ⟨[], .inl ⟨none, 0, h1, hF, rfl⟩, List.nodup_nil, by simp⟩
  · refine ⟨g :: bs, .inr ⟨g, cap, bs, rfl, h1, rfl, ⟨cur, hg⟩, RowV.row F xs bs 0 h.row (fun o ho => ?_)⟩, List.nodup_cons.2 ⟨fun hm => (h.near g hm).2.2 rfl, h.nodup⟩, fun b hb => ?_⟩
    · have hl := RowV.length F xs bs h.row
      rw [Nat.zero_mul, Nat.zero_add, h.owns.cellAt o (by omega)]
    · rcases List.mem_cons.1 hb with rfl | hb
      · exact ⟨hB, (Array.getElem?_eq_some_iff.1 hg).1⟩
      · exact ⟨(h.near b hb).1, (h.near b hb).2.1⟩
theorem GrowV.below {w w' : World} {B : Nat} {v : Value} {F : Trees} {bs : List Nat} {xs : List Value} (h : GrowV w B v F bs xs) (hb : Below w.heap.size w w') : GrowV w' B v F bs xs := by
  refine ⟨⟨h.owns.1, ?_⟩, h.row.keep F xs bs (fun b hm => hb.block b (h.near b hm).2.1), h.nodup, fun b hm => ⟨(h.near b hm).1, Nat.lt_of_lt_of_le (h.near b hm).2.1 hb.size, (h.near b hm).2.2⟩⟩
  rcases h.owns.2 with h | ⟨g, cap, cur, rfl, hB, hg, h1, h2, h3, h4⟩
  · exact .inl h
  · exact .inr ⟨g, cap, cur, rfl, hB, by rw [hb.block g (Array.getElem?_eq_some_iff.1 hg).1]; exact hg, h1, h2, h3, h4⟩
/-- The same row where only other blocks were written. -/
theorem GrowV.aside {w : World} {B : Nat} {v : Value} {F : Trees} {bs : List Nat} {xs : List Value} (h : GrowV w B v F bs xs) (g o : Nat) (u : Value) (hg : g < B) : GrowV (w.setCell ⟨g, o, none⟩ u) B v F bs xs := by
  have hk : ∀ b, B ≤ b → (w.setCell ⟨g, o, none⟩ u).heap[b]? = w.heap[b]? := fun b hb => Below.heap_setCell _ _ _ _ (by show b ≠ g; omega)
  refine ⟨⟨h.owns.1, ?_⟩, h.row.keep F xs bs (fun b hm => hk b (h.near b hm).1), h.nodup, fun b hm => ⟨(h.near b hm).1, by simpa [World.setCell] using (h.near b hm).2.1, (h.near b hm).2.2⟩⟩
  rcases h.owns.2 with h | ⟨g', cap, cur, rfl, hB, hg', h1, h2, h3, h4⟩
  · exact .inl h
  · exact .inr ⟨g', cap, cur, rfl, hB, by rw [hk g' hB]; exact hg', h1, h2, h3, h4⟩
theorem GrowV.far {w : World} {B : Nat} {v : Value} {F : Trees} {bs : List Nat} {xs : List Value} (h : GrowV w B v F bs xs) (b : Nat) (hb : v.ownBlock = some b) : B ≤ b := by
  rcases h.owns.2 with ⟨e, _⟩ | ⟨g, cap, cur, rfl, hB, _⟩
  · subst e; cases hb
  · cases hb; exact hB
theorem grow_four (w : World) (k n : Int) (t : ByteArray) (v : Value) (T : TypeId) : ∀ j u, [Value.int .i64 k, .int .i64 n, .string t, v][j]? = some u → (w.alloc (.cells #[.int .i64 k, .int .i64 n, .string t, v] T)).cell? ((⟨w.heap.size, 0, none⟩ : Addr).add j) = some u :=
  World.news_of_block (heap_at_new w _)
theorem grow_one (k n : Int) (t : ByteArray) (p : Option Addr) (l c : Nat) : ∀ u ∈ [Value.int .i64 k, .int .i64 n, .string t, .slice p l c], u.oneCell' = true := by
  intro u hu
  simp at hu
  rcases hu with rfl | rfl | rfl | rfl <;> rfl
/-- Behind an append of one node: w the world ahead of the node's making, w1 behind it, w2 ahead of the append, w3 behind it. -/
theorem GrowV.more {w w1 w2 w3 : World} {B : Nat} {F ar : Trees} {bs c : List Nat} {xs : List Value} {k n : Int} {t : ByteArray} {u v : Value} {g cap : Nat}
    (h : GrowV w B v F bs xs) (hB : B ≤ w.heap.size) (h1 : Below w.heap.size w w1) (ho : OwnV w1 u ar c) (hnd : c.Nodup) (hc : ∀ b ∈ c, w.heap.size ≤ b ∧ b < w1.heap.size) (h2 : Below w1.heap.size w1 w2)
    (hown : w3.ownsRow B 49 4 (.slice (some ⟨g, 0, none⟩) (F.length + 1) cap) (F.length + 1) (xs ++ [.int .i64 k, .int .i64 n, .string t, u])) (hgrow : w2.grownBy w3 v.ownBlock) (hat : v.ownBlock = some g ∨ g = w2.heap.size) :
    GrowV w3 B (.slice (some ⟨g, 0, none⟩) (F.length + 1) cap) (F.snoc k n t ar) (bs ++ c) (xs ++ [.int .i64 k, .int .i64 n, .string t, u]) := by
  have s1 := h1.size
  have s2 := h2.size
  have s3 := hgrow.size
  have hvb : ∀ b, v.ownBlock = some b → b < w.heap.size := fun b hb => by
    rcases h.owns.2 with ⟨e, _⟩ | ⟨g', cap', cur, rfl, _, hg', _⟩
    · subst e; cases hb
    · cases hb; exact (Array.getElem?_eq_some_iff.1 hg').1
  have kb : ∀ b ∈ bs, w3.heap[b]? = w.heap[b]? := fun b hm => by
    have hn := h.near b hm
    rw [hgrow.block b (by omega) (fun e => hn.2.2 e.symm), h2.block b (by omega), h1.block b hn.2.1]
  have kc : ∀ b ∈ c, w3.heap[b]? = w1.heap[b]? := fun b hm => by
    have hn := hc b hm
    rw [hgrow.block b (by omega) (fun e => by have := hvb b e.symm; omega), h2.block b hn.2]
  refine ⟨?_, RowV.snoc (ho.keep kc) F xs bs (h.row.keep F xs bs kb), List.nodup_append.2 ⟨h.nodup, hnd, fun b hb1 b' hb2 e => ?_⟩, fun b hm => ?_⟩
  · rw [Trees.snoc_length]; exact hown
  · have := (h.near b hb1).2.1
    have := (hc b' hb2).1
    omega
  · rcases List.mem_append.1 hm with hm | hm
    · have hn := h.near b hm
      refine ⟨hn.1, by omega, fun e => ?_⟩
      have e : g = b := Option.some.inj e
      subst e
      rcases hat with ha | ha
      · exact hn.2.2 ha
      · omega
    · have hn := hc b hm
      refine ⟨by omega, by omega, fun e => ?_⟩
      have e : g = b := Option.some.inj e
      subst e
      rcases hat with ha | ha
      · have := hvb g ha; omega
      · omega
end Go.Proofs.YtdifefgigcjgeaaGreatDoor.Pt
end
