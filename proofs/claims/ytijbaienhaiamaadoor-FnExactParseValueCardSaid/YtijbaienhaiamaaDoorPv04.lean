/- What is proved here: a piece of the proof of YtijbaienhaiamaaDoorExactParseValue (VaGram, VaSteps, TreeOwn, Results, ItoaLaid). Condition: none beyond what each part says. -/
import Derived.Test.YtijbaienhaiamaaDoorPv01
import Derived.Test.YtijbaienhaiamaaDoorPv02
import Derived.Test.YtijbaienhaiamaaDoorPv03
import Derived.Laws.Rows
import Derived.Test.YtijbaienhaiamaaDoorProg
import Derived.WalkKit
import Derived.ProofKit
import Derived.Lib.Walk
import Derived.Lib.AppendIntMem
import Derived.Lib.SmallJoins

/- What is proved here: the grammar of values: which value a text begins with (pure). N: a bound on the nodes; D: on the depth of what is read. No condition. -/
section
namespace Go.Proofs.YtijbaienhaiamaaDoor.Va
open Go.RowKit

/-- One of the three forms; l nodes are below. -/
noncomputable def valForm (k n : Int) (t : ByteArray) (l : Nat) : Bool :=
  if k = 1 then inInt n && (bl (t.size = 0) && bl (l = 0))
  else if k = 2 then (n == 0) && (bl (ValidText t) && bl (l = 0))
  else if k = 3 then (n == 0) && bl (Word 65 90 t)
  else false
noncomputable def formedV : Trees → Bool
  | .nil => true
  | .cons k n t ar r => valForm k n t ar.length && (formedV ar && formedV r)
theorem valForm_iff (k n : Int) (t : ByteArray) (l : Nat) : valForm k n t l = true ↔ (k = 1 ∧ inInt n = true ∧ t.size = 0 ∧ l = 0) ∨ (k = 2 ∧ n = 0 ∧ ValidText t ∧ l = 0) ∨ (k = 3 ∧ n = 0 ∧ Word 65 90 t) := by
  unfold valForm
  by_cases h1 : k = 1
  · subst h1; simp [bl_iff]
  · rw [if_neg h1]
    by_cases h2 : k = 2
    · subst h2; simp [bl_iff]
    · rw [if_neg h2]
      by_cases h3 : k = 3
      · subst h3; simp [bl_iff]
      · rw [if_neg h3]; simp [h1, h2, h3]
def text (q : PatD) : List UInt8 := nodeText q.k q.n q.t q.F
def good (q : PatD) : Prop := valForm q.k q.n q.t q.F.length = true ∧ formedV q.F = true
/-- What may stand behind a value. -/
def Ends (s : List UInt8) : Prop := s = [] ∨ ∃ r, s = 44 :: r ∨ s = 41 :: r
def Fits (N D m d : Nat) (q : PatD) : Prop := m + (1 + q.F.count) ≤ N ∧ d + q.F.deep ≤ D
def NoneP (N : Nat) (s : List UInt8) (m d : Nat) : Prop := ∀ q s2, good q → s = text q ++ s2 → Ends s2 → ¬ Fits N 12 m d q
structure OkP (N D : Nat) (s : List UInt8) (m d : Nat) (p : PatD) (s' : List UInt8) (m' : Nat) : Prop where
  good : good p
  text : s = text p ++ s'
  nodes : m' = m + (1 + p.F.count)
  fits : Fits N D m d p
  uniq : ∀ q s2, Va.good q → s = Va.text q ++ s2 → Ends s2 → Fits N 12 m d q → q = p ∧ s2 = s'

theorem good_cases (q : PatD) (h : good q) : (∃ n, q = leaf 1 n ⟨#[]⟩ ∧ inInt n = true) ∨ (∃ t, q = leaf 2 0 t ∧ ValidText t) ∨ (∃ t F, q = ⟨3, 0, t, F⟩ ∧ Word 65 90 t ∧ formedV F = true) := by
  obtain ⟨k, n, t, F⟩ := q
  obtain ⟨h1, h2⟩ := h
  change formedV F = true at h2
  rcases (valForm_iff k n t F.length).1 h1 with ⟨rfl, hi, ht, hl⟩ | ⟨rfl, rfl, hv, hl⟩ | ⟨rfl, rfl, hw⟩
  · left; exact ⟨n, by rw [empty_of' ht, nil_of_len hl]; rfl, hi⟩
  · right; left; exact ⟨t, by rw [nil_of_len hl]; rfl, hv⟩
  · right; right; exact ⟨t, F, rfl, hw, h2⟩
theorem good_leaf {k n : Int} {t : ByteArray} (h : valForm k n t 0 = true) : good (leaf k n t) := ⟨h, rfl⟩
theorem good_one {a : PatD} {r : Trees} (ha : good a) (hr : formedV r = true) : formedV (a.one r) = true := by
  show (valForm a.k a.n a.t a.F.length && (formedV a.F && formedV r)) = true
  rw [ha.1, ha.2, hr]
  rfl
theorem good_int {n : Int} (hi : inInt n = true) : good (leaf 1 n ⟨#[]⟩) := good_leaf ((valForm_iff _ _ _ _).2 (.inl ⟨rfl, hi, rfl, rfl⟩))
theorem good_txt {t : ByteArray} (hv : ValidText t) : good (leaf 2 0 t) := good_leaf ((valForm_iff _ _ _ _).2 (.inr (.inl ⟨rfl, rfl, hv, rfl⟩)))
theorem good_con {t : ByteArray} {F : Trees} (hw : Word 65 90 t) (hF : formedV F = true) : good ⟨3, 0, t, F⟩ := ⟨(valForm_iff _ _ _ _).2 (.inr (.inr ⟨rfl, rfl, hw⟩)), hF⟩
theorem text_int (n : Int) : text (leaf 1 n ⟨#[]⟩) = Lib.itoa n := by simp [text, leaf, nodeText, headText]
theorem text_str (t : ByteArray) : text (leaf 2 0 t) = 34 :: (t.data.toList ++ [34]) := by simp [text, leaf, nodeText, headText]
theorem text_con0 (t : ByteArray) : text ⟨3, 0, t, .nil⟩ = t.data.toList := by simp [text, nodeText, headText, Trees.tail, Trees.close]
theorem close_ne (F : Trees) (h : F ≠ .nil) : F.close = [41] := by
  cases F with
  | nil => exact absurd rfl h
  | cons _ _ _ _ _ => rfl
theorem text_con (t : ByteArray) (F : Trees) (h : F ≠ .nil) : text ⟨3, 0, t, F⟩ = t.data.toList ++ 40 :: (F.first ++ [41]) := by
  show nodeText 3 0 t F = _
  unfold nodeText headText
  rw [tail_first F true h, close_ne F h]
  simp
theorem first_one (q : PatD) : (q.one .nil).first = text q := by simp [PatD.one, Trees.first, Trees.tail, text]
theorem first_more (q : PatD) (R : Trees) (h : R ≠ .nil) : (q.one R).first = text q ++ (44 :: 32 :: R.first) := by
  show nodeText q.k q.n q.t q.F ++ R.tail false = _
  rw [tail_first R false h]
  simp [text]
theorem ends_close (r : List UInt8) : Ends (41 :: r) := .inr ⟨r, .inr rfl⟩
theorem ends_comma (r : List UInt8) : Ends (44 :: r) := .inr ⟨r, .inl rfl⟩
/-- What may stand behind a word. -/
def EndsW (s : List UInt8) : Prop := s = [] ∨ ∃ r, s = 44 :: r ∨ s = 41 :: r ∨ s = 40 :: r
theorem endsW_of {s : List UInt8} (h : Ends s) : EndsW s := by
  rcases h with h | ⟨r, h | h⟩
  · exact .inl h
  · exact .inr ⟨r, .inl h⟩
  · exact .inr ⟨r, .inr (.inl h)⟩
/-- A word that stands at the start. -/
structure AtWord (s wd r : List UInt8) : Prop where
  eq : s = wd ++ r
  word : ∀ x y, ((∃ n, x = Lib.itoa n) ∨ ∃ t : ByteArray, Word 65 90 t ∧ x = t.data.toList) → EndsW y → s = x ++ y → wd = x
  n34 : ∀ x, s ≠ 34 :: x
theorem AtWord.cases {s wd r : List UInt8} (h : AtWord s wd r) (q : PatD) (hq : good q) (s2 : List UInt8) (hs : s = text q ++ s2) (he : Ends s2) :
    (∃ n, q = leaf 1 n ⟨#[]⟩ ∧ inInt n = true ∧ wd = Lib.itoa n ∧ r = s2) ∨ (∃ t, q = ⟨3, 0, t, .nil⟩ ∧ Word 65 90 t ∧ wd = t.data.toList ∧ r = s2) ∨ (∃ t F, q = ⟨3, 0, t, F⟩ ∧ F ≠ .nil ∧ formedV F = true ∧ Word 65 90 t ∧ wd = t.data.toList ∧ r = 40 :: (F.first ++ 41 :: s2)) := by
  have fin : ∀ x y, ((∃ n, x = Lib.itoa n) ∨ ∃ t : ByteArray, Word 65 90 t ∧ x = t.data.toList) → EndsW y → s = x ++ y → wd = x ∧ r = y := fun x y hx hy e => by
    have e1 := h.word x y hx hy e
    subst e1
    exact ⟨rfl, List.append_cancel_left (h.eq.symm.trans e)⟩
  rcases good_cases q hq with ⟨n, rfl, hi⟩ | ⟨t, rfl, hv⟩ | ⟨t, F, rfl, hw, hF⟩
  · rw [text_int] at hs
    obtain ⟨e1, e2⟩ := fin _ _ (.inl ⟨n, rfl⟩) (endsW_of he) hs
    exact .inl ⟨n, rfl, hi, e1, e2⟩
  · rw [text_str] at hs
    exact absurd hs (h.n34 _)
  · by_cases h0 : F = .nil
    · subst h0
      rw [text_con0] at hs
      obtain ⟨e1, e2⟩ := fin _ _ (.inr ⟨t, hw, rfl⟩) (endsW_of he) hs
      exact .inr (.inl ⟨t, rfl, hw, e1, e2⟩)
    · rw [text_con t F h0] at hs
      obtain ⟨e1, e2⟩ := fin _ (40 :: (F.first ++ 41 :: s2)) (.inr ⟨t, hw, rfl⟩) (.inr ⟨_, .inr (.inr rfl)⟩) (by rw [hs]; simp)
      exact .inr (.inr ⟨t, F, rfl, h0, hF, hw, e1, e2⟩)
theorem data_inj {t u : ByteArray} (h : t.data.toList = u.data.toList) : t = u := by
  rw [← str_data t, ← str_data u, h]
theorem con_no_int {t : ByteArray} (hw : Word 65 90 t) (n : Int) : t.data.toList ≠ Lib.itoa n := fun h => by
  obtain ⟨c, r, e, h1, h2⟩ := word_head hw
  obtain ⟨c', r', e', h1', _⟩ := itoa_head n
  rw [e, e'] at h
  injection h with h3 _
  subst h3
  rcases h1' with h | h
  · rw [h] at h1; exact absurd h1 (by decide)
  · omega
theorem itoa_inj {a b : Int} (ha : inInt a = true) (hb : inInt b = true) (h : Lib.itoa a = Lib.itoa b) : a = b := by
  unfold inInt at ha hb
  simp only [Bool.and_eq_true, decide_eq_true_eq] at ha hb
  have h1 := atoi_itoa a (by omega) (by omega)
  have h2 := atoi_itoa b (by omega) (by omega)
  rw [h] at h1
  have := h1.symm.trans h2
  injection this
theorem int_ok {N D : Nat} {s wd r : List UInt8} {m d : Nat} {n : Int} (h : AtWord s wd r) (hm : m + 1 ≤ N) (hd : d ≤ D) (hi : inInt n = true) (hw : Lib.itoa n = wd) : OkP N D s m d (leaf 1 n ⟨#[]⟩) r (m + 1) := by
  refine ⟨good_int hi, by rw [text_int, hw]; exact h.eq, rfl, ⟨hm, hd⟩, fun q s2 hq hs he hf => ?_⟩
  rcases h.cases q hq s2 hs he with ⟨n', rfl, hi', e, hr⟩ | ⟨t, rfl, hw', e, hr⟩ | ⟨t, F, rfl, _, _, hw', e, hr⟩
  · rw [itoa_inj hi' hi (e.symm.trans hw.symm)]; exact ⟨rfl, hr.symm⟩
  · exact absurd (e.symm.trans hw.symm) (con_no_int hw' n)
  · exact absurd (e.symm.trans hw.symm) (con_no_int hw' n)
/-- A word that is none. -/
theorem word_none {N : Nat} {s wd r : List UInt8} {m d : Nat} (h : AtWord s wd r) (h3 : ¬ Word 65 90 (str wd)) (h4 : ∀ n, inInt n = true → Lib.itoa n ≠ wd) : NoneP N s m d := fun q s2 hq hs he hf => by
  rcases h.cases q hq s2 hs he with ⟨n', rfl, hi', e, hr⟩ | ⟨t, rfl, hw', e, hr⟩ | ⟨t, F, rfl, _, _, hw', e, hr⟩
  · exact h4 n' hi' e.symm
  · rw [e, str_data] at h3; exact h3 hw'
  · rw [e, str_data] at h3; exact h3 hw'
theorem none_begin {N : Nat} {s : List UInt8} {m d : Nat} (h : ¬ (m + 1 ≤ N ∧ d ≤ 12)) : NoneP N s m d := fun q s2 _ _ _ hf => by
  obtain ⟨h1, h2⟩ := hf
  exact h ⟨by omega, by omega⟩
/-! A text. -/
theorem first_34 (q : PatD) (hq : good q) (s2 r : List UInt8) (h : text q ++ s2 = 34 :: r) : ∃ t, q = leaf 2 0 t ∧ ValidText t ∧ r = t.data.toList ++ 34 :: s2 := by
  rcases good_cases q hq with ⟨n, rfl, hi⟩ | ⟨t, rfl, hv⟩ | ⟨t, F, rfl, hw, hF⟩
  · obtain ⟨c, r', e, h1, _⟩ := itoa_head n
    rw [text_int, e] at h; injection h with h3 _; subst h3; exact absurd h1 (by decide)
  · rw [text_str] at h
    injection h with _ h3
    exact ⟨t, rfl, hv, by rw [← h3]; simp⟩
  · obtain ⟨c, r', e, h1, h2⟩ := word_head hw
    by_cases h0 : F = .nil
    · subst h0; rw [text_con0, e] at h; injection h with h3 _; subst h3; exact absurd h1 (by decide)
    · rw [text_con t F h0, e] at h; injection h with h3 _; subst h3; exact absurd h1 (by decide)
theorem valid_no34 {t : ByteArray} (h : ValidText t) : ∀ c ∈ t.data.toList, c ≠ 34 := by
  intro c hc e
  obtain ⟨j, hj, rfl⟩ := List.mem_iff_getElem.1 hc
  have := h.2 j hj
  unfold OkByte at this
  have e2 : (t.data.toList[j] : UInt8) = t[j]'hj := rfl
  rw [e2] at e
  rw [e] at this
  exact this.2.2 rfl
theorem quoted_eq {t : ByteArray} (h : ValidText t) (s2 : List UInt8) : quoted (t.data.toList ++ 34 :: s2) = some (t.data.toList, s2) := by
  unfold quoted
  rw [splitQ_eq _ _ (valid_no34 h)]
  simp only [Option.bind_some]
  rw [str_data, if_pos (bl_true h)]
theorem quoted_ok {r a b : List UInt8} (h : quoted r = some (a, b)) : r = a ++ 34 :: b ∧ ValidText (str a) := by
  unfold quoted at h
  obtain ⟨p, h1, h2⟩ := Option.bind_eq_some_iff.1 h
  split at h2
  · rename_i hb
    cases h2
    exact ⟨(splitQ_some h1).1, bl_iff.1 hb⟩
  · cases h2
theorem text_step_ok {N D : Nat} {r a b : List UInt8} {m d : Nat} (hm : m + 1 ≤ N) (hd : d ≤ D) (h : quoted r = some (a, b)) : OkP N D (34 :: r) m d (leaf 2 0 (str a)) b (m + 1) := by
  obtain ⟨h1, h2⟩ := quoted_ok h
  refine ⟨good_txt h2, ?_, rfl, ⟨hm, hd⟩, fun q s2 hq hs he hf => ?_⟩
  · rw [text_str, h1]; simp [str]
  · obtain ⟨t, rfl, hv, hr⟩ := first_34 q hq s2 r hs.symm
    rw [hr, quoted_eq hv] at h
    cases h
    exact ⟨by rw [str_data], rfl⟩
theorem text_step_none {N : Nat} {r : List UInt8} {m d : Nat} (h : quoted r = none) : NoneP N (34 :: r) m d := fun q s2 hq hs he hf => by
  obtain ⟨t, rfl, hv, hr⟩ := first_34 q hq s2 r hs.symm
  rw [hr, quoted_eq hv] at h
  cases h
/-! A constructor. -/
theorem AtWord.con {s r : List UInt8} {t : ByteArray} (h : AtWord s t.data.toList r) (hw : Word 65 90 t) (q : PatD) (hq : good q) (s2 : List UInt8) (hs : s = text q ++ s2) (he : Ends s2) :
    (q = ⟨3, 0, t, .nil⟩ ∧ r = s2) ∨ ∃ F, q = ⟨3, 0, t, F⟩ ∧ F ≠ .nil ∧ formedV F = true ∧ r = 40 :: (F.first ++ 41 :: s2) := by
  rcases h.cases q hq s2 hs he with ⟨n', rfl, hi', e, hr⟩ | ⟨u, rfl, hw', e, hr⟩ | ⟨u, F, rfl, hn, hF, hw', e, hr⟩
  · exact absurd e (con_no_int hw n')
  · rw [data_inj e]; exact .inl ⟨rfl, hr⟩
  · rw [data_inj e]; exact .inr ⟨F, rfl, hn, hF, hr⟩
theorem no_open {r1 s2 : List UInt8} (h : 40 :: r1 = s2) (he : Ends s2) : False := by
  rcases he with e | ⟨r, e | e⟩
  · rw [e] at h; cases h
  · rw [e] at h; injection h with h _; exact absurd h (by decide)
  · rw [e] at h; injection h with h _; exact absurd h (by decide)
theorem con0_ok {N D : Nat} {s r : List UInt8} {t : ByteArray} {m d : Nat} (h : AtWord s t.data.toList r) (hw : Word 65 90 t) (hm : m + 1 ≤ N) (hd : d ≤ D) (hr0 : ∀ x, r ≠ 40 :: x) : OkP N D s m d ⟨3, 0, t, .nil⟩ r (m + 1) := by
  refine ⟨good_con hw rfl, by rw [text_con0]; exact h.eq, rfl, ⟨hm, hd⟩, fun q s2 hq hs he hf => ?_⟩
  rcases h.con hw q hq s2 hs he with ⟨rfl, hr⟩ | ⟨F, rfl, _, _, hr⟩
  · exact ⟨rfl, hr.symm⟩
  · exact absurd hr (hr0 _)
end Go.Proofs.YtijbaienhaiamaaDoor.Va
end

/- What is proved here: how a constructor's arguments are read, step by step (pure). No condition. -/
section
namespace Go.Proofs.YtijbaienhaiamaaDoor.Va
open Go.RowKit

/-! Its arguments, behind the parenthesis: s; d: the constructor's depth; m: the nodes begun. -/
structure ArgsOk (N D : Nat) (s : List UInt8) (m d : Nat) (G : Trees) (s' : List UInt8) (m' : Nat) : Prop where
  ne : G ≠ .nil
  good : formedV G = true
  text : s = G.first ++ 41 :: s'
  nodes : m' = m + G.count
  fits : m + G.count ≤ N ∧ d + G.deep ≤ D
  uniq : ∀ (H : Trees) (s2 : List UInt8), H ≠ .nil → formedV H = true → s = H.first ++ 41 :: s2 → m + H.count ≤ N → d + H.deep ≤ 12 → H = G ∧ s2 = s'
def ArgsNone (N : Nat) (s : List UInt8) (m d : Nat) : Prop := ∀ (H : Trees) (s2 : List UInt8), H ≠ .nil → formedV H = true → s = H.first ++ 41 :: s2 → m + H.count ≤ N → ¬ d + H.deep ≤ 12
theorem con_none {N : Nat} {s r1 : List UInt8} {t : ByteArray} {m d : Nat} (h : AtWord s t.data.toList (40 :: r1)) (hw : Word 65 90 t) (hn : ArgsNone N r1 (m + 1) d) : NoneP N s m d := fun q s2 hq hs he hf => by
  rcases h.con hw q hq s2 hs he with ⟨rfl, hr⟩ | ⟨F, rfl, h1, h2, hr⟩
  · exact no_open hr he
  · injection hr with _ hr
    exact hn F s2 h1 h2 hr (by have := hf.1; simp only at this; omega) hf.2
theorem con_ok {N D : Nat} {s r1 s' : List UInt8} {t : ByteArray} {m d m' : Nat} {G : Trees} (h : AtWord s t.data.toList (40 :: r1)) (hw : Word 65 90 t) (k : ArgsOk N D r1 (m + 1) d G s' m') : OkP N D s m d ⟨3, 0, t, G⟩ s' m' := by
  have k1 := k.nodes
  have k2 := k.fits
  refine ⟨good_con hw k.good, ?_, by simp only; omega, ⟨by simp only; omega, k2.2⟩, fun q s2 hq hs he hf => ?_⟩
  · rw [text_con t G k.ne, h.eq, k.text]; simp
  · rcases h.con hw q hq s2 hs he with ⟨rfl, hr⟩ | ⟨F, rfl, h1, h2, hr⟩
    · exact (no_open hr he).elim
    · injection hr with _ hr
      obtain ⟨rfl, e⟩ := k.uniq F s2 h1 h2 hr (by have := hf.1; simp only at this; omega) hf.2
      exact ⟨rfl, e⟩
/-- Some arguments are read, each with the comma behind it. -/
structure ArgsIn (N D : Nat) (s : List UInt8) (m d : Nat) (A : Trees) (s1 : List UInt8) (m1 : Nat) : Prop where
  good : formedV A = true
  nodes : m1 = m + A.count
  deep : d + A.deep ≤ D
  text : ∀ R, R ≠ Trees.nil → ∀ x, s1 = R.first ++ x → s = (A.append R).first ++ x
  uniq : ∀ (H : Trees) (s2 : List UInt8), H ≠ .nil → formedV H = true → s = H.first ++ 41 :: s2 → m + H.count ≤ N → d + H.deep ≤ 12 → ∃ R, R ≠ .nil ∧ H = A.append R ∧ formedV R = true ∧ s1 = R.first ++ 41 :: s2 ∧ m1 + R.count ≤ N ∧ d + R.deep ≤ 12
theorem ArgsIn.start (N D : Nat) (s : List UInt8) (m d : Nat) (hd : d ≤ D) : ArgsIn N D s m d .nil s m :=
  ⟨rfl, rfl, hd, fun _ _ _ h => h, fun H _ h1 h2 h3 h4 h5 => ⟨H, h1, rfl, h2, h3, h4, h5⟩⟩
theorem append_formed (A B : Trees) : formedV (A.append B) = (formedV A && formedV B) := by
  induction A with
  | nil => rfl
  | cons k n t ar r _ ih => simp only [Trees.append, formedV, ih, Bool.and_assoc]
theorem append_deep (A B : Trees) : (A.append B).deep = max A.deep B.deep := by
  induction A with
  | nil => simp [Trees.append, Trees.deep]
  | cons k n t ar r _ ih => simp only [Trees.append, Trees.deep, ih]; omega
theorem row_cases (R : Trees) (h : R ≠ .nil) (hf : formedV R = true) : ∃ (q : PatD) (R' : Trees), R = q.one R' ∧ Va.good q ∧ formedV R' = true := by
  cases R with
  | nil => exact absurd rfl h
  | cons k n t ar r =>
    simp only [formedV, Bool.and_eq_true] at hf
    exact ⟨⟨k, n, t, ar⟩, r, rfl, ⟨hf.1, hf.2.1⟩, hf.2.2⟩
theorem join_one (q : PatD) : (q.one .nil).first = text q := first_one q
theorem join_more (q : PatD) (R : Trees) (h : R ≠ .nil) : (q.one R).first = text q ++ (44 :: 32 :: R.first) := first_more q R h
/-- What the next argument must be. -/
theorem ArgsIn.next {N D : Nat} {s s1 : List UInt8} {m d m1 : Nat} {A : Trees} (h : ArgsIn N D s m d A s1 m1) {H : Trees} {s2 : List UInt8} (a1 : H ≠ .nil) (a2 : formedV H = true) (a3 : s = H.first ++ 41 :: s2) (a4 : m + H.count ≤ N) (a5 : d + H.deep ≤ 12) :
    ∃ (q : PatD) (R : Trees), H = A.append (q.one R) ∧ Va.good q ∧ formedV R = true ∧ Fits N 12 m1 (d + 1) q ∧ m1 + (1 + q.F.count) + R.count ≤ N ∧ d + R.deep ≤ 12 ∧ ∃ x, s1 = Va.text q ++ x ∧ Ends x ∧ ((R = .nil ∧ x = 41 :: s2) ∨ (R ≠ .nil ∧ x = 44 :: 32 :: (R.first ++ 41 :: s2))) := by
  obtain ⟨R0, b1, b2, b3, b4, b5, b6⟩ := h.uniq H s2 a1 a2 a3 a4 a5
  obtain ⟨q, R, rfl, hq, hR⟩ := row_cases R0 b1 b3
  simp only [PatD.one, Trees.count, Trees.deep] at b5 b6
  refine ⟨q, R, b2, hq, hR, ⟨by omega, by omega⟩, by omega, by omega, ?_⟩
  by_cases h0 : R = .nil
  · subst h0
    rw [join_one] at b4
    exact ⟨_, b4, ends_close _, .inl ⟨rfl, rfl⟩⟩
  · rw [join_more q R h0] at b4
    exact ⟨_, by rw [b4]; simp, ends_comma _, .inr ⟨h0, rfl⟩⟩
theorem args_none1 {N D : Nat} {s s1 : List UInt8} {m d m1 : Nat} {A : Trees} (h : ArgsIn N D s m d A s1 m1) (hn : NoneP N s1 m1 (d + 1)) : ArgsNone N s m d := fun H s2 a1 a2 a3 a4 a5 => by
  obtain ⟨q, R, _, hq, _, hf, _, _, x, hx, he, _⟩ := h.next a1 a2 a3 a4 a5
  exact hn q x hq hx he hf
theorem args_none2 {N D : Nat} {s s1 s3 : List UInt8} {m d m1 m3 : Nat} {A : Trees} {p : PatD} (h : ArgsIn N D s m d A s1 m1) (k : OkP N D s1 m1 (d + 1) p s3 m3) (h1 : ∀ r, s3 ≠ 41 :: r) (h2 : ∀ r, s3 ≠ 44 :: 32 :: r) : ArgsNone N s m d := fun H s2 a1 a2 a3 a4 a5 => by
  obtain ⟨q, R, _, hq, _, hf, _, _, x, hx, he, hc⟩ := h.next a1 a2 a3 a4 a5
  obtain ⟨_, e⟩ := k.uniq q x hq hx he hf
  rcases hc with ⟨_, hc⟩ | ⟨_, hc⟩
  · exact h1 _ (e.symm.trans hc)
  · exact h2 _ (e.symm.trans hc)
def _root_.Go.Proofs.YtijbaienhaiamaaDoor.Trees.add (A : Trees) (p : PatD) : Trees := A.snoc p.k p.n p.t p.F
theorem add_append (A R : Trees) (p : PatD) : (A.add p).append R = A.append (p.one R) := Trees.snoc_append _ _ _ _ _ _
theorem add_formed {A : Trees} {p : PatD} (hA : formedV A = true) (hp : good p) : formedV (A.add p) = true := by
  have e : A.add p = A.append (p.one .nil) := rfl
  rw [e, append_formed, hA, good_one hp rfl]
  rfl
theorem add_count (A : Trees) (p : PatD) : (A.add p).count = A.count + (1 + p.F.count) := by
  have e : A.add p = A.append (p.one .nil) := rfl
  rw [e, Trees.append_count]
  simp [PatD.one, Trees.count]
theorem add_deep (A : Trees) (p : PatD) : (A.add p).deep = max A.deep (p.F.deep + 1) := by
  have e : A.add p = A.append (p.one .nil) := rfl
  rw [e, append_deep]
  simp [PatD.one, Trees.deep]
theorem args_ok {N D : Nat} {s s1 s' : List UInt8} {m d m1 m3 : Nat} {A : Trees} {p : PatD} (h : ArgsIn N D s m d A s1 m1) (k : OkP N D s1 m1 (d + 1) p (41 :: s') m3) : ArgsOk N D s m d (A.add p) s' m3 := by
  have h1 := h.nodes
  have h2 := h.deep
  have k1 := k.nodes
  have k2 := k.fits
  unfold Fits at k2
  refine ⟨fun e => ?_, add_formed h.good k.good, ?_, by rw [add_count]; omega, ⟨by rw [add_count]; omega, by rw [add_deep]; omega⟩, fun H s2 a1 a2 a3 a4 a5 => ?_⟩
  · have := congrArg Trees.count e
    rw [add_count] at this
    simp [Trees.count] at this
  · exact h.text (p.one .nil) (by simp [PatD.one]) (41 :: s') (by rw [join_one]; exact k.text)
  · obtain ⟨q, R, rfl, hq, _, hf, _, _, x, hx, he, hc⟩ := h.next a1 a2 a3 a4 a5
    obtain ⟨rfl, e⟩ := k.uniq q x hq hx he hf
    rcases hc with ⟨rfl, hc⟩ | ⟨_, hc⟩
    · rw [e] at hc
      injection hc with _ hc
      exact ⟨rfl, hc.symm⟩
    · rw [e] at hc
      injection hc with hc _
      exact absurd hc (by decide)
theorem args_more {N D : Nat} {s s1 s' : List UInt8} {m d m1 m3 : Nat} {A : Trees} {p : PatD} (h : ArgsIn N D s m d A s1 m1) (k : OkP N D s1 m1 (d + 1) p (44 :: 32 :: s') m3) : ArgsIn N D s m d (A.add p) s' m3 := by
  have h1 := h.nodes
  have h2 := h.deep
  have k1 := k.nodes
  have k2 := k.fits
  unfold Fits at k2
  refine ⟨add_formed h.good k.good, by rw [add_count]; omega, by rw [add_deep]; omega, fun R hR x hx => ?_, fun H s2 a1 a2 a3 a4 a5 => ?_⟩
  · rw [add_append]
    refine h.text (p.one R) (by simp [PatD.one]) x ?_
    rw [join_more p R hR, k.text, hx]
    try simp
  · obtain ⟨q, R, rfl, hq, hR, hf, hc1, hc2, x, hx, he, hc⟩ := h.next a1 a2 a3 a4 a5
    obtain ⟨rfl, e⟩ := k.uniq q x hq hx he hf
    rcases hc with ⟨rfl, hc⟩ | ⟨hn, hc⟩
    · rw [e] at hc
      injection hc with hc _
      exact absurd hc (by decide)
    · rw [e] at hc
      injection hc with _ hc
      injection hc with _ hc
      exact ⟨R, hn, (add_append _ _ _).symm, hR, hc, by omega, hc2⟩
end Go.Proofs.YtijbaienhaiamaaDoor.Va
end

/- What is proved here: rows of nodes in memory of the call's own: the blocks that they lie in, no two parts in one; read, kept, split, filled. No condition. -/
section
namespace Go.Proofs.YtijbaienhaiamaaDoor
open Go.RowKit

/-- Block b holds cells of nodes, none frozen. -/
def NodeBlock (w : World) (b : Nat) : Prop := ∃ cs, w.heap[b]? = some (.cells cs 24 (0, 0))
/-- The row in block g from its i-th node on; bs: the blocks of what is below its nodes. -/
def RowIn (w : World) : Trees → Nat → Nat → List Nat → Prop
  | .nil, _, _, bs => bs = []
  | .cons k n t ar r, g, i, bs => ∃ v b1 b2, bs = b1 ++ b2 ∧ w.cell? ⟨g, i * 4, none⟩ = some (.int .i64 k) ∧ w.cell? ⟨g, i * 4 + 1, none⟩ = some (.int .i64 n) ∧ w.cell? ⟨g, i * 4 + 2, none⟩ = some (.string t) ∧ w.cell? ⟨g, i * 4 + 3, none⟩ = some v ∧
      ((∃ a cap, v = .slice a 0 cap ∧ ar = .nil ∧ b1 = []) ∨ ∃ g' cap b', v = .slice (some ⟨g', 0, none⟩) ar.length cap ∧ ar.length ≤ cap ∧ b1 = g' :: b' ∧ NodeBlock w g' ∧ RowIn w ar g' 0 b') ∧ RowIn w r g (i + 1) b2
/-- v is a slice that reads as the row F, in the blocks bs. -/
def OwnV (w : World) (v : Value) (F : Trees) (bs : List Nat) : Prop :=
  (∃ a cap, v = .slice a 0 cap ∧ F = .nil ∧ bs = []) ∨ ∃ g cap b', v = .slice (some ⟨g, 0, none⟩) F.length cap ∧ F.length ≤ cap ∧ bs = g :: b' ∧ NodeBlock w g ∧ RowIn w F g 0 b'

theorem RowIn.keep {w w' : World} : ∀ (F : Trees) (g i : Nat) (bs : List Nat), RowIn w F g i bs → (∀ o, i * 4 ≤ o → o < (i + F.length) * 4 → w'.cell? ⟨g, o, none⟩ = w.cell? ⟨g, o, none⟩) → (∀ b ∈ bs, w'.heap[b]? = w.heap[b]?) → RowIn w' F g i bs := by
  intro F
  induction F with
  | nil => intro g i bs h _ _; exact h
  | cons k n t ar r ih1 ih2 =>
    rintro g i bs ⟨v, b1, b2, rfl, h0, h1, h2, h3, ho, hr⟩ hc hb
    simp only [Trees.length] at hc
    refine ⟨v, b1, b2, rfl, ?_, ?_, ?_, ?_, ?_, ih2 g (i + 1) b2 hr (fun o ho1 ho2 => hc o (by omega) (by omega)) (fun b hbm => hb b (List.mem_append_right _ hbm))⟩
    · rw [hc _ (by omega) (by omega)]; exact h0
    · rw [hc _ (by omega) (by omega)]; exact h1
    · rw [hc _ (by omega) (by omega)]; exact h2
    · rw [hc _ (by omega) (by omega)]; exact h3
    · rcases ho with h | ⟨g', cap, b', e1, hl, rfl, ⟨cs, hn⟩, hrow⟩
      · exact .inl h
      · have hg : w'.heap[g']? = w.heap[g']? := hb g' (by simp)
        exact .inr ⟨g', cap, b', e1, hl, rfl, ⟨cs, hg.trans hn⟩, ih1 g' 0 b' hrow (fun o _ _ => World.cell?_of_block hg) (fun b hbm => hb b (by simp [hbm]))⟩
theorem OwnV.keep {w w' : World} {v : Value} {F : Trees} {bs : List Nat} (h : OwnV w v F bs) (hb : ∀ b ∈ bs, w'.heap[b]? = w.heap[b]?) : OwnV w' v F bs := by
  rcases h with h | ⟨g, cap, b', e1, hl, rfl, ⟨cs, hn⟩, hrow⟩
  · exact .inl h
  · have hg : w'.heap[g]? = w.heap[g]? := hb g (by simp)
    exact .inr ⟨g, cap, b', e1, hl, rfl, ⟨cs, hg.trans hn⟩, hrow.keep F g 0 b' (fun o _ _ => World.cell?_of_block hg) (fun b hbm => hb b (by simp [hbm]))⟩
theorem NodeBlock.lt {w : World} {b : Nat} (h : NodeBlock w b) : b < w.heap.size := by
  obtain ⟨cs, h⟩ := h
  exact (Array.getElem?_eq_some_iff.1 h).1
theorem NodeBlock.free {w : World} {b : Nat} (h : NodeBlock w b) (o : Nat) : w.frozen? ⟨b, o, none⟩ = false := by
  obtain ⟨cs, h⟩ := h
  simp [World.frozen?, h]
theorem RowIn.blocks {w : World} : ∀ (F : Trees) (g i : Nat) (bs : List Nat), RowIn w F g i bs → ∀ b ∈ bs, NodeBlock w b := by
  intro F
  induction F with
  | nil => rintro g i bs rfl b hb; simp at hb
  | cons k n t ar r ih1 ih2 =>
    rintro g i bs ⟨v, b1, b2, rfl, h0, h1, h2, h3, ho, hr⟩ b hb
    rcases List.mem_append.1 hb with h | h
    · rcases ho with ⟨_, _, _, _, rfl⟩ | ⟨g', cap, b', e1, _, rfl, hn, hrow⟩
      · simp at h
      · rcases List.mem_cons.1 h with rfl | h
        · exact hn
        · exact ih1 g' 0 b' hrow b h
    · exact ih2 g (i + 1) b2 hr b h
theorem OwnV.blocks {w : World} {v : Value} {F : Trees} {bs : List Nat} (h : OwnV w v F bs) : ∀ b ∈ bs, NodeBlock w b := by
  intro b hb
  rcases h with ⟨_, _, _, _, rfl⟩ | ⟨g, cap, b', e1, _, rfl, hn, hrow⟩
  · simp at hb
  · rcases List.mem_cons.1 hb with rfl | h
    · exact hn
    · exact hrow.blocks F g 0 b' b h
theorem RowIn.append {w : World} : ∀ (A B : Trees) (g i : Nat) (bs : List Nat), RowIn w (A.append B) g i bs ↔ ∃ b1 b2, bs = b1 ++ b2 ∧ RowIn w A g i b1 ∧ RowIn w B g (i + A.length) b2 := by
  intro A
  induction A with
  | nil =>
    intro B g i bs
    constructor
    · intro h; exact ⟨[], bs, rfl, rfl, h⟩
    · rintro ⟨b1, b2, rfl, rfl, h⟩; exact h
  | cons k n t ar r ih1 ih2 =>
    intro B g i bs
    constructor
    · rintro ⟨v, b1, b2, rfl, h0, h1, h2, h3, ho, hr⟩
      obtain ⟨c1, c2, rfl, e1, e2⟩ := (ih2 B g (i + 1) b2).1 hr
      refine ⟨b1 ++ c1, c2, by simp, ⟨v, b1, c1, rfl, h0, h1, h2, h3, ho, e1⟩, ?_⟩
      rw [show i + (Trees.cons k n t ar r).length = i + 1 + r.length by simp only [Trees.length]; omega]
      exact e2
    · rintro ⟨b0, c2, rfl, ⟨v, b1, c1, rfl, h0, h1, h2, h3, ho, e1⟩, e2⟩
      refine ⟨v, b1, c1 ++ c2, by simp, h0, h1, h2, h3, ho, (ih2 B g (i + 1) _).2 ⟨c1, c2, rfl, e1, ?_⟩⟩
      rw [show i + 1 + r.length = i + (Trees.cons k n t ar r).length by simp only [Trees.length]; omega]
      exact e2
theorem own_field (g i j : Nat) : fieldAt ⟨g, 0, none⟩ i j = ⟨g, i * 4 + j, none⟩ := by
  unfold fieldAt Addr.add
  by_cases hi : i * 4 = 0
  · rw [if_pos hi, hi]
  · rw [if_neg hi]; simp
theorem own_first (g i : Nat) : (⟨g, 0, none⟩ : Addr).add (i * 4) = ⟨g, i * 4, none⟩ := by
  unfold Addr.add
  by_cases hi : i * 4 = 0
  · rw [if_pos hi, hi]
  · rw [if_neg hi]; simp
theorem RowIn.reads {w : World} : ∀ (F : Trees) (g i : Nat) (bs : List Nat), RowIn w F g i bs → TreesAt w F (some ⟨g, 0, none⟩) i := by
  intro F
  induction F with
  | nil => intro _ _ _ _; trivial
  | cons k n t ar r ih1 ih2 =>
    rintro g i bs ⟨v, b1, b2, rfl, h0, h1, h2, h3, ho, hr⟩
    refine ⟨?_, ih2 g (i + 1) b2 hr⟩
    have hv : ∃ p cap, v = .slice p ar.length cap ∧ ar.length ≤ cap ∧ TreesAt w ar p 0 := by
      rcases ho with ⟨a, cap, e1, rfl, _⟩ | ⟨g', cap, b', e1, hl, _, _, hrow⟩
      · exact ⟨a, cap, e1, Nat.zero_le _, trivial⟩
      · exact ⟨_, cap, e1, hl, ih1 g' 0 b' hrow⟩
    obtain ⟨p, cap, rfl, hl, hp⟩ := hv
    refine ⟨⟨g, 0, none⟩, p, cap, rfl, ?_, ?_, ?_, ?_, hl, hp⟩
    · rw [own_first]; exact h0
    · rw [own_field]; exact h1
    · rw [own_field]; exact h2
    · rw [own_field]; exact h3
theorem OwnV.reads {w : World} {v : Value} {F : Trees} {bs : List Nat} (h : OwnV w v F bs) : ∃ p cap, v = .slice p F.length cap ∧ F.length ≤ cap ∧ TreesAt w F p 0 := by
  rcases h with ⟨a, cap, e1, rfl, _⟩ | ⟨g, cap, b', e1, hl, _, _, hrow⟩
  · exact ⟨a, cap, e1, Nat.zero_le _, trivial⟩
  · exact ⟨_, cap, e1, hl, hrow.reads F g 0 b'⟩

/-! A node's cells, set. -/
def put4 (w : World) (g k : Nat) (u0 u1 u2 u3 : Value) : World := (((w.setCell ⟨g, k * 4, none⟩ u0).setCell ⟨g, k * 4 + 1, none⟩ u1).setCell ⟨g, k * 4 + 2, none⟩ u2).setCell ⟨g, k * 4 + 3, none⟩ u3
theorem put4_other (w : World) (g k : Nat) (u0 u1 u2 u3 : Value) (b : Nat) (h : b ≠ g) : (put4 w g k u0 u1 u2 u3).heap[b]? = w.heap[b]? := by
  unfold put4
  rw [Below.heap_setCell _ _ _ _ h, Below.heap_setCell _ _ _ _ h, Below.heap_setCell _ _ _ _ h, Below.heap_setCell _ _ _ _ h]
theorem put4_size (w : World) (g k : Nat) (u0 u1 u2 u3 : Value) : (put4 w g k u0 u1 u2 u3).heap.size = w.heap.size := by simp [put4, World.setCell]
theorem put4_below {B : Nat} {a w : World} (h : Below B a w) (g k : Nat) (u0 u1 u2 u3 : Value) (hg : B ≤ g) : Below B a (put4 w g k u0 u1 u2 u3) :=
  (((h.setCell (p := ⟨g, k * 4, none⟩) hg u0).setCell (p := ⟨g, k * 4 + 1, none⟩) hg u1).setCell (p := ⟨g, k * 4 + 2, none⟩) hg u2).setCell (p := ⟨g, k * 4 + 3, none⟩) hg u3
theorem put4_block {w : World} {g : Nat} {cs : Array Value} {T : TypeId} (h : w.heap[g]? = some (.cells cs T (0, 0))) (k : Nat) (u0 u1 u2 u3 : Value) :
    (put4 w g k u0 u1 u2 u3).heap[g]? = some (.cells ((((cs.setIfInBounds (k * 4) u0).setIfInBounds (k * 4 + 1) u1).setIfInBounds (k * 4 + 2) u2).setIfInBounds (k * 4 + 3) u3) T (0, 0)) := by
  simp [put4, World.setCell, Array.getElem?_modify, h]
/-- The cells of a node in a block of cells. -/
theorem node_cells {w : World} {g : Nat} {cs : Array Value} {T : TypeId} (h : w.heap[g]? = some (.cells cs T (0, 0))) (k n : Nat) (hs : cs.size = n * 4) (hk : k < n) :
    ∃ x0 x1 x2 x3, w.cell? ⟨g, k * 4, none⟩ = some x0 ∧ w.cell? ⟨g, k * 4 + 1, none⟩ = some x1 ∧ w.cell? ⟨g, k * 4 + 2, none⟩ = some x2 ∧ w.cell? ⟨g, k * 4 + 3, none⟩ = some x3 ∧
      w.frozen? ⟨g, k * 4, none⟩ = false ∧ w.frozen? ⟨g, k * 4 + 1, none⟩ = false ∧ w.frozen? ⟨g, k * 4 + 2, none⟩ = false ∧ w.frozen? ⟨g, k * 4 + 3, none⟩ = false := by
  have e : ∀ o, o < n * 4 → ∃ x, w.cell? ⟨g, o, none⟩ = some x := fun o ho => ⟨cs[o]'(by omega), by simp [World.cell?, h, hs, ho]⟩
  obtain ⟨x0, h0⟩ := e (k * 4) (by omega)
  obtain ⟨x1, h1⟩ := e (k * 4 + 1) (by omega)
  obtain ⟨x2, h2⟩ := e (k * 4 + 2) (by omega)
  obtain ⟨x3, h3⟩ := e (k * 4 + 3) (by omega)
  refine ⟨x0, x1, x2, x3, h0, h1, h2, h3, ?_, ?_, ?_, ?_⟩ <;> simp [World.frozen?, h]
theorem put4_cells {w : World} {g : Nat} {cs : Array Value} {T : TypeId} (h : w.heap[g]? = some (.cells cs T (0, 0))) (k n : Nat) (hs : cs.size = n * 4) (hk : k < n) (u0 u1 u2 u3 : Value) :
    (put4 w g k u0 u1 u2 u3).cell? ⟨g, k * 4, none⟩ = some u0 ∧ (put4 w g k u0 u1 u2 u3).cell? ⟨g, k * 4 + 1, none⟩ = some u1 ∧ (put4 w g k u0 u1 u2 u3).cell? ⟨g, k * 4 + 2, none⟩ = some u2 ∧ (put4 w g k u0 u1 u2 u3).cell? ⟨g, k * 4 + 3, none⟩ = some u3 ∧
      ∀ o, (o < k * 4 ∨ k * 4 + 4 ≤ o) → (put4 w g k u0 u1 u2 u3).cell? ⟨g, o, none⟩ = w.cell? ⟨g, o, none⟩ := by
  have hb := put4_block h k u0 u1 u2 u3
  have l0 : k * 4 < cs.size := by omega
  have l1 : k * 4 + 1 < cs.size := by omega
  have l2 : k * 4 + 2 < cs.size := by omega
  have l3 : k * 4 + 3 < cs.size := by omega
  refine ⟨?_, ?_, ?_, ?_, ?_⟩
  · simp [World.cell?, hb, l0]
  · simp [World.cell?, hb, l1]
  · simp [World.cell?, hb, l2]
  · simp [World.cell?, hb, l3]
  · intro o ho
    have e : ((((cs.setIfInBounds (k * 4) u0).setIfInBounds (k * 4 + 1) u1).setIfInBounds (k * 4 + 2) u2).setIfInBounds (k * 4 + 3) u3)[o]? = cs[o]? := by
      rw [Array.getElem?_setIfInBounds_ne (by omega), Array.getElem?_setIfInBounds_ne (by omega), Array.getElem?_setIfInBounds_ne (by omega), Array.getElem?_setIfInBounds_ne (by omega)]
    simp only [World.cell?, hb, h, e]

/-- A row of n that is being filled in block g, which was new in w: the first nodes are there, what is below them in blocks that came behind. -/
def FillIn (w : World) (g n : Nat) (pre : Trees) (w' : World) : Prop :=
  ∃ cs bs, w'.heap[g]? = some (.cells cs 24 (0, 0)) ∧ cs.size = n * 4 ∧ RowIn w' pre g 0 bs ∧ bs.Nodup ∧ (∀ b ∈ bs, g < b ∧ b < w'.heap.size) ∧ Below w.heap.size w w' ∧ w.heap.size ≤ g ∧ g < w'.heap.size
theorem FillIn.below {w : World} {g n : Nat} {pre : Trees} {w' : World} (h : FillIn w g n pre w') : Below w.heap.size w w' := by
  obtain ⟨_, _, _, _, _, _, _, h, _⟩ := h
  exact h
/-- What the walk needs at the store, and what is behind it. -/
theorem FillIn.step {w : World} {g n : Nat} {pre : Trees} {w' w1 : World} {k m : Int} {t : ByteArray} {ar : Trees} {v : Value} {b1 : List Nat} (h : FillIn w g n pre w') (hk : pre.length < n) (hb : Below w'.heap.size w' w1) (ho : OwnV w1 v ar b1) (hnd : b1.Nodup) (hnew : ∀ b ∈ b1, w'.heap.size ≤ b ∧ b < w1.heap.size) :
    ∃ x0 x1 x2 x3, w1.cell? ⟨g, pre.length * 4, none⟩ = some x0 ∧ w1.cell? ⟨g, pre.length * 4 + 1, none⟩ = some x1 ∧ w1.cell? ⟨g, pre.length * 4 + 2, none⟩ = some x2 ∧ w1.cell? ⟨g, pre.length * 4 + 3, none⟩ = some x3 ∧
      w1.frozen? ⟨g, pre.length * 4, none⟩ = false ∧ w1.frozen? ⟨g, pre.length * 4 + 1, none⟩ = false ∧ w1.frozen? ⟨g, pre.length * 4 + 2, none⟩ = false ∧ w1.frozen? ⟨g, pre.length * 4 + 3, none⟩ = false ∧
      FillIn w g n (pre.snoc k m t ar) (put4 w1 g pre.length (.int .i64 k) (.int .i64 m) (.string t) v) := by
  obtain ⟨cs, bs, hc, hs, hr, hn, hbs, hB, hg, hgl⟩ := h
  have hs1 := hb.size
  have hc1 : w1.heap[g]? = some (.cells cs 24 (0, 0)) := (hb.block g hgl).trans hc
  obtain ⟨x0, x1, x2, x3, c0, c1, c2, c3, f0, f1, f2, f3⟩ := node_cells hc1 pre.length n hs hk
  refine ⟨x0, x1, x2, x3, c0, c1, c2, c3, f0, f1, f2, f3, ?_⟩
  obtain ⟨d0, d1, d2, d3, d4⟩ := put4_cells hc1 pre.length n hs hk (.int .i64 k) (.int .i64 m) (.string t) v
  have hot : ∀ b, b ≠ g → (put4 w1 g pre.length (.int .i64 k) (.int .i64 m) (.string t) v).heap[b]? = w1.heap[b]? := fun b hne => put4_other _ _ _ _ _ _ _ b hne
  have hr1 : RowIn (put4 w1 g pre.length (.int .i64 k) (.int .i64 m) (.string t) v) pre g 0 bs := by
    refine hr.keep pre g 0 bs (fun o _ ho2 => ?_) (fun b hbm => ?_)
    · rw [d4 o (.inl (by omega))]
      exact World.cell?_of_block (hb.block g hgl)
    · have := hbs b hbm
      rw [hot b (by omega), hb.block b this.2]
  have ho1 : OwnV (put4 w1 g pre.length (.int .i64 k) (.int .i64 m) (.string t) v) v ar b1 := ho.keep (fun b hbm => hot b (by have := hnew b hbm; omega))
  refine ⟨_, bs ++ b1, put4_block hc1 _ _ _ _ _, by simp [hs], ?_, ?_, ?_, put4_below (hB.trans (hb.mono hB.size)) _ _ _ _ _ _ hg, hg, by rw [put4_size]; omega⟩
  · refine (RowIn.append _ _ _ _ _).2 ⟨bs, b1, rfl, hr1, v, b1, [], by simp, ?_, ?_, ?_, ?_, ?_, rfl⟩
    · rw [Nat.zero_add]; exact d0
    · rw [Nat.zero_add]; exact d1
    · rw [Nat.zero_add]; exact d2
    · rw [Nat.zero_add]; exact d3
    · exact ho1
  · refine List.nodup_append.2 ⟨hn, hnd, fun b hb1 c hc1 => ?_⟩
    have := hbs b hb1
    have := hnew c hc1
    omega
  · intro b hbm
    rw [put4_size]
    rcases List.mem_append.1 hbm with h | h
    · have := hbs b h
      omega
    · have := hnew b h
      omega
theorem FillIn.done {w : World} {g n : Nat} {F : Trees} {w' : World} (h : FillIn w g n F w') (hn : F.length = n) (cap : Nat) (hcap : n ≤ cap) : ∃ bs, OwnV w' (.slice (some ⟨g, 0, none⟩) n cap) F bs ∧ bs.Nodup ∧ ∀ b ∈ bs, w.heap.size ≤ b ∧ b < w'.heap.size := by
  obtain ⟨cs, bs, hc, hs, hr, hnd, hbs, hB, hg, hgl⟩ := h
  refine ⟨g :: bs, .inr ⟨g, cap, bs, by rw [hn], by omega, rfl, ⟨cs, hc⟩, hr⟩, ?_, ?_⟩
  · refine List.nodup_cons.2 ⟨fun hm => ?_, hnd⟩
    have := hbs g hm
    omega
  · intro b hbm
    rcases List.mem_cons.1 hbm with rfl | h
    · exact ⟨hg, hgl⟩
    · have := hbs b h
      omega
end Go.Proofs.YtijbaienhaiamaaDoor
end

/- What is proved here: results of which the first lies in a cell. No condition. -/
section
namespace Go.Proofs.YtijbaienhaiamaaDoor
open Go.RowKit

theorem results_row_tmp {P : Program} {fn : Func} {p u : Tmp} {ty : TypeId} (h : fn.results = #[.cell p ty, .tmp u]) (tmps : Array Value) (w : World) (g : Nat) (t : TypeId) (cs : Array Value) (fr : Nat × Nat) (d : TypeDesc)
    (hp : tmps.getD p undef = .pointer (some ⟨g, 0, none⟩)) (hg : w.heap[g]? = some (.cells cs t fr))
    (hu : P.underlying ty = some d) (hd : (match d with | .struct _ | .array _ _ => true | _ => false) = true) (hi : (P.info? ty).map (·.size) = some cs.size) :
    (results fn tmps).run P w = .ok (.tuple #[.agg cs, tmps.getD u undef]) w := by
  have hp' : tmps[p]?.getD undef = .pointer (some ⟨g, 0, none⟩) := by simpa using hp
  simp [results, h, hp', asAddr, run_loadVar_row w g t ty cs fr d hg hu hd hi]
theorem results_row_tmp2 {P : Program} {fn : Func} {p u v : Tmp} {ty : TypeId} (h : fn.results = #[.cell p ty, .tmp u, .tmp v]) (tmps : Array Value) (w : World) (g : Nat) (t : TypeId) (cs : Array Value) (fr : Nat × Nat) (d : TypeDesc)
    (hp : tmps.getD p undef = .pointer (some ⟨g, 0, none⟩)) (hg : w.heap[g]? = some (.cells cs t fr))
    (hu : P.underlying ty = some d) (hd : (match d with | .struct _ | .array _ _ => true | _ => false) = true) (hi : (P.info? ty).map (·.size) = some cs.size) :
    (results fn tmps).run P w = .ok (.tuple #[.agg cs, tmps.getD u undef, tmps.getD v undef]) w := by
  have hp' : tmps[p]?.getD undef = .pointer (some ⟨g, 0, none⟩) := by simpa using hp
  simp [results, h, hp', asAddr, run_loadVar_row w g t ty cs fr d hg hu hd hi]
end Go.Proofs.YtijbaienhaiamaaDoor
end

/- What is proved here: impl.FormatInt returns the decimal numeral of every int. Condition: the table internal/strconv.uint64pow10 holds the powers of ten. -/
section
namespace Go.Proofs.YtijbaienhaiamaaDoor
open Go.RowKit

set_option maxHeartbeats 400000 in
theorem impl_format (n : Int) (h0 : -9223372036854775808 ≤ n) (h1 : n ≤ 9223372036854775807) (w : World) (htab : Lib.TabIs Tryd.prog w "internal/strconv.uint64pow10" .u64 Lib.pow10Tab) :
    Calls Tryd.prog 59 #[.int .i64 n] w fun e w' => e = .returned (.string ⟨(Lib.itoa n).toArray⟩) ∧ Below w.heap.size w w' := by
  go_enter Tryd.func59, Tryd.ntmps59
  go_wp2_with fail
  refine (Tryd.strconv_Itoa n h0 h1 _ htab).mono ?_
  rintro e w' ⟨rfl, k, os, rfl⟩
  go_wp2
  go_ret
  exact ⟨rfl, Lib.below_grow _ _ (Nat.le_refl _) k os⟩

end Go.Proofs.YtijbaienhaiamaaDoor
end
