/- What is proved here: a piece of the proof of YtijbaienhaiamaaGreatDoorGuards (Parse, NodeD, ExGram, ValidText, Only, MaxLen). Condition: none beyond what each part says. -/
import Derived.Test.YtijbaienhaiamaaGreatDoorGu08
import Derived.Lib.AtoiAll
import Derived.Lib.ItoaLen
import Derived.Test.YtijbaienhaiamaaGreatDoorGu01
import Derived.Test.YtijbaienhaiamaaGreatDoorGu07
import Derived.Test.YtijbaienhaiamaaGreatDoorGu10

/- Plain facts on reading decimal numerals: reading the numeral of n gives n; what a reader with bounds accepts is exactly the numerals of the integers within them. No condition beyond those typed. -/
section
namespace Go.Proofs.YtijbaienhaiamaaGreatDoor
open Go.Lib

def isDig (c : UInt8) : Prop := 48 ≤ c.toNat ∧ c.toNat ≤ 57
/-- The number that digits spell, 'acc' ahead of them. -/
def digVal (acc : Nat) : List UInt8 → Nat
  | [] => acc
  | c :: r => digVal (10 * acc + (c.toNat - 48)) r

theorem digVal_append : ∀ (l r : List UInt8) (acc : Nat), digVal acc (l ++ r) = digVal (digVal acc l) r
  | [], _, _ => rfl
  | _ :: l, r, _ => digVal_append l r _
theorem digVal_ge : ∀ (l : List UInt8) (acc : Nat), acc ≤ digVal acc l
  | [], _ => Nat.le_refl _
  | c :: r, acc => by
    have := digVal_ge r (10 * acc + (c.toNat - 48))
    show acc ≤ digVal (10 * acc + (c.toNat - 48)) r
    omega
theorem digVal_lt : ∀ (l : List UInt8) (acc k : Nat), (∀ c ∈ l, isDig c) → l.length = k → digVal acc l < (acc + 1) * 10 ^ k
  | [], acc, k, _, hk => by
    have hk' : k = 0 := by simpa using hk.symm
    rw [hk', Nat.pow_zero]
    show acc < _
    omega
  | c :: r, acc, k, h, hk => by
    obtain ⟨k, rfl⟩ : ∃ j, k = j + 1 := ⟨r.length, by rw [← hk]; rfl⟩
    have hc := h c (by simp)
    unfold isDig at hc
    have := digVal_lt r (10 * acc + (c.toNat - 48)) k (fun x hx => h x (by simp [hx])) (by simpa using hk)
    show digVal (10 * acc + (c.toNat - 48)) r < _
    refine Nat.lt_of_lt_of_le this ?_
    rw [Nat.pow_succ, Nat.mul_comm (10 ^ k) 10, ← Nat.mul_assoc]
    exact Nat.mul_le_mul_right _ (by omega)
theorem digVal_lt_pow (l : List UInt8) (k : Nat) (h : ∀ c ∈ l, isDig c) (hk : l.length ≤ k) : digVal 0 l < 10 ^ k := by
  have := digVal_lt l 0 l.length h rfl
  simp only [Nat.zero_add, Nat.one_mul] at this
  exact Nat.lt_of_lt_of_le this (Nat.pow_le_pow_right (by omega) hk)

theorem parse_digits : ∀ (l : List UInt8) (acc : Nat), (∀ c ∈ l, isDig c) → digVal acc l < 18446744073709551616 → parseUint10 acc l = .ok (digVal acc l)
  | [], _, _, _ => rfl
  | c :: r, acc, h, hv => by
    have hc := h c (by simp)
    have hv' : digVal (10 * acc + (c.toNat - 48)) r < 18446744073709551616 := hv
    have hg := digVal_ge r (10 * acc + (c.toNat - 48))
    unfold isDig at hc
    unfold parseUint10
    rw [if_pos hc, if_neg (by omega), if_neg (by omega), show acc * 10 = 10 * acc from Nat.mul_comm _ _]
    exact parse_digits r _ (fun x hx => h x (by simp [hx])) hv'

theorem dec_digits (u : Nat) : ∀ c ∈ decDigits u, isDig c := by
  induction u using Nat.strongRecOn with
  | _ u ih =>
    intro c hc
    rw [decDigits] at hc
    by_cases h : u < 10
    · rw [dif_pos h] at hc
      simp at hc
      subst hc
      unfold isDig
      simp
      omega
    · rw [dif_neg h] at hc
      simp at hc
      rcases hc with hc | hc
      · exact ih (u / 10) (by omega) c hc
      · subst hc
        unfold isDig
        simp
        omega
theorem digVal_dec (u : Nat) : digVal 0 (decDigits u) = u := by
  induction u using Nat.strongRecOn with
  | _ u ih =>
    have one : ∀ (acc d : Nat), d < 10 → digVal acc [UInt8.ofNat (48 + d)] = 10 * acc + d := fun acc d hd => by
      have e : (UInt8.ofNat (48 + d)).toNat = 48 + d := by simp; omega
      show 10 * acc + ((UInt8.ofNat (48 + d)).toNat - 48) = _
      omega
    by_cases h : u < 10
    · exact (congrArg (digVal 0) (decDigits_one h)).trans ((one 0 u h).trans (by omega))
    · have e : decDigits u = decDigits (u / 10) ++ [UInt8.ofNat (48 + u % 10)] := by
        rw [decDigits, dif_neg h]
      refine (congrArg (digVal 0) e).trans ((digVal_append _ _ _).trans ?_)
      exact (congrArg (fun x => digVal x [UInt8.ofNat (48 + u % 10)]) (ih (u / 10) (by omega))).trans ((one (u / 10) (u % 10) (by omega)).trans (by omega))
theorem dec_ne_nil (u : Nat) : decDigits u ≠ [] := by
  intro h
  have := congrArg List.length h
  rw [decDigits_length] at this
  have := nDigits_pos u
  simp at *
  omega
theorem dec_head (u : Nat) : ∀ c r, decDigits u = c :: r → isDig c := fun c r h => dec_digits u c (by rw [h]; simp)

theorem parseMag_dec (u : Nat) (h : u < 18446744073709551616) : parseMag (decDigits u) = .ok u := by
  unfold parseMag
  rw [if_neg (dec_ne_nil u), parse_digits _ _ (dec_digits u) (by rw [digVal_dec]; exact h), digVal_dec]

/-- Reading the numeral of n gives n. -/
theorem atoi_itoa (n : Int) (h0 : -9223372036854775808 ≤ n) (h1 : n ≤ 9223372036854775807) : atoiAll (itoa n) = .ok n := by
  by_cases hn : n < 0
  · obtain ⟨u, rfl⟩ : ∃ u : Nat, n = -(u : Int) := ⟨n.natAbs, by omega⟩
    rw [itoa_neg u (by omega)]
    have e : parseMag (decDigits u) = .ok u := parseMag_dec u (by omega)
    have e45 : (45 : UInt8).toNat = 45 := rfl
    unfold atoiAll
    dsimp only
    rw [if_pos (Or.inr e45), e]
    dsimp only
    rw [if_neg (fun h => h.1 e45), if_neg (fun h => by have := h.2; omega), if_pos e45]
  · obtain ⟨u, rfl⟩ : ∃ u : Nat, n = (u : Int) := ⟨n.toNat, by omega⟩
    rw [itoa_nonneg]
    have e : parseMag (decDigits u) = .ok u := parseMag_dec u (by omega)
    cases hd : decDigits u with
    | nil => exact absurd hd (dec_ne_nil u)
    | cons c r =>
      have hc := dec_head u c r hd
      unfold isDig at hc
      rw [hd] at e
      unfold atoiAll
      dsimp only
      rw [if_neg (by omega), e]
      dsimp only
      rw [if_neg (fun h => by have := h.2; omega), if_neg (fun h => by have := h.1; omega), if_neg (by omega)]

/-- What a reader within lo .. hi accepts. -/
def readOf (lo hi : Int) (l : List UInt8) : Option Int :=
  match atoiAll l with
  | .ok v => if lo ≤ v ∧ v ≤ hi ∧ itoa v = l then some v else none
  | _ => none
theorem readOf_iff {lo hi n : Int} {l : List UInt8} (h0 : -9223372036854775808 ≤ lo) (h1 : hi ≤ 9223372036854775807) : readOf lo hi l = some n ↔ lo ≤ n ∧ n ≤ hi ∧ itoa n = l := by
  constructor
  · intro h
    unfold readOf at h
    split at h
    · split at h
      · rename_i hh
        injection h with h
        subst h
        exact hh
      · cases h
    · cases h
  · rintro ⟨a, b, rfl⟩
    unfold readOf
    rw [atoi_itoa n (by omega) (by omega)]
    exact if_pos ⟨a, b, rfl⟩

theorem readOf_none {lo hi : Int} {l : List UInt8} (h : ∀ n, ¬ (lo ≤ n ∧ n ≤ hi ∧ itoa n = l)) (h0 : -9223372036854775808 ≤ lo) (h1 : hi ≤ 9223372036854775807) : readOf lo hi l = none := by
  cases hr : readOf lo hi l with
  | none => rfl
  | some n => exact absurd ((readOf_iff h0 h1).1 hr) (h n)
theorem atoi_cases (l : List UInt8) : (∃ v, atoiAll l = .ok v) ∨ atoiAll l = atoiAll [] ∨ atoiAll l = .range := by
  cases atoiAll l
  · exact Or.inl ⟨_, rfl⟩
  · exact Or.inr (Or.inl rfl)
  · exact Or.inr (Or.inr rfl)
theorem atoi_range {l : List UInt8} {v : Int} (h : atoiAll l = .ok v) : -9223372036854775808 ≤ v ∧ v ≤ 9223372036854775807 := by
  unfold atoiAll at h
  split at h
  · cases h
  · dsimp only at h
    split at h
    · cases h
    · cases h
    · split at h
      · cases h
      · split at h
        · cases h
        · injection h with h
          split at h <;> omega
theorem nDigits_le (u k : Nat) (h : u < 10 ^ k) (hk : 1 ≤ k) : nDigits u ≤ k := by
  induction k generalizing u with
  | zero => omega
  | succ k ih =>
    by_cases hu : u < 10
    · rw [nDigits_small hu]; omega
    · rw [nDigits_big hu]
      have hk1 : 1 ≤ k := by
        cases k with
        | zero => simp at h; omega
        | succ k => omega
      have := ih (u / 10) (by rw [Nat.pow_succ] at h; omega) hk1
      omega

def isDigB (c : UInt8) : Bool := decide (48 ≤ c.toNat) && decide (c.toNat ≤ 57)
theorem isDigB_iff (c : UInt8) : isDigB c = true ↔ isDig c := by simp [isDigB, isDig]
/-- What stands behind a '-'. -/
def behind (l : List UInt8) : List UInt8 := if l.head? = some 45 then l.tail else l
def signed (l : List UInt8) (u : Nat) : Int := if l.head? = some 45 then -(u : Int) else u
/-- What the model's reader of at most 'most' digits accepts. -/
def specRead (most : Nat) (l : List UInt8) : Option Int :=
  if 1 ≤ (behind l).length ∧ (behind l).length ≤ most ∧ (behind l).all isDigB = true ∧ itoa (signed l (digVal 0 (behind l))) = l then some (signed l (digVal 0 (behind l))) else none

theorem specRead_iff {most : Nat} (hm : 1 ≤ most) {l : List UInt8} {n : Int} : specRead most l = some n ↔ itoa n = l ∧ -((10 ^ most : Nat) : Int) < n ∧ n < ((10 ^ most : Nat) : Int) := by
  constructor
  · intro h
    unfold specRead at h
    split at h
    · rename_i hh
      obtain ⟨h1, h2, h3, h4⟩ := hh
      injection h with h
      have hl := digVal_lt_pow (behind l) most (fun c hc => (isDigB_iff c).1 (List.all_eq_true.1 h3 c hc)) h2
      rw [h] at h4
      refine ⟨h4, ?_⟩
      unfold signed at h
      split at h <;> omega
    · cases h
  · rintro ⟨rfl, h1, h2⟩
    by_cases hn : n < 0
    · obtain ⟨u, rfl⟩ : ∃ u : Nat, n = -(u : Int) := ⟨n.natAbs, by omega⟩
      rw [itoa_neg u (by omega)]
      have e1 : behind (45 :: decDigits u) = decDigits u := by simp [behind]
      have e2 : signed (45 :: decDigits u) u = -(u : Int) := by simp [signed]
      unfold specRead
      rw [e1, digVal_dec, e2, decDigits_length]
      refine if_pos ⟨nDigits_pos u, nDigits_le u most (by omega) hm, ?_, itoa_neg u (by omega)⟩
      exact List.all_eq_true.2 fun c hc => (isDigB_iff c).2 (dec_digits u c hc)
    · obtain ⟨u, rfl⟩ : ∃ u : Nat, n = (u : Int) := ⟨n.toNat, by omega⟩
      rw [itoa_nonneg]
      have hh : ¬ (decDigits u).head? = some 45 := by
        intro hh
        cases hd : decDigits u with
        | nil => exact dec_ne_nil u hd
        | cons c r =>
          have := dec_head u c r hd
          rw [hd] at hh
          simp at hh
          subst hh
          unfold isDig at this
          simp at this
      have e1 : behind (decDigits u) = decDigits u := by unfold behind; rw [if_neg hh]
      have e2 : signed (decDigits u) u = (u : Int) := by unfold signed; rw [if_neg hh]
      unfold specRead
      rw [e1, digVal_dec, e2, decDigits_length]
      refine if_pos ⟨nDigits_pos u, nDigits_le u most (by omega) hm, ?_, itoa_nonneg u⟩
      exact List.all_eq_true.2 fun c hc => (isDigB_iff c).2 (dec_digits u c hc)

theorem specRead_none_len {most : Nat} {l : List UInt8} (h : most < (behind l).length) : specRead most l = none := by
  unfold specRead
  exact if_neg (fun hh => by have := hh.2.1; omega)
theorem specRead_none_nil {most : Nat} {l : List UInt8} (h : behind l = []) : specRead most l = none := by
  unfold specRead
  exact if_neg (fun hh => by have := hh.1; rw [h] at this; simp at this)
theorem specRead_none_dig {most : Nat} {l : List UInt8} {c : UInt8} (hc : c ∈ behind l) (h : ¬ isDig c) : specRead most l = none := by
  unfold specRead
  exact if_neg (fun hh => h ((isDigB_iff c).1 (List.all_eq_true.1 hh.2.2.1 c hc)))
theorem specRead_none_ne {most : Nat} {l : List UInt8} (h : ¬ itoa (signed l (digVal 0 (behind l))) = l) : specRead most l = none := by
  unfold specRead
  exact if_neg (fun hh => h hh.2.2.2)
theorem specRead_some {most : Nat} {l : List UInt8} (h1 : 1 ≤ (behind l).length) (h2 : (behind l).length ≤ most) (h3 : ∀ c ∈ behind l, isDig c) (h4 : itoa (signed l (digVal 0 (behind l))) = l) :
    specRead most l = some (signed l (digVal 0 (behind l))) := by
  unfold specRead
  exact if_pos ⟨h1, h2, List.all_eq_true.2 fun c hc => (isDigB_iff c).2 (h3 c hc), h4⟩
theorem behind_plain {l : List UInt8} (h : ¬ l.head? = some 45) : behind l = l := if_neg h
theorem behind_minus {l : List UInt8} (h : l.head? = some 45) : behind l = l.tail := if_pos h
theorem signed_plain {l : List UInt8} {u : Nat} (h : ¬ l.head? = some 45) : signed l u = u := if_neg h
theorem signed_minus {l : List UInt8} {u : Nat} (h : l.head? = some 45) : signed l u = -(u : Int) := if_pos h
/-- The model's two readers accept what the program's do. -/
theorem specRead_twelve (l : List UInt8) : specRead 12 l = readOf (-999999999999) 999999999999 l := by
  cases hr : readOf (-999999999999) 999999999999 l with
  | some n =>
    obtain ⟨a, b, c⟩ := (readOf_iff (by omega) (by omega)).1 hr
    exact (specRead_iff (by omega)).2 ⟨c, by omega, by omega⟩
  | none =>
    cases hs : specRead 12 l with
    | none => rfl
    | some n =>
      obtain ⟨a, b, c⟩ := (specRead_iff (by omega)).1 hs
      have := (readOf_iff (lo := -999999999999) (hi := 999999999999) (n := n) (l := l) (by omega) (by omega)).2 ⟨by omega, by omega, a⟩
      rw [hr] at this
      cases this
theorem specRead_six_none {l : List UInt8} (h : specRead 6 l = none) : readOf 0 999999 l = none :=
  readOf_none (fun n hn => by
    obtain ⟨a, b, c⟩ := hn
    have := (specRead_iff (most := 6) (n := n) (l := l) (by omega)).2 ⟨c, by omega, by omega⟩
    rw [h] at this
    cases this) (by omega) (by omega)
theorem specRead_six_neg {l : List UInt8} {m : Int} (h : specRead 6 l = some m) (hm : m < 0) : readOf 0 999999 l = none :=
  readOf_none (fun n hn => by
    obtain ⟨a, b, c⟩ := hn
    have := (specRead_iff (most := 6) (n := n) (l := l) (by omega)).2 ⟨c, by omega, by omega⟩
    rw [h] at this
    injection this with e
    omega) (by omega) (by omega)
theorem specRead_six_pos {l : List UInt8} {m : Int} (h : specRead 6 l = some m) (hm : 0 ≤ m) : readOf 0 999999 l = some m := by
  obtain ⟨a, b, c⟩ := (specRead_iff (by omega)).1 h
  exact (readOf_iff (by omega) (by omega)).2 ⟨by omega, by omega, a⟩
theorem nDigits_gt (u k : Nat) (h : 10 ^ k ≤ u) : k < nDigits u := by
  have := lt_pow_nDigits u
  rcases Nat.lt_or_ge k (nDigits u) with h1 | h1
  · exact h1
  · have := Nat.pow_le_pow_right (n := 10) (by omega) h1
    omega
/-- How long the numeral of n is, against the bounds of the readers. -/
theorem itoa_len_pos {n : Int} (h : 0 ≤ n) (h1 : n ≤ 999999999999) : (itoa n).length ≤ 12 := by
  obtain ⟨u, rfl⟩ : ∃ u : Nat, n = (u : Int) := ⟨n.toNat, by omega⟩
  rw [itoa_nonneg, decDigits_length]
  exact nDigits_le u 12 (by omega) (by omega)
theorem itoa_len_big {n : Int} (h : 999999999999 < n) : 12 < (itoa n).length := by
  obtain ⟨u, rfl⟩ : ∃ u : Nat, n = (u : Int) := ⟨n.toNat, by omega⟩
  rw [itoa_nonneg, decDigits_length]
  exact nDigits_gt u 12 (by omega)
theorem itoa_len_neg {n : Int} (h : n < 0) (h1 : -999999999999 ≤ n) : (itoa n).length ≤ 13 := by
  obtain ⟨u, rfl⟩ : ∃ u : Nat, n = -(u : Int) := ⟨n.natAbs, by omega⟩
  rw [itoa_neg u (by omega), List.length_cons, decDigits_length]
  have := nDigits_le u 12 (by omega) (by omega)
  omega
theorem itoa_len_low {n : Int} (h : n < -999999999999) : 13 < (itoa n).length := by
  obtain ⟨u, rfl⟩ : ∃ u : Nat, n = -(u : Int) := ⟨n.natAbs, by omega⟩
  rw [itoa_neg u (by omega), List.length_cons, decDigits_length]
  have := nDigits_gt u 12 (by omega)
  omega
theorem digVal_nil (acc : Nat) : digVal acc [] = acc := rfl
theorem digVal_snoc (l : List UInt8) (c : UInt8) : digVal 0 (l ++ [c]) = 10 * digVal 0 l + (c.toNat - 48) := digVal_append l [c] 0
attribute [irreducible] digVal
end Go.Proofs.YtijbaienhaiamaaGreatDoor
end

/- What is proved here: a node with the row below it; the bytes of words (pure). No condition. -/
section
namespace Go.Proofs.YtijbaienhaiamaaGreatDoor
open Go.RowKit

structure PatD where
  k : Int
  n : Int
  t : ByteArray
  F : Trees
theorem empty_of' {t : ByteArray} (h : t.size = 0) : t = ⟨#[]⟩ := empty_of t h
theorem nil_of_len {F : Trees} (h : F.length = 0) : F = .nil := by cases F with | nil => rfl | cons _ _ _ _ _ => simp [Trees.length] at h
def leaf (k n : Int) (t : ByteArray) : PatD := ⟨k, n, t, .nil⟩
def PatD.one (q : PatD) (r : Trees) : Trees := .cons q.k q.n q.t q.F r
/-! The bytes of words. -/
theorem word_bytes {lo hi : Nat} {t : ByteArray} (h : Word lo hi t) (hl : (lo = 97 ∧ hi = 122) ∨ (lo = 65 ∧ hi = 90)) : ∀ c ∈ t.data.toList, isWB c = true := by
  intro c hc
  obtain ⟨j, hj, rfl⟩ := List.mem_iff_getElem.1 hc
  have hj2 : j < t.size := hj
  unfold isWB isWZ
  simp only [decide_eq_true_eq]
  show _ ∨ _
  have e : (t.data.toList[j] : UInt8) = t[j] := rfl
  rw [e]
  by_cases h0 : j = 0
  · subst h0
    have := h.2.2.1 hj2
    omega
  · have := h.2.2.2 j hj2 (by omega)
    unfold Good at this
    omega
theorem word_head {lo hi : Nat} {t : ByteArray} (h : Word lo hi t) : ∃ c r, t.data.toList = c :: r ∧ lo ≤ c.toNat ∧ c.toNat ≤ hi := by
  have h1 := h.1
  have h0 : 0 < t.size := by omega
  have h2 := h.2.2.1 h0
  cases hl : t.data.toList with
  | nil => have : t.data.toList.length = t.size := rfl; rw [hl] at this; simp at this; omega
  | cons c r =>
    refine ⟨c, r, rfl, ?_⟩
    have e : t.data.toList[0]'(by rw [hl]; simp) = t[0] := rfl
    simp only [hl, List.getElem_cons_zero] at e
    rw [e]
    exact h2
theorem itoa_head (n : Int) : ∃ c r, Lib.itoa n = c :: r ∧ (c = 45 ∨ (48 ≤ c.toNat ∧ c.toNat ≤ 57)) ∧ ∀ x ∈ Lib.itoa n, isWB x = true := by
  have hd : ∀ u : Nat, ∀ x ∈ Lib.decDigits u, isWB x = true := fun u x hx => by
    have := dec_digits u x hx
    unfold isDig at this
    unfold isWB isWZ
    simp only [decide_eq_true_eq]
    omega
  by_cases h : 0 ≤ n
  · obtain ⟨u, rfl⟩ : ∃ u : Nat, n = u := ⟨n.toNat, by omega⟩
    rw [Lib.itoa_nonneg]
    cases hu : Lib.decDigits u with
    | nil => exact absurd hu (dec_ne_nil u)
    | cons c r =>
      have := dec_head u c r hu
      unfold isDig at this
      exact ⟨c, r, rfl, .inr this, by rw [← hu]; exact hd u⟩
  · obtain ⟨u, rfl⟩ : ∃ u : Nat, n = -(u : Int) := ⟨(-n).toNat, by omega⟩
    rw [Lib.itoa_neg u (by omega)]
    refine ⟨45, _, rfl, .inl rfl, fun x hx => ?_⟩
    rcases List.mem_cons.1 hx with rfl | hx
    · decide
    · exact hd u x hx
end Go.Proofs.YtijbaienhaiamaaGreatDoor
end

/- What is proved here: the grammar of expressions: which expression a text begins with (pure). N: a bound on the nodes. No condition. -/
section
namespace Go.Proofs.YtijbaienhaiamaaGreatDoor.Ex
open Go.RowKit

def text (q : PatD) : List UInt8 := nodeE q.k q.n q.t q.F.textsE
def good (q : PatD) : Prop := exprForm q.k q.n q.t q.F.length = true ∧ q.F.formedE = true
/-- What may stand behind an expression. -/
def Ends (s : List UInt8) : Prop := s = [] ∨ ∃ r, s = 41 :: r ∨ s = 32 :: r
def Fits (N m d : Nat) (q : PatD) : Prop := m + (1 + q.F.count) ≤ N ∧ d + q.F.deep ≤ 6
def NoneP (N : Nat) (s : List UInt8) (m d : Nat) : Prop := ∀ q s2, good q → s = text q ++ s2 → Ends s2 → ¬ Fits N m d q
structure OkP (N : Nat) (s : List UInt8) (m d : Nat) (p : PatD) (s' : List UInt8) (m' : Nat) : Prop where
  good : good p
  text : s = text p ++ s'
  nodes : m' = m + (1 + p.F.count)
  fits : Fits N m d p
  uniq : ∀ q s2, Ex.good q → s = Ex.text q ++ s2 → Ends s2 → Fits N m d q → q = p ∧ s2 = s'

theorem good_cases (q : PatD) (h : good q) : (∃ n, q = leaf 1 n ⟨#[]⟩ ∧ inInt n = true) ∨ (∃ t, q = leaf 2 0 t ∧ Name t) ∨
    (∃ n a b, good a ∧ good b ∧ inOp n = true ∧ q = ⟨3, n, ⟨#[]⟩, a.one (b.one .nil)⟩) ∨ (∃ a, good a ∧ q = ⟨4, 0, ⟨#[]⟩, a.one .nil⟩) := by
  obtain ⟨k, n, t, F⟩ := q
  obtain ⟨h1, h2⟩ := h
  change F.formedE = true at h2
  rcases (exprForm_iff k n t F.length).1 h1 with ⟨rfl, hi, ht, hl⟩ | ⟨rfl, rfl, hN, hl⟩ | ⟨rfl, ho, ht, hl⟩ | ⟨rfl, rfl, ht, hl⟩
  · left; exact ⟨n, by rw [empty_of' ht, nil_of_len hl]; rfl, hi⟩
  · right; left; exact ⟨t, by rw [nil_of_len hl]; rfl, hN⟩
  · right; right; left
    cases F with
    | nil => simp [Trees.length] at hl
    | cons ka na ta Fa R =>
      cases R with
      | nil => simp [Trees.length] at hl
      | cons kb nb tb Fb R2 =>
        have e : R2 = .nil := nil_of_len (by simp [Trees.length] at hl; omega)
        subst e
        simp only [Trees.formedE, Bool.and_eq_true] at h2
        exact ⟨n, ⟨ka, na, ta, Fa⟩, ⟨kb, nb, tb, Fb⟩, ⟨h2.1, h2.2.1⟩, ⟨h2.2.2.1, h2.2.2.2.1⟩, ho, by rw [empty_of' ht]; rfl⟩
  · right; right; right
    cases F with
    | nil => simp [Trees.length] at hl
    | cons ka na ta Fa R =>
      have e : R = .nil := nil_of_len (by simp [Trees.length] at hl; omega)
      subst e
      simp only [Trees.formedE, Bool.and_eq_true] at h2
      exact ⟨⟨ka, na, ta, Fa⟩, ⟨h2.1, h2.2.1⟩, by rw [empty_of' ht]; rfl⟩
theorem good_leaf {k n : Int} {t : ByteArray} (h : exprForm k n t 0 = true) : good (leaf k n t) := ⟨h, rfl⟩
theorem good_one {a : PatD} {r : Trees} (ha : good a) (hr : r.formedE = true) : (a.one r).formedE = true := by
  show (exprForm a.k a.n a.t a.F.length && (a.F.formedE && r.formedE)) = true
  rw [ha.1, ha.2, hr]
  rfl
theorem good_op {n : Int} {a b : PatD} (ho : inOp n = true) (ha : good a) (hb : good b) : good ⟨3, n, ⟨#[]⟩, a.one (b.one .nil)⟩ :=
  ⟨(exprForm_iff _ _ _ _).2 (.inr (.inr (.inl ⟨rfl, ho, rfl, rfl⟩))), good_one ha (good_one hb rfl)⟩
theorem good_not {a : PatD} (ha : good a) : good ⟨4, 0, ⟨#[]⟩, a.one .nil⟩ :=
  ⟨(exprForm_iff _ _ _ _).2 (.inr (.inr (.inr ⟨rfl, rfl, rfl, rfl⟩))), good_one ha rfl⟩
theorem good_int {n : Int} (hi : inInt n = true) : good (leaf 1 n ⟨#[]⟩) := good_leaf ((exprForm_iff _ _ _ _).2 (.inl ⟨rfl, hi, rfl, rfl⟩))
theorem good_var {t : ByteArray} (hN : Name t) : good (leaf 2 0 t) := good_leaf ((exprForm_iff _ _ _ _).2 (.inr (.inl ⟨rfl, rfl, hN, rfl⟩)))
theorem text_int (n : Int) : text (leaf 1 n ⟨#[]⟩) = Lib.itoa n := rfl
theorem text_var (t : ByteArray) : text (leaf 2 0 t) = t.data.toList := rfl
theorem text_op (n : Int) (a b : PatD) : text ⟨3, n, ⟨#[]⟩, a.one (b.one .nil)⟩ = 40 :: (text a ++ (signE n ++ (text b ++ [41]))) := by
  show [40] ++ text a ++ signE n ++ text b ++ [41] = _
  simp
theorem text_not (a : PatD) : text ⟨4, 0, ⟨#[]⟩, a.one .nil⟩ = 33 :: text a := rfl
theorem ends_stop {s : List UInt8} (h : Ends s) : ∀ c t, s = c :: t → isWB c = false := by
  intro c t hc
  rcases h with h | ⟨r, h | h⟩
  · rw [h] at hc; cases hc
  · rw [h] at hc; injection hc with h1 _; rw [← h1]; decide
  · rw [h] at hc; injection hc with h1 _; rw [← h1]; decide
theorem sign_32 {n : Int} (h : inOp n = true) : ∃ x, signE n = 32 :: x := by
  rcases (inOp_iff n).1 h with rfl | rfl | rfl | rfl | rfl | rfl | rfl <;> exact ⟨_, rfl⟩
theorem ends_sign {n : Int} (h : inOp n = true) (x : List UInt8) : Ends (signE n ++ x) := by
  obtain ⟨y, e⟩ := sign_32 h
  exact .inr ⟨y ++ x, .inr (by rw [e]; rfl)⟩
theorem ends_close (r : List UInt8) : Ends (41 :: r) := .inr ⟨r, .inl rfl⟩
theorem sign_inj {n n' : Int} (h : inOp n = true) (h' : inOp n' = true) {x y : List UInt8} (e : signE n ++ x = signE n' ++ y) : n = n' ∧ x = y := by
  rcases (inOp_iff n).1 h with rfl | rfl | rfl | rfl | rfl | rfl | rfl <;> rcases (inOp_iff n').1 h' with rfl | rfl | rfl | rfl | rfl | rfl | rfl <;> simp [signE] at e ⊢ <;> exact e
/-- A word that stands at the start, up to what cannot stand in one. -/
structure AtWord (s wd r : List UInt8) : Prop where
  eq : s = wd ++ r
  word : ∀ x y, ((∃ n, x = Lib.itoa n) ∨ ∃ t : ByteArray, Name t ∧ x = t.data.toList) → (∀ c t, y = c :: t → isWB c = false) → s = x ++ y → wd = x
  n33 : ∀ x, s ≠ 33 :: x
  n40 : ∀ x, s ≠ 40 :: x
theorem AtWord.cases {s wd r : List UInt8} (h : AtWord s wd r) (q : PatD) (hq : good q) (s2 : List UInt8) (hs : s = text q ++ s2) (he : Ends s2) :
    (∃ n, q = leaf 1 n ⟨#[]⟩ ∧ inInt n = true ∧ wd = Lib.itoa n ∧ r = s2) ∨ (∃ t, q = leaf 2 0 t ∧ Name t ∧ wd = t.data.toList ∧ r = s2) := by
  have fin : ∀ x, ((∃ n, x = Lib.itoa n) ∨ ∃ t : ByteArray, Name t ∧ x = t.data.toList) → s = x ++ s2 → wd = x ∧ r = s2 := fun x hx e => by
    have e1 := h.word x s2 hx (ends_stop he) e
    subst e1
    exact ⟨rfl, List.append_cancel_left (h.eq.symm.trans e)⟩
  rcases good_cases q hq with ⟨n, rfl, hi⟩ | ⟨t, rfl, hN⟩ | ⟨n, a, b, _, _, _, rfl⟩ | ⟨a, _, rfl⟩
  · obtain ⟨e1, e2⟩ := fin _ (.inl ⟨n, rfl⟩) hs
    exact .inl ⟨n, rfl, hi, e1, e2⟩
  · obtain ⟨e1, e2⟩ := fin _ (.inr ⟨t, hN, rfl⟩) hs
    exact .inr ⟨t, rfl, hN, e1, e2⟩
  · rw [text_op] at hs; exact absurd hs (h.n40 _)
  · rw [text_not] at hs; exact absurd hs (h.n33 _)
theorem data_inj {t u : ByteArray} (h : t.data.toList = u.data.toList) : t = u := by
  rw [← str_data t, ← str_data u, h]
theorem name_no_int {t : ByteArray} (hN : Name t) (n : Int) : t.data.toList ≠ Lib.itoa n := fun h => by
  obtain ⟨c, r, e, h1, h2⟩ := word_head hN.1
  obtain ⟨c', r', e', h1', _⟩ := itoa_head n
  rw [e, e'] at h
  injection h with h3 _
  subst h3
  rcases h1' with h | h
  · rw [h] at h1; exact absurd h1 (by decide)
  · omega
theorem itoa_inj {a b : Int} (ha : inInt a = true) (hb : inInt b = true) (h : Lib.itoa a = Lib.itoa b) : a = b := by
  unfold inInt at ha hb
  simp only [Bool.and_eq_true, decide_eq_true_eq] at ha hb
  have h1 := atoi_itoa a (by omega) (by omega)
  have h2 := atoi_itoa b (by omega) (by omega)
  rw [h] at h1
  have := h1.symm.trans h2
  injection this
theorem int_ok {N : Nat} {s wd r : List UInt8} {m d : Nat} {n : Int} (h : AtWord s wd r) (hm : m + 1 ≤ N) (hd : d ≤ 6) (hi : inInt n = true) (hw : Lib.itoa n = wd) : OkP N s m d (leaf 1 n ⟨#[]⟩) r (m + 1) := by
  refine ⟨good_int hi, by rw [text_int, hw]; exact h.eq, rfl, ⟨hm, hd⟩, fun q s2 hq hs he hf => ?_⟩
  rcases h.cases q hq s2 hs he with ⟨n', rfl, hi', e, hr⟩ | ⟨t, rfl, hN, e, hr⟩
  · rw [itoa_inj hi' hi (e.symm.trans hw.symm)]; exact ⟨rfl, hr.symm⟩
  · exact absurd (e.symm.trans hw.symm) (name_no_int hN n)
theorem var_ok {N : Nat} {s r : List UInt8} {t : ByteArray} {m d : Nat} (h : AtWord s t.data.toList r) (hN : Name t) (hm : m + 1 ≤ N) (hd : d ≤ 6) : OkP N s m d (leaf 2 0 t) r (m + 1) := by
  refine ⟨good_var hN, by rw [text_var]; exact h.eq, rfl, ⟨hm, hd⟩, fun q s2 hq hs he hf => ?_⟩
  rcases h.cases q hq s2 hs he with ⟨n', rfl, hi', e, hr⟩ | ⟨u, rfl, hN', e, hr⟩
  · exact absurd e (name_no_int hN n')
  · rw [data_inj e]; exact ⟨rfl, hr.symm⟩
theorem word_none {N : Nat} {s wd r : List UInt8} {m d : Nat} (h : AtWord s wd r) (h2 : ¬ Name (str wd)) (h4 : ∀ n, inInt n = true → Lib.itoa n ≠ wd) : NoneP N s m d := fun q s2 hq hs he hf => by
  rcases h.cases q hq s2 hs he with ⟨n', rfl, hi', e, hr⟩ | ⟨t, rfl, hN, e, hr⟩
  · exact h4 n' hi' e.symm
  · rw [e, str_data] at h2; exact h2 hN
theorem none_begin {N : Nat} {s : List UInt8} {m d : Nat} (h : ¬ (m + 1 ≤ N ∧ d ≤ 6)) : NoneP N s m d := fun q s2 _ _ _ hf => by
  obtain ⟨h1, h2⟩ := hf
  exact h ⟨by omega, by omega⟩
theorem first_33 (q : PatD) (hq : good q) (s2 r : List UInt8) (h : text q ++ s2 = 33 :: r) : ∃ a, q = ⟨4, 0, ⟨#[]⟩, a.one .nil⟩ ∧ good a ∧ r = text a ++ s2 := by
  rcases good_cases q hq with ⟨n, rfl, hi⟩ | ⟨t, rfl, hN⟩ | ⟨n, a, b, ha, hb, ho, rfl⟩ | ⟨a, ha, rfl⟩
  · exfalso
    obtain ⟨c, x, e, hc, _⟩ := itoa_head n
    rw [text_int, e] at h
    injection h with h _
    subst h
    rcases hc with hc | hc
    · exact absurd hc (by decide)
    · exact absurd hc (by decide)
  · exfalso
    obtain ⟨c, x, e, h1, _⟩ := word_head hN.1
    rw [text_var, e] at h
    injection h with h _
    subst h
    exact absurd h1 (by decide)
  · rw [text_op] at h; injection h with h _; exact absurd h (by decide)
  · rw [text_not] at h; injection h with _ h; exact ⟨a, rfl, ha, h.symm⟩
theorem first_40 (q : PatD) (hq : good q) (s2 r : List UInt8) (h : text q ++ s2 = 40 :: r) : ∃ n a b, q = ⟨3, n, ⟨#[]⟩, a.one (b.one .nil)⟩ ∧ inOp n = true ∧ good a ∧ good b ∧ r = text a ++ (signE n ++ (text b ++ 41 :: s2)) := by
  rcases good_cases q hq with ⟨n, rfl, hi⟩ | ⟨t, rfl, hN⟩ | ⟨n, a, b, ha, hb, ho, rfl⟩ | ⟨a, ha, rfl⟩
  · exfalso
    obtain ⟨c, x, e, hc, _⟩ := itoa_head n
    rw [text_int, e] at h
    injection h with h _
    subst h
    rcases hc with hc | hc
    · exact absurd hc (by decide)
    · exact absurd hc (by decide)
  · exfalso
    obtain ⟨c, x, e, h1, _⟩ := word_head hN.1
    rw [text_var, e] at h
    injection h with h _
    subst h
    exact absurd h1 (by decide)
  · rw [text_op] at h; injection h with _ h
    refine ⟨n, a, b, rfl, ho, ha, hb, ?_⟩
    rw [← h]
    simp
  · rw [text_not] at h; injection h with h _; exact absurd h (by decide)
/-! A negation. -/
theorem fits_not {N m d : Nat} {a : PatD} (h : Fits N m d ⟨4, 0, ⟨#[]⟩, a.one .nil⟩) : Fits N (m + 1) (d + 1) a := by
  obtain ⟨h1, h2⟩ := h
  simp only [PatD.one, Trees.count, Trees.deep] at h1 h2
  exact ⟨by omega, by omega⟩
theorem not_none {N : Nat} {r : List UInt8} {m d : Nat} (hn : NoneP N r (m + 1) (d + 1)) : NoneP N (33 :: r) m d := fun q s2 hq hs he hf => by
  obtain ⟨a, rfl, ha, hr⟩ := first_33 q hq s2 r hs.symm
  exact hn a s2 ha hr he (fits_not hf)
theorem not_ok {N : Nat} {r s' : List UInt8} {m d m' : Nat} {a : PatD} (k : OkP N r (m + 1) (d + 1) a s' m') : OkP N (33 :: r) m d ⟨4, 0, ⟨#[]⟩, a.one .nil⟩ s' m' := by
  have k1 := k.nodes
  have k2 := k.fits
  unfold Fits at k2
  refine ⟨good_not k.good, ?_, ?_, ⟨?_, ?_⟩, fun q s2 hq hs he hf => ?_⟩
  · rw [text_not, k.text]; rfl
  · simp only [PatD.one, Trees.count]; omega
  · simp only [PatD.one, Trees.count]; omega
  · simp only [PatD.one, Trees.deep]; omega
  · obtain ⟨a', rfl, ha, hr⟩ := first_33 q hq s2 r hs.symm
    obtain ⟨rfl, e⟩ := k.uniq a' s2 ha hr he (fits_not hf)
    exact ⟨rfl, e⟩
/-! An operator. -/
theorem fits_left {N m d : Nat} {n : Int} {a b : PatD} (h : Fits N m d ⟨3, n, ⟨#[]⟩, a.one (b.one .nil)⟩) : Fits N (m + 1) (d + 1) a := by
  obtain ⟨h1, h2⟩ := h
  simp only [PatD.one, Trees.count, Trees.deep] at h1 h2
  exact ⟨by omega, by omega⟩
theorem fits_right {N m d : Nat} {n : Int} {a b : PatD} (h : Fits N m d ⟨3, n, ⟨#[]⟩, a.one (b.one .nil)⟩) : Fits N (m + 1 + (1 + a.F.count)) (d + 1) b := by
  obtain ⟨h1, h2⟩ := h
  simp only [PatD.one, Trees.count, Trees.deep] at h1 h2
  exact ⟨by omega, by omega⟩
theorem op_none1 {N : Nat} {r : List UInt8} {m d : Nat} (h : NoneP N r (m + 1) (d + 1)) : NoneP N (40 :: r) m d := fun q s2 hq hs he hf => by
  obtain ⟨n, a, b, rfl, ho, ha, hb, hr⟩ := first_40 q hq s2 r hs.symm
  exact h a _ ha hr (ends_sign ho _) (fits_left hf)
theorem op_none2 {N : Nat} {r s1 : List UInt8} {m d m1 : Nat} {a : PatD} (h : OkP N r (m + 1) (d + 1) a s1 m1) (hn : ∀ n, inOp n = true → ∀ x, s1 ≠ signE n ++ x) : NoneP N (40 :: r) m d := fun q s2 hq hs he hf => by
  obtain ⟨n, a', b, rfl, ho, ha, hb, hr⟩ := first_40 q hq s2 r hs.symm
  exact hn n ho _ (h.uniq a' _ ha hr (ends_sign ho _) (fits_left hf)).2.symm
theorem op_none3 {N : Nat} {r r1 : List UInt8} {m d m1 : Nat} {n : Int} {a : PatD} (ho : inOp n = true) (h : OkP N r (m + 1) (d + 1) a (signE n ++ r1) m1) (hn : NoneP N r1 m1 (d + 1)) : NoneP N (40 :: r) m d := fun q s2 hq hs he hf => by
  obtain ⟨n', a', b, rfl, ho', ha, hb, hr⟩ := first_40 q hq s2 r hs.symm
  obtain ⟨rfl, e⟩ := h.uniq a' _ ha hr (ends_sign ho' _) (fits_left hf)
  obtain ⟨rfl, e9⟩ := sign_inj ho' ho e
  have hf2 := fits_right hf
  rw [← h.nodes] at hf2
  exact hn b (41 :: s2) hb e9.symm (ends_close _) hf2
theorem op_none4 {N : Nat} {r r1 s3 : List UInt8} {m d m1 m2 : Nat} {n : Int} {a b : PatD} (ho : inOp n = true) (h : OkP N r (m + 1) (d + 1) a (signE n ++ r1) m1) (k : OkP N r1 m1 (d + 1) b s3 m2) (hn : ∀ x, s3 ≠ 41 :: x) : NoneP N (40 :: r) m d := fun q s2 hq hs he hf => by
  obtain ⟨n', a', b', rfl, ho', ha, hb, hr⟩ := first_40 q hq s2 r hs.symm
  obtain ⟨rfl, e⟩ := h.uniq a' _ ha hr (ends_sign ho' _) (fits_left hf)
  obtain ⟨rfl, e9⟩ := sign_inj ho' ho e
  have hf2 := fits_right hf
  rw [← h.nodes] at hf2
  exact hn _ (k.uniq b' (41 :: s2) hb e9.symm (ends_close _) hf2).2.symm
theorem op_ok {N : Nat} {r r1 r2 : List UInt8} {m d m1 m2 : Nat} {n : Int} {a b : PatD} (ho : inOp n = true) (h : OkP N r (m + 1) (d + 1) a (signE n ++ r1) m1) (k : OkP N r1 m1 (d + 1) b (41 :: r2) m2) : OkP N (40 :: r) m d ⟨3, n, ⟨#[]⟩, a.one (b.one .nil)⟩ r2 m2 := by
  have h1 := h.nodes
  have h2 := h.fits
  have k1 := k.nodes
  have k2 := k.fits
  unfold Fits at h2 k2
  refine ⟨good_op ho h.good k.good, ?_, ?_, ⟨?_, ?_⟩, fun q s2 hq hs he hf => ?_⟩
  · rw [text_op, h.text, k.text]; simp
  · simp only [PatD.one, Trees.count]; omega
  · simp only [PatD.one, Trees.count]; omega
  · simp only [PatD.one, Trees.deep]; omega
  · obtain ⟨n', a', b', rfl, ho', ha, hb, hr⟩ := first_40 q hq s2 r hs.symm
    obtain ⟨rfl, e⟩ := h.uniq a' _ ha hr (ends_sign ho' _) (fits_left hf)
    obtain ⟨rfl, e9⟩ := sign_inj ho' ho e
    have hf2 := fits_right hf
    rw [← h.nodes] at hf2
    obtain ⟨rfl, e2⟩ := k.uniq b' (41 :: s2) hb e9.symm (ends_close _) hf2
    injection e2 with _ e2
    exact ⟨rfl, e2⟩
/-- Each node takes at least one byte. -/
theorem node_ge (k n : Int) (t : ByteArray) (l : Nat) (xs : List (List UInt8)) (hl : xs.length = l) (h : exprForm k n t l = true) : 1 + (xs.map List.length).sum ≤ (nodeE k n t xs).length := by
  have e : t.data.toList.length = t.size := rfl
  unfold nodeE
  rcases (exprForm_iff k n t l).1 h with ⟨rfl, hi, _, h0⟩ | ⟨rfl, _, hN, h0⟩ | ⟨rfl, _, _, h0⟩ | ⟨rfl, _, _, h0⟩
  · have : xs = [] := List.eq_nil_of_length_eq_zero (by omega)
    subst this
    obtain ⟨c, r, hc, _⟩ := itoa_head n
    simp [hc]
  · have : xs = [] := List.eq_nil_of_length_eq_zero (by omega)
    subst this
    have := hN.1.1
    simp
    omega
  · match xs, hl with
    | [x, y], _ =>
      simp only [show ¬ (3 : Int) = 1 by decide, show ¬ (3 : Int) = 2 by decide, show ¬ (3 : Int) = 4 by decide, if_false, List.length_append, List.length_cons, List.length_nil, List.headD_cons, List.tail_cons, List.map_cons, List.map_nil, List.sum_cons, List.sum_nil]
      omega
    | [], hl => simp at hl; omega
    | [_], hl => simp at hl; omega
    | _ :: _ :: _ :: _, hl => simp at hl; omega
  · match xs, hl with
    | [x], _ =>
      simp only [show ¬ (4 : Int) = 1 by decide, show ¬ (4 : Int) = 2 by decide, if_false, if_true, List.length_append, List.length_cons, List.length_nil, List.headD_cons, List.map_cons, List.map_nil, List.sum_cons, List.sum_nil]
      omega
    | [], hl => simp at hl; omega
    | _ :: _ :: _, hl => simp at hl; omega
theorem texts_ge (F : Trees) (h : F.formedE = true) : F.count ≤ (F.textsE.map List.length).sum := by
  induction F with
  | nil => simp [Trees.count]
  | cons k n t ar r ih1 ih2 =>
    simp only [Trees.formedE, Bool.and_eq_true] at h
    have h1 := node_ge k n t ar.length ar.textsE (textsE_length ar) h.1
    have h2 := ih1 h.2.1
    have h3 := ih2 h.2.2
    simp only [Trees.textsE, Trees.count, List.map_cons, List.sum_cons]
    omega
theorem good_ge {q : PatD} (h : good q) : 1 + q.F.count ≤ (text q).length := by
  have h1 := node_ge q.k q.n q.t q.F.length q.F.textsE (textsE_length q.F) h.1
  have h2 := texts_ge q.F h.2
  unfold text
  omega
end Go.Proofs.YtijbaienhaiamaaGreatDoor.Ex
end

/- What is proved here: the model's and the program's IsValidText say what a valid text is. Condition: the text's length is a length. -/
section
namespace Go.Proofs.YtijbaienhaiamaaGreatDoor
open Go.RowKit

/-- A byte that may stand in a text. -/
def OkByte (c : UInt8) : Prop := 32 ≤ c.toNat ∧ c.toNat ≤ 126 ∧ c.toNat ≠ 34
def ValidText (s : ByteArray) : Prop := s.size ≤ 8 ∧ ∀ j (h : j < s.size), OkByte s[j]

set_option maxHeartbeats 1000000 in
set_option maxRecDepth 100000 in
theorem spec_text (s : ByteArray) (hs : s.size ≤ maxLen) (w : World) :
    Calls Tryz.prog 124 #[.string s] w fun e w' => e = .returned (.bool (bl (ValidText s))) ∧ Below w.heap.size w w' := by
  unfold maxLen at hs
  go_enter Tryz.func124, Tryz.ntmps124
  go_wp2
  go_loopw [3] (fun i wr => ∃ k : Nat, k ≤ s.size ∧ i = .int .i64 k ∧ Hid (∀ j (h : j < s.size), j < k → OkByte s[j]) ∧ Below w.heap.size w wr) (fun i _ => s.size - (intOf i).toNat)
  case atStart => exact ⟨0, Nat.zero_le _, rfl, fun j h h1 => by omega, Below.refl _ _⟩
  case round =>
    obtain ⟨k, hk, rfl, HG, hB⟩ := hrel
    by_cases hlt : k < s.size
    · have hbad : ¬ OkByte s[k] → Hid (bl (ValidText s) = false) := fun h => bl_false (fun hv => h (hv.2 k hlt))
      have HBAD := Lib.hid hbad
      clear hbad
      have h255 : s[k].toNat < 256 := s[k].toNat_lt
      by_cases h1 : s[k].toNat < 32
      · have HE := HBAD.out (fun h => by have := h.1; omega)
        go_wp2
        go_ret
        exact ⟨by rw [HE.out]; rfl, hB⟩
      · by_cases h2 : 126 < s[k].toNat
        · have HE := HBAD.out (fun h => by have := h.2.1; omega)
          go_wp2
          go_ret
          exact ⟨by rw [HE.out]; rfl, hB⟩
        · by_cases h3 : s[k].toNat = 34
          · have HE := HBAD.out (fun h => h.2.2 h3)
            go_wp2
            go_ret
            exact ⟨by rw [HE.out]; rfl, hB⟩
          · have HC : Hid (OkByte s[k]) := ⟨by omega, by omega, h3⟩
            have e3 : ((s[k].toNat : Int) == 34) = false := by simpa using (by omega : ¬ (s[k].toNat : Int) = 34)
            clear HBAD
            go_wp2
            go_roundw
            case rel =>
              refine ⟨k + 1, by omega, by go_num, fun j h h4 => ?_, hB⟩
              rcases Nat.lt_or_ge j k with h5 | h5
              · exact HG.out j h h5
              · obtain rfl : j = k := by omega
                exact HC.out
            case measure => simp [intOf]; omega
    · by_cases h8 : s.size ≤ 8
      · have hR : bl (ValidText s) = true := bl_true ⟨h8, fun j h => HG.out j h (by omega)⟩
        have e8 : decide ((s.size : Int) ≤ 8) = true := by simp; omega
        have HR := Lib.hid hR
        clear hR
        go_wp2
        go_ret
        exact ⟨by rw [HR.out]; rfl, hB⟩
      · have hR : bl (ValidText s) = false := bl_false (fun h => h8 h.1)
        have e8 : decide ((s.size : Int) ≤ 8) = false := by simp; omega
        have HR := Lib.hid hR
        clear hR
        go_wp2
        go_ret
        exact ⟨by rw [HR.out]; rfl, hB⟩

set_option maxHeartbeats 1000000 in
set_option maxRecDepth 100000 in
theorem impl_text (s : ByteArray) (hs : s.size ≤ maxLen) (w : World) :
    Calls Tryz.prog 141 #[.string s] w fun e w' => e = .returned (.bool (bl (ValidText s))) ∧ Below w.heap.size w w' := by
  unfold maxLen at hs
  by_cases h8 : 8 < s.size
  · have HR : Hid (bl (ValidText s) = false) := bl_false (fun h => by have := h.1; omega)
    go_enter Tryz.func141, Tryz.ntmps141
    go_wp2
    go_ret
    exact ⟨by rw [HR.out]; rfl, Below.refl _ _⟩
  · go_enter Tryz.func141, Tryz.ntmps141
    go_wp2
    go_loopw [9] (fun i wr => ∃ k : Nat, k ≤ s.size ∧ i = .int .i64 k ∧ Hid (∀ j (h : j < s.size), j < k → OkByte s[j]) ∧ Below w.heap.size w wr) (fun i _ => s.size - (intOf i).toNat)
    case atStart => exact ⟨0, Nat.zero_le _, rfl, fun j h h1 => by omega, Below.refl _ _⟩
    case round =>
      obtain ⟨k, hk, rfl, HG, hB⟩ := hrel
      by_cases hlt : k < s.size
      · have hbad : ¬ OkByte s[k] → Hid (bl (ValidText s) = false) := fun h => bl_false (fun hv => h (hv.2 k hlt))
        have HBAD := Lib.hid hbad
        clear hbad
        have h255 : s[k].toNat < 256 := s[k].toNat_lt
        by_cases h1 : s[k].toNat < 32
        · have HE := HBAD.out (fun h => by have := h.1; omega)
          go_wp2
          go_ret
          exact ⟨by rw [HE.out]; rfl, hB⟩
        · by_cases h2 : 126 < s[k].toNat
          · have HE := HBAD.out (fun h => by have := h.2.1; omega)
            go_wp2
            go_ret
            exact ⟨by rw [HE.out]; rfl, hB⟩
          · by_cases h3 : s[k].toNat = 34
            · have HE := HBAD.out (fun h => h.2.2 h3)
              go_wp2
              go_ret
              exact ⟨by rw [HE.out]; rfl, hB⟩
            · have HC : Hid (OkByte s[k]) := ⟨by omega, by omega, h3⟩
              have e3 : ((s[k].toNat : Int) == 34) = false := by simpa using (by omega : ¬ (s[k].toNat : Int) = 34)
              clear HBAD
              go_wp2
              go_roundw
              case rel =>
                refine ⟨k + 1, by omega, by go_num, fun j h h4 => ?_, hB⟩
                rcases Nat.lt_or_ge j k with h5 | h5
                · exact HG.out j h h5
                · obtain rfl : j = k := by omega
                  exact HC.out
              case measure => simp [intOf]; omega
      · have hR : bl (ValidText s) = true := bl_true ⟨by omega, fun j h => HG.out j h (by omega)⟩
        have HR := Lib.hid hR
        clear hR
        go_wp2
        go_ret
        exact ⟨by rw [HR.out]; rfl, hB⟩
end Go.Proofs.YtijbaienhaiamaaGreatDoor
end

/- What is proved here: worlds between which only some blocks have changed. No condition. -/
section
namespace Go.Proofs.YtijbaienhaiamaaGreatDoor
open Go.RowKit

/-- Only the blocks F (and new ones) have changed. -/
structure Only (F : Nat → Prop) (w w' : World) : Prop where
  os : w'.os = w.os
  tape : w'.tape = w.tape
  output : w'.output = w.output
  size : w.heap.size ≤ w'.heap.size
  block : ∀ b, b < w.heap.size → ¬ F b → w'.heap[b]? = w.heap[b]?
theorem Only.refl (F : Nat → Prop) (w : World) : Only F w w := ⟨rfl, rfl, rfl, Nat.le_refl _, fun _ _ _ => rfl⟩
theorem Only.trans {F : Nat → Prop} {a b c : World} (h : Only F a b) (k : Only F b c) : Only F a c :=
  ⟨k.os.trans h.os, k.tape.trans h.tape, k.output.trans h.output, Nat.le_trans h.size k.size, fun i hi hn => (k.block i (Nat.lt_of_lt_of_le hi h.size) hn).trans (h.block i hi hn)⟩
theorem Only.wider {F F' : Nat → Prop} {w w' : World} (h : Only F w w') (hF : ∀ b, F b → F' b) : Only F' w w' := ⟨h.os, h.tape, h.output, h.size, fun b hb hn => h.block b hb (fun e => hn (hF b e))⟩
theorem Only.of_below {F : Nat → Prop} {w w' : World} (h : Below w.heap.size w w') : Only F w w' := ⟨h.os, h.tape, h.output, h.size, fun b hb _ => h.block b hb⟩
theorem Only.of_grown {w w' : World} {g : Nat} (h : w.grownBy w' (some g)) : Only (fun b => b = g) w w' := ⟨h.os, h.tape, h.output, h.size, fun b hb hn => h.block b hb (fun e => hn (Option.some.inj e))⟩
theorem Only.setCell {F : Nat → Prop} {w : World} {p : Addr} (hp : F p.block) (v : Value) : Only F w (w.setCell p v) := ⟨rfl, rfl, rfl, by simp [World.setCell], fun b _ hn => Below.heap_setCell _ _ _ _ (fun e => hn (e ▸ hp))⟩
theorem Only.below {F : Nat → Prop} {B : Nat} {w w' : World} (h : Only F w w') (hF : ∀ b, F b → B ≤ b) (hB : B ≤ w.heap.size) : Below B w w' := ⟨h.os, h.tape, h.output, h.size, fun b hb => h.block b (by omega) (fun e => by have := hF b e; omega)⟩
end Go.Proofs.YtijbaienhaiamaaGreatDoor
end

/- What is proved here: the library's variable bytealg.MaxLen stays. No condition. -/
section
namespace Go.Proofs.YtijbaienhaiamaaGreatDoor
open Go.RowKit

/-- The library's variable bytealg.MaxLen holds an integer. -/
def MaxLenVar (w : World) : Prop := ∃ m, w.cell? ⟨0, 0, none⟩ = some (.int .i64 m)
theorem MaxLenVar.stays {B : Nat} {w w' : World} (h : MaxLenVar w) (hb : Below B w w') (hB : w.heap.size ≤ B) : MaxLenVar w' := by
  obtain ⟨m, h⟩ := h
  refine ⟨m, ?_⟩
  have hlt : 0 < w.heap.size := World.block_lt_of_cell? w _ h
  rw [← h]
  exact World.cell?_of_block (hb.block _ (by show 0 < B; omega))
end Go.Proofs.YtijbaienhaiamaaGreatDoor
end
