/- What is proved here: a piece of the proof of YtijbaienhaiamaaDoorExactParseValue (SpWord, SQuote, SpecParseInt, VaArg, TreeGrow, GrowN). Condition: none beyond what each part says. -/
import Derived.Test.YtijbaienhaiamaaDoorPv06
import Derived.Test.YtijbaienhaiamaaDoorPv02
import Derived.Deep.LoopGhost
import Derived.Deep.RegionWith
import Derived.Test.YtijbaienhaiamaaDoorPv05
import Derived.Test.YtijbaienhaiamaaDoorPv04
import Derived.Deep.AppendLies
import Derived.Deep.RegionLaw

/- What is proved here: the word at a place of a text, as the specification reads it (pure). No condition. -/
section
namespace Go.Proofs.YtijbaienhaiamaaDoor
open Go.RowKit

/-- The word at the start, as the specification reads it: a sign or '_' only in front. -/
noncomputable def leadS : List UInt8 → List UInt8
  | [] => []
  | c :: r => if c = 45 ∨ c = 95 then c :: r.takeWhile isLD else (c :: r).takeWhile isLD
theorem leadS_cons (c : UInt8) (r : List UInt8) : leadS (c :: r) = if c = 45 ∨ c = 95 then c :: r.takeWhile isLD else (c :: r).takeWhile isLD := rfl
/-- Words of patterns. -/
def IsW (x : List UInt8) : Prop := (∀ c ∈ x, isLD c = true) ∧ x ≠ [] ∨ ∃ c r, x = c :: r ∧ (c = 45 ∨ c = 95) ∧ ∀ c ∈ r, isLD c = true
theorem ld_wb {c : UInt8} (h : isLD c = true) : isWB c = true := by
  unfold isLD at h
  unfold isWB isWZ
  simp only [Bool.or_eq_true, bl_iff, Bool.and_eq_true, decide_eq_true_eq] at h ⊢
  omega
theorem ld_not {c : UInt8} (h : isLD c = true) : ¬ (c = 45 ∨ c = 95) := by
  unfold isLD at h
  simp only [Bool.or_eq_true, bl_iff, Bool.and_eq_true, decide_eq_true_eq] at h
  rintro (rfl | rfl) <;> revert h <;> decide
theorem takeWhile_all (p : UInt8 → Bool) (x y : List UInt8) (hx : ∀ c ∈ x, p c = true) (hy : ∀ c t, y = c :: t → p c = false) : (x ++ y).takeWhile p = x := by
  induction x with
  | nil =>
    cases y with
    | nil => rfl
    | cons c t => simp [hy c t rfl]
  | cons c x ih => rw [List.cons_append, List.takeWhile_cons_of_pos (hx c (by simp)), ih (fun c hc => hx c (by simp [hc]))]
theorem stop_of_lead {x y : List UInt8} (h : lead (x ++ y) = x) : ∀ c t, y = c :: t → isWB c = false := by
  intro c t e
  subst e
  cases hc : isWB c with
  | false => rfl
  | true =>
    exfalso
    have hx : ∀ u ∈ x, isWB u = true := fun u hu => by rw [← h] at hu; exact lead_word _ u hu
    have h2 : lead (x ++ c :: t) = x ++ lead (c :: t) := by
      unfold lead
      clear h
      induction x with
      | nil => rfl
      | cons a x ih => rw [List.cons_append, List.takeWhile_cons_of_pos (hx a (by simp)), ih (fun u hu => hx u (by simp [hu])), List.cons_append]
    rw [h2] at h
    have h3 := congrArg List.length h
    unfold lead at h3
    rw [List.takeWhile_cons_of_pos hc] at h3
    simp at h3
theorem leadS_all {x y : List UInt8} (hw : IsW x) (hy : ∀ c t, y = c :: t → isWB c = false) : leadS (x ++ y) = x := by
  have hy2 : ∀ c t, y = c :: t → isLD c = false := fun c t e => by
    cases hc : isLD c with
    | false => rfl
    | true => have := ld_wb hc; rw [hy c t e] at this; cases this
  rcases hw with ⟨h1, h2⟩ | ⟨c, r, rfl, hc, hr⟩
  · cases x with
    | nil => exact absurd rfl h2
    | cons c x =>
      have := takeWhile_all isLD (c :: x) y h1 hy2
      rw [List.cons_append] at this ⊢
      rw [leadS_cons, if_neg (ld_not (h1 c (by simp)))]
      exact this
  · rw [List.cons_append]
    rw [leadS_cons, if_pos hc, takeWhile_all isLD r y hr hy2]
theorem leadS_of {x y : List UInt8} (hw : IsW x) (h : lead (x ++ y) = x) : leadS (x ++ y) = x := leadS_all hw (stop_of_lead h)
theorem isW_any : IsW [95] := .inr ⟨95, [], rfl, .inr rfl, by simp⟩
theorem isW_word {t : ByteArray} (h : Word 97 122 t ∨ Word 65 90 t) : IsW t.data.toList := by
  refine .inl ⟨fun c hc => ?_, fun e => ?_⟩
  · obtain ⟨j, hj, rfl⟩ := List.mem_iff_getElem.1 hc
    have hj2 : j < t.size := hj
    unfold isLD
    simp only [Bool.or_eq_true, bl_iff, Bool.and_eq_true, decide_eq_true_eq]
    have e : (t.data.toList[j] : UInt8) = t[j] := rfl
    rw [e]
    by_cases h0 : j = 0
    · subst h0
      rcases h with h | h
      · have := h.2.2.1 hj2; omega
      · have := h.2.2.1 hj2; omega
    · have hg : Good t[j] := by
        rcases h with h | h
        · exact h.2.2.2 j hj2 (by omega)
        · exact h.2.2.2 j hj2 (by omega)
      unfold Good at hg
      omega
  · have e2 : t.data.toList.length = t.size := rfl
    rw [e] at e2
    simp at e2
    rcases h with h | h
    · have := h.1; omega
    · have := h.1; omega
theorem isW_int (n : Int) : IsW (Lib.itoa n) := by
  have hd : ∀ u : Nat, ∀ x ∈ Lib.decDigits u, isLD x = true := fun u x hx => by
    have := dec_digits u x hx
    unfold isDig at this
    unfold isLD
    simp only [Bool.or_eq_true, bl_iff, Bool.and_eq_true, decide_eq_true_eq]
    omega
  by_cases h : 0 ≤ n
  · obtain ⟨u, rfl⟩ : ∃ u : Nat, n = u := ⟨n.toNat, by omega⟩
    rw [Lib.itoa_nonneg]
    exact .inl ⟨hd u, dec_ne_nil u⟩
  · obtain ⟨u, rfl⟩ : ∃ u : Nat, n = -(u : Int) := ⟨(-n).toNat, by omega⟩
    rw [Lib.itoa_neg u (by omega)]
    exact .inr ⟨45, _, rfl, .inl rfl, hd u⟩
/-- What l4Word reads. -/
theorem extract_leadS {s : ByteArray} {k j : Nat} (hk : k ≤ s.size) (h1 : begins s k ≤ j) (h2 : j ≤ s.size) (h3 : ∀ i (hi : i < s.size), begins s k ≤ i → i < j → isLD s[i] = true) (h4 : ∀ hj : j < s.size, isLD s[j] = false) :
    (s.extract k j).data.toList = leadS (s.data.toList.drop k) ∧ s.data.toList.drop k = (s.extract k j).data.toList ++ s.data.toList.drop j := by
  have hsl : s.data.toList.length = s.size := rfl
  have hkj : k ≤ j := by unfold begins at h1; split at h1 <;> omega
  have hdec : s.data.toList.drop k = (s.extract k j).data.toList ++ s.data.toList.drop j := by
    rw [extract_toList]
    have : s.data.toList.drop j = (s.data.toList.drop k).drop (j - k) := by rw [List.drop_drop]; congr 1; omega
    rw [this, List.take_append_drop]
  refine ⟨?_, hdec⟩
  have hstop : ∀ c t, s.data.toList.drop j = c :: t → isLD c = false := fun c t e => by
    have hj : j < s.size := by
      rcases Nat.lt_or_ge j s.size with h | h
      · exact h
      · rw [List.drop_eq_nil_of_le (by omega)] at e; cases e
    have hc : c = s[j] := by
      rw [List.drop_eq_getElem_cons (by omega)] at e
      injection e with e1 _
      exact e1.symm
    rw [hc]
    exact h4 hj
  have hin : ∀ i, begins s k ≤ i → i < j → ∀ hi : i < s.data.toList.length, isLD s.data.toList[i] = true := fun i a b hi => h3 i (by omega) a b
  have hx : (s.extract k j).data.toList = (s.data.toList.drop k).take (j - k) := extract_toList s k j
  by_cases hb : (sees s k [45] || sees s k [95]) = true
  · have hbk : begins s k = k + 1 := by unfold begins; rw [if_pos hb]
    rw [hbk] at h1 hin
    obtain ⟨c, t, e, hc⟩ : ∃ c t, s.data.toList.drop k = c :: t ∧ (c = 45 ∨ c = 95) := by
      rcases Bool.or_eq_true .. |>.mp hb with h | h
      · obtain ⟨x, e⟩ := List.isPrefixOf_iff_prefix.1 h; exact ⟨45, x, e.symm, .inl rfl⟩
      · obtain ⟨x, e⟩ := List.isPrefixOf_iff_prefix.1 h; exact ⟨95, x, e.symm, .inr rfl⟩
    have ht : t = s.data.toList.drop (k + 1) := by rw [← List.drop_drop, e]; rfl
    rw [e]
    rw [leadS_cons, if_pos hc, hx, e, show j - k = (j - (k + 1)) + 1 by omega, List.take_succ_cons]
    congr 1
    have hd2 : t = t.take (j - (k + 1)) ++ s.data.toList.drop j := by
      have : s.data.toList.drop j = t.drop (j - (k + 1)) := by rw [ht, List.drop_drop]; congr 1; omega
      rw [this, List.take_append_drop]
    have := takeWhile_all isLD (t.take (j - (k + 1))) (s.data.toList.drop j) (fun c hc => by
      obtain ⟨i, hi, rfl⟩ := List.mem_iff_getElem.1 hc
      rw [List.getElem_take]
      simp only [ht, List.getElem_drop]
      simp only [List.length_take, ht, List.length_drop] at hi
      exact hin _ (by omega) (by omega) (by omega)) hstop
    rw [← hd2] at this
    exact this.symm
  · have hbk : begins s k = k := by unfold begins; rw [if_neg hb]
    rw [hbk] at h1 hin
    have hall := takeWhile_all isLD ((s.data.toList.drop k).take (j - k)) (s.data.toList.drop j) (fun c hc => by
      obtain ⟨i, hi, rfl⟩ := List.mem_iff_getElem.1 hc
      rw [List.getElem_take, List.getElem_drop]
      simp only [List.length_take, List.length_drop] at hi
      exact hin _ (by omega) (by omega) (by omega)) hstop
    rw [← hx, ← hdec] at hall
    rw [← hall]
    cases e : s.data.toList.drop k with
    | nil => rfl
    | cons c t =>
      rw [leadS_cons, if_neg]
      rintro (rfl | rfl)
      · refine hb (Bool.or_eq_true .. |>.mpr (.inl ?_))
        unfold sees
        rw [e]
        simp
      · refine hb (Bool.or_eq_true .. |>.mpr (.inr ?_))
        unfold sees
        rw [e]
        simp
end Go.Proofs.YtijbaienhaiamaaDoor
end

/- What is proved here: the specification's l4Quote. Conditions: as for the reader. -/
section
namespace Go.Proofs.YtijbaienhaiamaaDoor
open Go.RowKit

/-- The bytes ahead of the first double quote. -/
def ahead (s : List UInt8) : List UInt8 := s.takeWhile (fun c => decide (c.toNat ≠ 34))

set_option maxRecDepth 100000 in
theorem spec_min (a c : Int) (w : World) : Calls Tryd.prog 36 #[.int .i64 a, .int .i64 c] w fun e w' => e = .returned (.int .i64 (if a < c then a else c)) ∧ w' = w := by
  by_cases h : a < c
  · go_enter Tryd.func36, Tryd.ntmps36
    go_wp2
    go_ret
    exact ⟨rfl, rfl⟩
  · go_enter Tryd.func36, Tryd.ntmps36
    go_wp2
    go_ret
    exact ⟨rfl, rfl⟩
/-- The text up to the quote at j. -/
theorem quote_at (s : ByteArray) (k j : Nat) (hkj : k ≤ j) (hlt : j < s.size) (h34 : s[j].toNat = 34) (hno : ∀ i (hi : i < s.size), k ≤ i → i < j → s[i].toNat ≠ 34) : splitQ (s.data.toList.drop k) = some ((s.extract k j).data.toList, s.data.toList.drop (j + 1)) := by
  have hl : s.data.toList.length = s.size := rfl
  have e1 : s.data.toList.drop k = (s.extract k j).data.toList ++ 34 :: s.data.toList.drop (j + 1) := by
    rw [extract_toList]
    have h1 := (List.take_append_drop (j - k) (s.data.toList.drop k)).symm
    rw [List.drop_drop, show k + (j - k) = j by omega] at h1
    have h0 := List.drop_eq_getElem_cons (l := s.data.toList) (i := j) (by omega)
    rw [h0] at h1
    have h2 : s.data.toList[j]'(by omega) = 34 := UInt8.toNat_inj.1 h34
    rw [h2] at h1
    exact h1
  rw [e1]
  refine splitQ_eq _ _ (fun c hc e => ?_)
  rw [extract_toList] at hc
  obtain ⟨i, hi, rfl⟩ := List.mem_iff_getElem.1 hc
  rw [List.length_take, List.length_drop] at hi
  rw [List.getElem_take, List.getElem_drop] at e
  refine hno (k + i) (by omega) (by omega) (by omega) ?_
  exact congrArg UInt8.toNat e
theorem quote_end (s : ByteArray) (k : Nat) (hno : ∀ i (hi : i < s.size), k ≤ i → i < s.size → s[i].toNat ≠ 34) : splitQ (s.data.toList.drop k) = none := by
  have hl : s.data.toList.length = s.size := rfl
  cases h : splitQ (s.data.toList.drop k) with
  | none => rfl
  | some p =>
    obtain ⟨a, c⟩ := p
    have h1 := (splitQ_some h).1
    have h2 : (34 : UInt8) ∈ s.data.toList.drop k := by rw [h1]; simp
    obtain ⟨i, hi, e⟩ := List.mem_iff_getElem.1 h2
    rw [List.length_drop] at hi
    rw [List.getElem_drop] at e
    exact absurd (congrArg UInt8.toNat e) (hno (k + i) (by omega) (by omega) (by omega))
theorem sees_at (s : ByteArray) (j : Nat) (hlt : j < s.size) (h34 : s[j].toNat = 34) : sees s j [34] = true := by
  have hl : s.data.toList.length = s.size := rfl
  unfold sees
  rw [List.drop_eq_getElem_cons (by omega)]
  have h2 : s.data.toList[j]'(by omega) = 34 := UInt8.toNat_inj.1 h34
  rw [h2]
  rfl
theorem sees_end (s : ByteArray) : sees s s.size [34] = false := by
  have hl : s.data.toList.length = s.size := rfl
  unfold sees
  rw [List.drop_of_length_le (by omega)]
  rfl
theorem min_at (j n : Nat) (h : j ≤ 1048576) (W : World) : Calls Tryd.prog 36 #[.int .i64 (IntKind.i64.wrap ((j : Int) + 1)), .int .i64 (n : Int)] W fun e w' => e = .returned (.int .i64 ((min (j + 1) n : Nat) : Int)) ∧ w' = W := by
  have e : IntKind.i64.wrap ((j : Int) + 1) = (j : Int) + 1 := by rw [IntKind.wrap_i64]; omega
  rw [e]
  refine (spec_min _ _ W).mono ?_
  rintro e w' ⟨rfl, rfl⟩
  refine ⟨?_, rfl⟩
  congr 2
  split <;> omega
/-- What l4Quote ends as. -/
def QuoteEnd (b : Nat) (s : ByteArray) (o : Option (List UInt8 × List UInt8)) (e : Ending) (w' : World) : Prop :=
  (∃ p, o = some p ∧ e = .returned (.string (str p.1)) ∧ SAt w' b s (s.size - p.2.length) false) ∨ (o = none ∧ ∃ t j, e = .returned (.string t) ∧ t.size ≤ 1048576 ∧ j ≤ s.size ∧ SAt w' b s j true)
theorem quote_done {w w2 : World} {b : Nat} {s : ByteArray} {j : Nat} {bad : Bool} (h : SAt w2 b s j bad) (hO : Only (Just b) w w2) (v : Bool) (q : Nat) :
    SAt ((w2.setCell ⟨b, 2, none⟩ (.bool v)).setCell ⟨b, 1, none⟩ (.int .i64 (q : Int))).drew b s q v ∧ Only (Just b) w ((w2.setCell ⟨b, 2, none⟩ (.bool v)).setCell ⟨b, 1, none⟩ (.int .i64 (q : Int))).drew := by
  have h1 := (h.fail v).go q
  have hd := below_drewN (Below.refl ((w2.setCell ⟨b, 2, none⟩ (.bool v)).setCell ⟨b, 1, none⟩ (.int .i64 (q : Int))).heap.size ((w2.setCell ⟨b, 2, none⟩ (.bool v)).setCell ⟨b, 1, none⟩ (.int .i64 (q : Int)))) 1
  exact ⟨h1.below hd, ((hO.trans (Only.setCell (F := Just b) (p := ⟨b, 2, none⟩) rfl _)).trans (Only.setCell (F := Just b) (p := ⟨b, 1, none⟩) rfl _)).trans (just_below hd)⟩
set_option maxHeartbeats 2000000 in
set_option maxRecDepth 100000 in
theorem spec_quote (w : World) (b : Nat) (s : ByteArray) (k : Nat) (h : SAt w b s k false) (hs : s.size ≤ 1048576) (hk : k ≤ s.size) :
    Calls Tryd.prog 18 #[.pointer (some ⟨b, 0, none⟩)] w fun e w' => QuoteEnd b s (quoted (s.data.toList.drop k)) e w' ∧ Only (Just b) w w' := by
  have H := Lib.hid h
  obtain ⟨c0, c1, c2, _, _⟩ := h.cells
  clear h
  go_enter Tryd.func18, Tryd.ntmps18
  go_wp2
  clear c0 c1 c2
  go_loopg [] 1048576 (fun gg wr => ∃ j, j ≤ s.size ∧ k ≤ j ∧ s.size - j ≤ gg ∧ gg ≤ 1048576 ∧ Hid (SAt wr b s j false) ∧ Hid (∀ i (hi : i < s.size), k ≤ i → i < j → s[i].toNat ≠ 34) ∧ Hid (Only (Just b) w wr))
  case atStart => exact ⟨k, hk, Nat.le_refl _, by omega, Nat.le_refl _, H, fun i hi h1 h2 => by omega, Only.refl _ _⟩
  case round =>
    obtain ⟨j, hj, hkj, hjg, hgk, hS, hno, hO⟩ := hrel
    obtain ⟨c0, c1, c2, f1, f2⟩ := hS.out.cells
    by_cases hlt : j < s.size
    · have e1 : decide ((j : Int) < (s.size : Int)) = true := by simp; omega
      by_cases h34 : s[j].toNat = 34
      · have HSee : Hid (∀ W, Below wr.heap.size wr W → Calls Tryd.prog 34 #[.pointer (some ⟨b, 0, none⟩), .string (str [34])] W fun e w' => e = .returned (.bool (sees s j [34])) ∧ Below W.heap.size W w') := fun W hW => spec_sees W b s j false [34] (hS.out.below hW) hs hj (by simp)
        have hsee : sees s j [34] = true := sees_at s j hlt h34
        have HQ : Hid (quoted (s.data.toList.drop k) = if bl (ValidText (s.extract k j)) = true then some ((s.extract k j).data.toList, s.data.toList.drop (j + 1)) else none) := by
          unfold Hid quoted
          rw [quote_at s k j hkj hlt h34 hno.out]
          simp only [Option.bind_some, str_data]
        have HTS : Hid ((s.extract k j).size ≤ 1048576) := by
          have h1 : (s.extract k j).size = (s.extract k j).data.toList.length := rfl
          have hl : s.data.toList.length = s.size := rfl
          rw [extract_toList, List.length_take, List.length_drop] at h1
          unfold Hid
          omega
        rw [hsee] at HSee
        have htx := fun W => spec_text (s.extract k j) (by unfold maxLen; have := HTS.out; omega) W
        generalize hbl : bl (ValidText (s.extract k j)) = vb at *
        generalize hte : s.extract k j = te at *
        go_wp2
        go_quiet (fail)
        go_wp2
        go_quiet (fail)
        go_wp2_with fail
        refine (HSee.out _ (by first | exact below_drewN (below_drewN (Below.refl _ _) _) _ | exact below_drewN (Below.refl _ _) _)).mono ?_
        rintro e w1 ⟨rfl, hb1⟩
        go_wp2_with fail
        refine (htx _).mono ?_
        rintro e w2 ⟨rfl, hb2⟩
        have hB1 : Below wr.heap.size wr w1 := by
          first
            | exact (below_drewN (below_drewN (Below.refl _ _) _) _).trans (hb1.mono (Nat.le_refl _))
            | exact (below_drewN (Below.refl _ _) _).trans (hb1.mono (Nat.le_refl _))
        have hB2 : Below wr.heap.size wr w2 := hB1.trans (hb2.mono hB1.size)
        have hS2 := hS.out.below hB2
        obtain ⟨d0, d1, d2, g1, g2⟩ := hS2.cells
        clear c0 c1 c2 f1 f2
        have hmin := min_at j s.size (by omega)
        have HEnd := Lib.hid (quote_done hS2 (hO.out.trans (just_below hB2)) (!vb) (min (j + 1) s.size))
        clear hb1 hb2 hB1 hS2 hB2 hsee HSee htx hS hO hno hjg hgk
        go_wp2
        go_region_with (go_at_call 36; with_reducible refine (hmin _).mono ?_; rintro e w3 ⟨rfl, rfl⟩)
        all_goals
          go_wp2
          go_ret
          refine ⟨?_, HEnd.out.2⟩
          rw [HQ.out]
          have hend := HEnd.out.1
          cases vb with
          | true =>
            rw [if_pos rfl]
            refine .inl ⟨_, rfl, by rw [str_data]; rfl, ?_⟩
            have hl : s.data.toList.length = s.size := rfl
            have e3 : s.size - (s.data.toList.drop (j + 1)).length = min (j + 1) s.size := by rw [List.length_drop]; omega
            show SAt _ b s (s.size - (s.data.toList.drop (j + 1)).length) false
            rw [e3]
            exact hend
          | false =>
            rw [if_neg (by decide)]
            exact .inr ⟨rfl, te, min (j + 1) s.size, rfl, HTS.out, by omega, hend⟩
      · have HG : Hid (∀ n, SAt ((wr.drewN n).setCell ⟨b, 1, none⟩ (.int .i64 ((j : Int) + 1))) b s (j + 1) false ∧ Only (Just b) w ((wr.drewN n).setCell ⟨b, 1, none⟩ (.int .i64 ((j : Int) + 1)))) := fun n => by
          have hb := below_drewN (Below.refl wr.heap.size wr) n
          have h1 := (hS.out.below hb).go (j + 1)
          rw [Int.natCast_add] at h1
          exact ⟨h1, (hO.out.trans (just_below hb)).trans (Only.setCell (F := Just b) (p := ⟨b, 1, none⟩) rfl _)⟩
        have HNO : Hid (∀ i (hi : i < s.size), k ≤ i → i < j + 1 → s[i].toNat ≠ 34) := fun i hi h1 h2 => by
          by_cases he : i = j
          · subst he; exact h34
          · exact hno.out i hi h1 (by omega)
        clear hS hO hno
        go_wp2
        go_quiet (fail)
        go_wp2
        go_roundg (gk - 1)
        case rel => exact ⟨j + 1, by omega, by omega, by omega, by omega, (HG.out _).1, HNO, (HG.out _).2⟩
        case measure => omega
    · have e1 : decide ((j : Int) < (s.size : Int)) = false := by simp; omega
      obtain rfl : j = s.size := by omega
      have HSee : Hid (∀ W, Below wr.heap.size wr W → Calls Tryd.prog 34 #[.pointer (some ⟨b, 0, none⟩), .string (str [34])] W fun e w' => e = .returned (.bool (sees s s.size [34])) ∧ Below W.heap.size W w') := fun W hW => spec_sees W b s s.size false [34] (hS.out.below hW) hs (Nat.le_refl _) (by simp)
      rw [sees_end] at HSee
      have HQ : Hid (quoted (s.data.toList.drop k) = none) := by
        unfold Hid quoted
        rw [quote_end s k hno.out]
        rfl
      have HTS : Hid ((s.extract k s.size).size ≤ 1048576) := by
        have h1 : (s.extract k s.size).size = (s.extract k s.size).data.toList.length := rfl
        have hl : s.data.toList.length = s.size := rfl
        rw [extract_toList, List.length_take, List.length_drop] at h1
        unfold Hid
        omega
      generalize hte : s.extract k s.size = te at *
      have HLE : Hid (s.size ≤ 1048576) := hs
      go_wp2
      go_quiet (fail)
      go_wp2
      go_quiet (fail)
      go_wp2_with fail
      refine (HSee.out _ (by first | exact below_drewN (below_drewN (Below.refl _ _) _) _ | exact below_drewN (Below.refl _ _) _)).mono ?_
      rintro e w1 ⟨rfl, hb1⟩
      have hB1 : Below wr.heap.size wr w1 := by
        first
          | exact (below_drewN (below_drewN (Below.refl _ _) _) _).trans (hb1.mono (Nat.le_refl _))
          | exact (below_drewN (Below.refl _ _) _).trans (hb1.mono (Nat.le_refl _))
      have hS2 := hS.out.below hB1
      obtain ⟨d0, d1, d2, g1, g2⟩ := hS2.cells
      clear c0 c1 c2 f1 f2
      have hmin := min_at s.size s.size (by omega)
      have HEnd := Lib.hid (quote_done hS2 (hO.out.trans (just_below hB1)) true s.size)
      clear hb1 hB1 hS2 HSee hS hO hno hjg hgk
      go_wp2
      go_region_with (go_at_call 36; with_reducible refine (hmin _).mono ?_; rintro e w3 ⟨rfl, rfl⟩)
      all_goals
        go_wp2
        go_ret
        refine ⟨?_, HEnd.out.2⟩
        rw [HQ.out]
        exact .inr ⟨rfl, te, s.size, rfl, HTS.out, Nat.le_refl _, HEnd.out.1⟩
end Go.Proofs.YtijbaienhaiamaaDoor
end

/- What is proved here: the model's ParseInt. Condition: the text has at most 2^20 bytes. -/
section
namespace Go.Proofs.YtijbaienhaiamaaDoor
open Go.RowKit

set_option maxRecDepth 100000 in
theorem spec_ParseInt (s : ByteArray) (hs : s.size ≤ 1048576) (w : World) :
    Calls Tryd.prog 20 #[.string s] w fun e w' => e = readEnd (readOf (-999999999999) 999999999999 s.data.toList) ∧ Below w.heap.size w w' := by
  rw [← specRead_twelve]
  have hs' : s.size ≤ maxLen := by unfold maxLen; omega
  have H := spec_read s 12 (by omega) (by omega) hs' w
  cases hR : specRead 12 s.data.toList with
  | some n =>
    rw [hR] at H
    go_enter Tryd.func20, Tryd.ntmps20
    go_wp2_with fail
    refine H.mono ?_
    rintro e w1 ⟨he, hb⟩
    obtain rfl : e = .returned (.tuple #[.int .i64 n, .bool true]) := he
    go_wp2
    go_ret2
    exact ⟨rfl, hb⟩
  | none =>
    rw [hR] at H
    go_enter Tryd.func20, Tryd.ntmps20
    go_wp2_with fail
    refine H.mono ?_
    rintro e w1 ⟨he, hb⟩
    obtain rfl : e = .returned (.tuple #[.int .i64 0, .bool false]) := he
    go_wp2
    go_ret2
    exact ⟨rfl, hb⟩

end Go.Proofs.YtijbaienhaiamaaDoor
end

/- What is proved here: the function that reads an argument (readCon$1). Condition: read answers as said at the next depth. -/
section
namespace Go.Proofs.YtijbaienhaiamaaDoor.Va
open Go.RowKit

set_option maxHeartbeats 1000000 in
set_option maxRecDepth 100000 in
theorem impl_readArg (b d : Nat) (HR : ReadOk b (d + 1)) (w : World) (s : List UInt8) (m cr cd : Nat) (hd : d ≤ 12) (h1 : w.cell? ⟨cr, 0, none⟩ = some (.pointer (some ⟨b, 0, none⟩))) (h2 : w.cell? ⟨cd, 0, none⟩ = some (.int .i64 (d : Int))) (hm : m ≤ 40) (h : RdAt w b TR s m 40 12) (hl : s.length ≤ 1048576) (hk : Keeps b w) :
    Calls Tryd.prog 50 #[.pointer (some ⟨cr, 0, none⟩), .pointer (some ⟨cd, 0, none⟩)] w fun e w' => Ans w b s m (d + 1) e w' ∧ Only (Just b) w w' := by
  have hlt := h.lt
  have hB : Below w.heap.size w (w.alloc zeroBox) := (Below.refl _ _).alloc (Nat.le_refl _) _
  have g1 := cell_below h1 hB
  have g2 := cell_below h2 hB
  obtain ⟨w1, hw1⟩ : ∃ w1, w1 = w.alloc zeroBox := ⟨_, rfl⟩
  have hb1 : PBox w1 w.heap.size 0 0 ⟨#[]⟩ (.slice none 0 0) := by rw [hw1]; exact heap_at_new w _
  have hB1 : Only (Just b) w w1 := by rw [hw1]; exact (Only.refl _ _).more _
  have hR1 : RdAt w1 b TR s m 40 12 := by rw [hw1]; exact h.below hB
  have hs1 : w1.heap.size = w.heap.size + 1 := by rw [hw1]; exact Array.size_push _
  have HC : Calls Tryd.prog 13 #[.pointer (some ⟨b, 0, none⟩), .int .i64 ((d : Int) + 1)] w1 fun e w' => Ans w1 b s m (d + 1) e w' ∧ Only (Just b) w1 w' := HR w1 s m hR1 hm hl (hk.on hB1)
  have HW1 := Lib.hid hw1
  have H1 : Hid (PBox w1 w.heap.size 0 0 ⟨#[]⟩ (.slice none 0 0) ∧ Only (Just b) w w1 ∧ w1.heap.size = w.heap.size + 1 ∧ b < w.heap.size) := ⟨hb1, hB1, hs1, hlt⟩
  have HC1 := Lib.hid HC
  clear hw1 HR HC hb1 hB1 hR1 hs1 hlt hk hl hm h hB h1 h2
  go_enter Tryd.func50, Tryd.ntmps50
  go_wp2_with fail
  rw [← HW1.out]
  refine HC1.out.mono ?_
  clear HC1 g1 g2
  rintro e w2 ⟨hAns, hO2⟩
  obtain ⟨a1, a2, a3, a4⟩ := H1.out
  have hb2 : PBox w2 w.heap.size 0 0 ⟨#[]⟩ (.slice none 0 0) := (hO2.block _ (by omega) (by show ¬ (w.heap.size = b); omega)).trans a1
  have H2 : Hid (PBox w2 w.heap.size 0 0 ⟨#[]⟩ (.slice none 0 0) ∧ Only (Just b) w w2) := ⟨hb2, a2.trans hO2⟩
  obtain ⟨x0, x1, x2, x3, f0, f1, f2, f3⟩ := four_cells hb2
  clear hb2 hO2 a1 a2 a3 a4
  rcases hAns with ⟨p, s2, m2, v, bs, rfl, ho, hnd, hbs, hR2, hP⟩ | ⟨s2, m2, rfl, hR2, hP⟩
  · obtain ⟨p2, cap2, rfl, _, _⟩ := ho.reads
    have H3 : Hid (OwnV w2 (.slice p2 p.F.length cap2) p.F bs ∧ bs.Nodup ∧ (∀ c ∈ bs, w1.heap.size ≤ c ∧ c < w2.heap.size) ∧ RdAt w2 b TR s2 m2 40 12 ∧ OkP 40 12 s m (d + 1) p s2 m2) := ⟨ho, hnd, hbs, hR2, hP⟩
    clear ho hnd hbs hR2 hP
    go_wp2
    refine bodyPost_ret (results_row_tmp rfl _ _ w.heap.size _ _ _ _ rfl (set4_box H2.out.1 _ _ _ _) Tryd.underlying24 rfl (by kernel_rfl)) rfl ?_
    obtain ⟨k1, k2, k3, k4, k5⟩ := H3.out
    have q1 := H1.out.2.2.1
    have q2 := H1.out.2.2.2
    exact ans_some (p := p) rfl k1 k2 (fun c hc => by have := k3 c hc; omega) (fun c hc => by have := k3 c hc; omega) k4 k5 H2.out.2 (Nat.le_refl _) (by omega)
  · have H3 : Hid (RdAt w2 b TR s2 m2 40 12 ∧ NoneP 40 s m (d + 1)) := ⟨hR2, hP⟩
    clear hR2 hP
    go_wp2
    refine bodyPost_ret (results_row_tmp rfl _ _ w.heap.size _ _ _ _ rfl (set4_box H2.out.1 _ _ _ _) Tryd.underlying24 rfl (by kernel_rfl)) rfl ?_
    have q2 := H1.out.2.2.2
    exact ans_none rfl H3.out.1 H3.out.2 H2.out.2 (Nat.le_refl _) (by omega)
end Go.Proofs.YtijbaienhaiamaaDoor.Va
end

/- What is proved here: a row of nodes that append makes longer, in a block of the call's own, and what lies below its nodes in blocks of the call's own, no two in one. No condition. -/
section
namespace Go.Proofs.YtijbaienhaiamaaDoor
open Go.RowKit

/-- The cells of a row of nodes; bs: the blocks of what is below them. -/
def RowV (w : World) : Trees → List Value → List Nat → Prop
  | .nil, xs, bs => xs = [] ∧ bs = []
  | .cons k n t ar r, xs, bs => ∃ v b1 b2 ys, xs = .int .i64 k :: .int .i64 n :: .string t :: v :: ys ∧ bs = b1 ++ b2 ∧ OwnV w v ar b1 ∧ RowV w r ys b2
theorem RowV.keep {w w' : World} : ∀ (F : Trees) (xs : List Value) (bs : List Nat), RowV w F xs bs → (∀ b ∈ bs, w'.heap[b]? = w.heap[b]?) → RowV w' F xs bs := by
  intro F
  induction F with
  | nil => intro xs bs h _; exact h
  | cons k n t ar r _ ih =>
    rintro xs bs ⟨v, b1, b2, ys, rfl, rfl, h1, h2⟩ hk
    exact ⟨v, b1, b2, ys, rfl, rfl, h1.keep (fun b hb => hk b (List.mem_append_left _ hb)), ih ys b2 h2 (fun b hb => hk b (List.mem_append_right _ hb))⟩
theorem RowV.length {w : World} : ∀ (F : Trees) (xs : List Value) (bs : List Nat), RowV w F xs bs → xs.length = F.length * 4 := by
  intro F
  induction F with
  | nil => rintro xs bs ⟨rfl, rfl⟩; rfl
  | cons k n t ar r _ ih =>
    rintro xs bs ⟨v, b1, b2, ys, rfl, rfl, h1, h2⟩
    have := ih ys b2 h2
    simp [Trees.length]
    omega
theorem RowV.snoc {w : World} {k n : Int} {t : ByteArray} {ar : Trees} {v : Value} {c : List Nat} (hx : OwnV w v ar c) : ∀ (F : Trees) (xs : List Value) (bs : List Nat), RowV w F xs bs → RowV w (F.snoc k n t ar) (xs ++ [.int .i64 k, .int .i64 n, .string t, v]) (bs ++ c) := by
  intro F
  induction F with
  | nil => rintro xs bs ⟨rfl, rfl⟩; exact ⟨v, c, [], [], rfl, by simp, hx, rfl, rfl⟩
  | cons k2 n2 t2 ar2 r _ ih =>
    rintro xs bs ⟨v2, b1, b2, ys, rfl, rfl, h1, h2⟩
    exact ⟨v2, b1, b2 ++ c, _, rfl, by simp, h1, ih ys b2 h2⟩
theorem RowV.row {w : World} {g : Nat} : ∀ (F : Trees) (xs : List Value) (bs : List Nat) (i : Nat), RowV w F xs bs → (∀ o, o < xs.length → w.cell? ⟨g, i * 4 + o, none⟩ = xs[o]?) → RowIn w F g i bs := by
  intro F
  induction F with
  | nil => rintro xs bs i ⟨rfl, rfl⟩ _; rfl
  | cons k n t ar r _ ih =>
    rintro xs bs i ⟨v, b1, b2, ys, rfl, rfl, h1, h2⟩ hc
    have hl := RowV.length r ys b2 h2
    refine ⟨v, b1, b2, rfl, ?_, ?_, ?_, ?_, h1, ih ys b2 (i + 1) h2 (fun o ho => ?_)⟩
    · have := hc 0 (by simp); simpa using this
    · have := hc 1 (by simp); simpa using this
    · have := hc 2 (by simp); simpa using this
    · have := hc 3 (by simp); simpa using this
    · have := hc (o + 4) (by simp; omega)
      rw [show (i + 1) * 4 + o = i * 4 + (o + 4) by omega, this]
      rfl

/-- v is a slice of the nodes F that the call may append to; bs: the blocks of what is below them. -/
structure GrowV (w : World) (B : Nat) (v : Value) (F : Trees) (bs : List Nat) (xs : List Value) : Prop where
  owns : w.ownsRow B 24 4 v F.length xs
  row : RowV w F xs bs
  nodup : bs.Nodup
  near : ∀ b ∈ bs, B ≤ b ∧ b < w.heap.size ∧ v.ownBlock ≠ some b
theorem GrowV.nil (w : World) (B : Nat) : GrowV w B (.slice none 0 0) .nil [] [] := ⟨⟨rfl, .inl ⟨rfl, rfl⟩⟩, ⟨rfl, rfl⟩, List.nodup_nil, by simp⟩
theorem GrowV.form {w : World} {B : Nat} {v : Value} {F : Trees} {bs : List Nat} {xs : List Value} (h : GrowV w B v F bs xs) : ∃ a cap, v = .slice a F.length cap := by
  rcases h.owns.2 with ⟨h1, h2⟩ | ⟨g, cap, cur, rfl, _⟩
  · exact ⟨none, 0, by rw [h1, h2]⟩
  · exact ⟨_, cap, rfl⟩
theorem GrowV.own {w : World} {B : Nat} {v : Value} {F : Trees} {bs : List Nat} {xs : List Value} (h : GrowV w B v F bs xs) : ∃ cs, OwnV w v F cs ∧ cs.Nodup ∧ ∀ b ∈ cs, B ≤ b ∧ b < w.heap.size := by
  rcases h.owns.2 with ⟨h1, h2⟩ | ⟨g, cap, cur, rfl, hB, hg, h1, h2, h3, h4⟩
  · have hF : F = .nil := by
      cases F with
      | nil => rfl
      | cons _ _ _ _ _ => simp [Trees.length] at h2
    exact ⟨[], .inl ⟨none, 0, h1, hF, rfl⟩, List.nodup_nil, by simp⟩
  · refine ⟨g :: bs, .inr ⟨g, cap, bs, rfl, h1, rfl, ⟨cur, hg⟩, RowV.row F xs bs 0 h.row (fun o ho => ?_)⟩, List.nodup_cons.2 ⟨fun hm => (h.near g hm).2.2 rfl, h.nodup⟩, fun b hb => ?_⟩
    · have hl := RowV.length F xs bs h.row
      rw [Nat.zero_mul, Nat.zero_add, h.owns.cellAt o (by omega)]
    · rcases List.mem_cons.1 hb with rfl | hb
      · exact ⟨hB, (Array.getElem?_eq_some_iff.1 hg).1⟩
      · exact ⟨(h.near b hb).1, (h.near b hb).2.1⟩
theorem GrowV.below {w w' : World} {B : Nat} {v : Value} {F : Trees} {bs : List Nat} {xs : List Value} (h : GrowV w B v F bs xs) (hb : Below w.heap.size w w') : GrowV w' B v F bs xs := by
  refine ⟨⟨h.owns.1, ?_⟩, h.row.keep F xs bs (fun b hm => hb.block b (h.near b hm).2.1), h.nodup, fun b hm => ⟨(h.near b hm).1, Nat.lt_of_lt_of_le (h.near b hm).2.1 hb.size, (h.near b hm).2.2⟩⟩
  rcases h.owns.2 with h | ⟨g, cap, cur, rfl, hB, hg, h1, h2, h3, h4⟩
  · exact .inl h
  · exact .inr ⟨g, cap, cur, rfl, hB, by rw [hb.block g (Array.getElem?_eq_some_iff.1 hg).1]; exact hg, h1, h2, h3, h4⟩
/-- The same row where only other blocks were written. -/
theorem GrowV.aside {w : World} {B : Nat} {v : Value} {F : Trees} {bs : List Nat} {xs : List Value} (h : GrowV w B v F bs xs) (g o : Nat) (u : Value) (hg : g < B) : GrowV (w.setCell ⟨g, o, none⟩ u) B v F bs xs := by
  have hk : ∀ b, B ≤ b → (w.setCell ⟨g, o, none⟩ u).heap[b]? = w.heap[b]? := fun b hb => Below.heap_setCell _ _ _ _ (by show b ≠ g; omega)
  refine ⟨⟨h.owns.1, ?_⟩, h.row.keep F xs bs (fun b hm => hk b (h.near b hm).1), h.nodup, fun b hm => ⟨(h.near b hm).1, by simpa [World.setCell] using (h.near b hm).2.1, (h.near b hm).2.2⟩⟩
  rcases h.owns.2 with h | ⟨g', cap, cur, rfl, hB, hg', h1, h2, h3, h4⟩
  · exact .inl h
  · exact .inr ⟨g', cap, cur, rfl, hB, by rw [hk g' hB]; exact hg', h1, h2, h3, h4⟩
theorem GrowV.far {w : World} {B : Nat} {v : Value} {F : Trees} {bs : List Nat} {xs : List Value} (h : GrowV w B v F bs xs) (b : Nat) (hb : v.ownBlock = some b) : B ≤ b := by
  rcases h.owns.2 with ⟨e, _⟩ | ⟨g, cap, cur, rfl, hB, _⟩
  · subst e; cases hb
  · cases hb; exact hB
theorem grow_four (w : World) (k n : Int) (t : ByteArray) (v : Value) (T : TypeId) : ∀ j u, [Value.int .i64 k, .int .i64 n, .string t, v][j]? = some u → (w.alloc (.cells #[.int .i64 k, .int .i64 n, .string t, v] T)).cell? ((⟨w.heap.size, 0, none⟩ : Addr).add j) = some u :=
  World.news_of_block (heap_at_new w _)
theorem grow_one (k n : Int) (t : ByteArray) (p : Option Addr) (l c : Nat) : ∀ u ∈ [Value.int .i64 k, .int .i64 n, .string t, .slice p l c], u.oneCell' = true := by
  intro u hu
  simp at hu
  rcases hu with rfl | rfl | rfl | rfl <;> rfl
/-- Behind an append of one node: w the world ahead of the node's making, w1 behind it, w2 ahead of the append, w3 behind it. -/
theorem GrowV.more {w w1 w2 w3 : World} {B : Nat} {F ar : Trees} {bs c : List Nat} {xs : List Value} {k n : Int} {t : ByteArray} {u v : Value} {g cap : Nat}
    (h : GrowV w B v F bs xs) (hB : B ≤ w.heap.size) (h1 : Below w.heap.size w w1) (ho : OwnV w1 u ar c) (hnd : c.Nodup) (hc : ∀ b ∈ c, w.heap.size ≤ b ∧ b < w1.heap.size) (h2 : Below w1.heap.size w1 w2)
    (hown : w3.ownsRow B 24 4 (.slice (some ⟨g, 0, none⟩) (F.length + 1) cap) (F.length + 1) (xs ++ [.int .i64 k, .int .i64 n, .string t, u])) (hgrow : w2.grownBy w3 v.ownBlock) (hat : v.ownBlock = some g ∨ g = w2.heap.size) :
    GrowV w3 B (.slice (some ⟨g, 0, none⟩) (F.length + 1) cap) (F.snoc k n t ar) (bs ++ c) (xs ++ [.int .i64 k, .int .i64 n, .string t, u]) := by
  have s1 := h1.size
  have s2 := h2.size
  have s3 := hgrow.size
  have hvb : ∀ b, v.ownBlock = some b → b < w.heap.size := fun b hb => by
    rcases h.owns.2 with ⟨e, _⟩ | ⟨g', cap', cur, rfl, _, hg', _⟩
    · subst e; cases hb
    · cases hb; exact (Array.getElem?_eq_some_iff.1 hg').1
  have kb : ∀ b ∈ bs, w3.heap[b]? = w.heap[b]? := fun b hm => by
    have hn := h.near b hm
    rw [hgrow.block b (by omega) (fun e => hn.2.2 e.symm), h2.block b (by omega), h1.block b hn.2.1]
  have kc : ∀ b ∈ c, w3.heap[b]? = w1.heap[b]? := fun b hm => by
    have hn := hc b hm
    rw [hgrow.block b (by omega) (fun e => by have := hvb b e.symm; omega), h2.block b hn.2]
  refine ⟨?_, RowV.snoc (ho.keep kc) F xs bs (h.row.keep F xs bs kb), List.nodup_append.2 ⟨h.nodup, hnd, fun b hb1 b' hb2 e => ?_⟩, fun b hm => ?_⟩
  · rw [Trees.snoc_length]; exact hown
  · have := (h.near b hb1).2.1
    have := (hc b' hb2).1
    omega
  · rcases List.mem_append.1 hm with hm | hm
    · have hn := h.near b hm
      refine ⟨hn.1, by omega, fun e => ?_⟩
      have e : g = b := Option.some.inj e
      subst e
      rcases hat with ha | ha
      · exact hn.2.2 ha
      · omega
    · have hn := hc b hm
      refine ⟨by omega, by omega, fun e => ?_⟩
      have e : g = b := Option.some.inj e
      subst e
      rcases hat with ha | ha
      · have := hvb g ha; omega
      · omega
end Go.Proofs.YtijbaienhaiamaaDoor
end

/- What is proved here: rows of nodes that grow beside a block that changes. No condition. -/
section
namespace Go.Proofs.YtijbaienhaiamaaDoor
open Go.RowKit

/-- Only block N, below the row, has changed. -/
theorem GrowV.grown {w w' : World} {B N : Nat} {v : Value} {F : Trees} {bs : List Nat} {xs : List Value} (h : GrowV w B v F bs xs) (hg : w.grownBy w' (some N)) (hN : N < B) : GrowV w' B v F bs xs := by
  refine ⟨⟨h.owns.1, ?_⟩, h.row.keep F xs bs (fun b hm => hg.block b (h.near b hm).2.1 (fun e => by have := (h.near b hm).1; injection e with e; omega)), h.nodup, fun b hm => ⟨(h.near b hm).1, Nat.lt_of_lt_of_le (h.near b hm).2.1 hg.size, (h.near b hm).2.2⟩⟩
  rcases h.owns.2 with h | ⟨g, cap, cur, rfl, hB, hh, h1, h2, h3, h4⟩
  · exact .inl h
  · exact .inr ⟨g, cap, cur, rfl, hB, by rw [hg.block g (Array.getElem?_eq_some_iff.1 hh).1 (fun e => by injection e with e; omega)]; exact hh, h1, h2, h3, h4⟩
/-- Behind an append of one node that was made while only block N of the old ones changed. -/
theorem GrowV.moreN {w w1 w2 w3 : World} {B N : Nat} {F ar : Trees} {bs c : List Nat} {xs : List Value} {k n : Int} {t : ByteArray} {u v : Value} {g cap : Nat}
    (h : GrowV w B v F bs xs) (hB : B ≤ w.heap.size) (h1 : w.grownBy w1 (some N)) (hN : N < B) (ho : OwnV w1 u ar c) (hnd : c.Nodup) (hc : ∀ b ∈ c, w.heap.size ≤ b ∧ b < w1.heap.size) (h2 : Below w1.heap.size w1 w2)
    (hown : w3.ownsRow B 24 4 (.slice (some ⟨g, 0, none⟩) (F.length + 1) cap) (F.length + 1) (xs ++ [.int .i64 k, .int .i64 n, .string t, u])) (hgrow : w2.grownBy w3 v.ownBlock) (hat : v.ownBlock = some g ∨ g = w2.heap.size) :
    GrowV w3 B (.slice (some ⟨g, 0, none⟩) (F.length + 1) cap) (F.snoc k n t ar) (bs ++ c) (xs ++ [.int .i64 k, .int .i64 n, .string t, u]) := by
  have h' := h.grown h1 hN
  have s1 := h1.size
  have s2 := h2.size
  have hvb : ∀ b, v.ownBlock = some b → b < w.heap.size := fun b hb => by
    rcases h.owns.2 with ⟨e, _⟩ | ⟨g', cap', cur, rfl, _, hg', _⟩
    · subst e; cases hb
    · cases hb; exact (Array.getElem?_eq_some_iff.1 hg').1
  have s3 := hgrow.size
  have kb : ∀ b ∈ bs, w3.heap[b]? = w1.heap[b]? := fun b hm => by
    have hn := h'.near b hm
    rw [hgrow.block b (by omega) (fun e => hn.2.2 e.symm), h2.block b hn.2.1]
  have kc : ∀ b ∈ c, w3.heap[b]? = w1.heap[b]? := fun b hm => by
    have hn := hc b hm
    rw [hgrow.block b (by omega) (fun e => by have := hvb b e.symm; omega), h2.block b hn.2]
  refine ⟨?_, RowV.snoc (ho.keep kc) F xs bs (h'.row.keep F xs bs kb), List.nodup_append.2 ⟨h.nodup, hnd, fun b hb1 b' hb2 e => ?_⟩, fun b hm => ?_⟩
  · rw [Trees.snoc_length]; exact hown
  · have := (h.near b hb1).2.1
    have := (hc b' hb2).1
    omega
  · rcases List.mem_append.1 hm with hm | hm
    · have hn := h'.near b hm
      refine ⟨hn.1, by omega, fun e => ?_⟩
      have e : g = b := Option.some.inj e
      subst e
      rcases hat with ha | ha
      · exact hn.2.2 ha
      · omega
    · have hn := hc b hm
      refine ⟨by omega, by omega, fun e => ?_⟩
      have e : g = b := Option.some.inj e
      subst e
      rcases hat with ha | ha
      · have := hvb g ha; omega
      · omega

end Go.Proofs.YtijbaienhaiamaaDoor
end
