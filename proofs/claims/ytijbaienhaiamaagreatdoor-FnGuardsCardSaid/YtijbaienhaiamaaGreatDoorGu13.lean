/- What is proved here: a piece of the proof of YtijbaienhaiamaaGreatDoorGuards (Reader, ItoaLaid, ReadInt, SpecRead, ImplParseInt, Keep). Condition: none beyond what each part says. -/
import Derived.Test.YtijbaienhaiamaaGreatDoorGu08
import Derived.Test.YtijbaienhaiamaaGreatDoorGu11
import Derived.Test.YtijbaienhaiamaaGreatDoorGu02
import Derived.Test.YtijbaienhaiamaaGreatDoorGu12
import Derived.Lib.IndexMore
import Derived.Deep.QuietTactic
import Derived.BigQuiet
import Derived.Test.YtijbaienhaiamaaGreatDoorProg
import Derived.WalkKit
import Derived.ProofKit
import Derived.Lib.Walk
import Derived.Lib.AppendIntMem
import Derived.Lib.SmallJoins
import Derived.WalkLawsBesides
import Derived.WalkSpells
import Derived.Outline
import Derived.Lib.Hide
import Derived.Recover
import Derived.Lib.AtoiErrMem
import Derived.Defers
import Derived.Test.YtijbaienhaiamaaGreatDoorGu05

/- What is proved here: the program's reader of a text: begin, skip, readText. Conditions: the reader lies in a block of its own; the text has at most 2^31 bytes; the library's variable bytealg.MaxLen holds an integer. -/
section
namespace Go.Proofs.YtijbaienhaiamaaGreatDoor
open Go.RowKit

/-- A text up to its first double quote, and what is behind it. -/
def splitQ : List UInt8 → Option (List UInt8 × List UInt8)
  | [] => none
  | c :: r => if c = 34 then some ([], r) else (splitQ r).map fun p => (c :: p.1, p.2)
theorem splitQ_some {s a b : List UInt8} (h : splitQ s = some (a, b)) : s = a ++ 34 :: b ∧ ∀ c ∈ a, c ≠ 34 := by
  induction s generalizing a with
  | nil => cases h
  | cons c r ih =>
    unfold splitQ at h
    split at h
    · rename_i hc
      cases h
      exact ⟨by rw [hc]; rfl, by simp⟩
    · rename_i hc
      obtain ⟨⟨a', b'⟩, h1, h2⟩ := Option.map_eq_some_iff.1 h
      cases h2
      obtain ⟨e, hn⟩ := ih h1
      exact ⟨by rw [e]; rfl, by intro x hx; rcases List.mem_cons.1 hx with rfl | hx; · exact hc
                                · exact hn x hx⟩
theorem splitQ_none {s : List UInt8} (h : splitQ s = none) : ∀ c ∈ s, c ≠ 34 := by
  induction s with
  | nil => simp
  | cons c r ih =>
    unfold splitQ at h
    split at h
    · cases h
    · rename_i hc
      intro x hx
      rcases List.mem_cons.1 hx with rfl | hx
      · exact hc
      · exact ih (Option.map_eq_none_iff.1 h) x hx
theorem splitQ_eq (a b : List UInt8) (h : ∀ c ∈ a, c ≠ 34) : splitQ (a ++ 34 :: b) = some (a, b) := by
  induction a with
  | nil => simp [splitQ]
  | cons c r ih =>
    have h1 := h c (by simp)
    rw [List.cons_append, splitQ, if_neg h1, ih (fun x hx => h x (by simp [hx]))]
    rfl
theorem index_quote (s : List UInt8) : Lib.index s [34] = match splitQ s with | some p => (p.1.length : Int) | none => -1 := by
  induction s with
  | nil => rfl
  | cons c r ih =>
    unfold Lib.index splitQ
    by_cases hc : c = 34
    · subst hc
      simp
    · rw [if_neg (by simpa using (fun h => hc h.symm)), if_neg hc, ih]
      cases splitQ r with
      | none => simp
      | some p => simp
theorem cut_quote (s : List UInt8) : Lib.cut s [34] = match splitQ s with | some p => (p.1, p.2, true) | none => (s, [], false) := by
  unfold Lib.cut
  rw [index_quote]
  cases hq : splitQ s with
  | none => simp
  | some p =>
    obtain ⟨a, b⟩ := p
    have e := (splitQ_some hq).1
    simp only [Int.natCast_nonneg, if_true, Int.toNat_natCast]
    rw [e, List.take_left]
    have h2 : (a ++ 34 :: b).drop (a.length + [34].length) = b := by
      rw [← List.drop_drop, List.drop_left]
      rfl
    exact congrArg (fun x => (a, x, true)) h2

/-- The reader: what is still to read, the nodes begun, the limits. -/
def RdAt (w : World) (b : Nat) (T : TypeId) (s : List UInt8) (m N D : Nat) : Prop := w.heap[b]? = some (.cells #[.string (str s), .int .i64 (m : Int), .int .i64 (N : Int), .int .i64 (D : Int)] T (0, 0))
theorem RdAt.lt {w : World} {b : Nat} {T : TypeId} {s : List UInt8} {m N D : Nat} (h : RdAt w b T s m N D) : b < w.heap.size := (Array.getElem?_eq_some_iff.1 h).1
theorem RdAt.below {w w' : World} {b : Nat} {T : TypeId} {s : List UInt8} {m N D : Nat} (h : RdAt w b T s m N D) (hb : Below w.heap.size w w') : RdAt w' b T s m N D := (hb.block b h.lt).trans h
abbrev Just (b : Nat) : Nat → Prop := fun x => x = b
theorem just_below {b : Nat} {w w' : World} (h : Below w.heap.size w w') : Only (Just b) w w' := Only.of_below h

set_option maxHeartbeats 1000000 in
set_option maxRecDepth 100000 in
theorem impl_begin (w : World) (b : Nat) (T : TypeId) (s : List UInt8) (m N D d : Nat) (h : RdAt w b T s m N D) (hm : m ≤ 1048576) :
    Calls Tryz.prog 105 #[.pointer (some ⟨b, 0, none⟩), .int .i64 (d : Int)] w fun e w' => e = .returned (.bool (decide (m + 1 ≤ N ∧ d ≤ D))) ∧ RdAt w' b T s (m + 1) N D ∧ Only (Just b) w w' := by
  obtain ⟨c0, c1, c2, c3, f0, f1, f2, f3⟩ := four_cells h
  have hs := (four_set h (.int .i64 ((m : Int) + 1))).2.1
  have hs' : RdAt (w.setCell ⟨b, 1, none⟩ (.int .i64 ((m : Int) + 1))) b T s (m + 1) N D := hs
  obtain ⟨d0, d1, d2, d3, _⟩ := four_cells hs
  have HS := Lib.hid hs'
  have HO : Hid (Only (Just b) w (w.setCell ⟨b, 1, none⟩ (.int .i64 ((m : Int) + 1)))) := Only.setCell (F := Just b) (p := ⟨b, 1, none⟩) rfl _
  obtain ⟨w1, hw1⟩ : ∃ w1, w1 = w.setCell ⟨b, 1, none⟩ (.int .i64 ((m : Int) + 1)) := ⟨_, rfl⟩
  rw [← hw1] at d0 d1 d2 d3 HS HO
  have HW1 := Lib.hid hw1
  clear hs hs' h hw1
  by_cases h1 : m + 1 ≤ N
  · have e1 : decide ((m : Int) + 1 ≤ (N : Int)) = true := by simp; omega
    have HR : Hid (decide (m + 1 ≤ N ∧ d ≤ D) = decide (d ≤ D)) := by unfold Hid; simp [h1]
    go_enter Tryz.func105, Tryz.ntmps105
    go_wp2
    rw [← HW1.out]
    go_quiet (fail)
    go_wp2
    go_ret
    exact ⟨by rw [HR.out]; rfl, HS.out, HO.out.trans (just_below (below_drewN (Below.refl _ _) _))⟩
  · have e1 : decide ((m : Int) + 1 ≤ (N : Int)) = false := by simp; omega
    have HR : Hid (decide (m + 1 ≤ N ∧ d ≤ D) = false) := by unfold Hid; simp [h1]
    go_enter Tryz.func105, Tryz.ntmps105
    go_wp2
    rw [← HW1.out]
    go_quiet (fail)
    go_wp2
    go_ret
    exact ⟨by rw [HR.out]; rfl, HS.out, HO.out.trans (just_below (below_drewN (Below.refl _ _) _))⟩

/-- What skip leaves. -/
def skipped (s p : List UInt8) : List UInt8 := if p.isPrefixOf s = true then s.drop p.length else s

set_option maxHeartbeats 1000000 in
set_option maxRecDepth 100000 in
theorem impl_skip (w : World) (b : Nat) (T : TypeId) (s p : List UInt8) (m N D : Nat) (h : RdAt w b T s m N D) :
    Calls Tryz.prog 106 #[.pointer (some ⟨b, 0, none⟩), .string (str p)] w fun e w' => e = .returned (.bool (p.isPrefixOf s)) ∧ RdAt w' b T (skipped s p) m N D ∧ Only (Just b) w w' := by
  obtain ⟨c0, c1, c2, c3, f0, f1, f2, f3⟩ := four_cells h
  have hs := (four_set h (.string (str (skipped s p)))).1
  have HS : Hid (RdAt (w.setCell ⟨b, 0, none⟩ (.string (str (skipped s p)))) b T (skipped s p) m N D) := hs
  have HO : Hid (Only (Just b) w (w.setCell ⟨b, 0, none⟩ (.string (str (skipped s p))))) := Only.setCell (F := Just b) (p := ⟨b, 0, none⟩) rfl _
  have HC := Tryz.strings_CutPrefix (str s) (str p) w
  have e1 : (str s).data.toList = s := by simp [str]
  have e2 : (str p).data.toList = p := by simp [str]
  rw [e1, e2] at HC
  have e3 : (⟨(Lib.trimPrefix s p).toArray⟩ : ByteArray) = str (skipped s p) := rfl
  have e4 : Lib.hasPrefix s p = p.isPrefixOf s := rfl
  rw [e3, e4] at HC
  generalize p.isPrefixOf s = q at *
  generalize str (skipped s p) = u at *
  generalize str s = us at *
  generalize str p = up at *
  clear hs h e1 e2 e3 e4
  go_enter Tryz.func106, Tryz.ntmps106
  go_wp2_with fail
  refine HC.mono ?_
  rintro e w1 ⟨rfl, rfl⟩
  go_wp2
  go_ret
  exact ⟨rfl, HS.out, HO.out⟩

/-- What readText answers; what it leaves. -/
noncomputable def quoted (s : List UInt8) : Option (List UInt8 × List UInt8) := (splitQ s).bind fun p => if bl (ValidText (str p.1)) = true then some p else none

set_option maxHeartbeats 1000000 in
set_option maxRecDepth 100000 in
theorem impl_readText (w : World) (b : Nat) (T : TypeId) (s : List UInt8) (m N D : Nat) (h : RdAt w b T s m N D) (hl : s.length ≤ 1048576) (hv : MaxLenVar w) :
    Calls Tryz.prog 107 #[.pointer (some ⟨b, 0, none⟩)] w fun e w' => (match quoted s with
      | some p => e = .returned (.tuple #[.string (str p.1), .bool true]) ∧ RdAt w' b T p.2 m N D
      | none => e = .returned (.tuple #[.string ⟨#[]⟩, .bool false]) ∧ RdAt w' b T s m N D) ∧ Only (Just b) w w' := by
  obtain ⟨c0, c1, c2, c3, f0, f1, f2, f3⟩ := four_cells h
  obtain ⟨mx, hmx⟩ := hv
  have HC := Tryz.strings_Cut (str s) (str [34]) mx w (by rw [str_size]; omega) hmx
  have e1 : (str s).data.toList = s := by simp [str]
  have e2 : (str [34]).data.toList = [34] := by simp [str]
  rw [e1, e2, cut_quote] at HC
  have HH := Lib.hid h
  unfold quoted
  cases hq : splitQ s with
  | none =>
    rw [hq] at HC
    have HC2 : Calls Tryz.prog 162 #[.string (str s), .string ⟨#[34]⟩] w fun e w' => e = .returned (.tuple #[.string (str s), .string ⟨#[]⟩, .bool false]) ∧ ∃ n, w' = w.drewN n := HC
    show Calls Tryz.prog 107 #[.pointer (some ⟨b, 0, none⟩)] w fun e w' => (e = .returned (.tuple #[.string ⟨#[]⟩, .bool false]) ∧ RdAt w' b T s m N D) ∧ Only (Just b) w w'
    generalize str s = us at *
    clear h hq HC hmx e1 e2 hl
    go_enter Tryz.func107, Tryz.ntmps107
    go_wp2_with fail
    refine HC2.mono ?_
    rintro e w1 ⟨rfl, n, rfl⟩
    clear HC2
    have HR : Hid (RdAt (w.drewN n) b T s m N D) := HH.out.below (below_drewN (Below.refl _ _) n)
    have HO : Hid (Only (Just b) w (w.drewN n)) := just_below (below_drewN (Below.refl _ _) n)
    go_wp2
    go_ret2
    exact ⟨⟨rfl, HR.out⟩, HO.out⟩
  | some p =>
    obtain ⟨t, r⟩ := p
    rw [hq] at HC
    have HC2 : Calls Tryz.prog 162 #[.string (str s), .string ⟨#[34]⟩] w fun e w' => e = .returned (.tuple #[.string (str t), .string (str r), .bool true]) ∧ ∃ n, w' = w.drewN n := HC
    have hst := (splitQ_some hq).1
    have htl : t.length ≤ 1048576 := by rw [hst, List.length_append] at hl; omega
    have HI := fun w => impl_text (str t) (by rw [str_size]; unfold maxLen; omega) w
    simp only [Option.bind_some]
    cases hb : bl (ValidText (str t)) with
    | false =>
      rw [if_neg (by simp)]
      rw [hb] at HI
      show Calls Tryz.prog 107 #[.pointer (some ⟨b, 0, none⟩)] w fun e w' => (e = .returned (.tuple #[.string ⟨#[]⟩, .bool false]) ∧ RdAt w' b T s m N D) ∧ Only (Just b) w w'
      generalize str s = us at *
      generalize str t = ut at *
      generalize str r = ur at *
      clear h hq HC hmx e1 e2 hl hst htl hb
      go_enter Tryz.func107, Tryz.ntmps107
      go_wp2_with fail
      refine HC2.mono ?_
      rintro e w1 ⟨rfl, n, rfl⟩
      clear HC2
      go_wp2_with fail
      refine (HI _).mono ?_
      rintro e w2 ⟨rfl, hb2⟩
      have HB : Hid (Below w.heap.size w w2) := (below_drewN (Below.refl _ _) n).trans (hb2.mono (Nat.le_refl _))
      have HR : Hid (RdAt w2 b T s m N D) := HH.out.below HB.out
      clear hb2 HI
      go_wp2
      go_ret2
      exact ⟨⟨rfl, HR.out⟩, just_below HB.out⟩
    | true =>
      rw [if_pos rfl]
      rw [hb] at HI
      show Calls Tryz.prog 107 #[.pointer (some ⟨b, 0, none⟩)] w fun e w' => (e = .returned (.tuple #[.string (str t), .bool true]) ∧ RdAt w' b T r m N D) ∧ Only (Just b) w w'
      have HT : Hid (∀ W, RdAt W b T s m N D → W.cell? ⟨b, 0, none⟩ = some (.string (str s)) ∧ W.frozen? ⟨b, 0, none⟩ = false ∧ RdAt (W.setCell ⟨b, 0, none⟩ (.string (str r))) b T r m N D) := fun W hW => ⟨(four_cells hW).1, (four_cells hW).2.2.2.2.1, (four_set hW (.string (str r))).1⟩
      generalize str s = us at *
      generalize str t = ut at *
      generalize str r = ur at *
      clear h hq HC hmx e1 e2 hl hst htl hb
      go_enter Tryz.func107, Tryz.ntmps107
      go_wp2_with fail
      refine HC2.mono ?_
      rintro e w1 ⟨rfl, n, rfl⟩
      clear HC2
      go_wp2_with fail
      refine (HI _).mono ?_
      rintro e w2 ⟨rfl, hb2⟩
      have HB : Hid (Below w.heap.size w w2) := (below_drewN (Below.refl _ _) n).trans (hb2.mono (Nat.le_refl _))
      obtain ⟨g0, g1, g2⟩ := HT.out w2 (HH.out.below HB.out)
      have HR := Lib.hid g2
      clear hb2 HI g2
      go_wp2
      go_ret2
      exact ⟨⟨rfl, HR.out⟩, (just_below HB.out).trans (Only.setCell (F := Just b) (p := ⟨b, 0, none⟩) rfl _)⟩
end Go.Proofs.YtijbaienhaiamaaGreatDoor
end

/- What is proved here: impl.FormatInt returns the decimal numeral of every int. Condition: the table internal/strconv.uint64pow10 holds the powers of ten. -/
section
namespace Go.Proofs.YtijbaienhaiamaaGreatDoor
open Go.RowKit

set_option maxHeartbeats 400000 in
theorem impl_format (n : Int) (h0 : -9223372036854775808 ≤ n) (h1 : n ≤ 9223372036854775807) (w : World) (htab : Lib.TabIs Tryz.prog w "internal/strconv.uint64pow10" .u64 Lib.pow10Tab) :
    Calls Tryz.prog 104 #[.int .i64 n] w fun e w' => e = .returned (.string ⟨(Lib.itoa n).toArray⟩) ∧ Below w.heap.size w w' := by
  go_enter Tryz.func104, Tryz.ntmps104
  go_wp2_with fail
  refine (Tryz.strconv_Itoa n h0 h1 _ htab).mono ?_
  rintro e w' ⟨rfl, k, os, rfl⟩
  go_wp2
  go_ret
  exact ⟨rfl, Lib.below_grow _ _ (Nat.le_refl _) k os⟩

end Go.Proofs.YtijbaienhaiamaaGreatDoor
end

/- What is proved here: impl.readInt returns the integer within lo .. hi whose numeral the string is, and panics if there is none. Conditions: the string has at most 1048576 bytes, and the listed variables of Go's library read as laid. -/
section
namespace Go.Proofs.YtijbaienhaiamaaGreatDoor
open Go.RowKit

/-- How readInt ends. -/
def ReadEnds (o : Option Int) (e : Ending) : Prop :=
  match o with
  | some n => e = .returned (.int .i64 n)
  | none => ∃ u pv, e = .panicked [{ v := .iface u pv, recovered := false }]

set_option maxHeartbeats 1000000 in
set_option maxRecDepth 100000 in
theorem read_int_ok (s : ByteArray) (lo hi v : Int) (h0 : -9223372036854775808 ≤ lo) (h1 : hi ≤ 9223372036854775807) (hs : s.size ≤ 1048576) (hv : Lib.atoiAll s.data.toList = .ok v) (hv0 : -9223372036854775808 ≤ v) (hv1 : v ≤ 9223372036854775807) (w : World)
    (htab : Lib.TabIs Tryz.prog w "internal/strconv.uint64pow10" .u64 Lib.pow10Tab) :
    Calls Tryz.prog 165 #[.string s, .int .i64 lo, .int .i64 hi] w fun e w' => ReadEnds (readOf lo hi s.data.toList) e ∧ Below w.heap.size w w' := by
  go_enter Tryz.func165, Tryz.ntmps165
  go_wp2_with fail
  refine (Tryz.strconv_Atoi_ok s (by omega) v hv _).mono ?_
  rintro e w1 ⟨rfl, hw1⟩
  have hb1 : Below w.heap.size w w1 := by
    rcases hw1 with rfl | ⟨t, rfl⟩
    · exact Below.refl _ _
    · exact Lib.bytesWorld_below w _ t
  clear hw1
  have HV := Lib.hid hv
  clear hv
  by_cases hlo : v < lo
  · have HR : Hid (readOf lo hi s.data.toList = none) := readOf_none (fun n hn => by
      obtain ⟨a, b, c⟩ := hn
      have : Lib.atoiAll s.data.toList = .ok n := by rw [← c]; exact atoi_itoa n (by omega) (by omega)
      rw [HV.out] at this
      injection this with e
      omega) h0 h1
    go_wp2
    exact ⟨rfl, by rw [HR.out]; exact ⟨_, _, rfl⟩, hb1⟩
  · by_cases hhi : hi < v
    · have HR : Hid (readOf lo hi s.data.toList = none) := readOf_none (fun n hn => by
        obtain ⟨a, b, c⟩ := hn
        have : Lib.atoiAll s.data.toList = .ok n := by rw [← c]; exact atoi_itoa n (by omega) (by omega)
        rw [HV.out] at this
        injection this with e
        omega) h0 h1
      go_wp2
      exact ⟨rfl, by rw [HR.out]; exact ⟨_, _, rfl⟩, hb1⟩
    · go_wp2_with fail
      refine (impl_format v hv0 hv1 _ (Go.Joins.tab_stays (g := 1) (by kernel_rfl) htab hb1 (Nat.le_refl _))).mono ?_
      rintro e w2 ⟨rfl, hb2⟩
      have hb3 : Below w.heap.size w w2 := hb1.trans (hb2.mono hb1.size)
      by_cases heq : Lib.itoa v = s.data.toList
      · have h2 : (Lib.itoa v == s.toList) = true := by rw [ByteArray.toList_eq, heq]; simp
        have HR : Hid (readOf lo hi s.data.toList = some v) := (readOf_iff h0 h1).2 ⟨by omega, by omega, heq⟩
        clear heq
        go_wp2
        go_ret
        exact ⟨by rw [HR.out]; rfl, hb3⟩
      · have h2 : (Lib.itoa v == s.toList) = false := by rw [ByteArray.toList_eq]; simpa using heq
        have HR : Hid (readOf lo hi s.data.toList = none) := readOf_none (fun n hn => by
          obtain ⟨a, b, c⟩ := hn
          have : Lib.atoiAll s.data.toList = .ok n := by rw [← c]; exact atoi_itoa n (by omega) (by omega)
          rw [HV.out] at this
          injection this with e
          subst e
          exact heq c) h0 h1
        clear heq
        go_wp2
        exact ⟨rfl, by rw [HR.out]; exact ⟨_, _, rfl⟩, hb3⟩

set_option maxHeartbeats 1000000 in
set_option maxRecDepth 100000 in
theorem read_int_bad (s : ByteArray) (lo hi : Int) (hs : s.size ≤ 1048576) (hv : Lib.atoiAll s.data.toList = Lib.atoiAll []) (tp : TypeId) (p : Value) (w : World) (hvar : w.var? Tryz.prog "strconv.ErrSyntax" = some #[.iface tp p]) :
    Calls Tryz.prog 165 #[.string s, .int .i64 lo, .int .i64 hi] w fun e w' => ReadEnds (readOf lo hi s.data.toList) e ∧ Below w.heap.size w w' := by
  have HR : Hid (readOf lo hi s.data.toList = none) := by unfold Hid readOf; rw [hv]; rfl
  go_enter Tryz.func165, Tryz.ntmps165
  go_wp2_with fail
  refine (Tryz.strconv_Atoi_syntax_var s (by omega) hv tp p _ hvar).mono ?_
  rintro e w1 ⟨N, rfl, hN, hcell, hb1⟩
  clear hcell hN
  go_wp2
  exact ⟨rfl, by rw [HR.out]; exact ⟨_, _, rfl⟩, hb1⟩

set_option maxHeartbeats 1000000 in
set_option maxRecDepth 100000 in
theorem read_int_range (s : ByteArray) (lo hi : Int) (hs : s.size ≤ 1048576) (hv : Lib.atoiAll s.data.toList = .range) (tp : TypeId) (p : Value) (w : World) (hvar : w.var? Tryz.prog "strconv.ErrRange" = some #[.iface tp p]) :
    Calls Tryz.prog 165 #[.string s, .int .i64 lo, .int .i64 hi] w fun e w' => ReadEnds (readOf lo hi s.data.toList) e ∧ Below w.heap.size w w' := by
  have HR : Hid (readOf lo hi s.data.toList = none) := by unfold Hid readOf; rw [hv]
  go_enter Tryz.func165, Tryz.ntmps165
  go_wp2_with fail
  refine (Tryz.strconv_Atoi_range_var s (by omega) hv tp p _ hvar).mono ?_
  rintro e w1 ⟨N, rfl, hN, hcell, hb1⟩
  clear hcell hN
  go_wp2
  exact ⟨rfl, by rw [HR.out]; exact ⟨_, _, rfl⟩, hb1⟩

/-- The variables of Go's library that the reader looks at. -/
structure LibVars (w : World) : Prop where
  tab : Lib.TabIs Tryz.prog w "internal/strconv.uint64pow10" .u64 Lib.pow10Tab
  bad : ∃ tp p, w.var? Tryz.prog "strconv.ErrSyntax" = some #[.iface tp p]
  far : ∃ tp p, w.var? Tryz.prog "strconv.ErrRange" = some #[.iface tp p]
theorem LibVars.stays {w w' : World} (h : LibVars w) (hb : Below w.heap.size w w') : LibVars w' := by
  obtain ⟨h1, ⟨tp, p, h2⟩, ⟨tq, q, h3⟩⟩ := h
  exact ⟨Go.Joins.tab_stays (g := 1) (by kernel_rfl) h1 hb (Nat.le_refl _), ⟨tp, p, Go.Joins.var_stays (g := 2) (by kernel_rfl) h2 hb (Nat.le_refl _)⟩, ⟨tq, q, Go.Joins.var_stays (g := 3) (by kernel_rfl) h3 hb (Nat.le_refl _)⟩⟩

/-- impl.readInt. -/
theorem read_int (s : ByteArray) (lo hi : Int) (h0 : -9223372036854775808 ≤ lo) (h1 : hi ≤ 9223372036854775807) (hs : s.size ≤ 1048576) (w : World) (hL : LibVars w) :
    Calls Tryz.prog 165 #[.string s, .int .i64 lo, .int .i64 hi] w fun e w' => ReadEnds (readOf lo hi s.data.toList) e ∧ Below w.heap.size w w' := by
  obtain ⟨htab, ⟨tp, p, hb⟩, ⟨tq, q, hf⟩⟩ := hL
  rcases atoi_cases s.data.toList with ⟨v, hv⟩ | hv | hv
  · have hr := atoi_range hv
    exact read_int_ok s lo hi v h0 h1 hs hv hr.1 hr.2 w htab
  · exact read_int_bad s lo hi hs hv tp p w hb
  · exact read_int_range s lo hi hs hv tq q w hf
end Go.Proofs.YtijbaienhaiamaaGreatDoor
end

/- What is proved here: the model's l1Read (package spec) accepts exactly the numerals of the integers of at most 'most' digits. Condition: 'most' is at most 12. -/
section
namespace Go.Proofs.YtijbaienhaiamaaGreatDoor
open Go.RowKit

/-- What the reader returns. -/
def readEnd (o : Option Int) : Ending :=
  match o with
  | some n => .returned (.tuple #[.int .i64 n, .bool true])
  | none => .returned (.tuple #[.int .i64 0, .bool false])

theorem take_snoc (s : ByteArray) (k : Nat) (h : k < s.size) : s.data.toList.take (k + 1) = s.data.toList.take k ++ [s[k]] := by
  rw [List.take_succ_eq_append_getElem (by simpa using h)]; rfl

theorem mem_at (s : ByteArray) (k : Nat) (h : k < s.size) : s[k] ∈ s.data.toList := by
  have := take_snoc s k h
  exact List.mem_of_mem_take (i := k + 1) (by rw [this]; simp)

theorem spec_read_empty (s : ByteArray) (most : Nat) (h0 : s.size = 0) (w : World) :
    Calls Tryz.prog 174 #[.string s, .int .i64 most] w fun e w' => e = readEnd none ∧ Below w.heap.size w w' := by
  obtain rfl : s = ByteArray.empty := by
    cases s with | mk d => cases d with | mk l => cases l with | nil => rfl | cons c r => simp [ByteArray.size] at h0
  go_enter Tryz.func174, Tryz.ntmps174
  go_wp2
  go_ret2
  exact ⟨rfl, Below.refl _ _⟩

set_option maxHeartbeats 1000000 in
set_option maxRecDepth 100000 in
theorem spec_read_plain (s : ByteArray) (most : Nat) (hm : most ≤ 12) (hm1 : 1 ≤ most) (hs : s.size ≤ maxLen) (h0 : 0 < s.size) (h45 : ¬ s[0].toNat = 45) (w : World) :
    Calls Tryz.prog 174 #[.string s, .int .i64 most] w fun e w' => e = readEnd (specRead most s.data.toList) ∧ Below w.heap.size w w' := by
  unfold maxLen at hs
  have hh : ¬ s.data.toList.head? = some 45 := by
    intro h
    apply h45
    have e : s.data.toList = s[0] :: s.data.toList.tail := by
      have := take_snoc s 0 h0
      cases hl : s.data.toList with
      | nil => simp [hl] at this
      | cons c r => rw [hl] at this; simp at this; rw [this]; rfl
    rw [e] at h
    simp at h
    rw [h]
    rfl
  have hsz : s.data.toList.length = s.size := rfl
  have HH := Lib.hid hh
  have HZ := Lib.hid hsz
  clear hh hsz
  by_cases hlen : most < s.size
  · have hR : specRead most s.data.toList = none := specRead_none_len (by rw [behind_plain HH.out, HZ.out]; exact hlen)
    rw [hR]
    go_enter Tryz.func174, Tryz.ntmps174
    go_wp2
    go_ret2
    exact ⟨rfl, Below.refl _ _⟩
  · go_enter Tryz.func174, Tryz.ntmps174
    go_wp2
    go_loop [8, 9] (fun n i => ∃ k : Nat, k ≤ s.size ∧ i = .int .i64 k ∧ n = .int .i64 (digVal 0 (s.data.toList.take k) : Nat) ∧ ∀ c ∈ s.data.toList.take k, isDig c) (fun _ i => s.size - (intOf i).toNat)
    case atStart => exact ⟨0, Nat.zero_le _, rfl, by rw [List.take_zero, digVal_nil]; rfl, by simp⟩
    case round =>
      obtain ⟨k, hk, rfl, rfl, hd⟩ := hrel
      have hv := digVal_lt_pow (s.data.toList.take k) 12 hd (by simp; omega)
      have HD := Lib.hid hd
      clear hd
      by_cases hlt : k < s.size
      · by_cases hc1 : s[k].toNat < 48
        · have hR : specRead most s.data.toList = none := specRead_none_dig (c := s[k]) (by rw [behind_plain HH.out]; exact mem_at s k hlt) (by unfold isDig; omega)
          have HR := Lib.hid hR
          clear hR
          go_wp2
          go_ret2
          exact ⟨by rw [HR.out]; rfl, Below.refl _ _⟩
        · by_cases hc2 : 57 < s[k].toNat
          · have hR : specRead most s.data.toList = none := specRead_none_dig (c := s[k]) (by rw [behind_plain HH.out]; exact mem_at s k hlt) (by unfold isDig; omega)
            have HR := Lib.hid hR
            clear hR
            go_wp2
            go_ret2
            exact ⟨by rw [HR.out]; rfl, Below.refl _ _⟩
          · have hsn := take_snoc s k hlt
            have hds := digVal_snoc (s.data.toList.take k) s[k]
            have HS : Hid (digVal 0 (s.data.toList.take (k + 1)) = 10 * digVal 0 (s.data.toList.take k) + (s[k].toNat - 48)) := by rw [hsn]; exact hds
            clear hsn hds
            go_wp2
            go_round
            case rel => 
              refine ⟨k + 1, by omega, by go_num, ?_, ?_⟩
              · rw [HS.out]
                go_num
              · rw [take_snoc s k hlt]
                intro c hc
                rcases List.mem_append.1 hc with hc | hc
                · exact HD.out c hc
                · simp at hc
                  subst hc
                  unfold isDig
                  omega
            case measure => simp [intOf]; omega
      · obtain rfl : k = s.size := by omega
        have htk : s.data.toList.take s.size = s.data.toList := List.take_of_length_le (Nat.le_refl _)
        rw [htk] at hv
        rw [htk]
        go_wp2_with fail
        refine (spec_format _ (by omega) (by omega) _).mono ?_
        rintro e w1 ⟨rfl, hb1⟩
        by_cases heq : Lib.itoa (digVal 0 s.data.toList : Nat) = s.data.toList
        · have h1 : (Lib.itoa (digVal 0 s.data.toList : Nat) == s.toList) = true := by rw [ByteArray.toList_eq, heq]; simp
          have HE := Lib.hid heq
          clear heq
          go_wp2
          go_ret2
          refine ⟨?_, hb1⟩
          have hd := HD.out
          rw [htk] at hd
          rw [specRead_some (by rw [behind_plain HH.out, HZ.out]; omega) (by rw [behind_plain HH.out, HZ.out]; omega) (by rw [behind_plain HH.out]; exact hd) (by rw [behind_plain HH.out, signed_plain HH.out]; exact HE.out), behind_plain HH.out, signed_plain HH.out]
          rfl
        · have h1 : (Lib.itoa (digVal 0 s.data.toList : Nat) == s.toList) = false := by rw [ByteArray.toList_eq]; simpa using heq
          have HE := Lib.hid heq
          clear heq
          go_wp2
          go_ret2
          refine ⟨?_, hb1⟩
          rw [specRead_none_ne (by rw [behind_plain HH.out, signed_plain HH.out]; exact HE.out)]
          rfl
theorem tail_facts (s : ByteArray) (h0 : 0 < s.size) (h45 : s[0].toNat = 45) : s.data.toList.head? = some 45 ∧ (s.extract 1 s.size).data.toList = s.data.toList.tail ∧ (s.extract 1 s.size).size = s.size - 1 := by
  have e : s.data.toList = s[0] :: s.data.toList.tail := by
    have := take_snoc s 0 h0
    cases hl : s.data.toList with
    | nil => simp [hl] at this
    | cons c r => rw [hl] at this; simp at this; rw [this]; rfl
  have e45 : s[0] = 45 := by
    apply UInt8.toNat_inj.1
    rw [h45]; rfl
  have e2 : (s.extract 1 s.size).data.toList = s.data.toList.tail := by
    rw [ByteArray.data_extract, Array.toList_extract, List.extract_eq_take_drop]
    have : s.data.toList.length = s.size := rfl
    rw [List.take_of_length_le (by simp), List.drop_one]
  refine ⟨by rw [e, e45]; rfl, e2, ?_⟩
  have h1 : (s.extract 1 s.size).size = (s.extract 1 s.size).data.toList.length := rfl
  rw [h1, e2, List.length_tail]
  rfl

set_option maxHeartbeats 1000000 in
set_option maxRecDepth 100000 in
theorem spec_read_minus (s : ByteArray) (most : Nat) (hm : most ≤ 12) (hm1 : 1 ≤ most) (hs : s.size ≤ maxLen) (h0 : 0 < s.size) (h45 : s[0].toNat = 45) (w : World) :
    Calls Tryz.prog 174 #[.string s, .int .i64 most] w fun e w' => e = readEnd (specRead most s.data.toList) ∧ Below w.heap.size w w' := by
  unfold maxLen at hs
  obtain ⟨hh, htl, htz⟩ := tail_facts s h0 h45
  have HH := Lib.hid hh
  have HT := Lib.hid htl
  have HZ := Lib.hid htz
  clear hh htl htz
  have hq : ((s[0].toNat : Int) == 45) = true := by rw [h45]; rfl
  have H45 := Lib.hid h45
  clear h45
  by_cases hlen : most < s.size - 1
  · have hR : specRead most s.data.toList = none := specRead_none_len (by rw [behind_minus HH.out, ← HT.out]; exact (show _ < (s.extract 1 s.size).size by rw [HZ.out]; exact hlen))
    have HR := Lib.hid hR
    clear hR
    go_enter Tryz.func174, Tryz.ntmps174
    go_wp2
    go_ret2
    exact ⟨by rw [HR.out]; rfl, Below.refl _ _⟩
  · by_cases hone : s.size = 1
    · have hR : specRead most s.data.toList = none := specRead_none_nil (by
        rw [behind_minus HH.out, ← HT.out]
        exact List.eq_nil_of_length_eq_zero (show (s.extract 1 s.size).size = 0 by rw [HZ.out]; omega))
      have HR := Lib.hid hR
      clear hR
      go_enter Tryz.func174, Tryz.ntmps174
      go_wp2
      go_ret2
      exact ⟨by rw [HR.out]; rfl, Below.refl _ _⟩
    · go_enter Tryz.func174, Tryz.ntmps174
      go_wp2
      generalize hgt : s.extract 1 s.size = t
      have htz := HZ.out
      rw [hgt] at htz
      have hts : t.size ≤ 12 := by omega
      have ht1 : 1 ≤ t.size := by omega
      have HG := Lib.hid hgt
      have HZ2 := Lib.hid htz
      clear hgt htz
      go_loop [8, 9] (fun n i => ∃ k : Nat, k ≤ t.size ∧ i = .int .i64 k ∧ n = .int .i64 (digVal 0 (t.data.toList.take k) : Nat) ∧ ∀ c ∈ t.data.toList.take k, isDig c) (fun _ i => t.size - (intOf i).toNat)
      case atStart => exact ⟨0, Nat.zero_le _, rfl, by rw [List.take_zero, digVal_nil]; rfl, by simp⟩
      case round =>
        obtain ⟨k, hk, rfl, rfl, hd⟩ := hrel
        have hv := digVal_lt_pow (t.data.toList.take k) 12 hd (by simp; omega)
        have HD := Lib.hid hd
        clear hd
        by_cases hlt : k < t.size
        · by_cases hc1 : t[k].toNat < 48
          · have hR : specRead most s.data.toList = none := specRead_none_dig (c := t[k]) (by rw [behind_minus HH.out, ← HT.out, HG.out]; exact mem_at t k hlt) (by unfold isDig; omega)
            have HR := Lib.hid hR
            clear hR
            go_wp2
            go_ret2
            exact ⟨by rw [HR.out]; rfl, Below.refl _ _⟩
          · by_cases hc2 : 57 < t[k].toNat
            · have hR : specRead most s.data.toList = none := specRead_none_dig (c := t[k]) (by rw [behind_minus HH.out, ← HT.out, HG.out]; exact mem_at t k hlt) (by unfold isDig; omega)
              have HR := Lib.hid hR
              clear hR
              go_wp2
              go_ret2
              exact ⟨by rw [HR.out]; rfl, Below.refl _ _⟩
            · have hsn := take_snoc t k hlt
              have hds := digVal_snoc (t.data.toList.take k) t[k]
              have HS : Hid (digVal 0 (t.data.toList.take (k + 1)) = 10 * digVal 0 (t.data.toList.take k) + (t[k].toNat - 48)) := by rw [hsn]; exact hds
              clear hsn hds
              go_wp2
              go_round
              case rel =>
                refine ⟨k + 1, by omega, by go_num, ?_, ?_⟩
                · rw [HS.out]
                  go_num
                · rw [take_snoc t k hlt]
                  intro c hc
                  rcases List.mem_append.1 hc with hc | hc
                  · exact HD.out c hc
                  · simp at hc
                    subst hc
                    unfold isDig
                    omega
              case measure => simp [intOf]; omega
        · obtain rfl : k = t.size := by omega
          have htk : t.data.toList.take t.size = t.data.toList := List.take_of_length_le (Nat.le_refl _)
          rw [htk] at hv
          rw [htk]
          go_wp2_with fail
          refine (spec_format _ (by omega) (by omega) _).mono ?_
          rintro e w1 ⟨rfl, hb1⟩
          by_cases heq : Lib.itoa (-(digVal 0 t.data.toList : Nat)) = s.data.toList
          · have h1 : (Lib.itoa (-(digVal 0 t.data.toList : Nat)) == s.toList) = true := by rw [ByteArray.toList_eq, heq]; simp
            have HE := Lib.hid heq
            clear heq
            go_wp2
            go_ret2
            refine ⟨?_, hb1⟩
            have hd := HD.out
            rw [htk, ← HG.out, HT.out, ← behind_minus HH.out] at hd
            have he := HE.out
            rw [← HG.out, HT.out, ← behind_minus HH.out, ← signed_minus HH.out] at he
            have hl : (behind s.data.toList).length = t.size := by rw [behind_minus HH.out, ← HT.out, HG.out]; rfl
            rw [specRead_some (by rw [hl]; omega) (by rw [hl]; have := HZ2.out; omega) hd he, signed_minus HH.out, behind_minus HH.out, ← HT.out, HG.out]
            rfl
          · have h1 : (Lib.itoa (-(digVal 0 t.data.toList : Nat)) == s.toList) = false := by rw [ByteArray.toList_eq]; simpa using heq
            have HE := Lib.hid heq
            clear heq
            go_wp2
            go_ret2
            refine ⟨?_, hb1⟩
            rw [specRead_none_ne (by rw [signed_minus HH.out, behind_minus HH.out, ← HT.out, HG.out]; exact HE.out)]
            rfl

/-- spec.l1Read. -/
theorem spec_read (s : ByteArray) (most : Nat) (hm : most ≤ 12) (hm1 : 1 ≤ most) (hs : s.size ≤ maxLen) (w : World) :
    Calls Tryz.prog 174 #[.string s, .int .i64 most] w fun e w' => e = readEnd (specRead most s.data.toList) ∧ Below w.heap.size w w' := by
  by_cases h0 : s.size = 0
  · have e : s.data.toList = [] := List.eq_nil_of_length_eq_zero h0
    have hR : specRead most s.data.toList = none := by
      rw [e]
      exact specRead_none_nil (by simp [behind])
    rw [hR]
    exact spec_read_empty s most h0 w
  · by_cases h45 : (s[0]'(by omega)).toNat = 45
    · exact spec_read_minus s most hm hm1 hs (by omega) h45 w
    · exact spec_read_plain s most hm hm1 hs (by omega) h45 w
end Go.Proofs.YtijbaienhaiamaaGreatDoor
end

/- What is proved here: impl.ParseInt answers by the integers whose numeral the string is, within their bounds, and with (0, false) where there is none. Conditions: as for the reader. -/
section
namespace Go.Proofs.YtijbaienhaiamaaGreatDoor
open Go.RowKit

theorem catchParseInt_panicking (u : TypeId) (pv : Value) (older : List PanicEntry) (w : World) :
    CallsD Tryz.prog 164 #[] (.panicking ({ v := .iface u pv, recovered := false } :: older)) w fun e u' w' =>
      e = .returned (.tuple #[]) ∧ u' = .panicking ({ v := .iface u pv, recovered := true } :: older) ∧ w' = w := by
  refine callsD_of_wpS Tryz.func164 rfl fun c₀ cs hu => ?_
  apply wpS_region
  simp [wpOpsS, go_sem, recoverD, hu, Tryz.ntmps164, bodyPostS, results, Tryz.results164]

theorem catchParseInt_idle (w : World) :
    CallsD Tryz.prog 164 #[] .returning w fun e u' w' => e = .returned (.tuple #[]) ∧ u' = .returning ∧ w' = w := by
  refine callsD_of_wpS Tryz.func164 rfl fun c₀ cs hu => ?_
  apply wpS_region
  simp [wpOpsS, go_sem, recoverD, hu, Tryz.ntmps164, bodyPostS, results, Tryz.results164]
  rw [← hu]

set_option maxHeartbeats 1000000 in
set_option maxRecDepth 100000 in
/-- impl.ParseInt. -/
theorem impl_ParseInt (s : ByteArray) (hs : s.size ≤ 1048576) (w : World) (hL : LibVars w) :
    Calls Tryz.prog 110 #[.string s] w fun e w' => e = readEnd (readOf (-999999999999) 999999999999 s.data.toList) ∧ Below w.heap.size w w' := by
  cases hR : readOf (-999999999999) 999999999999 s.data.toList with
  | some n =>
    go_enter_defers Tryz.func110, Tryz.ntmps110
    go_wp2_with fail
    refine (read_int s (-999999999999) 999999999999 (by omega) (by omega) hs _ hL).mono ?_
    rintro e w1 ⟨he, hb⟩
    rw [hR] at he
    obtain rfl : e = .returned (.int .i64 n) := he
    go_wp2
    refine leaves_cons (f := 164) (args := #[]) (by simp) (by simp [go_sem]) ?_
    refine (catchParseInt_idle _).mono ?_
    rintro e u' w'' ⟨rfl, rfl, rfl⟩
    simp [Leaves, settle, results, Tryz.results110, go_sem, readEnd, hb]
  | none =>
    go_enter_defers Tryz.func110, Tryz.ntmps110
    go_wp2_with fail
    refine (read_int s (-999999999999) 999999999999 (by omega) (by omega) hs _ hL).mono ?_
    rintro e w1 ⟨he, hb⟩
    rw [hR] at he
    obtain ⟨u, pv, rfl⟩ : ∃ u pv, e = .panicked [{ v := .iface u pv, recovered := false }] := he
    go_wp2
    refine leaves_cons (f := 164) (args := #[]) (by simp) (by simp [go_sem]) ?_
    refine (catchParseInt_panicking u pv [] _).mono ?_
    rintro e u' w'' ⟨rfl, rfl, rfl⟩
    simp [Leaves, settle, results, Tryz.results110, go_sem, readEnd, hb]

end Go.Proofs.YtijbaienhaiamaaGreatDoor
end

/- What is proved here: what stays while a reader reads; a box of a node set anew. No condition. -/
section
namespace Go.Proofs.YtijbaienhaiamaaGreatDoor
open Go.RowKit

/-- The library's variables stay where only block b changes. -/
def Keeps (b : Nat) (w : World) : Prop := ∀ w', Only (Just b) w w' → LibVars w' ∧ MaxLenVar w'
theorem Keeps.on {b : Nat} {w w' : World} (h : Keeps b w) (k : Only (Just b) w w') : Keeps b w' := fun w2 h2 => h w2 (k.trans h2)
theorem Keeps.lib {b : Nat} {w : World} (h : Keeps b w) : LibVars w := (h w (Only.refl _ _)).1
theorem Keeps.mx {b : Nat} {w : World} (h : Keeps b w) : MaxLenVar w := (h w (Only.refl _ _)).2
theorem Only.fresh {F : Nat → Prop} {w w' : World} (h : Only F w w') {g : Nat} (hg : w.heap.size ≤ g) (o : Nat) (v : Value) : Only F w (w'.setCell ⟨g, o, none⟩ v) :=
  ⟨h.os, h.tape, h.output, by simpa [World.setCell] using h.size, fun b hb hn => (Below.heap_setCell _ _ _ _ (by show b ≠ g; omega)).trans (h.block b hb hn)⟩
theorem Only.more {F : Nat → Prop} {w w' : World} (h : Only F w w') (o : Obj) : Only F w (w'.alloc o) :=
  h.trans (Only.of_below ((Below.refl _ _).alloc (Nat.le_refl _) _))

def set4 (w : World) (g : Nat) (k n : Int) (t : ByteArray) (v : Value) : World := (((w.setCell ⟨g, 0, none⟩ (.int .i64 k)).setCell ⟨g, 1, none⟩ (.int .i64 n)).setCell ⟨g, 2, none⟩ (.string t)).setCell ⟨g, 3, none⟩ v
theorem set4_other {w : World} {g b : Nat} (k n : Int) (t : ByteArray) (v : Value) (h : b ≠ g) : (set4 w g k n t v).heap[b]? = w.heap[b]? := by
  unfold set4
  rw [Below.heap_setCell _ _ _ _ (by show b ≠ g; exact h), Below.heap_setCell _ _ _ _ (by show b ≠ g; exact h), Below.heap_setCell _ _ _ _ (by show b ≠ g; exact h), Below.heap_setCell _ _ _ _ (by show b ≠ g; exact h)]
theorem set4_size (w : World) (g : Nat) (k n : Int) (t : ByteArray) (v : Value) : (set4 w g k n t v).heap.size = w.heap.size := by simp [set4, World.setCell]
theorem set4_only {F : Nat → Prop} {w w' : World} (h : Only F w w') {g : Nat} (hg : w.heap.size ≤ g) (k n : Int) (t : ByteArray) (v : Value) : Only F w (set4 w' g k n t v) := (((h.fresh hg _ _).fresh hg _ _).fresh hg _ _).fresh hg _ _

theorem skip_cases (s p : List UInt8) : (p.isPrefixOf s = false ∧ (∀ x, s ≠ p ++ x) ∧ skipped s p = s) ∨ (p.isPrefixOf s = true ∧ s = p ++ skipped s p) := by
  unfold skipped
  cases h : p.isPrefixOf s with
  | false =>
    refine .inl ⟨rfl, fun x e => ?_, by simp⟩
    subst e
    have : p.isPrefixOf (p ++ x) = true := List.isPrefixOf_iff_prefix.2 (List.prefix_append _ _)
    rw [this] at h
    cases h
  | true =>
    obtain ⟨x, rfl⟩ := List.isPrefixOf_iff_prefix.1 h
    exact .inr ⟨rfl, by simp⟩
theorem RdAt.only {w w' : World} {b : Nat} {T : TypeId} {s : List UInt8} {m N D : Nat} (h : RdAt w b T s m N D) (ho : Only (fun _ => False) w w') : RdAt w' b T s m N D := (ho.block b h.lt (fun h => h)).trans h
theorem RdAt.set4 {w : World} {b g : Nat} {T : TypeId} {s : List UInt8} {m N D : Nat} (h : RdAt w b T s m N D) (hg : b ≠ g) (k n : Int) (t : ByteArray) (v : Value) : RdAt (set4 w g k n t v) b T s m N D := (set4_other k n t v hg).trans h
theorem two_new (w : World) (o1 o2 : Obj) : ((w.alloc o1).alloc o2).heap[w.heap.size]? = some o1 ∧ ((w.alloc o1).alloc o2).heap[w.heap.size + 1]? = some o2 ∧ ((w.alloc o1).alloc o2).heap.size = w.heap.size + 2 ∧ Below w.heap.size w ((w.alloc o1).alloc o2) := by
  have s1 : (w.alloc o1).heap.size = w.heap.size + 1 := Array.size_push _
  have s2 : ((w.alloc o1).alloc o2).heap.size = (w.alloc o1).heap.size + 1 := Array.size_push _
  have e1 := heap_at_new w o1
  have e2 := heap_at_new (w.alloc o1) o2
  rw [s1] at e2
  exact ⟨(Below.heap_alloc _ _ _ (by omega)).trans e1, e2, by omega, ((Below.refl _ _).alloc (Nat.le_refl _) _).alloc (by omega) _⟩
end Go.Proofs.YtijbaienhaiamaaGreatDoor
end
