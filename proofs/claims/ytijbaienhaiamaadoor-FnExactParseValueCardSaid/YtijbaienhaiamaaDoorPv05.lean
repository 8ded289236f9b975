/- What is proved here: a piece of the proof of YtijbaienhaiamaaDoorExactParseValue (ReadInt, Format, SpecRead, ImplParseInt, Keep, VaRead). Condition: none beyond what each part says. -/
import Derived.Test.YtijbaienhaiamaaDoorPv02
import Derived.Test.YtijbaienhaiamaaDoorPv04
import Derived.Deep.QuietTactic
import Derived.BigQuiet
import Derived.WalkLawsBesides
import Derived.WalkSpells
import Derived.Outline
import Derived.Lib.Hide
import Derived.Recover
import Derived.Lib.AtoiErrMem
import Derived.Lib.SmallJoins
import Derived.Test.YtijbaienhaiamaaDoorProg
import Derived.Test.YtijbaienhaiamaaDoorPv01
import Derived.WalkKit
import Derived.ProofKit
import Derived.Lib.Walk
import Derived.Lib.ItoaMem
import Derived.Lib.ItoaLen
import Derived.Laws.IdiomStrings
import Derived.Laws.Concat
import Derived.Defers
import Derived.Test.YtijbaienhaiamaaDoorPv03

/- What is proved here: impl.readInt returns the integer within lo .. hi whose numeral the string is, and panics if there is none. Conditions: the string has at most 1048576 bytes, and the listed variables of Go's library read as laid. -/
section
namespace Go.Proofs.YtijbaienhaiamaaDoor
open Go.RowKit

/-- How readInt ends. -/
def ReadEnds (o : Option Int) (e : Ending) : Prop :=
  match o with
  | some n => e = .returned (.int .i64 n)
  | none => ∃ u pv, e = .panicked [{ v := .iface u pv, recovered := false }]

set_option maxHeartbeats 1000000 in
set_option maxRecDepth 100000 in
theorem read_int_ok (s : ByteArray) (lo hi v : Int) (h0 : -9223372036854775808 ≤ lo) (h1 : hi ≤ 9223372036854775807) (hs : s.size ≤ 1048576) (hv : Lib.atoiAll s.data.toList = .ok v) (hv0 : -9223372036854775808 ≤ v) (hv1 : v ≤ 9223372036854775807) (w : World)
    (htab : Lib.TabIs Tryd.prog w "internal/strconv.uint64pow10" .u64 Lib.pow10Tab) :
    Calls Tryd.prog 46 #[.string s, .int .i64 lo, .int .i64 hi] w fun e w' => ReadEnds (readOf lo hi s.data.toList) e ∧ Below w.heap.size w w' := by
  go_enter Tryd.func46, Tryd.ntmps46
  go_wp2_with fail
  refine (Tryd.strconv_Atoi_ok s (by omega) v hv _).mono ?_
  rintro e w1 ⟨rfl, hw1⟩
  have hb1 : Below w.heap.size w w1 := by
    rcases hw1 with rfl | ⟨t, rfl⟩
    · exact Below.refl _ _
    · exact Lib.bytesWorld_below w _ t
  clear hw1
  have HV := Lib.hid hv
  clear hv
  by_cases hlo : v < lo
  · have HR : Hid (readOf lo hi s.data.toList = none) := readOf_none (fun n hn => by
      obtain ⟨a, b, c⟩ := hn
      have : Lib.atoiAll s.data.toList = .ok n := by rw [← c]; exact atoi_itoa n (by omega) (by omega)
      rw [HV.out] at this
      injection this with e
      omega) h0 h1
    go_wp2
    exact ⟨rfl, by rw [HR.out]; exact ⟨_, _, rfl⟩, hb1⟩
  · by_cases hhi : hi < v
    · have HR : Hid (readOf lo hi s.data.toList = none) := readOf_none (fun n hn => by
        obtain ⟨a, b, c⟩ := hn
        have : Lib.atoiAll s.data.toList = .ok n := by rw [← c]; exact atoi_itoa n (by omega) (by omega)
        rw [HV.out] at this
        injection this with e
        omega) h0 h1
      go_wp2
      exact ⟨rfl, by rw [HR.out]; exact ⟨_, _, rfl⟩, hb1⟩
    · go_wp2_with fail
      refine (impl_format v hv0 hv1 _ (Go.Joins.tab_stays (g := 3) (by kernel_rfl) htab hb1 (Nat.le_refl _))).mono ?_
      rintro e w2 ⟨rfl, hb2⟩
      have hb3 : Below w.heap.size w w2 := hb1.trans (hb2.mono hb1.size)
      by_cases heq : Lib.itoa v = s.data.toList
      · have h2 : (Lib.itoa v == s.toList) = true := by rw [ByteArray.toList_eq, heq]; simp
        have HR : Hid (readOf lo hi s.data.toList = some v) := (readOf_iff h0 h1).2 ⟨by omega, by omega, heq⟩
        clear heq
        go_wp2
        go_ret
        exact ⟨by rw [HR.out]; rfl, hb3⟩
      · have h2 : (Lib.itoa v == s.toList) = false := by rw [ByteArray.toList_eq]; simpa using heq
        have HR : Hid (readOf lo hi s.data.toList = none) := readOf_none (fun n hn => by
          obtain ⟨a, b, c⟩ := hn
          have : Lib.atoiAll s.data.toList = .ok n := by rw [← c]; exact atoi_itoa n (by omega) (by omega)
          rw [HV.out] at this
          injection this with e
          subst e
          exact heq c) h0 h1
        clear heq
        go_wp2
        exact ⟨rfl, by rw [HR.out]; exact ⟨_, _, rfl⟩, hb3⟩

set_option maxHeartbeats 1000000 in
set_option maxRecDepth 100000 in
theorem read_int_bad (s : ByteArray) (lo hi : Int) (hs : s.size ≤ 1048576) (hv : Lib.atoiAll s.data.toList = Lib.atoiAll []) (tp : TypeId) (p : Value) (w : World) (hvar : w.var? Tryd.prog "strconv.ErrSyntax" = some #[.iface tp p]) :
    Calls Tryd.prog 46 #[.string s, .int .i64 lo, .int .i64 hi] w fun e w' => ReadEnds (readOf lo hi s.data.toList) e ∧ Below w.heap.size w w' := by
  have HR : Hid (readOf lo hi s.data.toList = none) := by unfold Hid readOf; rw [hv]; rfl
  go_enter Tryd.func46, Tryd.ntmps46
  go_wp2_with fail
  refine (Tryd.strconv_Atoi_syntax_var s (by omega) hv tp p _ hvar).mono ?_
  rintro e w1 ⟨N, rfl, hN, hcell, hb1⟩
  clear hcell hN
  go_wp2
  exact ⟨rfl, by rw [HR.out]; exact ⟨_, _, rfl⟩, hb1⟩

set_option maxHeartbeats 1000000 in
set_option maxRecDepth 100000 in
theorem read_int_range (s : ByteArray) (lo hi : Int) (hs : s.size ≤ 1048576) (hv : Lib.atoiAll s.data.toList = .range) (tp : TypeId) (p : Value) (w : World) (hvar : w.var? Tryd.prog "strconv.ErrRange" = some #[.iface tp p]) :
    Calls Tryd.prog 46 #[.string s, .int .i64 lo, .int .i64 hi] w fun e w' => ReadEnds (readOf lo hi s.data.toList) e ∧ Below w.heap.size w w' := by
  have HR : Hid (readOf lo hi s.data.toList = none) := by unfold Hid readOf; rw [hv]
  go_enter Tryd.func46, Tryd.ntmps46
  go_wp2_with fail
  refine (Tryd.strconv_Atoi_range_var s (by omega) hv tp p _ hvar).mono ?_
  rintro e w1 ⟨N, rfl, hN, hcell, hb1⟩
  clear hcell hN
  go_wp2
  exact ⟨rfl, by rw [HR.out]; exact ⟨_, _, rfl⟩, hb1⟩

/-- The variables of Go's library that the reader looks at. -/
structure LibVars (w : World) : Prop where
  tab : Lib.TabIs Tryd.prog w "internal/strconv.uint64pow10" .u64 Lib.pow10Tab
  bad : ∃ tp p, w.var? Tryd.prog "strconv.ErrSyntax" = some #[.iface tp p]
  far : ∃ tp p, w.var? Tryd.prog "strconv.ErrRange" = some #[.iface tp p]
theorem LibVars.stays {w w' : World} (h : LibVars w) (hb : Below w.heap.size w w') : LibVars w' := by
  obtain ⟨h1, ⟨tp, p, h2⟩, ⟨tq, q, h3⟩⟩ := h
  exact ⟨Go.Joins.tab_stays (g := 3) (by kernel_rfl) h1 hb (Nat.le_refl _), ⟨tp, p, Go.Joins.var_stays (g := 1) (by kernel_rfl) h2 hb (Nat.le_refl _)⟩, ⟨tq, q, Go.Joins.var_stays (g := 2) (by kernel_rfl) h3 hb (Nat.le_refl _)⟩⟩

/-- impl.readInt. -/
theorem read_int (s : ByteArray) (lo hi : Int) (h0 : -9223372036854775808 ≤ lo) (h1 : hi ≤ 9223372036854775807) (hs : s.size ≤ 1048576) (w : World) (hL : LibVars w) :
    Calls Tryd.prog 46 #[.string s, .int .i64 lo, .int .i64 hi] w fun e w' => ReadEnds (readOf lo hi s.data.toList) e ∧ Below w.heap.size w w' := by
  obtain ⟨htab, ⟨tp, p, hb⟩, ⟨tq, q, hf⟩⟩ := hL
  rcases atoi_cases s.data.toList with ⟨v, hv⟩ | hv | hv
  · have hr := atoi_range hv
    exact read_int_ok s lo hi v h0 h1 hs hv hr.1 hr.2 w htab
  · exact read_int_bad s lo hi hs hv tp p w hb
  · exact read_int_range s lo hi hs hv tq q w hf
end Go.Proofs.YtijbaienhaiamaaDoor
end

/- What is proved here: the model's FormatInt (package spec) returns the decimal numeral of every int. Condition: the argument is an int. -/
section
namespace Go.Proofs.YtijbaienhaiamaaDoor
open Go.RowKit
open Go.Lib (decDigits nDigits)

/-- 'string([]byte{byte(48 + d)})' off a new block. -/
theorem conv_one (d : Nat) (hd : d < 10) (w : World) :
    (convert 62 9 (.slice (some ⟨w.heap.size, 0, none⟩) 1 1)).run Tryd.prog (w.alloc (.cells #[.int .u8 (48 + (d : Int))] 5)) = .ok (.string ⟨#[UInt8.ofNat (48 + d)]⟩) (w.alloc (.cells #[.int .u8 (48 + (d : Int))] 5)) := by
  have h := run_convert_bytes_back (P := Tryd.prog) (w.alloc (.cells #[.int .u8 (48 + (d : Int))] 5)) 62 9 5 ⟨w.heap.size, 0, none⟩ 1 [UInt8.ofNat (48 + d)] Tryd.underlying62 Tryd.underlying5 Tryd.underlying9 (fun j hj => by
    have hj0 : j = 0 := by simpa using hj
    subst hj0
    have e : ((UInt8.ofNat (48 + d)).toNat : Int) = 48 + (d : Int) := by simp; omega
    rw [Lib.add_plain]
    simp only [List.getElem_cons_zero]
    rw [e]
    simp [World.cell?_alloc_new])
  simpa using h

theorem cat_one (c : UInt8) (L : List UInt8) (h : L.length ≤ 100) (w : World) : (Op.stringOp .add ⟨#[c]⟩ ⟨L.toArray⟩).run Tryd.prog w = .ok (.string ⟨(c :: L).toArray⟩) w := by
  have e1 : (ByteArray.mk #[c]).size = 1 := rfl
  have e2 : (ByteArray.mk L.toArray).size = L.length := by show L.toArray.size = _; simp
  rw [run_string_add_sum w _ _ (by rw [e1, e2]; omega)]
  rfl

set_option maxHeartbeats 400000 in
set_option maxRecDepth 100000 in
theorem spec_format_pos (n : Nat) (h1 : n ≤ 9223372036854775807) (hp : n ≠ 0) (w : World) :
    Calls Tryd.prog 23 #[.int .i64 (n : Int)] w fun e w' => e = .returned (.string ⟨(decDigits n).toArray⟩) ∧ Below w.heap.size w w' := by
  have hn20 : (decDigits n).length ≤ 20 := by rw [Lib.decDigits_length]; exact Lib.nDigits_le20 n (by omega)
  have HN := Lib.hid hn20
  clear hn20
  go_enter Tryd.func23, Tryd.ntmps23
  go_wp2
  go_loopw [0, 4] (fun a o wr => ∃ (u : Nat) (L : List UInt8), a = .int .i64 u ∧ u ≤ n ∧ o = .string ⟨L.toArray⟩ ∧ L.length ≤ 20 ∧ digitsOf u ++ L = decDigits n ∧ Below w.heap.size w wr) (fun a _ _ => (intOf a).toNat)
  case atStart => exact ⟨n, [], rfl, Nat.le_refl _, rfl, by simp, by simp [digitsOf_pos hp], Below.refl _ _⟩
  case round =>
    obtain ⟨u, L, rfl, hu, rfl, hL, hD, hb⟩ := hrel
    by_cases h0 : u = 0
    · subst h0
      go_wp2
      go_ret
      rw [digitsOf_zero] at hD
      simp at hD
      subst hD
      exact ⟨rfl, hb⟩
    · have hD' := Lib.hid hD
      clear hD
      have hcv := conv_one (u % 10) (by omega) wr
      have hct := cat_one (UInt8.ofNat (48 + u % 10)) L (by omega)
      simp only [Int.natCast_emod, Int.cast_ofNat_Int] at hcv
      go_wp2
      go_roundw
      case rel => 
        refine ⟨u / 10, _, by go_num, by omega, rfl, ?_, ?_, ?_⟩
        · have := hD'.out
          rw [digitsOf_step h0] at this
          have h2 := congrArg List.length this
          have h3 := HN.out
          simp at h2 ⊢
          omega
        · have := hD'.out
          rw [digitsOf_step h0] at this
          simpa using this
        · exact hb.alloc (by have := hb.size; omega) _
      case measure => simp [intOf]; omega

set_option maxHeartbeats 400000 in
set_option maxRecDepth 100000 in
theorem spec_format_neg (n : Nat) (h1 : n ≤ 9223372036854775808) (hp : n ≠ 0) (w : World) :
    Calls Tryd.prog 23 #[.int .i64 (-(n : Int))] w fun e w' => e = .returned (.string ⟨(45 :: decDigits n).toArray⟩) ∧ Below w.heap.size w w' := by
  have hn20 : (decDigits n).length ≤ 20 := by rw [Lib.decDigits_length]; exact Lib.nDigits_le20 n (by omega)
  have hct0 := cat_one 45 (decDigits n) (by omega)
  have HN := Lib.hid hn20
  clear hn20
  have hz : (-(n : Int) == 0) = false := by simp; omega
  have hl : decide (-(n : Int) < 0) = true := by simp; omega
  go_enter Tryd.func23, Tryd.ntmps23
  go_wp2
  go_loopw [0, 4] (fun a o wr => ∃ (u : Nat) (L : List UInt8), a = .int .i64 (-(u : Int)) ∧ u ≤ n ∧ o = .string ⟨L.toArray⟩ ∧ L.length ≤ 20 ∧ digitsOf u ++ L = decDigits n ∧ Below w.heap.size w wr) (fun a _ _ => (intOf a).natAbs)
  case atStart => exact ⟨n, [], rfl, Nat.le_refl _, rfl, by simp, by simp [digitsOf_pos hp], Below.refl _ _⟩
  case round =>
    obtain ⟨u, L, rfl, hu, rfl, hL, hD, hb⟩ := hrel
    by_cases h0 : u = 0
    · subst h0
      rw [digitsOf_zero] at hD
      simp at hD
      subst hD
      go_wp2
      go_ret
      exact ⟨rfl, hb⟩
    · have hD' := Lib.hid hD
      clear hD
      have hcv := conv_one (u % 10) (by omega) wr
      have hct := cat_one (UInt8.ofNat (48 + u % 10)) L (by omega)
      simp only [Int.natCast_emod, Int.cast_ofNat_Int] at hcv
      have hcv2 := hcv
      by_cases hd : u % 10 = 0
      · rw [show 48 + ((u : Int) % 10) = 48 + -((u : Int) % 10) by omega] at hcv2
        clear hcv
        have HD := Lib.hid hd
        have hd1 : ¬ ((u : Int) % 10 < 0) := by omega
        have hd2 : ¬ (0 < (u : Int) % 10) := by omega
        clear hd
        go_wp2
        go_roundw
        case rel =>
          refine ⟨u / 10, _, by go_num, by omega, rfl, ?_, ?_, ?_⟩
          · have := hD'.out
            rw [digitsOf_step h0] at this
            have h2 := congrArg List.length this
            have h3 := HN.out
            simp at h2 ⊢
            omega
          · have := hD'.out
            rw [digitsOf_step h0] at this
            simpa using this
          · exact hb.alloc (by have := hb.size; omega) _
        case measure => simp [intOf]; omega
      · clear hcv2
        go_wp2
        go_roundw
        case rel =>
          refine ⟨u / 10, _, by go_num, by omega, rfl, ?_, ?_, ?_⟩
          · have := hD'.out
            rw [digitsOf_step h0] at this
            have h2 := congrArg List.length this
            have h3 := HN.out
            simp at h2 ⊢
            omega
          · have := hD'.out
            rw [digitsOf_step h0] at this
            simpa using this
          · exact hb.alloc (by have := hb.size; omega) _
        case measure => simp [intOf]; omega

theorem spec_format_zero (w : World) :
    Calls Tryd.prog 23 #[.int .i64 0] w fun e w' => e = .returned (.string ⟨(decDigits 0).toArray⟩) ∧ Below w.heap.size w w' := by
  have e : decDigits 0 = [48] := by rw [Lib.decDigits_one (by omega)]; rfl
  rw [e]
  go_enter Tryd.func23, Tryd.ntmps23
  go_wp2
  go_ret
  exact ⟨rfl, Below.refl _ _⟩

/-- spec.FormatInt: the decimal numeral of every int. -/
theorem spec_format (n : Int) (h0 : -9223372036854775808 ≤ n) (h1 : n ≤ 9223372036854775807) (w : World) :
    Calls Tryd.prog 23 #[.int .i64 n] w fun e w' => e = .returned (.string ⟨(Lib.itoa n).toArray⟩) ∧ Below w.heap.size w w' := by
  by_cases hn : n < 0
  · obtain ⟨u, rfl⟩ : ∃ u : Nat, n = -(u : Int) := ⟨n.natAbs, by omega⟩
    rw [Lib.itoa_neg u (by omega)]
    exact spec_format_neg u (by omega) (by omega) w
  · obtain ⟨u, rfl⟩ : ∃ u : Nat, n = (u : Int) := ⟨n.toNat, by omega⟩
    rw [Lib.itoa_nonneg]
    by_cases hu : u = 0
    · subst hu
      exact spec_format_zero w
    · exact spec_format_pos u (by omega) hu w

end Go.Proofs.YtijbaienhaiamaaDoor
end

/- What is proved here: the model's l1Read (package spec) accepts exactly the numerals of the integers of at most 'most' digits. Condition: 'most' is at most 12. -/
section
namespace Go.Proofs.YtijbaienhaiamaaDoor
open Go.RowKit

/-- What the reader returns. -/
def readEnd (o : Option Int) : Ending :=
  match o with
  | some n => .returned (.tuple #[.int .i64 n, .bool true])
  | none => .returned (.tuple #[.int .i64 0, .bool false])

theorem take_snoc (s : ByteArray) (k : Nat) (h : k < s.size) : s.data.toList.take (k + 1) = s.data.toList.take k ++ [s[k]] := by
  rw [List.take_succ_eq_append_getElem (by simpa using h)]; rfl

theorem mem_at (s : ByteArray) (k : Nat) (h : k < s.size) : s[k] ∈ s.data.toList := by
  have := take_snoc s k h
  exact List.mem_of_mem_take (i := k + 1) (by rw [this]; simp)

theorem spec_read_empty (s : ByteArray) (most : Nat) (h0 : s.size = 0) (w : World) :
    Calls Tryd.prog 39 #[.string s, .int .i64 most] w fun e w' => e = readEnd none ∧ Below w.heap.size w w' := by
  obtain rfl : s = ByteArray.empty := by
    cases s with | mk d => cases d with | mk l => cases l with | nil => rfl | cons c r => simp [ByteArray.size] at h0
  go_enter Tryd.func39, Tryd.ntmps39
  go_wp2
  go_ret2
  exact ⟨rfl, Below.refl _ _⟩

set_option maxHeartbeats 1000000 in
set_option maxRecDepth 100000 in
theorem spec_read_plain (s : ByteArray) (most : Nat) (hm : most ≤ 12) (hm1 : 1 ≤ most) (hs : s.size ≤ maxLen) (h0 : 0 < s.size) (h45 : ¬ s[0].toNat = 45) (w : World) :
    Calls Tryd.prog 39 #[.string s, .int .i64 most] w fun e w' => e = readEnd (specRead most s.data.toList) ∧ Below w.heap.size w w' := by
  unfold maxLen at hs
  have hh : ¬ s.data.toList.head? = some 45 := by
    intro h
    apply h45
    have e : s.data.toList = s[0] :: s.data.toList.tail := by
      have := take_snoc s 0 h0
      cases hl : s.data.toList with
      | nil => simp [hl] at this
      | cons c r => rw [hl] at this; simp at this; rw [this]; rfl
    rw [e] at h
    simp at h
    rw [h]
    rfl
  have hsz : s.data.toList.length = s.size := rfl
  have HH := Lib.hid hh
  have HZ := Lib.hid hsz
  clear hh hsz
  by_cases hlen : most < s.size
  · have hR : specRead most s.data.toList = none := specRead_none_len (by rw [behind_plain HH.out, HZ.out]; exact hlen)
    rw [hR]
    go_enter Tryd.func39, Tryd.ntmps39
    go_wp2
    go_ret2
    exact ⟨rfl, Below.refl _ _⟩
  · go_enter Tryd.func39, Tryd.ntmps39
    go_wp2
    go_loop [8, 9] (fun n i => ∃ k : Nat, k ≤ s.size ∧ i = .int .i64 k ∧ n = .int .i64 (digVal 0 (s.data.toList.take k) : Nat) ∧ ∀ c ∈ s.data.toList.take k, isDig c) (fun _ i => s.size - (intOf i).toNat)
    case atStart => exact ⟨0, Nat.zero_le _, rfl, by rw [List.take_zero, digVal_nil]; rfl, by simp⟩
    case round =>
      obtain ⟨k, hk, rfl, rfl, hd⟩ := hrel
      have hv := digVal_lt_pow (s.data.toList.take k) 12 hd (by simp; omega)
      have HD := Lib.hid hd
      clear hd
      by_cases hlt : k < s.size
      · by_cases hc1 : s[k].toNat < 48
        · have hR : specRead most s.data.toList = none := specRead_none_dig (c := s[k]) (by rw [behind_plain HH.out]; exact mem_at s k hlt) (by unfold isDig; omega)
          have HR := Lib.hid hR
          clear hR
          go_wp2
          go_ret2
          exact ⟨by rw [HR.out]; rfl, Below.refl _ _⟩
        · by_cases hc2 : 57 < s[k].toNat
          · have hR : specRead most s.data.toList = none := specRead_none_dig (c := s[k]) (by rw [behind_plain HH.out]; exact mem_at s k hlt) (by unfold isDig; omega)
            have HR := Lib.hid hR
            clear hR
            go_wp2
            go_ret2
            exact ⟨by rw [HR.out]; rfl, Below.refl _ _⟩
          · have hsn := take_snoc s k hlt
            have hds := digVal_snoc (s.data.toList.take k) s[k]
            have HS : Hid (digVal 0 (s.data.toList.take (k + 1)) = 10 * digVal 0 (s.data.toList.take k) + (s[k].toNat - 48)) := by rw [hsn]; exact hds
            clear hsn hds
            go_wp2
            go_round
            case rel => 
              refine ⟨k + 1, by omega, by go_num, ?_, ?_⟩
              · rw [HS.out]
                go_num
              · rw [take_snoc s k hlt]
                intro c hc
                rcases List.mem_append.1 hc with hc | hc
                · exact HD.out c hc
                · simp at hc
                  subst hc
                  unfold isDig
                  omega
            case measure => simp [intOf]; omega
      · obtain rfl : k = s.size := by omega
        have htk : s.data.toList.take s.size = s.data.toList := List.take_of_length_le (Nat.le_refl _)
        rw [htk] at hv
        rw [htk]
        go_wp2_with fail
        refine (spec_format _ (by omega) (by omega) _).mono ?_
        rintro e w1 ⟨rfl, hb1⟩
        by_cases heq : Lib.itoa (digVal 0 s.data.toList : Nat) = s.data.toList
        · have h1 : (Lib.itoa (digVal 0 s.data.toList : Nat) == s.toList) = true := by rw [ByteArray.toList_eq, heq]; simp
          have HE := Lib.hid heq
          clear heq
          go_wp2
          go_ret2
          refine ⟨?_, hb1⟩
          have hd := HD.out
          rw [htk] at hd
          rw [specRead_some (by rw [behind_plain HH.out, HZ.out]; omega) (by rw [behind_plain HH.out, HZ.out]; omega) (by rw [behind_plain HH.out]; exact hd) (by rw [behind_plain HH.out, signed_plain HH.out]; exact HE.out), behind_plain HH.out, signed_plain HH.out]
          rfl
        · have h1 : (Lib.itoa (digVal 0 s.data.toList : Nat) == s.toList) = false := by rw [ByteArray.toList_eq]; simpa using heq
          have HE := Lib.hid heq
          clear heq
          go_wp2
          go_ret2
          refine ⟨?_, hb1⟩
          rw [specRead_none_ne (by rw [behind_plain HH.out, signed_plain HH.out]; exact HE.out)]
          rfl
theorem tail_facts (s : ByteArray) (h0 : 0 < s.size) (h45 : s[0].toNat = 45) : s.data.toList.head? = some 45 ∧ (s.extract 1 s.size).data.toList = s.data.toList.tail ∧ (s.extract 1 s.size).size = s.size - 1 := by
  have e : s.data.toList = s[0] :: s.data.toList.tail := by
    have := take_snoc s 0 h0
    cases hl : s.data.toList with
    | nil => simp [hl] at this
    | cons c r => rw [hl] at this; simp at this; rw [this]; rfl
  have e45 : s[0] = 45 := by
    apply UInt8.toNat_inj.1
    rw [h45]; rfl
  have e2 : (s.extract 1 s.size).data.toList = s.data.toList.tail := by
    rw [ByteArray.data_extract, Array.toList_extract, List.extract_eq_take_drop]
    have : s.data.toList.length = s.size := rfl
    rw [List.take_of_length_le (by simp), List.drop_one]
  refine ⟨by rw [e, e45]; rfl, e2, ?_⟩
  have h1 : (s.extract 1 s.size).size = (s.extract 1 s.size).data.toList.length := rfl
  rw [h1, e2, List.length_tail]
  rfl

set_option maxHeartbeats 1000000 in
set_option maxRecDepth 100000 in
theorem spec_read_minus (s : ByteArray) (most : Nat) (hm : most ≤ 12) (hm1 : 1 ≤ most) (hs : s.size ≤ maxLen) (h0 : 0 < s.size) (h45 : s[0].toNat = 45) (w : World) :
    Calls Tryd.prog 39 #[.string s, .int .i64 most] w fun e w' => e = readEnd (specRead most s.data.toList) ∧ Below w.heap.size w w' := by
  unfold maxLen at hs
  obtain ⟨hh, htl, htz⟩ := tail_facts s h0 h45
  have HH := Lib.hid hh
  have HT := Lib.hid htl
  have HZ := Lib.hid htz
  clear hh htl htz
  have hq : ((s[0].toNat : Int) == 45) = true := by rw [h45]; rfl
  have H45 := Lib.hid h45
  clear h45
  by_cases hlen : most < s.size - 1
  · have hR : specRead most s.data.toList = none := specRead_none_len (by rw [behind_minus HH.out, ← HT.out]; exact (show _ < (s.extract 1 s.size).size by rw [HZ.out]; exact hlen))
    have HR := Lib.hid hR
    clear hR
    go_enter Tryd.func39, Tryd.ntmps39
    go_wp2
    go_ret2
    exact ⟨by rw [HR.out]; rfl, Below.refl _ _⟩
  · by_cases hone : s.size = 1
    · have hR : specRead most s.data.toList = none := specRead_none_nil (by
        rw [behind_minus HH.out, ← HT.out]
        exact List.eq_nil_of_length_eq_zero (show (s.extract 1 s.size).size = 0 by rw [HZ.out]; omega))
      have HR := Lib.hid hR
      clear hR
      go_enter Tryd.func39, Tryd.ntmps39
      go_wp2
      go_ret2
      exact ⟨by rw [HR.out]; rfl, Below.refl _ _⟩
    · go_enter Tryd.func39, Tryd.ntmps39
      go_wp2
      generalize hgt : s.extract 1 s.size = t
      have htz := HZ.out
      rw [hgt] at htz
      have hts : t.size ≤ 12 := by omega
      have ht1 : 1 ≤ t.size := by omega
      have HG := Lib.hid hgt
      have HZ2 := Lib.hid htz
      clear hgt htz
      go_loop [8, 9] (fun n i => ∃ k : Nat, k ≤ t.size ∧ i = .int .i64 k ∧ n = .int .i64 (digVal 0 (t.data.toList.take k) : Nat) ∧ ∀ c ∈ t.data.toList.take k, isDig c) (fun _ i => t.size - (intOf i).toNat)
      case atStart => exact ⟨0, Nat.zero_le _, rfl, by rw [List.take_zero, digVal_nil]; rfl, by simp⟩
      case round =>
        obtain ⟨k, hk, rfl, rfl, hd⟩ := hrel
        have hv := digVal_lt_pow (t.data.toList.take k) 12 hd (by simp; omega)
        have HD := Lib.hid hd
        clear hd
        by_cases hlt : k < t.size
        · by_cases hc1 : t[k].toNat < 48
          · have hR : specRead most s.data.toList = none := specRead_none_dig (c := t[k]) (by rw [behind_minus HH.out, ← HT.out, HG.out]; exact mem_at t k hlt) (by unfold isDig; omega)
            have HR := Lib.hid hR
            clear hR
            go_wp2
            go_ret2
            exact ⟨by rw [HR.out]; rfl, Below.refl _ _⟩
          · by_cases hc2 : 57 < t[k].toNat
            · have hR : specRead most s.data.toList = none := specRead_none_dig (c := t[k]) (by rw [behind_minus HH.out, ← HT.out, HG.out]; exact mem_at t k hlt) (by unfold isDig; omega)
              have HR := Lib.hid hR
              clear hR
              go_wp2
              go_ret2
              exact ⟨by rw [HR.out]; rfl, Below.refl _ _⟩
            · have hsn := take_snoc t k hlt
              have hds := digVal_snoc (t.data.toList.take k) t[k]
              have HS : Hid (digVal 0 (t.data.toList.take (k + 1)) = 10 * digVal 0 (t.data.toList.take k) + (t[k].toNat - 48)) := by rw [hsn]; exact hds
              clear hsn hds
              go_wp2
              go_round
              case rel =>
                refine ⟨k + 1, by omega, by go_num, ?_, ?_⟩
                · rw [HS.out]
                  go_num
                · rw [take_snoc t k hlt]
                  intro c hc
                  rcases List.mem_append.1 hc with hc | hc
                  · exact HD.out c hc
                  · simp at hc
                    subst hc
                    unfold isDig
                    omega
              case measure => simp [intOf]; omega
        · obtain rfl : k = t.size := by omega
          have htk : t.data.toList.take t.size = t.data.toList := List.take_of_length_le (Nat.le_refl _)
          rw [htk] at hv
          rw [htk]
          go_wp2_with fail
          refine (spec_format _ (by omega) (by omega) _).mono ?_
          rintro e w1 ⟨rfl, hb1⟩
          by_cases heq : Lib.itoa (-(digVal 0 t.data.toList : Nat)) = s.data.toList
          · have h1 : (Lib.itoa (-(digVal 0 t.data.toList : Nat)) == s.toList) = true := by rw [ByteArray.toList_eq, heq]; simp
            have HE := Lib.hid heq
            clear heq
            go_wp2
            go_ret2
            refine ⟨?_, hb1⟩
            have hd := HD.out
            rw [htk, ← HG.out, HT.out, ← behind_minus HH.out] at hd
            have he := HE.out
            rw [← HG.out, HT.out, ← behind_minus HH.out, ← signed_minus HH.out] at he
            have hl : (behind s.data.toList).length = t.size := by rw [behind_minus HH.out, ← HT.out, HG.out]; rfl
            rw [specRead_some (by rw [hl]; omega) (by rw [hl]; have := HZ2.out; omega) hd he, signed_minus HH.out, behind_minus HH.out, ← HT.out, HG.out]
            rfl
          · have h1 : (Lib.itoa (-(digVal 0 t.data.toList : Nat)) == s.toList) = false := by rw [ByteArray.toList_eq]; simpa using heq
            have HE := Lib.hid heq
            clear heq
            go_wp2
            go_ret2
            refine ⟨?_, hb1⟩
            rw [specRead_none_ne (by rw [signed_minus HH.out, behind_minus HH.out, ← HT.out, HG.out]; exact HE.out)]
            rfl

/-- spec.l1Read. -/
theorem spec_read (s : ByteArray) (most : Nat) (hm : most ≤ 12) (hm1 : 1 ≤ most) (hs : s.size ≤ maxLen) (w : World) :
    Calls Tryd.prog 39 #[.string s, .int .i64 most] w fun e w' => e = readEnd (specRead most s.data.toList) ∧ Below w.heap.size w w' := by
  by_cases h0 : s.size = 0
  · have e : s.data.toList = [] := List.eq_nil_of_length_eq_zero h0
    have hR : specRead most s.data.toList = none := by
      rw [e]
      exact specRead_none_nil (by simp [behind])
    rw [hR]
    exact spec_read_empty s most h0 w
  · by_cases h45 : (s[0]'(by omega)).toNat = 45
    · exact spec_read_minus s most hm hm1 hs (by omega) h45 w
    · exact spec_read_plain s most hm hm1 hs (by omega) h45 w
end Go.Proofs.YtijbaienhaiamaaDoor
end

/- What is proved here: impl.ParseInt answers by the integers whose numeral the string is, within their bounds, and with (0, false) where there is none. Conditions: as for the reader. -/
section
namespace Go.Proofs.YtijbaienhaiamaaDoor
open Go.RowKit

theorem catchParseInt_panicking (u : TypeId) (pv : Value) (older : List PanicEntry) (w : World) :
    CallsD Tryd.prog 45 #[] (.panicking ({ v := .iface u pv, recovered := false } :: older)) w fun e u' w' =>
      e = .returned (.tuple #[]) ∧ u' = .panicking ({ v := .iface u pv, recovered := true } :: older) ∧ w' = w := by
  refine callsD_of_wpS Tryd.func45 rfl fun c₀ cs hu => ?_
  apply wpS_region
  simp [wpOpsS, go_sem, recoverD, hu, Tryd.ntmps45, bodyPostS, results, Tryd.results45]

theorem catchParseInt_idle (w : World) :
    CallsD Tryd.prog 45 #[] .returning w fun e u' w' => e = .returned (.tuple #[]) ∧ u' = .returning ∧ w' = w := by
  refine callsD_of_wpS Tryd.func45 rfl fun c₀ cs hu => ?_
  apply wpS_region
  simp [wpOpsS, go_sem, recoverD, hu, Tryd.ntmps45, bodyPostS, results, Tryd.results45]
  rw [← hu]

set_option maxHeartbeats 1000000 in
set_option maxRecDepth 100000 in
/-- impl.ParseInt. -/
theorem impl_ParseInt (s : ByteArray) (hs : s.size ≤ 1048576) (w : World) (hL : LibVars w) :
    Calls Tryd.prog 29 #[.string s] w fun e w' => e = readEnd (readOf (-999999999999) 999999999999 s.data.toList) ∧ Below w.heap.size w w' := by
  cases hR : readOf (-999999999999) 999999999999 s.data.toList with
  | some n =>
    go_enter_defers Tryd.func29, Tryd.ntmps29
    go_wp2_with fail
    refine (read_int s (-999999999999) 999999999999 (by omega) (by omega) hs _ hL).mono ?_
    rintro e w1 ⟨he, hb⟩
    rw [hR] at he
    obtain rfl : e = .returned (.int .i64 n) := he
    go_wp2
    refine leaves_cons (f := 45) (args := #[]) (by simp) (by simp [go_sem]) ?_
    refine (catchParseInt_idle _).mono ?_
    rintro e u' w'' ⟨rfl, rfl, rfl⟩
    simp [Leaves, settle, results, Tryd.results29, go_sem, readEnd, hb]
  | none =>
    go_enter_defers Tryd.func29, Tryd.ntmps29
    go_wp2_with fail
    refine (read_int s (-999999999999) 999999999999 (by omega) (by omega) hs _ hL).mono ?_
    rintro e w1 ⟨he, hb⟩
    rw [hR] at he
    obtain ⟨u, pv, rfl⟩ : ∃ u pv, e = .panicked [{ v := .iface u pv, recovered := false }] := he
    go_wp2
    refine leaves_cons (f := 45) (args := #[]) (by simp) (by simp [go_sem]) ?_
    refine (catchParseInt_panicking u pv [] _).mono ?_
    rintro e u' w'' ⟨rfl, rfl, rfl⟩
    simp [Leaves, settle, results, Tryd.results29, go_sem, readEnd, hb]

end Go.Proofs.YtijbaienhaiamaaDoor
end

/- What is proved here: what stays while a reader reads; a box of a node set anew. No condition. -/
section
namespace Go.Proofs.YtijbaienhaiamaaDoor
open Go.RowKit

/-- The library's variables stay where only block b changes. -/
def Keeps (b : Nat) (w : World) : Prop := ∀ w', Only (Just b) w w' → LibVars w' ∧ MaxLenVar w'
theorem Keeps.on {b : Nat} {w w' : World} (h : Keeps b w) (k : Only (Just b) w w') : Keeps b w' := fun w2 h2 => h w2 (k.trans h2)
theorem Keeps.lib {b : Nat} {w : World} (h : Keeps b w) : LibVars w := (h w (Only.refl _ _)).1
theorem Keeps.mx {b : Nat} {w : World} (h : Keeps b w) : MaxLenVar w := (h w (Only.refl _ _)).2
theorem Only.fresh {F : Nat → Prop} {w w' : World} (h : Only F w w') {g : Nat} (hg : w.heap.size ≤ g) (o : Nat) (v : Value) : Only F w (w'.setCell ⟨g, o, none⟩ v) :=
  ⟨h.os, h.tape, h.output, by simpa [World.setCell] using h.size, fun b hb hn => (Below.heap_setCell _ _ _ _ (by show b ≠ g; omega)).trans (h.block b hb hn)⟩
theorem Only.more {F : Nat → Prop} {w w' : World} (h : Only F w w') (o : Obj) : Only F w (w'.alloc o) :=
  h.trans (Only.of_below ((Below.refl _ _).alloc (Nat.le_refl _) _))

def set4 (w : World) (g : Nat) (k n : Int) (t : ByteArray) (v : Value) : World := (((w.setCell ⟨g, 0, none⟩ (.int .i64 k)).setCell ⟨g, 1, none⟩ (.int .i64 n)).setCell ⟨g, 2, none⟩ (.string t)).setCell ⟨g, 3, none⟩ v
theorem set4_other {w : World} {g b : Nat} (k n : Int) (t : ByteArray) (v : Value) (h : b ≠ g) : (set4 w g k n t v).heap[b]? = w.heap[b]? := by
  unfold set4
  rw [Below.heap_setCell _ _ _ _ (by show b ≠ g; exact h), Below.heap_setCell _ _ _ _ (by show b ≠ g; exact h), Below.heap_setCell _ _ _ _ (by show b ≠ g; exact h), Below.heap_setCell _ _ _ _ (by show b ≠ g; exact h)]
theorem set4_size (w : World) (g : Nat) (k n : Int) (t : ByteArray) (v : Value) : (set4 w g k n t v).heap.size = w.heap.size := by simp [set4, World.setCell]
theorem set4_only {F : Nat → Prop} {w w' : World} (h : Only F w w') {g : Nat} (hg : w.heap.size ≤ g) (k n : Int) (t : ByteArray) (v : Value) : Only F w (set4 w' g k n t v) := (((h.fresh hg _ _).fresh hg _ _).fresh hg _ _).fresh hg _ _

theorem skip_cases (s p : List UInt8) : (p.isPrefixOf s = false ∧ (∀ x, s ≠ p ++ x) ∧ skipped s p = s) ∨ (p.isPrefixOf s = true ∧ s = p ++ skipped s p) := by
  unfold skipped
  cases h : p.isPrefixOf s with
  | false =>
    refine .inl ⟨rfl, fun x e => ?_, by simp⟩
    subst e
    have : p.isPrefixOf (p ++ x) = true := List.isPrefixOf_iff_prefix.2 (List.prefix_append _ _)
    rw [this] at h
    cases h
  | true =>
    obtain ⟨x, rfl⟩ := List.isPrefixOf_iff_prefix.1 h
    exact .inr ⟨rfl, by simp⟩
theorem RdAt.only {w w' : World} {b : Nat} {T : TypeId} {s : List UInt8} {m N D : Nat} (h : RdAt w b T s m N D) (ho : Only (fun _ => False) w w') : RdAt w' b T s m N D := (ho.block b h.lt (fun h => h)).trans h
theorem RdAt.set4 {w : World} {b g : Nat} {T : TypeId} {s : List UInt8} {m N D : Nat} (h : RdAt w b T s m N D) (hg : b ≠ g) (k n : Int) (t : ByteArray) (v : Value) : RdAt (set4 w g k n t v) b T s m N D := (set4_other k n t v hg).trans h
theorem two_new (w : World) (o1 o2 : Obj) : ((w.alloc o1).alloc o2).heap[w.heap.size]? = some o1 ∧ ((w.alloc o1).alloc o2).heap[w.heap.size + 1]? = some o2 ∧ ((w.alloc o1).alloc o2).heap.size = w.heap.size + 2 ∧ Below w.heap.size w ((w.alloc o1).alloc o2) := by
  have s1 : (w.alloc o1).heap.size = w.heap.size + 1 := Array.size_push _
  have s2 : ((w.alloc o1).alloc o2).heap.size = (w.alloc o1).heap.size + 1 := Array.size_push _
  have e1 := heap_at_new w o1
  have e2 := heap_at_new (w.alloc o1) o2
  rw [s1] at e2
  exact ⟨(Below.heap_alloc _ _ _ (by omega)).trans e1, e2, by omega, ((Below.refl _ _).alloc (Nat.le_refl _) _).alloc (by omega) _⟩
end Go.Proofs.YtijbaienhaiamaaDoor
end

/- What is proved here: what reading a value answers, and where. No condition. -/
section
namespace Go.Proofs.YtijbaienhaiamaaDoor.Va
open Go.RowKit

abbrev TR : TypeId := 39
abbrev TP : TypeId := 24
/-- A box of a value. -/
abbrev PBox (w : World) (g : Nat) (k n : Int) (t : ByteArray) (v : Value) : Prop := w.heap[g]? = some (.cells #[.int .i64 k, .int .i64 n, .string t, v] TP (0, 0))
abbrev zeroBox : Obj := .cells #[.int .i64 0, .int .i64 0, .string ⟨#[]⟩, .slice none 0 0] TP
theorem set4_box {w : World} {g : Nat} {k n : Int} {t : ByteArray} {v : Value} (h : PBox w g k n t v) (k' n' : Int) (t' : ByteArray) (v' : Value) : PBox (set4 w g k' n' t' v') g k' n' t' v' := (four_set (four_set (four_set (four_set h _).1 _).2.1 _).2.2.1 _).2.2.2
/-- What reading a value ends as, from the text s, m nodes begun, at the depth d. -/
def Ans (w : World) (b : Nat) (s : List UInt8) (m d : Nat) (e : Ending) (w' : World) : Prop :=
  (∃ p s' m' v bs, e = .returned (.tuple #[.agg #[.int .i64 (PatD.k p), .int .i64 p.n, .string p.t, v], .bool true]) ∧ OwnV w' v p.F bs ∧ bs.Nodup ∧ (∀ c ∈ bs, w.heap.size ≤ c ∧ c < w'.heap.size) ∧ RdAt w' b TR s' m' 40 12 ∧ OkP 40 12 s m d p s' m') ∨
  (∃ s' m', e = .returned (.tuple #[.agg #[.int .i64 0, .int .i64 0, .string ⟨#[]⟩, .slice none 0 0], .bool false]) ∧ RdAt w' b TR s' m' 40 12 ∧ NoneP 40 s m d)
/-- The program's read at the depth d. -/
def ReadOk (b d : Nat) : Prop := ∀ (w : World) (s : List UInt8) (m : Nat), RdAt w b TR s m 40 12 → m ≤ 40 → s.length ≤ 1048576 → Keeps b w →
  Calls Tryd.prog 13 #[.pointer (some ⟨b, 0, none⟩), .int .i64 (d : Int)] w fun e w' => Ans w b s m d e w' ∧ Only (Just b) w w'

/-- The end of a walk: the zero value and false. -/
theorem ans_none {w w' : World} {b g : Nat} {s s' : List UInt8} {m d m' : Nat} {e : Ending} (he : e = .returned (.tuple #[.agg #[.int .i64 0, .int .i64 0, .string ⟨#[]⟩, .slice none 0 0], .bool false])) (hR : RdAt w' b TR s' m' 40 12) (hN : NoneP 40 s m d) (hO : Only (Just b) w w') (hg : w.heap.size ≤ g) (hb : b ≠ g) :
    Ans w b s m d e (Go.Proofs.YtijbaienhaiamaaDoor.set4 w' g 0 0 ⟨#[]⟩ (.slice none 0 0)) ∧ Only (Just b) w (Go.Proofs.YtijbaienhaiamaaDoor.set4 w' g 0 0 ⟨#[]⟩ (.slice none 0 0)) :=
  ⟨.inr ⟨s', m', he, hR.set4 hb _ _ _ _, hN⟩, set4_only hO hg _ _ _ _⟩
/-- The end of a walk: a value in the box g and true. -/
theorem ans_some {w w' : World} {b g : Nat} {s s' : List UInt8} {m d m' : Nat} {e : Ending} {p : PatD} {v : Value} {bs : List Nat} (he : e = .returned (.tuple #[.agg #[.int .i64 p.k, .int .i64 p.n, .string p.t, v], .bool true])) (ho : OwnV w' v p.F bs) (hnd : bs.Nodup) (hbs : ∀ c ∈ bs, w.heap.size ≤ c ∧ c < w'.heap.size) (hbg : ∀ c ∈ bs, c ≠ g) (hR : RdAt w' b TR s' m' 40 12) (hP : OkP 40 12 s m d p s' m') (hO : Only (Just b) w w') (hg : w.heap.size ≤ g) (hb : b ≠ g) :
    Ans w b s m d e (Go.Proofs.YtijbaienhaiamaaDoor.set4 w' g p.k p.n p.t v) ∧ Only (Just b) w (Go.Proofs.YtijbaienhaiamaaDoor.set4 w' g p.k p.n p.t v) :=
  ⟨.inl ⟨p, s', m', v, bs, he, ho.keep (fun c hc => set4_other _ _ _ _ (hbg c hc)), hnd, fun c hc => by rw [set4_size]; exact hbs c hc, hR.set4 hb _ _ _ _, hP⟩, set4_only hO hg _ _ _ _⟩
/-- A leaf's end. -/
theorem ans_leaf {w w' : World} {b g : Nat} {s s' : List UInt8} {m d m' : Nat} {e : Ending} {k n : Int} {t : ByteArray} (he : e = .returned (.tuple #[.agg #[.int .i64 k, .int .i64 n, .string t, .slice none 0 0], .bool true])) (hR : RdAt w' b TR s' m' 40 12) (hP : OkP 40 12 s m d (Go.Proofs.YtijbaienhaiamaaDoor.leaf k n t) s' m') (hO : Only (Just b) w w') (hg : w.heap.size ≤ g) (hb : b ≠ g) :
    Ans w b s m d e (Go.Proofs.YtijbaienhaiamaaDoor.set4 w' g k n t (.slice none 0 0)) ∧ Only (Just b) w (Go.Proofs.YtijbaienhaiamaaDoor.set4 w' g k n t (.slice none 0 0)) :=
  ans_some (p := Go.Proofs.YtijbaienhaiamaaDoor.leaf k n t) he (.inl ⟨Option.none, 0, rfl, rfl, rfl⟩) List.nodup_nil (by simp) (by simp) hR hP hO hg hb
/-! Rows of one and of two values. -/
theorem own_one {w : World} {g : Nat} {p : PatD} {v : Value} {bs : List Nat} (hg : PBox w g p.k p.n p.t v) (ho : OwnV w v p.F bs) : OwnV w (.slice (some ⟨g, 0, none⟩) 1 1) (p.one .nil) (g :: bs) := by
  obtain ⟨h0, h1, h2, h3, _⟩ := four_cells hg
  exact .inr ⟨g, 1, bs, rfl, Nat.le_refl _, rfl, ⟨_, hg⟩, v, bs, [], by simp, h0, h1, h2, h3, ho, rfl⟩
theorem own_two {w : World} {g : Nat} {p q : PatD} {v u : Value} {bs cs : List Nat} (hg : w.heap[g]? = some (.cells #[.int .i64 p.k, .int .i64 p.n, .string p.t, v, .int .i64 q.k, .int .i64 q.n, .string q.t, u] TP (0, 0))) (ho : OwnV w v p.F bs) (ko : OwnV w u q.F cs) : OwnV w (.slice (some ⟨g, 0, none⟩) 2 2) (p.one (q.one .nil)) (g :: (bs ++ cs)) := by
  refine .inr ⟨g, 2, bs ++ cs, rfl, Nat.le_refl _, rfl, ⟨_, hg⟩, v, bs, cs, rfl, ?_, ?_, ?_, ?_, ho, u, cs, [], by simp, ?_, ?_, ?_, ?_, ko, rfl⟩ <;> simp [World.cell?, hg]
end Go.Proofs.YtijbaienhaiamaaDoor.Va
end
