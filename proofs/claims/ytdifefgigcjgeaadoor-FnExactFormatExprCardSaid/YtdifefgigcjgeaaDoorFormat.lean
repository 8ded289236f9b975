/- What is proved here: the model's FormatInt (package spec) returns the decimal numeral of every int. Condition: the argument is an int. -/
import Derived.Test.YtdifefgigcjgeaaDoorProg
import Derived.Test.YtdifefgigcjgeaaDoorNum
import Derived.WalkKit
import Derived.ProofKit
import Derived.Lib.Walk
import Derived.Lib.ItoaMem
import Derived.Lib.ItoaLen
import Derived.Lib.Hide
import Derived.WalkLawsBesides
import Derived.WalkSpells
import Derived.Outline
import Derived.Laws.IdiomStrings
import Derived.Laws.Concat
namespace Go.Proofs.YtdifefgigcjgeaaDoor
open Go.RowKit
open Go.Lib (decDigits nDigits)

/-- 'string([]byte{byte(48 + d)})' off a new block. -/
theorem conv_one (d : Nat) (hd : d < 10) (w : World) :
    (convert 108 9 (.slice (some ⟨w.heap.size, 0, none⟩) 1 1)).run Tryd.prog (w.alloc (.cells #[.int .u8 (48 + (d : Int))] 5)) = .ok (.string ⟨#[UInt8.ofNat (48 + d)]⟩) (w.alloc (.cells #[.int .u8 (48 + (d : Int))] 5)) := by
  have h := run_convert_bytes_back (P := Tryd.prog) (w.alloc (.cells #[.int .u8 (48 + (d : Int))] 5)) 108 9 5 ⟨w.heap.size, 0, none⟩ 1 [UInt8.ofNat (48 + d)] Tryd.underlying108 Tryd.underlying5 Tryd.underlying9 (fun j hj => by
    have hj0 : j = 0 := by simpa using hj
    subst hj0
    have e : ((UInt8.ofNat (48 + d)).toNat : Int) = 48 + (d : Int) := by simp; omega
    rw [Lib.add_plain]
    simp only [List.getElem_cons_zero]
    rw [e]
    simp [World.cell?_alloc_new])
  simpa using h

theorem cat_one (c : UInt8) (L : List UInt8) (h : L.length ≤ 100) (w : World) : (Op.stringOp .add ⟨#[c]⟩ ⟨L.toArray⟩).run Tryd.prog w = .ok (.string ⟨(c :: L).toArray⟩) w := by
  have e1 : (ByteArray.mk #[c]).size = 1 := rfl
  have e2 : (ByteArray.mk L.toArray).size = L.length := by show L.toArray.size = _; simp
  rw [run_string_add_sum w _ _ (by rw [e1, e2]; omega)]
  rfl

set_option maxHeartbeats 400000 in
set_option maxRecDepth 100000 in
theorem spec_format_pos (n : Nat) (h1 : n ≤ 9223372036854775807) (hp : n ≠ 0) (w : World) :
    Calls Tryd.prog 55 #[.int .i64 (n : Int)] w fun e w' => e = .returned (.string ⟨(decDigits n).toArray⟩) ∧ Below w.heap.size w w' := by
  have hn20 : (decDigits n).length ≤ 20 := by rw [Lib.decDigits_length]; exact Lib.nDigits_le20 n (by omega)
  have HN := Lib.hid hn20
  clear hn20
  go_enter Tryd.func55, Tryd.ntmps55
  go_wp2
  go_loopw [0, 4] (fun a o wr => ∃ (u : Nat) (L : List UInt8), a = .int .i64 u ∧ u ≤ n ∧ o = .string ⟨L.toArray⟩ ∧ L.length ≤ 20 ∧ digitsOf u ++ L = decDigits n ∧ Below w.heap.size w wr) (fun a _ _ => (intOf a).toNat)
  case atStart => exact ⟨n, [], rfl, Nat.le_refl _, rfl, by simp, by simp [digitsOf_pos hp], Below.refl _ _⟩
  case round =>
    obtain ⟨u, L, rfl, hu, rfl, hL, hD, hb⟩ := hrel
    by_cases h0 : u = 0
    · subst h0
      go_wp2
      go_ret
      rw [digitsOf_zero] at hD
      simp at hD
      subst hD
      exact ⟨rfl, hb⟩
    · have hD' := Lib.hid hD
      clear hD
      have hcv := conv_one (u % 10) (by omega) wr
      have hct := cat_one (UInt8.ofNat (48 + u % 10)) L (by omega)
      simp only [Int.natCast_emod, Int.cast_ofNat_Int] at hcv
      go_wp2
      go_roundw
      case rel => 
        refine ⟨u / 10, _, by go_num, by omega, rfl, ?_, ?_, ?_⟩
        · have := hD'.out
          rw [digitsOf_step h0] at this
          have h2 := congrArg List.length this
          have h3 := HN.out
          simp at h2 ⊢
          omega
        · have := hD'.out
          rw [digitsOf_step h0] at this
          simpa using this
        · exact hb.alloc (by have := hb.size; omega) _
      case measure => simp [intOf]; omega

set_option maxHeartbeats 400000 in
set_option maxRecDepth 100000 in
theorem spec_format_neg (n : Nat) (h1 : n ≤ 9223372036854775808) (hp : n ≠ 0) (w : World) :
    Calls Tryd.prog 55 #[.int .i64 (-(n : Int))] w fun e w' => e = .returned (.string ⟨(45 :: decDigits n).toArray⟩) ∧ Below w.heap.size w w' := by
  have hn20 : (decDigits n).length ≤ 20 := by rw [Lib.decDigits_length]; exact Lib.nDigits_le20 n (by omega)
  have hct0 := cat_one 45 (decDigits n) (by omega)
  have HN := Lib.hid hn20
  clear hn20
  have hz : (-(n : Int) == 0) = false := by simp; omega
  have hl : decide (-(n : Int) < 0) = true := by simp; omega
  go_enter Tryd.func55, Tryd.ntmps55
  go_wp2
  go_loopw [0, 4] (fun a o wr => ∃ (u : Nat) (L : List UInt8), a = .int .i64 (-(u : Int)) ∧ u ≤ n ∧ o = .string ⟨L.toArray⟩ ∧ L.length ≤ 20 ∧ digitsOf u ++ L = decDigits n ∧ Below w.heap.size w wr) (fun a _ _ => (intOf a).natAbs)
  case atStart => exact ⟨n, [], rfl, Nat.le_refl _, rfl, by simp, by simp [digitsOf_pos hp], Below.refl _ _⟩
  case round =>
    obtain ⟨u, L, rfl, hu, rfl, hL, hD, hb⟩ := hrel
    by_cases h0 : u = 0
    · subst h0
      rw [digitsOf_zero] at hD
      simp at hD
      subst hD
      go_wp2
      go_ret
      exact ⟨rfl, hb⟩
    · have hD' := Lib.hid hD
      clear hD
      have hcv := conv_one (u % 10) (by omega) wr
      have hct := cat_one (UInt8.ofNat (48 + u % 10)) L (by omega)
      simp only [Int.natCast_emod, Int.cast_ofNat_Int] at hcv
      have hcv2 := hcv
      by_cases hd : u % 10 = 0
      · rw [show 48 + ((u : Int) % 10) = 48 + -((u : Int) % 10) by omega] at hcv2
        clear hcv
        have HD := Lib.hid hd
        have hd1 : ¬ ((u : Int) % 10 < 0) := by omega
        have hd2 : ¬ (0 < (u : Int) % 10) := by omega
        clear hd
        go_wp2
        go_roundw
        case rel =>
          refine ⟨u / 10, _, by go_num, by omega, rfl, ?_, ?_, ?_⟩
          · have := hD'.out
            rw [digitsOf_step h0] at this
            have h2 := congrArg List.length this
            have h3 := HN.out
            simp at h2 ⊢
            omega
          · have := hD'.out
            rw [digitsOf_step h0] at this
            simpa using this
          · exact hb.alloc (by have := hb.size; omega) _
        case measure => simp [intOf]; omega
      · clear hcv2
        go_wp2
        go_roundw
        case rel =>
          refine ⟨u / 10, _, by go_num, by omega, rfl, ?_, ?_, ?_⟩
          · have := hD'.out
            rw [digitsOf_step h0] at this
            have h2 := congrArg List.length this
            have h3 := HN.out
            simp at h2 ⊢
            omega
          · have := hD'.out
            rw [digitsOf_step h0] at this
            simpa using this
          · exact hb.alloc (by have := hb.size; omega) _
        case measure => simp [intOf]; omega

theorem spec_format_zero (w : World) :
    Calls Tryd.prog 55 #[.int .i64 0] w fun e w' => e = .returned (.string ⟨(decDigits 0).toArray⟩) ∧ Below w.heap.size w w' := by
  have e : decDigits 0 = [48] := by rw [Lib.decDigits_one (by omega)]; rfl
  rw [e]
  go_enter Tryd.func55, Tryd.ntmps55
  go_wp2
  go_ret
  exact ⟨rfl, Below.refl _ _⟩

/-- spec.FormatInt: the decimal numeral of every int. -/
theorem spec_format (n : Int) (h0 : -9223372036854775808 ≤ n) (h1 : n ≤ 9223372036854775807) (w : World) :
    Calls Tryd.prog 55 #[.int .i64 n] w fun e w' => e = .returned (.string ⟨(Lib.itoa n).toArray⟩) ∧ Below w.heap.size w w' := by
  by_cases hn : n < 0
  · obtain ⟨u, rfl⟩ : ∃ u : Nat, n = -(u : Int) := ⟨n.natAbs, by omega⟩
    rw [Lib.itoa_neg u (by omega)]
    exact spec_format_neg u (by omega) (by omega) w
  · obtain ⟨u, rfl⟩ : ∃ u : Nat, n = (u : Int) := ⟨n.toNat, by omega⟩
    rw [Lib.itoa_nonneg]
    by_cases hu : u = 0
    · subst hu
      exact spec_format_zero w
    · exact spec_format_pos u (by omega) hu w

end Go.Proofs.YtdifefgigcjgeaaDoor
