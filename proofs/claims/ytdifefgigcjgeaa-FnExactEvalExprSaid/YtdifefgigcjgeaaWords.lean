/- What is proved here: the program's tests on words (impl: isLowerOrDigit, isWord) and the model's (spec: l2Lower, l2Digit, l2Rest, l1In) say what a word is. Condition: the text's length is a length. -/
import Derived.Test.YtdifefgigcjgeaaReads
import Derived.Test.YtdifefgigcjgeaaBl
namespace Go.Proofs.Ytdifefgigcjgeaa
open Go.RowKit

/-- A lower-case letter or a digit. -/
def Good (c : UInt8) : Prop := (97 ≤ c.toNat ∧ c.toNat ≤ 122) ∨ (48 ≤ c.toNat ∧ c.toNat ≤ 57)
/-- 1 to 8 bytes, the first from lo to hi, the others lower-case letters or digits. -/
def Word (lo hi : Nat) (s : ByteArray) : Prop := 1 ≤ s.size ∧ s.size ≤ 8 ∧ (∀ h : 0 < s.size, lo ≤ s[0].toNat ∧ s[0].toNat ≤ hi) ∧ ∀ j (h : j < s.size), 1 ≤ j → Good s[j]
theorem impl_good (c : UInt8) (w : World) :
    Calls Try.prog 106 #[.int .u8 (c.toNat : Int)] w fun e w' => e = .returned (.bool (bl (Good c))) ∧ w = w' := by
  have h0 : 0 ≤ c.toNat := Nat.zero_le _
  have h255 : c.toNat < 256 := c.toNat_lt
  have HG : Hid (bl (Good c) = (decide (97 ≤ (c.toNat : Int)) && decide ((c.toNat : Int) ≤ 122) || decide (48 ≤ (c.toNat : Int)) && decide ((c.toNat : Int) ≤ 57))) := by
    unfold Hid
    by_cases h : Good c
    · rw [bl_true h]
      symm
      unfold Good at h
      simp
      omega
    · rw [bl_false h]
      symm
      unfold Good at h
      simp
      omega
  generalize c.toNat = n at *
  generalize bl (Good c) = b at *
  by_cases h1 : 97 ≤ n
  · have e1 : decide (97 ≤ (n : Int)) = true := by simp; omega
    by_cases h2 : n ≤ 122
    · have e2 : decide ((n : Int) ≤ 122) = true := by simp; omega
      have HB : Hid (b = true) := by unfold Hid; rw [HG.out, e1, e2]; rfl
      go_enter Try.func106, Try.ntmps106
      go_wp2
      go_ret
      exact ⟨by rw [HB.out]; rfl, rfl⟩
    · have e2 : decide ((n : Int) ≤ 122) = false := by simp; omega
      have e3 : decide (48 ≤ (n : Int)) = true := by simp; omega
      have e4 : decide ((n : Int) ≤ 57) = false := by simp; omega
      have HB : Hid (b = false) := by unfold Hid; rw [HG.out, e1, e2, e3, e4]; rfl
      go_enter Try.func106, Try.ntmps106
      go_wp2
      go_ret
      exact ⟨by rw [HB.out]; simp, rfl⟩
  · have e1 : decide (97 ≤ (n : Int)) = false := by simp; omega
    by_cases h3 : 48 ≤ n
    · have e3 : decide (48 ≤ (n : Int)) = true := by simp; omega
      have HB : Hid (b = decide ((n : Int) ≤ 57)) := by unfold Hid; rw [HG.out, e1, e3]; simp
      go_enter Try.func106, Try.ntmps106
      go_wp2
      go_ret
      exact ⟨by rw [HB.out]; rfl, rfl⟩
    · have e3 : decide (48 ≤ (n : Int)) = false := by simp; omega
      have HB : Hid (b = false) := by unfold Hid; rw [HG.out, e1, e3]; simp
      go_enter Try.func106, Try.ntmps106
      go_wp2
      go_ret
      exact ⟨by rw [HB.out]; rfl, rfl⟩

set_option maxHeartbeats 1000000 in
set_option maxRecDepth 100000 in
theorem impl_word (s : ByteArray) (lo hi : Nat) (hs : s.size ≤ maxLen) (w : World) :
    Calls Try.prog 89 #[.string s, .int .u8 (lo : Int), .int .u8 (hi : Int)] w fun e w' => e = .returned (.bool (bl (Word lo hi s))) ∧ Below w.heap.size w w' := by
  unfold maxLen at hs
  by_cases h0 : s.size < 1
  · rw [bl_false (fun h => by have := h.1; omega)]
    go_enter Try.func89, Try.ntmps89
    go_wp2
    go_ret
    exact ⟨rfl, Below.refl _ _⟩
  · have hp : 0 < s.size := by omega
    by_cases h8 : 8 < s.size
    · rw [bl_false (fun h => by have := h.2.1; omega)]
      go_enter Try.func89, Try.ntmps89
      go_wp2
      go_ret
      exact ⟨rfl, Below.refl _ _⟩
    · by_cases hl : s[0].toNat < lo
      · rw [bl_false (fun h => by have := (h.2.2.1 hp).1; omega)]
        go_enter Try.func89, Try.ntmps89
        go_wp2
        go_ret
        exact ⟨rfl, Below.refl _ _⟩
      · by_cases hh : hi < s[0].toNat
        · rw [bl_false (fun h => by have := (h.2.2.1 hp).2; omega)]
          go_enter Try.func89, Try.ntmps89
          go_wp2
          go_ret
          exact ⟨rfl, Below.refl _ _⟩
        · go_enter Try.func89, Try.ntmps89
          go_wp2
          go_loopw [7] (fun i wr => ∃ k : Nat, 1 ≤ k ∧ k ≤ s.size ∧ i = .int .i64 k ∧ (∀ j (h : j < s.size), 1 ≤ j → j < k → Good s[j]) ∧ Below w.heap.size w wr) (fun i _ => s.size - (intOf i).toNat)
          case atStart => exact ⟨1, Nat.le_refl _, by omega, rfl, fun j h h1 h2 => by omega, Below.refl _ _⟩
          case round =>
            obtain ⟨k, hk1, hk, rfl, hg, hB⟩ := hrel
            have HG := Lib.hid hg
            clear hg
            by_cases hlt : k < s.size
            · by_cases hgood : Good s[k]
              · have hb := bl_true hgood
                have HC := Lib.hid hgood
                clear hgood
                go_wp2_with fail
                refine (impl_good s[k] _).mono ?_
                rintro e w1 ⟨rfl, rfl⟩
                rw [hb]
                go_wp2
                go_roundw
                case rel =>
                  refine ⟨k + 1, by omega, by omega, by go_num, fun j h h1 h2 => ?_, hB⟩
                  rcases Nat.lt_or_ge j k with h3 | h3
                  · exact HG.out j h h1 h3
                  · obtain rfl : j = k := by omega
                    exact HC.out
                case measure => simp [intOf]; omega
              · have hb := bl_false hgood
                have hR : bl (Word lo hi s) = false := bl_false (fun h => hgood (h.2.2.2 k hlt hk1))
                have HR := Lib.hid hR
                clear hgood hR
                go_wp2_with fail
                refine (impl_good s[k] _).mono ?_
                rintro e w1 ⟨rfl, rfl⟩
                rw [hb]
                go_wp2
                go_ret
                exact ⟨by rw [HR.out]; rfl, hB⟩
            · have hR : bl (Word lo hi s) = true := bl_true ⟨by omega, by omega, fun _ => ⟨by omega, by omega⟩, fun j h h1 => HG.out j h h1 (by omega)⟩
              have HR := Lib.hid hR
              clear hR
              go_wp2
              go_ret
              exact ⟨by rw [HR.out]; rfl, hB⟩

theorem spec_lower (c : UInt8) (w : World) :
    Calls Try.prog 91 #[.int .u8 (c.toNat : Int)] w fun e w' => e = .returned (.bool (bl (97 ≤ c.toNat ∧ c.toNat ≤ 122))) ∧ w = w' := by
  have h255 : c.toNat < 256 := c.toNat_lt
  generalize c.toNat = n at *
  by_cases h1 : 97 ≤ n
  · have e1 : decide (97 ≤ (n : Int)) = true := by simp; omega
    have HB : Hid (bl (97 ≤ n ∧ n ≤ 122) = decide ((n : Int) ≤ 122)) := by
      by_cases h2 : n ≤ 122
      · exact (bl_true ⟨h1, h2⟩).trans (by symm; simp; omega)
      · exact (bl_false (fun h => h2 h.2)).trans (by symm; simp; omega)
    go_enter Try.func91, Try.ntmps91
    go_wp2
    go_ret
    exact ⟨by rw [HB.out]; rfl, rfl⟩
  · have e1 : decide (97 ≤ (n : Int)) = false := by simp; omega
    have HB : Hid (bl (97 ≤ n ∧ n ≤ 122) = false) := bl_false (fun h => h1 h.1)
    go_enter Try.func91, Try.ntmps91
    go_wp2
    go_ret
    exact ⟨by rw [HB.out]; rfl, rfl⟩

theorem spec_digit (c : UInt8) (w : World) :
    Calls Try.prog 107 #[.int .u8 (c.toNat : Int)] w fun e w' => e = .returned (.bool (bl (48 ≤ c.toNat ∧ c.toNat ≤ 57))) ∧ w = w' := by
  have h255 : c.toNat < 256 := c.toNat_lt
  generalize c.toNat = n at *
  by_cases h1 : 48 ≤ n
  · have e1 : decide (48 ≤ (n : Int)) = true := by simp; omega
    have HB : Hid (bl (48 ≤ n ∧ n ≤ 57) = decide ((n : Int) ≤ 57)) := by
      by_cases h2 : n ≤ 57
      · exact (bl_true ⟨h1, h2⟩).trans (by symm; simp; omega)
      · exact (bl_false (fun h => h2 h.2)).trans (by symm; simp; omega)
    go_enter Try.func107, Try.ntmps107
    go_wp2
    go_ret
    exact ⟨by rw [HB.out]; rfl, rfl⟩
  · have e1 : decide (48 ≤ (n : Int)) = false := by simp; omega
    have HB : Hid (bl (48 ≤ n ∧ n ≤ 57) = false) := bl_false (fun h => h1 h.1)
    go_enter Try.func107, Try.ntmps107
    go_wp2
    go_ret
    exact ⟨by rw [HB.out]; rfl, rfl⟩

theorem spec_in (n lo hi : Nat) (w : World) :
    Calls Try.prog 69 #[.int .i64 (n : Int), .int .i64 (lo : Int), .int .i64 (hi : Int)] w fun e w' => e = .returned (.bool (bl (lo ≤ n ∧ n ≤ hi))) ∧ w = w' := by
  by_cases h1 : lo ≤ n
  · have e1 : decide ((lo : Int) ≤ (n : Int)) = true := by simp; omega
    have HB : Hid (bl (lo ≤ n ∧ n ≤ hi) = decide (n ≤ hi)) := by
      by_cases h2 : n ≤ hi
      · exact (bl_true ⟨h1, h2⟩).trans (by symm; simp; omega)
      · exact (bl_false (fun h => h2 h.2)).trans (by symm; simp; omega)
    go_enter Try.func69, Try.ntmps69
    go_wp2
    go_ret
    exact ⟨by rw [HB.out]; rfl, rfl⟩
  · have e1 : decide ((lo : Int) ≤ (n : Int)) = false := by simp; omega
    have HB : Hid (bl (lo ≤ n ∧ n ≤ hi) = false) := bl_false (fun h => h1 h.1)
    go_enter Try.func69, Try.ntmps69
    go_wp2
    go_ret
    exact ⟨by rw [HB.out]; rfl, rfl⟩

/-- What l2Rest asks. -/
def Rest (s : ByteArray) : Prop := 1 ≤ s.size ∧ s.size ≤ 8 ∧ ∀ j (h : j < s.size), 1 ≤ j → Good s[j]

set_option maxHeartbeats 1000000 in
set_option maxRecDepth 100000 in
theorem spec_rest (s : ByteArray) (hs : s.size ≤ maxLen) (w : World) :
    Calls Try.prog 92 #[.string s] w fun e w' => e = .returned (.bool (bl (Rest s))) ∧ Below w.heap.size w w' := by
  unfold maxLen at hs
  go_enter Try.func92, Try.ntmps92
  go_wp2
  go_loopw [3] (fun i wr => ∃ k : Nat, 1 ≤ k ∧ (k ≤ s.size ∨ k = 1) ∧ i = .int .i64 k ∧ (∀ j (h : j < s.size), 1 ≤ j → j < k → Good s[j]) ∧ Below w.heap.size w wr) (fun i _ => s.size - (intOf i).toNat)
  case atStart => exact ⟨1, Nat.le_refl _, .inr rfl, rfl, fun j h h1 h2 => by omega, Below.refl _ _⟩
  case round =>
    obtain ⟨k, hk1, hk, rfl, hg, hB⟩ := hrel
    have HG := Lib.hid hg
    clear hg
    by_cases hlt : k < s.size
    · by_cases hl : 97 ≤ s[k].toNat ∧ s[k].toNat ≤ 122
      · have hb := bl_true hl
        have HC : Hid (Good s[k]) := .inl hl
        clear hl hk
        go_wp2_with fail
        refine (spec_lower s[k] _).mono ?_
        rintro e w1 ⟨rfl, rfl⟩
        rw [hb]
        go_wp2
        go_roundw
        case rel =>
          refine ⟨k + 1, by omega, by omega, by go_num, fun j h h1 h2 => ?_, hB⟩
          rcases Nat.lt_or_ge j k with h3 | h3
          · exact HG.out j h h1 h3
          · obtain rfl : j = k := by omega
            exact HC.out
        case measure => simp [intOf]; omega
      · have hb := bl_false hl
        by_cases hd : 48 ≤ s[k].toNat ∧ s[k].toNat ≤ 57
        · have hb2 := bl_true hd
          have HC : Hid (Good s[k]) := .inr hd
          clear hl hd hk
          go_wp2_with fail
          refine (spec_lower s[k] _).mono ?_
          rintro e w1 ⟨rfl, rfl⟩
          rw [hb]
          go_wp2_with fail
          refine (spec_digit s[k] _).mono ?_
          rintro e w1 ⟨rfl, rfl⟩
          rw [hb2]
          go_wp2
          go_roundw
          case rel =>
            refine ⟨k + 1, by omega, by omega, by go_num, fun j h h1 h2 => ?_, hB⟩
            rcases Nat.lt_or_ge j k with h3 | h3
            · exact HG.out j h h1 h3
            · obtain rfl : j = k := by omega
              exact HC.out
          case measure => simp [intOf]; omega
        · have hb2 := bl_false hd
          have hR : bl (Rest s) = false := bl_false (fun h => by
            rcases h.2.2 k hlt hk1 with h | h
            · exact hl h
            · exact hd h)
          have HR := Lib.hid hR
          clear hl hd hk hR
          go_wp2_with fail
          refine (spec_lower s[k] _).mono ?_
          rintro e w1 ⟨rfl, rfl⟩
          rw [hb]
          go_wp2_with fail
          refine (spec_digit s[k] _).mono ?_
          rintro e w1 ⟨rfl, rfl⟩
          rw [hb2]
          go_wp2
          go_ret
          exact ⟨by rw [HR.out]; rfl, hB⟩
    · have hR : bl (Rest s) = bl (1 ≤ s.size ∧ s.size ≤ 8) := bl_congr ⟨fun h => ⟨h.1, h.2.1⟩, fun h => ⟨h.1, h.2, fun j hj h1 => HG.out j hj h1 (by omega)⟩⟩
      have HR := Lib.hid hR
      clear hR hk
      go_wp2_with fail
      refine (spec_in s.size 1 8 _).mono ?_
      rintro e w1 ⟨rfl, rfl⟩
      go_wp2
      go_ret
      exact ⟨by rw [HR.out]; rfl, hB⟩
end Go.Proofs.Ytdifefgigcjgeaa
