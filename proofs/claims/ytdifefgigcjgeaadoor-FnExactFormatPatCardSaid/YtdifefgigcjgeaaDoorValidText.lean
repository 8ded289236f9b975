/- What is proved here: the model's and the program's IsValidText say what a valid text is. Condition: the text's length is a length. -/
import Derived.Test.YtdifefgigcjgeaaDoorBl
namespace Go.Proofs.YtdifefgigcjgeaaDoor
open Go.RowKit

/-- A byte that may stand in a text. -/
def OkByte (c : UInt8) : Prop := 32 ≤ c.toNat ∧ c.toNat ≤ 126 ∧ c.toNat ≠ 34
def ValidText (s : ByteArray) : Prop := s.size ≤ 8 ∧ ∀ j (h : j < s.size), OkByte s[j]

set_option maxHeartbeats 1000000 in
set_option maxRecDepth 100000 in
theorem spec_text (s : ByteArray) (hs : s.size ≤ maxLen) (w : World) :
    Calls Tryd.prog 109 #[.string s] w fun e w' => e = .returned (.bool (bl (ValidText s))) ∧ Below w.heap.size w w' := by
  unfold maxLen at hs
  go_enter Tryd.func109, Tryd.ntmps109
  go_wp2
  go_loopw [3] (fun i wr => ∃ k : Nat, k ≤ s.size ∧ i = .int .i64 k ∧ Hid (∀ j (h : j < s.size), j < k → OkByte s[j]) ∧ Below w.heap.size w wr) (fun i _ => s.size - (intOf i).toNat)
  case atStart => exact ⟨0, Nat.zero_le _, rfl, fun j h h1 => by omega, Below.refl _ _⟩
  case round =>
    obtain ⟨k, hk, rfl, HG, hB⟩ := hrel
    by_cases hlt : k < s.size
    · have hbad : ¬ OkByte s[k] → Hid (bl (ValidText s) = false) := fun h => bl_false (fun hv => h (hv.2 k hlt))
      have HBAD := Lib.hid hbad
      clear hbad
      have h255 : s[k].toNat < 256 := s[k].toNat_lt
      by_cases h1 : s[k].toNat < 32
      · have HE := HBAD.out (fun h => by have := h.1; omega)
        go_wp2
        go_ret
        exact ⟨by rw [HE.out]; rfl, hB⟩
      · by_cases h2 : 126 < s[k].toNat
        · have HE := HBAD.out (fun h => by have := h.2.1; omega)
          go_wp2
          go_ret
          exact ⟨by rw [HE.out]; rfl, hB⟩
        · by_cases h3 : s[k].toNat = 34
          · have HE := HBAD.out (fun h => h.2.2 h3)
            go_wp2
            go_ret
            exact ⟨by rw [HE.out]; rfl, hB⟩
          · have HC : Hid (OkByte s[k]) := ⟨by omega, by omega, h3⟩
            have e3 : ((s[k].toNat : Int) == 34) = false := by simpa using (by omega : ¬ (s[k].toNat : Int) = 34)
            clear HBAD
            go_wp2
            go_roundw
            case rel =>
              refine ⟨k + 1, by omega, by go_num, fun j h h4 => ?_, hB⟩
              rcases Nat.lt_or_ge j k with h5 | h5
              · exact HG.out j h h5
              · obtain rfl : j = k := by omega
                exact HC.out
            case measure => simp [intOf]; omega
    · by_cases h8 : s.size ≤ 8
      · have hR : bl (ValidText s) = true := bl_true ⟨h8, fun j h => HG.out j h (by omega)⟩
        have e8 : decide ((s.size : Int) ≤ 8) = true := by simp; omega
        have HR := Lib.hid hR
        clear hR
        go_wp2
        go_ret
        exact ⟨by rw [HR.out]; rfl, hB⟩
      · have hR : bl (ValidText s) = false := bl_false (fun h => h8 h.1)
        have e8 : decide ((s.size : Int) ≤ 8) = false := by simp; omega
        have HR := Lib.hid hR
        clear hR
        go_wp2
        go_ret
        exact ⟨by rw [HR.out]; rfl, hB⟩

set_option maxHeartbeats 1000000 in
set_option maxRecDepth 100000 in
theorem impl_text (s : ByteArray) (hs : s.size ≤ maxLen) (w : World) :
    Calls Tryd.prog 93 #[.string s] w fun e w' => e = .returned (.bool (bl (ValidText s))) ∧ Below w.heap.size w w' := by
  unfold maxLen at hs
  by_cases h8 : 8 < s.size
  · have HR : Hid (bl (ValidText s) = false) := bl_false (fun h => by have := h.1; omega)
    go_enter Tryd.func93, Tryd.ntmps93
    go_wp2
    go_ret
    exact ⟨by rw [HR.out]; rfl, Below.refl _ _⟩
  · go_enter Tryd.func93, Tryd.ntmps93
    go_wp2
    go_loopw [9] (fun i wr => ∃ k : Nat, k ≤ s.size ∧ i = .int .i64 k ∧ Hid (∀ j (h : j < s.size), j < k → OkByte s[j]) ∧ Below w.heap.size w wr) (fun i _ => s.size - (intOf i).toNat)
    case atStart => exact ⟨0, Nat.zero_le _, rfl, fun j h h1 => by omega, Below.refl _ _⟩
    case round =>
      obtain ⟨k, hk, rfl, HG, hB⟩ := hrel
      by_cases hlt : k < s.size
      · have hbad : ¬ OkByte s[k] → Hid (bl (ValidText s) = false) := fun h => bl_false (fun hv => h (hv.2 k hlt))
        have HBAD := Lib.hid hbad
        clear hbad
        have h255 : s[k].toNat < 256 := s[k].toNat_lt
        by_cases h1 : s[k].toNat < 32
        · have HE := HBAD.out (fun h => by have := h.1; omega)
          go_wp2
          go_ret
          exact ⟨by rw [HE.out]; rfl, hB⟩
        · by_cases h2 : 126 < s[k].toNat
          · have HE := HBAD.out (fun h => by have := h.2.1; omega)
            go_wp2
            go_ret
            exact ⟨by rw [HE.out]; rfl, hB⟩
          · by_cases h3 : s[k].toNat = 34
            · have HE := HBAD.out (fun h => h.2.2 h3)
              go_wp2
              go_ret
              exact ⟨by rw [HE.out]; rfl, hB⟩
            · have HC : Hid (OkByte s[k]) := ⟨by omega, by omega, h3⟩
              have e3 : ((s[k].toNat : Int) == 34) = false := by simpa using (by omega : ¬ (s[k].toNat : Int) = 34)
              clear HBAD
              go_wp2
              go_roundw
              case rel =>
                refine ⟨k + 1, by omega, by go_num, fun j h h4 => ?_, hB⟩
                rcases Nat.lt_or_ge j k with h5 | h5
                · exact HG.out j h h5
                · obtain rfl : j = k := by omega
                  exact HC.out
              case measure => simp [intOf]; omega
      · have hR : bl (ValidText s) = true := bl_true ⟨by omega, fun j h => HG.out j h (by omega)⟩
        have HR := Lib.hid hR
        clear hR
        go_wp2
        go_ret
        exact ⟨by rw [HR.out]; rfl, hB⟩
end Go.Proofs.YtdifefgigcjgeaaDoor
