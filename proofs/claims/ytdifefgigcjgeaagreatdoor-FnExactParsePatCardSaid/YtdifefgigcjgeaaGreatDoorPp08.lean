/- What is proved here: a piece of the proof of YtdifefgigcjgeaaGreatDoorExactParsePat (SWord, SpWord). Condition: none beyond what each part says. -/
import Derived.Test.YtdifefgigcjgeaaGreatDoorPp07
import Derived.Test.YtdifefgigcjgeaaGreatDoorPp01
import Derived.Deep.LoopGhost
import Derived.Test.YtdifefgigcjgeaaGreatDoorPp03

/- What is proved here: the specification's l4Word. Conditions: as for the reader. -/
section
namespace Go.Proofs.YtdifefgigcjgeaaGreatDoor
open Go.RowKit

/-- A letter or a digit. -/
noncomputable def isLD (c : UInt8) : Bool := bl (97 ≤ c.toNat ∧ c.toNat ≤ 122) || bl (48 ≤ c.toNat ∧ c.toNat ≤ 57) || (decide (65 ≤ c.toNat) && decide (c.toNat ≤ 90))

/-- Where the word's letters begin. -/
def begins (s : ByteArray) (k : Nat) : Nat := if (sees s k [45] || sees s k [95]) = true then k + 1 else k
/-- What l4Word ends as. -/
def WordEnd (b : Nat) (s : ByteArray) (k : Nat) (e : Ending) (w' : World) : Prop :=
  ∃ j, begins s k ≤ j ∧ j ≤ s.size ∧ (∀ i (hi : i < s.size), begins s k ≤ i → i < j → isLD s[i] = true) ∧ (∀ hj : j < s.size, isLD s[j] = false) ∧ e = .returned (.string (s.extract k j)) ∧ SAt w' b s j false
theorem sees_len {s : ByteArray} {k : Nat} {c : UInt8} (h : sees s k [c] = true) : k + 1 ≤ s.size := by
  have h1 := (List.isPrefixOf_iff_prefix.1 h).length_le
  rw [List.length_drop] at h1
  have h2 : s.data.toList.length = s.size := rfl
  simp only [List.length_singleton] at h1
  omega
theorem stay_more {s : ByteArray} {k0 j : Nat} {hlt : j < s.size} (hall : ∀ i (hi : i < s.size), k0 ≤ i → i < j → isLD s[i] = true) (h : isLD s[j] = true) : ∀ i (hi : i < s.size), k0 ≤ i → i < j + 1 → isLD s[i] = true := fun i hi h1 h2 => by
  by_cases he : i = j
  · subst he; exact h
  · exact hall i hi h1 (by omega)
set_option maxHeartbeats 4000000 in
set_option maxRecDepth 100000 in
theorem spec_word_loop (w : World) (b : Nat) (s : ByteArray) (k : Nat) (h : SAt w b s k false) (hs : s.size ≤ 1048576) (hk : k ≤ s.size) :
    Calls Tryz.prog 103 #[.pointer (some ⟨b, 0, none⟩)] w fun e w' => WordEnd b s k e w' ∧ Only (Just b) w w' := by
  have H := Lib.hid h
  obtain ⟨c0, c1, c2, _, _⟩ := h.cells
  have HS1 : Hid (∀ W, Below w.heap.size w W → Calls Tryz.prog 143 #[.pointer (some ⟨b, 0, none⟩), .string (str [45])] W fun e w' => e = .returned (.bool (sees s k [45])) ∧ Below W.heap.size W w') := fun W hW => spec_sees W b s k false [45] (h.below hW) hs hk (by simp)
  have HS2 : Hid (∀ W, Below w.heap.size w W → Calls Tryz.prog 143 #[.pointer (some ⟨b, 0, none⟩), .string (str [95])] W fun e w' => e = .returned (.bool (sees s k [95])) ∧ Below W.heap.size W w') := fun W hW => spec_sees W b s k false [95] (h.below hW) hs hk (by simp)
  clear h
  cases hq1 : sees s k [45] with
  | true =>
    rw [hq1] at HS1
    clear HS2
    go_enter Tryz.func103, Tryz.ntmps103
    go_wp2_with fail
    refine (HS1.out _ (Below.refl _ _)).mono ?_
    rintro e w1 ⟨rfl, hb1⟩
    have hS1 := H.out.below hb1
    obtain ⟨d0, d1, d2, f1, f2⟩ := hS1.cells
    clear c0 c1 c2
    obtain ⟨k0, hke⟩ : ∃ k0, k0 = begins s k := ⟨_, rfl⟩
    have hk1 : k0 = k + 1 := by rw [hke]; unfold begins; simp [hq1]
    have hkk0 : k ≤ k0 := by omega
    have hk0 : k0 ≤ s.size := by have := sees_len hq1; omega
    have HS0 : Hid (SAt (w1.setCell ⟨b, 1, none⟩ (.int .i64 ((k : Int) + 1))) b s k0 false ∧ Only (Just b) w (w1.setCell ⟨b, 1, none⟩ (.int .i64 ((k : Int) + 1)))) := by
      have h1 := hS1.go (k + 1)
      rw [Int.natCast_add] at h1
      rw [hk1]
      exact ⟨h1, (just_below hb1).trans (Only.setCell (F := Just b) (p := ⟨b, 1, none⟩) rfl _)⟩
    clear hS1 hb1 hk1
    go_wp2
    go_loopg [] 1048577 (fun gg wr => ∃ j, j ≤ s.size ∧ k0 ≤ j ∧ s.size - j ≤ gg ∧ gg ≤ 1048577 ∧ Hid (SAt wr b s j false) ∧ Hid (∀ i (hi : i < s.size), k0 ≤ i → i < j → isLD s[i] = true) ∧ Hid (Only (Just b) w wr))
    case atStart => exact ⟨k0, hk0, Nat.le_refl _, by omega, Nat.le_refl _, HS0.out.1, fun i hi h1 h2 => by omega, HS0.out.2⟩
    case round =>
      obtain ⟨j, hj, hkj, hjg, hgk, hS, hall, hO⟩ := hrel
      obtain ⟨c0, c1, c2, f1, f2⟩ := hS.out.cells
      by_cases hlt : j < s.size
      · have e1 : decide ((j : Int) < (s.size : Int)) = true := by simp; omega
        have HG : Hid (∀ n, SAt ((wr.drewN n).setCell ⟨b, 1, none⟩ (.int .i64 ((j : Int) + 1))) b s (j + 1) false ∧ Only (Just b) w ((wr.drewN n).setCell ⟨b, 1, none⟩ (.int .i64 ((j : Int) + 1)))) := fun n => by
          have hb := below_drewN (Below.refl wr.heap.size wr) n
          have h1 := (hS.out.below hb).go (j + 1)
          rw [Int.natCast_add] at h1
          exact ⟨h1, (hO.out.trans (just_below hb)).trans (Only.setCell (F := Just b) (p := ⟨b, 1, none⟩) rfl _)⟩
        have hlo := fun W => (spec_lower s[j] W).mono (fun _ _ h => And.intro h.1 h.2.symm)
        have hdi := fun W => (spec_digit s[j] W).mono (fun _ _ h => And.intro h.1 h.2.symm)
        cases hvl : bl (97 ≤ s[j].toNat ∧ s[j].toNat ≤ 122) with
        | true =>
          rw [hvl] at hlo
          have HLD : Hid (∀ i (hi : i < s.size), k0 ≤ i → i < j + 1 → isLD s[i] = true) := stay_more (hlt := hlt) hall.out (by unfold isLD; simp [hvl])
          clear hS hO hall
          go_wp2
          go_quiet (first | (go_at_call 138; exact Calls.quiet_of_same (hlo _)) | (go_at_call 144; exact Calls.quiet_of_same (hdi _)) | fail "no arm")
          go_wp2
          go_roundg (gk - 1)
          case rel => exact ⟨j + 1, by omega, by omega, by omega, by omega, (HG.out _).1, HLD, (HG.out _).2⟩
          case measure => omega
        | false =>
          rw [hvl] at hlo
          cases hvd : bl (48 ≤ s[j].toNat ∧ s[j].toNat ≤ 57) with
          | true =>
            rw [hvd] at hdi
            have HLD : Hid (∀ i (hi : i < s.size), k0 ≤ i → i < j + 1 → isLD s[i] = true) := stay_more (hlt := hlt) hall.out (by unfold isLD; simp [hvd])
            clear hS hO hall
            go_wp2
            go_quiet (first | (go_at_call 138; exact Calls.quiet_of_same (hlo _)) | (go_at_call 144; exact Calls.quiet_of_same (hdi _)) | fail "no arm")
            go_wp2
            go_roundg (gk - 1)
            case rel => exact ⟨j + 1, by omega, by omega, by omega, by omega, (HG.out _).1, HLD, (HG.out _).2⟩
            case measure => omega
          | false =>
            rw [hvd] at hdi
            by_cases h65 : 65 ≤ s[j].toNat
            · by_cases h90 : s[j].toNat ≤ 90
              · have g1 : decide ((65 : Int) ≤ (s[j].toNat : Int)) = true := by simp; omega
                have g2 : decide ((s[j].toNat : Int) ≤ 90) = true := by simp; omega
                have HLD : Hid (∀ i (hi : i < s.size), k0 ≤ i → i < j + 1 → isLD s[i] = true) := stay_more (hlt := hlt) hall.out (by unfold isLD; simp [h65, h90])
                clear hS hO hall
                go_wp2
                go_quiet (first | (go_at_call 138; exact Calls.quiet_of_same (hlo _)) | (go_at_call 144; exact Calls.quiet_of_same (hdi _)) | fail "no arm")
                go_wp2
                go_roundg (gk - 1)
                case rel => exact ⟨j + 1, by omega, by omega, by omega, by omega, (HG.out _).1, HLD, (HG.out _).2⟩
                case measure => omega
              · have g1 : decide ((65 : Int) ≤ (s[j].toNat : Int)) = true := by simp; omega
                have g2 : decide ((s[j].toNat : Int) ≤ 90) = false := by simp; omega
                have HEX : Hid (∀ hj : j < s.size, isLD s[j] = false) := fun hj => by unfold isLD; simp [hvl, hvd, h90]
                have HE : Hid (∀ n n', SAt ((wr.drewN n).drewN n') b s j false ∧ Only (Just b) w ((wr.drewN n).drewN n')) := fun n n' => ⟨hS.out.below (below_drewN (below_drewN (Below.refl _ _) n) n'), hO.out.trans (just_below (below_drewN (below_drewN (Below.refl _ _) n) n'))⟩
                have hkk : k ≤ j := Nat.le_trans hkk0 hkj
                clear hS hO
                go_wp2
                go_quiet (first | (go_at_call 138; exact Calls.quiet_of_same (hlo _)) | (go_at_call 144; exact Calls.quiet_of_same (hdi _)) | fail "no arm")
                go_wp2
                go_quiet (fail)
                go_wp2
                go_ret
                rw [hke] at hkj hall
                exact ⟨⟨j, hkj, hj, hall.out, HEX.out, rfl, (HE.out _ _).1⟩, (HE.out _ _).2⟩
            · have g1 : decide ((65 : Int) ≤ (s[j].toNat : Int)) = false := by simp; omega
              have HEX : Hid (∀ hj : j < s.size, isLD s[j] = false) := fun hj => by unfold isLD; simp [hvl, hvd, h65]
              have HE : Hid (∀ n n', SAt ((wr.drewN n).drewN n') b s j false ∧ Only (Just b) w ((wr.drewN n).drewN n')) := fun n n' => ⟨hS.out.below (below_drewN (below_drewN (Below.refl _ _) n) n'), hO.out.trans (just_below (below_drewN (below_drewN (Below.refl _ _) n) n'))⟩
              have hkk : k ≤ j := Nat.le_trans hkk0 hkj
              clear hS hO
              go_wp2
              go_quiet (first | (go_at_call 138; exact Calls.quiet_of_same (hlo _)) | (go_at_call 144; exact Calls.quiet_of_same (hdi _)) | fail "no arm")
              go_wp2
              go_quiet (fail)
              go_wp2
              go_ret
              rw [hke] at hkj hall
              exact ⟨⟨j, hkj, hj, hall.out, HEX.out, rfl, (HE.out _ _).1⟩, (HE.out _ _).2⟩
      · have e1 : decide ((j : Int) < (s.size : Int)) = false := by simp; omega
        have HEX : Hid (∀ hj : j < s.size, isLD s[j] = false) := fun hj => absurd hj hlt
        have HE : Hid (∀ n n', SAt ((wr.drewN n).drewN n') b s j false ∧ Only (Just b) w ((wr.drewN n).drewN n')) := fun n n' => ⟨hS.out.below (below_drewN (below_drewN (Below.refl _ _) n) n'), hO.out.trans (just_below (below_drewN (below_drewN (Below.refl _ _) n) n'))⟩
        have hkk : k ≤ j := Nat.le_trans hkk0 hkj
        clear hS hO
        go_wp2
        go_quiet (fail)
        go_wp2
        go_quiet (fail)
        go_wp2
        go_ret
        rw [hke] at hkj hall
        exact ⟨⟨j, hkj, hj, hall.out, HEX.out, rfl, (HE.out _ _).1⟩, (HE.out _ _).2⟩
  | false =>
    rw [hq1] at HS1
    cases hq2 : sees s k [95] with
    | true =>
      rw [hq2] at HS2
      go_enter Tryz.func103, Tryz.ntmps103
      go_wp2_with fail
      refine (HS1.out _ (Below.refl _ _)).mono ?_
      rintro e w0 ⟨rfl, hb0⟩
      go_wp2_with fail
      refine (HS2.out _ hb0).mono ?_
      rintro e w1 ⟨rfl, hb1'⟩
      have hb1 := hb0.trans (hb1'.mono hb0.size)
      have hS1 := H.out.below hb1
      obtain ⟨d0, d1, d2, f1, f2⟩ := hS1.cells
      clear c0 c1 c2 hb0 hb1'
      obtain ⟨k0, hke⟩ : ∃ k0, k0 = begins s k := ⟨_, rfl⟩
      have hk1 : k0 = k + 1 := by rw [hke]; unfold begins; simp [hq2]
      have hkk0 : k ≤ k0 := by omega
      have hk0 : k0 ≤ s.size := by have := sees_len hq2; omega
      have HS0 : Hid (SAt (w1.setCell ⟨b, 1, none⟩ (.int .i64 ((k : Int) + 1))) b s k0 false ∧ Only (Just b) w (w1.setCell ⟨b, 1, none⟩ (.int .i64 ((k : Int) + 1)))) := by
        have h1 := hS1.go (k + 1)
        rw [Int.natCast_add] at h1
        rw [hk1]
        exact ⟨h1, (just_below hb1).trans (Only.setCell (F := Just b) (p := ⟨b, 1, none⟩) rfl _)⟩
      clear hS1 hb1 hk1
      go_wp2
      go_loopg [] 1048577 (fun gg wr => ∃ j, j ≤ s.size ∧ k0 ≤ j ∧ s.size - j ≤ gg ∧ gg ≤ 1048577 ∧ Hid (SAt wr b s j false) ∧ Hid (∀ i (hi : i < s.size), k0 ≤ i → i < j → isLD s[i] = true) ∧ Hid (Only (Just b) w wr))
      case atStart => exact ⟨k0, hk0, Nat.le_refl _, by omega, Nat.le_refl _, HS0.out.1, fun i hi h1 h2 => by omega, HS0.out.2⟩
      case round =>
        obtain ⟨j, hj, hkj, hjg, hgk, hS, hall, hO⟩ := hrel
        obtain ⟨c0, c1, c2, f1, f2⟩ := hS.out.cells
        by_cases hlt : j < s.size
        · have e1 : decide ((j : Int) < (s.size : Int)) = true := by simp; omega
          have HG : Hid (∀ n, SAt ((wr.drewN n).setCell ⟨b, 1, none⟩ (.int .i64 ((j : Int) + 1))) b s (j + 1) false ∧ Only (Just b) w ((wr.drewN n).setCell ⟨b, 1, none⟩ (.int .i64 ((j : Int) + 1)))) := fun n => by
            have hb := below_drewN (Below.refl wr.heap.size wr) n
            have h1 := (hS.out.below hb).go (j + 1)
            rw [Int.natCast_add] at h1
            exact ⟨h1, (hO.out.trans (just_below hb)).trans (Only.setCell (F := Just b) (p := ⟨b, 1, none⟩) rfl _)⟩
          have hlo := fun W => (spec_lower s[j] W).mono (fun _ _ h => And.intro h.1 h.2.symm)
          have hdi := fun W => (spec_digit s[j] W).mono (fun _ _ h => And.intro h.1 h.2.symm)
          cases hvl : bl (97 ≤ s[j].toNat ∧ s[j].toNat ≤ 122) with
          | true =>
            rw [hvl] at hlo
            have HLD : Hid (∀ i (hi : i < s.size), k0 ≤ i → i < j + 1 → isLD s[i] = true) := stay_more (hlt := hlt) hall.out (by unfold isLD; simp [hvl])
            clear hS hO hall
            go_wp2
            go_quiet (first | (go_at_call 138; exact Calls.quiet_of_same (hlo _)) | (go_at_call 144; exact Calls.quiet_of_same (hdi _)) | fail "no arm")
            go_wp2
            go_roundg (gk - 1)
            case rel => exact ⟨j + 1, by omega, by omega, by omega, by omega, (HG.out _).1, HLD, (HG.out _).2⟩
            case measure => omega
          | false =>
            rw [hvl] at hlo
            cases hvd : bl (48 ≤ s[j].toNat ∧ s[j].toNat ≤ 57) with
            | true =>
              rw [hvd] at hdi
              have HLD : Hid (∀ i (hi : i < s.size), k0 ≤ i → i < j + 1 → isLD s[i] = true) := stay_more (hlt := hlt) hall.out (by unfold isLD; simp [hvd])
              clear hS hO hall
              go_wp2
              go_quiet (first | (go_at_call 138; exact Calls.quiet_of_same (hlo _)) | (go_at_call 144; exact Calls.quiet_of_same (hdi _)) | fail "no arm")
              go_wp2
              go_roundg (gk - 1)
              case rel => exact ⟨j + 1, by omega, by omega, by omega, by omega, (HG.out _).1, HLD, (HG.out _).2⟩
              case measure => omega
            | false =>
              rw [hvd] at hdi
              by_cases h65 : 65 ≤ s[j].toNat
              · by_cases h90 : s[j].toNat ≤ 90
                · have g1 : decide ((65 : Int) ≤ (s[j].toNat : Int)) = true := by simp; omega
                  have g2 : decide ((s[j].toNat : Int) ≤ 90) = true := by simp; omega
                  have HLD : Hid (∀ i (hi : i < s.size), k0 ≤ i → i < j + 1 → isLD s[i] = true) := stay_more (hlt := hlt) hall.out (by unfold isLD; simp [h65, h90])
                  clear hS hO hall
                  go_wp2
                  go_quiet (first | (go_at_call 138; exact Calls.quiet_of_same (hlo _)) | (go_at_call 144; exact Calls.quiet_of_same (hdi _)) | fail "no arm")
                  go_wp2
                  go_roundg (gk - 1)
                  case rel => exact ⟨j + 1, by omega, by omega, by omega, by omega, (HG.out _).1, HLD, (HG.out _).2⟩
                  case measure => omega
                · have g1 : decide ((65 : Int) ≤ (s[j].toNat : Int)) = true := by simp; omega
                  have g2 : decide ((s[j].toNat : Int) ≤ 90) = false := by simp; omega
                  have HEX : Hid (∀ hj : j < s.size, isLD s[j] = false) := fun hj => by unfold isLD; simp [hvl, hvd, h90]
                  have HE : Hid (∀ n n', SAt ((wr.drewN n).drewN n') b s j false ∧ Only (Just b) w ((wr.drewN n).drewN n')) := fun n n' => ⟨hS.out.below (below_drewN (below_drewN (Below.refl _ _) n) n'), hO.out.trans (just_below (below_drewN (below_drewN (Below.refl _ _) n) n'))⟩
                  have hkk : k ≤ j := Nat.le_trans hkk0 hkj
                  clear hS hO
                  go_wp2
                  go_quiet (first | (go_at_call 138; exact Calls.quiet_of_same (hlo _)) | (go_at_call 144; exact Calls.quiet_of_same (hdi _)) | fail "no arm")
                  go_wp2
                  go_quiet (fail)
                  go_wp2
                  go_ret
                  rw [hke] at hkj hall
                  exact ⟨⟨j, hkj, hj, hall.out, HEX.out, rfl, (HE.out _ _).1⟩, (HE.out _ _).2⟩
              · have g1 : decide ((65 : Int) ≤ (s[j].toNat : Int)) = false := by simp; omega
                have HEX : Hid (∀ hj : j < s.size, isLD s[j] = false) := fun hj => by unfold isLD; simp [hvl, hvd, h65]
                have HE : Hid (∀ n n', SAt ((wr.drewN n).drewN n') b s j false ∧ Only (Just b) w ((wr.drewN n).drewN n')) := fun n n' => ⟨hS.out.below (below_drewN (below_drewN (Below.refl _ _) n) n'), hO.out.trans (just_below (below_drewN (below_drewN (Below.refl _ _) n) n'))⟩
                have hkk : k ≤ j := Nat.le_trans hkk0 hkj
                clear hS hO
                go_wp2
                go_quiet (first | (go_at_call 138; exact Calls.quiet_of_same (hlo _)) | (go_at_call 144; exact Calls.quiet_of_same (hdi _)) | fail "no arm")
                go_wp2
                go_quiet (fail)
                go_wp2
                go_ret
                rw [hke] at hkj hall
                exact ⟨⟨j, hkj, hj, hall.out, HEX.out, rfl, (HE.out _ _).1⟩, (HE.out _ _).2⟩
        · have e1 : decide ((j : Int) < (s.size : Int)) = false := by simp; omega
          have HEX : Hid (∀ hj : j < s.size, isLD s[j] = false) := fun hj => absurd hj hlt
          have HE : Hid (∀ n n', SAt ((wr.drewN n).drewN n') b s j false ∧ Only (Just b) w ((wr.drewN n).drewN n')) := fun n n' => ⟨hS.out.below (below_drewN (below_drewN (Below.refl _ _) n) n'), hO.out.trans (just_below (below_drewN (below_drewN (Below.refl _ _) n) n'))⟩
          have hkk : k ≤ j := Nat.le_trans hkk0 hkj
          clear hS hO
          go_wp2
          go_quiet (fail)
          go_wp2
          go_quiet (fail)
          go_wp2
          go_ret
          rw [hke] at hkj hall
          exact ⟨⟨j, hkj, hj, hall.out, HEX.out, rfl, (HE.out _ _).1⟩, (HE.out _ _).2⟩
    | false =>
      rw [hq2] at HS2
      go_enter Tryz.func103, Tryz.ntmps103
      go_wp2_with fail
      refine (HS1.out _ (Below.refl _ _)).mono ?_
      rintro e w0 ⟨rfl, hb0⟩
      go_wp2_with fail
      refine (HS2.out _ hb0).mono ?_
      rintro e w1 ⟨rfl, hb1'⟩
      have hb1 := hb0.trans (hb1'.mono hb0.size)
      have hS1 := H.out.below hb1
      clear c0 c1 c2 hb0 hb1'
      obtain ⟨k0, hke⟩ : ∃ k0, k0 = begins s k := ⟨_, rfl⟩
      have hk1 : k0 = k := by rw [hke]; unfold begins; simp [hq1, hq2]
      have hkk0 : k ≤ k0 := by omega
      have hk0 : k0 ≤ s.size := by omega
      have HS0 : Hid (SAt w1 b s k0 false ∧ Only (Just b) w w1) := by
        rw [hk1]
        exact ⟨hS1, just_below hb1⟩
      clear hS1 hb1 hk1
      go_wp2
      go_loopg [] 1048577 (fun gg wr => ∃ j, j ≤ s.size ∧ k0 ≤ j ∧ s.size - j ≤ gg ∧ gg ≤ 1048577 ∧ Hid (SAt wr b s j false) ∧ Hid (∀ i (hi : i < s.size), k0 ≤ i → i < j → isLD s[i] = true) ∧ Hid (Only (Just b) w wr))
      case atStart => exact ⟨k0, hk0, Nat.le_refl _, by omega, Nat.le_refl _, HS0.out.1, fun i hi h1 h2 => by omega, HS0.out.2⟩
      case round =>
        obtain ⟨j, hj, hkj, hjg, hgk, hS, hall, hO⟩ := hrel
        obtain ⟨c0, c1, c2, f1, f2⟩ := hS.out.cells
        by_cases hlt : j < s.size
        · have e1 : decide ((j : Int) < (s.size : Int)) = true := by simp; omega
          have HG : Hid (∀ n, SAt ((wr.drewN n).setCell ⟨b, 1, none⟩ (.int .i64 ((j : Int) + 1))) b s (j + 1) false ∧ Only (Just b) w ((wr.drewN n).setCell ⟨b, 1, none⟩ (.int .i64 ((j : Int) + 1)))) := fun n => by
            have hb := below_drewN (Below.refl wr.heap.size wr) n
            have h1 := (hS.out.below hb).go (j + 1)
            rw [Int.natCast_add] at h1
            exact ⟨h1, (hO.out.trans (just_below hb)).trans (Only.setCell (F := Just b) (p := ⟨b, 1, none⟩) rfl _)⟩
          have hlo := fun W => (spec_lower s[j] W).mono (fun _ _ h => And.intro h.1 h.2.symm)
          have hdi := fun W => (spec_digit s[j] W).mono (fun _ _ h => And.intro h.1 h.2.symm)
          cases hvl : bl (97 ≤ s[j].toNat ∧ s[j].toNat ≤ 122) with
          | true =>
            rw [hvl] at hlo
            have HLD : Hid (∀ i (hi : i < s.size), k0 ≤ i → i < j + 1 → isLD s[i] = true) := stay_more (hlt := hlt) hall.out (by unfold isLD; simp [hvl])
            clear hS hO hall
            go_wp2
            go_quiet (first | (go_at_call 138; exact Calls.quiet_of_same (hlo _)) | (go_at_call 144; exact Calls.quiet_of_same (hdi _)) | fail "no arm")
            go_wp2
            go_roundg (gk - 1)
            case rel => exact ⟨j + 1, by omega, by omega, by omega, by omega, (HG.out _).1, HLD, (HG.out _).2⟩
            case measure => omega
          | false =>
            rw [hvl] at hlo
            cases hvd : bl (48 ≤ s[j].toNat ∧ s[j].toNat ≤ 57) with
            | true =>
              rw [hvd] at hdi
              have HLD : Hid (∀ i (hi : i < s.size), k0 ≤ i → i < j + 1 → isLD s[i] = true) := stay_more (hlt := hlt) hall.out (by unfold isLD; simp [hvd])
              clear hS hO hall
              go_wp2
              go_quiet (first | (go_at_call 138; exact Calls.quiet_of_same (hlo _)) | (go_at_call 144; exact Calls.quiet_of_same (hdi _)) | fail "no arm")
              go_wp2
              go_roundg (gk - 1)
              case rel => exact ⟨j + 1, by omega, by omega, by omega, by omega, (HG.out _).1, HLD, (HG.out _).2⟩
              case measure => omega
            | false =>
              rw [hvd] at hdi
              by_cases h65 : 65 ≤ s[j].toNat
              · by_cases h90 : s[j].toNat ≤ 90
                · have g1 : decide ((65 : Int) ≤ (s[j].toNat : Int)) = true := by simp; omega
                  have g2 : decide ((s[j].toNat : Int) ≤ 90) = true := by simp; omega
                  have HLD : Hid (∀ i (hi : i < s.size), k0 ≤ i → i < j + 1 → isLD s[i] = true) := stay_more (hlt := hlt) hall.out (by unfold isLD; simp [h65, h90])
                  clear hS hO hall
                  go_wp2
                  go_quiet (first | (go_at_call 138; exact Calls.quiet_of_same (hlo _)) | (go_at_call 144; exact Calls.quiet_of_same (hdi _)) | fail "no arm")
                  go_wp2
                  go_roundg (gk - 1)
                  case rel => exact ⟨j + 1, by omega, by omega, by omega, by omega, (HG.out _).1, HLD, (HG.out _).2⟩
                  case measure => omega
                · have g1 : decide ((65 : Int) ≤ (s[j].toNat : Int)) = true := by simp; omega
                  have g2 : decide ((s[j].toNat : Int) ≤ 90) = false := by simp; omega
                  have HEX : Hid (∀ hj : j < s.size, isLD s[j] = false) := fun hj => by unfold isLD; simp [hvl, hvd, h90]
                  have HE : Hid (∀ n n', SAt ((wr.drewN n).drewN n') b s j false ∧ Only (Just b) w ((wr.drewN n).drewN n')) := fun n n' => ⟨hS.out.below (below_drewN (below_drewN (Below.refl _ _) n) n'), hO.out.trans (just_below (below_drewN (below_drewN (Below.refl _ _) n) n'))⟩
                  have hkk : k ≤ j := Nat.le_trans hkk0 hkj
                  clear hS hO
                  go_wp2
                  go_quiet (first | (go_at_call 138; exact Calls.quiet_of_same (hlo _)) | (go_at_call 144; exact Calls.quiet_of_same (hdi _)) | fail "no arm")
                  go_wp2
                  go_quiet (fail)
                  go_wp2
                  go_ret
                  rw [hke] at hkj hall
                  exact ⟨⟨j, hkj, hj, hall.out, HEX.out, rfl, (HE.out _ _).1⟩, (HE.out _ _).2⟩
              · have g1 : decide ((65 : Int) ≤ (s[j].toNat : Int)) = false := by simp; omega
                have HEX : Hid (∀ hj : j < s.size, isLD s[j] = false) := fun hj => by unfold isLD; simp [hvl, hvd, h65]
                have HE : Hid (∀ n n', SAt ((wr.drewN n).drewN n') b s j false ∧ Only (Just b) w ((wr.drewN n).drewN n')) := fun n n' => ⟨hS.out.below (below_drewN (below_drewN (Below.refl _ _) n) n'), hO.out.trans (just_below (below_drewN (below_drewN (Below.refl _ _) n) n'))⟩
                have hkk : k ≤ j := Nat.le_trans hkk0 hkj
                clear hS hO
                go_wp2
                go_quiet (first | (go_at_call 138; exact Calls.quiet_of_same (hlo _)) | (go_at_call 144; exact Calls.quiet_of_same (hdi _)) | fail "no arm")
                go_wp2
                go_quiet (fail)
                go_wp2
                go_ret
                rw [hke] at hkj hall
                exact ⟨⟨j, hkj, hj, hall.out, HEX.out, rfl, (HE.out _ _).1⟩, (HE.out _ _).2⟩
        · have e1 : decide ((j : Int) < (s.size : Int)) = false := by simp; omega
          have HEX : Hid (∀ hj : j < s.size, isLD s[j] = false) := fun hj => absurd hj hlt
          have HE : Hid (∀ n n', SAt ((wr.drewN n).drewN n') b s j false ∧ Only (Just b) w ((wr.drewN n).drewN n')) := fun n n' => ⟨hS.out.below (below_drewN (below_drewN (Below.refl _ _) n) n'), hO.out.trans (just_below (below_drewN (below_drewN (Below.refl _ _) n) n'))⟩
          have hkk : k ≤ j := Nat.le_trans hkk0 hkj
          clear hS hO
          go_wp2
          go_quiet (fail)
          go_wp2
          go_quiet (fail)
          go_wp2
          go_ret
          rw [hke] at hkj hall
          exact ⟨⟨j, hkj, hj, hall.out, HEX.out, rfl, (HE.out _ _).1⟩, (HE.out _ _).2⟩
end Go.Proofs.YtdifefgigcjgeaaGreatDoor
end

/- What is proved here: the word at a place of a text, as the specification reads it (pure). No condition. -/
section
namespace Go.Proofs.YtdifefgigcjgeaaGreatDoor
open Go.RowKit

/-- The word at the start, as the specification reads it: a sign or '_' only in front. -/
noncomputable def leadS : List UInt8 → List UInt8
  | [] => []
  | c :: r => if c = 45 ∨ c = 95 then c :: r.takeWhile isLD else (c :: r).takeWhile isLD
theorem leadS_cons (c : UInt8) (r : List UInt8) : leadS (c :: r) = if c = 45 ∨ c = 95 then c :: r.takeWhile isLD else (c :: r).takeWhile isLD := rfl
/-- Words of patterns. -/
def IsW (x : List UInt8) : Prop := (∀ c ∈ x, isLD c = true) ∧ x ≠ [] ∨ ∃ c r, x = c :: r ∧ (c = 45 ∨ c = 95) ∧ ∀ c ∈ r, isLD c = true
theorem ld_wb {c : UInt8} (h : isLD c = true) : isWB c = true := by
  unfold isLD at h
  unfold isWB isWZ
  simp only [Bool.or_eq_true, bl_iff, Bool.and_eq_true, decide_eq_true_eq] at h ⊢
  omega
theorem ld_not {c : UInt8} (h : isLD c = true) : ¬ (c = 45 ∨ c = 95) := by
  unfold isLD at h
  simp only [Bool.or_eq_true, bl_iff, Bool.and_eq_true, decide_eq_true_eq] at h
  rintro (rfl | rfl) <;> revert h <;> decide
theorem takeWhile_all (p : UInt8 → Bool) (x y : List UInt8) (hx : ∀ c ∈ x, p c = true) (hy : ∀ c t, y = c :: t → p c = false) : (x ++ y).takeWhile p = x := by
  induction x with
  | nil =>
    cases y with
    | nil => rfl
    | cons c t => simp [hy c t rfl]
  | cons c x ih => rw [List.cons_append, List.takeWhile_cons_of_pos (hx c (by simp)), ih (fun c hc => hx c (by simp [hc]))]
theorem stop_of_lead {x y : List UInt8} (h : lead (x ++ y) = x) : ∀ c t, y = c :: t → isWB c = false := by
  intro c t e
  subst e
  cases hc : isWB c with
  | false => rfl
  | true =>
    exfalso
    have hx : ∀ u ∈ x, isWB u = true := fun u hu => by rw [← h] at hu; exact lead_word _ u hu
    have h2 : lead (x ++ c :: t) = x ++ lead (c :: t) := by
      unfold lead
      clear h
      induction x with
      | nil => rfl
      | cons a x ih => rw [List.cons_append, List.takeWhile_cons_of_pos (hx a (by simp)), ih (fun u hu => hx u (by simp [hu])), List.cons_append]
    rw [h2] at h
    have h3 := congrArg List.length h
    unfold lead at h3
    rw [List.takeWhile_cons_of_pos hc] at h3
    simp at h3
theorem leadS_all {x y : List UInt8} (hw : IsW x) (hy : ∀ c t, y = c :: t → isWB c = false) : leadS (x ++ y) = x := by
  have hy2 : ∀ c t, y = c :: t → isLD c = false := fun c t e => by
    cases hc : isLD c with
    | false => rfl
    | true => have := ld_wb hc; rw [hy c t e] at this; cases this
  rcases hw with ⟨h1, h2⟩ | ⟨c, r, rfl, hc, hr⟩
  · cases x with
    | nil => exact absurd rfl h2
    | cons c x =>
      have := takeWhile_all isLD (c :: x) y h1 hy2
      rw [List.cons_append] at this ⊢
      rw [leadS_cons, if_neg (ld_not (h1 c (by simp)))]
      exact this
  · rw [List.cons_append]
    rw [leadS_cons, if_pos hc, takeWhile_all isLD r y hr hy2]
theorem leadS_of {x y : List UInt8} (hw : IsW x) (h : lead (x ++ y) = x) : leadS (x ++ y) = x := leadS_all hw (stop_of_lead h)
theorem isW_any : IsW [95] := .inr ⟨95, [], rfl, .inr rfl, by simp⟩
theorem isW_word {t : ByteArray} (h : Word 97 122 t ∨ Word 65 90 t) : IsW t.data.toList := by
  refine .inl ⟨fun c hc => ?_, fun e => ?_⟩
  · obtain ⟨j, hj, rfl⟩ := List.mem_iff_getElem.1 hc
    have hj2 : j < t.size := hj
    unfold isLD
    simp only [Bool.or_eq_true, bl_iff, Bool.and_eq_true, decide_eq_true_eq]
    have e : (t.data.toList[j] : UInt8) = t[j] := rfl
    rw [e]
    by_cases h0 : j = 0
    · subst h0
      rcases h with h | h
      · have := h.2.2.1 hj2; omega
      · have := h.2.2.1 hj2; omega
    · have hg : Good t[j] := by
        rcases h with h | h
        · exact h.2.2.2 j hj2 (by omega)
        · exact h.2.2.2 j hj2 (by omega)
      unfold Good at hg
      omega
  · have e2 : t.data.toList.length = t.size := rfl
    rw [e] at e2
    simp at e2
    rcases h with h | h
    · have := h.1; omega
    · have := h.1; omega
theorem isW_int (n : Int) : IsW (Lib.itoa n) := by
  have hd : ∀ u : Nat, ∀ x ∈ Lib.decDigits u, isLD x = true := fun u x hx => by
    have := dec_digits u x hx
    unfold isDig at this
    unfold isLD
    simp only [Bool.or_eq_true, bl_iff, Bool.and_eq_true, decide_eq_true_eq]
    omega
  by_cases h : 0 ≤ n
  · obtain ⟨u, rfl⟩ : ∃ u : Nat, n = u := ⟨n.toNat, by omega⟩
    rw [Lib.itoa_nonneg]
    exact .inl ⟨hd u, dec_ne_nil u⟩
  · obtain ⟨u, rfl⟩ : ∃ u : Nat, n = -(u : Int) := ⟨(-n).toNat, by omega⟩
    rw [Lib.itoa_neg u (by omega)]
    exact .inr ⟨45, _, rfl, .inl rfl, hd u⟩
/-- What l4Word reads. -/
theorem extract_leadS {s : ByteArray} {k j : Nat} (hk : k ≤ s.size) (h1 : begins s k ≤ j) (h2 : j ≤ s.size) (h3 : ∀ i (hi : i < s.size), begins s k ≤ i → i < j → isLD s[i] = true) (h4 : ∀ hj : j < s.size, isLD s[j] = false) :
    (s.extract k j).data.toList = leadS (s.data.toList.drop k) ∧ s.data.toList.drop k = (s.extract k j).data.toList ++ s.data.toList.drop j := by
  have hsl : s.data.toList.length = s.size := rfl
  have hkj : k ≤ j := by unfold begins at h1; split at h1 <;> omega
  have hdec : s.data.toList.drop k = (s.extract k j).data.toList ++ s.data.toList.drop j := by
    rw [extract_toList]
    have : s.data.toList.drop j = (s.data.toList.drop k).drop (j - k) := by rw [List.drop_drop]; congr 1; omega
    rw [this, List.take_append_drop]
  refine ⟨?_, hdec⟩
  have hstop : ∀ c t, s.data.toList.drop j = c :: t → isLD c = false := fun c t e => by
    have hj : j < s.size := by
      rcases Nat.lt_or_ge j s.size with h | h
      · exact h
      · rw [List.drop_eq_nil_of_le (by omega)] at e; cases e
    have hc : c = s[j] := by
      rw [List.drop_eq_getElem_cons (by omega)] at e
      injection e with e1 _
      exact e1.symm
    rw [hc]
    exact h4 hj
  have hin : ∀ i, begins s k ≤ i → i < j → ∀ hi : i < s.data.toList.length, isLD s.data.toList[i] = true := fun i a b hi => h3 i (by omega) a b
  have hx : (s.extract k j).data.toList = (s.data.toList.drop k).take (j - k) := extract_toList s k j
  by_cases hb : (sees s k [45] || sees s k [95]) = true
  · have hbk : begins s k = k + 1 := by unfold begins; rw [if_pos hb]
    rw [hbk] at h1 hin
    obtain ⟨c, t, e, hc⟩ : ∃ c t, s.data.toList.drop k = c :: t ∧ (c = 45 ∨ c = 95) := by
      rcases Bool.or_eq_true .. |>.mp hb with h | h
      · obtain ⟨x, e⟩ := List.isPrefixOf_iff_prefix.1 h; exact ⟨45, x, e.symm, .inl rfl⟩
      · obtain ⟨x, e⟩ := List.isPrefixOf_iff_prefix.1 h; exact ⟨95, x, e.symm, .inr rfl⟩
    have ht : t = s.data.toList.drop (k + 1) := by rw [← List.drop_drop, e]; rfl
    rw [e]
    rw [leadS_cons, if_pos hc, hx, e, show j - k = (j - (k + 1)) + 1 by omega, List.take_succ_cons]
    congr 1
    have hd2 : t = t.take (j - (k + 1)) ++ s.data.toList.drop j := by
      have : s.data.toList.drop j = t.drop (j - (k + 1)) := by rw [ht, List.drop_drop]; congr 1; omega
      rw [this, List.take_append_drop]
    have := takeWhile_all isLD (t.take (j - (k + 1))) (s.data.toList.drop j) (fun c hc => by
      obtain ⟨i, hi, rfl⟩ := List.mem_iff_getElem.1 hc
      rw [List.getElem_take]
      simp only [ht, List.getElem_drop]
      simp only [List.length_take, ht, List.length_drop] at hi
      exact hin _ (by omega) (by omega) (by omega)) hstop
    rw [← hd2] at this
    exact this.symm
  · have hbk : begins s k = k := by unfold begins; rw [if_neg hb]
    rw [hbk] at h1 hin
    have hall := takeWhile_all isLD ((s.data.toList.drop k).take (j - k)) (s.data.toList.drop j) (fun c hc => by
      obtain ⟨i, hi, rfl⟩ := List.mem_iff_getElem.1 hc
      rw [List.getElem_take, List.getElem_drop]
      simp only [List.length_take, List.length_drop] at hi
      exact hin _ (by omega) (by omega) (by omega)) hstop
    rw [← hx, ← hdec] at hall
    rw [← hall]
    cases e : s.data.toList.drop k with
    | nil => rfl
    | cons c t =>
      rw [leadS_cons, if_neg]
      rintro (rfl | rfl)
      · refine hb (Bool.or_eq_true .. |>.mpr (.inl ?_))
        unfold sees
        rw [e]
        simp
      · refine hb (Bool.or_eq_true .. |>.mpr (.inr ?_))
        unfold sees
        rw [e]
        simp
end Go.Proofs.YtdifefgigcjgeaaGreatDoor
end
