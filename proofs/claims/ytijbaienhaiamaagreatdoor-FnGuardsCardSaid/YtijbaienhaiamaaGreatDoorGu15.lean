/- What is proved here: a piece of the proof of YtijbaienhaiamaaGreatDoorGuards (SWord, STake, ExSRead, SpecParseInt, SpWord). Condition: none beyond what each part says. -/
import Derived.Test.YtijbaienhaiamaaGreatDoorGu14
import Derived.Test.YtijbaienhaiamaaGreatDoorGu07
import Derived.Deep.LoopGhost
import Derived.Test.YtijbaienhaiamaaGreatDoorGu13
import Derived.Test.YtijbaienhaiamaaGreatDoorGu11

/- What is proved here: the specification's l4Word. Conditions: as for the reader. -/
section
namespace Go.Proofs.YtijbaienhaiamaaGreatDoor
open Go.RowKit

/-- A letter or a digit. -/
noncomputable def isLD (c : UInt8) : Bool := bl (97 ≤ c.toNat ∧ c.toNat ≤ 122) || bl (48 ≤ c.toNat ∧ c.toNat ≤ 57) || (decide (65 ≤ c.toNat) && decide (c.toNat ≤ 90))

/-- Where the word's letters begin. -/
def begins (s : ByteArray) (k : Nat) : Nat := if (sees s k [45] || sees s k [95]) = true then k + 1 else k
/-- What l4Word ends as. -/
def WordEnd (b : Nat) (s : ByteArray) (k : Nat) (e : Ending) (w' : World) : Prop :=
  ∃ j, begins s k ≤ j ∧ j ≤ s.size ∧ (∀ i (hi : i < s.size), begins s k ≤ i → i < j → isLD s[i] = true) ∧ (∀ hj : j < s.size, isLD s[j] = false) ∧ e = .returned (.string (s.extract k j)) ∧ SAt w' b s j false
theorem sees_len {s : ByteArray} {k : Nat} {c : UInt8} (h : sees s k [c] = true) : k + 1 ≤ s.size := by
  have h1 := (List.isPrefixOf_iff_prefix.1 h).length_le
  rw [List.length_drop] at h1
  have h2 : s.data.toList.length = s.size := rfl
  simp only [List.length_singleton] at h1
  omega
theorem stay_more {s : ByteArray} {k0 j : Nat} {hlt : j < s.size} (hall : ∀ i (hi : i < s.size), k0 ≤ i → i < j → isLD s[i] = true) (h : isLD s[j] = true) : ∀ i (hi : i < s.size), k0 ≤ i → i < j + 1 → isLD s[i] = true := fun i hi h1 h2 => by
  by_cases he : i = j
  · subst he; exact h
  · exact hall i hi h1 (by omega)
set_option maxHeartbeats 4000000 in
set_option maxRecDepth 100000 in
theorem spec_word_loop (w : World) (b : Nat) (s : ByteArray) (k : Nat) (h : SAt w b s k false) (hs : s.size ≤ 1048576) (hk : k ≤ s.size) :
    Calls Tryz.prog 116 #[.pointer (some ⟨b, 0, none⟩)] w fun e w' => WordEnd b s k e w' ∧ Only (Just b) w w' := by
  have H := Lib.hid h
  obtain ⟨c0, c1, c2, _, _⟩ := h.cells
  have HS1 : Hid (∀ W, Below w.heap.size w W → Calls Tryz.prog 170 #[.pointer (some ⟨b, 0, none⟩), .string (str [45])] W fun e w' => e = .returned (.bool (sees s k [45])) ∧ Below W.heap.size W w') := fun W hW => spec_sees W b s k false [45] (h.below hW) hs hk (by simp)
  have HS2 : Hid (∀ W, Below w.heap.size w W → Calls Tryz.prog 170 #[.pointer (some ⟨b, 0, none⟩), .string (str [95])] W fun e w' => e = .returned (.bool (sees s k [95])) ∧ Below W.heap.size W w') := fun W hW => spec_sees W b s k false [95] (h.below hW) hs hk (by simp)
  clear h
  cases hq1 : sees s k [45] with
  | true =>
    rw [hq1] at HS1
    clear HS2
    go_enter Tryz.func116, Tryz.ntmps116
    go_wp2_with fail
    refine (HS1.out _ (Below.refl _ _)).mono ?_
    rintro e w1 ⟨rfl, hb1⟩
    have hS1 := H.out.below hb1
    obtain ⟨d0, d1, d2, f1, f2⟩ := hS1.cells
    clear c0 c1 c2
    obtain ⟨k0, hke⟩ : ∃ k0, k0 = begins s k := ⟨_, rfl⟩
    have hk1 : k0 = k + 1 := by rw [hke]; unfold begins; simp [hq1]
    have hkk0 : k ≤ k0 := by omega
    have hk0 : k0 ≤ s.size := by have := sees_len hq1; omega
    have HS0 : Hid (SAt (w1.setCell ⟨b, 1, none⟩ (.int .i64 ((k : Int) + 1))) b s k0 false ∧ Only (Just b) w (w1.setCell ⟨b, 1, none⟩ (.int .i64 ((k : Int) + 1)))) := by
      have h1 := hS1.go (k + 1)
      rw [Int.natCast_add] at h1
      rw [hk1]
      exact ⟨h1, (just_below hb1).trans (Only.setCell (F := Just b) (p := ⟨b, 1, none⟩) rfl _)⟩
    clear hS1 hb1 hk1
    go_wp2
    go_loopg [] 1048577 (fun gg wr => ∃ j, j ≤ s.size ∧ k0 ≤ j ∧ s.size - j ≤ gg ∧ gg ≤ 1048577 ∧ Hid (SAt wr b s j false) ∧ Hid (∀ i (hi : i < s.size), k0 ≤ i → i < j → isLD s[i] = true) ∧ Hid (Only (Just b) w wr))
    case atStart => exact ⟨k0, hk0, Nat.le_refl _, by omega, Nat.le_refl _, HS0.out.1, fun i hi h1 h2 => by omega, HS0.out.2⟩
    case round =>
      obtain ⟨j, hj, hkj, hjg, hgk, hS, hall, hO⟩ := hrel
      obtain ⟨c0, c1, c2, f1, f2⟩ := hS.out.cells
      by_cases hlt : j < s.size
      · have e1 : decide ((j : Int) < (s.size : Int)) = true := by simp; omega
        have HG : Hid (∀ n, SAt ((wr.drewN n).setCell ⟨b, 1, none⟩ (.int .i64 ((j : Int) + 1))) b s (j + 1) false ∧ Only (Just b) w ((wr.drewN n).setCell ⟨b, 1, none⟩ (.int .i64 ((j : Int) + 1)))) := fun n => by
          have hb := below_drewN (Below.refl wr.heap.size wr) n
          have h1 := (hS.out.below hb).go (j + 1)
          rw [Int.natCast_add] at h1
          exact ⟨h1, (hO.out.trans (just_below hb)).trans (Only.setCell (F := Just b) (p := ⟨b, 1, none⟩) rfl _)⟩
        have hlo := fun W => (spec_lower s[j] W).mono (fun _ _ h => And.intro h.1 h.2.symm)
        have hdi := fun W => (spec_digit s[j] W).mono (fun _ _ h => And.intro h.1 h.2.symm)
        cases hvl : bl (97 ≤ s[j].toNat ∧ s[j].toNat ≤ 122) with
        | true =>
          rw [hvl] at hlo
          have HLD : Hid (∀ i (hi : i < s.size), k0 ≤ i → i < j + 1 → isLD s[i] = true) := stay_more (hlt := hlt) hall.out (by unfold isLD; simp [hvl])
          clear hS hO hall
          go_wp2
          go_quiet (first | (go_at_call 172; exact Calls.quiet_of_same (hlo _)) | (go_at_call 173; exact Calls.quiet_of_same (hdi _)) | fail "no arm")
          go_wp2
          go_roundg (gk - 1)
          case rel => exact ⟨j + 1, by omega, by omega, by omega, by omega, (HG.out _).1, HLD, (HG.out _).2⟩
          case measure => omega
        | false =>
          rw [hvl] at hlo
          cases hvd : bl (48 ≤ s[j].toNat ∧ s[j].toNat ≤ 57) with
          | true =>
            rw [hvd] at hdi
            have HLD : Hid (∀ i (hi : i < s.size), k0 ≤ i → i < j + 1 → isLD s[i] = true) := stay_more (hlt := hlt) hall.out (by unfold isLD; simp [hvd])
            clear hS hO hall
            go_wp2
            go_quiet (first | (go_at_call 172; exact Calls.quiet_of_same (hlo _)) | (go_at_call 173; exact Calls.quiet_of_same (hdi _)) | fail "no arm")
            go_wp2
            go_roundg (gk - 1)
            case rel => exact ⟨j + 1, by omega, by omega, by omega, by omega, (HG.out _).1, HLD, (HG.out _).2⟩
            case measure => omega
          | false =>
            rw [hvd] at hdi
            by_cases h65 : 65 ≤ s[j].toNat
            · by_cases h90 : s[j].toNat ≤ 90
              · have g1 : decide ((65 : Int) ≤ (s[j].toNat : Int)) = true := by simp; omega
                have g2 : decide ((s[j].toNat : Int) ≤ 90) = true := by simp; omega
                have HLD : Hid (∀ i (hi : i < s.size), k0 ≤ i → i < j + 1 → isLD s[i] = true) := stay_more (hlt := hlt) hall.out (by unfold isLD; simp [h65, h90])
                clear hS hO hall
                go_wp2
                go_quiet (first | (go_at_call 172; exact Calls.quiet_of_same (hlo _)) | (go_at_call 173; exact Calls.quiet_of_same (hdi _)) | fail "no arm")
                go_wp2
                go_roundg (gk - 1)
                case rel => exact ⟨j + 1, by omega, by omega, by omega, by omega, (HG.out _).1, HLD, (HG.out _).2⟩
                case measure => omega
              · have g1 : decide ((65 : Int) ≤ (s[j].toNat : Int)) = true := by simp; omega
                have g2 : decide ((s[j].toNat : Int) ≤ 90) = false := by simp; omega
                have HEX : Hid (∀ hj : j < s.size, isLD s[j] = false) := fun hj => by unfold isLD; simp [hvl, hvd, h90]
                have HE : Hid (∀ n n', SAt ((wr.drewN n).drewN n') b s j false ∧ Only (Just b) w ((wr.drewN n).drewN n')) := fun n n' => ⟨hS.out.below (below_drewN (below_drewN (Below.refl _ _) n) n'), hO.out.trans (just_below (below_drewN (below_drewN (Below.refl _ _) n) n'))⟩
                have hkk : k ≤ j := Nat.le_trans hkk0 hkj
                clear hS hO
                go_wp2
                go_quiet (first | (go_at_call 172; exact Calls.quiet_of_same (hlo _)) | (go_at_call 173; exact Calls.quiet_of_same (hdi _)) | fail "no arm")
                go_wp2
                go_quiet (fail)
                go_wp2
                go_ret
                rw [hke] at hkj hall
                exact ⟨⟨j, hkj, hj, hall.out, HEX.out, rfl, (HE.out _ _).1⟩, (HE.out _ _).2⟩
            · have g1 : decide ((65 : Int) ≤ (s[j].toNat : Int)) = false := by simp; omega
              have HEX : Hid (∀ hj : j < s.size, isLD s[j] = false) := fun hj => by unfold isLD; simp [hvl, hvd, h65]
              have HE : Hid (∀ n n', SAt ((wr.drewN n).drewN n') b s j false ∧ Only (Just b) w ((wr.drewN n).drewN n')) := fun n n' => ⟨hS.out.below (below_drewN (below_drewN (Below.refl _ _) n) n'), hO.out.trans (just_below (below_drewN (below_drewN (Below.refl _ _) n) n'))⟩
              have hkk : k ≤ j := Nat.le_trans hkk0 hkj
              clear hS hO
              go_wp2
              go_quiet (first | (go_at_call 172; exact Calls.quiet_of_same (hlo _)) | (go_at_call 173; exact Calls.quiet_of_same (hdi _)) | fail "no arm")
              go_wp2
              go_quiet (fail)
              go_wp2
              go_ret
              rw [hke] at hkj hall
              exact ⟨⟨j, hkj, hj, hall.out, HEX.out, rfl, (HE.out _ _).1⟩, (HE.out _ _).2⟩
      · have e1 : decide ((j : Int) < (s.size : Int)) = false := by simp; omega
        have HEX : Hid (∀ hj : j < s.size, isLD s[j] = false) := fun hj => absurd hj hlt
        have HE : Hid (∀ n n', SAt ((wr.drewN n).drewN n') b s j false ∧ Only (Just b) w ((wr.drewN n).drewN n')) := fun n n' => ⟨hS.out.below (below_drewN (below_drewN (Below.refl _ _) n) n'), hO.out.trans (just_below (below_drewN (below_drewN (Below.refl _ _) n) n'))⟩
        have hkk : k ≤ j := Nat.le_trans hkk0 hkj
        clear hS hO
        go_wp2
        go_quiet (fail)
        go_wp2
        go_quiet (fail)
        go_wp2
        go_ret
        rw [hke] at hkj hall
        exact ⟨⟨j, hkj, hj, hall.out, HEX.out, rfl, (HE.out _ _).1⟩, (HE.out _ _).2⟩
  | false =>
    rw [hq1] at HS1
    cases hq2 : sees s k [95] with
    | true =>
      rw [hq2] at HS2
      go_enter Tryz.func116, Tryz.ntmps116
      go_wp2_with fail
      refine (HS1.out _ (Below.refl _ _)).mono ?_
      rintro e w0 ⟨rfl, hb0⟩
      go_wp2_with fail
      refine (HS2.out _ hb0).mono ?_
      rintro e w1 ⟨rfl, hb1'⟩
      have hb1 := hb0.trans (hb1'.mono hb0.size)
      have hS1 := H.out.below hb1
      obtain ⟨d0, d1, d2, f1, f2⟩ := hS1.cells
      clear c0 c1 c2 hb0 hb1'
      obtain ⟨k0, hke⟩ : ∃ k0, k0 = begins s k := ⟨_, rfl⟩
      have hk1 : k0 = k + 1 := by rw [hke]; unfold begins; simp [hq2]
      have hkk0 : k ≤ k0 := by omega
      have hk0 : k0 ≤ s.size := by have := sees_len hq2; omega
      have HS0 : Hid (SAt (w1.setCell ⟨b, 1, none⟩ (.int .i64 ((k : Int) + 1))) b s k0 false ∧ Only (Just b) w (w1.setCell ⟨b, 1, none⟩ (.int .i64 ((k : Int) + 1)))) := by
        have h1 := hS1.go (k + 1)
        rw [Int.natCast_add] at h1
        rw [hk1]
        exact ⟨h1, (just_below hb1).trans (Only.setCell (F := Just b) (p := ⟨b, 1, none⟩) rfl _)⟩
      clear hS1 hb1 hk1
      go_wp2
      go_loopg [] 1048577 (fun gg wr => ∃ j, j ≤ s.size ∧ k0 ≤ j ∧ s.size - j ≤ gg ∧ gg ≤ 1048577 ∧ Hid (SAt wr b s j false) ∧ Hid (∀ i (hi : i < s.size), k0 ≤ i → i < j → isLD s[i] = true) ∧ Hid (Only (Just b) w wr))
      case atStart => exact ⟨k0, hk0, Nat.le_refl _, by omega, Nat.le_refl _, HS0.out.1, fun i hi h1 h2 => by omega, HS0.out.2⟩
      case round =>
        obtain ⟨j, hj, hkj, hjg, hgk, hS, hall, hO⟩ := hrel
        obtain ⟨c0, c1, c2, f1, f2⟩ := hS.out.cells
        by_cases hlt : j < s.size
        · have e1 : decide ((j : Int) < (s.size : Int)) = true := by simp; omega
          have HG : Hid (∀ n, SAt ((wr.drewN n).setCell ⟨b, 1, none⟩ (.int .i64 ((j : Int) + 1))) b s (j + 1) false ∧ Only (Just b) w ((wr.drewN n).setCell ⟨b, 1, none⟩ (.int .i64 ((j : Int) + 1)))) := fun n => by
            have hb := below_drewN (Below.refl wr.heap.size wr) n
            have h1 := (hS.out.below hb).go (j + 1)
            rw [Int.natCast_add] at h1
            exact ⟨h1, (hO.out.trans (just_below hb)).trans (Only.setCell (F := Just b) (p := ⟨b, 1, none⟩) rfl _)⟩
          have hlo := fun W => (spec_lower s[j] W).mono (fun _ _ h => And.intro h.1 h.2.symm)
          have hdi := fun W => (spec_digit s[j] W).mono (fun _ _ h => And.intro h.1 h.2.symm)
          cases hvl : bl (97 ≤ s[j].toNat ∧ s[j].toNat ≤ 122) with
          | true =>
            rw [hvl] at hlo
            have HLD : Hid (∀ i (hi : i < s.size), k0 ≤ i → i < j + 1 → isLD s[i] = true) := stay_more (hlt := hlt) hall.out (by unfold isLD; simp [hvl])
            clear hS hO hall
            go_wp2
            go_quiet (first | (go_at_call 172; exact Calls.quiet_of_same (hlo _)) | (go_at_call 173; exact Calls.quiet_of_same (hdi _)) | fail "no arm")
            go_wp2
            go_roundg (gk - 1)
            case rel => exact ⟨j + 1, by omega, by omega, by omega, by omega, (HG.out _).1, HLD, (HG.out _).2⟩
            case measure => omega
          | false =>
            rw [hvl] at hlo
            cases hvd : bl (48 ≤ s[j].toNat ∧ s[j].toNat ≤ 57) with
            | true =>
              rw [hvd] at hdi
              have HLD : Hid (∀ i (hi : i < s.size), k0 ≤ i → i < j + 1 → isLD s[i] = true) := stay_more (hlt := hlt) hall.out (by unfold isLD; simp [hvd])
              clear hS hO hall
              go_wp2
              go_quiet (first | (go_at_call 172; exact Calls.quiet_of_same (hlo _)) | (go_at_call 173; exact Calls.quiet_of_same (hdi _)) | fail "no arm")
              go_wp2
              go_roundg (gk - 1)
              case rel => exact ⟨j + 1, by omega, by omega, by omega, by omega, (HG.out _).1, HLD, (HG.out _).2⟩
              case measure => omega
            | false =>
              rw [hvd] at hdi
              by_cases h65 : 65 ≤ s[j].toNat
              · by_cases h90 : s[j].toNat ≤ 90
                · have g1 : decide ((65 : Int) ≤ (s[j].toNat : Int)) = true := by simp; omega
                  have g2 : decide ((s[j].toNat : Int) ≤ 90) = true := by simp; omega
                  have HLD : Hid (∀ i (hi : i < s.size), k0 ≤ i → i < j + 1 → isLD s[i] = true) := stay_more (hlt := hlt) hall.out (by unfold isLD; simp [h65, h90])
                  clear hS hO hall
                  go_wp2
                  go_quiet (first | (go_at_call 172; exact Calls.quiet_of_same (hlo _)) | (go_at_call 173; exact Calls.quiet_of_same (hdi _)) | fail "no arm")
                  go_wp2
                  go_roundg (gk - 1)
                  case rel => exact ⟨j + 1, by omega, by omega, by omega, by omega, (HG.out _).1, HLD, (HG.out _).2⟩
                  case measure => omega
                · have g1 : decide ((65 : Int) ≤ (s[j].toNat : Int)) = true := by simp; omega
                  have g2 : decide ((s[j].toNat : Int) ≤ 90) = false := by simp; omega
                  have HEX : Hid (∀ hj : j < s.size, isLD s[j] = false) := fun hj => by unfold isLD; simp [hvl, hvd, h90]
                  have HE : Hid (∀ n n', SAt ((wr.drewN n).drewN n') b s j false ∧ Only (Just b) w ((wr.drewN n).drewN n')) := fun n n' => ⟨hS.out.below (below_drewN (below_drewN (Below.refl _ _) n) n'), hO.out.trans (just_below (below_drewN (below_drewN (Below.refl _ _) n) n'))⟩
                  have hkk : k ≤ j := Nat.le_trans hkk0 hkj
                  clear hS hO
                  go_wp2
                  go_quiet (first | (go_at_call 172; exact Calls.quiet_of_same (hlo _)) | (go_at_call 173; exact Calls.quiet_of_same (hdi _)) | fail "no arm")
                  go_wp2
                  go_quiet (fail)
                  go_wp2
                  go_ret
                  rw [hke] at hkj hall
                  exact ⟨⟨j, hkj, hj, hall.out, HEX.out, rfl, (HE.out _ _).1⟩, (HE.out _ _).2⟩
              · have g1 : decide ((65 : Int) ≤ (s[j].toNat : Int)) = false := by simp; omega
                have HEX : Hid (∀ hj : j < s.size, isLD s[j] = false) := fun hj => by unfold isLD; simp [hvl, hvd, h65]
                have HE : Hid (∀ n n', SAt ((wr.drewN n).drewN n') b s j false ∧ Only (Just b) w ((wr.drewN n).drewN n')) := fun n n' => ⟨hS.out.below (below_drewN (below_drewN (Below.refl _ _) n) n'), hO.out.trans (just_below (below_drewN (below_drewN (Below.refl _ _) n) n'))⟩
                have hkk : k ≤ j := Nat.le_trans hkk0 hkj
                clear hS hO
                go_wp2
                go_quiet (first | (go_at_call 172; exact Calls.quiet_of_same (hlo _)) | (go_at_call 173; exact Calls.quiet_of_same (hdi _)) | fail "no arm")
                go_wp2
                go_quiet (fail)
                go_wp2
                go_ret
                rw [hke] at hkj hall
                exact ⟨⟨j, hkj, hj, hall.out, HEX.out, rfl, (HE.out _ _).1⟩, (HE.out _ _).2⟩
        · have e1 : decide ((j : Int) < (s.size : Int)) = false := by simp; omega
          have HEX : Hid (∀ hj : j < s.size, isLD s[j] = false) := fun hj => absurd hj hlt
          have HE : Hid (∀ n n', SAt ((wr.drewN n).drewN n') b s j false ∧ Only (Just b) w ((wr.drewN n).drewN n')) := fun n n' => ⟨hS.out.below (below_drewN (below_drewN (Below.refl _ _) n) n'), hO.out.trans (just_below (below_drewN (below_drewN (Below.refl _ _) n) n'))⟩
          have hkk : k ≤ j := Nat.le_trans hkk0 hkj
          clear hS hO
          go_wp2
          go_quiet (fail)
          go_wp2
          go_quiet (fail)
          go_wp2
          go_ret
          rw [hke] at hkj hall
          exact ⟨⟨j, hkj, hj, hall.out, HEX.out, rfl, (HE.out _ _).1⟩, (HE.out _ _).2⟩
    | false =>
      rw [hq2] at HS2
      go_enter Tryz.func116, Tryz.ntmps116
      go_wp2_with fail
      refine (HS1.out _ (Below.refl _ _)).mono ?_
      rintro e w0 ⟨rfl, hb0⟩
      go_wp2_with fail
      refine (HS2.out _ hb0).mono ?_
      rintro e w1 ⟨rfl, hb1'⟩
      have hb1 := hb0.trans (hb1'.mono hb0.size)
      have hS1 := H.out.below hb1
      clear c0 c1 c2 hb0 hb1'
      obtain ⟨k0, hke⟩ : ∃ k0, k0 = begins s k := ⟨_, rfl⟩
      have hk1 : k0 = k := by rw [hke]; unfold begins; simp [hq1, hq2]
      have hkk0 : k ≤ k0 := by omega
      have hk0 : k0 ≤ s.size := by omega
      have HS0 : Hid (SAt w1 b s k0 false ∧ Only (Just b) w w1) := by
        rw [hk1]
        exact ⟨hS1, just_below hb1⟩
      clear hS1 hb1 hk1
      go_wp2
      go_loopg [] 1048577 (fun gg wr => ∃ j, j ≤ s.size ∧ k0 ≤ j ∧ s.size - j ≤ gg ∧ gg ≤ 1048577 ∧ Hid (SAt wr b s j false) ∧ Hid (∀ i (hi : i < s.size), k0 ≤ i → i < j → isLD s[i] = true) ∧ Hid (Only (Just b) w wr))
      case atStart => exact ⟨k0, hk0, Nat.le_refl _, by omega, Nat.le_refl _, HS0.out.1, fun i hi h1 h2 => by omega, HS0.out.2⟩
      case round =>
        obtain ⟨j, hj, hkj, hjg, hgk, hS, hall, hO⟩ := hrel
        obtain ⟨c0, c1, c2, f1, f2⟩ := hS.out.cells
        by_cases hlt : j < s.size
        · have e1 : decide ((j : Int) < (s.size : Int)) = true := by simp; omega
          have HG : Hid (∀ n, SAt ((wr.drewN n).setCell ⟨b, 1, none⟩ (.int .i64 ((j : Int) + 1))) b s (j + 1) false ∧ Only (Just b) w ((wr.drewN n).setCell ⟨b, 1, none⟩ (.int .i64 ((j : Int) + 1)))) := fun n => by
            have hb := below_drewN (Below.refl wr.heap.size wr) n
            have h1 := (hS.out.below hb).go (j + 1)
            rw [Int.natCast_add] at h1
            exact ⟨h1, (hO.out.trans (just_below hb)).trans (Only.setCell (F := Just b) (p := ⟨b, 1, none⟩) rfl _)⟩
          have hlo := fun W => (spec_lower s[j] W).mono (fun _ _ h => And.intro h.1 h.2.symm)
          have hdi := fun W => (spec_digit s[j] W).mono (fun _ _ h => And.intro h.1 h.2.symm)
          cases hvl : bl (97 ≤ s[j].toNat ∧ s[j].toNat ≤ 122) with
          | true =>
            rw [hvl] at hlo
            have HLD : Hid (∀ i (hi : i < s.size), k0 ≤ i → i < j + 1 → isLD s[i] = true) := stay_more (hlt := hlt) hall.out (by unfold isLD; simp [hvl])
            clear hS hO hall
            go_wp2
            go_quiet (first | (go_at_call 172; exact Calls.quiet_of_same (hlo _)) | (go_at_call 173; exact Calls.quiet_of_same (hdi _)) | fail "no arm")
            go_wp2
            go_roundg (gk - 1)
            case rel => exact ⟨j + 1, by omega, by omega, by omega, by omega, (HG.out _).1, HLD, (HG.out _).2⟩
            case measure => omega
          | false =>
            rw [hvl] at hlo
            cases hvd : bl (48 ≤ s[j].toNat ∧ s[j].toNat ≤ 57) with
            | true =>
              rw [hvd] at hdi
              have HLD : Hid (∀ i (hi : i < s.size), k0 ≤ i → i < j + 1 → isLD s[i] = true) := stay_more (hlt := hlt) hall.out (by unfold isLD; simp [hvd])
              clear hS hO hall
              go_wp2
              go_quiet (first | (go_at_call 172; exact Calls.quiet_of_same (hlo _)) | (go_at_call 173; exact Calls.quiet_of_same (hdi _)) | fail "no arm")
              go_wp2
              go_roundg (gk - 1)
              case rel => exact ⟨j + 1, by omega, by omega, by omega, by omega, (HG.out _).1, HLD, (HG.out _).2⟩
              case measure => omega
            | false =>
              rw [hvd] at hdi
              by_cases h65 : 65 ≤ s[j].toNat
              · by_cases h90 : s[j].toNat ≤ 90
                · have g1 : decide ((65 : Int) ≤ (s[j].toNat : Int)) = true := by simp; omega
                  have g2 : decide ((s[j].toNat : Int) ≤ 90) = true := by simp; omega
                  have HLD : Hid (∀ i (hi : i < s.size), k0 ≤ i → i < j + 1 → isLD s[i] = true) := stay_more (hlt := hlt) hall.out (by unfold isLD; simp [h65, h90])
                  clear hS hO hall
                  go_wp2
                  go_quiet (first | (go_at_call 172; exact Calls.quiet_of_same (hlo _)) | (go_at_call 173; exact Calls.quiet_of_same (hdi _)) | fail "no arm")
                  go_wp2
                  go_roundg (gk - 1)
                  case rel => exact ⟨j + 1, by omega, by omega, by omega, by omega, (HG.out _).1, HLD, (HG.out _).2⟩
                  case measure => omega
                · have g1 : decide ((65 : Int) ≤ (s[j].toNat : Int)) = true := by simp; omega
                  have g2 : decide ((s[j].toNat : Int) ≤ 90) = false := by simp; omega
                  have HEX : Hid (∀ hj : j < s.size, isLD s[j] = false) := fun hj => by unfold isLD; simp [hvl, hvd, h90]
                  have HE : Hid (∀ n n', SAt ((wr.drewN n).drewN n') b s j false ∧ Only (Just b) w ((wr.drewN n).drewN n')) := fun n n' => ⟨hS.out.below (below_drewN (below_drewN (Below.refl _ _) n) n'), hO.out.trans (just_below (below_drewN (below_drewN (Below.refl _ _) n) n'))⟩
                  have hkk : k ≤ j := Nat.le_trans hkk0 hkj
                  clear hS hO
                  go_wp2
                  go_quiet (first | (go_at_call 172; exact Calls.quiet_of_same (hlo _)) | (go_at_call 173; exact Calls.quiet_of_same (hdi _)) | fail "no arm")
                  go_wp2
                  go_quiet (fail)
                  go_wp2
                  go_ret
                  rw [hke] at hkj hall
                  exact ⟨⟨j, hkj, hj, hall.out, HEX.out, rfl, (HE.out _ _).1⟩, (HE.out _ _).2⟩
              · have g1 : decide ((65 : Int) ≤ (s[j].toNat : Int)) = false := by simp; omega
                have HEX : Hid (∀ hj : j < s.size, isLD s[j] = false) := fun hj => by unfold isLD; simp [hvl, hvd, h65]
                have HE : Hid (∀ n n', SAt ((wr.drewN n).drewN n') b s j false ∧ Only (Just b) w ((wr.drewN n).drewN n')) := fun n n' => ⟨hS.out.below (below_drewN (below_drewN (Below.refl _ _) n) n'), hO.out.trans (just_below (below_drewN (below_drewN (Below.refl _ _) n) n'))⟩
                have hkk : k ≤ j := Nat.le_trans hkk0 hkj
                clear hS hO
                go_wp2
                go_quiet (first | (go_at_call 172; exact Calls.quiet_of_same (hlo _)) | (go_at_call 173; exact Calls.quiet_of_same (hdi _)) | fail "no arm")
                go_wp2
                go_quiet (fail)
                go_wp2
                go_ret
                rw [hke] at hkj hall
                exact ⟨⟨j, hkj, hj, hall.out, HEX.out, rfl, (HE.out _ _).1⟩, (HE.out _ _).2⟩
        · have e1 : decide ((j : Int) < (s.size : Int)) = false := by simp; omega
          have HEX : Hid (∀ hj : j < s.size, isLD s[j] = false) := fun hj => absurd hj hlt
          have HE : Hid (∀ n n', SAt ((wr.drewN n).drewN n') b s j false ∧ Only (Just b) w ((wr.drewN n).drewN n')) := fun n n' => ⟨hS.out.below (below_drewN (below_drewN (Below.refl _ _) n) n'), hO.out.trans (just_below (below_drewN (below_drewN (Below.refl _ _) n) n'))⟩
          have hkk : k ≤ j := Nat.le_trans hkk0 hkj
          clear hS hO
          go_wp2
          go_quiet (fail)
          go_wp2
          go_quiet (fail)
          go_wp2
          go_ret
          rw [hke] at hkj hall
          exact ⟨⟨j, hkj, hj, hall.out, HEX.out, rfl, (HE.out _ _).1⟩, (HE.out _ _).2⟩
end Go.Proofs.YtijbaienhaiamaaGreatDoor
end

/- What is proved here: the specification's l4Take in its cases; what is seen at a place of a text. Conditions: as for the reader. -/
section
namespace Go.Proofs.YtijbaienhaiamaaGreatDoor
open Go.RowKit

theorem sees_true {s : ByteArray} {k : Nat} {p : List UInt8} (h : sees s k p = true) (hk : k ≤ s.size) : s.data.toList.drop k = p ++ s.data.toList.drop (k + p.length) ∧ k + p.length ≤ s.size := by
  obtain ⟨x, e⟩ := List.isPrefixOf_iff_prefix.1 h
  have hl : s.data.toList.length = s.size := rfl
  have h1 := congrArg List.length e
  rw [List.length_append, List.length_drop, hl] at h1
  refine ⟨?_, by omega⟩
  have h2 : s.data.toList.drop (k + p.length) = (s.data.toList.drop k).drop p.length := by rw [List.drop_drop]
  rw [h2, ← e]
  simp
theorem sees_false {s : ByteArray} {k : Nat} {p : List UInt8} (h : sees s k p = false) : ∀ x, s.data.toList.drop k ≠ p ++ x := fun x e => by
  have : sees s k p = true := List.isPrefixOf_iff_prefix.2 ⟨x, e.symm⟩
  rw [h] at this
  cases this
theorem take_yes (w : World) (b : Nat) (s : ByteArray) (k : Nat) (p : List UInt8) (h : SAt w b s k false) (hs : s.size ≤ 1048576) (hk : k ≤ s.size) (hp : p.length ≤ 16) (hse : sees s k p = true) :
    Calls Tryz.prog 114 #[.pointer (some ⟨b, 0, none⟩), .string (str p)] w fun e w' => e = .returned (.bool true) ∧ SAt w' b s (k + p.length) false ∧ Only (Just b) w w' := by
  have H := spec_take w b s k false p h hs hk hp
  rw [hse] at H
  exact H
theorem take_no (w : World) (b : Nat) (s : ByteArray) (k : Nat) (p : List UInt8) (h : SAt w b s k false) (hs : s.size ≤ 1048576) (hk : k ≤ s.size) (hp : p.length ≤ 16) (hse : sees s k p = false) :
    Calls Tryz.prog 114 #[.pointer (some ⟨b, 0, none⟩), .string (str p)] w fun e w' => e = .returned (.bool false) ∧ SAt w' b s k false ∧ Only (Just b) w w' := by
  have H := spec_take w b s k false p h hs hk hp
  rw [hse] at H
  exact H
theorem take_bad (w : World) (b : Nat) (s : ByteArray) (k : Nat) (p : List UInt8) (h : SAt w b s k true) (hs : s.size ≤ 1048576) (hk : k ≤ s.size) (hp : p.length ≤ 16) :
    Calls Tryz.prog 114 #[.pointer (some ⟨b, 0, none⟩), .string (str p)] w fun e w' => e = .returned (.bool false) ∧ SAt w' b s k true ∧ Only (Just b) w w' := spec_take w b s k true p h hs hk hp
theorem SAt.at {w w' : World} {b : Nat} {s : ByteArray} {p : Nat} {bad : Bool} (h : SAt w b s p bad) (k : w'.heap[b]? = w.heap[b]?) : SAt w' b s p bad := k.trans h
theorem SAt.set4 {w : World} {b g : Nat} {s : ByteArray} {p : Nat} {bad : Bool} (h : SAt w b s p bad) (hg : b ≠ g) (k n : Int) (t : ByteArray) (v : Value) : SAt (Go.Proofs.YtijbaienhaiamaaGreatDoor.set4 w g k n t v) b s p bad := (set4_other k n t v hg).trans h
end Go.Proofs.YtijbaienhaiamaaGreatDoor
end

/- What is proved here: what the specification's reader of an expression answers, and where; at once where it has failed before. Conditions: as for the reader. -/
section
namespace Go.Proofs.YtijbaienhaiamaaGreatDoor.Ex
open Go.RowKit

/-- What reading an expression ends as, from the place k, at the depth d (the program's answer without a bound on the nodes). -/
def SpAns (w : World) (b : Nat) (s : ByteArray) (k m d : Nat) (e : Ending) (w' : World) : Prop :=
  (∃ p k' m' v bs, e = .returned (.agg #[.int .i64 (PatD.k p), .int .i64 p.n, .string p.t, v]) ∧ OwnV w' v p.F bs ∧ bs.Nodup ∧ (∀ c ∈ bs, w.heap.size ≤ c ∧ c < w'.heap.size) ∧ SAt w' b s k' false ∧ k' ≤ s.size ∧ OkP 2097152 (s.data.toList.drop k) m d p (s.data.toList.drop k') m') ∨
  (∃ kk nn t a l c k', e = .returned (.agg #[.int .i64 kk, .int .i64 nn, .string t, .slice a l c]) ∧ SAt w' b s k' true ∧ k' ≤ s.size ∧ NoneP 2097152 (s.data.toList.drop k) m d)
def SReadOk (b d : Nat) : Prop := ∀ (w : World) (s : ByteArray) (k m : Nat), SAt w b s k false → s.size ≤ 1048576 → k ≤ s.size → m ≤ k →
  Calls Tryz.prog 94 #[.pointer (some ⟨b, 0, none⟩), .int .i64 (d : Int)] w fun e w' => SpAns w b s k m d e w' ∧ Only (Just b) w w'
theorem okp_le {s : ByteArray} {k k' m m' d : Nat} {p : PatD} (h : OkP 2097152 (s.data.toList.drop k) m d p (s.data.toList.drop k') m') (hm : m ≤ k) (hk : k ≤ s.size) (hk' : k' ≤ s.size) : m' ≤ k' := by
  have hl : s.data.toList.length = s.size := rfl
  have h1 := congrArg List.length h.text
  rw [List.length_append, List.length_drop, List.length_drop, hl] at h1
  have h2 := good_ge h.good
  have h3 := h.nodes
  omega
/-- The end of a walk: it failed. -/
theorem sp_none {w w' : World} {b g : Nat} {s : ByteArray} {k k' m d : Nat} {e : Ending} {kk nn : Int} {t : ByteArray} {a : Option Addr} {l c : Nat} (he : e = .returned (.agg #[.int .i64 kk, .int .i64 nn, .string t, .slice a l c])) (hR : SAt w' b s k' true) (hk : k' ≤ s.size) (hN : NoneP 2097152 (s.data.toList.drop k) m d) (hO : Only (Just b) w w') (hg : w.heap.size ≤ g) (hb : b ≠ g) :
    SpAns w b s k m d e (Go.Proofs.YtijbaienhaiamaaGreatDoor.set4 w' g kk nn t (.slice a l c)) ∧ Only (Just b) w (Go.Proofs.YtijbaienhaiamaaGreatDoor.set4 w' g kk nn t (.slice a l c)) :=
  ⟨.inr ⟨kk, nn, t, a, l, c, k', he, hR.set4 hb _ _ _ _, hk, hN⟩, set4_only hO hg _ _ _ _⟩
/-- The end of a walk: an expression in the box g. -/
theorem sp_some {w w' : World} {b g : Nat} {s : ByteArray} {k k' m d m' : Nat} {e : Ending} {p : PatD} {v : Value} {bs : List Nat} (he : e = .returned (.agg #[.int .i64 p.k, .int .i64 p.n, .string p.t, v])) (ho : OwnV w' v p.F bs) (hnd : bs.Nodup) (hbs : ∀ c ∈ bs, w.heap.size ≤ c ∧ c < w'.heap.size) (hbg : ∀ c ∈ bs, c ≠ g) (hR : SAt w' b s k' false) (hk : k' ≤ s.size) (hP : OkP 2097152 (s.data.toList.drop k) m d p (s.data.toList.drop k') m') (hO : Only (Just b) w w') (hg : w.heap.size ≤ g) (hb : b ≠ g) :
    SpAns w b s k m d e (Go.Proofs.YtijbaienhaiamaaGreatDoor.set4 w' g p.k p.n p.t v) ∧ Only (Just b) w (Go.Proofs.YtijbaienhaiamaaGreatDoor.set4 w' g p.k p.n p.t v) :=
  ⟨.inl ⟨p, k', m', v, bs, he, ho.keep (fun c hc => set4_other _ _ _ _ (hbg c hc)), hnd, fun c hc => by rw [set4_size]; exact hbs c hc, hR.set4 hb _ _ _ _, hk, hP⟩, set4_only hO hg _ _ _ _⟩
theorem sp_leaf {w w' : World} {b g : Nat} {s : ByteArray} {k k' m d m' : Nat} {e : Ending} {kk n : Int} {t : ByteArray} (he : e = .returned (.agg #[.int .i64 kk, .int .i64 n, .string t, .slice none 0 0])) (hR : SAt w' b s k' false) (hk : k' ≤ s.size) (hP : OkP 2097152 (s.data.toList.drop k) m d (Go.Proofs.YtijbaienhaiamaaGreatDoor.leaf kk n t) (s.data.toList.drop k') m') (hO : Only (Just b) w w') (hg : w.heap.size ≤ g) (hb : b ≠ g) :
    SpAns w b s k m d e (Go.Proofs.YtijbaienhaiamaaGreatDoor.set4 w' g kk n t (.slice none 0 0)) ∧ Only (Just b) w (Go.Proofs.YtijbaienhaiamaaGreatDoor.set4 w' g kk n t (.slice none 0 0)) :=
  sp_some (p := Go.Proofs.YtijbaienhaiamaaGreatDoor.leaf kk n t) he (.inl ⟨Option.none, 0, rfl, rfl, rfl⟩) List.nodup_nil (by simp) (by simp) hR hk hP hO hg hb

set_option maxHeartbeats 1000000 in
set_option maxRecDepth 100000 in
theorem spec_expr_bad (b : Nat) (d : Int) (w : World) (s : ByteArray) (k : Nat) (h : SAt w b s k true) :
    Calls Tryz.prog 94 #[.pointer (some ⟨b, 0, none⟩), .int .i64 d] w fun e w' => (e = .returned (.agg #[.int .i64 0, .int .i64 0, .string ⟨#[]⟩, .slice none 0 0]) ∧ SAt w' b s k true) ∧ Only (Just b) w w' := by
  have hlt := h.lt
  obtain ⟨w1, hw1⟩ : ∃ w1, w1 = w.alloc (.cells #[.int .i64 0, .int .i64 0, .string ⟨#[]⟩, .slice none 0 0] 54) := ⟨_, rfl⟩
  have hb1 : PBox w1 w.heap.size 0 0 ⟨#[]⟩ (.slice none 0 0) := by rw [hw1]; exact heap_at_new w _
  have hB1 : Only (Just b) w w1 := by rw [hw1]; exact (Only.refl _ _).more _
  have hS1 : SAt w1 b s k true := by rw [hw1]; exact h.below ((Below.refl _ _).alloc (Nat.le_refl _) _)
  have hS2 := hS1.fail true
  have hb2 : PBox (w1.setCell ⟨b, 2, none⟩ (.bool true)) w.heap.size 0 0 ⟨#[]⟩ (.slice none 0 0) := (Below.heap_setCell _ _ _ _ (by show w.heap.size ≠ b; omega)).trans hb1
  have hB2 : Only (Just b) w (w1.setCell ⟨b, 2, none⟩ (.bool true)) := hB1.trans ⟨rfl, rfl, rfl, by simp [World.setCell], fun c _ hn => Below.heap_setCell _ _ _ _ (by show c ≠ b; exact hn)⟩
  obtain ⟨c0, c1, c2, f1, f2⟩ := hS1.cells
  obtain ⟨d0, d1, d2, g1, g2⟩ := hS2.cells
  obtain ⟨x0, x1, x2, x3, i0, i1, i2, i3⟩ := four_cells hb2
  have H2 : Hid (SAt (w1.setCell ⟨b, 2, none⟩ (.bool true)) b s k true ∧ PBox (w1.setCell ⟨b, 2, none⟩ (.bool true)) w.heap.size 0 0 ⟨#[]⟩ (.slice none 0 0) ∧ Only (Just b) w (w1.setCell ⟨b, 2, none⟩ (.bool true)) ∧ b < w.heap.size) := ⟨hS2, hb2, hB2, hlt⟩
  rw [hw1] at c0 c1 c2 f1 f2 d0 d1 d2 g1 g2 x0 x1 x2 x3 i0 i1 i2 i3 H2
  clear hb1 hB1 hS1 hS2 hb2 hB2 h hw1 hlt
  go_enter Tryz.func94, Tryz.ntmps94
  go_wp2
  refine bodyPost_ret (results_cell_row rfl _ _ w.heap.size _ _ _ _ rfl (set4_box H2.out.2.1 _ _ _ _) Tryz.underlying54 rfl (by kernel_rfl)) rfl ?_
  exact ⟨⟨rfl, H2.out.1.set4 (by have := H2.out.2.2.2; omega) _ _ _ _⟩, set4_only H2.out.2.2.1 (Nat.le_refl _) _ _ _ _⟩
end Go.Proofs.YtijbaienhaiamaaGreatDoor.Ex
end

/- What is proved here: the model's ParseInt. Condition: the text has at most 2^20 bytes. -/
section
namespace Go.Proofs.YtijbaienhaiamaaGreatDoor
open Go.RowKit

set_option maxRecDepth 100000 in
theorem spec_ParseInt (s : ByteArray) (hs : s.size ≤ 1048576) (w : World) :
    Calls Tryz.prog 117 #[.string s] w fun e w' => e = readEnd (readOf (-999999999999) 999999999999 s.data.toList) ∧ Below w.heap.size w w' := by
  rw [← specRead_twelve]
  have hs' : s.size ≤ maxLen := by unfold maxLen; omega
  have H := spec_read s 12 (by omega) (by omega) hs' w
  cases hR : specRead 12 s.data.toList with
  | some n =>
    rw [hR] at H
    go_enter Tryz.func117, Tryz.ntmps117
    go_wp2_with fail
    refine H.mono ?_
    rintro e w1 ⟨he, hb⟩
    obtain rfl : e = .returned (.tuple #[.int .i64 n, .bool true]) := he
    go_wp2
    go_ret2
    exact ⟨rfl, hb⟩
  | none =>
    rw [hR] at H
    go_enter Tryz.func117, Tryz.ntmps117
    go_wp2_with fail
    refine H.mono ?_
    rintro e w1 ⟨he, hb⟩
    obtain rfl : e = .returned (.tuple #[.int .i64 0, .bool false]) := he
    go_wp2
    go_ret2
    exact ⟨rfl, hb⟩

end Go.Proofs.YtijbaienhaiamaaGreatDoor
end

/- What is proved here: the word at a place of a text, as the specification reads it (pure). No condition. -/
section
namespace Go.Proofs.YtijbaienhaiamaaGreatDoor
open Go.RowKit

/-- The word at the start, as the specification reads it: a sign or '_' only in front. -/
noncomputable def leadS : List UInt8 → List UInt8
  | [] => []
  | c :: r => if c = 45 ∨ c = 95 then c :: r.takeWhile isLD else (c :: r).takeWhile isLD
theorem leadS_cons (c : UInt8) (r : List UInt8) : leadS (c :: r) = if c = 45 ∨ c = 95 then c :: r.takeWhile isLD else (c :: r).takeWhile isLD := rfl
/-- Words of patterns. -/
def IsW (x : List UInt8) : Prop := (∀ c ∈ x, isLD c = true) ∧ x ≠ [] ∨ ∃ c r, x = c :: r ∧ (c = 45 ∨ c = 95) ∧ ∀ c ∈ r, isLD c = true
theorem ld_wb {c : UInt8} (h : isLD c = true) : isWB c = true := by
  unfold isLD at h
  unfold isWB isWZ
  simp only [Bool.or_eq_true, bl_iff, Bool.and_eq_true, decide_eq_true_eq] at h ⊢
  omega
theorem ld_not {c : UInt8} (h : isLD c = true) : ¬ (c = 45 ∨ c = 95) := by
  unfold isLD at h
  simp only [Bool.or_eq_true, bl_iff, Bool.and_eq_true, decide_eq_true_eq] at h
  rintro (rfl | rfl) <;> revert h <;> decide
theorem takeWhile_all (p : UInt8 → Bool) (x y : List UInt8) (hx : ∀ c ∈ x, p c = true) (hy : ∀ c t, y = c :: t → p c = false) : (x ++ y).takeWhile p = x := by
  induction x with
  | nil =>
    cases y with
    | nil => rfl
    | cons c t => simp [hy c t rfl]
  | cons c x ih => rw [List.cons_append, List.takeWhile_cons_of_pos (hx c (by simp)), ih (fun c hc => hx c (by simp [hc]))]
theorem stop_of_lead {x y : List UInt8} (h : lead (x ++ y) = x) : ∀ c t, y = c :: t → isWB c = false := by
  intro c t e
  subst e
  cases hc : isWB c with
  | false => rfl
  | true =>
    exfalso
    have hx : ∀ u ∈ x, isWB u = true := fun u hu => by rw [← h] at hu; exact lead_word _ u hu
    have h2 : lead (x ++ c :: t) = x ++ lead (c :: t) := by
      unfold lead
      clear h
      induction x with
      | nil => rfl
      | cons a x ih => rw [List.cons_append, List.takeWhile_cons_of_pos (hx a (by simp)), ih (fun u hu => hx u (by simp [hu])), List.cons_append]
    rw [h2] at h
    have h3 := congrArg List.length h
    unfold lead at h3
    rw [List.takeWhile_cons_of_pos hc] at h3
    simp at h3
theorem leadS_all {x y : List UInt8} (hw : IsW x) (hy : ∀ c t, y = c :: t → isWB c = false) : leadS (x ++ y) = x := by
  have hy2 : ∀ c t, y = c :: t → isLD c = false := fun c t e => by
    cases hc : isLD c with
    | false => rfl
    | true => have := ld_wb hc; rw [hy c t e] at this; cases this
  rcases hw with ⟨h1, h2⟩ | ⟨c, r, rfl, hc, hr⟩
  · cases x with
    | nil => exact absurd rfl h2
    | cons c x =>
      have := takeWhile_all isLD (c :: x) y h1 hy2
      rw [List.cons_append] at this ⊢
      rw [leadS_cons, if_neg (ld_not (h1 c (by simp)))]
      exact this
  · rw [List.cons_append]
    rw [leadS_cons, if_pos hc, takeWhile_all isLD r y hr hy2]
theorem leadS_of {x y : List UInt8} (hw : IsW x) (h : lead (x ++ y) = x) : leadS (x ++ y) = x := leadS_all hw (stop_of_lead h)
theorem isW_any : IsW [95] := .inr ⟨95, [], rfl, .inr rfl, by simp⟩
theorem isW_word {t : ByteArray} (h : Word 97 122 t ∨ Word 65 90 t) : IsW t.data.toList := by
  refine .inl ⟨fun c hc => ?_, fun e => ?_⟩
  · obtain ⟨j, hj, rfl⟩ := List.mem_iff_getElem.1 hc
    have hj2 : j < t.size := hj
    unfold isLD
    simp only [Bool.or_eq_true, bl_iff, Bool.and_eq_true, decide_eq_true_eq]
    have e : (t.data.toList[j] : UInt8) = t[j] := rfl
    rw [e]
    by_cases h0 : j = 0
    · subst h0
      rcases h with h | h
      · have := h.2.2.1 hj2; omega
      · have := h.2.2.1 hj2; omega
    · have hg : Good t[j] := by
        rcases h with h | h
        · exact h.2.2.2 j hj2 (by omega)
        · exact h.2.2.2 j hj2 (by omega)
      unfold Good at hg
      omega
  · have e2 : t.data.toList.length = t.size := rfl
    rw [e] at e2
    simp at e2
    rcases h with h | h
    · have := h.1; omega
    · have := h.1; omega
theorem isW_int (n : Int) : IsW (Lib.itoa n) := by
  have hd : ∀ u : Nat, ∀ x ∈ Lib.decDigits u, isLD x = true := fun u x hx => by
    have := dec_digits u x hx
    unfold isDig at this
    unfold isLD
    simp only [Bool.or_eq_true, bl_iff, Bool.and_eq_true, decide_eq_true_eq]
    omega
  by_cases h : 0 ≤ n
  · obtain ⟨u, rfl⟩ : ∃ u : Nat, n = u := ⟨n.toNat, by omega⟩
    rw [Lib.itoa_nonneg]
    exact .inl ⟨hd u, dec_ne_nil u⟩
  · obtain ⟨u, rfl⟩ : ∃ u : Nat, n = -(u : Int) := ⟨(-n).toNat, by omega⟩
    rw [Lib.itoa_neg u (by omega)]
    exact .inr ⟨45, _, rfl, .inl rfl, hd u⟩
/-- What l4Word reads. -/
theorem extract_leadS {s : ByteArray} {k j : Nat} (hk : k ≤ s.size) (h1 : begins s k ≤ j) (h2 : j ≤ s.size) (h3 : ∀ i (hi : i < s.size), begins s k ≤ i → i < j → isLD s[i] = true) (h4 : ∀ hj : j < s.size, isLD s[j] = false) :
    (s.extract k j).data.toList = leadS (s.data.toList.drop k) ∧ s.data.toList.drop k = (s.extract k j).data.toList ++ s.data.toList.drop j := by
  have hsl : s.data.toList.length = s.size := rfl
  have hkj : k ≤ j := by unfold begins at h1; split at h1 <;> omega
  have hdec : s.data.toList.drop k = (s.extract k j).data.toList ++ s.data.toList.drop j := by
    rw [extract_toList]
    have : s.data.toList.drop j = (s.data.toList.drop k).drop (j - k) := by rw [List.drop_drop]; congr 1; omega
    rw [this, List.take_append_drop]
  refine ⟨?_, hdec⟩
  have hstop : ∀ c t, s.data.toList.drop j = c :: t → isLD c = false := fun c t e => by
    have hj : j < s.size := by
      rcases Nat.lt_or_ge j s.size with h | h
      · exact h
      · rw [List.drop_eq_nil_of_le (by omega)] at e; cases e
    have hc : c = s[j] := by
      rw [List.drop_eq_getElem_cons (by omega)] at e
      injection e with e1 _
      exact e1.symm
    rw [hc]
    exact h4 hj
  have hin : ∀ i, begins s k ≤ i → i < j → ∀ hi : i < s.data.toList.length, isLD s.data.toList[i] = true := fun i a b hi => h3 i (by omega) a b
  have hx : (s.extract k j).data.toList = (s.data.toList.drop k).take (j - k) := extract_toList s k j
  by_cases hb : (sees s k [45] || sees s k [95]) = true
  · have hbk : begins s k = k + 1 := by unfold begins; rw [if_pos hb]
    rw [hbk] at h1 hin
    obtain ⟨c, t, e, hc⟩ : ∃ c t, s.data.toList.drop k = c :: t ∧ (c = 45 ∨ c = 95) := by
      rcases Bool.or_eq_true .. |>.mp hb with h | h
      · obtain ⟨x, e⟩ := List.isPrefixOf_iff_prefix.1 h; exact ⟨45, x, e.symm, .inl rfl⟩
      · obtain ⟨x, e⟩ := List.isPrefixOf_iff_prefix.1 h; exact ⟨95, x, e.symm, .inr rfl⟩
    have ht : t = s.data.toList.drop (k + 1) := by rw [← List.drop_drop, e]; rfl
    rw [e]
    rw [leadS_cons, if_pos hc, hx, e, show j - k = (j - (k + 1)) + 1 by omega, List.take_succ_cons]
    congr 1
    have hd2 : t = t.take (j - (k + 1)) ++ s.data.toList.drop j := by
      have : s.data.toList.drop j = t.drop (j - (k + 1)) := by rw [ht, List.drop_drop]; congr 1; omega
      rw [this, List.take_append_drop]
    have := takeWhile_all isLD (t.take (j - (k + 1))) (s.data.toList.drop j) (fun c hc => by
      obtain ⟨i, hi, rfl⟩ := List.mem_iff_getElem.1 hc
      rw [List.getElem_take]
      simp only [ht, List.getElem_drop]
      simp only [List.length_take, ht, List.length_drop] at hi
      exact hin _ (by omega) (by omega) (by omega)) hstop
    rw [← hd2] at this
    exact this.symm
  · have hbk : begins s k = k := by unfold begins; rw [if_neg hb]
    rw [hbk] at h1 hin
    have hall := takeWhile_all isLD ((s.data.toList.drop k).take (j - k)) (s.data.toList.drop j) (fun c hc => by
      obtain ⟨i, hi, rfl⟩ := List.mem_iff_getElem.1 hc
      rw [List.getElem_take, List.getElem_drop]
      simp only [List.length_take, List.length_drop] at hi
      exact hin _ (by omega) (by omega) (by omega)) hstop
    rw [← hx, ← hdec] at hall
    rw [← hall]
    cases e : s.data.toList.drop k with
    | nil => rfl
    | cons c t =>
      rw [leadS_cons, if_neg]
      rintro (rfl | rfl)
      · refine hb (Bool.or_eq_true .. |>.mpr (.inl ?_))
        unfold sees
        rw [e]
        simp
      · refine hb (Bool.or_eq_true .. |>.mpr (.inr ?_))
        unfold sees
        rw [e]
        simp
end Go.Proofs.YtijbaienhaiamaaGreatDoor
end
