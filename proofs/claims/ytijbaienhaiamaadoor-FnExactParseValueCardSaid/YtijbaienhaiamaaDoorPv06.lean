/- What is proved here: a piece of the proof of YtijbaienhaiamaaDoorExactParseValue (SReader, SWord, STake, VaSRead). Condition: none beyond what each part says. -/
import Derived.Test.YtijbaienhaiamaaDoorPv03
import Derived.Test.YtijbaienhaiamaaDoorPv01
import Derived.Deep.LoopGhost
import Derived.Test.YtijbaienhaiamaaDoorPv05

/- What is proved here: the specification's reader of a text: l4Sees, l4Take. Conditions: the reader lies in a block of its own; the text has at most 2^20 bytes. -/
section
namespace Go.Proofs.YtijbaienhaiamaaDoor
open Go.RowKit

abbrev TS : TypeId := 32
/-- The specification's reader: the text, where it stands, whether it failed. -/
def SAt (w : World) (b : Nat) (s : ByteArray) (p : Nat) (bad : Bool) : Prop := w.heap[b]? = some (.cells #[.string s, .int .i64 (p : Int), .bool bad] TS (0, 0))
theorem SAt.lt {w : World} {b : Nat} {s : ByteArray} {p : Nat} {bad : Bool} (h : SAt w b s p bad) : b < w.heap.size := (Array.getElem?_eq_some_iff.1 h).1
theorem SAt.below {w w' : World} {b : Nat} {s : ByteArray} {p : Nat} {bad : Bool} (h : SAt w b s p bad) (hb : Below w.heap.size w w') : SAt w' b s p bad := (hb.block b h.lt).trans h
theorem SAt.cells {w : World} {b : Nat} {s : ByteArray} {p : Nat} {bad : Bool} (h : SAt w b s p bad) : w.cell? ⟨b, 0, none⟩ = some (.string s) ∧ w.cell? ⟨b, 1, none⟩ = some (.int .i64 (p : Int)) ∧ w.cell? ⟨b, 2, none⟩ = some (.bool bad) ∧ w.frozen? ⟨b, 1, none⟩ = false ∧ w.frozen? ⟨b, 2, none⟩ = false := by
  unfold SAt at h
  refine ⟨?_, ?_, ?_, ?_, ?_⟩ <;> simp [World.cell?, World.frozen?, h]
theorem SAt.go {w : World} {b : Nat} {s : ByteArray} {p : Nat} {bad : Bool} (h : SAt w b s p bad) (q : Nat) : SAt (w.setCell ⟨b, 1, none⟩ (.int .i64 (q : Int))) b s q bad := by
  unfold SAt at h ⊢
  simp [World.setCell, Array.getElem?_modify, h]
theorem SAt.fail {w : World} {b : Nat} {s : ByteArray} {p : Nat} {bad : Bool} (h : SAt w b s p bad) (q : Bool) : SAt (w.setCell ⟨b, 2, none⟩ (.bool q)) b s p q := by
  unfold SAt at h ⊢
  simp [World.setCell, Array.getElem?_modify, h]
/-- p is next. -/
def sees (s : ByteArray) (at_ : Nat) (p : List UInt8) : Bool := p.isPrefixOf (s.data.toList.drop at_)

theorem prefix_take (p l : List UInt8) : p.isPrefixOf l = (l.take p.length == p) := by
  rw [Bool.eq_iff_iff, List.isPrefixOf_iff_prefix, beq_iff_eq]
  exact ⟨fun h => (List.prefix_iff_eq_take.1 h).symm, fun h => List.prefix_iff_eq_take.2 h.symm⟩
theorem extract_toList (s : ByteArray) (a b : Nat) : (s.extract a b).data.toList = (s.data.toList.drop a).take (b - a) := by
  rw [ByteArray.data_extract, Array.toList_extract]
set_option maxHeartbeats 1000000 in
set_option maxRecDepth 100000 in
theorem spec_sees (w : World) (b : Nat) (s : ByteArray) (k : Nat) (bad : Bool) (p : List UInt8) (h : SAt w b s k bad) (hs : s.size ≤ 1048576) (hk : k ≤ s.size) (hp : p.length ≤ 16) :
    Calls Tryd.prog 34 #[.pointer (some ⟨b, 0, none⟩), .string (str p)] w fun e w' => e = .returned (.bool (sees s k p)) ∧ Below w.heap.size w w' := by
  obtain ⟨c0, c1, c2, _, _⟩ := h.cells
  have hz := str_size p
  generalize hn : p.length = n at *
  by_cases hle : k + n ≤ s.size
  · have e1 : decide ((k : Int) + (n : Int) ≤ (s.size : Int)) = true := by simp; omega
    have HR : Hid (sees s k p = ((s.extract k (k + n)).toList == (str p).toList)) := by
      unfold Hid sees
      rw [prefix_take, ByteArray.toList_eq, ByteArray.toList_eq, extract_toList, hn, Nat.add_sub_cancel_left]
      rfl
    generalize str p = up at *
    clear h
    go_enter Tryd.func34, Tryd.ntmps34
    go_wp2
    go_quiet (fail)
    go_wp2
    go_ret
    exact ⟨by rw [HR.out]; rfl, below_drewN (Below.refl _ _) _⟩
  · have e1 : decide ((k : Int) + (n : Int) ≤ (s.size : Int)) = false := by simp; omega
    have HR : Hid (sees s k p = false) := by
      unfold Hid sees
      rw [Bool.eq_false_iff]
      intro he
      have h1 := (List.isPrefixOf_iff_prefix.1 he).length_le
      rw [List.length_drop, hn] at h1
      have h2 : s.data.toList.length = s.size := rfl
      omega
    generalize str p = up at *
    clear h
    go_enter Tryd.func34, Tryd.ntmps34
    go_wp2
    go_quiet (fail)
    go_wp2
    go_ret
    exact ⟨by rw [HR.out]; rfl, below_drewN (Below.refl _ _) _⟩

set_option maxHeartbeats 1000000 in
set_option maxRecDepth 100000 in
theorem spec_take (w : World) (b : Nat) (s : ByteArray) (k : Nat) (bad : Bool) (p : List UInt8) (h : SAt w b s k bad) (hs : s.size ≤ 1048576) (hk : k ≤ s.size) (hp : p.length ≤ 16) :
    Calls Tryd.prog 17 #[.pointer (some ⟨b, 0, none⟩), .string (str p)] w fun e w' => e = .returned (.bool (!bad && sees s k p)) ∧ SAt w' b s (if (!bad && sees s k p) = true then k + p.length else k) bad ∧ Only (Just b) w w' := by
  obtain ⟨c0, c1, c2, _, _⟩ := h.cells
  have HS := spec_sees w b s k bad p h hs hk hp
  have hz := str_size p
  cases hb : bad with
  | true =>
    rw [hb] at c2
    have H1 : Hid (SAt w b s k true) := by rw [hb] at h; exact h
    simp only [Bool.not_true, Bool.false_and, Bool.false_eq_true, if_false]
    generalize str p = up at *
    clear h HS hb
    go_enter Tryd.func17, Tryd.ntmps17
    go_wp2
    go_ret
    exact ⟨rfl, H1.out, Only.refl _ _⟩
  | false =>
    rw [hb] at c2
    have H1 : Hid (SAt w b s k false) := by rw [hb] at h; exact h
    simp only [Bool.not_false, Bool.true_and]
    cases hse : sees s k p with
    | false =>
      rw [hse] at HS
      simp only [Bool.false_eq_true, if_false]
      generalize str p = up at *
      clear h hb hse
      go_enter Tryd.func17, Tryd.ntmps17
      go_wp2_with fail
      refine HS.mono ?_
      rintro e w1 ⟨rfl, hb1⟩
      have H2 : Hid (SAt w1 b s k false ∧ Below w.heap.size w w1) := ⟨H1.out.below hb1, hb1⟩
      clear hb1 HS
      go_wp2
      go_ret
      exact ⟨rfl, H2.out.1, just_below H2.out.2⟩
    | true =>
      rw [hse] at HS
      simp only [if_true]
      generalize hn : p.length = n at *
      generalize str p = up at *
      clear h hb hse
      go_enter Tryd.func17, Tryd.ntmps17
      go_wp2_with fail
      refine HS.mono ?_
      rintro e w1 ⟨rfl, hb1⟩
      have h1 := H1.out.below hb1
      have H2 : Hid (SAt w1 b s k false ∧ Below w.heap.size w w1 ∧ SAt (w1.setCell ⟨b, 1, none⟩ (.int .i64 ((k : Int) + (n : Int)))) b s (k + n) false) := ⟨h1, hb1, by have := h1.go (k + n); rwa [Int.natCast_add] at this⟩
      obtain ⟨d0, d1, d2, f1, _⟩ := h1.cells
      clear hb1 h1 HS c0 c1 c2
      go_wp2
      go_ret
      exact ⟨rfl, H2.out.2.2, (just_below H2.out.2.1).trans (Only.setCell (F := Just b) (p := ⟨b, 1, none⟩) rfl _)⟩
end Go.Proofs.YtijbaienhaiamaaDoor
end

/- What is proved here: the specification's l4Word. Conditions: as for the reader. -/
section
namespace Go.Proofs.YtijbaienhaiamaaDoor
open Go.RowKit

/-- A letter or a digit. -/
noncomputable def isLD (c : UInt8) : Bool := bl (97 ≤ c.toNat ∧ c.toNat ≤ 122) || bl (48 ≤ c.toNat ∧ c.toNat ≤ 57) || (decide (65 ≤ c.toNat) && decide (c.toNat ≤ 90))

/-- Where the word's letters begin. -/
def begins (s : ByteArray) (k : Nat) : Nat := if (sees s k [45] || sees s k [95]) = true then k + 1 else k
/-- What l4Word ends as. -/
def WordEnd (b : Nat) (s : ByteArray) (k : Nat) (e : Ending) (w' : World) : Prop :=
  ∃ j, begins s k ≤ j ∧ j ≤ s.size ∧ (∀ i (hi : i < s.size), begins s k ≤ i → i < j → isLD s[i] = true) ∧ (∀ hj : j < s.size, isLD s[j] = false) ∧ e = .returned (.string (s.extract k j)) ∧ SAt w' b s j false
theorem sees_len {s : ByteArray} {k : Nat} {c : UInt8} (h : sees s k [c] = true) : k + 1 ≤ s.size := by
  have h1 := (List.isPrefixOf_iff_prefix.1 h).length_le
  rw [List.length_drop] at h1
  have h2 : s.data.toList.length = s.size := rfl
  simp only [List.length_singleton] at h1
  omega
theorem stay_more {s : ByteArray} {k0 j : Nat} {hlt : j < s.size} (hall : ∀ i (hi : i < s.size), k0 ≤ i → i < j → isLD s[i] = true) (h : isLD s[j] = true) : ∀ i (hi : i < s.size), k0 ≤ i → i < j + 1 → isLD s[i] = true := fun i hi h1 h2 => by
  by_cases he : i = j
  · subst he; exact h
  · exact hall i hi h1 (by omega)
set_option maxHeartbeats 4000000 in
set_option maxRecDepth 100000 in
theorem spec_word_loop (w : World) (b : Nat) (s : ByteArray) (k : Nat) (h : SAt w b s k false) (hs : s.size ≤ 1048576) (hk : k ≤ s.size) :
    Calls Tryd.prog 19 #[.pointer (some ⟨b, 0, none⟩)] w fun e w' => WordEnd b s k e w' ∧ Only (Just b) w w' := by
  have H := Lib.hid h
  obtain ⟨c0, c1, c2, _, _⟩ := h.cells
  have HS1 : Hid (∀ W, Below w.heap.size w W → Calls Tryd.prog 34 #[.pointer (some ⟨b, 0, none⟩), .string (str [45])] W fun e w' => e = .returned (.bool (sees s k [45])) ∧ Below W.heap.size W w') := fun W hW => spec_sees W b s k false [45] (h.below hW) hs hk (by simp)
  have HS2 : Hid (∀ W, Below w.heap.size w W → Calls Tryd.prog 34 #[.pointer (some ⟨b, 0, none⟩), .string (str [95])] W fun e w' => e = .returned (.bool (sees s k [95])) ∧ Below W.heap.size W w') := fun W hW => spec_sees W b s k false [95] (h.below hW) hs hk (by simp)
  clear h
  cases hq1 : sees s k [45] with
  | true =>
    rw [hq1] at HS1
    clear HS2
    go_enter Tryd.func19, Tryd.ntmps19
    go_wp2_with fail
    refine (HS1.out _ (Below.refl _ _)).mono ?_
    rintro e w1 ⟨rfl, hb1⟩
    have hS1 := H.out.below hb1
    obtain ⟨d0, d1, d2, f1, f2⟩ := hS1.cells
    clear c0 c1 c2
    obtain ⟨k0, hke⟩ : ∃ k0, k0 = begins s k := ⟨_, rfl⟩
    have hk1 : k0 = k + 1 := by rw [hke]; unfold begins; simp [hq1]
    have hkk0 : k ≤ k0 := by omega
    have hk0 : k0 ≤ s.size := by have := sees_len hq1; omega
    have HS0 : Hid (SAt (w1.setCell ⟨b, 1, none⟩ (.int .i64 ((k : Int) + 1))) b s k0 false ∧ Only (Just b) w (w1.setCell ⟨b, 1, none⟩ (.int .i64 ((k : Int) + 1)))) := by
      have h1 := hS1.go (k + 1)
      rw [Int.natCast_add] at h1
      rw [hk1]
      exact ⟨h1, (just_below hb1).trans (Only.setCell (F := Just b) (p := ⟨b, 1, none⟩) rfl _)⟩
    clear hS1 hb1 hk1
    go_wp2
    go_loopg [] 1048577 (fun gg wr => ∃ j, j ≤ s.size ∧ k0 ≤ j ∧ s.size - j ≤ gg ∧ gg ≤ 1048577 ∧ Hid (SAt wr b s j false) ∧ Hid (∀ i (hi : i < s.size), k0 ≤ i → i < j → isLD s[i] = true) ∧ Hid (Only (Just b) w wr))
    case atStart => exact ⟨k0, hk0, Nat.le_refl _, by omega, Nat.le_refl _, HS0.out.1, fun i hi h1 h2 => by omega, HS0.out.2⟩
    case round =>
      obtain ⟨j, hj, hkj, hjg, hgk, hS, hall, hO⟩ := hrel
      obtain ⟨c0, c1, c2, f1, f2⟩ := hS.out.cells
      by_cases hlt : j < s.size
      · have e1 : decide ((j : Int) < (s.size : Int)) = true := by simp; omega
        have HG : Hid (∀ n, SAt ((wr.drewN n).setCell ⟨b, 1, none⟩ (.int .i64 ((j : Int) + 1))) b s (j + 1) false ∧ Only (Just b) w ((wr.drewN n).setCell ⟨b, 1, none⟩ (.int .i64 ((j : Int) + 1)))) := fun n => by
          have hb := below_drewN (Below.refl wr.heap.size wr) n
          have h1 := (hS.out.below hb).go (j + 1)
          rw [Int.natCast_add] at h1
          exact ⟨h1, (hO.out.trans (just_below hb)).trans (Only.setCell (F := Just b) (p := ⟨b, 1, none⟩) rfl _)⟩
        have hlo := fun W => (spec_lower s[j] W).mono (fun _ _ h => And.intro h.1 h.2.symm)
        have hdi := fun W => (spec_digit s[j] W).mono (fun _ _ h => And.intro h.1 h.2.symm)
        cases hvl : bl (97 ≤ s[j].toNat ∧ s[j].toNat ≤ 122) with
        | true =>
          rw [hvl] at hlo
          have HLD : Hid (∀ i (hi : i < s.size), k0 ≤ i → i < j + 1 → isLD s[i] = true) := stay_more (hlt := hlt) hall.out (by unfold isLD; simp [hvl])
          clear hS hO hall
          go_wp2
          go_quiet (first | (go_at_call 37; exact Calls.quiet_of_same (hlo _)) | (go_at_call 38; exact Calls.quiet_of_same (hdi _)) | fail "no arm")
          go_wp2
          go_roundg (gk - 1)
          case rel => exact ⟨j + 1, by omega, by omega, by omega, by omega, (HG.out _).1, HLD, (HG.out _).2⟩
          case measure => omega
        | false =>
          rw [hvl] at hlo
          cases hvd : bl (48 ≤ s[j].toNat ∧ s[j].toNat ≤ 57) with
          | true =>
            rw [hvd] at hdi
            have HLD : Hid (∀ i (hi : i < s.size), k0 ≤ i → i < j + 1 → isLD s[i] = true) := stay_more (hlt := hlt) hall.out (by unfold isLD; simp [hvd])
            clear hS hO hall
            go_wp2
            go_quiet (first | (go_at_call 37; exact Calls.quiet_of_same (hlo _)) | (go_at_call 38; exact Calls.quiet_of_same (hdi _)) | fail "no arm")
            go_wp2
            go_roundg (gk - 1)
            case rel => exact ⟨j + 1, by omega, by omega, by omega, by omega, (HG.out _).1, HLD, (HG.out _).2⟩
            case measure => omega
          | false =>
            rw [hvd] at hdi
            by_cases h65 : 65 ≤ s[j].toNat
            · by_cases h90 : s[j].toNat ≤ 90
              · have g1 : decide ((65 : Int) ≤ (s[j].toNat : Int)) = true := by simp; omega
                have g2 : decide ((s[j].toNat : Int) ≤ 90) = true := by simp; omega
                have HLD : Hid (∀ i (hi : i < s.size), k0 ≤ i → i < j + 1 → isLD s[i] = true) := stay_more (hlt := hlt) hall.out (by unfold isLD; simp [h65, h90])
                clear hS hO hall
                go_wp2
                go_quiet (first | (go_at_call 37; exact Calls.quiet_of_same (hlo _)) | (go_at_call 38; exact Calls.quiet_of_same (hdi _)) | fail "no arm")
                go_wp2
                go_roundg (gk - 1)
                case rel => exact ⟨j + 1, by omega, by omega, by omega, by omega, (HG.out _).1, HLD, (HG.out _).2⟩
                case measure => omega
              · have g1 : decide ((65 : Int) ≤ (s[j].toNat : Int)) = true := by simp; omega
                have g2 : decide ((s[j].toNat : Int) ≤ 90) = false := by simp; omega
                have HEX : Hid (∀ hj : j < s.size, isLD s[j] = false) := fun hj => by unfold isLD; simp [hvl, hvd, h90]
                have HE : Hid (∀ n n', SAt ((wr.drewN n).drewN n') b s j false ∧ Only (Just b) w ((wr.drewN n).drewN n')) := fun n n' => ⟨hS.out.below (below_drewN (below_drewN (Below.refl _ _) n) n'), hO.out.trans (just_below (below_drewN (below_drewN (Below.refl _ _) n) n'))⟩
                have hkk : k ≤ j := Nat.le_trans hkk0 hkj
                clear hS hO
                go_wp2
                go_quiet (first | (go_at_call 37; exact Calls.quiet_of_same (hlo _)) | (go_at_call 38; exact Calls.quiet_of_same (hdi _)) | fail "no arm")
                go_wp2
                go_quiet (fail)
                go_wp2
                go_ret
                rw [hke] at hkj hall
                exact ⟨⟨j, hkj, hj, hall.out, HEX.out, rfl, (HE.out _ _).1⟩, (HE.out _ _).2⟩
            · have g1 : decide ((65 : Int) ≤ (s[j].toNat : Int)) = false := by simp; omega
              have HEX : Hid (∀ hj : j < s.size, isLD s[j] = false) := fun hj => by unfold isLD; simp [hvl, hvd, h65]
              have HE : Hid (∀ n n', SAt ((wr.drewN n).drewN n') b s j false ∧ Only (Just b) w ((wr.drewN n).drewN n')) := fun n n' => ⟨hS.out.below (below_drewN (below_drewN (Below.refl _ _) n) n'), hO.out.trans (just_below (below_drewN (below_drewN (Below.refl _ _) n) n'))⟩
              have hkk : k ≤ j := Nat.le_trans hkk0 hkj
              clear hS hO
              go_wp2
              go_quiet (first | (go_at_call 37; exact Calls.quiet_of_same (hlo _)) | (go_at_call 38; exact Calls.quiet_of_same (hdi _)) | fail "no arm")
              go_wp2
              go_quiet (fail)
              go_wp2
              go_ret
              rw [hke] at hkj hall
              exact ⟨⟨j, hkj, hj, hall.out, HEX.out, rfl, (HE.out _ _).1⟩, (HE.out _ _).2⟩
      · have e1 : decide ((j : Int) < (s.size : Int)) = false := by simp; omega
        have HEX : Hid (∀ hj : j < s.size, isLD s[j] = false) := fun hj => absurd hj hlt
        have HE : Hid (∀ n n', SAt ((wr.drewN n).drewN n') b s j false ∧ Only (Just b) w ((wr.drewN n).drewN n')) := fun n n' => ⟨hS.out.below (below_drewN (below_drewN (Below.refl _ _) n) n'), hO.out.trans (just_below (below_drewN (below_drewN (Below.refl _ _) n) n'))⟩
        have hkk : k ≤ j := Nat.le_trans hkk0 hkj
        clear hS hO
        go_wp2
        go_quiet (fail)
        go_wp2
        go_quiet (fail)
        go_wp2
        go_ret
        rw [hke] at hkj hall
        exact ⟨⟨j, hkj, hj, hall.out, HEX.out, rfl, (HE.out _ _).1⟩, (HE.out _ _).2⟩
  | false =>
    rw [hq1] at HS1
    cases hq2 : sees s k [95] with
    | true =>
      rw [hq2] at HS2
      go_enter Tryd.func19, Tryd.ntmps19
      go_wp2_with fail
      refine (HS1.out _ (Below.refl _ _)).mono ?_
      rintro e w0 ⟨rfl, hb0⟩
      go_wp2_with fail
      refine (HS2.out _ hb0).mono ?_
      rintro e w1 ⟨rfl, hb1'⟩
      have hb1 := hb0.trans (hb1'.mono hb0.size)
      have hS1 := H.out.below hb1
      obtain ⟨d0, d1, d2, f1, f2⟩ := hS1.cells
      clear c0 c1 c2 hb0 hb1'
      obtain ⟨k0, hke⟩ : ∃ k0, k0 = begins s k := ⟨_, rfl⟩
      have hk1 : k0 = k + 1 := by rw [hke]; unfold begins; simp [hq2]
      have hkk0 : k ≤ k0 := by omega
      have hk0 : k0 ≤ s.size := by have := sees_len hq2; omega
      have HS0 : Hid (SAt (w1.setCell ⟨b, 1, none⟩ (.int .i64 ((k : Int) + 1))) b s k0 false ∧ Only (Just b) w (w1.setCell ⟨b, 1, none⟩ (.int .i64 ((k : Int) + 1)))) := by
        have h1 := hS1.go (k + 1)
        rw [Int.natCast_add] at h1
        rw [hk1]
        exact ⟨h1, (just_below hb1).trans (Only.setCell (F := Just b) (p := ⟨b, 1, none⟩) rfl _)⟩
      clear hS1 hb1 hk1
      go_wp2
      go_loopg [] 1048577 (fun gg wr => ∃ j, j ≤ s.size ∧ k0 ≤ j ∧ s.size - j ≤ gg ∧ gg ≤ 1048577 ∧ Hid (SAt wr b s j false) ∧ Hid (∀ i (hi : i < s.size), k0 ≤ i → i < j → isLD s[i] = true) ∧ Hid (Only (Just b) w wr))
      case atStart => exact ⟨k0, hk0, Nat.le_refl _, by omega, Nat.le_refl _, HS0.out.1, fun i hi h1 h2 => by omega, HS0.out.2⟩
      case round =>
        obtain ⟨j, hj, hkj, hjg, hgk, hS, hall, hO⟩ := hrel
        obtain ⟨c0, c1, c2, f1, f2⟩ := hS.out.cells
        by_cases hlt : j < s.size
        · have e1 : decide ((j : Int) < (s.size : Int)) = true := by simp; omega
          have HG : Hid (∀ n, SAt ((wr.drewN n).setCell ⟨b, 1, none⟩ (.int .i64 ((j : Int) + 1))) b s (j + 1) false ∧ Only (Just b) w ((wr.drewN n).setCell ⟨b, 1, none⟩ (.int .i64 ((j : Int) + 1)))) := fun n => by
            have hb := below_drewN (Below.refl wr.heap.size wr) n
            have h1 := (hS.out.below hb).go (j + 1)
            rw [Int.natCast_add] at h1
            exact ⟨h1, (hO.out.trans (just_below hb)).trans (Only.setCell (F := Just b) (p := ⟨b, 1, none⟩) rfl _)⟩
          have hlo := fun W => (spec_lower s[j] W).mono (fun _ _ h => And.intro h.1 h.2.symm)
          have hdi := fun W => (spec_digit s[j] W).mono (fun _ _ h => And.intro h.1 h.2.symm)
          cases hvl : bl (97 ≤ s[j].toNat ∧ s[j].toNat ≤ 122) with
          | true =>
            rw [hvl] at hlo
            have HLD : Hid (∀ i (hi : i < s.size), k0 ≤ i → i < j + 1 → isLD s[i] = true) := stay_more (hlt := hlt) hall.out (by unfold isLD; simp [hvl])
            clear hS hO hall
            go_wp2
            go_quiet (first | (go_at_call 37; exact Calls.quiet_of_same (hlo _)) | (go_at_call 38; exact Calls.quiet_of_same (hdi _)) | fail "no arm")
            go_wp2
            go_roundg (gk - 1)
            case rel => exact ⟨j + 1, by omega, by omega, by omega, by omega, (HG.out _).1, HLD, (HG.out _).2⟩
            case measure => omega
          | false =>
            rw [hvl] at hlo
            cases hvd : bl (48 ≤ s[j].toNat ∧ s[j].toNat ≤ 57) with
            | true =>
              rw [hvd] at hdi
              have HLD : Hid (∀ i (hi : i < s.size), k0 ≤ i → i < j + 1 → isLD s[i] = true) := stay_more (hlt := hlt) hall.out (by unfold isLD; simp [hvd])
              clear hS hO hall
              go_wp2
              go_quiet (first | (go_at_call 37; exact Calls.quiet_of_same (hlo _)) | (go_at_call 38; exact Calls.quiet_of_same (hdi _)) | fail "no arm")
              go_wp2
              go_roundg (gk - 1)
              case rel => exact ⟨j + 1, by omega, by omega, by omega, by omega, (HG.out _).1, HLD, (HG.out _).2⟩
              case measure => omega
            | false =>
              rw [hvd] at hdi
              by_cases h65 : 65 ≤ s[j].toNat
              · by_cases h90 : s[j].toNat ≤ 90
                · have g1 : decide ((65 : Int) ≤ (s[j].toNat : Int)) = true := by simp; omega
                  have g2 : decide ((s[j].toNat : Int) ≤ 90) = true := by simp; omega
                  have HLD : Hid (∀ i (hi : i < s.size), k0 ≤ i → i < j + 1 → isLD s[i] = true) := stay_more (hlt := hlt) hall.out (by unfold isLD; simp [h65, h90])
                  clear hS hO hall
                  go_wp2
                  go_quiet (first | (go_at_call 37; exact Calls.quiet_of_same (hlo _)) | (go_at_call 38; exact Calls.quiet_of_same (hdi _)) | fail "no arm")
                  go_wp2
                  go_roundg (gk - 1)
                  case rel => exact ⟨j + 1, by omega, by omega, by omega, by omega, (HG.out _).1, HLD, (HG.out _).2⟩
                  case measure => omega
                · have g1 : decide ((65 : Int) ≤ (s[j].toNat : Int)) = true := by simp; omega
                  have g2 : decide ((s[j].toNat : Int) ≤ 90) = false := by simp; omega
                  have HEX : Hid (∀ hj : j < s.size, isLD s[j] = false) := fun hj => by unfold isLD; simp [hvl, hvd, h90]
                  have HE : Hid (∀ n n', SAt ((wr.drewN n).drewN n') b s j false ∧ Only (Just b) w ((wr.drewN n).drewN n')) := fun n n' => ⟨hS.out.below (below_drewN (below_drewN (Below.refl _ _) n) n'), hO.out.trans (just_below (below_drewN (below_drewN (Below.refl _ _) n) n'))⟩
                  have hkk : k ≤ j := Nat.le_trans hkk0 hkj
                  clear hS hO
                  go_wp2
                  go_quiet (first | (go_at_call 37; exact Calls.quiet_of_same (hlo _)) | (go_at_call 38; exact Calls.quiet_of_same (hdi _)) | fail "no arm")
                  go_wp2
                  go_quiet (fail)
                  go_wp2
                  go_ret
                  rw [hke] at hkj hall
                  exact ⟨⟨j, hkj, hj, hall.out, HEX.out, rfl, (HE.out _ _).1⟩, (HE.out _ _).2⟩
              · have g1 : decide ((65 : Int) ≤ (s[j].toNat : Int)) = false := by simp; omega
                have HEX : Hid (∀ hj : j < s.size, isLD s[j] = false) := fun hj => by unfold isLD; simp [hvl, hvd, h65]
                have HE : Hid (∀ n n', SAt ((wr.drewN n).drewN n') b s j false ∧ Only (Just b) w ((wr.drewN n).drewN n')) := fun n n' => ⟨hS.out.below (below_drewN (below_drewN (Below.refl _ _) n) n'), hO.out.trans (just_below (below_drewN (below_drewN (Below.refl _ _) n) n'))⟩
                have hkk : k ≤ j := Nat.le_trans hkk0 hkj
                clear hS hO
                go_wp2
                go_quiet (first | (go_at_call 37; exact Calls.quiet_of_same (hlo _)) | (go_at_call 38; exact Calls.quiet_of_same (hdi _)) | fail "no arm")
                go_wp2
                go_quiet (fail)
                go_wp2
                go_ret
                rw [hke] at hkj hall
                exact ⟨⟨j, hkj, hj, hall.out, HEX.out, rfl, (HE.out _ _).1⟩, (HE.out _ _).2⟩
        · have e1 : decide ((j : Int) < (s.size : Int)) = false := by simp; omega
          have HEX : Hid (∀ hj : j < s.size, isLD s[j] = false) := fun hj => absurd hj hlt
          have HE : Hid (∀ n n', SAt ((wr.drewN n).drewN n') b s j false ∧ Only (Just b) w ((wr.drewN n).drewN n')) := fun n n' => ⟨hS.out.below (below_drewN (below_drewN (Below.refl _ _) n) n'), hO.out.trans (just_below (below_drewN (below_drewN (Below.refl _ _) n) n'))⟩
          have hkk : k ≤ j := Nat.le_trans hkk0 hkj
          clear hS hO
          go_wp2
          go_quiet (fail)
          go_wp2
          go_quiet (fail)
          go_wp2
          go_ret
          rw [hke] at hkj hall
          exact ⟨⟨j, hkj, hj, hall.out, HEX.out, rfl, (HE.out _ _).1⟩, (HE.out _ _).2⟩
    | false =>
      rw [hq2] at HS2
      go_enter Tryd.func19, Tryd.ntmps19
      go_wp2_with fail
      refine (HS1.out _ (Below.refl _ _)).mono ?_
      rintro e w0 ⟨rfl, hb0⟩
      go_wp2_with fail
      refine (HS2.out _ hb0).mono ?_
      rintro e w1 ⟨rfl, hb1'⟩
      have hb1 := hb0.trans (hb1'.mono hb0.size)
      have hS1 := H.out.below hb1
      clear c0 c1 c2 hb0 hb1'
      obtain ⟨k0, hke⟩ : ∃ k0, k0 = begins s k := ⟨_, rfl⟩
      have hk1 : k0 = k := by rw [hke]; unfold begins; simp [hq1, hq2]
      have hkk0 : k ≤ k0 := by omega
      have hk0 : k0 ≤ s.size := by omega
      have HS0 : Hid (SAt w1 b s k0 false ∧ Only (Just b) w w1) := by
        rw [hk1]
        exact ⟨hS1, just_below hb1⟩
      clear hS1 hb1 hk1
      go_wp2
      go_loopg [] 1048577 (fun gg wr => ∃ j, j ≤ s.size ∧ k0 ≤ j ∧ s.size - j ≤ gg ∧ gg ≤ 1048577 ∧ Hid (SAt wr b s j false) ∧ Hid (∀ i (hi : i < s.size), k0 ≤ i → i < j → isLD s[i] = true) ∧ Hid (Only (Just b) w wr))
      case atStart => exact ⟨k0, hk0, Nat.le_refl _, by omega, Nat.le_refl _, HS0.out.1, fun i hi h1 h2 => by omega, HS0.out.2⟩
      case round =>
        obtain ⟨j, hj, hkj, hjg, hgk, hS, hall, hO⟩ := hrel
        obtain ⟨c0, c1, c2, f1, f2⟩ := hS.out.cells
        by_cases hlt : j < s.size
        · have e1 : decide ((j : Int) < (s.size : Int)) = true := by simp; omega
          have HG : Hid (∀ n, SAt ((wr.drewN n).setCell ⟨b, 1, none⟩ (.int .i64 ((j : Int) + 1))) b s (j + 1) false ∧ Only (Just b) w ((wr.drewN n).setCell ⟨b, 1, none⟩ (.int .i64 ((j : Int) + 1)))) := fun n => by
            have hb := below_drewN (Below.refl wr.heap.size wr) n
            have h1 := (hS.out.below hb).go (j + 1)
            rw [Int.natCast_add] at h1
            exact ⟨h1, (hO.out.trans (just_below hb)).trans (Only.setCell (F := Just b) (p := ⟨b, 1, none⟩) rfl _)⟩
          have hlo := fun W => (spec_lower s[j] W).mono (fun _ _ h => And.intro h.1 h.2.symm)
          have hdi := fun W => (spec_digit s[j] W).mono (fun _ _ h => And.intro h.1 h.2.symm)
          cases hvl : bl (97 ≤ s[j].toNat ∧ s[j].toNat ≤ 122) with
          | true =>
            rw [hvl] at hlo
            have HLD : Hid (∀ i (hi : i < s.size), k0 ≤ i → i < j + 1 → isLD s[i] = true) := stay_more (hlt := hlt) hall.out (by unfold isLD; simp [hvl])
            clear hS hO hall
            go_wp2
            go_quiet (first | (go_at_call 37; exact Calls.quiet_of_same (hlo _)) | (go_at_call 38; exact Calls.quiet_of_same (hdi _)) | fail "no arm")
            go_wp2
            go_roundg (gk - 1)
            case rel => exact ⟨j + 1, by omega, by omega, by omega, by omega, (HG.out _).1, HLD, (HG.out _).2⟩
            case measure => omega
          | false =>
            rw [hvl] at hlo
            cases hvd : bl (48 ≤ s[j].toNat ∧ s[j].toNat ≤ 57) with
            | true =>
              rw [hvd] at hdi
              have HLD : Hid (∀ i (hi : i < s.size), k0 ≤ i → i < j + 1 → isLD s[i] = true) := stay_more (hlt := hlt) hall.out (by unfold isLD; simp [hvd])
              clear hS hO hall
              go_wp2
              go_quiet (first | (go_at_call 37; exact Calls.quiet_of_same (hlo _)) | (go_at_call 38; exact Calls.quiet_of_same (hdi _)) | fail "no arm")
              go_wp2
              go_roundg (gk - 1)
              case rel => exact ⟨j + 1, by omega, by omega, by omega, by omega, (HG.out _).1, HLD, (HG.out _).2⟩
              case measure => omega
            | false =>
              rw [hvd] at hdi
              by_cases h65 : 65 ≤ s[j].toNat
              · by_cases h90 : s[j].toNat ≤ 90
                · have g1 : decide ((65 : Int) ≤ (s[j].toNat : Int)) = true := by simp; omega
                  have g2 : decide ((s[j].toNat : Int) ≤ 90) = true := by simp; omega
                  have HLD : Hid (∀ i (hi : i < s.size), k0 ≤ i → i < j + 1 → isLD s[i] = true) := stay_more (hlt := hlt) hall.out (by unfold isLD; simp [h65, h90])
                  clear hS hO hall
                  go_wp2
                  go_quiet (first | (go_at_call 37; exact Calls.quiet_of_same (hlo _)) | (go_at_call 38; exact Calls.quiet_of_same (hdi _)) | fail "no arm")
                  go_wp2
                  go_roundg (gk - 1)
                  case rel => exact ⟨j + 1, by omega, by omega, by omega, by omega, (HG.out _).1, HLD, (HG.out _).2⟩
                  case measure => omega
                · have g1 : decide ((65 : Int) ≤ (s[j].toNat : Int)) = true := by simp; omega
                  have g2 : decide ((s[j].toNat : Int) ≤ 90) = false := by simp; omega
                  have HEX : Hid (∀ hj : j < s.size, isLD s[j] = false) := fun hj => by unfold isLD; simp [hvl, hvd, h90]
                  have HE : Hid (∀ n n', SAt ((wr.drewN n).drewN n') b s j false ∧ Only (Just b) w ((wr.drewN n).drewN n')) := fun n n' => ⟨hS.out.below (below_drewN (below_drewN (Below.refl _ _) n) n'), hO.out.trans (just_below (below_drewN (below_drewN (Below.refl _ _) n) n'))⟩
                  have hkk : k ≤ j := Nat.le_trans hkk0 hkj
                  clear hS hO
                  go_wp2
                  go_quiet (first | (go_at_call 37; exact Calls.quiet_of_same (hlo _)) | (go_at_call 38; exact Calls.quiet_of_same (hdi _)) | fail "no arm")
                  go_wp2
                  go_quiet (fail)
                  go_wp2
                  go_ret
                  rw [hke] at hkj hall
                  exact ⟨⟨j, hkj, hj, hall.out, HEX.out, rfl, (HE.out _ _).1⟩, (HE.out _ _).2⟩
              · have g1 : decide ((65 : Int) ≤ (s[j].toNat : Int)) = false := by simp; omega
                have HEX : Hid (∀ hj : j < s.size, isLD s[j] = false) := fun hj => by unfold isLD; simp [hvl, hvd, h65]
                have HE : Hid (∀ n n', SAt ((wr.drewN n).drewN n') b s j false ∧ Only (Just b) w ((wr.drewN n).drewN n')) := fun n n' => ⟨hS.out.below (below_drewN (below_drewN (Below.refl _ _) n) n'), hO.out.trans (just_below (below_drewN (below_drewN (Below.refl _ _) n) n'))⟩
                have hkk : k ≤ j := Nat.le_trans hkk0 hkj
                clear hS hO
                go_wp2
                go_quiet (first | (go_at_call 37; exact Calls.quiet_of_same (hlo _)) | (go_at_call 38; exact Calls.quiet_of_same (hdi _)) | fail "no arm")
                go_wp2
                go_quiet (fail)
                go_wp2
                go_ret
                rw [hke] at hkj hall
                exact ⟨⟨j, hkj, hj, hall.out, HEX.out, rfl, (HE.out _ _).1⟩, (HE.out _ _).2⟩
        · have e1 : decide ((j : Int) < (s.size : Int)) = false := by simp; omega
          have HEX : Hid (∀ hj : j < s.size, isLD s[j] = false) := fun hj => absurd hj hlt
          have HE : Hid (∀ n n', SAt ((wr.drewN n).drewN n') b s j false ∧ Only (Just b) w ((wr.drewN n).drewN n')) := fun n n' => ⟨hS.out.below (below_drewN (below_drewN (Below.refl _ _) n) n'), hO.out.trans (just_below (below_drewN (below_drewN (Below.refl _ _) n) n'))⟩
          have hkk : k ≤ j := Nat.le_trans hkk0 hkj
          clear hS hO
          go_wp2
          go_quiet (fail)
          go_wp2
          go_quiet (fail)
          go_wp2
          go_ret
          rw [hke] at hkj hall
          exact ⟨⟨j, hkj, hj, hall.out, HEX.out, rfl, (HE.out _ _).1⟩, (HE.out _ _).2⟩
end Go.Proofs.YtijbaienhaiamaaDoor
end

/- What is proved here: the specification's l4Take in its cases; what is seen at a place of a text. Conditions: as for the reader. -/
section
namespace Go.Proofs.YtijbaienhaiamaaDoor
open Go.RowKit

theorem sees_true {s : ByteArray} {k : Nat} {p : List UInt8} (h : sees s k p = true) (hk : k ≤ s.size) : s.data.toList.drop k = p ++ s.data.toList.drop (k + p.length) ∧ k + p.length ≤ s.size := by
  obtain ⟨x, e⟩ := List.isPrefixOf_iff_prefix.1 h
  have hl : s.data.toList.length = s.size := rfl
  have h1 := congrArg List.length e
  rw [List.length_append, List.length_drop, hl] at h1
  refine ⟨?_, by omega⟩
  have h2 : s.data.toList.drop (k + p.length) = (s.data.toList.drop k).drop p.length := by rw [List.drop_drop]
  rw [h2, ← e]
  simp
theorem sees_false {s : ByteArray} {k : Nat} {p : List UInt8} (h : sees s k p = false) : ∀ x, s.data.toList.drop k ≠ p ++ x := fun x e => by
  have : sees s k p = true := List.isPrefixOf_iff_prefix.2 ⟨x, e.symm⟩
  rw [h] at this
  cases this
theorem take_yes (w : World) (b : Nat) (s : ByteArray) (k : Nat) (p : List UInt8) (h : SAt w b s k false) (hs : s.size ≤ 1048576) (hk : k ≤ s.size) (hp : p.length ≤ 16) (hse : sees s k p = true) :
    Calls Tryd.prog 17 #[.pointer (some ⟨b, 0, none⟩), .string (str p)] w fun e w' => e = .returned (.bool true) ∧ SAt w' b s (k + p.length) false ∧ Only (Just b) w w' := by
  have H := spec_take w b s k false p h hs hk hp
  rw [hse] at H
  exact H
theorem take_no (w : World) (b : Nat) (s : ByteArray) (k : Nat) (p : List UInt8) (h : SAt w b s k false) (hs : s.size ≤ 1048576) (hk : k ≤ s.size) (hp : p.length ≤ 16) (hse : sees s k p = false) :
    Calls Tryd.prog 17 #[.pointer (some ⟨b, 0, none⟩), .string (str p)] w fun e w' => e = .returned (.bool false) ∧ SAt w' b s k false ∧ Only (Just b) w w' := by
  have H := spec_take w b s k false p h hs hk hp
  rw [hse] at H
  exact H
theorem take_bad (w : World) (b : Nat) (s : ByteArray) (k : Nat) (p : List UInt8) (h : SAt w b s k true) (hs : s.size ≤ 1048576) (hk : k ≤ s.size) (hp : p.length ≤ 16) :
    Calls Tryd.prog 17 #[.pointer (some ⟨b, 0, none⟩), .string (str p)] w fun e w' => e = .returned (.bool false) ∧ SAt w' b s k true ∧ Only (Just b) w w' := spec_take w b s k true p h hs hk hp
theorem SAt.at {w w' : World} {b : Nat} {s : ByteArray} {p : Nat} {bad : Bool} (h : SAt w b s p bad) (k : w'.heap[b]? = w.heap[b]?) : SAt w' b s p bad := k.trans h
theorem SAt.set4 {w : World} {b g : Nat} {s : ByteArray} {p : Nat} {bad : Bool} (h : SAt w b s p bad) (hg : b ≠ g) (k n : Int) (t : ByteArray) (v : Value) : SAt (Go.Proofs.YtijbaienhaiamaaDoor.set4 w g k n t v) b s p bad := (set4_other k n t v hg).trans h
end Go.Proofs.YtijbaienhaiamaaDoor
end

/- What is proved here: what the specification's reader of a value answers, and where; at once where it has failed before. Conditions: as for the reader. -/
section
namespace Go.Proofs.YtijbaienhaiamaaDoor.Va
open Go.RowKit

theorem head_ge {k n : Int} {t : ByteArray} {l : Nat} (h : valForm k n t l = true) : 1 ≤ (headText k n t).length ∧ (k ≠ 3 → l = 0) := by
  rcases (valForm_iff k n t l).1 h with ⟨rfl, hi, ht, hl⟩ | ⟨rfl, rfl, hv, hl⟩ | ⟨rfl, rfl, hw⟩
  · obtain ⟨c, r, e, _⟩ := itoa_head n
    exact ⟨by simp [headText, e], fun _ => hl⟩
  · exact ⟨by simp [headText], fun _ => hl⟩
  · obtain ⟨c, r, e, _⟩ := word_head hw
    exact ⟨by simp [headText, e], fun h => absurd rfl h⟩
theorem node_ge {k n : Int} {t : ByteArray} {ar : Trees} (h : valForm k n t ar.length = true) (ih : ar.count ≤ (ar.tail true).length) : 1 + ar.count ≤ (nodeText k n t ar).length := by
  obtain ⟨h1, h2⟩ := head_ge h
  unfold nodeText
  rw [List.length_append]
  by_cases hk : k = 3
  · rw [if_pos hk, List.length_append]; omega
  · have : ar = .nil := nil_of_len (h2 hk)
    subst this
    simp only [Trees.count]
    omega
theorem tail_ge : ∀ F : Trees, formedV F = true → ∀ b, F.count ≤ (F.tail b).length
  | .nil, _, _ => by simp [Trees.count]
  | .cons k n t ar r, h, b => by
    simp only [formedV, Bool.and_eq_true] at h
    have h1 := node_ge h.1 (tail_ge ar h.2.1 true)
    have h2 := tail_ge r h.2.2 false
    rw [tail_cons, List.length_append, List.length_append]
    simp only [Trees.count]
    omega
theorem good_ge {q : PatD} (h : good q) : 1 + q.F.count ≤ (text q).length := node_ge h.1 (tail_ge q.F h.2 true)

/-- What reading a value ends as, from the place k, at the depth d (the program's answer without a bound on the nodes). -/
def SpAns (w : World) (b : Nat) (s : ByteArray) (k m d : Nat) (e : Ending) (w' : World) : Prop :=
  (∃ p k' m' v bs, e = .returned (.agg #[.int .i64 (PatD.k p), .int .i64 p.n, .string p.t, v]) ∧ OwnV w' v p.F bs ∧ bs.Nodup ∧ (∀ c ∈ bs, w.heap.size ≤ c ∧ c < w'.heap.size) ∧ SAt w' b s k' false ∧ k' ≤ s.size ∧ OkP 2097152 13 (s.data.toList.drop k) m d p (s.data.toList.drop k') m') ∨
  (∃ kk nn t a l c k', e = .returned (.agg #[.int .i64 kk, .int .i64 nn, .string t, .slice a l c]) ∧ SAt w' b s k' true ∧ k' ≤ s.size ∧ NoneP 2097152 (s.data.toList.drop k) m d)
def SReadOk (b d : Nat) : Prop := ∀ (w : World) (s : ByteArray) (k m : Nat), SAt w b s k false → s.size ≤ 1048576 → k ≤ s.size → m ≤ k →
  Calls Tryd.prog 9 #[.pointer (some ⟨b, 0, none⟩), .int .i64 (d : Int)] w fun e w' => SpAns w b s k m d e w' ∧ Only (Just b) w w'
theorem only_set (w : World) (b o : Nat) (v : Value) : Only (Just b) w (w.setCell ⟨b, o, none⟩ v) := ⟨rfl, rfl, rfl, by simp [World.setCell], fun c _ hn => Below.heap_setCell _ _ _ _ (by show c ≠ b; exact hn)⟩
theorem pb_keep {b g : Nat} {W W' : World} {k n : Int} {t : ByteArray} {v : Value} (h : PBox W g k n t v) (hO : Only (Just b) W W') (hg : g ≠ b) : PBox W' g k n t v := (hO.block g (Array.getElem?_eq_some_iff.1 h).1 (by show ¬ g = b; exact hg)).trans h
theorem okp_le {s : ByteArray} {k k' m m' d : Nat} {p : PatD} (h : OkP 2097152 13 (s.data.toList.drop k) m d p (s.data.toList.drop k') m') (hm : m ≤ k) (hk : k ≤ s.size) (hk' : k' ≤ s.size) : m' ≤ k' := by
  have hl : s.data.toList.length = s.size := rfl
  have h1 := congrArg List.length h.text
  rw [List.length_append, List.length_drop, List.length_drop, hl] at h1
  have h2 := good_ge h.good
  have h3 := h.nodes
  omega
/-- The end of a walk: it failed. -/
theorem sp_none {w w' : World} {b g : Nat} {s : ByteArray} {k k' m d : Nat} {e : Ending} {kk nn : Int} {t : ByteArray} {a : Option Addr} {l c : Nat} (he : e = .returned (.agg #[.int .i64 kk, .int .i64 nn, .string t, .slice a l c])) (hR : SAt w' b s k' true) (hk : k' ≤ s.size) (hN : NoneP 2097152 (s.data.toList.drop k) m d) (hO : Only (Just b) w w') (hg : w.heap.size ≤ g) (hb : b ≠ g) :
    SpAns w b s k m d e (Go.Proofs.YtijbaienhaiamaaDoor.set4 w' g kk nn t (.slice a l c)) ∧ Only (Just b) w (Go.Proofs.YtijbaienhaiamaaDoor.set4 w' g kk nn t (.slice a l c)) :=
  ⟨.inr ⟨kk, nn, t, a, l, c, k', he, hR.set4 hb _ _ _ _, hk, hN⟩, set4_only hO hg _ _ _ _⟩
/-- The end of a walk: a value in the box g. -/
theorem sp_some {w w' : World} {b g : Nat} {s : ByteArray} {k k' m d m' : Nat} {e : Ending} {p : PatD} {v : Value} {bs : List Nat} (he : e = .returned (.agg #[.int .i64 p.k, .int .i64 p.n, .string p.t, v])) (ho : OwnV w' v p.F bs) (hnd : bs.Nodup) (hbs : ∀ c ∈ bs, w.heap.size ≤ c ∧ c < w'.heap.size) (hbg : ∀ c ∈ bs, c ≠ g) (hR : SAt w' b s k' false) (hk : k' ≤ s.size) (hP : OkP 2097152 13 (s.data.toList.drop k) m d p (s.data.toList.drop k') m') (hO : Only (Just b) w w') (hg : w.heap.size ≤ g) (hb : b ≠ g) :
    SpAns w b s k m d e (Go.Proofs.YtijbaienhaiamaaDoor.set4 w' g p.k p.n p.t v) ∧ Only (Just b) w (Go.Proofs.YtijbaienhaiamaaDoor.set4 w' g p.k p.n p.t v) :=
  ⟨.inl ⟨p, k', m', v, bs, he, ho.keep (fun c hc => set4_other _ _ _ _ (hbg c hc)), hnd, fun c hc => by rw [set4_size]; exact hbs c hc, hR.set4 hb _ _ _ _, hk, hP⟩, set4_only hO hg _ _ _ _⟩
theorem sp_leaf {w w' : World} {b g : Nat} {s : ByteArray} {k k' m d m' : Nat} {e : Ending} {kk n : Int} {t : ByteArray} (he : e = .returned (.agg #[.int .i64 kk, .int .i64 n, .string t, .slice none 0 0])) (hR : SAt w' b s k' false) (hk : k' ≤ s.size) (hP : OkP 2097152 13 (s.data.toList.drop k) m d (Go.Proofs.YtijbaienhaiamaaDoor.leaf kk n t) (s.data.toList.drop k') m') (hO : Only (Just b) w w') (hg : w.heap.size ≤ g) (hb : b ≠ g) :
    SpAns w b s k m d e (Go.Proofs.YtijbaienhaiamaaDoor.set4 w' g kk n t (.slice none 0 0)) ∧ Only (Just b) w (Go.Proofs.YtijbaienhaiamaaDoor.set4 w' g kk n t (.slice none 0 0)) :=
  sp_some (p := Go.Proofs.YtijbaienhaiamaaDoor.leaf kk n t) he (.inl ⟨Option.none, 0, rfl, rfl, rfl⟩) List.nodup_nil (by simp) (by simp) hR hk hP hO hg hb

end Go.Proofs.YtijbaienhaiamaaDoor.Va
end
