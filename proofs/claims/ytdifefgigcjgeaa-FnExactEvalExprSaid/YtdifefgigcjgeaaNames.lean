/- What is proved here: IsReserved, IsName, IsConName, of the program and of the model, say what a name is. Condition: the text's length is a length. -/
import Derived.Test.YtdifefgigcjgeaaSpecIndex
import Derived.Test.YtdifefgigcjgeaaSets
namespace Go.Proofs.Ytdifefgigcjgeaa
open Go.RowKit

def reserved : List ByteArray := [⟨#[116, 121, 112, 101]⟩, ⟨#[109, 97, 116, 99, 104]⟩, ⟨#[99, 97, 115, 101]⟩, ⟨#[105, 102]⟩, ⟨#[105, 110, 116]⟩, ⟨#[116, 101, 120, 116]⟩]

set_option maxHeartbeats 1000000 in
set_option maxRecDepth 100000 in
theorem impl_reserved (s : ByteArray) (hs : s.size ≤ maxLen) (w : World) :
    Calls Try.prog 90 #[.string s] w fun e w' => e = .returned (.bool (bl (s ∈ reserved))) ∧ Below w.heap.size w w' := by
  have hmm := @run_makeMap Try.prog
  have h0 := isSet_made w
  have hb0 : Below w.heap.size w (w.alloc (.map #[] 0)) := (Below.refl _ _).alloc (Nat.le_refl _) _
  obtain ⟨w1, e1, h1, g1⟩ := h0.put (by decide) ⟨#[116, 121, 112, 101]⟩ (by decide)
  obtain ⟨w2, e2, h2, g2⟩ := h1.put (by decide) ⟨#[109, 97, 116, 99, 104]⟩ (by decide)
  obtain ⟨w3, e3, h3, g3⟩ := h2.put (by decide) ⟨#[99, 97, 115, 101]⟩ (by decide)
  obtain ⟨w4, e4, h4, g4⟩ := h3.put (by decide) ⟨#[105, 102]⟩ (by decide)
  obtain ⟨w5, e5, h5, g5⟩ := h4.put (by decide) ⟨#[105, 110, 116]⟩ (by decide)
  obtain ⟨w6, e6, h6, g6⟩ := h5.put (by decide) ⟨#[116, 101, 120, 116]⟩ (by decide)
  have hg := ((((g1.trans g2).trans g3).trans g4).trans g5).trans g6
  have hB : Below w.heap.size w w6 := hb0.grown hg hb0.size (fun j hj => by injection hj with hj; omega)
  have hl : (Instr.lookup 127 (.map (some w.heap.size)) (.string s) false).run Try.prog w6 = .ok (.bool (bl (s ∈ reserved))) w6 := h6.look s hs
  generalize bl (s ∈ reserved) = q at hl ⊢
  have HB := Lib.hid hB
  have HS := Lib.hid hs
  clear g1 g2 g3 g4 g5 g6 hg h0 h1 h2 h3 h4 h5 h6 hb0 hB hs
  go_enter Try.func90, Try.ntmps90
  go_wp2
  go_ret
  exact ⟨rfl, HB.out⟩

set_option maxHeartbeats 1000000 in
set_option maxRecDepth 100000 in
theorem spec_reserved (s : ByteArray) (w : World) :
    Calls Try.prog 93 #[.string s] w fun e w' => e = .returned (.bool (bl (s ∈ reserved))) ∧ Below w.heap.size w w' := by
  have hM := heap_at_new w (.cells (reserved.map Value.string).toArray 9)
  have hR := reads_new hM
  have hB : Below w.heap.size w (w.alloc (.cells (reserved.map Value.string).toArray 9)) := (Below.refl _ _).alloc (Nat.le_refl _) _
  have HI : Hid (bl (s ∈ reserved) = decide (0 ≤ Lib.idxOfS reserved s)) := by
    unfold Hid
    by_cases h : s ∈ reserved
    · rw [bl_true h, decide_eq_true ((Lib.idxOfS_nonneg_iff _ _).2 h)]
    · rw [bl_false h, decide_eq_false (fun h2 => h ((Lib.idxOfS_nonneg_iff _ _).1 h2))]
  have H := spec_index _ _ 6 reserved s hR (by decide)
  clear hM hR
  go_enter Try.func93, Try.ntmps93
  go_wp2_with fail
  refine H.mono ?_
  rintro e w1 ⟨rfl, rfl⟩
  generalize Lib.idxOfS reserved s = z at *
  go_wp2
  go_ret
  exact ⟨by rw [HI.out]; rfl, hB⟩

def Name (s : ByteArray) : Prop := Word 97 122 s ∧ ¬ s ∈ reserved

set_option maxRecDepth 100000 in
theorem impl_con (s : ByteArray) (hs : s.size ≤ maxLen) (w : World) :
    Calls Try.prog 68 #[.string s] w fun e w' => e = .returned (.bool (bl (Word 65 90 s))) ∧ Below w.heap.size w w' := by
  go_enter Try.func68, Try.ntmps68
  go_wp2_with fail
  refine (impl_word s 65 90 hs _).mono ?_
  rintro e w1 ⟨rfl, hb⟩
  go_wp2
  go_ret
  exact ⟨rfl, hb⟩

set_option maxRecDepth 100000 in
theorem impl_name (s : ByteArray) (hs : s.size ≤ maxLen) (w : World) :
    Calls Try.prog 65 #[.string s] w fun e w' => e = .returned (.bool (bl (Name s))) ∧ Below w.heap.size w w' := by
  by_cases h : Word 97 122 s
  · have hb := bl_true h
    have HN : Hid (bl (Name s) = !bl (s ∈ reserved)) := by
      unfold Hid
      by_cases h2 : s ∈ reserved
      · rw [bl_true h2, bl_false (fun h3 => h3.2 h2)]; rfl
      · rw [bl_false h2, bl_true ⟨h, h2⟩]; rfl
    go_enter Try.func65, Try.ntmps65
    go_wp2_with fail
    refine (impl_word s 97 122 hs _).mono ?_
    rintro e w1 ⟨rfl, hb1⟩
    rw [hb]
    go_wp2_with fail
    refine (impl_reserved s hs _).mono ?_
    rintro e w2 ⟨rfl, hb2⟩
    have hb3 := hb1.trans (hb2.mono hb1.size)
    go_wp2
    go_ret
    exact ⟨by rw [HN.out]; rfl, hb3⟩
  · have hb := bl_false h
    have HN : Hid (bl (Name s) = false) := bl_false (fun h3 => h h3.1)
    go_enter Try.func65, Try.ntmps65
    go_wp2_with fail
    refine (impl_word s 97 122 hs _).mono ?_
    rintro e w1 ⟨rfl, hb1⟩
    rw [hb]
    go_wp2
    go_ret
    exact ⟨by rw [HN.out]; rfl, hb1⟩

theorem empty_of (s : ByteArray) (h : s.size = 0) : s = ⟨#[]⟩ := by
  cases s with | mk d => cases d with | mk l => cases l with | nil => rfl | cons c r => simp [ByteArray.size] at h
theorem ne_empty (s : ByteArray) (h : 0 < s.size) : (s.toList == []) = false := by
  rw [ByteArray.toList_eq]
  have : s.data.toList.length = s.size := rfl
  cases hl : s.data.toList with
  | nil => rw [hl] at this; simp at this; omega
  | cons c r => rfl
theorem bl_empty (s : ByteArray) (h : 0 < s.size) : (s.toList == ByteArray.toList ⟨#[]⟩) = false := by
  rw [Lib.bytes_beq_false_iff]
  intro e
  rw [e] at h
  exact absurd h (by decide)

set_option maxHeartbeats 1000000 in
set_option maxRecDepth 100000 in
theorem spec_con (s : ByteArray) (hs : s.size ≤ maxLen) (w : World) :
    Calls Try.prog 87 #[.string s] w fun e w' => e = .returned (.bool (bl (Word 65 90 s))) ∧ Below w.heap.size w w' := by
  by_cases h0 : s.size = 0
  · have HN : Hid (bl (Word 65 90 s) = false) := bl_false (fun h => by have := h.1; omega)
    obtain rfl := empty_of s h0
    go_enter Try.func87, Try.ntmps87
    go_wp2
    go_ret
    exact ⟨by rw [HN.out]; rfl, Below.refl _ _⟩
  · have hp : 0 < s.size := by omega
    have hne := ne_empty s hp
    have hne2 := bl_empty s hp
    by_cases h1 : 65 ≤ s[0].toNat
    · by_cases h2 : s[0].toNat ≤ 90
      · have HN : Hid (bl (Word 65 90 s) = bl (Rest s)) := bl_congr ⟨fun h => ⟨h.1, h.2.1, h.2.2.2⟩, fun h => ⟨h.1, h.2.1, fun _ => ⟨h1, h2⟩, h.2.2⟩⟩
        go_enter Try.func87, Try.ntmps87
        go_wp2_with fail
        refine (spec_rest s hs _).mono ?_
        rintro e w1 ⟨rfl, hb⟩
        go_wp2
        go_ret
        exact ⟨by rw [HN.out]; rfl, hb⟩
      · have HN : Hid (bl (Word 65 90 s) = false) := bl_false (fun h => h2 (h.2.2.1 hp).2)
        go_enter Try.func87, Try.ntmps87
        go_wp2
        go_ret
        exact ⟨by rw [HN.out]; rfl, Below.refl _ _⟩
    · have HN : Hid (bl (Word 65 90 s) = false) := bl_false (fun h => h1 (h.2.2.1 hp).1)
      go_enter Try.func87, Try.ntmps87
      go_wp2
      go_ret
      exact ⟨by rw [HN.out]; rfl, Below.refl _ _⟩

set_option maxHeartbeats 1000000 in
set_option maxRecDepth 100000 in
theorem spec_name (s : ByteArray) (hs : s.size ≤ maxLen) (w : World) :
    Calls Try.prog 70 #[.string s] w fun e w' => e = .returned (.bool (bl (Name s))) ∧ Below w.heap.size w w' := by
  by_cases h0 : s.size = 0
  · have HN : Hid (bl (Name s) = false) := bl_false (fun h => by have := h.1.1; omega)
    obtain rfl := empty_of s h0
    go_enter Try.func70, Try.ntmps70
    go_wp2
    go_ret
    exact ⟨by rw [HN.out]; rfl, Below.refl _ _⟩
  · have hp : 0 < s.size := by omega
    have hne := ne_empty s hp
    have hne2 := bl_empty s hp
    by_cases h1 : 97 ≤ s[0].toNat ∧ s[0].toNat ≤ 122
    · have hb1 := bl_true h1
      by_cases h2 : Rest s
      · have hb2 := bl_true h2
        have HN : Hid (bl (Name s) = !bl (s ∈ reserved)) := by
          unfold Hid
          have hW : Word 97 122 s := ⟨h2.1, h2.2.1, fun _ => h1, h2.2.2⟩
          by_cases h3 : s ∈ reserved
          · rw [bl_true h3, bl_false (fun h => h.2 h3)]; rfl
          · rw [bl_false h3, bl_true ⟨hW, h3⟩]; rfl
        go_enter Try.func70, Try.ntmps70
        go_wp2_with fail
        refine (spec_lower s[0] _).mono ?_
        rintro e w1 ⟨rfl, rfl⟩
        rw [hb1]
        go_wp2_with fail
        refine (spec_rest s hs _).mono ?_
        rintro e w2 ⟨rfl, hB1⟩
        rw [hb2]
        go_wp2_with fail
        refine (spec_reserved s _).mono ?_
        rintro e w3 ⟨rfl, hB2⟩
        have hB3 := hB1.trans (hB2.mono hB1.size)
        go_wp2
        go_ret
        exact ⟨by rw [HN.out]; rfl, hB3⟩
      · have hb2 := bl_false h2
        have HN : Hid (bl (Name s) = false) := bl_false (fun h => h2 ⟨h.1.1, h.1.2.1, h.1.2.2.2⟩)
        go_enter Try.func70, Try.ntmps70
        go_wp2_with fail
        refine (spec_lower s[0] _).mono ?_
        rintro e w1 ⟨rfl, rfl⟩
        rw [hb1]
        go_wp2_with fail
        refine (spec_rest s hs _).mono ?_
        rintro e w2 ⟨rfl, hB1⟩
        rw [hb2]
        go_wp2
        go_ret
        exact ⟨by rw [HN.out]; rfl, hB1⟩
    · have hb1 := bl_false h1
      have HN : Hid (bl (Name s) = false) := bl_false (fun h => h1 (h.1.2.2.1 hp))
      go_enter Try.func70, Try.ntmps70
      go_wp2_with fail
      refine (spec_lower s[0] _).mono ?_
      rintro e w1 ⟨rfl, rfl⟩
      rw [hb1]
      go_wp2
      go_ret
      exact ⟨by rw [HN.out]; rfl, Below.refl _ _⟩
end Go.Proofs.Ytdifefgigcjgeaa
