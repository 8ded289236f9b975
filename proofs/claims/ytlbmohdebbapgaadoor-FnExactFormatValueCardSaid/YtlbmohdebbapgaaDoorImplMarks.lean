/- What is proved here: the program's appendMarks writes what stands between a value and the next one. Condition: the stack and the bytes are the call's own. -/
import Derived.Test.YtlbmohdebbapgaaDoorFmtStack
import Derived.WalkSmall
import Derived.Deep.LoopGhost
namespace Go.Proofs.YtlbmohdebbapgaaDoor
open Go.RowKit

/-- What holds while marks are written: the stack is what is left of st, and what has been written with what is to come are the marks of st. -/
def MarkInv (B : Nat) (w0 w : World) (g cap : Nat) (l : List UInt8) (st st2 : List Trees) (ov rv : Value) (wr : World) : Prop :=
  ∃ (us : List Value) (acc : List UInt8), rv = .slice (some ⟨g, 0, none⟩) st2.length cap ∧ wr.ownsRow B 27 1 rv st2.length us.reverse ∧ StackT w0 st2 us ∧ Bytes B wr ov acc ∧ acc ++ (marks2 st2).1 = l ++ (marks2 st).1 ∧ (marks2 st2).2 = (marks2 st).2 ∧ OnlyBytes B w wr

set_option maxHeartbeats 2000000 in
set_option maxRecDepth 100000 in
theorem impl_marks (B : Nat) (w0 w : World) (v : Value) (l : List UInt8) (hown : Bytes B w v l) (hB : B ≤ w.heap.size) (g cap : Nat) (st : List Trees) (vs : List Value) (hrow : w.ownsRow B 27 1 (.slice (some ⟨g, 0, none⟩) st.length cap) st.length vs.reverse) (hst : StackT w0 st vs) (hl : (l ++ (marks2 st).1).length ≤ 1073741824) (hsl : st.length ≤ 4194304) :
    Calls Tryd.prog 18 #[v, .slice (some ⟨g, 0, none⟩) st.length cap] w fun e w' =>
      (∃ v' us, e = .returned (.tuple #[v', .slice (some ⟨g, 0, none⟩) (marks2 st).2.length cap]) ∧ Bytes B w' v' (l ++ (marks2 st).1) ∧ w'.ownsRow B 27 1 (.slice (some ⟨g, 0, none⟩) (marks2 st).2.length cap) (marks2 st).2.length us.reverse ∧ StackT w0 (marks2 st).2 us) ∧ OnlyBytes B w w' := by
  have hi : (Tryd.prog.info? 5).map (fun i => (i.zero, i.size, i.bytes)) = some (some (.int .u8 0), 1, 1) := by kernel_rfl
  obtain ⟨i0, hi, hz0, hz1, hz2⟩ := info_parts hi
  have HI : Hid (MarkInv B w0 w g cap l st st v (.slice (some ⟨g, 0, none⟩) st.length cap) w) := ⟨vs, l, rfl, hrow, hst, hown, rfl, rfl, OnlyBytes.refl _ _⟩
  have HL := Lib.hid hl
  clear hown hrow hst hl
  go_enter Tryd.func18, Tryd.ntmps18
  go_wp2
  go_loopg [0, 1] 4194304 (fun gg ov rv wr => ∃ st2 : List Trees, Aside (MarkInv B w0 w g cap l st st2 ov rv wr) ∧ Aside (st2.length ≤ gg) ∧ gg ≤ 4194304)
  case atStart => exact ⟨st, HI.out, hsl, Nat.le_refl _⟩
  case round =>
    obtain ⟨st2, hI, hlen, hgk⟩ := hrel
    obtain ⟨us, acc, rfl, hrow, hst, hby, hacc, hm2, hO⟩ := hI.out
    have hlen' := hlen.out
    cases st2 with
    | nil =>
      have HR : Hid (MarkInv B w0 w g cap l st [] u0 (.slice (some ⟨g, 0, none⟩) 0 cap) wr) := hI.out
      have he2 : (marks2 st).2 = [] := hm2.symm
      have he1 : l ++ (marks2 st).1 = acc := by rw [← hacc]; simp [marks2]
      have HE1 := Lib.hid he1
      have HE2 := Lib.hid he2
      have HBY := Lib.hid hby
      have HROW := Lib.hid hrow
      have HST := Lib.hid hst
      have HO := Lib.hid hO
      clear hI hlen hlen' hrow hst hby hacc hm2 hO HR he1 he2 HL HI
      go_wp2
      go_ret2
      rw [HE2.out, HE1.out]
      exact ⟨⟨_, us, rfl, HBY.out, HROW.out, HST.out⟩, HO.out⟩
    | cons F st3 =>
      obtain ⟨p, c, us3, rfl, hlc, hll, hff, hfs, hT, hus⟩ := hst
      have hul := hus.length
      have hc : wr.cell? ⟨g, st3.length, none⟩ = some (.slice p F.length c) := by
        rw [hrow.cellAt st3.length (by simp), List.reverse_cons, List.getElem?_append_right (by simp [hul]), List.length_reverse, hul, Nat.sub_self]
        rfl
      have hcap : st3.length + 1 ≤ cap := by
        rcases hrow.2 with ⟨h, _⟩ | ⟨g', cap', cur, h, _, _, h1, _⟩
        · cases h
        · cases h; exact h1
      have hbw : B ≤ wr.heap.size := Nat.le_trans hB hO.size
      have haccl : acc.length + (marks2 (F :: st3)).1.length ≤ 1073741824 := by
        have h := HL.out
        rw [← hacc, List.length_append] at h
        exact h
      simp only [List.length_cons] at hlen' hrow ⊢
      cases F with
      | cons k1 n1 t1 a1 r1 =>
        have he : (marks2 st) = ([44, 32], .cons k1 n1 t1 a1 r1 :: st3) ∨ True := .inr trivial
        have e1 : (marks2 (.cons k1 n1 t1 a1 r1 :: st3)).1 = [44, 32] := rfl
        have e2 : (marks2 (.cons k1 n1 t1 a1 r1 :: st3)).2 = .cons k1 n1 t1 a1 r1 :: st3 := rfl
        rw [e1] at hacc haccl
        rw [e2] at hm2
        have HE1 := Lib.hid hacc.symm
        have HE2 := Lib.hid hm2.symm
        have hrl : (Trees.cons k1 n1 t1 a1 r1).length = r1.length + 1 := rfl
        rw [hrl] at hc hll
        have hml : st3.length ≤ 4194304 := by omega
        have HST : Hid (StackT w0 (.cons k1 n1 t1 a1 r1 :: st3) (.slice p (r1.length + 1) c :: us3)) := ⟨p, c, us3, rfl, hlc, hll, hff, hfs, hT, hus⟩
        have HBY := Lib.hid hby
        have HROW : Hid (wr.ownsRow B 27 1 (.slice (some ⟨g, 0, none⟩) (st3.length + 1) cap) (st3.length + 1) (.slice p (r1.length + 1) c :: us3).reverse) := hrow
        have HO := Lib.hid hO
        have hss : (ByteArray.mk #[44, 32]).size = 2 := rfl
        have HSS := Lib.hid hss
        simp only [List.length_cons, List.length_nil] at haccl
        clear hI hlen hrow hby hacc hm2 hO HL HI hT hus hff hfs hlc e1 e2 hul hrl he hss
        generalize hm : st3.length = m at *
        have HM := Lib.hid hm
        clear hm
        generalize r1.length = rn at *
        go_wp2_with (at_builtin; refine Lib.wpList_append_own_string _ rfl _ _ 40 9 rfl B 5 i0 Tryd.underlying40 Tryd.underlying9 hi hz0 hz1 hz2 _ _ _ rfl HBY.out ⟨#[44, 32]⟩ rfl ?c3 ?c4 ?c5 ?_)
        case c3 => rw [HSS.out]; unfold maxLen; omega
        case c4 => rw [HSS.out]; omega
        case c5 => exact hbw
        intro v4 w4 hown4 hg4 _
        have HO4 : Hid (Bytes B w4 v4 (acc ++ [44, 32])) := Bytes.of (r := [44, 32]) (m := 2) hown4 rfl
        have HOB : Hid (OnlyBytes B w w4) := HO.out.trans (OnlyBytes.of_grown HBY.out hg4)
        have HR4 := Lib.hid ((OnlyBytes.of_grown HBY.out hg4).row HROW.out (by decide))
        clear hown4 hg4
        go_wp2
        go_ret2
        rw [HE2.out, HE1.out]
        refine ⟨⟨v4, _, ?_, HO4.out, ?_, HST.out⟩, HOB.out⟩
        · rw [show (Trees.cons k1 n1 t1 a1 r1 :: st3).length = m + 1 from by rw [List.length_cons, HM.out]]
          rfl
        · rw [show (Trees.cons k1 n1 t1 a1 r1 :: st3).length = m + 1 from by rw [List.length_cons, HM.out]]
          exact HR4.out
      | nil =>
        have hc' : wr.cell? ⟨g, st3.length, none⟩ = some (.slice p 0 c) := hc
        clear hc
        have hpop := ownsRow_pop (size := 1) (n := st3.length) (by rw [List.length_reverse, hul]; omega) (by rw [List.reverse_cons] at hrow; exact hrow)
        have hml : st3.length ≤ 4194304 := by omega
        have hlm : st3.length ≤ gk - 1 := by omega
        have hgm : 1 ≤ gk := by omega
        have HPOP := Lib.hid hpop
        have HUS := Lib.hid hus
        have HBY := Lib.hid hby
        have HO := Lib.hid hO
        have HACC := Lib.hid hacc
        have HM2 := Lib.hid hm2
        have HAL := Lib.hid haccl
        clear hI hlen hrow hby hacc hm2 hO HI hT hus hff hfs hlc hul hpop
        by_cases hz : st3 = []
        · subst hz
          have HI2 : Hid (MarkInv B w0 w g cap l st [] u0 (.slice (some ⟨g, 0, none⟩) 0 cap) wr) := ⟨us3, acc, rfl, HPOP.out, HUS.out, HBY.out, by rw [← HACC.out]; rfl, by rw [← HM2.out]; rfl, HO.out⟩
          clear HPOP HUS HBY HACC HM2 HAL HO
          simp only [List.length_nil] at hc' ⊢
          go_wp2
          go_roundg (gk - 1)
          case rel => exact ⟨[], HI2.out, (by show _ ≤ _; simp), by omega⟩
          case measure => omega
        · have h0 : 0 < st3.length := List.length_pos_iff.2 hz
          have hmk : (marks2 (Trees.nil :: st3)) = (41 :: (marks2 st3).1, (marks2 st3).2) := by
            show (if st3 = [] then _ else _) = _
            rw [if_neg hz]
          have hal := HAL.out
          rw [hmk] at hal
          simp only [List.length_cons] at hal
          have HACC2 : Hid ((acc ++ [41]) ++ (marks2 st3).1 = l ++ (marks2 st).1) := by unfold Hid; rw [← HACC.out, hmk]; simp
          have HM22 : Hid ((marks2 st3).2 = (marks2 st).2) := by unfold Hid; rw [← HM2.out, hmk]
          have hab : acc.length ≤ 1073741823 := by omega
          have hB5 : Below wr.heap.size wr (wr.alloc (.cells #[.int .u8 41] 5)) := (Below.refl _ _).alloc (Nat.le_refl _) _
          have HB5 := Lib.hid hB5
          have HO5 : Hid (Bytes B (wr.alloc (.cells #[.int .u8 41] 5)) u0 acc) := HBY.out.alloc _
          clear hz hmk hal HACC HM2 HAL hB5
          generalize hm : st3.length = m at *
          have HM := Lib.hid hm
          clear hm
          go_wp2_with (at_builtin; refine wpList_append_own _ rfl _ _ 40 rfl B 5 i0 (.int .u8 0) 1 1 Tryd.underlying40 hi hz0 hz1 hz2 rfl (by decide) _ _ _ rfl HO5.out ⟨wr.heap.size, 0, none⟩ 1 1 [.int .u8 41] rfl rfl ?d1 ?d2 ?d3 ?d4 ?d5 ?_)
          case d1 => exact cell_one_new wr (.int .u8 41) 5
          case d2 => intro u hu; simp at hu; subst hu; rfl
          case d3 => unfold maxLen; omega
          case d4 => omega
          case d5 => simp; omega
          intro v4 w4 hown4 hg4 _
          have HO4 : Hid (Bytes B w4 v4 (acc ++ [41])) := Bytes.of (r := [41]) (m := 1) hown4 rfl
          have HOB : Hid (OnlyBytes B wr w4) := (OnlyBytes.of_below HB5.out).trans (OnlyBytes.of_grown HO5.out hg4)
          have HI2 : Hid (MarkInv B w0 w g cap l st st3 v4 (.slice (some ⟨g, 0, none⟩) m cap) w4) := ⟨us3, acc ++ [41], by rw [HM.out], by rw [HM.out]; exact HOB.out.row HPOP.out (by decide), HUS.out, HO4.out, HACC2.out, HM22.out, HO.out.trans HOB.out⟩
          clear hown4 hg4 HPOP HUS HBY HACC2 HM22 HO HO5 HB5 HO4 HOB
          go_wp2
          go_roundg (gk - 1)
          case rel => exact ⟨st3, HI2.out, (by show _ ≤ _; rw [HM.out]; omega), by omega⟩
          case measure => omega
end Go.Proofs.YtlbmohdebbapgaaDoor
