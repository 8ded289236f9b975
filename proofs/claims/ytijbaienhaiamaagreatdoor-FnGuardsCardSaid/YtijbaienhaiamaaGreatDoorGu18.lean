/- What is proved here: a piece of the proof of YtijbaienhaiamaaGreatDoorGuards (ExReads, ExImplParse, ExParsed, ExImplText). Condition: none beyond what each part says. -/
import Derived.Test.YtijbaienhaiamaaGreatDoorGu14
import Derived.Test.YtijbaienhaiamaaGreatDoorGu17
import Derived.Test.YtijbaienhaiamaaGreatDoorGu16
import Derived.Test.YtijbaienhaiamaaGreatDoorGu10
import Derived.Test.YtijbaienhaiamaaGreatDoorGu08
import Derived.Test.YtijbaienhaiamaaGreatDoorGu02
import Derived.Test.YtijbaienhaiamaaGreatDoorGu13
import Derived.Deep.RegionHeld3

/- What is proved here: the program's read of an expression. Condition: read answers as said at the next depth. -/
section
namespace Go.Proofs.YtijbaienhaiamaaGreatDoor.Ex
open Go.RowKit

set_option maxHeartbeats 4000000 in
set_option maxRecDepth 100000 in
theorem impl_read (b d : Nat) (HR : d ≤ 6 → ReadOk b (d + 1)) : ReadOk b d := fun w s m h hm hl hk => by
  have hlt := h.lt
  obtain ⟨w1, hw1⟩ : ∃ w1, w1 = w.alloc zeroBox := ⟨_, rfl⟩
  have hb1 : PBox w1 w.heap.size 0 0 ⟨#[]⟩ (.slice none 0 0) := by rw [hw1]; exact heap_at_new w _
  have hB1 : Only (Just b) w w1 := by rw [hw1]; exact (Only.refl _ _).more _
  have hR1 : RdAt w1 b TR s m 12 6 := by rw [hw1]; exact h.below ((Below.refl _ _).alloc (Nat.le_refl _) _)
  have hs1 : w1.heap.size = w.heap.size + 1 := by rw [hw1]; exact Array.size_push _
  have HS := impl_begin w1 b TR s m 12 6 d hR1 (by omega)
  have HW1 := Lib.hid hw1
  have H1 : Hid (PBox w1 w.heap.size 0 0 ⟨#[]⟩ (.slice none 0 0) ∧ Only (Just b) w w1 ∧ w1.heap.size = w.heap.size + 1 ∧ b < w.heap.size ∧ KeepsE b w ∧ s.length ≤ 1048576) := ⟨hb1, hB1, hs1, hlt, hk, hl⟩
  have HRR := Lib.hid HR
  clear h hl hk HR hR1 hb1 hB1 hs1 hlt hw1
  by_cases hbeg : m + 1 ≤ 12 ∧ d ≤ 6
  rotate_left
  · have e0 : decide (m + 1 ≤ 12 ∧ d ≤ 6) = false := decide_eq_false hbeg
    rw [e0] at HS
    have HNO : Hid (NoneP 12 s m d) := none_begin hbeg
    clear hbeg e0 HRR
    go_enter Tryz.func84, Tryz.ntmps84
    go_wp2_with fail
    rw [← HW1.out]
    refine HS.mono ?_
    rintro e w2 ⟨rfl, hR2, hO2⟩
    have H2 : Hid (PBox w2 w.heap.size 0 0 ⟨#[]⟩ (.slice none 0 0) ∧ Only (Just b) w w2) := ⟨(hO2.block _ (Array.getElem?_eq_some_iff.1 H1.out.1).1 (by have := H1.out.2.2.2.1; show ¬ (w.heap.size = b); omega)).trans H1.out.1, H1.out.2.1.trans hO2⟩
    have HR2 := Lib.hid hR2
    obtain ⟨x0, x1, x2, x3, f0, f1, f2, f3⟩ := four_cells H2.out.1
    clear hR2 hO2 HS
    go_wp2
    refine bodyPost_ret (results_row_tmp rfl _ _ w.heap.size _ _ _ _ rfl (set4_box H2.out.1 _ _ _ _) Tryz.underlying54 rfl (by kernel_rfl)) rfl ?_
    have q2 := H1.out.2.2.2.1
    exact ans_none rfl HR2.out HNO.out H2.out.2 (Nat.le_refl _) (by omega)
  have e0 : decide (m + 1 ≤ 12 ∧ d ≤ 6) = true := decide_eq_true hbeg
  rw [e0] at HS
  obtain ⟨hm1, hd8⟩ := hbeg
  have hRO := HRR.out hd8
  clear e0 HRR hm
  go_enter Tryz.func84, Tryz.ntmps84
  go_wp2_with fail
  rw [← HW1.out]
  refine HS.mono ?_
  rintro e w2 ⟨rfl, hR2, hO2⟩
  have H2 : Hid (PBox w2 w.heap.size 0 0 ⟨#[]⟩ (.slice none 0 0) ∧ Only (Just b) w w2) := ⟨(hO2.block _ (Array.getElem?_eq_some_iff.1 H1.out.1).1 (by have := H1.out.2.2.2.1; show ¬ (w.heap.size = b); omega)).trans H1.out.1, H1.out.2.1.trans hO2⟩
  clear HS hO2 HW1
  have HS := impl_skip w2 b TR s [33] (m + 1) 12 6 hR2
  clear hR2
  rcases skip_cases s [33] with ⟨e1, e2, e3⟩ | ⟨e1, e2⟩
  rotate_left
  · -- a negation
    rw [e1] at HS
    generalize skipped s [33] = r at *
    have e4 : s = 33 :: r := e2
    subst e4
    clear e1 e2
    have HOr : Hid (∀ w2, Only (Just b) w w2 → RdAt w2 b TR r (m + 1) 12 6 → Calls Tryz.prog 145 #[.pointer (some ⟨b, 0, none⟩), .int .i64 (d : Int)] w2 fun e w' => Ans w2 b (33 :: r) m d e w' ∧ Only (Just b) w2 w') :=
      fun w2 hO hR2 => impl_readNot b d hRO w2 r m hm1 hd8 hR2 (by have := H1.out.2.2.2.2.2; simp only [List.length_cons] at this; omega) (H1.out.2.2.2.2.1.on hO)
    clear hRO
    have H2a := H2
    clear H2
    go_wp2_with fail
    refine HS.mono ?_
    clear HS
    rintro e w3b ⟨rfl, hR5, hO5⟩
    have H3 : Hid (PBox w3b w.heap.size 0 0 ⟨#[]⟩ (.slice none 0 0) ∧ Only (Just b) w w3b) := ⟨(hO5.block _ (Array.getElem?_eq_some_iff.1 H2a.out.1).1 (by have := H1.out.2.2.2.1; show ¬ (w.heap.size = b); omega)).trans H2a.out.1, H2a.out.2.trans hO5⟩
    have HT := Lib.hid (HOr.out w3b H3.out.2 hR5)
    clear hR5 hO5 HOr H2a
    go_wp2_with fail
    refine HT.out.mono ?_
    clear HT
    rintro e w4 ⟨hAns, hO4⟩
    have hb4 : PBox w4 w.heap.size 0 0 ⟨#[]⟩ (.slice none 0 0) := (hO4.block _ (Array.getElem?_eq_some_iff.1 H3.out.1).1 (by have := H1.out.2.2.2.1; show ¬ (w.heap.size = b); omega)).trans H3.out.1
    have hs3 : w.heap.size + 1 ≤ w3b.heap.size := (Array.getElem?_eq_some_iff.1 H3.out.1).1
    have H4 : Hid (PBox w4 w.heap.size 0 0 ⟨#[]⟩ (.slice none 0 0) ∧ Only (Just b) w w4 ∧ w.heap.size + 1 ≤ w3b.heap.size) := ⟨hb4, H3.out.2.trans hO4, hs3⟩
    obtain ⟨x0, x1, x2, x3, f0, f1, f2, f3⟩ := four_cells hb4
    clear hb4 hO4 hs3
    rcases hAns with ⟨p, s2, m2, v, bs, rfl, ho, hnd, hbs, hR2, hP⟩ | ⟨s2, m2, rfl, hR2, hP⟩
    · obtain ⟨p2, cap2, rfl, _, _⟩ := ho.reads
      have H5 : Hid (OwnV w4 (.slice p2 p.F.length cap2) p.F bs ∧ bs.Nodup ∧ (∀ c ∈ bs, w3b.heap.size ≤ c ∧ c < w4.heap.size) ∧ RdAt w4 b TR s2 m2 12 6 ∧ OkP 12 (33 :: r) m d p s2 m2) := ⟨ho, hnd, hbs, hR2, hP⟩
      clear ho hnd hbs hR2 hP
      go_wp2
      refine bodyPost_ret (results_row_tmp rfl _ _ w.heap.size _ _ _ _ rfl (set4_box H4.out.1 _ _ _ _) Tryz.underlying54 rfl (by kernel_rfl)) rfl ?_
      obtain ⟨k1, k2, k3, k4, k5⟩ := H5.out
      have q1 := H4.out.2.2
      have q2 := H1.out.2.2.2.1
      exact ans_some (p := p) rfl k1 k2 (fun c hc => by have := k3 c hc; omega) (fun c hc => by have := k3 c hc; omega) k4 k5 H4.out.2.1 (Nat.le_refl _) (by omega)
    · have H5 : Hid (RdAt w4 b TR s2 m2 12 6 ∧ NoneP 12 (33 :: r) m d) := ⟨hR2, hP⟩
      clear hR2 hP
      go_wp2
      refine bodyPost_ret (results_row_tmp rfl _ _ w.heap.size _ _ _ _ rfl (set4_box H4.out.1 _ _ _ _) Tryz.underlying54 rfl (by kernel_rfl)) rfl ?_
      have q2 := H1.out.2.2.2.1
      exact ans_none rfl H5.out.1 H5.out.2 H4.out.2.1 (Nat.le_refl _) (by omega)
  rw [e1, e3] at HS
  have HN33 : Hid (∀ x, s ≠ 33 :: x) := fun x => e2 x
  clear e1 e2 e3
  go_wp2_with fail
  refine HS.mono ?_
  clear HS
  rintro e w3 ⟨rfl, hR3, hO3⟩
  have H3 : Hid (PBox w3 w.heap.size 0 0 ⟨#[]⟩ (.slice none 0 0) ∧ Only (Just b) w w3) := ⟨(hO3.block _ (Array.getElem?_eq_some_iff.1 H2.out.1).1 (by have := H1.out.2.2.2.1; show ¬ (w.heap.size = b); omega)).trans H2.out.1, H2.out.2.trans hO3⟩
  clear hO3
  have HS := impl_skip w3 b TR s [40] (m + 1) 12 6 hR3
  clear hR3 H2
  rcases skip_cases s [40] with ⟨e1, e2, e3⟩ | ⟨e1, e2⟩
  rotate_left
  · -- an alternative
    rw [e1] at HS
    generalize skipped s [40] = r at *
    have e4 : s = 40 :: r := e2
    subst e4
    clear e1 e2
    have HOr : Hid (∀ w2, Only (Just b) w w2 → RdAt w2 b TR r (m + 1) 12 6 → Calls Tryz.prog 146 #[.pointer (some ⟨b, 0, none⟩), .int .i64 (d : Int)] w2 fun e w' => Ans w2 b (40 :: r) m d e w' ∧ Only (Just b) w2 w') :=
      fun w2 hO hR2 => impl_readOp b d hRO w2 r m hm1 hd8 hR2 (by have := H1.out.2.2.2.2.2; simp only [List.length_cons] at this; omega) (H1.out.2.2.2.2.1.on hO)
    clear hRO
    have H3a := H3
    clear H3
    go_wp2_with fail
    refine HS.mono ?_
    clear HS
    rintro e w3b ⟨rfl, hR5, hO5⟩
    have H3 : Hid (PBox w3b w.heap.size 0 0 ⟨#[]⟩ (.slice none 0 0) ∧ Only (Just b) w w3b) := ⟨(hO5.block _ (Array.getElem?_eq_some_iff.1 H3a.out.1).1 (by have := H1.out.2.2.2.1; show ¬ (w.heap.size = b); omega)).trans H3a.out.1, H3a.out.2.trans hO5⟩
    have HT := Lib.hid (HOr.out w3b H3.out.2 hR5)
    clear hR5 hO5 HOr H3a
    go_wp2_with fail
    refine HT.out.mono ?_
    clear HT
    rintro e w4 ⟨hAns, hO4⟩
    have hb4 : PBox w4 w.heap.size 0 0 ⟨#[]⟩ (.slice none 0 0) := (hO4.block _ (Array.getElem?_eq_some_iff.1 H3.out.1).1 (by have := H1.out.2.2.2.1; show ¬ (w.heap.size = b); omega)).trans H3.out.1
    have hs3 : w.heap.size + 1 ≤ w3b.heap.size := (Array.getElem?_eq_some_iff.1 H3.out.1).1
    have H4 : Hid (PBox w4 w.heap.size 0 0 ⟨#[]⟩ (.slice none 0 0) ∧ Only (Just b) w w4 ∧ w.heap.size + 1 ≤ w3b.heap.size) := ⟨hb4, H3.out.2.trans hO4, hs3⟩
    obtain ⟨x0, x1, x2, x3, f0, f1, f2, f3⟩ := four_cells hb4
    clear hb4 hO4 hs3
    rcases hAns with ⟨p, s2, m2, v, bs, rfl, ho, hnd, hbs, hR2, hP⟩ | ⟨s2, m2, rfl, hR2, hP⟩
    · obtain ⟨p2, cap2, rfl, _, _⟩ := ho.reads
      have H5 : Hid (OwnV w4 (.slice p2 p.F.length cap2) p.F bs ∧ bs.Nodup ∧ (∀ c ∈ bs, w3b.heap.size ≤ c ∧ c < w4.heap.size) ∧ RdAt w4 b TR s2 m2 12 6 ∧ OkP 12 (40 :: r) m d p s2 m2) := ⟨ho, hnd, hbs, hR2, hP⟩
      clear ho hnd hbs hR2 hP
      go_wp2
      refine bodyPost_ret (results_row_tmp rfl _ _ w.heap.size _ _ _ _ rfl (set4_box H4.out.1 _ _ _ _) Tryz.underlying54 rfl (by kernel_rfl)) rfl ?_
      obtain ⟨k1, k2, k3, k4, k5⟩ := H5.out
      have q1 := H4.out.2.2
      have q2 := H1.out.2.2.2.1
      exact ans_some (p := p) rfl k1 k2 (fun c hc => by have := k3 c hc; omega) (fun c hc => by have := k3 c hc; omega) k4 k5 H4.out.2.1 (Nat.le_refl _) (by omega)
    · have H5 : Hid (RdAt w4 b TR s2 m2 12 6 ∧ NoneP 12 (40 :: r) m d) := ⟨hR2, hP⟩
      clear hR2 hP
      go_wp2
      refine bodyPost_ret (results_row_tmp rfl _ _ w.heap.size _ _ _ _ rfl (set4_box H4.out.1 _ _ _ _) Tryz.underlying54 rfl (by kernel_rfl)) rfl ?_
      have q2 := H1.out.2.2.2.1
      exact ans_none rfl H5.out.1 H5.out.2 H4.out.2.1 (Nat.le_refl _) (by omega)
  rw [e1, e3] at HS
  have HN40 : Hid (∀ x, s ≠ 40 :: x) := fun x => e2 x
  clear e1 e2 e3
  go_wp2_with fail
  refine HS.mono ?_
  clear HS
  rintro e w4 ⟨rfl, hR4, hO4⟩
  have H4 : Hid (PBox w4 w.heap.size 0 0 ⟨#[]⟩ (.slice none 0 0) ∧ Only (Just b) w w4 ∧ RdAt w4 b TR s (m + 1) 12 6) := ⟨(hO4.block _ (Array.getElem?_eq_some_iff.1 H3.out.1).1 (by have := H1.out.2.2.2.1; show ¬ (w.heap.size = b); omega)).trans H3.out.1, H3.out.2.trans hO4, hR4⟩
  clear hO4 H3
  have HT := Lib.hid (impl_readWord b d w4 s m HN33.out HN40.out hm1 hd8 hR4 H1.out.2.2.2.2.2 (H1.out.2.2.2.2.1.on H4.out.2.1))
  clear hR4 hRO
  have H3 : Hid (PBox w4 w.heap.size 0 0 ⟨#[]⟩ (.slice none 0 0) ∧ Only (Just b) w w4) := ⟨H4.out.1, H4.out.2.1⟩
  clear H4
  generalize w4 = w3 at *
  go_wp2_with fail
  refine HT.out.mono ?_
  clear HT
  rintro e w4 ⟨hAns, hO4⟩
  have hb4 : PBox w4 w.heap.size 0 0 ⟨#[]⟩ (.slice none 0 0) := (hO4.block _ (Array.getElem?_eq_some_iff.1 H3.out.1).1 (by have := H1.out.2.2.2.1; show ¬ (w.heap.size = b); omega)).trans H3.out.1
  have hs3 : w.heap.size + 1 ≤ w3.heap.size := (Array.getElem?_eq_some_iff.1 H3.out.1).1
  have H4 : Hid (PBox w4 w.heap.size 0 0 ⟨#[]⟩ (.slice none 0 0) ∧ Only (Just b) w w4 ∧ w.heap.size + 1 ≤ w3.heap.size) := ⟨hb4, H3.out.2.trans hO4, hs3⟩
  obtain ⟨x0, x1, x2, x3, f0, f1, f2, f3⟩ := four_cells hb4
  clear hb4 hO4 hs3
  rcases hAns with ⟨p, s2, m2, v, bs, rfl, ho, hnd, hbs, hR2, hP⟩ | ⟨s2, m2, rfl, hR2, hP⟩
  · obtain ⟨p2, cap2, rfl, _, _⟩ := ho.reads
    have H5 : Hid (OwnV w4 (.slice p2 p.F.length cap2) p.F bs ∧ bs.Nodup ∧ (∀ c ∈ bs, w3.heap.size ≤ c ∧ c < w4.heap.size) ∧ RdAt w4 b TR s2 m2 12 6 ∧ OkP 12 s m d p s2 m2) := ⟨ho, hnd, hbs, hR2, hP⟩
    clear ho hnd hbs hR2 hP
    go_wp2
    refine bodyPost_ret (results_row_tmp rfl _ _ w.heap.size _ _ _ _ rfl (set4_box H4.out.1 _ _ _ _) Tryz.underlying54 rfl (by kernel_rfl)) rfl ?_
    obtain ⟨k1, k2, k3, k4, k5⟩ := H5.out
    have q1 := H4.out.2.2
    have q2 := H1.out.2.2.2.1
    exact ans_some (p := p) rfl k1 k2 (fun c hc => by have := k3 c hc; omega) (fun c hc => by have := k3 c hc; omega) k4 k5 H4.out.2.1 (Nat.le_refl _) (by omega)
  · have H5 : Hid (RdAt w4 b TR s2 m2 12 6 ∧ NoneP 12 s m d) := ⟨hR2, hP⟩
    clear hR2 hP
    go_wp2
    refine bodyPost_ret (results_row_tmp rfl _ _ w.heap.size _ _ _ _ rfl (set4_box H4.out.1 _ _ _ _) Tryz.underlying54 rfl (by kernel_rfl)) rfl ?_
    have q2 := H1.out.2.2.2.1
    exact ans_none rfl H5.out.1 H5.out.2 H4.out.2.1 (Nat.le_refl _) (by omega)

theorem read_ok (b : Nat) : ReadOk b 1 := by
  have h7 : ReadOk b 7 := impl_read b 7 (fun h => by omega)
  have h6 := impl_read b 6 (fun _ => h7)
  have h5 := impl_read b 5 (fun _ => h6)
  have h4 := impl_read b 4 (fun _ => h5)
  have h3 := impl_read b 3 (fun _ => h4)
  have h2 := impl_read b 2 (fun _ => h3)
  exact impl_read b 1 (fun _ => h2)
end Go.Proofs.YtijbaienhaiamaaGreatDoor.Ex
end

/- What is proved here: the program's ParseExpr answers by the valid pattern whose text it is given, or false. Conditions: the text has at most 2^20 bytes; the library's variables read as laid. -/
section
namespace Go.Proofs.YtijbaienhaiamaaGreatDoor.Ex
open Go.RowKit

/-- What ParseExpr ends as. -/
def ParsedE (w : World) (s : List UInt8) (e : Ending) (w' : World) : Prop :=
  (∃ p v bs, e = .returned (.tuple #[.agg #[.int .i64 (PatD.k p), .int .i64 p.n, .string p.t, v], .bool true]) ∧ OwnV w' v p.F bs ∧ bs.Nodup ∧ (∀ c ∈ bs, w.heap.size ≤ c ∧ c < w'.heap.size) ∧ good p ∧ text p = s ∧ Fits 12 0 1 p) ∨
  (e = .returned (.tuple #[.agg #[.int .i64 0, .int .i64 0, .string ⟨#[]⟩, .slice none 0 0], .bool false]) ∧ ∀ q : PatD, good q → Fits 12 0 1 q → text q ≠ s)

set_option maxHeartbeats 2000000 in
set_option maxRecDepth 100000 in
theorem impl_ParseExpr (t : ByteArray) (ht : t.size ≤ 1048576) (w : World) (hL : LibVars w) :
    Calls Tryz.prog 33 #[.string t] w fun e w' => ParsedE w t.data.toList e w' ∧ Below w.heap.size w w' := by
  obtain ⟨w1, hw1⟩ : ∃ w1, w1 = (w.alloc zeroBox).alloc (.cells #[.string t, .int .i64 0, .int .i64 12, .int .i64 6] TR) := ⟨_, rfl⟩
  obtain ⟨n1, n2, n3, n4⟩ := two_new w zeroBox (.cells #[.string t, .int .i64 0, .int .i64 12, .int .i64 6] TR)
  rw [← hw1] at n1 n2 n3 n4
  have hlen : t.data.toList.length = t.size := rfl
  have hR1 : RdAt w1 (w.heap.size + 1) TR t.data.toList 0 12 6 := by unfold RdAt; rw [str_data]; exact n2
  have hlow : ∀ w', Only (Just (w.heap.size + 1)) w1 w' → Below w.heap.size w w' := fun w' h => n4.trans (h.below (fun b hb => by have : b = w.heap.size + 1 := hb; omega) (by omega))
  have hk : KeepsE (w.heap.size + 1) w1 := fun w' h => hL.stays (hlow w' h)
  have HC : Calls Tryz.prog 84 #[.pointer (some ⟨w.heap.size + 1, 0, none⟩), .int .i64 1] w1 fun e w' => Ans w1 (w.heap.size + 1) t.data.toList 0 1 e w' ∧ Only (Just (w.heap.size + 1)) w1 w' := read_ok (w.heap.size + 1) w1 t.data.toList 0 hR1 (by omega) (by omega) hk
  have HW1 := Lib.hid hw1
  have H1 : Hid (PBox w1 w.heap.size 0 0 ⟨#[]⟩ (.slice none 0 0) ∧ w1.heap.size = w.heap.size + 2) := ⟨n1, n3⟩
  have HLow := Lib.hid hlow
  have HC1 := Lib.hid HC
  clear hw1 n1 n2 n3 n4 hR1 hlow hk HC hL ht hlen
  generalize hs : t.data.toList = s at *
  clear hs
  go_enter Tryz.func33, Tryz.ntmps33
  go_wp2_with fail
  rw [← HW1.out]
  refine HC1.out.mono ?_
  clear HC1
  rintro e w2 ⟨hAns, hO2⟩
  have q1 := H1.out.2
  have hb2 : PBox w2 w.heap.size 0 0 ⟨#[]⟩ (.slice none 0 0) := (hO2.block _ (by omega) (by show ¬ (w.heap.size = w.heap.size + 1); omega)).trans H1.out.1
  have H2 : Hid (PBox w2 w.heap.size 0 0 ⟨#[]⟩ (.slice none 0 0) ∧ Below w.heap.size w w2 ∧ w.heap.size + 2 ≤ w2.heap.size) := ⟨hb2, HLow.out w2 hO2, by have := hO2.size; omega⟩
  clear hO2 q1
  rcases hAns with ⟨p, s2, m2, v, bs, rfl, ho, hnd, hbs, hR2, hP⟩ | ⟨s2, m2, rfl, hR2, hP⟩
  rotate_left
  · have HNO : Hid (∀ q : PatD, good q → Fits 12 0 1 q → text q ≠ s) := fun q hq hf e => hP q [] hq (by rw [e, List.append_nil]) (.inl rfl) hf
    have hb3 : PBox (w2.alloc zeroBox) w.heap.size 0 0 ⟨#[]⟩ (.slice none 0 0) := (Below.heap_alloc _ _ _ (by have := H2.out.2.2; omega)).trans hb2
    have HB3 := Lib.hid hb3
    obtain ⟨x0, x1, x2, x3, f0, f1, f2, f3⟩ := four_cells hb3
    clear hb3 hb2 hP hR2
    go_wp2
    refine bodyPost_ret (results_row_tmp rfl _ _ w.heap.size _ _ _ _ rfl (set4_box HB3.out _ _ _ _) Tryz.underlying54 rfl (by kernel_rfl)) rfl ?_
    exact ⟨.inr ⟨rfl, HNO.out⟩, ((((H2.out.2.1.alloc H2.out.2.1.size _).setCell (Nat.le_refl _) _).setCell (Nat.le_refl _) _).setCell (Nat.le_refl _) _).setCell (Nat.le_refl _) _⟩
  obtain ⟨p2, cap2, rfl, _, _⟩ := ho.reads
  obtain ⟨w3, hw3⟩ : ∃ w3, w3 = w2.alloc (.cells #[.int .i64 p.k, .int .i64 p.n, .string p.t, .slice p2 p.F.length cap2] TP) := ⟨_, rfl⟩
  have hB3 : Below w2.heap.size w2 w3 := by rw [hw3]; exact (Below.refl _ _).alloc (Nat.le_refl _) _
  have hb3 : PBox w3 w.heap.size 0 0 ⟨#[]⟩ (.slice none 0 0) := (hB3.block _ (by have := H2.out.2.2; omega)).trans hb2
  have hR3 := hR2.below hB3
  have hn3 := heap_at_new w2 (.cells #[.int .i64 p.k, .int .i64 p.n, .string p.t, .slice p2 p.F.length cap2] TP)
  have hb3' := hb3
  have hR3' := hR3
  unfold RdAt at hR3'
  rw [hw3] at hb3' hR3'
  obtain ⟨y0, y1, y2, y3, _, _, _, _⟩ := four_cells hn3
  obtain ⟨z0, _, _, _, _, _, _, _⟩ := four_cells hR3'
  obtain ⟨x0, x1, x2, x3, f0, f1, f2, f3⟩ := four_cells hb3'
  have HB3 : Hid (PBox (w2.alloc (.cells #[.int .i64 p.k, .int .i64 p.n, .string p.t, .slice p2 p.F.length cap2] TP)) w.heap.size 0 0 ⟨#[]⟩ (.slice none 0 0) ∧ Below w2.heap.size w2 (w2.alloc (.cells #[.int .i64 p.k, .int .i64 p.n, .string p.t, .slice p2 p.F.length cap2] TP))) := by rw [← hw3]; exact ⟨hb3, hB3⟩
  have H4 : Hid (OwnV w2 (.slice p2 p.F.length cap2) p.F bs ∧ bs.Nodup ∧ (∀ c ∈ bs, w1.heap.size ≤ c ∧ c < w2.heap.size) ∧ OkP 12 s 0 1 p s2 m2) := ⟨ho, hnd, hbs, hP⟩
  clear ho hnd hbs hP hB3 hb3 hR3 hn3 hb3' hR3' hw3 hR2 hb2
  by_cases he : s2 = []
  · subst he
    have h0 : str [] = ⟨#[]⟩ := rfl
    rw [h0] at z0
    clear h0
    go_wp2
    refine bodyPost_ret (results_row_tmp rfl _ _ w.heap.size _ _ _ _ rfl (set4_box HB3.out.1 _ _ _ _) Tryz.underlying54 rfl (by kernel_rfl)) rfl ?_
    obtain ⟨k1, k2, k3, k4⟩ := H4.out
    have q1 := H1.out.2
    have hB := H2.out.2.1.trans (HB3.out.2.mono H2.out.2.1.size)
    refine ⟨.inl ⟨p, _, bs, rfl, k1.keep (fun c hc => (set4_other _ _ _ _ (by have := k3 c hc; omega)).trans (HB3.out.2.block c (k3 c hc).2)), k2, fun c hc => ⟨by have := k3 c hc; omega, Nat.lt_of_lt_of_le (k3 c hc).2 (Nat.le_trans HB3.out.2.size (Nat.le_of_eq (set4_size _ _ _ _ _ _).symm))⟩, k4.good, ?_, k4.fits⟩, (((hB.setCell (Nat.le_refl _) _).setCell (Nat.le_refl _) _).setCell (Nat.le_refl _) _).setCell (Nat.le_refl _) _⟩
    rw [k4.text, List.append_nil]
  · have HNO : Hid (∀ q : PatD, good q → Fits 12 0 1 q → text q ≠ s) := fun q hq hf e => he ((H4.out.2.2.2.uniq q [] hq (by rw [e, List.append_nil]) (.inl rfl) hf).2.symm)
    have h0 : ((str s2).toList == []) = false := by rw [ByteArray.toList_eq]; simpa [str] using he
    clear he
    generalize str s2 = us at *
    go_wp2
    refine bodyPost_ret (results_row_tmp rfl _ _ w.heap.size _ _ _ _ rfl (set4_box HB3.out.1 _ _ _ _) Tryz.underlying54 rfl (by kernel_rfl)) rfl ?_
    have hB := H2.out.2.1.trans (HB3.out.2.mono H2.out.2.1.size)
    exact ⟨.inr ⟨rfl, HNO.out⟩, (((hB.setCell (Nat.le_refl _) _).setCell (Nat.le_refl _) _).setCell (Nat.le_refl _) _).setCell (Nat.le_refl _) _⟩
end Go.Proofs.YtijbaienhaiamaaGreatDoor.Ex
end

/- What is proved here: what ParseExpr answers, for model and program alike: the one valid expression whose text it is, or the zero one and false. Conditions: the text has at most 2^20 bytes; for the program: the library's variables read as laid. -/
section
namespace Go.Proofs.YtijbaienhaiamaaGreatDoor.Ex
open Go.RowKit

def zeroD : PatD := ⟨0, 0, ⟨#[]⟩, .nil⟩
/-- The answer that a text has. -/
def Want (s : List UInt8) (A : PatD) (B : Bool) : Prop :=
  (B = true ∧ good A ∧ Fits 12 0 1 A ∧ text A = s ∧ ∀ q, good q → Fits 12 0 1 q → text q = s → q = A) ∨ (B = false ∧ A = zeroD ∧ ∀ q, good q → Fits 12 0 1 q → text q ≠ s)
/-- An answer in memory of the call's own. -/
def Gives (w : World) (A : PatD) (B : Bool) (e : Ending) (w' : World) : Prop :=
  ∃ v bs, e = .returned (.tuple #[.agg #[.int .i64 A.k, .int .i64 A.n, .string A.t, v], .bool B]) ∧ OwnV w' v A.F bs ∧ bs.Nodup ∧ ∀ c ∈ bs, w.heap.size ≤ c ∧ c < w'.heap.size
theorem form_small {k n : Int} {t : ByteArray} {l : Nat} (h : exprForm k n t l = true) : (-9223372036854775808 ≤ k ∧ k ≤ 9223372036854775807) ∧ (-9223372036854775808 ≤ n ∧ n ≤ 9223372036854775807) ∧ t.size ≤ maxLen ∧ l ≤ maxLen := by
  unfold maxLen
  rcases (exprForm_iff k n t l).1 h with ⟨rfl, hi, ht, hl⟩ | ⟨rfl, rfl, hN, hl⟩ | ⟨rfl, ho, ht, hl⟩ | ⟨rfl, rfl, ht, hl⟩
  · unfold inInt at hi
    simp only [Bool.and_eq_true, decide_eq_true_eq] at hi
    omega
  · have : t.size ≤ 8 := hN.1.2.1
    omega
  · have := (inOp_iff n).1 ho
    omega
  · omega
theorem formedE_fits (F : Trees) (h : F.formedE = true) : F.fits := by
  induction F with
  | nil => trivial
  | cons k n t ar r ih1 ih2 =>
    simp only [Trees.formedE, Bool.and_eq_true] at h
    obtain ⟨h1, h2, h3, h4⟩ := form_small h.1
    exact ⟨h1, h2, h3, h4, ih1 h.2.1, ih2 h.2.2⟩
theorem valid_iff {p : PatD} (h : good p) : validExpr p.k p.n p.t p.F = true ↔ Fits 12 0 1 p := by
  unfold validExpr Fits
  rw [h.1, h.2]
  simp
  omega
theorem fits_more {N : Nat} {q : PatD} (h : Fits 12 0 1 q) (hN : 12 ≤ N) : Fits N 0 1 q := ⟨by have := h.1; omega, h.2⟩

theorem impl_gives (t : ByteArray) (ht : t.size ≤ 1048576) (A : PatD) (B : Bool) (hW : Want t.data.toList A B) (w : World) (hL : LibVars w) :
    Calls Tryz.prog 33 #[.string t] w fun e w' => Gives w A B e w' ∧ Below w.heap.size w w' := by
  refine (impl_ParseExpr t ht w hL).mono ?_
  rintro e w' ⟨h, hB⟩
  refine ⟨?_, hB⟩
  rcases h with ⟨p, v, bs, rfl, ho, hnd, hbs, hg, htx, hf⟩ | ⟨rfl, hno⟩
  · rcases hW with ⟨rfl, _, _, _, hu⟩ | ⟨rfl, rfl, hn⟩
    · obtain rfl := hu p hg hf htx
      exact ⟨v, bs, rfl, ho, hnd, hbs⟩
    · exact absurd htx (hn p hg hf)
  · rcases hW with ⟨rfl, hg, hf, htx, _⟩ | ⟨rfl, rfl, hn⟩
    · exact absurd htx (hno A hg hf)
    · exact ⟨_, [], rfl, .inl ⟨none, 0, rfl, rfl, rfl⟩, List.nodup_nil, by simp⟩

set_option maxHeartbeats 4000000 in
set_option maxRecDepth 100000 in
theorem spec_ParseExpr (s : ByteArray) (hs : s.size ≤ 1048576) (w : World) :
    Calls Tryz.prog 39 #[.string s] w fun e w' => (∃ A B, Want s.data.toList A B ∧ Gives w A B e w') ∧ Below w.heap.size w w' := by
  obtain ⟨w1, hw1⟩ : ∃ w1, w1 = (w.alloc (.cells #[.int .i64 0, .int .i64 0, .string ⟨#[]⟩, .slice none 0 0] 54)).alloc (.cells #[.string s, .int .i64 0, .bool false] TS) := ⟨_, rfl⟩
  obtain ⟨n1, n2, n3, n4⟩ := two_new w (.cells #[.int .i64 0, .int .i64 0, .string ⟨#[]⟩, .slice none 0 0] 54) (.cells #[.string s, .int .i64 0, .bool false] TS)
  rw [← hw1] at n1 n2 n3 n4
  have hS1 : SAt w1 (w.heap.size + 1) s 0 false := n2
  have hd0 : s.data.toList.drop 0 = s.data.toList := rfl
  have hsl : s.data.toList.length = s.size := rfl
  have HC : Calls Tryz.prog 94 #[.pointer (some ⟨w.heap.size + 1, 0, none⟩), .int .i64 1] w1 fun e w' => SpAns w1 (w.heap.size + 1) s 0 0 1 e w' ∧ Only (Just (w.heap.size + 1)) w1 w' := spec_read_ok (w.heap.size + 1) w1 s 0 0 hS1 hs (by omega) (by omega)
  have hlow : ∀ w', Only (Just (w.heap.size + 1)) w1 w' → Below w.heap.size w w' := fun w' h => n4.trans (h.below (fun b hb => by have : b = w.heap.size + 1 := hb; omega) (by omega))
  have HW1 := Lib.hid hw1
  have H1 : Hid (PBox w1 w.heap.size 0 0 ⟨#[]⟩ (.slice none 0 0) ∧ w1.heap.size = w.heap.size + 2) := ⟨n1, n3⟩
  have HLow := Lib.hid hlow
  have HC1 := Lib.hid HC
  have HSZ := Lib.hid hs
  clear hw1 n1 n2 n3 n4 hS1 hlow HC
  go_enter Tryz.func39, Tryz.ntmps39
  go_wp2_with fail
  rw [← HW1.out]
  refine HC1.out.mono ?_
  clear HC1
  rintro e w2 ⟨hAns, hO2⟩
  have q1 := H1.out.2
  have hb2 : PBox w2 w.heap.size 0 0 ⟨#[]⟩ (.slice none 0 0) := (hO2.block _ (by omega) (by show ¬ (w.heap.size = w.heap.size + 1); omega)).trans H1.out.1
  have H2 : Hid (PBox w2 w.heap.size 0 0 ⟨#[]⟩ (.slice none 0 0) ∧ Below w.heap.size w w2 ∧ w.heap.size + 2 ≤ w2.heap.size) := ⟨hb2, HLow.out w2 hO2, by have := hO2.size; omega⟩
  clear hO2 q1 hb2
  rcases hAns with ⟨p, k2, m2, v, bs, rfl, ho, hnd, hbs, hS2, hk2, hP⟩ | ⟨kk, nn, t, a, l, c, k2, rfl, hS2, hk2, hN⟩
  rotate_left
  · -- it failed
    have HWant : Hid (Want s.data.toList zeroD false) := .inr ⟨rfl, rfl, fun q hq hf e => hN q [] hq (by rw [hd0, e, List.append_nil]) (.inl rfl) (fits_more hf (by omega))⟩
    obtain ⟨w3, hw3⟩ : ∃ w3, w3 = w2.alloc (.cells #[.int .i64 kk, .int .i64 nn, .string t, .slice a l c] 54) := ⟨_, rfl⟩
    have hB3 : Below w2.heap.size w2 w3 := by rw [hw3]; exact (Below.refl _ _).alloc (Nat.le_refl _) _
    have hP3 := (hB3.block _ (Array.getElem?_eq_some_iff.1 H2.out.1).1).trans H2.out.1
    obtain ⟨c0, c1, c2, f1, f2⟩ := (hS2.below hB3).cells
    obtain ⟨x0, x1, x2, x3, i0, i1, i2, i3⟩ := four_cells hP3
    have H3 : Hid (PBox w3 w.heap.size 0 0 ⟨#[]⟩ (.slice none 0 0) ∧ Below w.heap.size w w3) := ⟨hP3, H2.out.2.1.trans (hB3.mono H2.out.2.1.size)⟩
    clear hB3 hP3 hS2 hN hk2
    subst hw3
    go_wp2
    refine bodyPost_ret (results_row_tmp rfl _ _ w.heap.size _ _ _ _ rfl (set4_box H3.out.1 _ _ _ _) Tryz.underlying54 rfl (by kernel_rfl)) rfl ?_
    exact ⟨⟨zeroD, false, HWant.out, _, [], rfl, .inl ⟨none, 0, rfl, rfl, rfl⟩, List.nodup_nil, by simp⟩, (((H3.out.2.setCell (Nat.le_refl _) _).setCell (Nat.le_refl _) _).setCell (Nat.le_refl _) _).setCell (Nat.le_refl _) _⟩
  obtain ⟨p2, cap2, rfl, hcp, hread⟩ := ho.reads
  obtain ⟨w3, hw3⟩ : ∃ w3, w3 = w2.alloc (.cells #[.int .i64 p.k, .int .i64 p.n, .string p.t, .slice p2 p.F.length cap2] 54) := ⟨_, rfl⟩
  have hB3 : Below w2.heap.size w2 w3 := by rw [hw3]; exact (Below.refl _ _).alloc (Nat.le_refl _) _
  have hn3 : w3.heap[w2.heap.size]? = some (.cells #[.int .i64 p.k, .int .i64 p.n, .string p.t, .slice p2 p.F.length cap2] 54 (0, 0)) := by rw [hw3]; exact heap_at_new w2 _
  have hs3 : w3.heap.size = w2.heap.size + 1 := by rw [hw3]; exact Array.size_push _
  have hP3 := (hB3.block _ (Array.getElem?_eq_some_iff.1 H2.out.1).1).trans H2.out.1
  have ho3 := ho.keep (fun c hc => hB3.block c (hbs c hc).2)
  have hpl := congrArg List.length hP.text
  rw [List.length_append, List.length_drop, List.length_drop, hsl] at hpl
  have hge := good_ge hP.good
  have hfc : p.F.count ≤ 1048576 := by have := HSZ.out; omega
  obtain ⟨_, _, htm, _⟩ := form_small hP.good.1
  have HF := Lib.hid (spec_format_expr w3 p.k p.n p.t p.F p2 cap2 (formedE_fits _ hP.good.2) hfc htm (hread.below hB3))
  obtain ⟨c0, c1, c2, f1, f2⟩ := (hS2.below hB3).cells
  obtain ⟨x0, x1, x2, x3, i0, i1, i2, i3⟩ := four_cells hP3
  obtain ⟨y0, y1, y2, y3, _, _, _, _⟩ := four_cells hn3
  have H3 : Hid (PBox w3 w.heap.size 0 0 ⟨#[]⟩ (.slice none 0 0) ∧ Below w.heap.size w w3 ∧ w3.heap[w2.heap.size]? = some (.cells #[.int .i64 p.k, .int .i64 p.n, .string p.t, .slice p2 p.F.length cap2] 54 (0, 0)) ∧ w3.heap.size = w2.heap.size + 1) := ⟨hP3, H2.out.2.1.trans (hB3.mono H2.out.2.1.size), hn3, hs3⟩
  have H3b : Hid (OwnV w3 (.slice p2 p.F.length cap2) p.F bs ∧ bs.Nodup ∧ (∀ c ∈ bs, w1.heap.size ≤ c ∧ c < w2.heap.size) ∧ OkP 2097152 s.data.toList 0 1 p (s.data.toList.drop k2) m2) := ⟨ho3, hnd, hbs, hP⟩
  have HW3 := Lib.hid hw3
  clear hB3 hn3 hs3 hP3 ho3 hpl hfc htm hS2 ho hread hcp hnd hbs hP
  by_cases hend : k2 = s.size
  rotate_left
  · -- something is left
    have HWant : Hid (Want s.data.toList zeroD false) := .inr ⟨rfl, rfl, fun q hq hf e => by
      have h0 := (H3b.out.2.2.2.uniq q [] hq (by rw [e, List.append_nil]) (.inl rfl) (fits_more hf (by omega))).2
      have h1 := congrArg List.length h0
      rw [List.length_drop, hsl] at h1
      simp at h1
      omega⟩
    have hne : ((k2 : Int) != (s.size : Int)) = true := by simp; omega
    rw [hw3] at c0 c1 c2 f1 f2 x0 x1 x2 x3 i0 i1 i2 i3 y0 y1 y2 y3
    have H4 := H3
    rw [hw3] at H4
    clear hend hge hw3 hk2 HF
    go_wp2
    refine bodyPost_ret (results_row_tmp rfl _ _ w.heap.size _ _ _ _ rfl (set4_box H4.out.1 _ _ _ _) Tryz.underlying54 rfl (by kernel_rfl)) rfl ?_
    exact ⟨⟨zeroD, false, HWant.out, _, [], rfl, .inl ⟨none, 0, rfl, rfl, rfl⟩, List.nodup_nil, by simp⟩, (((H4.out.2.1.setCell (Nat.le_refl _) _).setCell (Nat.le_refl _) _).setCell (Nat.le_refl _) _).setCell (Nat.le_refl _) _⟩
  · subst hend
    have htext : text p = s.data.toList := by
      have h1 := H3b.out.2.2.2.text
      rw [List.drop_eq_nil_of_le (by omega), List.append_nil] at h1
      exact h1.symm
    have hneq : ((s.size : Int) != (s.size : Int)) = false := by simp
    have hx := exprFmt p.k p.n p.t p.F
    by_cases hv : validExpr p.k p.n p.t p.F = true
    · have hfm : exprFmt p.k p.n p.t p.F = s := by
        unfold exprFmt
        rw [if_pos hv]
        show str (text p) = s
        rw [htext, str_data]
      have HWant : Hid (Want s.data.toList p true) := .inl ⟨rfl, H3b.out.2.2.2.good, (valid_iff H3b.out.2.2.2.good).1 hv, htext, fun q hq hf e => (H3b.out.2.2.2.uniq q [] hq (by rw [e, List.append_nil]) (.inl rfl) (fits_more hf (by omega))).1⟩
      rw [hfm] at HF
      have hbe : (s.toList != s.toList) = false := by simp
      rw [hw3] at c0 c1 c2 f1 f2 y0 y1 y2 y3
      clear hge hw3 hk2 hv htext hfm hx x0 x1 x2 x3 i0 i1 i2 i3
      go_wp2_with fail
      rw [← HW3.out]
      refine HF.out.mono ?_
      clear HF c0 c1 c2 f1 f2 y0 y1 y2 y3
      rintro e w4 ⟨rfl, hb4⟩
      have hP4 := (hb4.block _ (Array.getElem?_eq_some_iff.1 H3.out.1).1).trans H3.out.1
      obtain ⟨x0, x1, x2, x3, i0, i1, i2, i3⟩ := four_cells hP4
      obtain ⟨y0, y1, y2, y3, _, _, _, _⟩ := four_cells ((hb4.block _ (by have := H3.out.2.2.2; omega)).trans H3.out.2.2.1)
      have H4 : Hid (PBox w4 w.heap.size 0 0 ⟨#[]⟩ (.slice none 0 0) ∧ Below w.heap.size w w4 ∧ OwnV w4 (.slice p2 p.F.length cap2) p.F bs ∧ w2.heap.size ≤ w4.heap.size) := ⟨hP4, H3.out.2.1.trans (hb4.mono H3.out.2.1.size), H3b.out.1.keep (fun c hc => hb4.block c (by have := H3b.out.2.2.1 c hc; have := H3.out.2.2.2; omega)), by have := hb4.size; have := H3.out.2.2.2; omega⟩
      clear hP4 hb4
      go_wp2
      refine bodyPost_ret (results_row_tmp rfl _ _ w.heap.size _ _ _ _ rfl (set4_box H4.out.1 _ _ _ _) Tryz.underlying54 rfl (by kernel_rfl)) rfl ?_
      have hbs := H3b.out.2.2.1
      have hq1 := H1.out.2
      refine ⟨⟨p, true, HWant.out, _, bs, rfl, H4.out.2.2.1.keep (fun c hc => set4_other _ _ _ _ (by have := hbs c hc; omega)), H3b.out.2.1, fun c hc => ⟨by have := hbs c hc; omega, Nat.lt_of_lt_of_le (hbs c hc).2 (Nat.le_trans H4.out.2.2.2 (Nat.le_of_eq (set4_size _ _ _ _ _ _).symm))⟩⟩, (((H4.out.2.1.setCell (Nat.le_refl _) _).setCell (Nat.le_refl _) _).setCell (Nat.le_refl _) _).setCell (Nat.le_refl _) _⟩
    · have hfm : exprFmt p.k p.n p.t p.F = ⟨#[]⟩ := by unfold exprFmt; rw [if_neg hv]
      have hpos : s.toList ≠ [] := fun e => by
        rw [ByteArray.toList_eq] at e
        rw [htext, e] at hge
        simp at hge
      have HWant : Hid (Want s.data.toList zeroD false) := .inr ⟨rfl, rfl, fun q hq hf e => by
        have h0 := (H3b.out.2.2.2.uniq q [] hq (by rw [e, List.append_nil]) (.inl rfl) (fits_more hf (by omega))).1
        subst h0
        exact hv ((valid_iff hq).2 hf)⟩
      rw [hfm] at HF
      have hbe : s.toList.isEmpty = false := by
        cases h : s.toList with
        | nil => exact absurd h hpos
        | cons _ _ => rfl
      rw [hw3] at c0 c1 c2 f1 f2 y0 y1 y2 y3
      clear hge hw3 hk2 hv htext hfm hx hpos x0 x1 x2 x3 i0 i1 i2 i3
      go_wp2_with fail
      rw [← HW3.out]
      refine HF.out.mono ?_
      clear HF c0 c1 c2 f1 f2 y0 y1 y2 y3
      rintro e w4 ⟨rfl, hb4⟩
      have hP4 := (hb4.block _ (Array.getElem?_eq_some_iff.1 H3.out.1).1).trans H3.out.1
      obtain ⟨x0, x1, x2, x3, i0, i1, i2, i3⟩ := four_cells hP4
      have H4 : Hid (PBox w4 w.heap.size 0 0 ⟨#[]⟩ (.slice none 0 0) ∧ Below w.heap.size w w4) := ⟨hP4, H3.out.2.1.trans (hb4.mono H3.out.2.1.size)⟩
      clear hP4 hb4
      go_wp2
      refine bodyPost_ret (results_row_tmp rfl _ _ w.heap.size _ _ _ _ rfl (set4_box H4.out.1 _ _ _ _) Tryz.underlying54 rfl (by kernel_rfl)) rfl ?_
      exact ⟨⟨zeroD, false, HWant.out, _, [], rfl, .inl ⟨none, 0, rfl, rfl, rfl⟩, List.nodup_nil, by simp⟩, (((H4.out.2.setCell (Nat.le_refl _) _).setCell (Nat.le_refl _) _).setCell (Nat.le_refl _) _).setCell (Nat.le_refl _) _⟩
end Go.Proofs.YtijbaienhaiamaaGreatDoor.Ex
end

/- What is proved here: the program's formatValidExpr returns the representation of an expression. Condition: the expression lies in memory as said, is valid node by node, and small; the table of the powers of ten is as listed. -/
section
namespace Go.Proofs.YtijbaienhaiamaaGreatDoor.Ex
open Go.RowKit

set_option maxHeartbeats 4000000 in
set_option maxRecDepth 100000 in
theorem impl_expr_text : ∀ G : Trees, G.formedE = true → G.count ≤ 1048576 → ∀ (w : World) (k n : Int) (t : ByteArray) (p : Option Addr) (cap : Nat), exprForm k n t G.length = true → TreesAt w G p 0 → Lib.TabIs Tryz.prog w "internal/strconv.uint64pow10" .u64 Lib.pow10Tab →
    Calls Tryz.prog 83 #[.agg #[.int .i64 k, .int .i64 n, .string t, .slice p G.length cap]] w fun e w' => e = .returned (.string (str (nodeE k n t G.textsE))) ∧ Below w.heap.size w w' := by
  refine Trees.ind fun F hall hfm hc w k n t p cap hpf hx htab => ?_
  have hB0 : Below w.heap.size w (w.alloc (.cells #[.int .i64 k, .int .i64 n, .string t, .slice p F.length cap] 54)) := (Below.refl _ _).alloc (Nat.le_refl _) _
  have HB0 := Lib.hid hB0
  have HTAB := Lib.hid (fun w' (hb : Below w.heap.size w w') => Go.Joins.tab_stays (g := 1) (by kernel_rfl) htab hb (Nat.le_refl _))
  clear htab
  have hlt := textE_len k n t F hfm hpf
  rcases (exprForm_iff k n t F.length).1 hpf with ⟨rfl, hi, -⟩ | ⟨rfl, -, -, -⟩ | ⟨rfl, ho, -, hl2⟩ | ⟨rfl, -, -, hl1⟩
  · have e : nodeE 1 n t F.textsE = Lib.itoa n := rfl
    rw [e]
    unfold inInt at hi
    simp only [Bool.and_eq_true, decide_eq_true_eq] at hi
    have HF := impl_format n (by omega) (by omega) _ (HTAB.out _ HB0.out)
    obtain ⟨c0, c1, c2, c3, _⟩ := four_cells (heap_at_new w (.cells #[.int .i64 1, .int .i64 n, .string t, .slice p F.length cap] 54))
    clear hall hx hB0 hlt e hfm hc hpf hi
    go_enter Tryz.func83, Tryz.ntmps83
    go_wp2_with fail
    refine HF.mono ?_
    rintro e w1 ⟨rfl, hb1⟩
    have HB1 := Lib.hid hb1
    clear hb1 HF
    go_wp2
    go_ret
    exact ⟨rfl, HB0.out.trans (HB1.out.mono HB0.out.size)⟩
  · have e : nodeE 2 n t F.textsE = t.data.toList := rfl
    rw [e, str_data]
    obtain ⟨c0, c1, c2, c3, _⟩ := four_cells (heap_at_new w (.cells #[.int .i64 2, .int .i64 n, .string t, .slice p F.length cap] 54))
    clear hall hx hB0 hlt e hfm hc hpf
    go_enter Tryz.func83, Tryz.ntmps83
    go_wp2
    go_ret
    exact ⟨rfl, HB0.out⟩
  · cases F with
    | nil => cases hl2
    | cons ka na ta Fa R =>
      cases R with
      | nil => cases hl2
      | cons kb nb tb Fb R2 =>
        cases R2 with
        | cons _ _ _ _ _ => simp [Trees.length] at hl2
        | nil =>
          have e : nodeE 3 n t (Trees.textsE (.cons ka na ta Fa (.cons kb nb tb Fb .nil))) = [40] ++ nodeE ka na ta Fa.textsE ++ signE n ++ nodeE kb nb tb Fb.textsE ++ [41] := rfl
          rw [e] at hlt ⊢
          simp only [Trees.formedE, Bool.and_eq_true] at hfm
          simp only [Trees.count] at hc hlt
          rw [show (Trees.length (.cons ka na ta Fa (.cons kb nb tb Fb .nil))) = 2 from rfl] at *
          obtain ⟨y, pa, ca, rfl, a0, a1, a2, a3, hsa, hxb⟩ := (hx.below hB0).open
          obtain ⟨y', pb, cb, e', b0, b1, b2, b3, hsb, _⟩ := hxb.open
          cases e'
          obtain ⟨_, c1, _, c3, _⟩ := four_cells (heap_at_new w (.cells #[.int .i64 3, .int .i64 n, .string t, .slice (some y) 2 cap] 54))
          generalize hw0 : w.alloc (.cells #[.int .i64 3, .int .i64 n, .string t, .slice (some y) 2 cap] 54) = w0 at *
          have HW0 := Lib.hid hw0
          have HF : Hid (∀ W, Below w0.heap.size w0 W → (W.cell? ⟨w.heap.size, 1, none⟩ = some (.int .i64 n) ∧ W.cell? ⟨w.heap.size, 3, none⟩ = some (.slice (some y) 2 cap)) ∧ (W.cell? y = some (.int .i64 ka) ∧ W.cell? { block := y.block, off := y.off + 1 } = some (.int .i64 na) ∧ W.cell? { block := y.block, off := y.off + 2 } = some (.string ta) ∧ W.cell? { block := y.block, off := y.off + 3 } = some (.slice pa Fa.length ca)) ∧ W.cell? { block := y.block, off := y.off + 4 } = some (.int .i64 kb) ∧ W.cell? { block := y.block, off := y.off + 4 + 1 } = some (.int .i64 nb) ∧ W.cell? { block := y.block, off := y.off + 4 + 2 } = some (.string tb) ∧ W.cell? { block := y.block, off := y.off + 4 + 3 } = some (.slice pb Fb.length cb)) := fun W hb => ⟨⟨cell_below c1 hb, cell_below c3 hb⟩, ⟨cell_below a0 hb, cell_below a1 hb, cell_below a2 hb, cell_below a3 hb⟩, cell_below b0 hb, cell_below b1 hb, cell_below b2 hb, cell_below b3 hb⟩
          have HCA := Lib.hid (fun W (hb : Below w0.heap.size w0 W) => hall.1 hfm.2.1 (by omega) W ka na ta pa ca hfm.1 (hsa.below hb) (HTAB.out W (HB0.out.trans (hb.mono HB0.out.size))))
          have HCS := Lib.hid (fun W => impl_sign n ho W)
          have HCB := Lib.hid (fun W (hb : Below w0.heap.size w0 W) => hall.2.1 hfm.2.2.2.1 (by omega) W kb nb tb pb cb hfm.2.2.1 (hsb.below hb) (HTAB.out W (HB0.out.trans (hb.mono HB0.out.size))))
          simp only [List.length_append, List.length_cons, List.length_nil] at hlt
          have hk1 := fun w => cat [40] (nodeE ka na ta Fa.textsE) (by simp; omega) w
          have hk2 := fun w => cat ([40] ++ nodeE ka na ta Fa.textsE) (signE n) (by simp; omega) w
          have hk3 := fun w => cat ([40] ++ nodeE ka na ta Fa.textsE ++ signE n) (nodeE kb nb tb Fb.textsE) (by simp; omega) w
          have hk4 := fun w => cat ([40] ++ nodeE ka na ta Fa.textsE ++ signE n ++ nodeE kb nb tb Fb.textsE) [41] (by simp; omega) w
          change ∀ w, (Op.stringOp .add ⟨#[40]⟩ _).run Tryz.prog w = _ at hk1
          change ∀ w, (Op.stringOp .add _ ⟨#[41]⟩).run Tryz.prog w = _ at hk4
          generalize hu1 : str ([40] ++ nodeE ka na ta Fa.textsE) = u1 at *
          generalize hu2 : str ([40] ++ nodeE ka na ta Fa.textsE ++ signE n) = u2 at *
          generalize hu3 : str ([40] ++ nodeE ka na ta Fa.textsE ++ signE n ++ nodeE kb nb tb Fb.textsE) = u3 at *
          generalize hu4 : str ([40] ++ nodeE ka na ta Fa.textsE ++ signE n ++ nodeE kb nb tb Fb.textsE ++ [41]) = u4 at *
          generalize str (nodeE ka na ta Fa.textsE) = ua at *
          generalize str (nodeE kb nb tb Fb.textsE) = ub at *
          generalize str (signE n) = us at *
          have a0' : w0.cell? y = some (.int .i64 ka) := a0
          have a1' : w0.cell? { block := y.block, off := y.off + 1 } = some (.int .i64 na) := a1
          have a2' : w0.cell? { block := y.block, off := y.off + 2 } = some (.string ta) := a2
          have a3' : w0.cell? { block := y.block, off := y.off + 3 } = some (.slice pa Fa.length ca) := a3
          have b0' : w0.cell? { block := y.block, off := y.off + 4 } = some (.int .i64 kb) := b0
          have b1' : w0.cell? { block := y.block, off := y.off + 4 + 1 } = some (.int .i64 nb) := b1
          have b2' : w0.cell? { block := y.block, off := y.off + 4 + 2 } = some (.string tb) := b2
          have b3' : w0.cell? { block := y.block, off := y.off + 4 + 3 } = some (.slice pb Fb.length cb) := b3
          have HD : Hid (Below w0.heap.size w0 w0.drew) := (Below.refl _ _).drew
          clear hall hx hlt e hfm hc hpf hB0 hsa hsb hxb hw0 hu1 hu2 hu3 hu4 a0 a1 a2 a3 b0 b1 b2 b3 hl2 ho
          go_enter Tryz.func83, Tryz.ntmps83
          go_wp2
          rw [HW0.out]
          go_region_held3 (fun W => (W.cell? ⟨w.heap.size, 1, none⟩ = some (.int .i64 n) ∧ W.cell? ⟨w.heap.size, 3, none⟩ = some (.slice (some y) 2 cap)) ∧ (W.cell? y = some (.int .i64 ka) ∧ W.cell? { block := y.block, off := y.off + 1 } = some (.int .i64 na) ∧ W.cell? { block := y.block, off := y.off + 2 } = some (.string ta) ∧ W.cell? { block := y.block, off := y.off + 3 } = some (.slice pa Fa.length ca)) ∧ W.cell? { block := y.block, off := y.off + 4 } = some (.int .i64 kb) ∧ W.cell? { block := y.block, off := y.off + 4 + 1 } = some (.int .i64 nb) ∧ W.cell? { block := y.block, off := y.off + 4 + 2 } = some (.string tb) ∧ W.cell? { block := y.block, off := y.off + 4 + 3 } = some (.slice pb Fb.length cb))
            (first
              | go_keep
              | (have hkeep := HF.out _ HB3.out; exact hkeep)
              | (have hkeep := HF.out _ HB2.out; exact hkeep)
              | (have hkeep := HF.out _ HB1.out; exact hkeep)
              | fail "no arm")
            (first
              | (go_at_call 83; (with_reducible refine (HCA.out w0.drew HD.out).mono ?_); rintro e w1 ⟨rfl, hb1⟩; have HB1 : Hid (Below w0.heap.size w0 w1) := Below.trans HD.out (hb1.mono HD.out.size); clear hb1)
              | (go_at_call 144; (with_reducible refine (HCS.out w1).mono ?_); rintro e w2 ⟨rfl, hb2⟩; have HB2 : Hid (Below w0.heap.size w0 w2) := Below.trans HB1.out (hb2.mono HB1.out.size); clear hb2)
              | (go_at_call 83; (with_reducible refine (HCB.out w2 HB2.out).mono ?_); rintro e w3 ⟨rfl, hb3⟩; have HB3 : Hid (Below w0.heap.size w0 w3) := Below.trans HB2.out (hb3.mono HB2.out.size); clear hb3)
              | fail "no arm")
          clear a0' a1' a2' a3' b0' b1' b2' b3' HF HCA HCB HCS HD
          go_wp2
          go_ret
          exact ⟨rfl, HB0.out.trans (HB3.out.mono HB0.out.size)⟩
  · cases F with
    | nil => cases hl1
    | cons ka na ta Fa R =>
      cases R with
      | cons _ _ _ _ _ => simp [Trees.length] at hl1
      | nil =>
        have e : nodeE 4 n t (Trees.textsE (.cons ka na ta Fa .nil)) = [33] ++ nodeE ka na ta Fa.textsE := rfl
        rw [e] at hlt ⊢
        simp only [Trees.formedE, Bool.and_eq_true] at hfm
        simp only [Trees.count] at hc hlt
        rw [show (Trees.length (.cons ka na ta Fa .nil)) = 1 from rfl] at *
        obtain ⟨y, pa, ca, rfl, a0, a1, a2, a3, hsa, _⟩ := (hx.below hB0).open
        have c3 := (four_cells (heap_at_new w (.cells #[.int .i64 4, .int .i64 n, .string t, .slice (some y) 1 cap] 54))).2.2.2.1
        have HCA := Lib.hid (fun W (hb : Below (w.alloc (.cells #[.int .i64 4, .int .i64 n, .string t, .slice (some y) 1 cap] 54)).heap.size (w.alloc (.cells #[.int .i64 4, .int .i64 n, .string t, .slice (some y) 1 cap] 54)) W) => hall.1 hfm.2.1 (by omega) W ka na ta pa ca hfm.1 (hsa.below hb) (HTAB.out W (HB0.out.trans (hb.mono HB0.out.size))))
        simp only [List.length_append, List.length_cons, List.length_nil] at hlt
        have hk1 := fun w => cat [33] (nodeE ka na ta Fa.textsE) (by simp; omega) w
        change ∀ w, (Op.stringOp .add ⟨#[33]⟩ _).run Tryz.prog w = _ at hk1
        generalize hu1 : str ([33] ++ nodeE ka na ta Fa.textsE) = u1 at *
        generalize str (nodeE ka na ta Fa.textsE) = ua at *
        have a0' : (w.alloc (.cells #[.int .i64 4, .int .i64 n, .string t, .slice (some y) 1 cap] 54)).cell? y = some (.int .i64 ka) := a0
        have a1' : (w.alloc (.cells #[.int .i64 4, .int .i64 n, .string t, .slice (some y) 1 cap] 54)).cell? { block := y.block, off := y.off + 1 } = some (.int .i64 na) := a1
        have a2' : (w.alloc (.cells #[.int .i64 4, .int .i64 n, .string t, .slice (some y) 1 cap] 54)).cell? { block := y.block, off := y.off + 2 } = some (.string ta) := a2
        have a3' : (w.alloc (.cells #[.int .i64 4, .int .i64 n, .string t, .slice (some y) 1 cap] 54)).cell? { block := y.block, off := y.off + 3 } = some (.slice pa Fa.length ca) := a3
        clear hall hx hlt e hfm hc hpf hB0 hsa hu1 a0 a1 a2 a3 hl1
        go_enter Tryz.func83, Tryz.ntmps83
        go_wp2_with fail
        refine (HCA.out _ (Below.refl _ _)).mono ?_
        rintro e w1 ⟨rfl, hb1⟩
        have HB1 : Hid (Below w.heap.size w w1) := HB0.out.trans (hb1.mono HB0.out.size)
        clear a0' a1' a2' a3' HCA hb1
        go_wp2
        go_ret
        exact ⟨rfl, HB1.out⟩
end Go.Proofs.YtijbaienhaiamaaGreatDoor.Ex
end
