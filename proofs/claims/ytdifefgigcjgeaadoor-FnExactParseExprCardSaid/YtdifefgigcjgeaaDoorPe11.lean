/- What is proved here: a piece of the proof of YtdifefgigcjgeaaDoorExactParseExpr (ExWord, ExNot, ImplInOp, Operators, Symbol, ExOperator). Condition: none beyond what each part says. -/
import Derived.Test.YtdifefgigcjgeaaDoorPe06
import Derived.Test.YtdifefgigcjgeaaDoorPe02
import Derived.Test.YtdifefgigcjgeaaDoorPe04
import Derived.Test.YtdifefgigcjgeaaDoorPe05
import Derived.Laws.EntriesVeiled
import Derived.Test.YtdifefgigcjgeaaDoorPe07
import Derived.Deep.RegionHeld3
import Derived.Test.YtdifefgigcjgeaaDoorPe10

/- What is proved here: the program's readWord of an expression. Condition: the reader lies in memory as said. -/
section
namespace Go.Proofs.YtdifefgigcjgeaaDoor.Ex
open Go.RowKit

theorem at_word (s : List UInt8) (h33 : ∀ x, s ≠ 33 :: x) (h40 : ∀ x, s ≠ 40 :: x) : AtWord s (lead s) (skipped s (lead s)) := by
  refine ⟨?_, fun x y hx hy he => ?_, h33, h40⟩
  · rcases skip_cases s (lead s) with ⟨e1, _⟩ | ⟨_, e2⟩
    · rw [lead_prefix] at e1; cases e1
    · exact e2
  · rw [he]
    refine lead_all x y (fun c hc => ?_) hy
    rcases hx with ⟨n, rfl⟩ | ⟨t, hN, rfl⟩
    · obtain ⟨_, _, _, _, h⟩ := itoa_head n
      exact h c hc
    · exact word_bytes hN.1 (.inl ⟨rfl, rfl⟩) c hc
set_option maxHeartbeats 2000000 in
set_option maxRecDepth 100000 in
theorem impl_readWord (b d : Nat) (w : World) (s : List UInt8) (m : Nat) (h33 : ∀ x, s ≠ 33 :: x) (h40 : ∀ x, s ≠ 40 :: x) (hm : m + 1 ≤ 12) (hd : d ≤ 6) (h : RdAt w b TR s (m + 1) 12 6) (hl : s.length ≤ 1048576) (hk : KeepsE b w) :
    Calls Tryd.prog 77 #[.pointer (some ⟨b, 0, none⟩)] w fun e w' => Ans w b s m d e w' ∧ Only (Just b) w w' := by
  have hlt := h.lt
  have hA0 := at_word s h33 h40
  have hsl : (lead s).length ≤ s.length := by have := congrArg List.length hA0.eq; rw [List.length_append] at this; omega
  obtain ⟨t, ht⟩ : ∃ t, t = str (lead s) := ⟨_, rfl⟩
  have htd : t.data.toList = lead s := by rw [ht]; simp [str]
  obtain ⟨r, hr⟩ : ∃ r, r = skipped s (lead s) := ⟨_, rfl⟩
  have hA : AtWord s t.data.toList r := by rw [htd, hr]; exact hA0
  have htl : t.size ≤ 1048576 := by have : t.data.toList.length = t.size := rfl; rw [htd] at this; omega
  have htm : t.size ≤ maxLen := by unfold maxLen; omega
  obtain ⟨w1, hw1⟩ : ∃ w1, w1 = w.alloc zeroBox := ⟨_, rfl⟩
  have hb1 : PBox w1 w.heap.size 0 0 ⟨#[]⟩ (.slice none 0 0) := by rw [hw1]; exact heap_at_new w _
  have hB1 : Only (Just b) w w1 := by rw [hw1]; exact (Only.refl _ _).more _
  have hR1 : RdAt w1 b TR s (m + 1) 12 6 := by rw [hw1]; exact h.below ((Below.refl _ _).alloc (Nat.le_refl _) _)
  have hs1 : w1.heap.size = w.heap.size + 1 := by rw [hw1]; exact Array.size_push _
  have HFW := impl_firstWord (str s) w1
  have es : (str s).data.toList = s := by simp [str]
  rw [es, ← ht] at HFW
  have HSk : Hid (∀ w5, RdAt w5 b TR s (m + 1) 12 6 → Calls Tryd.prog 74 #[.pointer (some ⟨b, 0, none⟩), .string t] w5 fun e w' => e = .returned (.bool true) ∧ RdAt w' b TR r (m + 1) 12 6 ∧ Only (Just b) w5 w') := fun w5 h5 => by
    have := impl_skip w5 b TR s (lead s) (m + 1) 12 6 h5
    rw [lead_prefix, ← ht, ← hr] at this
    exact this
  have HP : Hid (∀ w2, Only (Just b) w w2 → _) := fun w2 hO => impl_ParseInt t htl w2 (hk.on hO).lib
  have HNm : Hid (∀ w, _) := fun w => impl_name t htm w
  have HW1 := Lib.hid hw1
  have H1 : Hid (PBox w1 w.heap.size 0 0 ⟨#[]⟩ (.slice none 0 0) ∧ Only (Just b) w w1 ∧ w1.heap.size = w.heap.size + 1 ∧ b < w.heap.size ∧ RdAt w1 b TR s (m + 1) 12 6) := ⟨hb1, hB1, hs1, hlt, hR1⟩
  have HA : Hid (AtWord s t.data.toList r ∧ m + 1 ≤ 12 ∧ d ≤ 6) := ⟨hA, hm, hd⟩
  have z0 : (w.alloc (.cells #[.int .i64 0, .int .i64 0, .string ⟨#[]⟩, .slice none 0 0] 40)).cell? ⟨b, 0, none⟩ = some (.string (str s)) := (four_cells (h.below (w' := w.alloc (.cells #[.int .i64 0, .int .i64 0, .string ⟨#[]⟩, .slice none 0 0] 40)) ((Below.refl _ _).alloc (Nat.le_refl _) _))).1
  generalize str s = us at *
  clear hA h hl hk hR1 hb1 hB1 hs1 hlt hw1 htl htm h33 h40 hm hd hA0 hsl ht htd hr es
  have hin : ∀ n, (-999999999999 ≤ n ∧ n ≤ 999999999999) ↔ inInt n = true := fun n => by simp [inInt]
  -- the box and the reader at a later world
  have HB : Hid (∀ w2 w3, Only (Just b) w1 w2 → RdAt w2 b TR r (m + 1) 12 6 → Below w2.heap.size w2 w3 → PBox w3 w.heap.size 0 0 ⟨#[]⟩ (.slice none 0 0) ∧ RdAt w3 b TR r (m + 1) 12 6 ∧ Only (Just b) w w3) := fun w2 w3 hO hR hb => by
    have hO3 := hO.trans (Only.of_below (F := Just b) hb)
    exact ⟨(hO3.block _ (by have := H1.out.2.2.1; omega) (by have := H1.out.2.2.2.1; show ¬ (w.heap.size = b); omega)).trans H1.out.1, hR.below hb, H1.out.2.1.trans hO3⟩
  cases hRd : readOf (-999999999999) 999999999999 t.data.toList with
  | some n =>
    rw [hRd] at HP
    obtain ⟨i1, i2, i3⟩ := (readOf_iff (by omega) (by omega)).1 hRd
    have HI := Lib.hid (int_ok HA.out.1 HA.out.2.1 HA.out.2.2 ((hin n).1 ⟨i1, i2⟩) i3)
    clear hRd i1 i2 i3 hin HNm
    go_enter Tryd.func77, Tryd.ntmps77
    go_wp2_with fail
    rw [← HW1.out]
    refine HFW.mono ?_
    clear HFW z0
    rintro e w2 ⟨rfl, hb2⟩
    have HS := HSk.out w2 (H1.out.2.2.2.2.below hb2)
    have HO2 : Hid (Only (Just b) w1 w2) := Only.of_below hb2
    clear hb2 HSk
    go_wp2_with fail
    refine HS.mono ?_
    clear HS
    rintro e w3 ⟨rfl, hR3, hO3⟩
    have HO3 : Hid (Only (Just b) w w3 ∧ Only (Just b) w1 w3 ∧ RdAt w3 b TR r (m + 1) 12 6) := ⟨(H1.out.2.1.trans HO2.out).trans hO3, HO2.out.trans hO3, hR3⟩
    clear hR3 hO3 HO2
    go_wp2_with fail
    refine (HP.out w3 HO3.out.1).mono ?_
    rintro e w4 ⟨he, hb⟩
    obtain rfl : e = .returned (.tuple #[.int .i64 n, .bool true]) := he
    have H2 := Lib.hid (HB.out w3 w4 HO3.out.2.1 HO3.out.2.2 hb)
    obtain ⟨x0, x1, x2, x3, f0, f1, f2, f3⟩ := four_cells H2.out.1
    clear HP hb
    go_wp2
    refine bodyPost_ret (results_row_tmp rfl _ _ w.heap.size _ _ _ _ rfl (set4_box H2.out.1 _ _ _ _) Tryd.underlying40 rfl (by kernel_rfl)) rfl ?_
    exact ans_leaf rfl H2.out.2.1 HI.out H2.out.2.2 (Nat.le_refl _) (by have := H1.out.2.2.2.1; omega)
  | none =>
    rw [hRd] at HP
    have HNI : Hid (∀ n, inInt n = true → Lib.itoa n ≠ t.data.toList) := fun n hn he => by
      have := (readOf_iff (by omega) (by omega)).2 ⟨((hin n).2 hn).1, ((hin n).2 hn).2, he⟩
      rw [hRd] at this
      cases this
    clear hRd hin
    by_cases hN : Name t
    · rw [bl_true hN] at HNm
      have HI := Lib.hid (var_ok HA.out.1 hN HA.out.2.1 HA.out.2.2)
      clear hN
      go_enter Tryd.func77, Tryd.ntmps77
      go_wp2_with fail
      rw [← HW1.out]
      refine HFW.mono ?_
      clear HFW z0
      rintro e w2 ⟨rfl, hb2⟩
      have HS := HSk.out w2 (H1.out.2.2.2.2.below hb2)
      have HO2 : Hid (Only (Just b) w1 w2) := Only.of_below hb2
      clear hb2 HSk
      go_wp2_with fail
      refine HS.mono ?_
      clear HS
      rintro e w3 ⟨rfl, hR3, hO3⟩
      have HO3 : Hid (Only (Just b) w w3 ∧ Only (Just b) w1 w3 ∧ RdAt w3 b TR r (m + 1) 12 6) := ⟨(H1.out.2.1.trans HO2.out).trans hO3, HO2.out.trans hO3, hR3⟩
      clear hR3 hO3 HO2
      go_wp2_with fail
      refine (HP.out w3 HO3.out.1).mono ?_
      rintro e w4 ⟨he, hb⟩
      obtain rfl : e = .returned (.tuple #[.int .i64 0, .bool false]) := he
      clear HP
      go_wp2_with fail
      refine (HNm.out _).mono ?_
      rintro e w5 ⟨rfl, hb5⟩
      have H2 := Lib.hid (HB.out w3 w5 HO3.out.2.1 HO3.out.2.2 (hb.trans (hb5.mono hb.size)))
      obtain ⟨x0, x1, x2, x3, f0, f1, f2, f3⟩ := four_cells H2.out.1
      clear hb hb5 HNm
      go_wp2
      refine bodyPost_ret (results_row_tmp rfl _ _ w.heap.size _ _ _ _ rfl (set4_box H2.out.1 _ _ _ _) Tryd.underlying40 rfl (by kernel_rfl)) rfl ?_
      exact ans_leaf rfl H2.out.2.1 HI.out H2.out.2.2 (Nat.le_refl _) (by have := H1.out.2.2.2.1; omega)
    · rw [bl_false hN] at HNm
      have HNO : Hid (NoneP 12 s m d) := word_none HA.out.1 (by rw [str_data]; exact hN) HNI.out
      clear hN
      go_enter Tryd.func77, Tryd.ntmps77
      go_wp2_with fail
      rw [← HW1.out]
      refine HFW.mono ?_
      clear HFW z0
      rintro e w2 ⟨rfl, hb2⟩
      have HS := HSk.out w2 (H1.out.2.2.2.2.below hb2)
      have HO2 : Hid (Only (Just b) w1 w2) := Only.of_below hb2
      clear hb2 HSk
      go_wp2_with fail
      refine HS.mono ?_
      clear HS
      rintro e w3 ⟨rfl, hR3, hO3⟩
      have HO3 : Hid (Only (Just b) w w3 ∧ Only (Just b) w1 w3 ∧ RdAt w3 b TR r (m + 1) 12 6) := ⟨(H1.out.2.1.trans HO2.out).trans hO3, HO2.out.trans hO3, hR3⟩
      clear hR3 hO3 HO2
      go_wp2_with fail
      refine (HP.out w3 HO3.out.1).mono ?_
      rintro e w4 ⟨he, hb⟩
      obtain rfl : e = .returned (.tuple #[.int .i64 0, .bool false]) := he
      clear HP
      go_wp2_with fail
      refine (HNm.out _).mono ?_
      rintro e w5 ⟨rfl, hb5⟩
      have H2 := Lib.hid (HB.out w3 w5 HO3.out.2.1 HO3.out.2.2 (hb.trans (hb5.mono hb.size)))
      obtain ⟨x0, x1, x2, x3, f0, f1, f2, f3⟩ := four_cells H2.out.1
      clear hb hb5 HNm
      go_wp2
      refine bodyPost_ret (results_row_tmp rfl _ _ w.heap.size _ _ _ _ rfl (set4_box H2.out.1 _ _ _ _) Tryd.underlying40 rfl (by kernel_rfl)) rfl ?_
      exact ans_none rfl H2.out.2.1 HNO.out H2.out.2.2 (Nat.le_refl _) (by have := H1.out.2.2.2.1; omega)
end Go.Proofs.YtdifefgigcjgeaaDoor.Ex
end

/- What is proved here: the program's readNot. Condition: read answers as said at the next depth. -/
section
namespace Go.Proofs.YtdifefgigcjgeaaDoor.Ex
open Go.RowKit

set_option maxHeartbeats 1000000 in
set_option maxRecDepth 100000 in
theorem impl_readNot (b d : Nat) (HR : ReadOk b (d + 1)) (w : World) (r : List UInt8) (m : Nat) (hm : m + 1 ≤ 12) (hd : d ≤ 6) (h : RdAt w b TR r (m + 1) 12 6) (hl : r.length ≤ 1048576) (hk : KeepsE b w) :
    Calls Tryd.prog 75 #[.pointer (some ⟨b, 0, none⟩), .int .i64 (d : Int)] w fun e w' => Ans w b (33 :: r) m d e w' ∧ Only (Just b) w w' := by
  have hlt := h.lt
  obtain ⟨w1, hw1⟩ : ∃ w1, w1 = w.alloc zeroBox := ⟨_, rfl⟩
  have hb1 : PBox w1 w.heap.size 0 0 ⟨#[]⟩ (.slice none 0 0) := by rw [hw1]; exact heap_at_new w _
  have hB1 : Only (Just b) w w1 := by rw [hw1]; exact (Only.refl _ _).more _
  have hR1 : RdAt w1 b TR r (m + 1) 12 6 := by rw [hw1]; exact h.below ((Below.refl _ _).alloc (Nat.le_refl _) _)
  have hs1 : w1.heap.size = w.heap.size + 1 := by rw [hw1]; exact Array.size_push _
  have HR1 := Lib.hid (show Calls Tryd.prog 41 #[.pointer (some ⟨b, 0, none⟩), .int .i64 ((d : Int) + 1)] w1 fun e w' => Ans w1 b r (m + 1) (d + 1) e w' ∧ Only (Just b) w1 w' from HR w1 r (m + 1) hR1 hm hl (hk.on hB1))
  have HW1 := Lib.hid hw1
  have H1 : Hid (PBox w1 w.heap.size 0 0 ⟨#[]⟩ (.slice none 0 0) ∧ Only (Just b) w w1 ∧ w1.heap.size = w.heap.size + 1 ∧ b < w.heap.size) := ⟨hb1, hB1, hs1, hlt⟩
  clear h hl hk HR hR1 hb1 hB1 hs1 hlt hw1
  go_enter Tryd.func75, Tryd.ntmps75
  go_wp2_with fail
  rw [← HW1.out]
  refine HR1.out.mono ?_
  clear HR1
  rintro e w3 ⟨hAns, hO3⟩
  have hb3 : PBox w3 w.heap.size 0 0 ⟨#[]⟩ (.slice none 0 0) := (hO3.block _ (by have := H1.out.2.2.1; omega) (by have := H1.out.2.2.2; show ¬ (w.heap.size = b); omega)).trans H1.out.1
  have HO3 : Hid (Only (Just b) w w3 ∧ w1.heap.size ≤ w3.heap.size) := ⟨H1.out.2.1.trans hO3, hO3.size⟩
  clear hO3
  rcases hAns with ⟨p, s', m', v, bs, rfl, ho, hnd, hbs, hR3, hP⟩ | ⟨s', m', rfl, hR3, hP⟩
  · obtain ⟨p2, cap2, rfl, _, _⟩ := ho.reads
    obtain ⟨n1, n2, n3, n4⟩ := two_new w3 (.cells #[.int .i64 p.k, .int .i64 p.n, .string p.t, .slice p2 p.F.length cap2] TP) (.cells #[.int .i64 p.k, .int .i64 p.n, .string p.t, .slice p2 p.F.length cap2] TP)
    have H4 : Hid (OwnV w3 (.slice p2 p.F.length cap2) p.F bs ∧ bs.Nodup ∧ (∀ c ∈ bs, w1.heap.size ≤ c ∧ c < w3.heap.size) ∧ RdAt w3 b TR s' m' 12 6 ∧ OkP 12 r (m + 1) (d + 1) p s' m') := ⟨ho, hnd, hbs, hR3, hP⟩
    have hb4 := (n4.block w.heap.size (Array.getElem?_eq_some_iff.1 hb3).1).trans hb3
    have H5 : Hid (PBox ((w3.alloc (.cells #[.int .i64 p.k, .int .i64 p.n, .string p.t, .slice p2 p.F.length cap2] TP)).alloc (.cells #[.int .i64 p.k, .int .i64 p.n, .string p.t, .slice p2 p.F.length cap2] TP)) w.heap.size 0 0 ⟨#[]⟩ (.slice none 0 0) ∧ PBox ((w3.alloc (.cells #[.int .i64 p.k, .int .i64 p.n, .string p.t, .slice p2 p.F.length cap2] TP)).alloc (.cells #[.int .i64 p.k, .int .i64 p.n, .string p.t, .slice p2 p.F.length cap2] TP)) (w3.heap.size + 1) p.k p.n p.t (.slice p2 p.F.length cap2) ∧ ((w3.alloc (.cells #[.int .i64 p.k, .int .i64 p.n, .string p.t, .slice p2 p.F.length cap2] TP)).alloc (.cells #[.int .i64 p.k, .int .i64 p.n, .string p.t, .slice p2 p.F.length cap2] TP)).heap.size = w3.heap.size + 2 ∧ Below w3.heap.size w3 ((w3.alloc (.cells #[.int .i64 p.k, .int .i64 p.n, .string p.t, .slice p2 p.F.length cap2] TP)).alloc (.cells #[.int .i64 p.k, .int .i64 p.n, .string p.t, .slice p2 p.F.length cap2] TP))) := ⟨hb4, n2, n3, n4⟩
    obtain ⟨y0, y1, y2, y3, i0, i1, i2, i3⟩ := four_cells hb4
    have hbn := heap_at_new w3 (.cells #[.int .i64 p.k, .int .i64 p.n, .string p.t, .slice p2 p.F.length cap2] TP)
    obtain ⟨x0, x1, x2, x3, f0, f1, f2, f3⟩ := four_cells hbn
    clear ho hnd hbs hR3 hP hb3 hb4 n1 n2 n3 n4 hbn
    go_wp2
    refine bodyPost_ret (results_row_tmp rfl _ _ w.heap.size _ _ _ _ rfl (set4_box H5.out.1 _ _ _ _) Tryd.underlying40 rfl (by kernel_rfl)) rfl ?_
    obtain ⟨k1, k2, k3, k4, k5⟩ := H4.out
    obtain ⟨j1, j2, j3, j4⟩ := H5.out
    have q1 := H1.out.2.2.1
    have q2 := HO3.out.2
    have q3 := H1.out.2.2.2
    refine ans_some (p := ⟨4, 0, ⟨#[]⟩, p.one .nil⟩) rfl (own_one j2 (k1.keep (fun c hc => j4.block c (k3 c hc).2))) (List.nodup_cons.2 ⟨fun hc => ?_, k2⟩) (fun c hc => ?_) (fun c hc => ?_) (k4.below j4) (not_ok k5) (HO3.out.1.trans (Only.of_below j4)) (Nat.le_refl _) (by omega)
    · have := k3 _ hc; omega
    · rcases List.mem_cons.1 hc with rfl | hc
      · exact ⟨by omega, Nat.lt_of_lt_of_eq (Nat.lt_succ_self _) j3.symm⟩
      · have := k3 c hc
        exact ⟨by omega, Nat.lt_of_lt_of_eq (m := w3.heap.size + 2) (by omega) j3.symm⟩
    · rcases List.mem_cons.1 hc with rfl | hc
      · omega
      · have := k3 c hc; omega
  · have H3 : Hid (PBox w3 w.heap.size 0 0 ⟨#[]⟩ (.slice none 0 0) ∧ RdAt w3 b TR s' m' 12 6 ∧ NoneP 12 r (m + 1) (d + 1)) := ⟨hb3, hR3, hP⟩
    clear hR3 hP
    have hb4 : PBox (w3.alloc zeroBox) w.heap.size 0 0 ⟨#[]⟩ (.slice none 0 0) := (Below.heap_alloc _ _ _ (Array.getElem?_eq_some_iff.1 hb3).1).trans hb3
    have HB4 := Lib.hid hb4
    obtain ⟨x0, x1, x2, x3, f0, f1, f2, f3⟩ := four_cells hb4
    clear hb3 hb4
    go_wp2
    refine bodyPost_ret (results_row_tmp rfl _ _ w.heap.size _ _ _ _ rfl (set4_box HB4.out _ _ _ _) Tryd.underlying40 rfl (by kernel_rfl)) rfl ?_
    have q3 := H1.out.2.2.2
    exact ans_none rfl (H3.out.2.1.below ((Below.refl _ _).alloc (Nat.le_refl _) _)) (not_none H3.out.2.2) (HO3.out.1.more _) (Nat.le_refl _) (by omega)
end Go.Proofs.YtdifefgigcjgeaaDoor.Ex
end

/- What is proved here: the program tells whether a number is one of an operator. No condition. -/
section
namespace Go.Proofs.YtdifefgigcjgeaaDoor
open Go.RowKit

set_option maxRecDepth 100000 in
theorem impl_inOp (n : Int) (w : World) :
    Calls Tryd.prog 98 #[.int .i64 n] w fun e w' => e = .returned (.bool (inOp n)) ∧ w' = w := by
  unfold inOp
  by_cases h1 : 1 ≤ n
  · have e1 : decide (1 ≤ n) = true := by simpa using h1
    rw [e1]
    clear h1
    go_enter Tryd.func98, Tryd.ntmps98
    go_wp2
    go_ret
    exact ⟨rfl, rfl⟩
  · have e1 : decide (1 ≤ n) = false := by simpa using h1
    rw [e1]
    clear h1
    go_enter Tryd.func98, Tryd.ntmps98
    go_wp2
    go_ret
    exact ⟨rfl, rfl⟩
end Go.Proofs.YtdifefgigcjgeaaDoor
end

/- What is proved here: the program's list of operators, and what stands between an operator's two. No condition. -/
section
namespace Go.Proofs.YtdifefgigcjgeaaDoor.Ex
open Go.RowKit

def opsV : Array Value := #[.string ⟨#[]⟩, .nilFunc, .string ⟨#[43]⟩, .func (.func 126) #[] #[], .string ⟨#[45]⟩, .func (.func 127) #[] #[], .string ⟨#[42]⟩, .func (.func 128) #[] #[], .string ⟨#[60]⟩, .func (.func 129) #[] #[], .string ⟨#[61, 61]⟩, .func (.func 131) #[] #[], .string ⟨#[38]⟩, .func (.func 132) #[] #[], .string ⟨#[124]⟩, .func (.func 133) #[] #[]]
set_option maxHeartbeats 1000000 in
set_option maxRecDepth 100000 in
theorem impl_operators (w : World) :
    Calls Tryd.prog 99 #[] w fun e w' => e = .returned (.agg opsV) ∧ Below w.heap.size w w' := by
  go_enter Tryd.func99, Tryd.ntmps99
  go_wp2
  refine bodyPost_ret (results_cell_row rfl _ _ w.heap.size _ _ _ _ rfl (heap_at_new w (.cells opsV 118)) Tryd.underlying118 rfl (by kernel_rfl)) rfl ?_
  exact ⟨rfl, (Below.refl _ _).alloc (Nat.le_refl _) _⟩
theorem ops_at1 (w : World) : (Instr.index 118 (.agg opsV) (.int .i64 1)).run Tryd.prog w = .ok (.agg #[.string ⟨#[43]⟩, .func (.func 126) #[] #[]]) w := by kernel_rfl
theorem ops_at2 (w : World) : (Instr.index 118 (.agg opsV) (.int .i64 2)).run Tryd.prog w = .ok (.agg #[.string ⟨#[45]⟩, .func (.func 127) #[] #[]]) w := by kernel_rfl
theorem ops_at3 (w : World) : (Instr.index 118 (.agg opsV) (.int .i64 3)).run Tryd.prog w = .ok (.agg #[.string ⟨#[42]⟩, .func (.func 128) #[] #[]]) w := by kernel_rfl
theorem ops_at4 (w : World) : (Instr.index 118 (.agg opsV) (.int .i64 4)).run Tryd.prog w = .ok (.agg #[.string ⟨#[60]⟩, .func (.func 129) #[] #[]]) w := by kernel_rfl
theorem ops_at5 (w : World) : (Instr.index 118 (.agg opsV) (.int .i64 5)).run Tryd.prog w = .ok (.agg #[.string ⟨#[61, 61]⟩, .func (.func 131) #[] #[]]) w := by kernel_rfl
theorem ops_at6 (w : World) : (Instr.index 118 (.agg opsV) (.int .i64 6)).run Tryd.prog w = .ok (.agg #[.string ⟨#[38]⟩, .func (.func 132) #[] #[]]) w := by kernel_rfl
theorem ops_at7 (w : World) : (Instr.index 118 (.agg opsV) (.int .i64 7)).run Tryd.prog w = .ok (.agg #[.string ⟨#[124]⟩, .func (.func 133) #[] #[]]) w := by kernel_rfl
theorem op_sign (s : ByteArray) (f : Value) (w : World) : (Instr.field 117 (.agg #[.string s, f]) 0).run Tryd.prog w = .ok (.string s) w := by kernel_rfl
theorem op_func (s : ByteArray) (f : FuncId) (w : World) : (Instr.field 117 (.agg #[.string s, .func (.func f) #[] #[]]) 1).run Tryd.prog w = .ok (.func (.func f) #[] #[]) w := by kernel_rfl
end Go.Proofs.YtdifefgigcjgeaaDoor.Ex
end

/- What is proved here: the program's spacedSymbol. Condition: the number is an operator's. -/
section
namespace Go.Proofs.YtdifefgigcjgeaaDoor.Ex
open Go.RowKit

set_option maxHeartbeats 1000000 in
set_option maxRecDepth 100000 in
theorem impl_sign (n : Int) (h : inOp n = true) (w : World) :
    Calls Tryd.prog 68 #[.int .i64 n] w fun e w' => e = .returned (.string (str (signE n))) ∧ Below w.heap.size w w' := by
  have HO := impl_operators w
  unfold opsV at HO
  rcases (inOp_iff n).1 h with rfl | rfl | rfl | rfl | rfl | rfl | rfl
  · have k1 : ∀ w, (Op.stringOp .add ⟨#[32]⟩ ⟨#[43]⟩).run Tryd.prog w = .ok (.string ⟨#[32, 43]⟩) w := fun w => cat [32] [43] (by simp) w
    have k2 : ∀ w, (Op.stringOp .add ⟨#[32, 43]⟩ ⟨#[32]⟩).run Tryd.prog w = .ok (.string ⟨#[32, 43, 32]⟩) w := fun w => cat [32, 43] [32] (by simp) w
    have hix := ops_at1
    unfold opsV at hix
    have hif := op_sign
    clear h 
    go_enter Tryd.func68, Tryd.ntmps68
    go_wp2_with fail
    refine HO.mono ?_
    rintro e w1 ⟨rfl, hb1⟩
    have HB1 := Lib.hid hb1
    clear hb1 HO
    go_wp2
    go_ret
    exact ⟨rfl, HB1.out⟩
  · have k1 : ∀ w, (Op.stringOp .add ⟨#[32]⟩ ⟨#[45]⟩).run Tryd.prog w = .ok (.string ⟨#[32, 45]⟩) w := fun w => cat [32] [45] (by simp) w
    have k2 : ∀ w, (Op.stringOp .add ⟨#[32, 45]⟩ ⟨#[32]⟩).run Tryd.prog w = .ok (.string ⟨#[32, 45, 32]⟩) w := fun w => cat [32, 45] [32] (by simp) w
    have hix := ops_at2
    unfold opsV at hix
    have hif := op_sign
    clear h 
    go_enter Tryd.func68, Tryd.ntmps68
    go_wp2_with fail
    refine HO.mono ?_
    rintro e w1 ⟨rfl, hb1⟩
    have HB1 := Lib.hid hb1
    clear hb1 HO
    go_wp2
    go_ret
    exact ⟨rfl, HB1.out⟩
  · have k1 : ∀ w, (Op.stringOp .add ⟨#[32]⟩ ⟨#[42]⟩).run Tryd.prog w = .ok (.string ⟨#[32, 42]⟩) w := fun w => cat [32] [42] (by simp) w
    have k2 : ∀ w, (Op.stringOp .add ⟨#[32, 42]⟩ ⟨#[32]⟩).run Tryd.prog w = .ok (.string ⟨#[32, 42, 32]⟩) w := fun w => cat [32, 42] [32] (by simp) w
    have hix := ops_at3
    unfold opsV at hix
    have hif := op_sign
    clear h 
    go_enter Tryd.func68, Tryd.ntmps68
    go_wp2_with fail
    refine HO.mono ?_
    rintro e w1 ⟨rfl, hb1⟩
    have HB1 := Lib.hid hb1
    clear hb1 HO
    go_wp2
    go_ret
    exact ⟨rfl, HB1.out⟩
  · have k1 : ∀ w, (Op.stringOp .add ⟨#[32]⟩ ⟨#[60]⟩).run Tryd.prog w = .ok (.string ⟨#[32, 60]⟩) w := fun w => cat [32] [60] (by simp) w
    have k2 : ∀ w, (Op.stringOp .add ⟨#[32, 60]⟩ ⟨#[32]⟩).run Tryd.prog w = .ok (.string ⟨#[32, 60, 32]⟩) w := fun w => cat [32, 60] [32] (by simp) w
    have hix := ops_at4
    unfold opsV at hix
    have hif := op_sign
    clear h 
    go_enter Tryd.func68, Tryd.ntmps68
    go_wp2_with fail
    refine HO.mono ?_
    rintro e w1 ⟨rfl, hb1⟩
    have HB1 := Lib.hid hb1
    clear hb1 HO
    go_wp2
    go_ret
    exact ⟨rfl, HB1.out⟩
  · have k1 : ∀ w, (Op.stringOp .add ⟨#[32]⟩ ⟨#[61, 61]⟩).run Tryd.prog w = .ok (.string ⟨#[32, 61, 61]⟩) w := fun w => cat [32] [61, 61] (by simp) w
    have k2 : ∀ w, (Op.stringOp .add ⟨#[32, 61, 61]⟩ ⟨#[32]⟩).run Tryd.prog w = .ok (.string ⟨#[32, 61, 61, 32]⟩) w := fun w => cat [32, 61, 61] [32] (by simp) w
    have hix := ops_at5
    unfold opsV at hix
    have hif := op_sign
    clear h 
    go_enter Tryd.func68, Tryd.ntmps68
    go_wp2_with fail
    refine HO.mono ?_
    rintro e w1 ⟨rfl, hb1⟩
    have HB1 := Lib.hid hb1
    clear hb1 HO
    go_wp2
    go_ret
    exact ⟨rfl, HB1.out⟩
  · have k1 : ∀ w, (Op.stringOp .add ⟨#[32]⟩ ⟨#[38]⟩).run Tryd.prog w = .ok (.string ⟨#[32, 38]⟩) w := fun w => cat [32] [38] (by simp) w
    have k2 : ∀ w, (Op.stringOp .add ⟨#[32, 38]⟩ ⟨#[32]⟩).run Tryd.prog w = .ok (.string ⟨#[32, 38, 32]⟩) w := fun w => cat [32, 38] [32] (by simp) w
    have hix := ops_at6
    unfold opsV at hix
    have hif := op_sign
    clear h 
    go_enter Tryd.func68, Tryd.ntmps68
    go_wp2_with fail
    refine HO.mono ?_
    rintro e w1 ⟨rfl, hb1⟩
    have HB1 := Lib.hid hb1
    clear hb1 HO
    go_wp2
    go_ret
    exact ⟨rfl, HB1.out⟩
  · have k1 : ∀ w, (Op.stringOp .add ⟨#[32]⟩ ⟨#[124]⟩).run Tryd.prog w = .ok (.string ⟨#[32, 124]⟩) w := fun w => cat [32] [124] (by simp) w
    have k2 : ∀ w, (Op.stringOp .add ⟨#[32, 124]⟩ ⟨#[32]⟩).run Tryd.prog w = .ok (.string ⟨#[32, 124, 32]⟩) w := fun w => cat [32, 124] [32] (by simp) w
    have hix := ops_at7
    unfold opsV at hix
    have hif := op_sign
    clear h 
    go_enter Tryd.func68, Tryd.ntmps68
    go_wp2_with fail
    refine HO.mono ?_
    rintro e w1 ⟨rfl, hb1⟩
    have HB1 := Lib.hid hb1
    clear hb1 HO
    go_wp2
    go_ret
    exact ⟨rfl, HB1.out⟩
end Go.Proofs.YtdifefgigcjgeaaDoor.Ex
end

/- What is proved here: the program's readOperator. Condition: the reader lies in memory as said. -/
section
namespace Go.Proofs.YtdifefgigcjgeaaDoor.Ex
open Go.RowKit

/-- What readOperator ends as. -/
def OperatorEnd (b : Nat) (s : List UInt8) (m : Nat) (e : Ending) (w' : World) : Prop :=
  (∃ n r, inOp n = true ∧ s = signE n ++ r ∧ e = .returned (.tuple #[.int .i64 n, .bool true]) ∧ RdAt w' b TR r m 12 6) ∨ ((∀ n, inOp n = true → ∀ x, s ≠ signE n ++ x) ∧ e = .returned (.tuple #[.int .i64 0, .bool false]) ∧ RdAt w' b TR s m 12 6)
set_option maxHeartbeats 2000000 in
set_option maxRecDepth 100000 in
theorem impl_operator (w : World) (b : Nat) (s : List UInt8) (m : Nat) (h : RdAt w b TR s m 12 6) :
    Calls Tryd.prog 107 #[.pointer (some ⟨b, 0, none⟩)] w fun e w' => OperatorEnd b s m e w' ∧ Only (Just b) w w' := by
  have H0 := Lib.hid h
  clear h
  go_enter Tryd.func107, Tryd.ntmps107
  go_wp2
  go_loopw [4] (fun i wr => ∃ (n : Nat), i = .int .i64 n ∧ 1 ≤ n ∧ n ≤ 8 ∧ Hid (RdAt wr b TR s m 12 6) ∧ Hid (∀ k : Nat, 1 ≤ k → k < n → ∀ x, s ≠ signE (k : Int) ++ x) ∧ Hid (Only (Just b) w wr)) (fun i _ => 8 - (intOf i).toNat)
  case atStart => exact ⟨1, rfl, by omega, by omega, H0, fun k h1 h2 => by omega, Only.refl _ _⟩
  case round =>
    obtain ⟨n, rfl, h1, h8, hR, hno, hO⟩ := hrel
    by_cases hn : n ≤ 7
    · have hin : inOp (n : Int) = true := by unfold inOp; simp only [Bool.and_eq_true, decide_eq_true_eq]; omega
      have HIO := impl_inOp (n : Int) wr
      rw [hin] at HIO
      have HSG := impl_sign (n : Int) hin
      have HSK := fun W (hW : RdAt W b TR s m 12 6) => impl_skip W b TR s (signE (n : Int)) m 12 6 hW
      have HIN := Lib.hid hin
      clear hin
      rcases skip_cases s (signE (n : Int)) with ⟨e1, e2, e3⟩ | ⟨e1, e2⟩
      · have HNO : Hid (∀ k : Nat, 1 ≤ k → k < n + 1 → ∀ x, s ≠ signE (k : Int) ++ x) := fun k k1 k2 => by
          by_cases hk : k = n
          · subst hk; exact e2
          · exact hno.out k k1 (by omega)
        rw [e1, e3] at HSK
        clear e1 e2 e3 hno
        generalize str (signE (n : Int)) = us at *
        have HSG2 := Lib.hid HSG
        have HSK2 := Lib.hid HSK
        clear HSG HSK
        go_wp2_with fail
        refine HIO.mono ?_
        rintro e w1 ⟨rfl, rfl⟩
        clear HIO
        have HD : Hid (Below w1.heap.size w1 w1.drew) := (Below.refl _ _).drew
        go_wp2
        go_region_held3 (fun _ => True)
          (first
            | go_keep
            | trivial
            | fail "no arm")
          (first
            | (go_at_call 68; (with_reducible refine (HSG2.out w1.drew).mono ?_); rintro e w2 ⟨rfl, hb2⟩; have HB2 : Hid (Below w1.heap.size w1 w2) := Below.trans HD.out (hb2.mono HD.out.size); have HR2 := Lib.hid (RdAt.below (w := w1) (w' := w2) hR.out HB2.out); clear hb2)
            | (go_at_call 74; (with_reducible refine (HSK2.out w2 HR2.out).mono ?_); rintro e w3 ⟨rfl, hR3, hO3⟩; have HR3 := Lib.hid hR3; have HO3 : Hid (Only (Just b) w w3) := (hO.out.trans (Only.of_below HB2.out)).trans hO3; clear hR3 hO3)
            | fail "no arm")
        go_wp2
        go_roundw
        case rel => exact ⟨n + 1, by go_num, by omega, by omega, HR3, HNO, HO3⟩
        case measure => simp [intOf]; omega
      · rw [e1] at HSK
        generalize skipped s (signE (n : Int)) = r at *
        have HEQ := Lib.hid e2
        clear e1 e2 hno
        generalize str (signE (n : Int)) = us at *
        have HSG2 := Lib.hid HSG
        have HSK2 := Lib.hid HSK
        clear HSG HSK
        go_wp2_with fail
        refine HIO.mono ?_
        rintro e w1 ⟨rfl, rfl⟩
        clear HIO
        have HD : Hid (Below w1.heap.size w1 w1.drew) := (Below.refl _ _).drew
        go_wp2
        go_region_held3 (fun _ => True)
          (first
            | go_keep
            | trivial
            | fail "no arm")
          (first
            | (go_at_call 68; (with_reducible refine (HSG2.out w1.drew).mono ?_); rintro e w2 ⟨rfl, hb2⟩; have HB2 : Hid (Below w1.heap.size w1 w2) := Below.trans HD.out (hb2.mono HD.out.size); have HR2 := Lib.hid (RdAt.below (w := w1) (w' := w2) hR.out HB2.out); clear hb2)
            | (go_at_call 74; (with_reducible refine (HSK2.out w2 HR2.out).mono ?_); rintro e w3 ⟨rfl, hR3, hO3⟩; have HR3 := Lib.hid hR3; have HO3 : Hid (Only (Just b) w w3) := (hO.out.trans (Only.of_below HB2.out)).trans hO3; clear hR3 hO3)
            | fail "no arm")
        go_wp2
        go_ret2
        exact ⟨.inl ⟨n, r, HIN.out, HEQ.out, rfl, HR3.out⟩, HO3.out⟩
    · obtain rfl : n = 8 := by omega
      have hin : inOp ((8 : Nat) : Int) = false := by decide
      have HIO := impl_inOp ((8 : Nat) : Int) wr
      rw [hin] at HIO
      have HNO : Hid (∀ n, inOp n = true → ∀ x, s ≠ signE n ++ x) := fun n hn x => by
        rcases (inOp_iff n).1 hn with rfl | rfl | rfl | rfl | rfl | rfl | rfl
        · exact hno.out 1 (by omega) (by omega) x
        · exact hno.out 2 (by omega) (by omega) x
        · exact hno.out 3 (by omega) (by omega) x
        · exact hno.out 4 (by omega) (by omega) x
        · exact hno.out 5 (by omega) (by omega) x
        · exact hno.out 6 (by omega) (by omega) x
        · exact hno.out 7 (by omega) (by omega) x
      clear hno hin
      go_wp2_with fail
      refine HIO.mono ?_
      rintro e w1 ⟨rfl, rfl⟩
      clear HIO
      go_wp2
      go_ret2
      exact ⟨.inr ⟨HNO.out, rfl, hR.out⟩, hO.out⟩
end Go.Proofs.YtdifefgigcjgeaaDoor.Ex
end
