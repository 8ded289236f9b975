/- What is proved here: a piece of the proof of YtdifefgigcjgeaaGreatDoorExactParsePat (PatOr, PatReads, ImplParsePat). Condition: none beyond what each part says. -/
import Derived.Test.YtdifefgigcjgeaaGreatDoorPp07
import Derived.Test.YtdifefgigcjgeaaGreatDoorPp14

/- What is proved here: the program's readOr. Condition: read answers as said at the next depth. -/
section
namespace Go.Proofs.YtdifefgigcjgeaaGreatDoor
open Go.RowKit

abbrev boxOf (p : PatD) (v : Value) : Obj := .cells #[.int .i64 p.k, .int .i64 p.n, .string p.t, v] TP
set_option maxHeartbeats 2000000 in
set_option maxRecDepth 100000 in
theorem impl_readOr (b d : Nat) (HR : ReadOk b (d + 1)) (w : World) (r : List UInt8) (m : Nat) (hm : m + 1 ≤ 24) (hd : d ≤ 8) (h : RdAt w b TR r (m + 1) 24 8) (hl : r.length ≤ 1048576) (hk : Keeps b w) :
    Calls Tryz.prog 120 #[.pointer (some ⟨b, 0, none⟩), .int .i64 (d : Int)] w fun e w' => Ans w b (40 :: r) m d e w' ∧ Only (Just b) w w' := by
  have hlt := h.lt
  obtain ⟨w1, hw1⟩ : ∃ w1, w1 = w.alloc zeroBox := ⟨_, rfl⟩
  have hb1 : PBox w1 w.heap.size 0 0 ⟨#[]⟩ (.slice none 0 0) := by rw [hw1]; exact heap_at_new w _
  have hB1 : Only (Just b) w w1 := by rw [hw1]; exact (Only.refl _ _).more _
  have hR1 : RdAt w1 b TR r (m + 1) 24 8 := by rw [hw1]; exact h.below ((Below.refl _ _).alloc (Nat.le_refl _) _)
  have hs1 : w1.heap.size = w.heap.size + 1 := by rw [hw1]; exact Array.size_push _
  have HR' : ∀ w2 s2 m2, RdAt w2 b TR s2 m2 24 8 → m2 ≤ 24 → s2.length ≤ 1048576 → Keeps b w2 → Calls Tryz.prog 61 #[.pointer (some ⟨b, 0, none⟩), .int .i64 ((d : Int) + 1)] w2 fun e w' => Ans w2 b s2 m2 (d + 1) e w' ∧ Only (Just b) w2 w' :=
    fun w2 s2 m2 h1 h2 h3 h4 => HR w2 s2 m2 h1 h2 h3 h4
  have HRead := Lib.hid HR'
  have HC1 := Lib.hid (HR' w1 r (m + 1) hR1 hm hl (hk.on hB1))
  have HW1 := Lib.hid hw1
  have H1 : Hid (PBox w1 w.heap.size 0 0 ⟨#[]⟩ (.slice none 0 0) ∧ Only (Just b) w w1 ∧ w1.heap.size = w.heap.size + 1 ∧ b < w.heap.size ∧ Keeps b w ∧ r.length ≤ 1048576 ∧ m + 1 ≤ 24) := ⟨hb1, hB1, hs1, hlt, hk, hl, hm⟩
  clear hw1 HR HR' hb1 hB1 hR1 hs1 hlt hk hl hm h
  go_enter Tryz.func120, Tryz.ntmps120
  go_wp2_with fail
  rw [← HW1.out]
  refine HC1.out.mono ?_
  clear HC1
  rintro e w2 ⟨hAns, hO2⟩
  obtain ⟨a1, a2, a3, a4, a5, a6, a7⟩ := H1.out
  have hs2 := hO2.size
  have hb2 : PBox w2 w.heap.size 0 0 ⟨#[]⟩ (.slice none 0 0) := (hO2.block _ (by omega) (by show ¬ (w.heap.size = b); omega)).trans a1
  have hO2' := a2.trans hO2
  clear HW1 H1 hO2
  rcases hAns with ⟨p, s2, m2, v, bs, rfl, ho, hnd, hbs, hR2, hP⟩ | ⟨s2, m2, rfl, hR2, hP⟩
  rotate_left
  · -- the first is none
    have hb3 : PBox (w2.alloc zeroBox) w.heap.size 0 0 ⟨#[]⟩ (.slice none 0 0) := (Below.heap_alloc _ _ _ (Array.getElem?_eq_some_iff.1 hb2).1).trans hb2
    have H3 : Hid (PBox (w2.alloc zeroBox) w.heap.size 0 0 ⟨#[]⟩ (.slice none 0 0) ∧ RdAt w2 b TR s2 m2 24 8 ∧ NoneP (40 :: r) m d ∧ Only (Just b) w w2 ∧ b < w.heap.size) := ⟨hb3, hR2, or_none1 hP, hO2', a4⟩
    obtain ⟨x0, x1, x2, x3, f0, f1, f2, f3⟩ := four_cells hb3
    clear hb3 hb2 hP hR2 hO2' a1 a2 a3 a4 a5 a6 a7 hs2
    go_wp2
    refine bodyPost_ret (results_row_tmp rfl _ _ w.heap.size _ _ _ _ rfl (set4_box H3.out.1 _ _ _ _) Tryz.underlying49 rfl (by kernel_rfl)) rfl ?_
    have q3 := H3.out.2.2.2.2
    exact ans_none rfl (H3.out.2.1.below ((Below.refl _ _).alloc (Nat.le_refl _) _)) H3.out.2.2.1 (H3.out.2.2.2.1.more _) (Nat.le_refl _) (by omega)
  obtain ⟨p2, cap2, rfl, _, _⟩ := ho.reads
  obtain ⟨w3, hw3⟩ : ∃ w3, w3 = w2.alloc (boxOf p (.slice p2 p.F.length cap2)) := ⟨_, rfl⟩
  have hB3 : Below w2.heap.size w2 w3 := by rw [hw3]; exact (Below.refl _ _).alloc (Nat.le_refl _) _
  have hn3 : w3.heap[w2.heap.size]? = some (boxOf p (.slice p2 p.F.length cap2)) := by rw [hw3]; exact heap_at_new w2 _
  have hs3 : w3.heap.size = w2.heap.size + 1 := by rw [hw3]; exact Array.size_push _
  have hR3 := hR2.below hB3
  have HS := impl_skip w3 b TR s2 [32, 124, 32] m2 24 8 hR3
  have hb3 := (hB3.block _ (Array.getElem?_eq_some_iff.1 hb2).1).trans hb2
  have hO3 := hO2'.trans (Only.of_below (F := Just b) hB3)
  have ho3 := ho.keep (fun c hc => hB3.block c (hbs c hc).2)
  have HW3 := Lib.hid hw3
  obtain ⟨z0, z1, z2, z3, j0, j1, j2, j3⟩ := four_cells (heap_at_new w2 (boxOf p (.slice p2 p.F.length cap2)))
  have hsl : s2.length ≤ r.length := by have := congrArg List.length hP.text; rw [List.length_append] at this; omega
  have H3 : Hid (PBox w3 w.heap.size 0 0 ⟨#[]⟩ (.slice none 0 0) ∧ Only (Just b) w w3 ∧ b < w.heap.size ∧ Keeps b w ∧ s2.length ≤ 1048576 ∧ m + 1 ≤ 24 ∧ w3.heap.size = w2.heap.size + 1 ∧ w.heap.size + 1 ≤ w2.heap.size) := ⟨hb3, hO3, a4, a5, by omega, a7, hs3, by omega⟩
  have H3b : Hid (Pt.OwnV w3 (.slice p2 p.F.length cap2) p.F bs ∧ bs.Nodup ∧ (∀ c ∈ bs, w1.heap.size ≤ c ∧ c < w2.heap.size) ∧ OkP r (m + 1) (d + 1) p s2 m2 ∧ w3.heap[w2.heap.size]? = some (boxOf p (.slice p2 p.F.length cap2)) ∧ w1.heap.size = w.heap.size + 1) := ⟨ho3, hnd, hbs, hP, hn3, a3⟩
  clear hw3 hB3 hn3 hs3 hR3 hb3 hO3 ho3 ho hnd hbs hR2 hP hb2 hO2' a1 a2 a3 a4 a5 a6 a7 hs2 hsl
  go_wp2_with fail
  rw [← HW3.out]
  rcases skip_cases s2 [32, 124, 32] with ⟨e1, e2, e3⟩ | ⟨e1, e2⟩
  · -- no bar
    rw [e1, e3] at HS
    have HN := Lib.hid (or_none2 H3b.out.2.2.2.1 (fun x => e2 x))
    clear e1 e2 e3 HRead
    refine HS.mono ?_
    rintro e w4 ⟨rfl, hR4, hO4⟩
    have hb4 : PBox w4 w.heap.size 0 0 ⟨#[]⟩ (.slice none 0 0) := (hO4.block _ (by have := H3.out; omega) (by have := H3.out.2.2.1; show ¬ (w.heap.size = b); omega)).trans H3.out.1
    have H4 : Hid (PBox w4 w.heap.size 0 0 ⟨#[]⟩ (.slice none 0 0) ∧ RdAt w4 b TR s2 m2 24 8 ∧ Only (Just b) w w4) := ⟨hb4, hR4, H3.out.2.1.trans hO4⟩
    clear z0 z1 z2 z3 j0 j1 j2 j3
    obtain ⟨x0, x1, x2, x3, f0, f1, f2, f3⟩ := four_cells hb4
    clear hb4 hR4 hO4 HS
    go_wp2
    refine bodyPost_ret (results_row_tmp rfl _ _ w.heap.size _ _ _ _ rfl (set4_box H4.out.1 _ _ _ _) Tryz.underlying49 rfl (by kernel_rfl)) rfl ?_
    have q3 := H3.out.2.2.1
    exact ans_none rfl H4.out.2.1 HN.out H4.out.2.2 (Nat.le_refl _) (by omega)
  · rw [e1] at HS
    generalize skipped s2 [32, 124, 32] = r1 at *
    have e4 : s2 = 32 :: 124 :: 32 :: r1 := e2
    subst e4
    clear e1 e2
    refine HS.mono ?_
    rintro e w4 ⟨rfl, hR4, hO4⟩
    clear z0 z1 z2 z3 j0 j1 j2 j3 HS
    obtain ⟨a1, a2, a3, a4, a5, a6, a7, a8⟩ := H3.out
    obtain ⟨c1, c2, c3, c4, c5, c6⟩ := H3b.out
    have hs4 := hO4.size
    have k4 : ∀ c, c < w3.heap.size → c ≠ b → w4.heap[c]? = w3.heap[c]? := fun c hc hn => hO4.block c hc hn
    have hm2 : m2 ≤ 24 := by have h1 := c4.nodes; have h2 := c4.fits.1; omega
    have hr1 : r1.length ≤ 1048576 := by simp only [List.length_cons] at a5; omega
    have HC4 := Lib.hid (HRead.out w4 r1 m2 hR4 hm2 hr1 ((a4.on a2).on hO4))
    have H4 : Hid (PBox w4 w.heap.size 0 0 ⟨#[]⟩ (.slice none 0 0) ∧ Only (Just b) w w4 ∧ w3.heap.size ≤ w4.heap.size ∧ w4.heap[w2.heap.size]? = some (boxOf p (.slice p2 p.F.length cap2)) ∧ Pt.OwnV w4 (.slice p2 p.F.length cap2) p.F bs) :=
      ⟨(k4 _ (by omega) (by omega)).trans a1, a2.trans hO4, hs4, (k4 _ (by omega) (by omega)).trans c5, c1.keep (fun c hc => k4 c (by have := c3 c hc; omega) (by have := c3 c hc; omega))⟩
    clear a1 a2 a3 a4 a5 a6 a7 a8 c1 c2 c3 c4 c5 c6 hs4 k4 hm2 hr1 HRead hR4 hO4
    go_wp2_with fail
    refine HC4.out.mono ?_
    clear HC4
    rintro e w5 ⟨hAns, hO5⟩
    obtain ⟨a1, a2, a3, a4, a5, a6, a7, a8⟩ := H3.out
    obtain ⟨c1, c2, c3, c4, c5⟩ := H4.out
    have hs5 := hO5.size
    have k5 : ∀ c, c < w4.heap.size → c ≠ b → w5.heap[c]? = w4.heap[c]? := fun c hc hn => hO5.block c hc hn
    have hb5 : PBox w5 w.heap.size 0 0 ⟨#[]⟩ (.slice none 0 0) := (k5 _ (by omega) (by omega)).trans c1
    have hx5 := (k5 w2.heap.size (by omega) (by omega)).trans c4
    have ho5 := c5.keep (fun c hc => k5 c (by have := H3b.out.2.2.1 c hc; omega) (by have := H3b.out.2.2.1 c hc; have := H3b.out.2.2.2.2.2; omega))
    have hO5' := c2.trans hO5
    rcases hAns with ⟨q, s5, m5, u, bs2, rfl, hq, hnd2, hbs2, hR5, hQ⟩ | ⟨s5, m5, rfl, hR5, hQ⟩
    rotate_left
    · have hb6 : PBox (w5.alloc zeroBox) w.heap.size 0 0 ⟨#[]⟩ (.slice none 0 0) := (Below.heap_alloc _ _ _ (Array.getElem?_eq_some_iff.1 hb5).1).trans hb5
      have H6 : Hid (PBox (w5.alloc zeroBox) w.heap.size 0 0 ⟨#[]⟩ (.slice none 0 0) ∧ RdAt w5 b TR s5 m5 24 8 ∧ NoneP (40 :: r) m d ∧ Only (Just b) w w5 ∧ b < w.heap.size) := ⟨hb6, hR5, or_none3 H3b.out.2.2.2.1 hQ, hO5', a3⟩
      obtain ⟨x0, x1, x2, x3, f0, f1, f2, f3⟩ := four_cells hb6
      clear hb6 hb5 hQ hR5 hO5' a1 a2 a3 a4 a5 a6 a7 a8 c1 c2 c3 c4 c5 hs5 k5 hx5 ho5 hO5
      go_wp2
      refine bodyPost_ret (results_row_tmp rfl _ _ w.heap.size _ _ _ _ rfl (set4_box H6.out.1 _ _ _ _) Tryz.underlying49 rfl (by kernel_rfl)) rfl ?_
      have q3 := H6.out.2.2.2.2
      exact ans_none rfl (H6.out.2.1.below ((Below.refl _ _).alloc (Nat.le_refl _) _)) H6.out.2.2.1 (H6.out.2.2.2.1.more _) (Nat.le_refl _) (by omega)
    obtain ⟨p4, cap4, rfl, _, _⟩ := hq.reads
    obtain ⟨w6, hw6⟩ : ∃ w6, w6 = w5.alloc (boxOf q (.slice p4 q.F.length cap4)) := ⟨_, rfl⟩
    have hB6 : Below w5.heap.size w5 w6 := by rw [hw6]; exact (Below.refl _ _).alloc (Nat.le_refl _) _
    have hn6 : w6.heap[w5.heap.size]? = some (boxOf q (.slice p4 q.F.length cap4)) := by rw [hw6]; exact heap_at_new w5 _
    have hs6 : w6.heap.size = w5.heap.size + 1 := by rw [hw6]; exact Array.size_push _
    have HS := impl_skip w6 b TR s5 [41] m5 24 8 (hR5.below hB6)
    obtain ⟨z0, z1, z2, z3, j0, j1, j2, j3⟩ := four_cells (heap_at_new w5 (boxOf q (.slice p4 q.F.length cap4)))
    have k6 : ∀ c, c < w5.heap.size → w6.heap[c]? = w5.heap[c]? := fun c hc => hB6.block c hc
    have H6 : Hid (PBox w6 w.heap.size 0 0 ⟨#[]⟩ (.slice none 0 0) ∧ Only (Just b) w w6 ∧ w6.heap[w2.heap.size]? = some (boxOf p (.slice p2 p.F.length cap2)) ∧ w6.heap[w5.heap.size]? = some (boxOf q (.slice p4 q.F.length cap4)) ∧ w6.heap.size = w5.heap.size + 1 ∧ w4.heap.size ≤ w5.heap.size ∧ w3.heap.size ≤ w4.heap.size) :=
      ⟨(k6 _ (by omega)).trans hb5, hO5'.trans (Only.of_below hB6), (k6 _ (by omega)).trans hx5, hn6, hs6, hs5, c3⟩
    have H6b : Hid (Pt.OwnV w6 (.slice p2 p.F.length cap2) p.F bs ∧ Pt.OwnV w6 (.slice p4 q.F.length cap4) q.F bs2 ∧ bs2.Nodup ∧ (∀ c ∈ bs2, w4.heap.size ≤ c ∧ c < w5.heap.size) ∧ OkP r1 m2 (d + 1) q s5 m5) :=
      ⟨ho5.keep (fun c hc => k6 c (by have := H3b.out.2.2.1 c hc; omega)), hq.keep (fun c hc => k6 c (hbs2 c hc).2), hnd2, hbs2, hQ⟩
    have HW6 := Lib.hid hw6
    clear hw6 hB6 hn6 hs6 k6 a1 a2 a3 a4 a5 a6 a7 a8 c1 c2 c3 c4 c5 hs5 k5 hx5 ho5 hO5 hb5 hq hnd2 hbs2 hR5 hQ hO5'
    go_wp2_with fail
    rw [← HW6.out]
    rcases skip_cases s5 [41] with ⟨e1, e2, e3⟩ | ⟨e1, e2⟩
    · rw [e1, e3] at HS
      have HN := Lib.hid (or_none4 H3b.out.2.2.2.1 H6b.out.2.2.2.2 (fun x => e2 x))
      clear e1 e2 e3
      refine HS.mono ?_
      rintro e w7 ⟨rfl, hR7, hO7⟩
      have hb7 : PBox w7 w.heap.size 0 0 ⟨#[]⟩ (.slice none 0 0) := (hO7.block _ (by have := H3.out; have := H6.out; omega) (by have := H3.out.2.2.1; show ¬ (w.heap.size = b); omega)).trans H6.out.1
      have H7 : Hid (PBox w7 w.heap.size 0 0 ⟨#[]⟩ (.slice none 0 0) ∧ RdAt w7 b TR s5 m5 24 8 ∧ Only (Just b) w w7) := ⟨hb7, hR7, H6.out.2.1.trans hO7⟩
      clear z0 z1 z2 z3 j0 j1 j2 j3
      obtain ⟨x0, x1, x2, x3, f0, f1, f2, f3⟩ := four_cells hb7
      clear hb7 hR7 hO7 HS
      go_wp2
      refine bodyPost_ret (results_row_tmp rfl _ _ w.heap.size _ _ _ _ rfl (set4_box H7.out.1 _ _ _ _) Tryz.underlying49 rfl (by kernel_rfl)) rfl ?_
      have q3 := H3.out.2.2.1
      exact ans_none rfl H7.out.2.1 HN.out H7.out.2.2 (Nat.le_refl _) (by omega)
    · rw [e1] at HS
      generalize skipped s5 [41] = r2 at *
      have e4 : s5 = 41 :: r2 := e2
      subst e4
      clear e1 e2
      refine HS.mono ?_
      rintro e w7 ⟨rfl, hR7, hO7⟩
      clear z0 z1 z2 z3 j0 j1 j2 j3 HS
      obtain ⟨a1, a2, a3, a4, a5, a6, a7, a8⟩ := H3.out
      obtain ⟨c1, c2, c3, c4, c5, c6, c7⟩ := H6.out
      obtain ⟨g1, g2, g3, g4, g5⟩ := H6b.out
      have hs7 := hO7.size
      have k7 : ∀ c, c < w6.heap.size → c ≠ b → w7.heap[c]? = w6.heap[c]? := fun c hc hn => hO7.block c hc hn
      have hrow := heap_at_new w7 (.cells #[.int .i64 p.k, .int .i64 p.n, .string p.t, .slice p2 p.F.length cap2, .int .i64 q.k, .int .i64 q.n, .string q.t, .slice p4 q.F.length cap4] TP)
      have hB8 : Below w7.heap.size w7 (w7.alloc (.cells #[.int .i64 p.k, .int .i64 p.n, .string p.t, .slice p2 p.F.length cap2, .int .i64 q.k, .int .i64 q.n, .string q.t, .slice p4 q.F.length cap4] TP)) := (Below.refl _ _).alloc (Nat.le_refl _) _
      have hs8 : (w7.alloc (.cells #[.int .i64 p.k, .int .i64 p.n, .string p.t, .slice p2 p.F.length cap2, .int .i64 q.k, .int .i64 q.n, .string q.t, .slice p4 q.F.length cap4] TP)).heap.size = w7.heap.size + 1 := Array.size_push _
      have hb7 : PBox w7 w.heap.size 0 0 ⟨#[]⟩ (.slice none 0 0) := (k7 _ (by omega) (by omega)).trans c1
      obtain ⟨x0, x1, x2, x3, _, _, _, _⟩ := four_cells ((k7 w2.heap.size (by omega) (by omega)).trans c3)
      obtain ⟨y0, y1, y2, y3, _, _, _, _⟩ := four_cells ((k7 w5.heap.size (by omega) (by omega)).trans c4)
      have hb8 := (hB8.block _ (Array.getElem?_eq_some_iff.1 hb7).1).trans hb7
      obtain ⟨i0, i1, i2, i3, f0, f1, f2, f3⟩ := four_cells hb8
      have o1 := (g1.keep (fun c hc => k7 c (by have := H3b.out.2.2.1 c hc; omega) (by have := H3b.out.2.2.1 c hc; have := H3b.out.2.2.2.2.2; omega)))
      have o2 := (g2.keep (fun c hc => k7 c (by have := g4 c hc; omega) (by have := g4 c hc; omega)))
      have l1 : ∀ c ∈ bs, c < w7.heap.size := fun c hc => by have := H3b.out.2.2.1 c hc; omega
      have l2 : ∀ c ∈ bs2, c < w7.heap.size := fun c hc => by have := g4 c hc; omega
      have H8 := Lib.hid (And.intro hb8 (own_two hrow (o1.keep (fun c hc => hB8.block c (l1 c hc))) (o2.keep (fun c hc => hB8.block c (l2 c hc)))))
      have H8b : Hid (RdAt (w7.alloc (.cells #[.int .i64 p.k, .int .i64 p.n, .string p.t, .slice p2 p.F.length cap2, .int .i64 q.k, .int .i64 q.n, .string q.t, .slice p4 q.F.length cap4] TP)) b TR r2 m5 24 8 ∧ Only (Just b) w (w7.alloc (.cells #[.int .i64 p.k, .int .i64 p.n, .string p.t, .slice p2 p.F.length cap2, .int .i64 q.k, .int .i64 q.n, .string q.t, .slice p4 q.F.length cap4] TP)) ∧ w6.heap.size ≤ w7.heap.size ∧ (w7.alloc (.cells #[.int .i64 p.k, .int .i64 p.n, .string p.t, .slice p2 p.F.length cap2, .int .i64 q.k, .int .i64 q.n, .string q.t, .slice p4 q.F.length cap4] TP)).heap.size = w7.heap.size + 1) :=
        ⟨hR7.below hB8, (c2.trans hO7).more _, hs7, hs8⟩
      clear a1 a2 a3 a4 a5 a6 a7 a8 c1 c2 c3 c4 c5 c6 c7 g1 g2 g3 g4 g5 hs7 k7 hrow hB8 hs8 hb7 hb8 o1 o2 l1 l2 hR7 hO7
      go_wp2
      refine bodyPost_ret (results_row_tmp rfl _ _ w.heap.size _ _ _ _ rfl (set4_box H8.out.1 _ _ _ _) Tryz.underlying49 rfl (by kernel_rfl)) rfl ?_
      obtain ⟨a1, a2, a3, a4, a5, a6, a7, a8⟩ := H3.out
      obtain ⟨c1, c2, c3, c4, c5, c6, c7⟩ := H6.out
      obtain ⟨b1, b2, b3, b4, b5, b6⟩ := H3b.out
      obtain ⟨g1, g2, g3, g4, g5⟩ := H6b.out
      obtain ⟨t1, t2, t3, t4⟩ := H8b.out
      refine ans_some (p := ⟨6, 0, ⟨#[]⟩, p.one (q.one .nil)⟩) rfl H8.out.2 (List.nodup_cons.2 ⟨fun hc => ?_, List.nodup_append.2 ⟨b2, g3, fun x hx y hy e => ?_⟩⟩) (fun c hc => ?_) (fun c hc => ?_) t1 (or_ok b4 g5) t2 (Nat.le_refl _) (by omega)
      · rcases List.mem_append.1 hc with hc | hc
        · have := b3 _ hc; omega
        · have := g4 _ hc; omega
      · have := b3 _ hx; have := g4 _ hy; omega
      · rcases List.mem_cons.1 hc with rfl | hc
        · exact ⟨by omega, Nat.lt_of_lt_of_eq (Nat.lt_succ_self _) t4.symm⟩
        · rcases List.mem_append.1 hc with hc | hc
          · have := b3 _ hc; exact ⟨by omega, Nat.lt_of_lt_of_eq (m := w7.heap.size + 1) (by omega) t4.symm⟩
          · have := g4 _ hc; exact ⟨by omega, Nat.lt_of_lt_of_eq (m := w7.heap.size + 1) (by omega) t4.symm⟩
      · rcases List.mem_cons.1 hc with rfl | hc
        · omega
        · rcases List.mem_append.1 hc with hc | hc
          · have := b3 _ hc; omega
          · have := g4 _ hc; omega
end Go.Proofs.YtdifefgigcjgeaaGreatDoor
end

/- What is proved here: the program's read of a pattern. Condition: read answers as said at the next depth. -/
section
namespace Go.Proofs.YtdifefgigcjgeaaGreatDoor
open Go.RowKit

set_option maxHeartbeats 4000000 in
set_option maxRecDepth 100000 in
theorem impl_read (b d : Nat) (HR : d ≤ 8 → ReadOk b (d + 1)) : ReadOk b d := fun w s m h hm hl hk => by
  have hlt := h.lt
  obtain ⟨w1, hw1⟩ : ∃ w1, w1 = w.alloc zeroBox := ⟨_, rfl⟩
  have hb1 : PBox w1 w.heap.size 0 0 ⟨#[]⟩ (.slice none 0 0) := by rw [hw1]; exact heap_at_new w _
  have hB1 : Only (Just b) w w1 := by rw [hw1]; exact (Only.refl _ _).more _
  have hR1 : RdAt w1 b TR s m 24 8 := by rw [hw1]; exact h.below ((Below.refl _ _).alloc (Nat.le_refl _) _)
  have hs1 : w1.heap.size = w.heap.size + 1 := by rw [hw1]; exact Array.size_push _
  have HS := impl_begin w1 b TR s m 24 8 d hR1 (by omega)
  have HW1 := Lib.hid hw1
  have H1 : Hid (PBox w1 w.heap.size 0 0 ⟨#[]⟩ (.slice none 0 0) ∧ Only (Just b) w w1 ∧ w1.heap.size = w.heap.size + 1 ∧ b < w.heap.size ∧ Keeps b w ∧ s.length ≤ 1048576) := ⟨hb1, hB1, hs1, hlt, hk, hl⟩
  have HRR := Lib.hid HR
  clear h hl hk HR hR1 hb1 hB1 hs1 hlt hw1
  by_cases hbeg : m + 1 ≤ 24 ∧ d ≤ 8
  rotate_left
  · have e0 : decide (m + 1 ≤ 24 ∧ d ≤ 8) = false := decide_eq_false hbeg
    rw [e0] at HS
    have HNO : Hid (NoneP s m d) := none_begin hbeg
    clear hbeg e0 HRR
    go_enter Tryz.func61, Tryz.ntmps61
    go_wp2_with fail
    rw [← HW1.out]
    refine HS.mono ?_
    rintro e w2 ⟨rfl, hR2, hO2⟩
    have H2 : Hid (PBox w2 w.heap.size 0 0 ⟨#[]⟩ (.slice none 0 0) ∧ Only (Just b) w w2) := ⟨(hO2.block _ (Array.getElem?_eq_some_iff.1 H1.out.1).1 (by have := H1.out.2.2.2.1; show ¬ (w.heap.size = b); omega)).trans H1.out.1, H1.out.2.1.trans hO2⟩
    have HR2 := Lib.hid hR2
    obtain ⟨x0, x1, x2, x3, f0, f1, f2, f3⟩ := four_cells H2.out.1
    clear hR2 hO2 HS
    go_wp2
    refine bodyPost_ret (results_row_tmp rfl _ _ w.heap.size _ _ _ _ rfl (set4_box H2.out.1 _ _ _ _) Tryz.underlying49 rfl (by kernel_rfl)) rfl ?_
    have q2 := H1.out.2.2.2.1
    exact ans_none rfl HR2.out HNO.out H2.out.2 (Nat.le_refl _) (by omega)
  have e0 : decide (m + 1 ≤ 24 ∧ d ≤ 8) = true := decide_eq_true hbeg
  rw [e0] at HS
  obtain ⟨hm1, hd8⟩ := hbeg
  have hRO := HRR.out hd8
  clear e0 HRR hm
  go_enter Tryz.func61, Tryz.ntmps61
  go_wp2_with fail
  rw [← HW1.out]
  refine HS.mono ?_
  rintro e w2 ⟨rfl, hR2, hO2⟩
  have H2 : Hid (PBox w2 w.heap.size 0 0 ⟨#[]⟩ (.slice none 0 0) ∧ Only (Just b) w w2) := ⟨(hO2.block _ (Array.getElem?_eq_some_iff.1 H1.out.1).1 (by have := H1.out.2.2.2.1; show ¬ (w.heap.size = b); omega)).trans H1.out.1, H1.out.2.1.trans hO2⟩
  clear HS hO2 HW1
  have HS := impl_skip w2 b TR s [34] (m + 1) 24 8 hR2
  clear hR2
  rcases skip_cases s [34] with ⟨e1, e2, e3⟩ | ⟨e1, e2⟩
  rotate_left
  · -- a text
    rw [e1] at HS
    generalize skipped s [34] = r at *
    have e4 : s = 34 :: r := e2
    subst e4
    clear e1 e2
    have hrl : r.length ≤ 1048576 := by have := H1.out.2.2.2.2.2; simp only [List.length_cons] at this; omega
    have HTXT := fun w3 hO h3 => impl_readText w3 b TR r (m + 1) 24 8 h3 hrl ((H1.out.2.2.2.2.1.on hO).mx)
    clear hrl hRO
    go_wp2_with fail
    refine HS.mono ?_
    clear HS
    rintro e w3 ⟨rfl, hR3, hO3⟩
    have H3 : Hid (PBox w3 w.heap.size 0 0 ⟨#[]⟩ (.slice none 0 0) ∧ Only (Just b) w w3) := ⟨(hO3.block _ (Array.getElem?_eq_some_iff.1 H2.out.1).1 (by have := H1.out.2.2.2.1; show ¬ (w.heap.size = b); omega)).trans H2.out.1, H2.out.2.trans hO3⟩
    have HT := Lib.hid (HTXT w3 H3.out.2 hR3)
    clear hR3 hO3 HTXT
    go_wp2_with fail
    refine HT.out.mono ?_
    clear HT
    rintro e w4 ⟨hq, hO4⟩
    have hb4 : PBox w4 w.heap.size 0 0 ⟨#[]⟩ (.slice none 0 0) := (hO4.block _ (Array.getElem?_eq_some_iff.1 H3.out.1).1 (by have := H1.out.2.2.2.1; show ¬ (w.heap.size = b); omega)).trans H3.out.1
    have H4 : Hid (PBox w4 w.heap.size 0 0 ⟨#[]⟩ (.slice none 0 0) ∧ Only (Just b) w w4) := ⟨hb4, H3.out.2.trans hO4⟩
    obtain ⟨x0, x1, x2, x3, f0, f1, f2, f3⟩ := four_cells hb4
    clear hb4 hO4
    cases hQ : quoted r with
    | some p =>
      obtain ⟨a, z⟩ := p
      rw [hQ] at hq
      obtain ⟨rfl, hR4⟩ := hq
      have H5 : Hid (RdAt w4 b TR z (m + 1) 24 8 ∧ OkP (34 :: r) m d (leaf 4 0 (str a)) z (m + 1)) := ⟨hR4, text_step_ok hm1 hd8 hQ⟩
      clear hR4 hQ
      go_wp2
      refine bodyPost_ret (results_row_tmp rfl _ _ w.heap.size _ _ _ _ rfl (set4_box H4.out.1 _ _ _ _) Tryz.underlying49 rfl (by kernel_rfl)) rfl ?_
      exact ans_leaf rfl H5.out.1 H5.out.2 H4.out.2 (Nat.le_refl _) (by have := H1.out.2.2.2.1; omega)
    | none =>
      rw [hQ] at hq
      obtain ⟨rfl, hR4⟩ := hq
      have H5 : Hid (RdAt w4 b TR r (m + 1) 24 8 ∧ NoneP (34 :: r) m d) := ⟨hR4, text_step_none hQ⟩
      clear hR4 hQ
      go_wp2
      refine bodyPost_ret (results_row_tmp rfl _ _ w.heap.size _ _ _ _ rfl (set4_box H4.out.1 _ _ _ _) Tryz.underlying49 rfl (by kernel_rfl)) rfl ?_
      exact ans_none rfl H5.out.1 H5.out.2 H4.out.2 (Nat.le_refl _) (by have := H1.out.2.2.2.1; omega)
  rw [e1, e3] at HS
  have HN34 : Hid (∀ x, s ≠ 34 :: x) := fun x => e2 x
  clear e1 e2 e3
  go_wp2_with fail
  refine HS.mono ?_
  clear HS
  rintro e w3 ⟨rfl, hR3, hO3⟩
  have H3 : Hid (PBox w3 w.heap.size 0 0 ⟨#[]⟩ (.slice none 0 0) ∧ Only (Just b) w w3) := ⟨(hO3.block _ (Array.getElem?_eq_some_iff.1 H2.out.1).1 (by have := H1.out.2.2.2.1; show ¬ (w.heap.size = b); omega)).trans H2.out.1, H2.out.2.trans hO3⟩
  clear hO3
  have HS := impl_skip w3 b TR s [40] (m + 1) 24 8 hR3
  clear hR3 H2
  rcases skip_cases s [40] with ⟨e1, e2, e3⟩ | ⟨e1, e2⟩
  rotate_left
  · -- an alternative
    rw [e1] at HS
    generalize skipped s [40] = r at *
    have e4 : s = 40 :: r := e2
    subst e4
    clear e1 e2
    have HOr : Hid (∀ w2, Only (Just b) w w2 → RdAt w2 b TR r (m + 1) 24 8 → Calls Tryz.prog 120 #[.pointer (some ⟨b, 0, none⟩), .int .i64 (d : Int)] w2 fun e w' => Ans w2 b (40 :: r) m d e w' ∧ Only (Just b) w2 w') :=
      fun w2 hO hR2 => impl_readOr b d hRO w2 r m hm1 hd8 hR2 (by have := H1.out.2.2.2.2.2; simp only [List.length_cons] at this; omega) (H1.out.2.2.2.2.1.on hO)
    clear hRO
    have H3a := H3
    clear H3
    go_wp2_with fail
    refine HS.mono ?_
    clear HS
    rintro e w3b ⟨rfl, hR5, hO5⟩
    have H3 : Hid (PBox w3b w.heap.size 0 0 ⟨#[]⟩ (.slice none 0 0) ∧ Only (Just b) w w3b) := ⟨(hO5.block _ (Array.getElem?_eq_some_iff.1 H3a.out.1).1 (by have := H1.out.2.2.2.1; show ¬ (w.heap.size = b); omega)).trans H3a.out.1, H3a.out.2.trans hO5⟩
    have HT := Lib.hid (HOr.out w3b H3.out.2 hR5)
    clear hR5 hO5 HOr H3a
    go_wp2_with fail
    refine HT.out.mono ?_
    clear HT
    rintro e w4 ⟨hAns, hO4⟩
    have hb4 : PBox w4 w.heap.size 0 0 ⟨#[]⟩ (.slice none 0 0) := (hO4.block _ (Array.getElem?_eq_some_iff.1 H3.out.1).1 (by have := H1.out.2.2.2.1; show ¬ (w.heap.size = b); omega)).trans H3.out.1
    have hs3 : w.heap.size + 1 ≤ w3b.heap.size := (Array.getElem?_eq_some_iff.1 H3.out.1).1
    have H4 : Hid (PBox w4 w.heap.size 0 0 ⟨#[]⟩ (.slice none 0 0) ∧ Only (Just b) w w4 ∧ w.heap.size + 1 ≤ w3b.heap.size) := ⟨hb4, H3.out.2.trans hO4, hs3⟩
    obtain ⟨x0, x1, x2, x3, f0, f1, f2, f3⟩ := four_cells hb4
    clear hb4 hO4 hs3
    rcases hAns with ⟨p, s2, m2, v, bs, rfl, ho, hnd, hbs, hR2, hP⟩ | ⟨s2, m2, rfl, hR2, hP⟩
    · obtain ⟨p2, cap2, rfl, _, _⟩ := ho.reads
      have H5 : Hid (Pt.OwnV w4 (.slice p2 p.F.length cap2) p.F bs ∧ bs.Nodup ∧ (∀ c ∈ bs, w3b.heap.size ≤ c ∧ c < w4.heap.size) ∧ RdAt w4 b TR s2 m2 24 8 ∧ OkP (40 :: r) m d p s2 m2) := ⟨ho, hnd, hbs, hR2, hP⟩
      clear ho hnd hbs hR2 hP
      go_wp2
      refine bodyPost_ret (results_row_tmp rfl _ _ w.heap.size _ _ _ _ rfl (set4_box H4.out.1 _ _ _ _) Tryz.underlying49 rfl (by kernel_rfl)) rfl ?_
      obtain ⟨k1, k2, k3, k4, k5⟩ := H5.out
      have q1 := H4.out.2.2
      have q2 := H1.out.2.2.2.1
      exact ans_some (p := p) rfl k1 k2 (fun c hc => by have := k3 c hc; omega) (fun c hc => by have := k3 c hc; omega) k4 k5 H4.out.2.1 (Nat.le_refl _) (by omega)
    · have H5 : Hid (RdAt w4 b TR s2 m2 24 8 ∧ NoneP (40 :: r) m d) := ⟨hR2, hP⟩
      clear hR2 hP
      go_wp2
      refine bodyPost_ret (results_row_tmp rfl _ _ w.heap.size _ _ _ _ rfl (set4_box H4.out.1 _ _ _ _) Tryz.underlying49 rfl (by kernel_rfl)) rfl ?_
      have q2 := H1.out.2.2.2.1
      exact ans_none rfl H5.out.1 H5.out.2 H4.out.2.1 (Nat.le_refl _) (by omega)
  rw [e1, e3] at HS
  have HN40 : Hid (∀ x, s ≠ 40 :: x) := fun x => e2 x
  clear e1 e2 e3
  go_wp2_with fail
  refine HS.mono ?_
  clear HS
  rintro e w4 ⟨rfl, hR4, hO4⟩
  have H4 : Hid (PBox w4 w.heap.size 0 0 ⟨#[]⟩ (.slice none 0 0) ∧ Only (Just b) w w4 ∧ RdAt w4 b TR s (m + 1) 24 8) := ⟨(hO4.block _ (Array.getElem?_eq_some_iff.1 H3.out.1).1 (by have := H1.out.2.2.2.1; show ¬ (w.heap.size = b); omega)).trans H3.out.1, H3.out.2.trans hO4, hR4⟩
  obtain ⟨c0, _, _, _, _, _, _, _⟩ := four_cells hR4
  clear hR4 hO4 H3
  have HFW := impl_firstWord (str s) w4
  have es : (str s).data.toList = s := by simp [str]
  rw [es] at HFW
  have esl : (str (lead s)).data.toList = lead s := by simp [str]
  have HAW : Hid (AtWord s (str (lead s)).data.toList (skipped s (lead s))) := by
    rw [esl]
    refine ⟨?_, rfl, HN34.out, HN40.out⟩
    rcases skip_cases s (lead s) with ⟨e1, _⟩ | ⟨_, e2⟩
    · rw [lead_prefix] at e1; cases e1
    · exact e2
  have HSk := fun w5 h5 => impl_skip w5 b TR s (lead s) (m + 1) 24 8 h5
  rw [lead_prefix] at HSk
  have HBe : Hid (∀ w2, Only (Just b) w w2 → RdAt w2 b TR (skipped s (lead s)) (m + 1) 24 8 → Calls Tryz.prog 122 #[.pointer (some ⟨b, 0, none⟩), .string (str (lead s)), .int .i64 (d : Int)] w2 fun e w' => Ans w2 b s m d e w' ∧ Only (Just b) w2 w') :=
    fun w2 hO hR2 => impl_readBehind b d hRO w2 s _ (str (lead s)) m HAW.out hm1 hd8 hR2 H1.out.2.2.2.2.2 (H1.out.2.2.2.2.1.on hO)
  clear es esl HAW hRO
  generalize hus : str s = us at *
  generalize hul : str (lead s) = ul at *
  generalize skipped s (lead s) = r at *
  go_wp2_with fail
  refine HFW.mono ?_
  clear HFW c0
  rintro e w5 ⟨rfl, hb5⟩
  have hR5 := H4.out.2.2.below hb5
  have H5 : Hid (PBox w5 w.heap.size 0 0 ⟨#[]⟩ (.slice none 0 0) ∧ Only (Just b) w w5) := ⟨(hb5.block _ (Array.getElem?_eq_some_iff.1 H4.out.1).1).trans H4.out.1, H4.out.2.1.trans (Only.of_below hb5)⟩
  have HS := HSk w5 hR5
  clear hb5 hR5 H4 HSk
  go_wp2_with fail
  refine HS.mono ?_
  clear HS
  rintro e w3 ⟨rfl, hR3, hO3⟩
  have H3 : Hid (PBox w3 w.heap.size 0 0 ⟨#[]⟩ (.slice none 0 0) ∧ Only (Just b) w w3) := ⟨(hO3.block _ (Array.getElem?_eq_some_iff.1 H5.out.1).1 (by have := H1.out.2.2.2.1; show ¬ (w.heap.size = b); omega)).trans H5.out.1, H5.out.2.trans hO3⟩
  have HT := Lib.hid (HBe.out w3 H3.out.2 hR3)
  clear hR3 hO3 HBe H5
  go_wp2_with fail
  refine HT.out.mono ?_
  clear HT
  rintro e w4 ⟨hAns, hO4⟩
  have hb4 : PBox w4 w.heap.size 0 0 ⟨#[]⟩ (.slice none 0 0) := (hO4.block _ (Array.getElem?_eq_some_iff.1 H3.out.1).1 (by have := H1.out.2.2.2.1; show ¬ (w.heap.size = b); omega)).trans H3.out.1
  have hs3 : w.heap.size + 1 ≤ w3.heap.size := (Array.getElem?_eq_some_iff.1 H3.out.1).1
  have H4 : Hid (PBox w4 w.heap.size 0 0 ⟨#[]⟩ (.slice none 0 0) ∧ Only (Just b) w w4 ∧ w.heap.size + 1 ≤ w3.heap.size) := ⟨hb4, H3.out.2.trans hO4, hs3⟩
  obtain ⟨x0, x1, x2, x3, f0, f1, f2, f3⟩ := four_cells hb4
  clear hb4 hO4 hs3
  rcases hAns with ⟨p, s2, m2, v, bs, rfl, ho, hnd, hbs, hR2, hP⟩ | ⟨s2, m2, rfl, hR2, hP⟩
  · obtain ⟨p2, cap2, rfl, _, _⟩ := ho.reads
    have H5 : Hid (Pt.OwnV w4 (.slice p2 p.F.length cap2) p.F bs ∧ bs.Nodup ∧ (∀ c ∈ bs, w3.heap.size ≤ c ∧ c < w4.heap.size) ∧ RdAt w4 b TR s2 m2 24 8 ∧ OkP s m d p s2 m2) := ⟨ho, hnd, hbs, hR2, hP⟩
    clear ho hnd hbs hR2 hP
    go_wp2
    refine bodyPost_ret (results_row_tmp rfl _ _ w.heap.size _ _ _ _ rfl (set4_box H4.out.1 _ _ _ _) Tryz.underlying49 rfl (by kernel_rfl)) rfl ?_
    obtain ⟨k1, k2, k3, k4, k5⟩ := H5.out
    have q1 := H4.out.2.2
    have q2 := H1.out.2.2.2.1
    exact ans_some (p := p) rfl k1 k2 (fun c hc => by have := k3 c hc; omega) (fun c hc => by have := k3 c hc; omega) k4 k5 H4.out.2.1 (Nat.le_refl _) (by omega)
  · have H5 : Hid (RdAt w4 b TR s2 m2 24 8 ∧ NoneP s m d) := ⟨hR2, hP⟩
    clear hR2 hP
    go_wp2
    refine bodyPost_ret (results_row_tmp rfl _ _ w.heap.size _ _ _ _ rfl (set4_box H4.out.1 _ _ _ _) Tryz.underlying49 rfl (by kernel_rfl)) rfl ?_
    have q2 := H1.out.2.2.2.1
    exact ans_none rfl H5.out.1 H5.out.2 H4.out.2.1 (Nat.le_refl _) (by omega)

theorem read_ok (b : Nat) : ReadOk b 1 := by
  have h9 : ReadOk b 9 := impl_read b 9 (fun h => by omega)
  have h8 := impl_read b 8 (fun _ => h9)
  have h7 := impl_read b 7 (fun _ => h8)
  have h6 := impl_read b 6 (fun _ => h7)
  have h5 := impl_read b 5 (fun _ => h6)
  have h4 := impl_read b 4 (fun _ => h5)
  have h3 := impl_read b 3 (fun _ => h4)
  have h2 := impl_read b 2 (fun _ => h3)
  exact impl_read b 1 (fun _ => h2)
end Go.Proofs.YtdifefgigcjgeaaGreatDoor
end

/- What is proved here: the program's ParsePat answers by the valid pattern whose text it is given, or false. Conditions: the text has at most 2^20 bytes; the library's variables read as laid. -/
section
namespace Go.Proofs.YtdifefgigcjgeaaGreatDoor
open Go.RowKit

/-- What ParsePat ends as. -/
def ParsedP (w : World) (s : List UInt8) (e : Ending) (w' : World) : Prop :=
  (∃ p v bs, e = .returned (.tuple #[.agg #[.int .i64 (PatD.k p), .int .i64 p.n, .string p.t, v], .bool true]) ∧ Pt.OwnV w' v p.F bs ∧ bs.Nodup ∧ (∀ c ∈ bs, w.heap.size ≤ c ∧ c < w'.heap.size) ∧ p.good ∧ p.text = s ∧ Fits 0 1 p) ∨
  (e = .returned (.tuple #[.agg #[.int .i64 0, .int .i64 0, .string ⟨#[]⟩, .slice none 0 0], .bool false]) ∧ ∀ q : PatD, q.good → Fits 0 1 q → q.text ≠ s)

set_option maxHeartbeats 2000000 in
set_option maxRecDepth 100000 in
theorem impl_ParsePat (t : ByteArray) (ht : t.size ≤ 1048576) (w : World) (hL : LibVars w) (hML : ∀ w', Below w.heap.size w w' → MaxLenVar w') :
    Calls Tryz.prog 23 #[.string t] w fun e w' => ParsedP w t.data.toList e w' ∧ Below w.heap.size w w' := by
  obtain ⟨w1, hw1⟩ : ∃ w1, w1 = (w.alloc zeroBox).alloc (.cells #[.string t, .int .i64 0, .int .i64 24, .int .i64 8] TR) := ⟨_, rfl⟩
  obtain ⟨n1, n2, n3, n4⟩ := two_new w zeroBox (.cells #[.string t, .int .i64 0, .int .i64 24, .int .i64 8] TR)
  rw [← hw1] at n1 n2 n3 n4
  have hlen : t.data.toList.length = t.size := rfl
  have hR1 : RdAt w1 (w.heap.size + 1) TR t.data.toList 0 24 8 := by unfold RdAt; rw [str_data]; exact n2
  have hlow : ∀ w', Only (Just (w.heap.size + 1)) w1 w' → Below w.heap.size w w' := fun w' h => n4.trans (h.below (fun b hb => by have : b = w.heap.size + 1 := hb; omega) (by omega))
  have hk : Keeps (w.heap.size + 1) w1 := fun w' h => ⟨hL.stays (hlow w' h), hML w' (hlow w' h)⟩
  have HC : Calls Tryz.prog 61 #[.pointer (some ⟨w.heap.size + 1, 0, none⟩), .int .i64 1] w1 fun e w' => Ans w1 (w.heap.size + 1) t.data.toList 0 1 e w' ∧ Only (Just (w.heap.size + 1)) w1 w' := read_ok (w.heap.size + 1) w1 t.data.toList 0 hR1 (by omega) (by omega) hk
  have HW1 := Lib.hid hw1
  have H1 : Hid (PBox w1 w.heap.size 0 0 ⟨#[]⟩ (.slice none 0 0) ∧ w1.heap.size = w.heap.size + 2) := ⟨n1, n3⟩
  have HLow := Lib.hid hlow
  have HC1 := Lib.hid HC
  clear hw1 n1 n2 n3 n4 hR1 hlow hk HC hL hML ht hlen
  generalize hs : t.data.toList = s at *
  clear hs
  go_enter Tryz.func23, Tryz.ntmps23
  go_wp2_with fail
  rw [← HW1.out]
  refine HC1.out.mono ?_
  clear HC1
  rintro e w2 ⟨hAns, hO2⟩
  have q1 := H1.out.2
  have hb2 : PBox w2 w.heap.size 0 0 ⟨#[]⟩ (.slice none 0 0) := (hO2.block _ (by omega) (by show ¬ (w.heap.size = w.heap.size + 1); omega)).trans H1.out.1
  have H2 : Hid (PBox w2 w.heap.size 0 0 ⟨#[]⟩ (.slice none 0 0) ∧ Below w.heap.size w w2 ∧ w.heap.size + 2 ≤ w2.heap.size) := ⟨hb2, HLow.out w2 hO2, by have := hO2.size; omega⟩
  clear hO2 q1
  rcases hAns with ⟨p, s2, m2, v, bs, rfl, ho, hnd, hbs, hR2, hP⟩ | ⟨s2, m2, rfl, hR2, hP⟩
  rotate_left
  · have HNO : Hid (∀ q : PatD, q.good → Fits 0 1 q → q.text ≠ s) := fun q hq hf e => hP q [] hq (by rw [e, List.append_nil]) (.inl rfl) hf
    have hb3 : PBox (w2.alloc zeroBox) w.heap.size 0 0 ⟨#[]⟩ (.slice none 0 0) := (Below.heap_alloc _ _ _ (by have := H2.out.2.2; omega)).trans hb2
    have HB3 := Lib.hid hb3
    obtain ⟨x0, x1, x2, x3, f0, f1, f2, f3⟩ := four_cells hb3
    clear hb3 hb2 hP hR2
    go_wp2
    refine bodyPost_ret (results_row_tmp rfl _ _ w.heap.size _ _ _ _ rfl (set4_box HB3.out _ _ _ _) Tryz.underlying49 rfl (by kernel_rfl)) rfl ?_
    exact ⟨.inr ⟨rfl, HNO.out⟩, ((((H2.out.2.1.alloc H2.out.2.1.size _).setCell (Nat.le_refl _) _).setCell (Nat.le_refl _) _).setCell (Nat.le_refl _) _).setCell (Nat.le_refl _) _⟩
  obtain ⟨p2, cap2, rfl, _, _⟩ := ho.reads
  obtain ⟨w3, hw3⟩ : ∃ w3, w3 = w2.alloc (.cells #[.int .i64 p.k, .int .i64 p.n, .string p.t, .slice p2 p.F.length cap2] TP) := ⟨_, rfl⟩
  have hB3 : Below w2.heap.size w2 w3 := by rw [hw3]; exact (Below.refl _ _).alloc (Nat.le_refl _) _
  have hb3 : PBox w3 w.heap.size 0 0 ⟨#[]⟩ (.slice none 0 0) := (hB3.block _ (by have := H2.out.2.2; omega)).trans hb2
  have hR3 := hR2.below hB3
  have hn3 := heap_at_new w2 (.cells #[.int .i64 p.k, .int .i64 p.n, .string p.t, .slice p2 p.F.length cap2] TP)
  have hb3' := hb3
  have hR3' := hR3
  unfold RdAt at hR3'
  rw [hw3] at hb3' hR3'
  obtain ⟨y0, y1, y2, y3, _, _, _, _⟩ := four_cells hn3
  obtain ⟨z0, _, _, _, _, _, _, _⟩ := four_cells hR3'
  obtain ⟨x0, x1, x2, x3, f0, f1, f2, f3⟩ := four_cells hb3'
  have HB3 : Hid (PBox (w2.alloc (.cells #[.int .i64 p.k, .int .i64 p.n, .string p.t, .slice p2 p.F.length cap2] TP)) w.heap.size 0 0 ⟨#[]⟩ (.slice none 0 0) ∧ Below w2.heap.size w2 (w2.alloc (.cells #[.int .i64 p.k, .int .i64 p.n, .string p.t, .slice p2 p.F.length cap2] TP))) := by rw [← hw3]; exact ⟨hb3, hB3⟩
  have H4 : Hid (Pt.OwnV w2 (.slice p2 p.F.length cap2) p.F bs ∧ bs.Nodup ∧ (∀ c ∈ bs, w1.heap.size ≤ c ∧ c < w2.heap.size) ∧ OkP s 0 1 p s2 m2) := ⟨ho, hnd, hbs, hP⟩
  clear ho hnd hbs hP hB3 hb3 hR3 hn3 hb3' hR3' hw3 hR2 hb2
  by_cases he : s2 = []
  · subst he
    have h0 : str [] = ⟨#[]⟩ := rfl
    rw [h0] at z0
    clear h0
    go_wp2
    refine bodyPost_ret (results_row_tmp rfl _ _ w.heap.size _ _ _ _ rfl (set4_box HB3.out.1 _ _ _ _) Tryz.underlying49 rfl (by kernel_rfl)) rfl ?_
    obtain ⟨k1, k2, k3, k4⟩ := H4.out
    have q1 := H1.out.2
    have hB := H2.out.2.1.trans (HB3.out.2.mono H2.out.2.1.size)
    refine ⟨.inl ⟨p, _, bs, rfl, k1.keep (fun c hc => (set4_other _ _ _ _ (by have := k3 c hc; omega)).trans (HB3.out.2.block c (k3 c hc).2)), k2, fun c hc => ⟨by have := k3 c hc; omega, Nat.lt_of_lt_of_le (k3 c hc).2 (Nat.le_trans HB3.out.2.size (Nat.le_of_eq (set4_size _ _ _ _ _ _).symm))⟩, k4.good, ?_, k4.fits⟩, (((hB.setCell (Nat.le_refl _) _).setCell (Nat.le_refl _) _).setCell (Nat.le_refl _) _).setCell (Nat.le_refl _) _⟩
    rw [k4.text, List.append_nil]
  · have HNO : Hid (∀ q : PatD, q.good → Fits 0 1 q → q.text ≠ s) := fun q hq hf e => he ((H4.out.2.2.2.uniq q [] hq (by rw [e, List.append_nil]) (.inl rfl) hf).2.symm)
    have h0 : ((str s2).toList == []) = false := by rw [ByteArray.toList_eq]; simpa [str] using he
    clear he
    generalize str s2 = us at *
    go_wp2
    refine bodyPost_ret (results_row_tmp rfl _ _ w.heap.size _ _ _ _ rfl (set4_box HB3.out.1 _ _ _ _) Tryz.underlying49 rfl (by kernel_rfl)) rfl ?_
    have hB := H2.out.2.1.trans (HB3.out.2.mono H2.out.2.1.size)
    exact ⟨.inr ⟨rfl, HNO.out⟩, (((hB.setCell (Nat.le_refl _) _).setCell (Nat.le_refl _) _).setCell (Nat.le_refl _) _).setCell (Nat.le_refl _) _⟩
end Go.Proofs.YtdifefgigcjgeaaGreatDoor
end
