/- What is proved here: a piece of the proof of YtdifefgigcjgeaaGreatDoorExactParsePat (PatArg, PatArgs, PatCon, PatBehind). Condition: none beyond what each part says. -/
import Derived.Test.YtdifefgigcjgeaaGreatDoorPp07
import Derived.Test.YtdifefgigcjgeaaGreatDoorPp10
import Derived.Deep.LoopGhost
import Derived.Deep.AppendLies
import Derived.Test.YtdifefgigcjgeaaGreatDoorPp13

/- What is proved here: the function that reads an argument (readCon$1). Condition: read answers as said at the next depth. -/
section
namespace Go.Proofs.YtdifefgigcjgeaaGreatDoor
open Go.RowKit

set_option maxHeartbeats 1000000 in
set_option maxRecDepth 100000 in
theorem impl_readArg (b d : Nat) (HR : ReadOk b (d + 1)) (w : World) (s : List UInt8) (m cr cd : Nat) (hd : d ≤ 8) (h1 : w.cell? ⟨cr, 0, none⟩ = some (.pointer (some ⟨b, 0, none⟩))) (h2 : w.cell? ⟨cd, 0, none⟩ = some (.int .i64 (d : Int))) (hm : m ≤ 24) (h : RdAt w b TR s m 24 8) (hl : s.length ≤ 1048576) (hk : Keeps b w) :
    Calls Tryz.prog 183 #[.pointer (some ⟨cr, 0, none⟩), .pointer (some ⟨cd, 0, none⟩)] w fun e w' => Ans w b s m (d + 1) e w' ∧ Only (Just b) w w' := by
  have hlt := h.lt
  have hB : Below w.heap.size w (w.alloc zeroBox) := (Below.refl _ _).alloc (Nat.le_refl _) _
  have g1 := cell_below h1 hB
  have g2 := cell_below h2 hB
  obtain ⟨w1, hw1⟩ : ∃ w1, w1 = w.alloc zeroBox := ⟨_, rfl⟩
  have hb1 : PBox w1 w.heap.size 0 0 ⟨#[]⟩ (.slice none 0 0) := by rw [hw1]; exact heap_at_new w _
  have hB1 : Only (Just b) w w1 := by rw [hw1]; exact (Only.refl _ _).more _
  have hR1 : RdAt w1 b TR s m 24 8 := by rw [hw1]; exact h.below hB
  have hs1 : w1.heap.size = w.heap.size + 1 := by rw [hw1]; exact Array.size_push _
  have HC : Calls Tryz.prog 61 #[.pointer (some ⟨b, 0, none⟩), .int .i64 ((d : Int) + 1)] w1 fun e w' => Ans w1 b s m (d + 1) e w' ∧ Only (Just b) w1 w' := HR w1 s m hR1 hm hl (hk.on hB1)
  have HW1 := Lib.hid hw1
  have H1 : Hid (PBox w1 w.heap.size 0 0 ⟨#[]⟩ (.slice none 0 0) ∧ Only (Just b) w w1 ∧ w1.heap.size = w.heap.size + 1 ∧ b < w.heap.size) := ⟨hb1, hB1, hs1, hlt⟩
  have HC1 := Lib.hid HC
  clear hw1 HR HC hb1 hB1 hR1 hs1 hlt hk hl hm h hB h1 h2
  go_enter Tryz.func183, Tryz.ntmps183
  go_wp2_with fail
  rw [← HW1.out]
  refine HC1.out.mono ?_
  clear HC1 g1 g2
  rintro e w2 ⟨hAns, hO2⟩
  obtain ⟨a1, a2, a3, a4⟩ := H1.out
  have hb2 : PBox w2 w.heap.size 0 0 ⟨#[]⟩ (.slice none 0 0) := (hO2.block _ (by omega) (by show ¬ (w.heap.size = b); omega)).trans a1
  have H2 : Hid (PBox w2 w.heap.size 0 0 ⟨#[]⟩ (.slice none 0 0) ∧ Only (Just b) w w2) := ⟨hb2, a2.trans hO2⟩
  obtain ⟨x0, x1, x2, x3, f0, f1, f2, f3⟩ := four_cells hb2
  clear hb2 hO2 a1 a2 a3 a4
  rcases hAns with ⟨p, s2, m2, v, bs, rfl, ho, hnd, hbs, hR2, hP⟩ | ⟨s2, m2, rfl, hR2, hP⟩
  · obtain ⟨p2, cap2, rfl, _, _⟩ := ho.reads
    have H3 : Hid (Pt.OwnV w2 (.slice p2 p.F.length cap2) p.F bs ∧ bs.Nodup ∧ (∀ c ∈ bs, w1.heap.size ≤ c ∧ c < w2.heap.size) ∧ RdAt w2 b TR s2 m2 24 8 ∧ OkP s m (d + 1) p s2 m2) := ⟨ho, hnd, hbs, hR2, hP⟩
    clear ho hnd hbs hR2 hP
    go_wp2
    refine bodyPost_ret (results_row_tmp rfl _ _ w.heap.size _ _ _ _ rfl (set4_box H2.out.1 _ _ _ _) Tryz.underlying49 rfl (by kernel_rfl)) rfl ?_
    obtain ⟨k1, k2, k3, k4, k5⟩ := H3.out
    have q1 := H1.out.2.2.1
    have q2 := H1.out.2.2.2
    exact ans_some (p := p) rfl k1 k2 (fun c hc => by have := k3 c hc; omega) (fun c hc => by have := k3 c hc; omega) k4 k5 H2.out.2 (Nat.le_refl _) (by omega)
  · have H3 : Hid (RdAt w2 b TR s2 m2 24 8 ∧ NoneP s m (d + 1)) := ⟨hR2, hP⟩
    clear hR2 hP
    go_wp2
    refine bodyPost_ret (results_row_tmp rfl _ _ w.heap.size _ _ _ _ rfl (set4_box H2.out.1 _ _ _ _) Tryz.underlying49 rfl (by kernel_rfl)) rfl ?_
    have q2 := H1.out.2.2.2
    exact ans_none rfl H3.out.1 H3.out.2 H2.out.2 (Nat.le_refl _) (by omega)
end Go.Proofs.YtdifefgigcjgeaaGreatDoor
end

/- What is proved here: the program's readArgs of patterns. Condition: read answers as said at the next depth. -/
section
namespace Go.Proofs.YtdifefgigcjgeaaGreatDoor
open Go.RowKit

/-- What reading arguments ends as. -/
def AnsA (w : World) (b : Nat) (s : List UInt8) (m d : Nat) (e : Ending) (w' : World) : Prop :=
  (∃ G s' m' v bs, e = .returned (.tuple #[v, .bool true]) ∧ Pt.OwnV w' v G bs ∧ bs.Nodup ∧ (∀ c ∈ bs, w.heap.size ≤ c ∧ c < w'.heap.size) ∧ RdAt w' b TR s' m' 24 8 ∧ ArgsOk s m d G s' m') ∨
  (∃ s' m', e = .returned (.tuple #[.slice none 0 0, .bool false]) ∧ RdAt w' b TR s' m' 24 8 ∧ ArgsNone s m d)
theorem Only.grownBy {b : Nat} {w w' : World} (h : Only (Just b) w w') : w.grownBy w' (some b) := ⟨h.os, h.tape, h.output, h.size, fun k hk hn => h.block k hk (fun e => hn (by show some k = some b; exact congrArg some e))⟩
theorem only_grown {F : Nat → Prop} {w w1 w2 : World} {o : Option Nat} (h : Only F w w1) (k : w1.grownBy w2 o) (ho : ∀ g, o = some g → w.heap.size ≤ g) : Only F w w2 :=
  ⟨k.os.trans h.os, k.tape.trans h.tape, k.output.trans h.output, Nat.le_trans h.size k.size, fun b hb hn => (k.block b (Nat.lt_of_lt_of_le hb h.size) (fun e => by have := ho b e.symm; omega)).trans (h.block b hb hn)⟩
theorem RdAt.grown {w w' : World} {b : Nat} {T : TypeId} {s : List UInt8} {m N D : Nat} {o : Option Nat} (h : RdAt w b T s m N D) (k : w.grownBy w' o) (ho : o ≠ some b) : RdAt w' b T s m N D := (k.block b h.lt (fun e => ho e.symm)).trans h

set_option maxHeartbeats 2000000 in
set_option maxRecDepth 100000 in
theorem impl_readArgs (b d : Nat) (HR : ReadOk b (d + 1)) (w : World) (s : List UInt8) (m cr cd : Nat) (hd : d ≤ 8) (h1 : w.cell? ⟨cr, 0, none⟩ = some (.pointer (some ⟨b, 0, none⟩))) (h2 : w.cell? ⟨cd, 0, none⟩ = some (.int .i64 (d : Int))) (hcr : cr ≠ b ∧ cr < w.heap.size) (hcd : cd ≠ b ∧ cd < w.heap.size) (hm : m ≤ 24) (h : RdAt w b TR s m 24 8) (hl : s.length ≤ 1048576) (hk : Keeps b w) :
    Calls Tryz.prog 182 #[.pointer (some ⟨b, 0, none⟩), .func (.func 183) #[] #[.pointer (some ⟨cr, 0, none⟩), .pointer (some ⟨cd, 0, none⟩)]] w fun e w' => AnsA w b s m d e w' ∧ Only (Just b) w w' := by
  have hi : (Tryz.prog.info? 49).map (fun i => (i.zero, i.size, i.bytes)) = some (some (.agg #[.int .i64 0, .int .i64 0, .string ⟨#[]⟩, .slice none 0 0]), 4, 56) := by kernel_rfl
  obtain ⟨i0, hi, hz0, hz1, hz2⟩ := info_parts hi
  have hlt := h.lt
  have HARG : Hid (∀ w2 s2 m2, Only (Just b) w w2 → m2 ≤ 24 → RdAt w2 b TR s2 m2 24 8 → s2.length ≤ 1048576 → Calls Tryz.prog 183 #[.pointer (some ⟨cr, 0, none⟩), .pointer (some ⟨cd, 0, none⟩)] w2 fun e w' => Ans w2 b s2 m2 (d + 1) e w' ∧ Only (Just b) w2 w') :=
    fun w2 s2 m2 hO hm2 hR2 hl2 => impl_readArg b d HR w2 s2 m2 cr cd hd ((World.cell?_of_block (hO.block cr hcr.2 hcr.1)).trans h1) ((World.cell?_of_block (hO.block cd hcd.2 hcd.1)).trans h2) hm2 hR2 hl2 (hk.on hO)
  have HIn := Lib.hid (ArgsIn.start s m d hd)
  have HRD := Lib.hid h
  have HL := Lib.hid hl
  have HLT := Lib.hid hlt
  have HM := Lib.hid hm
  have HHI := Lib.hid hi
  clear HR h1 h2 hcr hcd h hl hk hlt hd hm
  go_enter Tryz.func182, Tryz.ntmps182
  go_wp2
  go_loopg [6] 25 (fun gg rv wr => ∃ (A : Trees) (s1 : List UInt8) (m1 : Nat) (bs : List Nat) (xs : List Value), Aside (Pt.GrowV wr w.heap.size rv A bs xs) ∧ Aside (RdAt wr b TR s1 m1 24 8 ∧ ArgsIn s m d A s1 m1 ∧ Only (Just b) w wr ∧ m1 ≤ 24 ∧ s1.length ≤ 1048576 ∧ 25 - m1 ≤ gg) ∧ gg ≤ 25)
  case atStart => exact ⟨.nil, s, m, [], [], Pt.GrowV.nil _ _, ⟨HRD.out, HIn.out, Only.refl _ _, HM.out, HL.out, by omega⟩, by omega⟩
  case round =>
    obtain ⟨A, s1, m1, bs, xs, hG, hI, hgk⟩ := hrel
    have HG := Lib.hid hG.out
    have HI := Lib.hid hI.out
    have HC := Lib.hid (HARG.out wr s1 m1 HI.out.2.2.1 HI.out.2.2.2.1 HI.out.1 HI.out.2.2.2.2.1)
    clear hG hI
    go_wp2_with fail
    refine HC.out.mono ?_
    clear HC
    rintro e w1 ⟨hAns, hO1⟩
    obtain ⟨r1, r2, r3, r4, r5, r6⟩ := HI.out
    have hO1' := r3.trans hO1
    rcases hAns with ⟨p, s2, m2, v, bs2, rfl, ho, hnd, hbs, hR2, hP⟩ | ⟨s2, m2, rfl, hR2, hP⟩
    rotate_left
    · have H2 : Hid (RdAt (w1.alloc zeroBox) b TR s2 m2 24 8 ∧ ArgsNone s m d ∧ Only (Just b) w (w1.alloc zeroBox)) := ⟨hR2.below ((Below.refl _ _).alloc (Nat.le_refl _) _), args_none1 r2 hP, hO1'.more _⟩
      clear r1 r2 r3 r4 r5 r6 hO1 hO1' hR2 hP
      go_wp2
      go_ret2
      exact ⟨.inr ⟨s2, m2, rfl, H2.out.1, H2.out.2.1⟩, H2.out.2.2⟩
    obtain ⟨p2, cap2, rfl, _, _⟩ := ho.reads
    obtain ⟨n1, n2, n3, n4⟩ := two_new w1 (.cells #[.int .i64 p.k, .int .i64 p.n, .string p.t, .slice p2 p.F.length cap2] TP) (.cells #[.int .i64 p.k, .int .i64 p.n, .string p.t, .slice p2 p.F.length cap2] TP)
    obtain ⟨x0, x1, x2, x3, f0, f1, f2, f3⟩ := four_cells (heap_at_new w1 (.cells #[.int .i64 p.k, .int .i64 p.n, .string p.t, .slice p2 p.F.length cap2] TP))
    have hBw := HLT.out
    have hG1 := HG.out.grown hO1.grownBy hBw
    have HG3 := Lib.hid (hG1.below n4).owns
    have HNEW := Lib.hid (World.news_of_block n2)
    have hAl : A.length ≤ A.count := A.length_le_count
    have hA2 := r2.nodes
    have HAL : Hid (A.length ≤ 24) := by unfold Hid; omega
    have hsz : w.heap.size ≤ w1.heap.size := hO1'.size
    have HSZ : Hid (w.heap.size ≤ ((w1.alloc (.cells #[.int .i64 p.k, .int .i64 p.n, .string p.t, .slice p2 p.F.length cap2] TP)).alloc (.cells #[.int .i64 p.k, .int .i64 p.n, .string p.t, .slice p2 p.F.length cap2] TP)).heap.size) := by unfold Hid; rw [n3]; omega
    have HN4 := Lib.hid n4
    have HN3 := Lib.hid n3
    have H2 : Hid (Pt.OwnV w1 (.slice p2 p.F.length cap2) p.F bs2 ∧ bs2.Nodup ∧ (∀ c ∈ bs2, wr.heap.size ≤ c ∧ c < w1.heap.size) ∧ RdAt w1 b TR s2 m2 24 8 ∧ OkP s1 m1 (d + 1) p s2 m2 ∧ Only (Just b) wr w1 ∧ Only (Just b) w w1) := ⟨ho, hnd, hbs, hR2, hP, hO1, hO1'⟩
    clear r1 r2 r3 r4 r5 r6 hO1 hO1' hR2 hP ho hnd hbs hG1 n1 n2 n3 n4 hBw hAl hA2 hsz
    go_wp2_with (at_builtin; refine wpList_append_lies _ rfl _ _ 47 rfl w.heap.size 49 i0 (.agg #[.int .i64 0, .int .i64 0, .string ⟨#[]⟩, .slice none 0 0]) 4 56 Tryz.underlying47 hi hz0 hz1 hz2 rfl (by decide) _ _ _ rfl HG3.out ⟨w1.heap.size + 1, 0, none⟩ 1 1 [.int .i64 p.k, .int .i64 p.n, .string p.t, .slice p2 p.F.length cap2] rfl rfl HNEW.out (Pt.grow_one _ _ _ _ _ _) (by decide) (by unfold maxLen; have := HAL.out; omega) (by have := HAL.out; omega) HSZ.out (w1.heap.size + 2) (by simp) ?_)
    intro g9 cap9 w9 hown hgrow hat hlt9
    have hGM := Pt.GrowV.moreN HG.out HI.out.2.2.1.size H2.out.2.2.2.2.2.1.grownBy HLT.out H2.out.1 H2.out.2.1 H2.out.2.2.1 HN4.out hown hgrow (by rcases hat with h | h; exact .inl h; exact .inr (h.trans HN3.out.symm))
    have hfar := (HG.out.grown H2.out.2.2.2.2.2.1.grownBy HLT.out).far
    have hR9 : RdAt w9 b TR s2 m2 24 8 := (H2.out.2.2.2.1.below HN4.out).grown hgrow (fun e => by have := hfar b e; have := HLT.out; omega)
    have hO9 : Only (Just b) w w9 := only_grown (H2.out.2.2.2.2.2.2.trans (Only.of_below HN4.out)) hgrow (fun g e => hfar g e)
    have H9 : Hid (Pt.GrowV w9 w.heap.size (.slice (some ⟨g9, 0, none⟩) (A.length + 1) cap9) (A.add p) (bs ++ bs2) (xs ++ [.int .i64 p.k, .int .i64 p.n, .string p.t, .slice p2 p.F.length cap2]) ∧ Only (Just b) w w9) := ⟨hGM, hO9⟩
    have HS := impl_skip w9 b TR s2 [41] m2 24 8 hR9
    clear hGM hfar hR9 hO9 hown hgrow hat hlt9 HG HNEW HSZ HN3 HG3 x0 x1 x2 x3 f0 f1 f2 f3
    rcases skip_cases s2 [41] with ⟨e1, e2, e3⟩ | ⟨e1, e2⟩
    rotate_left
    · rw [e1] at HS
      generalize skipped s2 [41] = r2 at *
      have e4 : s2 = 41 :: r2 := e2
      subst e4
      clear e1 e2
      go_wp2_with fail
      refine HS.mono ?_
      clear HS
      rintro e w10 ⟨rfl, hR10, hO10⟩
      have H10 : Hid (RdAt w10 b TR r2 m2 24 8 ∧ Only (Just b) w9 w10) := ⟨hR10, hO10⟩
      clear hR10 hO10
      go_wp2
      go_ret2
      obtain ⟨cs, o1, o2, o3⟩ := (H9.out.1.grown H10.out.2.grownBy HLT.out).own
      have hln : (A.add p).length = A.length + 1 := Trees.snoc_length _ _ _ _ _
      exact ⟨.inl ⟨A.add p, r2, m2, _, cs, rfl, o1, o2, o3, H10.out.1, args_ok HI.out.2.1 H2.out.2.2.2.2.1⟩, H9.out.2.trans H10.out.2⟩
    rw [e1, e3] at HS
    have HNE := Lib.hid e2
    clear e1 e2 e3
    go_wp2_with fail
    refine HS.mono ?_
    clear HS
    rintro e w10 ⟨rfl, hR10, hO10⟩
    have HS := impl_skip w10 b TR s2 [44, 32] m2 24 8 hR10
    have H10 : Hid (Only (Just b) w9 w10) := hO10
    clear hR10 hO10
    rcases skip_cases s2 [44, 32] with ⟨e1, e2, e3⟩ | ⟨e1, e2⟩
    · rw [e1, e3] at HS
      have HAN := Lib.hid (args_none2 HI.out.2.1 H2.out.2.2.2.2.1 (fun r => HNE.out r) (fun r => e2 r))
      clear e1 e2 e3
      go_wp2_with fail
      refine HS.mono ?_
      clear HS
      rintro e w11 ⟨rfl, hR11, hO11⟩
      have H11 : Hid (RdAt w11 b TR s2 m2 24 8 ∧ Only (Just b) w10 w11) := ⟨hR11, hO11⟩
      clear hR11 hO11
      go_wp2
      go_ret2
      exact ⟨.inr ⟨s2, m2, rfl, H11.out.1, HAN.out⟩, (H9.out.2.trans H10.out).trans H11.out.2⟩
    · rw [e1] at HS
      generalize skipped s2 [44, 32] = r2 at *
      have e4 : s2 = 44 :: 32 :: r2 := e2
      subst e4
      clear e1 e2
      go_wp2_with fail
      refine HS.mono ?_
      clear HS
      rintro e w11 ⟨rfl, hR11, hO11⟩
      have H11 : Hid (RdAt w11 b TR r2 m2 24 8 ∧ Only (Just b) w10 w11) := ⟨hR11, hO11⟩
      clear hR11 hO11
      go_wp2
      have hb1 := H9.out.1.grown (H10.out.trans H11.out.2).grownBy HLT.out
      have hk := H2.out.2.2.2.2.1
      have k1 := hk.nodes
      have k2 := hk.fits.1
      have k3 := congrArg List.length hk.text
      rw [List.length_append] at k3
      simp only [List.length_cons] at k3
      have k4 := HI.out.2.2.2.2.1
      have k5 := HI.out.2.2.2.2.2
      go_roundg (gk - 1)
      case rel => exact ⟨A.add p, r2, m2, bs ++ bs2, _, hb1, ⟨H11.out.1, args_more HI.out.2.1 hk, (H9.out.2.trans H10.out).trans H11.out.2, by omega, by omega, by omega⟩, by omega⟩
      case measure => omega
end Go.Proofs.YtdifefgigcjgeaaGreatDoor
end

/- What is proved here: the program's readCon. Condition: read answers as said at the next depth. -/
section
namespace Go.Proofs.YtdifefgigcjgeaaGreatDoor
open Go.RowKit

theorem three_new (w : World) (o0 o1 o2 : Obj) : (((w.alloc o0).alloc o1).alloc o2).heap[w.heap.size]? = some o0 ∧ (((w.alloc o0).alloc o1).alloc o2).heap[w.heap.size + 1]? = some o1 ∧ (((w.alloc o0).alloc o1).alloc o2).heap[w.heap.size + 1 + 1]? = some o2 ∧ (((w.alloc o0).alloc o1).alloc o2).heap.size = w.heap.size + 3 ∧ Below w.heap.size w (((w.alloc o0).alloc o1).alloc o2) := by
  obtain ⟨n1, n2, n3, n4⟩ := two_new w o0 o1
  have s3 : (((w.alloc o0).alloc o1).alloc o2).heap.size = ((w.alloc o0).alloc o1).heap.size + 1 := Array.size_push _
  have e2 := heap_at_new ((w.alloc o0).alloc o1) o2
  rw [n3] at e2
  exact ⟨(Below.heap_alloc _ _ _ (by omega)).trans n1, (Below.heap_alloc _ _ _ (by omega)).trans n2, e2, by omega, n4.alloc (by omega) _⟩
theorem one_cell {w : World} {b : Nat} {x : Value} {T : TypeId} (h : w.heap[b]? = some (.cells #[x] T (0, 0))) : w.cell? ⟨b, 0, none⟩ = some x := by simp [World.cell?, h]

set_option maxHeartbeats 1000000 in
set_option maxRecDepth 100000 in
theorem impl_readCon (b d : Nat) (HR : ReadOk b (d + 1)) (w : World) (s r : List UInt8) (t : ByteArray) (m : Nat) (hA : AtWord s t.data.toList r) (hW : Word 65 90 t) (hm : m + 1 ≤ 24) (hd : d ≤ 8) (h : RdAt w b TR r (m + 1) 24 8) (hl : s.length ≤ 1048576) (hk : Keeps b w) :
    Calls Tryz.prog 162 #[.pointer (some ⟨b, 0, none⟩), .string t, .int .i64 (d : Int)] w fun e w' => Ans w b s m d e w' ∧ Only (Just b) w w' := by
  have hlt := h.lt
  have hrl : r.length ≤ 1048576 := by have := congrArg List.length hA.eq; rw [List.length_append] at this; omega
  obtain ⟨w1, hw1⟩ : ∃ w1, w1 = ((w.alloc (.cells #[.pointer (some ⟨b, 0, none⟩)] 131)).alloc (.cells #[.int .i64 (d : Int)] 3)).alloc zeroBox := ⟨_, rfl⟩
  obtain ⟨n0, n1, n2, n3, n4⟩ := three_new w (.cells #[.pointer (some ⟨b, 0, none⟩)] 131) (.cells #[.int .i64 (d : Int)] 3) zeroBox
  rw [← hw1] at n0 n1 n2 n3 n4
  have hR1 := h.below n4
  have HS := impl_skip w1 b TR r [40] (m + 1) 24 8 hR1
  have HW1 := Lib.hid hw1
  have c0 := one_cell n0
  have c1 := one_cell n1
  have H1 : Hid (PBox w1 (w.heap.size + 1 + 1) 0 0 ⟨#[]⟩ (.slice none 0 0) ∧ Only (Just b) w w1 ∧ w1.heap.size = w.heap.size + 3 ∧ b < w.heap.size ∧ Keeps b w1 ∧ w1.cell? ⟨w.heap.size, 0, none⟩ = some (.pointer (some ⟨b, 0, none⟩)) ∧ w1.cell? ⟨w.heap.size + 1, 0, none⟩ = some (.int .i64 (d : Int))) := ⟨n2, Only.of_below n4, n3, hlt, hk.on (Only.of_below n4), c0, c1⟩
  clear hw1 n0 n1 n2 n3 n4 hR1
  rcases skip_cases r [40] with ⟨e1, e2, e3⟩ | ⟨e1, e2⟩
  · rw [e1, e3] at HS
    have HP := Lib.hid (con0_ok (d := d) hA hW hm hd (fun x => e2 x))
    clear hA hW hm hd h hl hk e1 e2 e3 HR hlt hrl
    go_enter Tryz.func162, Tryz.ntmps162
    rw [HW1.out] at c0 c1
    go_wp2_with fail
    rw [← HW1.out]
    refine HS.mono ?_
    rintro e w2 ⟨rfl, hR2, hO2⟩
    have hb2 : PBox w2 (w.heap.size + 1 + 1) 0 0 ⟨#[]⟩ (.slice none 0 0) := (hO2.block _ (by have := H1.out.2.2.1; omega) (by have := H1.out.2.2.2.1; show ¬ (w.heap.size + 1 + 1 = b); omega)).trans H1.out.1
    obtain ⟨x0, x1, x2, x3, f0, f1, f2, f3⟩ := four_cells hb2
    have H2 : Hid (PBox w2 (w.heap.size + 1 + 1) 0 0 ⟨#[]⟩ (.slice none 0 0) ∧ RdAt w2 b TR r (m + 1) 24 8 ∧ Only (Just b) w w2) := ⟨hb2, hR2, H1.out.2.1.trans hO2⟩
    clear hb2 hR2 hO2 HS c0 c1
    go_wp2
    refine bodyPost_ret (results_row_tmp rfl _ _ (w.heap.size + 1 + 1) _ _ _ _ rfl (set4_box H2.out.1 _ _ _ _) Tryz.underlying49 rfl (by kernel_rfl)) rfl ?_
    exact ans_leaf rfl H2.out.2.1 HP.out H2.out.2.2 (by omega) (by have := H1.out.2.2.2.1; omega)
  · rw [e1] at HS
    generalize skipped r [40] = r1 at *
    have e4 : r = 40 :: r1 := e2
    subst e4
    have hr1 : r1.length ≤ 1048576 := by simp only [List.length_cons] at hrl; omega
    have HARGS : Hid (∀ w2, Only (Just b) w1 w2 → RdAt w2 b TR r1 (m + 1) 24 8 → Calls Tryz.prog 182 #[.pointer (some ⟨b, 0, none⟩), .func (.func 183) #[] #[.pointer (some ⟨w.heap.size, 0, none⟩), .pointer (some ⟨w.heap.size + 1, 0, none⟩)]] w2 fun e w' => AnsA w2 b r1 (m + 1) d e w' ∧ Only (Just b) w2 w') :=
      fun w2 hO hR2 => by
        have q1 := H1.out.2.2.1
        have q2 := H1.out.2.2.2.1
        have q3 := hO.size
        exact impl_readArgs b d HR w2 r1 (m + 1) w.heap.size (w.heap.size + 1) hd ((World.cell?_of_block (hO.block _ (by show w.heap.size < _; omega) (by show ¬ (w.heap.size = b); omega))).trans H1.out.2.2.2.2.2.1) ((World.cell?_of_block (hO.block _ (by show w.heap.size + 1 < _; omega) (by show ¬ (w.heap.size + 1 = b); omega))).trans H1.out.2.2.2.2.2.2) ⟨by omega, by omega⟩ ⟨by omega, by omega⟩ hm hR2 hr1 (H1.out.2.2.2.2.1.on hO)
    have HAW : Hid (AtWord s t.data.toList (40 :: r1) ∧ Word 65 90 t) := ⟨hA, hW⟩
    clear hA hW hm hd h hl hk e1 e2 HR hlt hrl hr1
    go_enter Tryz.func162, Tryz.ntmps162
    rw [HW1.out] at c0 c1
    go_wp2_with fail
    rw [← HW1.out]
    refine HS.mono ?_
    rintro e w2 ⟨rfl, hR2, hO2⟩
    clear HS c0 c1
    have q1 := H1.out.2.2.1
    have q2 := H1.out.2.2.2.1
    have hb2 : PBox w2 (w.heap.size + 1 + 1) 0 0 ⟨#[]⟩ (.slice none 0 0) := (hO2.block _ (by omega) (by show ¬ (w.heap.size + 1 + 1 = b); omega)).trans H1.out.1
    have c0 : w2.cell? ⟨w.heap.size, 0, none⟩ = some (.pointer (some ⟨b, 0, none⟩)) := (World.cell?_of_block (hO2.block _ (by show w.heap.size < _; omega) (by show ¬ (w.heap.size = b); omega))).trans H1.out.2.2.2.2.2.1
    have H2 : Hid (PBox w2 (w.heap.size + 1 + 1) 0 0 ⟨#[]⟩ (.slice none 0 0) ∧ Only (Just b) w w2 ∧ w.heap.size + 3 ≤ w2.heap.size ∧ b < w.heap.size) := ⟨hb2, H1.out.2.1.trans hO2, by have := hO2.size; omega, q2⟩
    have HC := Lib.hid (HARGS.out w2 hO2 hR2)
    clear hb2 hR2 hO2 HARGS q1 q2
    go_wp2_with fail
    refine HC.out.mono ?_
    clear HC c0
    rintro e w3 ⟨hAns, hO3⟩
    have hb3 : PBox w3 (w.heap.size + 1 + 1) 0 0 ⟨#[]⟩ (.slice none 0 0) := (hO3.block _ (by have := H2.out.2.2.1; omega) (by have := H2.out.2.2.2; show ¬ (w.heap.size + 1 + 1 = b); omega)).trans H2.out.1
    have H3 : Hid (PBox w3 (w.heap.size + 1 + 1) 0 0 ⟨#[]⟩ (.slice none 0 0) ∧ Only (Just b) w w3) := ⟨hb3, H2.out.2.1.trans hO3⟩
    obtain ⟨x0, x1, x2, x3, f0, f1, f2, f3⟩ := four_cells hb3
    clear hb3 hO3
    rcases hAns with ⟨G, s3, m3, v, bs, rfl, ho, hnd, hbs, hR3, hP⟩ | ⟨s3, m3, rfl, hR3, hP⟩
    · obtain ⟨p2, cap2, rfl, _, _⟩ := ho.reads
      have H4 : Hid (Pt.OwnV w3 (.slice p2 G.length cap2) G bs ∧ bs.Nodup ∧ (∀ c ∈ bs, w2.heap.size ≤ c ∧ c < w3.heap.size) ∧ RdAt w3 b TR s3 m3 24 8 ∧ ArgsOk r1 (m + 1) d G s3 m3) := ⟨ho, hnd, hbs, hR3, hP⟩
      clear ho hnd hbs hR3 hP
      go_wp2
      refine bodyPost_ret (results_row_tmp rfl _ _ (w.heap.size + 1 + 1) _ _ _ _ rfl (set4_box H3.out.1 _ _ _ _) Tryz.underlying49 rfl (by kernel_rfl)) rfl ?_
      obtain ⟨k1, k2, k3, k4, k5⟩ := H4.out
      have q1 := H2.out.2.2.1
      have q2 := H2.out.2.2.2
      exact ans_some (p := ⟨5, 0, t, G⟩) rfl k1 k2 (fun c hc => by have := k3 c hc; omega) (fun c hc => by have := k3 c hc; omega) k4 (con_ok HAW.out.1 HAW.out.2 k5) H3.out.2 (by omega) (by omega)
    · have H4 : Hid (RdAt w3 b TR s3 m3 24 8 ∧ NoneP s m d) := ⟨hR3, con_none HAW.out.1 HAW.out.2 hP⟩
      clear hR3 hP
      go_wp2
      refine bodyPost_ret (results_row_tmp rfl _ _ (w.heap.size + 1 + 1) _ _ _ _ rfl (set4_box H3.out.1 _ _ _ _) Tryz.underlying49 rfl (by kernel_rfl)) rfl ?_
      have q2 := H2.out.2.2.2
      exact ans_none rfl H4.out.1 H4.out.2 H3.out.2 (by omega) (by omega)
end Go.Proofs.YtdifefgigcjgeaaGreatDoor
end

/- What is proved here: the program's readBehind. Condition: read answers as said at the next depth. -/
section
namespace Go.Proofs.YtdifefgigcjgeaaGreatDoor
open Go.RowKit

set_option maxHeartbeats 2000000 in
set_option maxRecDepth 100000 in
theorem impl_readBehind (b d : Nat) (HR : ReadOk b (d + 1)) (w : World) (s r : List UInt8) (t : ByteArray) (m : Nat) (hA : AtWord s t.data.toList r) (hm : m + 1 ≤ 24) (hd : d ≤ 8) (h : RdAt w b TR r (m + 1) 24 8) (hl : s.length ≤ 1048576) (hk : Keeps b w) :
    Calls Tryz.prog 122 #[.pointer (some ⟨b, 0, none⟩), .string t, .int .i64 (d : Int)] w fun e w' => Ans w b s m d e w' ∧ Only (Just b) w w' := by
  have hlt := h.lt
  have htl : t.size ≤ 1048576 := by have h1 := congrArg List.length hA.eq; rw [List.length_append] at h1; have h2 : t.data.toList.length = t.size := rfl; omega
  have htm : t.size ≤ maxLen := by unfold maxLen; omega
  obtain ⟨w1, hw1⟩ : ∃ w1, w1 = w.alloc zeroBox := ⟨_, rfl⟩
  have hb1 : PBox w1 w.heap.size 0 0 ⟨#[]⟩ (.slice none 0 0) := by rw [hw1]; exact heap_at_new w _
  have hB1 : Only (Just b) w w1 := by rw [hw1]; exact (Only.refl _ _).more _
  have hR1 : RdAt w1 b TR r (m + 1) 24 8 := by rw [hw1]; exact h.below ((Below.refl _ _).alloc (Nat.le_refl _) _)
  have hs1 : w1.heap.size = w.heap.size + 1 := by rw [hw1]; exact Array.size_push _
  have HP := impl_ParseInt t htl w1 (hk.on hB1).lib
  have HVar : Hid (∀ w2, Only (Just b) w w2 → RdAt w2 b TR r (m + 1) 24 8 → Name t → Calls Tryz.prog 161 #[.pointer (some ⟨b, 0, none⟩), .string t, .int .i64 (d : Int)] w2 fun e w' => Ans w2 b s m d e w' ∧ Only (Just b) w2 w') :=
    fun w2 hO hR2 hN => impl_readVar b d HR w2 s r t m hA hN hm hd hR2 hl (hk.on hO)
  have HCon : Hid (∀ w2, Only (Just b) w w2 → RdAt w2 b TR r (m + 1) 24 8 → Word 65 90 t → Calls Tryz.prog 162 #[.pointer (some ⟨b, 0, none⟩), .string t, .int .i64 (d : Int)] w2 fun e w' => Ans w2 b s m d e w' ∧ Only (Just b) w2 w') :=
    fun w2 hO hR2 hN => impl_readCon b d HR w2 s r t m hA hN hm hd hR2 hl (hk.on hO)
  have HNm := fun w => impl_name t htm w
  have HCn := fun w => impl_con t htm w
  have HW1 := Lib.hid hw1
  have H1 : Hid (PBox w1 w.heap.size 0 0 ⟨#[]⟩ (.slice none 0 0) ∧ Only (Just b) w w1 ∧ w1.heap.size = w.heap.size + 1 ∧ b < w.heap.size ∧ RdAt w1 b TR r (m + 1) 24 8) := ⟨hb1, hB1, hs1, hlt, hR1⟩
  have HA : Hid (AtWord s t.data.toList r ∧ m + 1 ≤ 24 ∧ d ≤ 8) := ⟨hA, hm, hd⟩
  clear hA h hl hk HR hR1 hb1 hB1 hs1 hlt hw1 htl htm
  have hin : ∀ n, (-999999999999 ≤ n ∧ n ≤ 999999999999) ↔ inInt n = true := fun n => by simp [inInt]
  -- the box at a later world
  have HB : Hid (∀ w2, Below w1.heap.size w1 w2 → PBox w2 w.heap.size 0 0 ⟨#[]⟩ (.slice none 0 0) ∧ RdAt w2 b TR r (m + 1) 24 8 ∧ Only (Just b) w w2) := fun w2 hb => ⟨(hb.block _ (by have := H1.out.2.2.1; omega)).trans H1.out.1, H1.out.2.2.2.2.below hb, H1.out.2.1.trans (Only.of_below hb)⟩
  cases hRd : readOf (-999999999999) 999999999999 t.data.toList with
  | some n =>
    rw [hRd] at HP
    obtain ⟨i1, i2, i3⟩ := (readOf_iff (by omega) (by omega)).1 hRd
    have HI := Lib.hid (int_ok HA.out.1 HA.out.2.1 HA.out.2.2 ((hin n).1 ⟨i1, i2⟩) i3)
    clear hRd i1 i2 i3 hin HNm HCn
    go_enter Tryz.func122, Tryz.ntmps122
    go_wp2_with fail
    rw [← HW1.out]
    refine HP.mono ?_
    rintro e w2 ⟨he, hb⟩
    obtain rfl : e = .returned (.tuple #[.int .i64 n, .bool true]) := he
    have H2 := Lib.hid (HB.out w2 hb)
    obtain ⟨x0, x1, x2, x3, f0, f1, f2, f3⟩ := four_cells H2.out.1
    clear HP hb
    go_wp2
    refine bodyPost_ret (results_row_tmp rfl _ _ w.heap.size _ _ _ _ rfl (set4_box H2.out.1 _ _ _ _) Tryz.underlying49 rfl (by kernel_rfl)) rfl ?_
    exact ans_leaf rfl H2.out.2.1 HI.out H2.out.2.2 (Nat.le_refl _) (by have := H1.out.2.2.2.1; omega)
  | none =>
    rw [hRd] at HP
    have HNI : Hid (∀ n, inInt n = true → Lib.itoa n ≠ t.data.toList) := fun n hn he => by
      have := (readOf_iff (by omega) (by omega)).2 ⟨((hin n).2 hn).1, ((hin n).2 hn).2, he⟩
      rw [hRd] at this
      cases this
    clear hRd hin
    by_cases h95 : t = ⟨#[95]⟩
    · subst h95
      clear HNm HCn HVar HCon
      go_enter Tryz.func122, Tryz.ntmps122
      go_wp2_with fail
      rw [← HW1.out]
      refine HP.mono ?_
      rintro e w2 ⟨he, hb⟩
      obtain rfl : e = .returned (.tuple #[.int .i64 0, .bool false]) := he
      have H2 := Lib.hid (HB.out w2 hb)
      obtain ⟨x0, x1, x2, x3, f0, f1, f2, f3⟩ := four_cells H2.out.1
      clear HP hb
      go_wp2
      refine bodyPost_ret (results_row_tmp rfl _ _ w.heap.size _ _ _ _ rfl (set4_box H2.out.1 _ _ _ _) Tryz.underlying49 rfl (by kernel_rfl)) rfl ?_
      exact ans_leaf rfl H2.out.2.1 (any_ok HA.out.1 HA.out.2.1 HA.out.2.2) H2.out.2.2 (Nat.le_refl _) (by have := H1.out.2.2.2.1; omega)
    · have H95 : Hid (t.data.toList ≠ [95]) := fun e => h95 (data_inj (u := ⟨#[95]⟩) e)
      have h95b : (t.toList == [95]) = false := by rw [ByteArray.toList_eq]; simpa using H95.out
      clear h95
      by_cases hN : Name t
      · rw [bl_true hN] at HNm
        have HV2 : Hid (∀ w2, Only (Just b) w w2 → RdAt w2 b TR r (m + 1) 24 8 → Calls Tryz.prog 161 #[.pointer (some ⟨b, 0, none⟩), .string t, .int .i64 (d : Int)] w2 fun e w' => Ans w2 b s m d e w' ∧ Only (Just b) w2 w') := fun w2 hO hR2 => HVar.out w2 hO hR2 hN
        clear HCn HVar HCon hN
        go_enter Tryz.func122, Tryz.ntmps122
        go_wp2_with fail
        rw [← HW1.out]
        refine HP.mono ?_
        rintro e w2 ⟨he, hb⟩
        obtain rfl : e = .returned (.tuple #[.int .i64 0, .bool false]) := he
        clear HP
        go_wp2_with fail
        refine (HNm _).mono ?_
        rintro e w3 ⟨rfl, hb3⟩
        have hb3' := hb.trans (hb3.mono hb.size)
        have H3 := Lib.hid (HB.out w3 hb3')
        clear hb hb3 hb3' HNm
        go_wp2_with fail
        refine (HV2.out w3 H3.out.2.2 H3.out.2.1).mono ?_
        rintro e w4 ⟨hAns, hO4⟩
        have hb4 : PBox w4 w.heap.size 0 0 ⟨#[]⟩ (.slice none 0 0) := (hO4.block _ (Array.getElem?_eq_some_iff.1 H3.out.1).1 (by have := H1.out.2.2.2.1; show ¬ (w.heap.size = b); omega)).trans H3.out.1
        have hs3 : w.heap.size + 1 ≤ w3.heap.size := (Array.getElem?_eq_some_iff.1 H3.out.1).1
        have H4 : Hid (PBox w4 w.heap.size 0 0 ⟨#[]⟩ (.slice none 0 0) ∧ Only (Just b) w w4 ∧ w.heap.size + 1 ≤ w3.heap.size) := ⟨hb4, H3.out.2.2.trans hO4, hs3⟩
        obtain ⟨x0, x1, x2, x3, f0, f1, f2, f3⟩ := four_cells hb4
        clear hb4 hO4 hs3
        rcases hAns with ⟨p, s2, m2, v, bs, rfl, ho, hnd, hbs, hR2, hP⟩ | ⟨s2, m2, rfl, hR2, hP⟩
        · obtain ⟨p2, cap2, rfl, _, _⟩ := ho.reads
          have H5 : Hid (Pt.OwnV w4 (.slice p2 p.F.length cap2) p.F bs ∧ bs.Nodup ∧ (∀ c ∈ bs, w3.heap.size ≤ c ∧ c < w4.heap.size) ∧ RdAt w4 b TR s2 m2 24 8 ∧ OkP s m d p s2 m2) := ⟨ho, hnd, hbs, hR2, hP⟩
          clear ho hnd hbs hR2 hP
          go_wp2
          refine bodyPost_ret (results_row_tmp rfl _ _ w.heap.size _ _ _ _ rfl (set4_box H4.out.1 _ _ _ _) Tryz.underlying49 rfl (by kernel_rfl)) rfl ?_
          obtain ⟨k1, k2, k3, k4, k5⟩ := H5.out
          have q1 := H4.out.2.2
          have q2 := H1.out.2.2.2.1
          exact ans_some (p := p) rfl k1 k2 (fun c hc => by have := k3 c hc; omega) (fun c hc => by have := k3 c hc; omega) k4 k5 H4.out.2.1 (Nat.le_refl _) (by omega)
        · have H5 : Hid (RdAt w4 b TR s2 m2 24 8 ∧ NoneP s m d) := ⟨hR2, hP⟩
          clear hR2 hP
          go_wp2
          refine bodyPost_ret (results_row_tmp rfl _ _ w.heap.size _ _ _ _ rfl (set4_box H4.out.1 _ _ _ _) Tryz.underlying49 rfl (by kernel_rfl)) rfl ?_
          have q2 := H1.out.2.2.2.1
          exact ans_none rfl H5.out.1 H5.out.2 H4.out.2.1 (Nat.le_refl _) (by omega)
      · rw [bl_false hN] at HNm
        by_cases hW : Word 65 90 t
        · rw [bl_true hW] at HCn
          have HV2 : Hid (∀ w2, Only (Just b) w w2 → RdAt w2 b TR r (m + 1) 24 8 → Calls Tryz.prog 162 #[.pointer (some ⟨b, 0, none⟩), .string t, .int .i64 (d : Int)] w2 fun e w' => Ans w2 b s m d e w' ∧ Only (Just b) w2 w') := fun w2 hO hR2 => HCon.out w2 hO hR2 hW
          clear HVar HCon hN hW
          go_enter Tryz.func122, Tryz.ntmps122
          go_wp2_with fail
          rw [← HW1.out]
          refine HP.mono ?_
          rintro e w2 ⟨he, hb⟩
          obtain rfl : e = .returned (.tuple #[.int .i64 0, .bool false]) := he
          clear HP
          go_wp2_with fail
          refine (HNm _).mono ?_
          rintro e w2b ⟨rfl, hb3⟩
          have hb3' := hb.trans (hb3.mono hb.size)
          clear hb hb3 HNm
          go_wp2_with fail
          refine (HCn _).mono ?_
          rintro e w3 ⟨rfl, hb3⟩
          have hb4' := hb3'.trans (hb3.mono hb3'.size)
          have H3 := Lib.hid (HB.out w3 hb4')
          clear hb3 hb3' hb4' HCn
          go_wp2_with fail
          refine (HV2.out w3 H3.out.2.2 H3.out.2.1).mono ?_
          rintro e w4 ⟨hAns, hO4⟩
          have hb4 : PBox w4 w.heap.size 0 0 ⟨#[]⟩ (.slice none 0 0) := (hO4.block _ (Array.getElem?_eq_some_iff.1 H3.out.1).1 (by have := H1.out.2.2.2.1; show ¬ (w.heap.size = b); omega)).trans H3.out.1
          have hs3 : w.heap.size + 1 ≤ w3.heap.size := (Array.getElem?_eq_some_iff.1 H3.out.1).1
          have H4 : Hid (PBox w4 w.heap.size 0 0 ⟨#[]⟩ (.slice none 0 0) ∧ Only (Just b) w w4 ∧ w.heap.size + 1 ≤ w3.heap.size) := ⟨hb4, H3.out.2.2.trans hO4, hs3⟩
          obtain ⟨x0, x1, x2, x3, f0, f1, f2, f3⟩ := four_cells hb4
          clear hb4 hO4 hs3
          rcases hAns with ⟨p, s2, m2, v, bs, rfl, ho, hnd, hbs, hR2, hP⟩ | ⟨s2, m2, rfl, hR2, hP⟩
          · obtain ⟨p2, cap2, rfl, _, _⟩ := ho.reads
            have H5 : Hid (Pt.OwnV w4 (.slice p2 p.F.length cap2) p.F bs ∧ bs.Nodup ∧ (∀ c ∈ bs, w3.heap.size ≤ c ∧ c < w4.heap.size) ∧ RdAt w4 b TR s2 m2 24 8 ∧ OkP s m d p s2 m2) := ⟨ho, hnd, hbs, hR2, hP⟩
            clear ho hnd hbs hR2 hP
            go_wp2
            refine bodyPost_ret (results_row_tmp rfl _ _ w.heap.size _ _ _ _ rfl (set4_box H4.out.1 _ _ _ _) Tryz.underlying49 rfl (by kernel_rfl)) rfl ?_
            obtain ⟨k1, k2, k3, k4, k5⟩ := H5.out
            have q1 := H4.out.2.2
            have q2 := H1.out.2.2.2.1
            exact ans_some (p := p) rfl k1 k2 (fun c hc => by have := k3 c hc; omega) (fun c hc => by have := k3 c hc; omega) k4 k5 H4.out.2.1 (Nat.le_refl _) (by omega)
          · have H5 : Hid (RdAt w4 b TR s2 m2 24 8 ∧ NoneP s m d) := ⟨hR2, hP⟩
            clear hR2 hP
            go_wp2
            refine bodyPost_ret (results_row_tmp rfl _ _ w.heap.size _ _ _ _ rfl (set4_box H4.out.1 _ _ _ _) Tryz.underlying49 rfl (by kernel_rfl)) rfl ?_
            have q2 := H1.out.2.2.2.1
            exact ans_none rfl H5.out.1 H5.out.2 H4.out.2.1 (Nat.le_refl _) (by omega)
        · rw [bl_false hW] at HCn
          have HNO : Hid (NoneP s m d) := word_none HA.out.1 H95.out (by rw [str_data]; exact hN) (by rw [str_data]; exact hW) HNI.out
          clear HVar HCon hN hW
          go_enter Tryz.func122, Tryz.ntmps122
          go_wp2_with fail
          rw [← HW1.out]
          refine HP.mono ?_
          rintro e w2 ⟨he, hb⟩
          obtain rfl : e = .returned (.tuple #[.int .i64 0, .bool false]) := he
          clear HP
          go_wp2_with fail
          refine (HNm _).mono ?_
          rintro e w2b ⟨rfl, hb3⟩
          have hb3' := hb.trans (hb3.mono hb.size)
          clear hb hb3 HNm
          go_wp2_with fail
          refine (HCn _).mono ?_
          rintro e w3 ⟨rfl, hb3⟩
          have hb4' := hb3'.trans (hb3.mono hb3'.size)
          have H3 := Lib.hid (HB.out w3 hb4')
          obtain ⟨x0, x1, x2, x3, f0, f1, f2, f3⟩ := four_cells H3.out.1
          clear hb3 hb3' hb4' HCn
          go_wp2
          refine bodyPost_ret (results_row_tmp rfl _ _ w.heap.size _ _ _ _ rfl (set4_box H3.out.1 _ _ _ _) Tryz.underlying49 rfl (by kernel_rfl)) rfl ?_
          have q2 := H1.out.2.2.2.1
          exact ans_none rfl H3.out.2.1 HNO.out H3.out.2.2 (Nat.le_refl _) (by omega)
end Go.Proofs.YtdifefgigcjgeaaGreatDoor
end
