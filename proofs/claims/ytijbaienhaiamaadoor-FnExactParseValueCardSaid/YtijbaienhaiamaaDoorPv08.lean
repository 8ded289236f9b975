/- What is proved here: a piece of the proof of YtijbaienhaiamaaDoorExactParseValue (VaArgs). Condition: none beyond what each part says. -/
import Derived.Test.YtijbaienhaiamaaDoorPv07
import Derived.Deep.LoopGhost
import Derived.Deep.AppendLies

/- What is proved here: the program's readArgs of values. Condition: read answers as said at the next depth. -/
section
namespace Go.Proofs.YtijbaienhaiamaaDoor.Va
open Go.RowKit

/-- What reading arguments ends as. -/
def AnsA (w : World) (b : Nat) (s : List UInt8) (m d : Nat) (e : Ending) (w' : World) : Prop :=
  (∃ G s' m' v bs, e = .returned (.tuple #[v, .bool true]) ∧ OwnV w' v G bs ∧ bs.Nodup ∧ (∀ c ∈ bs, w.heap.size ≤ c ∧ c < w'.heap.size) ∧ RdAt w' b TR s' m' 40 12 ∧ ArgsOk 40 12 s m d G s' m') ∨
  (∃ s' m', e = .returned (.tuple #[.slice none 0 0, .bool false]) ∧ RdAt w' b TR s' m' 40 12 ∧ ArgsNone 40 s m d)
theorem _root_.Go.Proofs.YtijbaienhaiamaaDoor.Only.grownBy {b : Nat} {w w' : World} (h : Only (Just b) w w') : w.grownBy w' (some b) := ⟨h.os, h.tape, h.output, h.size, fun k hk hn => h.block k hk (fun e => hn (by show some k = some b; exact congrArg some e))⟩
theorem only_grown {F : Nat → Prop} {w w1 w2 : World} {o : Option Nat} (h : Only F w w1) (k : w1.grownBy w2 o) (ho : ∀ g, o = some g → w.heap.size ≤ g) : Only F w w2 :=
  ⟨k.os.trans h.os, k.tape.trans h.tape, k.output.trans h.output, Nat.le_trans h.size k.size, fun b hb hn => (k.block b (Nat.lt_of_lt_of_le hb h.size) (fun e => by have := ho b e.symm; omega)).trans (h.block b hb hn)⟩
theorem _root_.Go.Proofs.YtijbaienhaiamaaDoor.RdAt.grown {w w' : World} {b : Nat} {T : TypeId} {s : List UInt8} {m N D : Nat} {o : Option Nat} (h : RdAt w b T s m N D) (k : w.grownBy w' o) (ho : o ≠ some b) : RdAt w' b T s m N D := (k.block b h.lt (fun e => ho e.symm)).trans h

set_option maxHeartbeats 2000000 in
set_option maxRecDepth 100000 in
theorem impl_readArgs (b d : Nat) (HR : ReadOk b (d + 1)) (w : World) (s : List UInt8) (m cr cd : Nat) (hd : d ≤ 12) (h1 : w.cell? ⟨cr, 0, none⟩ = some (.pointer (some ⟨b, 0, none⟩))) (h2 : w.cell? ⟨cd, 0, none⟩ = some (.int .i64 (d : Int))) (hcr : cr ≠ b ∧ cr < w.heap.size) (hcd : cd ≠ b ∧ cd < w.heap.size) (hm : m ≤ 40) (h : RdAt w b TR s m 40 12) (hl : s.length ≤ 1048576) (hk : Keeps b w) :
    Calls Tryd.prog 49 #[.pointer (some ⟨b, 0, none⟩), .func (.func 50) #[] #[.pointer (some ⟨cr, 0, none⟩), .pointer (some ⟨cd, 0, none⟩)]] w fun e w' => AnsA w b s m d e w' ∧ Only (Just b) w w' := by
  have hi : (Tryd.prog.info? 24).map (fun i => (i.zero, i.size, i.bytes)) = some (some (.agg #[.int .i64 0, .int .i64 0, .string ⟨#[]⟩, .slice none 0 0]), 4, 56) := by kernel_rfl
  obtain ⟨i0, hi, hz0, hz1, hz2⟩ := info_parts hi
  have hlt := h.lt
  have HARG : Hid (∀ w2 s2 m2, Only (Just b) w w2 → m2 ≤ 40 → RdAt w2 b TR s2 m2 40 12 → s2.length ≤ 1048576 → Calls Tryd.prog 50 #[.pointer (some ⟨cr, 0, none⟩), .pointer (some ⟨cd, 0, none⟩)] w2 fun e w' => Ans w2 b s2 m2 (d + 1) e w' ∧ Only (Just b) w2 w') :=
    fun w2 s2 m2 hO hm2 hR2 hl2 => impl_readArg b d HR w2 s2 m2 cr cd hd ((World.cell?_of_block (hO.block cr hcr.2 hcr.1)).trans h1) ((World.cell?_of_block (hO.block cd hcd.2 hcd.1)).trans h2) hm2 hR2 hl2 (hk.on hO)
  have HIn := Lib.hid (ArgsIn.start 40 12 s m d hd)
  have HRD := Lib.hid h
  have HL := Lib.hid hl
  have HLT := Lib.hid hlt
  have HM := Lib.hid hm
  have HHI := Lib.hid hi
  clear HR h1 h2 hcr hcd h hl hk hlt hd hm
  go_enter Tryd.func49, Tryd.ntmps49
  go_wp2
  go_loopg [6] 41 (fun gg rv wr => ∃ (A : Trees) (s1 : List UInt8) (m1 : Nat) (bs : List Nat) (xs : List Value), Aside (GrowV wr w.heap.size rv A bs xs) ∧ Aside (RdAt wr b TR s1 m1 40 12 ∧ ArgsIn 40 12 s m d A s1 m1 ∧ Only (Just b) w wr ∧ m1 ≤ 40 ∧ s1.length ≤ 1048576 ∧ 41 - m1 ≤ gg) ∧ gg ≤ 41)
  case atStart => exact ⟨.nil, s, m, [], [], GrowV.nil _ _, ⟨HRD.out, HIn.out, Only.refl _ _, HM.out, HL.out, by omega⟩, by omega⟩
  case round =>
    obtain ⟨A, s1, m1, bs, xs, hG, hI, hgk⟩ := hrel
    have HG := Lib.hid hG.out
    have HI := Lib.hid hI.out
    have HC := Lib.hid (HARG.out wr s1 m1 HI.out.2.2.1 HI.out.2.2.2.1 HI.out.1 HI.out.2.2.2.2.1)
    clear hG hI
    go_wp2_with fail
    refine HC.out.mono ?_
    clear HC
    rintro e w1 ⟨hAns, hO1⟩
    obtain ⟨r1, r2, r3, r4, r5, r6⟩ := HI.out
    have hO1' := r3.trans hO1
    rcases hAns with ⟨p, s2, m2, v, bs2, rfl, ho, hnd, hbs, hR2, hP⟩ | ⟨s2, m2, rfl, hR2, hP⟩
    rotate_left
    · have H2 : Hid (RdAt (w1.alloc zeroBox) b TR s2 m2 40 12 ∧ ArgsNone 40 s m d ∧ Only (Just b) w (w1.alloc zeroBox)) := ⟨hR2.below ((Below.refl _ _).alloc (Nat.le_refl _) _), args_none1 r2 hP, hO1'.more _⟩
      clear r1 r2 r3 r4 r5 r6 hO1 hO1' hR2 hP
      go_wp2
      go_ret2
      exact ⟨.inr ⟨s2, m2, rfl, H2.out.1, H2.out.2.1⟩, H2.out.2.2⟩
    obtain ⟨p2, cap2, rfl, _, _⟩ := ho.reads
    obtain ⟨n1, n2, n3, n4⟩ := two_new w1 (.cells #[.int .i64 p.k, .int .i64 p.n, .string p.t, .slice p2 p.F.length cap2] TP) (.cells #[.int .i64 p.k, .int .i64 p.n, .string p.t, .slice p2 p.F.length cap2] TP)
    obtain ⟨x0, x1, x2, x3, f0, f1, f2, f3⟩ := four_cells (heap_at_new w1 (.cells #[.int .i64 p.k, .int .i64 p.n, .string p.t, .slice p2 p.F.length cap2] TP))
    have hBw := HLT.out
    have hG1 := HG.out.grown hO1.grownBy hBw
    have HG3 := Lib.hid (hG1.below n4).owns
    have HNEW := Lib.hid (World.news_of_block n2)
    have hAl : A.length ≤ A.count := A.length_le_count
    have hA2 := r2.nodes
    have HAL : Hid (A.length ≤ 40) := by unfold Hid; omega
    have hsz : w.heap.size ≤ w1.heap.size := hO1'.size
    have HSZ : Hid (w.heap.size ≤ ((w1.alloc (.cells #[.int .i64 p.k, .int .i64 p.n, .string p.t, .slice p2 p.F.length cap2] TP)).alloc (.cells #[.int .i64 p.k, .int .i64 p.n, .string p.t, .slice p2 p.F.length cap2] TP)).heap.size) := by unfold Hid; rw [n3]; omega
    have HN4 := Lib.hid n4
    have HN3 := Lib.hid n3
    have H2 : Hid (OwnV w1 (.slice p2 p.F.length cap2) p.F bs2 ∧ bs2.Nodup ∧ (∀ c ∈ bs2, wr.heap.size ≤ c ∧ c < w1.heap.size) ∧ RdAt w1 b TR s2 m2 40 12 ∧ OkP 40 12 s1 m1 (d + 1) p s2 m2 ∧ Only (Just b) wr w1 ∧ Only (Just b) w w1) := ⟨ho, hnd, hbs, hR2, hP, hO1, hO1'⟩
    clear r1 r2 r3 r4 r5 r6 hO1 hO1' hR2 hP ho hnd hbs hG1 n1 n2 n3 n4 hBw hAl hA2 hsz
    go_wp2_with (at_builtin; refine wpList_append_lies _ rfl _ _ 22 rfl w.heap.size 24 i0 (.agg #[.int .i64 0, .int .i64 0, .string ⟨#[]⟩, .slice none 0 0]) 4 56 Tryd.underlying22 hi hz0 hz1 hz2 rfl (by decide) _ _ _ rfl HG3.out ⟨w1.heap.size + 1, 0, none⟩ 1 1 [.int .i64 p.k, .int .i64 p.n, .string p.t, .slice p2 p.F.length cap2] rfl rfl HNEW.out (grow_one _ _ _ _ _ _) (by decide) (by unfold maxLen; have := HAL.out; omega) (by have := HAL.out; omega) HSZ.out (w1.heap.size + 2) (by simp) ?_)
    intro g9 cap9 w9 hown hgrow hat hlt9
    have hGM := GrowV.moreN HG.out HI.out.2.2.1.size H2.out.2.2.2.2.2.1.grownBy HLT.out H2.out.1 H2.out.2.1 H2.out.2.2.1 HN4.out hown hgrow (by rcases hat with h | h; exact .inl h; exact .inr (h.trans HN3.out.symm))
    have hfar := (HG.out.grown H2.out.2.2.2.2.2.1.grownBy HLT.out).far
    have hR9 : RdAt w9 b TR s2 m2 40 12 := (H2.out.2.2.2.1.below HN4.out).grown hgrow (fun e => by have := hfar b e; have := HLT.out; omega)
    have hO9 : Only (Just b) w w9 := only_grown (H2.out.2.2.2.2.2.2.trans (Only.of_below HN4.out)) hgrow (fun g e => hfar g e)
    have H9 : Hid (GrowV w9 w.heap.size (.slice (some ⟨g9, 0, none⟩) (A.length + 1) cap9) (A.add p) (bs ++ bs2) (xs ++ [.int .i64 p.k, .int .i64 p.n, .string p.t, .slice p2 p.F.length cap2]) ∧ Only (Just b) w w9) := ⟨hGM, hO9⟩
    have HS := impl_skip w9 b TR s2 [41] m2 40 12 hR9
    clear hGM hfar hR9 hO9 hown hgrow hat hlt9 HG HNEW HSZ HN3 HG3 x0 x1 x2 x3 f0 f1 f2 f3
    rcases skip_cases s2 [41] with ⟨e1, e2, e3⟩ | ⟨e1, e2⟩
    rotate_left
    · rw [e1] at HS
      generalize skipped s2 [41] = r2 at *
      have e4 : s2 = 41 :: r2 := e2
      subst e4
      clear e1 e2
      go_wp2_with fail
      refine HS.mono ?_
      clear HS
      rintro e w10 ⟨rfl, hR10, hO10⟩
      have H10 : Hid (RdAt w10 b TR r2 m2 40 12 ∧ Only (Just b) w9 w10) := ⟨hR10, hO10⟩
      clear hR10 hO10
      go_wp2
      go_ret2
      obtain ⟨cs, o1, o2, o3⟩ := (H9.out.1.grown H10.out.2.grownBy HLT.out).own
      have hln : (A.add p).length = A.length + 1 := Trees.snoc_length _ _ _ _ _
      exact ⟨.inl ⟨A.add p, r2, m2, _, cs, rfl, o1, o2, o3, H10.out.1, args_ok HI.out.2.1 H2.out.2.2.2.2.1⟩, H9.out.2.trans H10.out.2⟩
    rw [e1, e3] at HS
    have HNE := Lib.hid e2
    clear e1 e2 e3
    go_wp2_with fail
    refine HS.mono ?_
    clear HS
    rintro e w10 ⟨rfl, hR10, hO10⟩
    have HS := impl_skip w10 b TR s2 [44, 32] m2 40 12 hR10
    have H10 : Hid (Only (Just b) w9 w10) := hO10
    clear hR10 hO10
    rcases skip_cases s2 [44, 32] with ⟨e1, e2, e3⟩ | ⟨e1, e2⟩
    · rw [e1, e3] at HS
      have HAN := Lib.hid (args_none2 HI.out.2.1 H2.out.2.2.2.2.1 (fun r => HNE.out r) (fun r => e2 r))
      clear e1 e2 e3
      go_wp2_with fail
      refine HS.mono ?_
      clear HS
      rintro e w11 ⟨rfl, hR11, hO11⟩
      have H11 : Hid (RdAt w11 b TR s2 m2 40 12 ∧ Only (Just b) w10 w11) := ⟨hR11, hO11⟩
      clear hR11 hO11
      go_wp2
      go_ret2
      exact ⟨.inr ⟨s2, m2, rfl, H11.out.1, HAN.out⟩, (H9.out.2.trans H10.out).trans H11.out.2⟩
    · rw [e1] at HS
      generalize skipped s2 [44, 32] = r2 at *
      have e4 : s2 = 44 :: 32 :: r2 := e2
      subst e4
      clear e1 e2
      go_wp2_with fail
      refine HS.mono ?_
      clear HS
      rintro e w11 ⟨rfl, hR11, hO11⟩
      have H11 : Hid (RdAt w11 b TR r2 m2 40 12 ∧ Only (Just b) w10 w11) := ⟨hR11, hO11⟩
      clear hR11 hO11
      go_wp2
      have hb1 := H9.out.1.grown (H10.out.trans H11.out.2).grownBy HLT.out
      have hk := H2.out.2.2.2.2.1
      have k1 := hk.nodes
      have k2 := hk.fits.1
      have k3 := congrArg List.length hk.text
      rw [List.length_append] at k3
      simp only [List.length_cons] at k3
      have k4 := HI.out.2.2.2.2.1
      have k5 := HI.out.2.2.2.2.2
      go_roundg (gk - 1)
      case rel => exact ⟨A.add p, r2, m2, bs ++ bs2, _, hb1, ⟨H11.out.1, args_more HI.out.2.1 hk, (H9.out.2.trans H10.out).trans H11.out.2, by omega, by omega, by omega⟩, by omega⟩
      case measure => omega
end Go.Proofs.YtijbaienhaiamaaDoor.Va
end
