/- What is proved here: a piece of the proof of YtdifefgigcjgeaaGreatDoorExactParsePat (PtGrowN, SArgs, SQuote, SpecParseInt). Condition: none beyond what each part says. -/
import Derived.Test.YtdifefgigcjgeaaGreatDoorPp09
import Derived.Deep.LoopGhost
import Derived.Deep.AppendLies
import Derived.Test.YtdifefgigcjgeaaGreatDoorPp07
import Derived.Deep.RegionWith

/- What is proved here: rows of nodes that grow beside a block that changes. No condition. -/
section
namespace Go.Proofs.YtdifefgigcjgeaaGreatDoor.Pt
open Go.RowKit

/-- Only block N, below the row, has changed. -/
theorem GrowV.grown {w w' : World} {B N : Nat} {v : Value} {F : Trees} {bs : List Nat} {xs : List Value} (h : GrowV w B v F bs xs) (hg : w.grownBy w' (some N)) (hN : N < B) : GrowV w' B v F bs xs := by
  refine ⟨⟨h.owns.1, ?_⟩, h.row.keep F xs bs (fun b hm => hg.block b (h.near b hm).2.1 (fun e => by have := (h.near b hm).1; injection e with e; omega)), h.nodup, fun b hm => ⟨(h.near b hm).1, Nat.lt_of_lt_of_le (h.near b hm).2.1 hg.size, (h.near b hm).2.2⟩⟩
  rcases h.owns.2 with h | ⟨g, cap, cur, rfl, hB, hh, h1, h2, h3, h4⟩
  · exact .inl h
  · exact .inr ⟨g, cap, cur, rfl, hB, by rw [hg.block g (Array.getElem?_eq_some_iff.1 hh).1 (fun e => by injection e with e; omega)]; exact hh, h1, h2, h3, h4⟩
/-- Behind an append of one node that was made while only block N of the old ones changed. -/
theorem GrowV.moreN {w w1 w2 w3 : World} {B N : Nat} {F ar : Trees} {bs c : List Nat} {xs : List Value} {k n : Int} {t : ByteArray} {u v : Value} {g cap : Nat}
    (h : GrowV w B v F bs xs) (hB : B ≤ w.heap.size) (h1 : w.grownBy w1 (some N)) (hN : N < B) (ho : OwnV w1 u ar c) (hnd : c.Nodup) (hc : ∀ b ∈ c, w.heap.size ≤ b ∧ b < w1.heap.size) (h2 : Below w1.heap.size w1 w2)
    (hown : w3.ownsRow B 49 4 (.slice (some ⟨g, 0, none⟩) (F.length + 1) cap) (F.length + 1) (xs ++ [.int .i64 k, .int .i64 n, .string t, u])) (hgrow : w2.grownBy w3 v.ownBlock) (hat : v.ownBlock = some g ∨ g = w2.heap.size) :
    GrowV w3 B (.slice (some ⟨g, 0, none⟩) (F.length + 1) cap) (F.snoc k n t ar) (bs ++ c) (xs ++ [.int .i64 k, .int .i64 n, .string t, u]) := by
  have h' := h.grown h1 hN
  have s1 := h1.size
  have s2 := h2.size
  have hvb : ∀ b, v.ownBlock = some b → b < w.heap.size := fun b hb => by
    rcases h.owns.2 with ⟨e, _⟩ | ⟨g', cap', cur, rfl, _, hg', _⟩
    · subst e; cases hb
    · cases hb; exact (Array.getElem?_eq_some_iff.1 hg').1
  have s3 := hgrow.size
  have kb : ∀ b ∈ bs, w3.heap[b]? = w1.heap[b]? := fun b hm => by
    have hn := h'.near b hm
    rw [hgrow.block b (by omega) (fun e => hn.2.2 e.symm), h2.block b hn.2.1]
  have kc : ∀ b ∈ c, w3.heap[b]? = w1.heap[b]? := fun b hm => by
    have hn := hc b hm
    rw [hgrow.block b (by omega) (fun e => by have := hvb b e.symm; omega), h2.block b hn.2]
  refine ⟨?_, RowV.snoc (ho.keep kc) F xs bs (h'.row.keep F xs bs kb), List.nodup_append.2 ⟨h.nodup, hnd, fun b hb1 b' hb2 e => ?_⟩, fun b hm => ?_⟩
  · rw [Trees.snoc_length]; exact hown
  · have := (h.near b hb1).2.1
    have := (hc b' hb2).1
    omega
  · rcases List.mem_append.1 hm with hm | hm
    · have hn := h'.near b hm
      refine ⟨hn.1, by omega, fun e => ?_⟩
      have e : g = b := Option.some.inj e
      subst e
      rcases hat with ha | ha
      · exact hn.2.2 ha
      · omega
    · have hn := hc b hm
      refine ⟨by omega, by omega, fun e => ?_⟩
      have e : g = b := Option.some.inj e
      subst e
      rcases hat with ha | ha
      · have := hvb g ha; omega
      · omega

end Go.Proofs.YtdifefgigcjgeaaGreatDoor.Pt
end

/- What is proved here: the specification's l6Args. Condition: l6Pat answers as said at the next depth. -/
section
namespace Go.Proofs.YtdifefgigcjgeaaGreatDoor.Sp
open Go.RowKit

theorem Only_grownBy {b : Nat} {w w' : World} (h : Only (Just b) w w') : w.grownBy w' (some b) := ⟨h.os, h.tape, h.output, h.size, fun k hk hn => h.block k hk (fun e => hn (by show some k = some b; exact congrArg some e))⟩
theorem only_grown {F : Nat → Prop} {w w1 w2 : World} {o : Option Nat} (h : Only F w w1) (k : w1.grownBy w2 o) (ho : ∀ g, o = some g → w.heap.size ≤ g) : Only F w w2 :=
  ⟨k.os.trans h.os, k.tape.trans h.tape, k.output.trans h.output, Nat.le_trans h.size k.size, fun b hb hn => (k.block b (Nat.lt_of_lt_of_le hb h.size) (fun e => by have := ho b e.symm; omega)).trans (h.block b hb hn)⟩
theorem SAt_grown {w w' : World} {b : Nat} {s : ByteArray} {p : Nat} {bad : Bool} {o : Option Nat} (h : SAt w b s p bad) (k : w.grownBy w' o) (ho : o ≠ some b) : SAt w' b s p bad := (k.block b h.lt (fun e => ho e.symm)).trans h
/-- What l6Args ends as. -/
def SArgs (w : World) (b : Nat) (s : ByteArray) (k m d : Nat) (e : Ending) (w' : World) : Prop :=
  (∃ G k' m' v bs, e = .returned v ∧ Pt.OwnV w' v G bs ∧ bs.Nodup ∧ (∀ c ∈ bs, w.heap.size ≤ c ∧ c < w'.heap.size) ∧ SAt w' b s k' false ∧ k' ≤ s.size ∧ ArgsOk (s.data.toList.drop k) m d G (s.data.toList.drop k') m') ∨
  (∃ a l c k', e = .returned (.slice a l c) ∧ SAt w' b s k' true ∧ k' ≤ s.size ∧ ArgsNone (s.data.toList.drop k) m d)
/-- Between two rounds. -/
def ArgsInv (w : World) (b : Nat) (s : ByteArray) (k m d : Nat) (gg : Nat) (rv : Value) (wr : World) : Prop :=
  (∃ (A : Trees) (k1 m1 : Nat) (bs : List Nat) (xs : List Value), Pt.GrowV wr w.heap.size rv A bs xs ∧ SAt wr b s k1 false ∧ ArgsIn (s.data.toList.drop k) m d A (s.data.toList.drop k1) m1 ∧ Only (Just b) w wr ∧ m1 ≤ k1 ∧ k1 ≤ s.size ∧ s.size - k1 + 2 ≤ gg) ∨
  (∃ a l c k1, rv = .slice a l c ∧ SAt wr b s k1 true ∧ k1 ≤ s.size ∧ ArgsNone (s.data.toList.drop k) m d ∧ Only (Just b) w wr ∧ 1 ≤ gg)

set_option maxHeartbeats 4000000 in
set_option maxRecDepth 100000 in
theorem spec_args (b d : Nat) (HR : SReadOk b (d + 1)) (w : World) (s : ByteArray) (k m : Nat) (hd : d ≤ 8) (h : SAt w b s k false) (hs : s.size ≤ 1048576) (hk : k ≤ s.size) (hm : m ≤ k) :
    Calls Tryz.prog 118 #[.pointer (some ⟨b, 0, none⟩), .int .i64 (d : Int)] w fun e w' => SArgs w b s k m d e w' ∧ Only (Just b) w w' := by
  have hi : (Tryz.prog.info? 49).map (fun i => (i.zero, i.size, i.bytes)) = some (some (.agg #[.int .i64 0, .int .i64 0, .string ⟨#[]⟩, .slice none 0 0]), 4, 56) := by kernel_rfl
  obtain ⟨i0, hi, hz0, hz1, hz2⟩ := info_parts hi
  have HRO : Hid (∀ W k m, SAt W b s k false → k ≤ s.size → m ≤ k → Calls Tryz.prog 60 #[.pointer (some ⟨b, 0, none⟩), .int .i64 ((d : Int) + 1)] W fun e w' => SpAns W b s k m (d + 1) e w' ∧ Only (Just b) W w') := fun W k m h1 h2 h3 => HR W s k m h1 hs h2 h3
  have hlt := h.lt
  have hB0 : Below w.heap.size w (w.alloc (.cells #[] 49)) := (Below.refl _ _).alloc (Nat.le_refl _) _
  have hown0 : (w.alloc (.cells #[] 49)).ownsRow w.heap.size 49 4 (.slice (some ⟨w.heap.size, 0, none⟩) 0 0) 0 [] := World.ownsRow_lit (base := w.heap.size) (e := 49) (size := 4) w #[] 0 (Nat.le_refl _) (by unfold maxLen; omega) rfl
  have HI0 : Hid (ArgsInv w b s k m d 1048578 (.slice (some ⟨w.heap.size, 0, none⟩) 0 0) (w.alloc (.cells #[] 49))) := .inl ⟨.nil, k, m, [], [], ⟨hown0, ⟨rfl, rfl⟩, List.nodup_nil, by simp⟩, h.below hB0, ArgsIn.start _ m d hd, Only.of_below hB0, hm, hk, by omega⟩
  have HQ : Hid (b < w.heap.size ∧ s.size ≤ 1048576) := ⟨hlt, hs⟩
  have HHI := Lib.hid hi
  clear HR h hlt hB0 hown0 hs hk hm
  go_enter Tryz.func118, Tryz.ntmps118
  go_wp2
  go_loopg [5] 1048578 (fun gg rv wr => Aside (ArgsInv w b s k m d gg rv wr) ∧ gg ≤ 1048578)
  case atStart => exact ⟨HI0.out, by omega⟩
  case round =>
    obtain ⟨hinv, hgk⟩ := hrel
    rcases hinv.out with ⟨A, k1, m1, bs, xs, hG, hS, hIn, hO, hmk, hk1, hgg⟩ | ⟨a, l, c, k1, rfl, hS, hk1, hN, hO, hg1⟩
    rotate_left
    · -- it has failed
      obtain ⟨c0, c1, c2, f1, f2⟩ := hS.cells
      have H1 : Hid (SAt wr b s k1 true ∧ k1 ≤ s.size ∧ ArgsNone (s.data.toList.drop k) m d ∧ Only (Just b) w wr) := ⟨hS, hk1, hN, hO⟩
      clear hinv hS hN hO hk1 hg1
      go_wp2
      go_ret
      exact ⟨.inr ⟨a, l, c, k1, rfl, H1.out.1, H1.out.2.1, H1.out.2.2.1⟩, H1.out.2.2.2⟩
    have HG := Lib.hid hG
    have HI : Hid (ArgsIn (s.data.toList.drop k) m d A (s.data.toList.drop k1) m1 ∧ Only (Just b) w wr ∧ m1 ≤ k1 ∧ k1 ≤ s.size ∧ s.size - k1 + 2 ≤ gk) := ⟨hIn, hO, hmk, hk1, hgg⟩
    have HC := Lib.hid (HRO.out wr k1 m1 hS hk1 hmk)
    obtain ⟨c0, c1, c2, f1, f2⟩ := hS.cells
    have hAl : A.length ≤ A.count := A.length_le_count
    have hA2 := hIn.nodes
    have HAL : Hid (A.length ≤ 1048576) := by have := HQ.out.2; unfold Hid; omega
    clear hinv hG hS hIn hO hmk hk1 hgg hAl hA2
    go_wp2_with fail
    refine HC.out.mono ?_
    clear HC c0 c1 c2 f1 f2
    rintro e w1 ⟨hAns, hO1⟩
    have hBw := HQ.out.1
    have hG1 := HG.out.grown (Only_grownBy hO1) hBw
    have HO1 : Hid (Only (Just b) wr w1 ∧ Only (Just b) w w1) := ⟨hO1, HI.out.2.1.trans hO1⟩
    rcases hAns with ⟨p, k2, m2, v, bs2, rfl, ho, hnd, hbs, hS2, hk2, hP⟩ | ⟨kk, nn, t, a, l, c, k2, rfl, hS2, hk2, hN⟩
    rotate_left
    · -- this argument failed
      have HAN : Hid (ArgsNone (s.data.toList.drop k) m d) := args_none1 HI.out.1 hN
      have hB2 : Below w1.heap.size w1 (w1.alloc (.cells #[.int .i64 kk, .int .i64 nn, .string t, .slice a l c] 49)) := (Below.refl _ _).alloc (Nat.le_refl _) _
      have hn2 := heap_at_new w1 (.cells #[.int .i64 kk, .int .i64 nn, .string t, .slice a l c] 49)
      have HG3 := Lib.hid (hG1.below hB2).owns
      have HNEW := Lib.hid (World.news_of_block hn2)
      have HB2 := Lib.hid hB2
      have HSZ : Hid (w.heap.size ≤ (w1.alloc (.cells #[.int .i64 kk, .int .i64 nn, .string t, .slice a l c] 49)).heap.size) := by have := HO1.out.2.size; have := hB2.size; unfold Hid; omega
      have H2 : Hid (SAt w1 b s k2 true ∧ k2 ≤ s.size ∧ w1.heap.size + 1 = (w1.alloc (.cells #[.int .i64 kk, .int .i64 nn, .string t, .slice a l c] 49)).heap.size) := ⟨hS2, hk2, (Array.size_push _).symm⟩
      have HFAR := Lib.hid hG1.far
      clear hN hB2 hn2 hS2 hk2 hG1 hBw hO1
      go_wp2_with (at_builtin; refine wpList_append_lies _ rfl _ _ 47 rfl w.heap.size 49 i0 (.agg #[.int .i64 0, .int .i64 0, .string ⟨#[]⟩, .slice none 0 0]) 4 56 Tryz.underlying47 hi hz0 hz1 hz2 rfl (by decide) _ _ _ rfl HG3.out ⟨w1.heap.size, 0, none⟩ 1 1 [.int .i64 kk, .int .i64 nn, .string t, .slice a l c] rfl rfl HNEW.out (Pt.grow_one _ _ _ _ _ _) (by decide) (by unfold maxLen; have := HAL.out; omega) (by have := HAL.out; omega) HSZ.out (w1.heap.size + 1) (by simp) ?_)
      intro g9 cap9 w9 hown hgrow hat hlt9
      have hS9 : SAt w9 b s k2 true := SAt_grown (H2.out.1.below HB2.out) hgrow (fun e => by have := HFAR.out b e; have := HQ.out.1; omega)
      have hO9 : Only (Just b) w w9 := only_grown (HO1.out.2.trans (Only.of_below HB2.out)) hgrow (fun g e => HFAR.out g e)
      have HO9 := Lib.hid hO9
      have HS := Lib.hid (take_bad w9 b s k2 [41] hS9 HQ.out.2 H2.out.2.1 (by simp))
      have HTB := Lib.hid (fun W hW => take_bad W b s k2 [44, 32] hW HQ.out.2 H2.out.2.1 (by simp))
      clear hS9 hO9 hown hgrow hat hlt9 HG HG3 HNEW HSZ HFAR
      go_wp2_with fail
      refine HS.out.mono ?_
      clear HS
      rintro e w10 ⟨rfl, hS10, hO10⟩
      have HS := Lib.hid (HTB.out w10 hS10)
      have HO10 := Lib.hid hO10
      clear hS10 hO10 HTB
      go_wp2_with fail
      refine HS.out.mono ?_
      clear HS
      rintro e w11 ⟨rfl, hS11, hO11⟩
      obtain ⟨c0, c1, c2, f1, f2⟩ := hS11.cells
      have H11 : Hid (SAt (w11.setCell ⟨b, 2, none⟩ (.bool true)) b s k2 true ∧ Only (Just b) w (w11.setCell ⟨b, 2, none⟩ (.bool true))) := ⟨hS11.fail true, ((HO9.out.trans HO10.out).trans hO11).trans (only_set _ _ _ _)⟩
      have hgk1 := HI.out.2.2.2.2
      clear hS11 hO11
      go_wp2
      go_roundg (gk - 1)
      case rel => exact ⟨.inr ⟨_, _, _, k2, rfl, H11.out.1, H2.out.2.1, HAN.out, H11.out.2, by omega⟩, by omega⟩
      case measure => omega
    obtain ⟨p2, cap2, rfl, _, _⟩ := ho.reads
    have hB2 : Below w1.heap.size w1 (w1.alloc (.cells #[.int .i64 p.k, .int .i64 p.n, .string p.t, .slice p2 p.F.length cap2] 49)) := (Below.refl _ _).alloc (Nat.le_refl _) _
    have hn2 := heap_at_new w1 (.cells #[.int .i64 p.k, .int .i64 p.n, .string p.t, .slice p2 p.F.length cap2] 49)
    have HG3 := Lib.hid (hG1.below hB2).owns
    have HNEW := Lib.hid (World.news_of_block hn2)
    have HB2 := Lib.hid hB2
    have HSZ : Hid (w.heap.size ≤ (w1.alloc (.cells #[.int .i64 p.k, .int .i64 p.n, .string p.t, .slice p2 p.F.length cap2] 49)).heap.size) := by have := HO1.out.2.size; have := hB2.size; unfold Hid; omega
    have HS1 : Hid ((w1.alloc (.cells #[.int .i64 p.k, .int .i64 p.n, .string p.t, .slice p2 p.F.length cap2] 49)).heap.size = w1.heap.size + 1) := Array.size_push _
    have H2 : Hid (Pt.OwnV w1 (.slice p2 p.F.length cap2) p.F bs2 ∧ bs2.Nodup ∧ (∀ c ∈ bs2, wr.heap.size ≤ c ∧ c < w1.heap.size) ∧ SAt w1 b s k2 false ∧ k2 ≤ s.size ∧ OkP (s.data.toList.drop k1) m1 (d + 1) p (s.data.toList.drop k2) m2) := ⟨ho, hnd, hbs, hS2, hk2, hP⟩
    clear hB2 hn2 hS2 hk2 hG1 hBw hO1 ho hnd hbs hP
    go_wp2_with (at_builtin; refine wpList_append_lies _ rfl _ _ 47 rfl w.heap.size 49 i0 (.agg #[.int .i64 0, .int .i64 0, .string ⟨#[]⟩, .slice none 0 0]) 4 56 Tryz.underlying47 hi hz0 hz1 hz2 rfl (by decide) _ _ _ rfl HG3.out ⟨w1.heap.size, 0, none⟩ 1 1 [.int .i64 p.k, .int .i64 p.n, .string p.t, .slice p2 p.F.length cap2] rfl rfl HNEW.out (Pt.grow_one _ _ _ _ _ _) (by decide) (by unfold maxLen; have := HAL.out; omega) (by have := HAL.out; omega) HSZ.out (w1.heap.size + 1) (by simp) ?_)
    intro g9 cap9 w9 hown hgrow hat hlt9
    have hGM := Pt.GrowV.moreN HG.out HI.out.2.1.size (Only_grownBy HO1.out.1) HQ.out.1 H2.out.1 H2.out.2.1 H2.out.2.2.1 HB2.out hown hgrow (by rcases hat with h | h; exact .inl h; exact .inr (h.trans HS1.out.symm))
    have hfar := (HG.out.grown (Only_grownBy HO1.out.1) HQ.out.1).far
    have hS9 : SAt w9 b s k2 false := SAt_grown (H2.out.2.2.2.1.below HB2.out) hgrow (fun e => by have := hfar b e; have := HQ.out.1; omega)
    have hO9 : Only (Just b) w w9 := only_grown (HO1.out.2.trans (Only.of_below HB2.out)) hgrow (fun g e => hfar g e)
    have H9 : Hid (Pt.GrowV w9 w.heap.size (.slice (some ⟨g9, 0, none⟩) (A.length + 1) cap9) (A.add p) (bs ++ bs2) (xs ++ [.int .i64 p.k, .int .i64 p.n, .string p.t, .slice p2 p.F.length cap2]) ∧ Only (Just b) w w9) := ⟨hGM, hO9⟩
    have HM2 : Hid (m2 ≤ k2) := okp_le H2.out.2.2.2.2.2 HI.out.2.2.1 HI.out.2.2.2.1 H2.out.2.2.2.2.1
    have HK12 : Hid (k1 < k2) := by
      have h1 := congrArg List.length H2.out.2.2.2.2.2.text
      have hsl : s.data.toList.length = s.size := rfl
      rw [List.length_append, List.length_drop, List.length_drop, hsl] at h1
      have h2 := good_ge H2.out.2.2.2.2.2.good
      have h3 := HI.out.2.2.2.1
      have h4 := H2.out.2.2.2.2.1
      unfold Hid
      omega
    clear hGM hfar hO9 hown hgrow hat hlt9 HG HNEW HSZ HG3
    cases hse : sees s k2 [41] with
    | true =>
      have HS := Lib.hid (take_yes w9 b s k2 [41] hS9 HQ.out.2 H2.out.2.2.2.2.1 (by simp) hse)
      have HDR := Lib.hid (sees_true hse H2.out.2.2.2.2.1)
      clear hse hS9
      go_wp2_with fail
      refine HS.out.mono ?_
      clear HS
      rintro e w10 ⟨rfl, hS10, hO10⟩
      have H10 : Hid (SAt w10 b s (k2 + 1) false ∧ Only (Just b) w9 w10) := ⟨hS10, hO10⟩
      have HP : Hid (OkP (s.data.toList.drop k1) m1 (d + 1) p (41 :: s.data.toList.drop (k2 + 1)) m2) := by have h := H2.out.2.2.2.2.2; rw [HDR.out.1] at h; exact h
      clear hS10 hO10
      go_wp2
      go_ret
      obtain ⟨cs, o1, o2, o3⟩ := (H9.out.1.grown (Only_grownBy H10.out.2) HQ.out.1).own
      have hln : (A.add p).length = A.length + 1 := Trees.snoc_length _ _ _ _ _
      exact ⟨.inl ⟨A.add p, k2 + 1, m2, _, cs, rfl, o1, o2, o3, H10.out.1, HDR.out.2, args_ok HI.out.1 HP.out⟩, H9.out.2.trans H10.out.2⟩
    | false =>
      have HS := Lib.hid (take_no w9 b s k2 [41] hS9 HQ.out.2 H2.out.2.2.2.2.1 (by simp) hse)
      have HN1 : Hid (∀ r, s.data.toList.drop k2 ≠ 41 :: r) := fun r => sees_false hse r
      clear hse hS9
      cases hse : sees s k2 [44, 32] with
      | false =>
        have HTB := Lib.hid (fun W hW => take_no W b s k2 [44, 32] hW HQ.out.2 H2.out.2.2.2.2.1 (by simp) hse)
        have HAN : Hid (ArgsNone (s.data.toList.drop k) m d) := args_none2 HI.out.1 H2.out.2.2.2.2.2 HN1.out (fun r => sees_false hse r)
        clear hse
        go_wp2_with fail
        refine HS.out.mono ?_
        clear HS
        rintro e w10 ⟨rfl, hS10, hO10⟩
        have HS := Lib.hid (HTB.out w10 hS10)
        have HO10 := Lib.hid hO10
        clear hS10 hO10 HTB
        go_wp2_with fail
        refine HS.out.mono ?_
        clear HS
        rintro e w11 ⟨rfl, hS11, hO11⟩
        obtain ⟨c0, c1, c2, f1, f2⟩ := hS11.cells
        have H11 : Hid (SAt (w11.setCell ⟨b, 2, none⟩ (.bool true)) b s k2 true ∧ Only (Just b) w (w11.setCell ⟨b, 2, none⟩ (.bool true))) := ⟨hS11.fail true, ((H9.out.2.trans HO10.out).trans hO11).trans (only_set _ _ _ _)⟩
        have hgk1 := HI.out.2.2.2.2
        clear hS11 hO11
        go_wp2
        go_roundg (gk - 1)
        case rel => exact ⟨.inr ⟨_, _, _, k2, rfl, H11.out.1, H2.out.2.2.2.2.1, HAN.out, H11.out.2, by omega⟩, by omega⟩
        case measure => omega
      | true =>
        have HTB := Lib.hid (fun W hW => take_yes W b s k2 [44, 32] hW HQ.out.2 H2.out.2.2.2.2.1 (by simp) hse)
        have HDR := Lib.hid (sees_true hse H2.out.2.2.2.2.1)
        clear hse
        go_wp2_with fail
        refine HS.out.mono ?_
        clear HS
        rintro e w10 ⟨rfl, hS10, hO10⟩
        have HS := Lib.hid (HTB.out w10 hS10)
        have HO10 := Lib.hid hO10
        clear hS10 hO10 HTB
        go_wp2_with fail
        refine HS.out.mono ?_
        clear HS
        rintro e w11 ⟨rfl, hS11, hO11⟩
        have HP : Hid (OkP (s.data.toList.drop k1) m1 (d + 1) p (44 :: 32 :: s.data.toList.drop (k2 + 2)) m2) := by have h := H2.out.2.2.2.2.2; rw [HDR.out.1] at h; exact h
        have H11 : Hid (SAt w11 b s (k2 + 2) false ∧ Only (Just b) w9 w11) := ⟨hS11, HO10.out.trans hO11⟩
        clear hS11 hO11
        go_wp2
        have hb1 := H9.out.1.grown (Only_grownBy H11.out.2) HQ.out.1
        have k9 := HK12.out
        have k8 := HM2.out
        have k7 := HDR.out.2
        have k6 := HI.out.2.2.2.2
        go_roundg (gk - 1)
        case rel => exact ⟨.inl ⟨A.add p, k2 + 2, m2, bs ++ bs2, _, hb1, H11.out.1, args_more HI.out.1 HP.out, H9.out.2.trans H11.out.2, by omega, k7, by simp only [List.length_cons, List.length_nil] at k7; omega⟩, by omega⟩
        case measure => omega
end Go.Proofs.YtdifefgigcjgeaaGreatDoor.Sp
end

/- What is proved here: the specification's l4Quote. Conditions: as for the reader. -/
section
namespace Go.Proofs.YtdifefgigcjgeaaGreatDoor
open Go.RowKit

/-- The bytes ahead of the first double quote. -/
def ahead (s : List UInt8) : List UInt8 := s.takeWhile (fun c => decide (c.toNat ≠ 34))

set_option maxRecDepth 100000 in
theorem spec_min (a c : Int) (w : World) : Calls Tryz.prog 158 #[.int .i64 a, .int .i64 c] w fun e w' => e = .returned (.int .i64 (if a < c then a else c)) ∧ w' = w := by
  by_cases h : a < c
  · go_enter Tryz.func158, Tryz.ntmps158
    go_wp2
    go_ret
    exact ⟨rfl, rfl⟩
  · go_enter Tryz.func158, Tryz.ntmps158
    go_wp2
    go_ret
    exact ⟨rfl, rfl⟩
/-- The text up to the quote at j. -/
theorem quote_at (s : ByteArray) (k j : Nat) (hkj : k ≤ j) (hlt : j < s.size) (h34 : s[j].toNat = 34) (hno : ∀ i (hi : i < s.size), k ≤ i → i < j → s[i].toNat ≠ 34) : splitQ (s.data.toList.drop k) = some ((s.extract k j).data.toList, s.data.toList.drop (j + 1)) := by
  have hl : s.data.toList.length = s.size := rfl
  have e1 : s.data.toList.drop k = (s.extract k j).data.toList ++ 34 :: s.data.toList.drop (j + 1) := by
    rw [extract_toList]
    have h1 := (List.take_append_drop (j - k) (s.data.toList.drop k)).symm
    rw [List.drop_drop, show k + (j - k) = j by omega] at h1
    have h0 := List.drop_eq_getElem_cons (l := s.data.toList) (i := j) (by omega)
    rw [h0] at h1
    have h2 : s.data.toList[j]'(by omega) = 34 := UInt8.toNat_inj.1 h34
    rw [h2] at h1
    exact h1
  rw [e1]
  refine splitQ_eq _ _ (fun c hc e => ?_)
  rw [extract_toList] at hc
  obtain ⟨i, hi, rfl⟩ := List.mem_iff_getElem.1 hc
  rw [List.length_take, List.length_drop] at hi
  rw [List.getElem_take, List.getElem_drop] at e
  refine hno (k + i) (by omega) (by omega) (by omega) ?_
  exact congrArg UInt8.toNat e
theorem quote_end (s : ByteArray) (k : Nat) (hno : ∀ i (hi : i < s.size), k ≤ i → i < s.size → s[i].toNat ≠ 34) : splitQ (s.data.toList.drop k) = none := by
  have hl : s.data.toList.length = s.size := rfl
  cases h : splitQ (s.data.toList.drop k) with
  | none => rfl
  | some p =>
    obtain ⟨a, c⟩ := p
    have h1 := (splitQ_some h).1
    have h2 : (34 : UInt8) ∈ s.data.toList.drop k := by rw [h1]; simp
    obtain ⟨i, hi, e⟩ := List.mem_iff_getElem.1 h2
    rw [List.length_drop] at hi
    rw [List.getElem_drop] at e
    exact absurd (congrArg UInt8.toNat e) (hno (k + i) (by omega) (by omega) (by omega))
theorem sees_at (s : ByteArray) (j : Nat) (hlt : j < s.size) (h34 : s[j].toNat = 34) : sees s j [34] = true := by
  have hl : s.data.toList.length = s.size := rfl
  unfold sees
  rw [List.drop_eq_getElem_cons (by omega)]
  have h2 : s.data.toList[j]'(by omega) = 34 := UInt8.toNat_inj.1 h34
  rw [h2]
  rfl
theorem sees_end (s : ByteArray) : sees s s.size [34] = false := by
  have hl : s.data.toList.length = s.size := rfl
  unfold sees
  rw [List.drop_of_length_le (by omega)]
  rfl
theorem min_at (j n : Nat) (h : j ≤ 1048576) (W : World) : Calls Tryz.prog 158 #[.int .i64 (IntKind.i64.wrap ((j : Int) + 1)), .int .i64 (n : Int)] W fun e w' => e = .returned (.int .i64 ((min (j + 1) n : Nat) : Int)) ∧ w' = W := by
  have e : IntKind.i64.wrap ((j : Int) + 1) = (j : Int) + 1 := by rw [IntKind.wrap_i64]; omega
  rw [e]
  refine (spec_min _ _ W).mono ?_
  rintro e w' ⟨rfl, rfl⟩
  refine ⟨?_, rfl⟩
  congr 2
  split <;> omega
/-- What l4Quote ends as. -/
def QuoteEnd (b : Nat) (s : ByteArray) (o : Option (List UInt8 × List UInt8)) (e : Ending) (w' : World) : Prop :=
  (∃ p, o = some p ∧ e = .returned (.string (str p.1)) ∧ SAt w' b s (s.size - p.2.length) false) ∨ (o = none ∧ ∃ t j, e = .returned (.string t) ∧ t.size ≤ 1048576 ∧ j ≤ s.size ∧ SAt w' b s j true)
theorem quote_done {w w2 : World} {b : Nat} {s : ByteArray} {j : Nat} {bad : Bool} (h : SAt w2 b s j bad) (hO : Only (Just b) w w2) (v : Bool) (q : Nat) :
    SAt ((w2.setCell ⟨b, 2, none⟩ (.bool v)).setCell ⟨b, 1, none⟩ (.int .i64 (q : Int))).drew b s q v ∧ Only (Just b) w ((w2.setCell ⟨b, 2, none⟩ (.bool v)).setCell ⟨b, 1, none⟩ (.int .i64 (q : Int))).drew := by
  have h1 := (h.fail v).go q
  have hd := below_drewN (Below.refl ((w2.setCell ⟨b, 2, none⟩ (.bool v)).setCell ⟨b, 1, none⟩ (.int .i64 (q : Int))).heap.size ((w2.setCell ⟨b, 2, none⟩ (.bool v)).setCell ⟨b, 1, none⟩ (.int .i64 (q : Int)))) 1
  exact ⟨h1.below hd, ((hO.trans (Only.setCell (F := Just b) (p := ⟨b, 2, none⟩) rfl _)).trans (Only.setCell (F := Just b) (p := ⟨b, 1, none⟩) rfl _)).trans (just_below hd)⟩
set_option maxHeartbeats 2000000 in
set_option maxRecDepth 100000 in
theorem spec_quote (w : World) (b : Nat) (s : ByteArray) (k : Nat) (h : SAt w b s k false) (hs : s.size ≤ 1048576) (hk : k ≤ s.size) :
    Calls Tryz.prog 116 #[.pointer (some ⟨b, 0, none⟩)] w fun e w' => QuoteEnd b s (quoted (s.data.toList.drop k)) e w' ∧ Only (Just b) w w' := by
  have H := Lib.hid h
  obtain ⟨c0, c1, c2, _, _⟩ := h.cells
  clear h
  go_enter Tryz.func116, Tryz.ntmps116
  go_wp2
  clear c0 c1 c2
  go_loopg [] 1048576 (fun gg wr => ∃ j, j ≤ s.size ∧ k ≤ j ∧ s.size - j ≤ gg ∧ gg ≤ 1048576 ∧ Hid (SAt wr b s j false) ∧ Hid (∀ i (hi : i < s.size), k ≤ i → i < j → s[i].toNat ≠ 34) ∧ Hid (Only (Just b) w wr))
  case atStart => exact ⟨k, hk, Nat.le_refl _, by omega, Nat.le_refl _, H, fun i hi h1 h2 => by omega, Only.refl _ _⟩
  case round =>
    obtain ⟨j, hj, hkj, hjg, hgk, hS, hno, hO⟩ := hrel
    obtain ⟨c0, c1, c2, f1, f2⟩ := hS.out.cells
    by_cases hlt : j < s.size
    · have e1 : decide ((j : Int) < (s.size : Int)) = true := by simp; omega
      by_cases h34 : s[j].toNat = 34
      · have HSee : Hid (∀ W, Below wr.heap.size wr W → Calls Tryz.prog 143 #[.pointer (some ⟨b, 0, none⟩), .string (str [34])] W fun e w' => e = .returned (.bool (sees s j [34])) ∧ Below W.heap.size W w') := fun W hW => spec_sees W b s j false [34] (hS.out.below hW) hs hj (by simp)
        have hsee : sees s j [34] = true := sees_at s j hlt h34
        have HQ : Hid (quoted (s.data.toList.drop k) = if bl (ValidText (s.extract k j)) = true then some ((s.extract k j).data.toList, s.data.toList.drop (j + 1)) else none) := by
          unfold Hid quoted
          rw [quote_at s k j hkj hlt h34 hno.out]
          simp only [Option.bind_some, str_data]
        have HTS : Hid ((s.extract k j).size ≤ 1048576) := by
          have h1 : (s.extract k j).size = (s.extract k j).data.toList.length := rfl
          have hl : s.data.toList.length = s.size := rfl
          rw [extract_toList, List.length_take, List.length_drop] at h1
          unfold Hid
          omega
        rw [hsee] at HSee
        have htx := fun W => spec_text (s.extract k j) (by unfold maxLen; have := HTS.out; omega) W
        generalize hbl : bl (ValidText (s.extract k j)) = vb at *
        generalize hte : s.extract k j = te at *
        go_wp2
        go_quiet (fail)
        go_wp2
        go_quiet (fail)
        go_wp2_with fail
        refine (HSee.out _ (by first | exact below_drewN (below_drewN (Below.refl _ _) _) _ | exact below_drewN (Below.refl _ _) _)).mono ?_
        rintro e w1 ⟨rfl, hb1⟩
        go_wp2_with fail
        refine (htx _).mono ?_
        rintro e w2 ⟨rfl, hb2⟩
        have hB1 : Below wr.heap.size wr w1 := by
          first
            | exact (below_drewN (below_drewN (Below.refl _ _) _) _).trans (hb1.mono (Nat.le_refl _))
            | exact (below_drewN (Below.refl _ _) _).trans (hb1.mono (Nat.le_refl _))
        have hB2 : Below wr.heap.size wr w2 := hB1.trans (hb2.mono hB1.size)
        have hS2 := hS.out.below hB2
        obtain ⟨d0, d1, d2, g1, g2⟩ := hS2.cells
        clear c0 c1 c2 f1 f2
        have hmin := min_at j s.size (by omega)
        have HEnd := Lib.hid (quote_done hS2 (hO.out.trans (just_below hB2)) (!vb) (min (j + 1) s.size))
        clear hb1 hb2 hB1 hS2 hB2 hsee HSee htx hS hO hno hjg hgk
        go_wp2
        go_region_with (go_at_call 158; with_reducible refine (hmin _).mono ?_; rintro e w3 ⟨rfl, rfl⟩)
        all_goals
          go_wp2
          go_ret
          refine ⟨?_, HEnd.out.2⟩
          rw [HQ.out]
          have hend := HEnd.out.1
          cases vb with
          | true =>
            rw [if_pos rfl]
            refine .inl ⟨_, rfl, by rw [str_data]; rfl, ?_⟩
            have hl : s.data.toList.length = s.size := rfl
            have e3 : s.size - (s.data.toList.drop (j + 1)).length = min (j + 1) s.size := by rw [List.length_drop]; omega
            show SAt _ b s (s.size - (s.data.toList.drop (j + 1)).length) false
            rw [e3]
            exact hend
          | false =>
            rw [if_neg (by decide)]
            exact .inr ⟨rfl, te, min (j + 1) s.size, rfl, HTS.out, by omega, hend⟩
      · have HG : Hid (∀ n, SAt ((wr.drewN n).setCell ⟨b, 1, none⟩ (.int .i64 ((j : Int) + 1))) b s (j + 1) false ∧ Only (Just b) w ((wr.drewN n).setCell ⟨b, 1, none⟩ (.int .i64 ((j : Int) + 1)))) := fun n => by
          have hb := below_drewN (Below.refl wr.heap.size wr) n
          have h1 := (hS.out.below hb).go (j + 1)
          rw [Int.natCast_add] at h1
          exact ⟨h1, (hO.out.trans (just_below hb)).trans (Only.setCell (F := Just b) (p := ⟨b, 1, none⟩) rfl _)⟩
        have HNO : Hid (∀ i (hi : i < s.size), k ≤ i → i < j + 1 → s[i].toNat ≠ 34) := fun i hi h1 h2 => by
          by_cases he : i = j
          · subst he; exact h34
          · exact hno.out i hi h1 (by omega)
        clear hS hO hno
        go_wp2
        go_quiet (fail)
        go_wp2
        go_roundg (gk - 1)
        case rel => exact ⟨j + 1, by omega, by omega, by omega, by omega, (HG.out _).1, HNO, (HG.out _).2⟩
        case measure => omega
    · have e1 : decide ((j : Int) < (s.size : Int)) = false := by simp; omega
      obtain rfl : j = s.size := by omega
      have HSee : Hid (∀ W, Below wr.heap.size wr W → Calls Tryz.prog 143 #[.pointer (some ⟨b, 0, none⟩), .string (str [34])] W fun e w' => e = .returned (.bool (sees s s.size [34])) ∧ Below W.heap.size W w') := fun W hW => spec_sees W b s s.size false [34] (hS.out.below hW) hs (Nat.le_refl _) (by simp)
      rw [sees_end] at HSee
      have HQ : Hid (quoted (s.data.toList.drop k) = none) := by
        unfold Hid quoted
        rw [quote_end s k hno.out]
        rfl
      have HTS : Hid ((s.extract k s.size).size ≤ 1048576) := by
        have h1 : (s.extract k s.size).size = (s.extract k s.size).data.toList.length := rfl
        have hl : s.data.toList.length = s.size := rfl
        rw [extract_toList, List.length_take, List.length_drop] at h1
        unfold Hid
        omega
      generalize hte : s.extract k s.size = te at *
      have HLE : Hid (s.size ≤ 1048576) := hs
      go_wp2
      go_quiet (fail)
      go_wp2
      go_quiet (fail)
      go_wp2_with fail
      refine (HSee.out _ (by first | exact below_drewN (below_drewN (Below.refl _ _) _) _ | exact below_drewN (Below.refl _ _) _)).mono ?_
      rintro e w1 ⟨rfl, hb1⟩
      have hB1 : Below wr.heap.size wr w1 := by
        first
          | exact (below_drewN (below_drewN (Below.refl _ _) _) _).trans (hb1.mono (Nat.le_refl _))
          | exact (below_drewN (Below.refl _ _) _).trans (hb1.mono (Nat.le_refl _))
      have hS2 := hS.out.below hB1
      obtain ⟨d0, d1, d2, g1, g2⟩ := hS2.cells
      clear c0 c1 c2 f1 f2
      have hmin := min_at s.size s.size (by omega)
      have HEnd := Lib.hid (quote_done hS2 (hO.out.trans (just_below hB1)) true s.size)
      clear hb1 hB1 hS2 HSee hS hO hno hjg hgk
      go_wp2
      go_region_with (go_at_call 158; with_reducible refine (hmin _).mono ?_; rintro e w3 ⟨rfl, rfl⟩)
      all_goals
        go_wp2
        go_ret
        refine ⟨?_, HEnd.out.2⟩
        rw [HQ.out]
        exact .inr ⟨rfl, te, s.size, rfl, HTS.out, Nat.le_refl _, HEnd.out.1⟩
end Go.Proofs.YtdifefgigcjgeaaGreatDoor
end

/- What is proved here: the model's ParseInt. Condition: the text has at most 2^20 bytes. -/
section
namespace Go.Proofs.YtdifefgigcjgeaaGreatDoor
open Go.RowKit

set_option maxRecDepth 100000 in
theorem spec_ParseInt (s : ByteArray) (hs : s.size ≤ 1048576) (w : World) :
    Calls Tryz.prog 104 #[.string s] w fun e w' => e = readEnd (readOf (-999999999999) 999999999999 s.data.toList) ∧ Below w.heap.size w w' := by
  rw [← specRead_twelve]
  have hs' : s.size ≤ maxLen := by unfold maxLen; omega
  have H := spec_read s 12 (by omega) (by omega) hs' w
  cases hR : specRead 12 s.data.toList with
  | some n =>
    rw [hR] at H
    go_enter Tryz.func104, Tryz.ntmps104
    go_wp2_with fail
    refine H.mono ?_
    rintro e w1 ⟨he, hb⟩
    obtain rfl : e = .returned (.tuple #[.int .i64 n, .bool true]) := he
    go_wp2
    go_ret2
    exact ⟨rfl, hb⟩
  | none =>
    rw [hR] at H
    go_enter Tryz.func104, Tryz.ntmps104
    go_wp2_with fail
    refine H.mono ?_
    rintro e w1 ⟨he, hb⟩
    obtain rfl : e = .returned (.tuple #[.int .i64 0, .bool false]) := he
    go_wp2
    go_ret2
    exact ⟨rfl, hb⟩

end Go.Proofs.YtdifefgigcjgeaaGreatDoor
end
