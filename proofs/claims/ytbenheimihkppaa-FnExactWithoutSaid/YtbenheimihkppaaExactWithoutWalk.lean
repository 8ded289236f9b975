/- What is proved here: the text of FnExactWithout returns true for every two lists. Condition: none. -/
import Derived.Test.YtbenheimihkppaaWithout
import Derived.Test.YtbenheimihkppaaSizes
namespace Go.Proofs.Ytbenheimihkppaa
open Go.RowKit

theorem Block.grown {w w' : World} {g g' : Nat} {xs : List ByteArray} {rest : List Value} (h : Block w g xs rest) (hg : w.grownBy w' (some g')) (hne : g ≠ g') : Block w' g xs rest := by
  unfold Block
  rw [hg.block g h.lt (fun e => hne (by injection e))]
  exact h
theorem Block.drewN {w : World} {g : Nat} {xs : List ByteArray} {rest : List Value} (h : Block w g xs rest) (q : Nat) : Block (w.drewN q) g xs rest := h
theorem below_row {B : Nat} {w0 w w' : World} {g : Nat} (h : Below B w0 w) (hg : w.grownBy w' (some g)) (hB : B ≤ g) (hs : B ≤ w.heap.size) : Below B w0 w' := h.grown hg hs (fun k e => by injection e with e; omega)
theorem block_new {w : World} {g : Nat} {xs : List ByteArray} (h : w.heap[g]? = some (.cells (xs.map Value.string).toArray 9 (0, 0))) : Block w g xs [] := by
  unfold Block
  rw [List.append_nil]
  exact h

set_option maxHeartbeats 2000000 in
set_option maxRecDepth 100000 in
theorem without_small (a b : Option Addr) (cap cap2 : Nat) (xs rm : List ByteArray) (w : World) (hx : Reads w a xs) (hm : xs.length ≤ maxLen) (hs : ∀ x ∈ xs, x.size ≤ maxLen) (hr : Reads w b rm) (hm2 : rm.length ≤ maxLen) (hs2 : ∀ x ∈ rm, x.size ≤ maxLen)
    (hsz : xs.length + total xs + (rm.length + total rm) ≤ 1048576) :
    Calls Try.prog 10 #[.slice a xs.length cap, .slice b rm.length cap2] w fun e w' => e = .returned (.bool true) ∧ Below w.heap.size w w' := by
  have H0 := sz_any w a cap xs hx hm hs
  have he : szEnd xs = ((1048576 - xs.length - total xs : Nat) : Int) := by unfold szEnd; rw [if_pos (by omega)]; omega
  rw [he] at H0
  have H1 := sz_from (1048576 - xs.length - total xs) (by omega) w b cap2 rm hr hm2 hs2
  have he2 : szFrom (1048576 - xs.length - total xs) rm = ((1048576 - xs.length - total xs - rm.length - total rm : Nat) : Int) := by unfold szFrom; rw [if_pos (by omega)]; omega
  rw [he2] at H1
  have hn2 : xs.length ≤ 1048576 := by omega
  have hr2 : rm.length ≤ 1048576 := by omega
  have HX := Lib.hid hx
  have HM := Lib.hid hm
  have HR := Lib.hid hr
  have HM2 := Lib.hid hm2
  have hyn : (kept xs rm).length ≤ 1048576 := Nat.le_trans (kept_len xs rm) hn2
  have hS := fun w a b c d hx hr => spec_without w a b c d xs rm hx hr hn2 hm2
  have hI := fun w a b c d hx hr => impl_without w a b c d xs rm hx hr hn2 hr2 hs hs2
  clear hx hs hr hs2 he he2 hm hm2
  generalize 1048576 - xs.length - total xs - rm.length - total rm = q2 at H1
  generalize 1048576 - xs.length - total xs = q1 at H0 H1
  generalize kept xs rm = ys at hyn hI hS
  have HYM : Hid (ys.length ≤ maxLen) := by unfold Hid maxLen; omega
  clear hsz
  have n1 : ¬ (q1 : Int) < 0 := by omega
  have n2 : ¬ (q2 : Int) < 0 := by omega
  go_enter Try.func10, Try.ntmps10
  go_wp2_with fail
  refine H0.mono ?_
  rintro e w0 ⟨rfl, rfl⟩
  go_wp2_with fail
  refine H1.mono ?_
  rintro e w0 ⟨rfl, rfl⟩
  go_wp2_with fail
  refine (toS_any w a cap xs HX.out hn2).mono ?_
  rintro e w1 ⟨g1, hg1, rfl, hc1, hb1⟩
  have HB1 := Lib.hid hb1
  have HC1 := Lib.hid (block_new hc1)
  have hs1 := hb1.size
  clear hc1 hb1
  go_wp2_with fail
  refine (toS_any w1 b cap2 rm (reads_below HR.out HB1.out) hr2).mono ?_
  rintro e wa ⟨ga, hga, rfl, hca, hba⟩
  have HBa : Hid (Below w.heap.size w wa) := HB1.out.trans (hba.mono HB1.out.size)
  have HCa := Lib.hid (block_new hca)
  have HC1 := Lib.hid (HC1.out.below hba)
  have hsa := hba.size
  clear hca hba
  go_wp2_with fail
  refine (hS wa _ _ _ _ HC1.out.reads HCa.out.reads).mono ?_
  rintro e w2 ⟨g2, c2, r2, hg2, rfl, hc2, hb2⟩
  have HB2 : Hid (Below w.heap.size w w2) := HBa.out.trans (hb2.mono HBa.out.size)
  have hl2 := hc2.lt
  have hs2 := hb2.size
  have HC2 := Lib.hid hc2
  clear hc2 hb2 HC1 HCa
  go_wp2_with fail
  refine (toS_any w2 a cap xs (reads_below HX.out HB2.out) hn2).mono ?_
  rintro e w3 ⟨g3, hg3, rfl, hc3, hb3⟩
  have HB3 : Hid (Below w.heap.size w w3) := HB2.out.trans (hb3.mono HB2.out.size)
  have HC3 := Lib.hid (block_new hc3)
  have HC2 := Lib.hid (HC2.out.below hb3)
  have hl3 := HC3.out.lt
  clear hc3 hb3
  go_wp2_with fail
  refine (toS_any w3 b cap2 rm (reads_below HR.out HB3.out) hr2).mono ?_
  rintro e wb ⟨gb, hgb, rfl, hcb, hbb⟩
  have HBb : Hid (Below w.heap.size w wb) := HB3.out.trans (hbb.mono HB3.out.size)
  have HCb := Lib.hid (block_new hcb)
  have HC2 := Lib.hid (HC2.out.below hbb)
  have HC3 := Lib.hid (HC3.out.below hbb)
  have hlb := HCb.out.lt
  clear hcb hbb
  go_wp2_with fail
  refine (hI wb _ _ _ _ HC3.out.reads HCb.out.reads).mono ?_
  rintro e w4 ⟨g4, c4, r4, hg4, rfl, hc4, hb4⟩
  have HB4 : Hid (Below w.heap.size w w4) := HBb.out.trans (hb4.mono HBb.out.size)
  have HC4 := Lib.hid hc4
  have HC2 := Lib.hid (HC2.out.below hb4)
  have HC3 := Lib.hid (HC3.out.below hb4)
  have HCb := Lib.hid (HCb.out.below hb4)
  clear hc4 hb4
  go_wp2_with fail
  refine (eqS_same w4 _ _ _ _ ys HC4.out.reads HC2.out.reads HYM.out).mono ?_
  rintro e w5 ⟨rfl, q5, rfl⟩
  go_wp2_with fail
  refine (toS_any (w4.drewN q5) a cap xs (reads_below HX.out (below_drewN HB4.out q5)) hn2).mono ?_
  rintro e w6 ⟨g6, hg6, rfl, hc6, hb6⟩
  have HB6 : Hid (Below w.heap.size w w6) := (below_drewN HB4.out q5).trans (hb6.mono HB4.out.size)
  have HC6 := Lib.hid (block_new hc6)
  have HC2 := Lib.hid ((HC2.out.drewN q5).below hb6)
  have HC3 := Lib.hid ((HC3.out.drewN q5).below hb6)
  have HC4 := Lib.hid ((HC4.out.drewN q5).below hb6)
  have HCb := Lib.hid ((HCb.out.drewN q5).below hb6)
  clear hc6 hb6
  go_wp2_with fail
  refine (eqS_same w6 _ _ _ _ xs HC3.out.reads HC6.out.reads HM.out).mono ?_
  rintro e w7 ⟨rfl, q7, rfl⟩
  go_wp2_with fail
  refine (toS_any (w6.drewN q7) b cap2 rm (reads_below HR.out (below_drewN HB6.out q7)) hr2).mono ?_
  rintro e wc ⟨gc, hgc, rfl, hcc, hbc⟩
  have HBc : Hid (Below w.heap.size w wc) := (below_drewN HB6.out q7).trans (hbc.mono HB6.out.size)
  have HCc := Lib.hid (block_new hcc)
  have HC2 := Lib.hid ((HC2.out.drewN q7).below hbc)
  have HC3 := Lib.hid ((HC3.out.drewN q7).below hbc)
  have HC4 := Lib.hid ((HC4.out.drewN q7).below hbc)
  have HCb := Lib.hid ((HCb.out.drewN q7).below hbc)
  clear hcc hbc HC6
  go_wp2_with fail
  refine (eqS_same wc _ _ _ _ rm HCb.out.reads HCc.out.reads HM2.out).mono ?_
  rintro e wd ⟨rfl, qd, rfl⟩
  clear HCc
  go_wp2_with fail
  refine (markB_any (wc.drewN qd) g3 _ 1 xs [] (HC3.out.drewN qd) (by omega) (by omega) (by omega)).mono ?_
  rintro e w8 ⟨rfl, hc8, hg8⟩
  have HB8 : Hid (Below w.heap.size w w8) := below_row (below_drewN HBc.out qd) hg8 (by omega) HBc.out.size
  have HC2 := Lib.hid ((HC2.out.drewN qd).grown hg8 (by omega))
  have HC4 := Lib.hid ((HC4.out.drewN qd).grown hg8 (by omega))
  have HCb := Lib.hid ((HCb.out.drewN qd).grown hg8 (by omega))
  clear hc8 hg8 HC3
  go_wp2_with fail
  refine (markB_any w8 gb _ (1 + xs.length) rm [] HCb.out (by omega) (by omega) (by omega)).mono ?_
  rintro e we ⟨rfl, hce, hge⟩
  have HBe : Hid (Below w.heap.size w we) := below_row HB8.out hge (by omega) HB8.out.size
  have HC2 := Lib.hid (HC2.out.grown hge (by omega))
  have HC4 := Lib.hid (HC4.out.grown hge (by omega))
  clear hce hge HCb
  have hk8 : ¬ ((1 + xs.length + rm.length : Nat) : Int) < 0 := by omega
  go_wp2_with fail
  refine (eqS_same we _ _ _ _ ys HC4.out.reads HC2.out.reads HYM.out).mono ?_
  rintro e w9 ⟨rfl, q9, rfl⟩
  go_wp2_with fail
  refine (markB_any (we.drewN q9) g4 _ 1 ys r4 (HC4.out.drewN q9) (by omega) (by omega) (by omega)).mono ?_
  rintro e w10 ⟨rfl, hc10, hg10⟩
  have HB10 : Hid (Below w.heap.size w w10) := below_row (below_drewN HBe.out q9) hg10 (by omega) HBe.out.size
  have HC2 := Lib.hid ((HC2.out.drewN q9).grown hg10 (by omega))
  have HC4 := Lib.hid hc10
  clear hc10 hg10
  go_wp2_with fail
  have HH := heldS_any w10 (some ⟨g4, 0, none⟩) c4 1 ys.length (by exact HC4.out.reads) (by omega) (by omega) (by omega)
  refine HH.mono ?_
  clear HH
  rintro e w11 ⟨rfl, hb11⟩
  have HB11 : Hid (Below w.heap.size w w11) := HB10.out.trans (hb11.mono HB10.out.size)
  have HC2 := Lib.hid (HC2.out.below hb11)
  have HC4 := Lib.hid (HC4.out.below hb11)
  have hnn : ¬ ((1 + ys.length : Nat) : Int) < 0 := by omega
  clear hb11
  go_wp2_with fail
  refine (toS_any w11 a cap xs (reads_below HX.out HB11.out) hn2).mono ?_
  rintro e w12 ⟨g12, hg12, rfl, hc12, hb12⟩
  have HB12 : Hid (Below w.heap.size w w12) := HB11.out.trans (hb12.mono HB11.out.size)
  have HC12 := Lib.hid (block_new hc12)
  have HC2 := Lib.hid (HC2.out.below hb12)
  have HC4 := Lib.hid (HC4.out.below hb12)
  clear hc12 hb12
  go_wp2_with fail
  refine (toS_any w12 b cap2 rm (reads_below HR.out HB12.out) hr2).mono ?_
  rintro e wf ⟨gf, hgf, rfl, hcf, hbf⟩
  have HBf : Hid (Below w.heap.size w wf) := HB12.out.trans (hbf.mono HB12.out.size)
  have HCf := Lib.hid (block_new hcf)
  have HC2 := Lib.hid (HC2.out.below hbf)
  have HC4 := Lib.hid (HC4.out.below hbf)
  have HC12 := Lib.hid (HC12.out.below hbf)
  clear hcf hbf
  go_wp2_with fail
  refine (hI wf _ _ _ _ HC12.out.reads HCf.out.reads).mono ?_
  rintro e w13 ⟨g13, c13, r13, hg13, rfl, hc13, hb13⟩
  have HB13 : Hid (Below w.heap.size w w13) := HBf.out.trans (hb13.mono HBf.out.size)
  have HC13 := Lib.hid hc13
  have HC2 := Lib.hid (HC2.out.below hb13)
  have HC4 := Lib.hid (HC4.out.below hb13)
  clear hc13 hb13
  go_wp2_with fail
  refine (eqS_same w13 _ _ _ _ ys HC13.out.reads HC2.out.reads HYM.out).mono ?_
  rintro e w14 ⟨rfl, q14, rfl⟩
  go_wp2_with fail
  have HH := heldS_any (w13.drewN q14) (some ⟨g4, 0, none⟩) c4 1 ys.length (by exact (HC4.out.drewN q14).reads) (by omega) (by omega) (by omega)
  refine HH.mono ?_
  clear HH
  rintro e w15 ⟨rfl, hb15⟩
  have hB15 : Below w.heap.size w w15 := (below_drewN HB13.out q14).trans (hb15.mono HB13.out.size)
  go_wp2
  go_ret
  exact ⟨rfl, hB15⟩

set_option maxRecDepth 100000 in
theorem fnExactWithout_walk (a : Option Addr) (cap : Nat) (xs : List ByteArray) (b : Option Addr) (cap2 : Nat) (rm : List ByteArray) (w : World) (hx : Reads w a xs) (hm : xs.length ≤ maxLen) (hs : ∀ x ∈ xs, x.size ≤ maxLen) (hr : Reads w b rm) (hm2 : rm.length ≤ maxLen) (hs2 : ∀ x ∈ rm, x.size ≤ maxLen) :
    Calls Try.prog 10 #[.slice a xs.length cap, .slice b rm.length cap2] w fun e w' => e = .returned (.bool true) ∧ Below w.heap.size w w' := by
  by_cases hsz : xs.length + total xs + (rm.length + total rm) ≤ 1048576
  · exact without_small a b cap cap2 xs rm w hx hm hs hr hm2 hs2 hsz
  · have H0 := sz_any w a cap xs hx hm hs
    by_cases h1 : xs.length + total xs ≤ 1048576
    · have he : szEnd xs = ((1048576 - xs.length - total xs : Nat) : Int) := by unfold szEnd; rw [if_pos h1]; omega
      rw [he] at H0
      have H1 := sz_from (1048576 - xs.length - total xs) (by omega) w b cap2 rm hr hm2 hs2
      have he2 : szFrom (1048576 - xs.length - total xs) rm = -1 := by unfold szFrom; rw [if_neg (by omega)]
      rw [he2] at H1
      clear hx hs hr hs2 he he2 hm hm2
      generalize 1048576 - xs.length - total xs = q1 at H0 H1
      clear hsz h1
      have n1 : ¬ (q1 : Int) < 0 := by omega
      go_enter Try.func10, Try.ntmps10
      go_wp2_with fail
      refine H0.mono ?_
      rintro e w0 ⟨rfl, rfl⟩
      go_wp2_with fail
      refine H1.mono ?_
      rintro e w0 ⟨rfl, rfl⟩
      go_wp2
      go_ret
      exact ⟨rfl, Below.refl _ _⟩
    · have he : szEnd xs = -1 := if_neg h1
      rw [he] at H0
      clear hx hs hr hs2 he hm hm2
      go_enter Try.func10, Try.ntmps10
      go_wp2_with fail
      refine H0.mono ?_
      rintro e w0 ⟨rfl, rfl⟩
      go_wp2
      go_ret
      exact ⟨rfl, Below.refl _ _⟩
end Go.Proofs.Ytbenheimihkppaa
