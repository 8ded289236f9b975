/- What is proved here: the text of FnExactValueAt returns true for every value and list of integers. Condition: none. -/
import Derived.Test.YtcalgjggmgnofaaImplValueAt
import Derived.Test.YtcalgjggmgnofaaTreeSize
import Derived.Test.YtcalgjggmgnofaaTreeEq
import Derived.Test.YtcalgjggmgnofaaTreeMake
import Derived.Test.YtcalgjggmgnofaaTreeMark
import Derived.Test.YtcalgjggmgnofaaTreeHeld
import Derived.Test.YtcalgjggmgnofaaMarkInts
namespace Go.Proofs.Ytcalgjggmgnofaa
open Go.RowKit

/-- What is known of a part. -/
theorem at_known (d : NodeD) (hf : d.args.fits) (hm : d.args.length ≤ maxLen) (hc : d.args.count ≤ 1048576) : ∀ zs, ((d.at zs).getD zeroD).args.fits ∧ ((d.at zs).getD zeroD).args.length ≤ maxLen ∧ ((d.at zs).getD zeroD).args.count ≤ 1048576 := by
  have h : ∀ (zs : List Int) (d : NodeD), d.args.fits → d.args.length ≤ maxLen → d.args.count ≤ 1048576 → ((d.at zs).getD zeroD).args.fits ∧ ((d.at zs).getD zeroD).args.length ≤ maxLen ∧ ((d.at zs).getD zeroD).args.count ≤ 1048576 := by
    intro zs
    induction zs with
    | nil => intro d h1 h2 h3; exact ⟨h1, h2, h3⟩
    | cons z zs ih =>
      intro d h1 h2 h3
      have hz : (zeroD.args.fits ∧ zeroD.args.length ≤ maxLen ∧ zeroD.args.count ≤ 1048576) := ⟨trivial, by simp [zeroD, Trees.length], by simp [zeroD, Trees.count]⟩
      unfold NodeD.at
      by_cases hin : 0 ≤ z ∧ z < (d.args.length : Int)
      · rw [if_pos hin]
        cases he : d.args.pick z.toNat with
        | none => exact hz
        | some e =>
          have h4 := Trees.pick_fits h1 he
          have h5 := Trees.pick_count he
          exact ih e h4.1 h4.2 (by omega)
      · rw [if_neg hin]; exact hz
  exact fun zs => h zs d hf hm hc

set_option maxHeartbeats 8000000 in
set_option maxRecDepth 100000 in
theorem fnExactValueAt_walk (k n : Int) (t : ByteArray) (F : Trees) (a : Option Addr) (cap : Nat) (oa : Option Addr) (ocap : Nat) (zs : List Int) (w : World) (hx : TreesAt w F a 0) (hf : F.fits) (hm : F.length ≤ maxLen) (_hk : -9223372036854775808 ≤ k ∧ k ≤ 9223372036854775807) (_hn : -9223372036854775808 ≤ n ∧ n ≤ 9223372036854775807) (ht : t.size ≤ maxLen) (hz : ReadsI w oa zs) (hzm : zs.length ≤ maxLen) :
    Calls Try.prog 3 #[.agg #[.int .i64 k, .int .i64 n, .string t, .slice a F.length cap], .slice oa zs.length ocap] w fun e w' => e = .returned (.bool true) ∧ Below w.heap.size w w' := by
  have hzm2 := hzm
  unfold maxLen at hzm2
  have hB0 : Below w.heap.size w (w.alloc (.cells #[.int .i64 k, .int .i64 n, .string t, .slice a F.length cap] 24)) := (Below.refl _ _).alloc (Nat.le_refl _) _
  have hv : BoxAt _ w.heap.size k n t a F.length cap 24 := heap_at_new w (.cells #[.int .i64 k, .int .i64 n, .string t, .slice a F.length cap] 24)
  have H0 := szValue_any 1048576 (Nat.le_refl _) (w.alloc (.cells #[.int .i64 k, .int .i64 n, .string t, .slice a F.length cap] 24)) k n t F a cap ht hf hm (hx.below hB0)
  generalize hw0 : w.alloc (.cells #[.int .i64 k, .int .i64 n, .string t, .slice a F.length cap] 24) = w0 at *
  have HW0 := Lib.hid hw0
  have HBW := Lib.hid hB0
  have HX := Lib.hid (hx.below hB0)
  have HZZ := Lib.hid (readsI_below hz hB0)
  have HA0 := Lib.hid hv
  have HS0 : Hid (w.heap.size < w0.heap.size) := (Array.getElem?_eq_some_iff.1 hv).1
  obtain ⟨a0, a1, a2, a3⟩ := hv.cells
  clear hw0 hB0 hx hz hv
  by_cases hbig : 1048576 < zs.length
  · clear hf hm ht hzm _hk _hn H0
    go_enter Try.func3, Try.ntmps3
    go_wp2
    go_ret
    rw [HW0.out]
    exact ⟨rfl, HBW.out⟩
  · by_cases hsz : t.size + F.size ≤ 1048576
    · rw [left_yes hsz] at H0
      have hq : 1048576 - (t.size + F.size) ≤ 1048576 := by omega
      have hfs : F.size ≤ 1048576 := by omega
      have hfc : F.count ≤ 1048576 := by have := F.count_le_size; omega
      have hzl : zs.length ≤ 1048576 := by omega
      generalize 1048576 - (t.size + F.size) = lq at *
      have HT := Lib.hid (fun w' (hb : Below w0.heap.size w0 w') => toValue_any w' k n t F a cap hf hfs (HX.out.below hb))
      have HTI := Lib.hid (fun w' (hb : Below w0.heap.size w0 w') => toI_any w' oa ocap zs (readsI_below HZZ.out hb) hzl)
      have HE := Lib.hid (fun w' p p2 cp cp2 (hx : TreesAt w' F p 0) (hy : TreesAt w' F p2 0) => eqValue_same w' k n t F p p2 cp cp2 hf hm hx hy)
      have HEI := Lib.hid (fun w a b c d (hx : ReadsI w a zs) (hy : ReadsI w b zs) => eqI_same w a b c d zs hx hy hzm)
      have HSP := fun w' p cp (hx : TreesAt w' F p 0) (hl : F.length ≤ cp) q c2 (hz : ReadsI w' q zs) => spec_valueAt w' ⟨k, n, t, F⟩ p cp hx hfc hl q c2 zs hz hzl
      have HIM := fun w' p cp (hx : TreesAt w' F p 0) (hl : F.length ≤ cp) q c2 (hz : ReadsI w' q zs) => impl_valueAt w' ⟨k, n, t, F⟩ p cp hx hfc hl q c2 zs hz hzl
      have hkn := at_known ⟨k, n, t, F⟩ hf hm hfc zs
      unfold AtEnd at HSP HIM
      generalize ((NodeD.at ⟨k, n, t, F⟩ zs).getD zeroD) = x at HSP HIM hkn
      generalize (NodeD.at ⟨k, n, t, F⟩ zs).isSome = ok at HSP HIM
      obtain ⟨xk, xn, xt, G⟩ := x
      simp only at HSP HIM hkn
      obtain ⟨hGf, hGm, hGc⟩ := hkn
      have HHS := Lib.hid HSP
      have HHI := Lib.hid HIM
      have HEG := Lib.hid (fun w' p p2 cp cp2 (hx : TreesAt w' G p 0) (hy : TreesAt w' G p2 0) => eqValue_same w' xk xn xt G p p2 cp cp2 hGf hGm hx hy)
      have HMX := Lib.hid (fun w' v bs (hO : OwnV w' v F bs) (hnd : bs.Nodup) => markValue_any w' k n t F 1 v bs hfc (by omega) (by omega) hO hnd)
      have HMG := Lib.hid (fun w' v bs (hO : OwnV w' v G bs) (hnd : bs.Nodup) => markValue_any w' xk xn xt G 1 v bs hGc (by omega) (by omega) hO hnd)
      have HHG := Lib.hid (fun w' p cp (hx : TreesAt w' (G.marked 1) p 0) => heldValue_any w' xk xn xt G 1 p cp hGc (by omega) (by omega) hx)
      have hmF : 1 + 3 * F.count ≤ 4194304 := by omega
      have HMI := Lib.hid (fun w' g l (hb : w'.heap[g]? = some (.cells l.toArray 3 (0, 0))) (hl : zs.length ≤ l.length) => markI_any w' g zs.length (1 + 3 * F.count) zs.length l hb hl hzl hmF)
      generalize hmf : 1 + 3 * F.count = mF at *
      generalize hmg : 1 + 3 * G.count = mG at *
      have hmg0 : ¬ ((mG : Int) < 0) := by omega
      have hmk0 : ¬ (((mF + zs.length : Nat) : Int) < 0) := by omega
      have hokn : (ok != ok) = false := by cases ok <;> rfl
      generalize hmk : mF + zs.length = mK at *
      have HZL : Hid (zs.length = zs.length) := rfl
      have HCZ := Lib.hid hzl
      clear hq hsz hfs hfc hf hm ht hzm _hk _hn HSP HIM hGf hGm hGc hmf hmg hmk hmF
      go_enter Try.func3, Try.ntmps3
      have HB0 : Hid (Below w0.heap.size w0 w0) := Below.refl _ _
      go_wp2_with fail
      rw [HW0.out]
      refine H0.mono ?_
      rintro e w1 ⟨rfl, hb1⟩
      have HB1 : Hid (Below w0.heap.size w0 w1) := HB0.out.trans (hb1.mono HB0.out.size)
      have HZ1 : Hid (w0.heap.size ≤ w1.heap.size) := hb1.size
      have HA1 : Hid (BoxAt w1 w.heap.size k n t a F.length cap 24) := HA0.out.below hb1
      clear HA0
      clear a0 a1 a2 a3 hb1 H0
      obtain ⟨a0, a1, a2, a3⟩ := HA1.out.cells
      go_wp2_with fail
      refine (HT.out w1 HB1.out).mono ?_
      rintro e w2 ⟨⟨va, ba, rfl, hoa, _, _⟩, hb2⟩
      obtain ⟨pa, ca, rfl, hla, hra⟩ := hoa.reads
      have HRA := Lib.hid hra
      have HLA := Lib.hid hla
      have HB2 : Hid (Below w0.heap.size w0 w2) := HB1.out.trans (hb2.mono HB1.out.size)
      have HZ2 : Hid (w1.heap.size ≤ w2.heap.size) := hb2.size
      have HA2 : Hid (BoxAt w2 w.heap.size k n t a F.length cap 24) := HA1.out.below hb2
      clear HA1
      clear a0 a1 a2 a3
      clear hoa hra hla hb2
      go_wp2_with fail
      refine (HTI.out w2 HB2.out).mono ?_
      rintro e w3 ⟨g3, hg3, rfl, hc3, hb3⟩
      have HR3 := Lib.hid (readsI_new hc3)
      have HRA3 := Lib.hid (HRA.out.below hb3)
      have HB3 : Hid (Below w0.heap.size w0 w3) := HB2.out.trans (hb3.mono HB2.out.size)
      have HZ3 : Hid (w2.heap.size ≤ w3.heap.size) := hb3.size
      have HA3 : Hid (BoxAt w3 w.heap.size k n t a F.length cap 24) := HA2.out.below hb3
      clear HA2
      clear hc3 hb3 HRA hg3
      go_wp2_with fail
      refine (HHS.out w3 pa ca HRA3.out HLA.out _ _ HR3.out).mono ?_
      rintro e w4 ⟨⟨vw, bw, rfl, how, hndw, hfw⟩, hb4⟩
      obtain ⟨pw, cw, rfl, _, _⟩ := how.reads
      have HB4 : Hid (Below w0.heap.size w0 w4) := HB3.out.trans (hb4.mono HB3.out.size)
      have HZ4 : Hid (w3.heap.size ≤ w4.heap.size) := hb4.size
      have HA4 : Hid (BoxAt w4 w.heap.size k n t a F.length cap 24) := HA3.out.below hb4
      clear HA3
      clear hb4 HRA3 HLA HR3
      have HW4 : Hid (OwnV w4 (.slice pw G.length cw) G bw) := how
      have HWR : Hid (∀ b ∈ bw, w3.heap.size ≤ b ∧ b < w4.heap.size) := hfw
      clear how hndw hfw
      have hal : Below w4.heap.size w4 (w4.alloc (.cells #[.int .i64 xk, .int .i64 xn, .string xt, .slice pw G.length cw] 29)) := (Below.refl _ _).alloc (Nat.le_refl _) _
      have hbx := heap_at_new w4 (.cells #[.int .i64 xk, .int .i64 xn, .string xt, .slice pw G.length cw] 29)
      obtain ⟨w5, hw5⟩ : ∃ q, q = w4.alloc (.cells #[.int .i64 xk, .int .i64 xn, .string xt, .slice pw G.length cw] 29) := ⟨_, rfl⟩
      rw [← hw5] at hal hbx
      have HQ5 := Lib.hid hw5
      have HB5 : Hid (Below w0.heap.size w0 w5) := HB4.out.trans (hal.mono HB4.out.size)
      have HZ5 : Hid (w4.heap.size ≤ w5.heap.size) := hal.size
      have HA5 : Hid (BoxAt w5 w.heap.size k n t a F.length cap 24) := HA4.out.below hal
      have HW5 : Hid (OwnV w5 (.slice pw G.length cw) G bw) := HW4.out.keep (fun b hb => hal.block b (HW4.out.blocks b hb).lt)
      clear HA4 HW4
      have HD5 : Hid (BoxAt w5 w4.heap.size xk xn xt pw G.length cw 29) := hbx
      have HSD : Hid (w5.heap.size = w4.heap.size + 1) := by unfold Hid; rw [HQ5.out]; simp
      clear hal hbx hw5
      obtain ⟨a0, a1, a2, a3⟩ := HA5.out.cells
      rw [HQ5.out] at a0 a1 a2 a3
      go_wp2_with fail
      rw [← HQ5.out]
      refine (HT.out w5 HB5.out).mono ?_
      rintro e w6 ⟨⟨vx, bx, rfl, hox, hndx, hfx⟩, hb6⟩
      obtain ⟨px, cx, rfl, hlx, _⟩ := hox.reads
      have HB6 : Hid (Below w0.heap.size w0 w6) := HB5.out.trans (hb6.mono HB5.out.size)
      have HZ6 : Hid (w5.heap.size ≤ w6.heap.size) := hb6.size
      have HA6 : Hid (BoxAt w6 w.heap.size k n t a F.length cap 24) := HA5.out.below hb6
      have HW6 : Hid (OwnV w6 (.slice pw G.length cw) G bw) := HW5.out.keep (fun b hb => hb6.block b (HW5.out.blocks b hb).lt)
      have HD6 : Hid (BoxAt w6 w4.heap.size xk xn xt pw G.length cw 29) := HD5.out.below hb6
      clear HA5 HW5 HD5
      clear a0 a1 a2 a3
      clear hb6 HQ5
      have HX6 : Hid (OwnV w6 (.slice px F.length cx) F bx) := hox
      have HXR : Hid (∀ b ∈ bx, w5.heap.size ≤ b ∧ b < w6.heap.size) := hfx
      have HNDX := Lib.hid hndx
      have HLX := Lib.hid hlx
      clear hox hndx hfx hlx
      have hal : Below w6.heap.size w6 (w6.alloc (.cells #[.int .i64 k, .int .i64 n, .string t, .slice px F.length cx] 29)) := (Below.refl _ _).alloc (Nat.le_refl _) _
      have hbx := heap_at_new w6 (.cells #[.int .i64 k, .int .i64 n, .string t, .slice px F.length cx] 29)
      obtain ⟨w7, hw7⟩ : ∃ q, q = w6.alloc (.cells #[.int .i64 k, .int .i64 n, .string t, .slice px F.length cx] 29) := ⟨_, rfl⟩
      rw [← hw7] at hal hbx
      have HQ7 := Lib.hid hw7
      have HB7 : Hid (Below w0.heap.size w0 w7) := HB6.out.trans (hal.mono HB6.out.size)
      have HZ7 : Hid (w6.heap.size ≤ w7.heap.size) := hal.size
      have HA7 : Hid (BoxAt w7 w.heap.size k n t a F.length cap 24) := HA6.out.below hal
      have HW7 : Hid (OwnV w7 (.slice pw G.length cw) G bw) := HW6.out.keep (fun b hb => hal.block b (HW6.out.blocks b hb).lt)
      have HD7 : Hid (BoxAt w7 w4.heap.size xk xn xt pw G.length cw 29) := HD6.out.below hal
      have HX7 : Hid (OwnV w7 (.slice px F.length cx) F bx) := HX6.out.keep (fun b hb => hal.block b (HX6.out.blocks b hb).lt)
      clear HA6 HW6 HD6 HX6
      have HE7 : Hid (BoxAt w7 w6.heap.size k n t px F.length cx 29) := hbx
      have HSE : Hid (w7.heap.size = w6.heap.size + 1) := by unfold Hid; rw [HQ7.out]; simp
      clear hal hbx hw7
      go_wp2_with fail
      rw [← HQ7.out]
      refine (HTI.out w7 HB7.out).mono ?_
      rintro e w8 ⟨gi, hgi, rfl, hci, hb8⟩
      have hgil : gi < w8.heap.size := (Array.getElem?_eq_some_iff.1 hci).1
      have HB8 : Hid (Below w0.heap.size w0 w8) := HB7.out.trans (hb8.mono HB7.out.size)
      have HZ8 : Hid (w7.heap.size ≤ w8.heap.size) := hb8.size
      have HA8 : Hid (BoxAt w8 w.heap.size k n t a F.length cap 24) := HA7.out.below hb8
      have HW8 : Hid (OwnV w8 (.slice pw G.length cw) G bw) := HW7.out.keep (fun b hb => hb8.block b (HW7.out.blocks b hb).lt)
      have HD8 : Hid (BoxAt w8 w4.heap.size xk xn xt pw G.length cw 29) := HD7.out.below hb8
      have HX8 : Hid (OwnV w8 (.slice px F.length cx) F bx) := HX7.out.keep (fun b hb => hb8.block b (HX7.out.blocks b hb).lt)
      have HE8 : Hid (BoxAt w8 w6.heap.size k n t px F.length cx 29) := HE7.out.below hb8
      clear HA7 HW7 HD7 HX7 HE7
      clear hb8 HQ7
      have HI8 : Hid (w8.heap[gi]? = some (.cells (zs.map (Value.int .i64)).toArray 3 (0, 0))) := hci
      have HIR : Hid (w7.heap.size ≤ gi ∧ gi < w8.heap.size) := ⟨hgi, hgil⟩
      clear hgi hgil hci
      obtain ⟨e0, e1, e2, e3⟩ := HE8.out.cells
      obtain ⟨px', cx', hpx, hlx, hrx⟩ := HX8.out.reads
      cases hpx
      have HRX := Lib.hid hrx
      clear hrx hlx
      go_wp2_with fail
      refine (HHI.out w8 px cx HRX.out HLX.out _ _ (readsI_new HI8.out)).mono ?_
      rintro e w9 ⟨⟨vg, bg, rfl, hog, hndg, hfg⟩, hb9⟩
      obtain ⟨pg, cg, rfl, _, _⟩ := hog.reads
      have HB9 : Hid (Below w0.heap.size w0 w9) := HB8.out.trans (hb9.mono HB8.out.size)
      have HZ9 : Hid (w8.heap.size ≤ w9.heap.size) := hb9.size
      have HA9 : Hid (BoxAt w9 w.heap.size k n t a F.length cap 24) := HA8.out.below hb9
      have HW9 : Hid (OwnV w9 (.slice pw G.length cw) G bw) := HW8.out.keep (fun b hb => hb9.block b (HW8.out.blocks b hb).lt)
      have HD9 : Hid (BoxAt w9 w4.heap.size xk xn xt pw G.length cw 29) := HD8.out.below hb9
      have HX9 : Hid (OwnV w9 (.slice px F.length cx) F bx) := HX8.out.keep (fun b hb => hb9.block b (HX8.out.blocks b hb).lt)
      have HE9 : Hid (BoxAt w9 w6.heap.size k n t px F.length cx 29) := HE8.out.below hb9
      have HI9 : Hid (w9.heap[gi]? = some (.cells (zs.map (Value.int .i64)).toArray 3 (0, 0))) := (hb9.block _ (Array.getElem?_eq_some_iff.1 HI8.out).1).trans HI8.out
      clear HA8 HW8 HD8 HX8 HE8 HI8
      clear e0 e1 e2 e3
      clear hb9 HRX
      have HG9 : Hid (OwnV w9 (.slice pg G.length cg) G bg) := hog
      have HGR : Hid (∀ b ∈ bg, w8.heap.size ≤ b ∧ b < w9.heap.size) := hfg
      have HNDG := Lib.hid hndg
      clear hog hndg hfg
      have hal : Below w9.heap.size w9 (w9.alloc (.cells #[.int .i64 xk, .int .i64 xn, .string xt, .slice pg G.length cg] 29)) := (Below.refl _ _).alloc (Nat.le_refl _) _
      have hbx := heap_at_new w9 (.cells #[.int .i64 xk, .int .i64 xn, .string xt, .slice pg G.length cg] 29)
      obtain ⟨w10, hw10⟩ : ∃ q, q = w9.alloc (.cells #[.int .i64 xk, .int .i64 xn, .string xt, .slice pg G.length cg] 29) := ⟨_, rfl⟩
      rw [← hw10] at hal hbx
      have HQ10 := Lib.hid hw10
      have HB10 : Hid (Below w0.heap.size w0 w10) := HB9.out.trans (hal.mono HB9.out.size)
      have HZ10 : Hid (w9.heap.size ≤ w10.heap.size) := hal.size
      have HA10 : Hid (BoxAt w10 w.heap.size k n t a F.length cap 24) := HA9.out.below hal
      have HW10 : Hid (OwnV w10 (.slice pw G.length cw) G bw) := HW9.out.keep (fun b hb => hal.block b (HW9.out.blocks b hb).lt)
      have HD10 : Hid (BoxAt w10 w4.heap.size xk xn xt pw G.length cw 29) := HD9.out.below hal
      have HX10 : Hid (OwnV w10 (.slice px F.length cx) F bx) := HX9.out.keep (fun b hb => hal.block b (HX9.out.blocks b hb).lt)
      have HE10 : Hid (BoxAt w10 w6.heap.size k n t px F.length cx 29) := HE9.out.below hal
      have HI10 : Hid (w10.heap[gi]? = some (.cells (zs.map (Value.int .i64)).toArray 3 (0, 0))) := (hal.block _ (Array.getElem?_eq_some_iff.1 HI9.out).1).trans HI9.out
      have HG10 : Hid (OwnV w10 (.slice pg G.length cg) G bg) := HG9.out.keep (fun b hb => hal.block b (HG9.out.blocks b hb).lt)
      clear HA9 HW9 HD9 HX9 HE9 HI9 HG9
      have HJ10 : Hid (BoxAt w10 w9.heap.size xk xn xt pg G.length cg 29) := hbx
      have HSJ : Hid (w10.heap.size = w9.heap.size + 1) := by unfold Hid; rw [HQ10.out]; simp
      clear hal hbx hw10
      obtain ⟨j0, j1, j2, j3⟩ := HJ10.out.cells
      obtain ⟨d0, d1, d2, d3⟩ := HD10.out.cells
      rw [HQ10.out] at j0 j1 j2 j3 d0 d1 d2 d3
      obtain ⟨pg', cg', hpg, _, hrg⟩ := HG10.out.reads
      cases hpg
      obtain ⟨pw', cw', hpw, _, hrw⟩ := HW10.out.reads
      cases hpw
      have HRG := Lib.hid hrg
      have HRW := Lib.hid hrw
      clear hrg hrw
      go_wp2_with fail
      rw [← HQ10.out]
      refine (HEG.out w10 pg pw cg cw HRG.out HRW.out).mono ?_
      rintro e w11 ⟨rfl, hb11⟩
      have HB11 : Hid (Below w0.heap.size w0 w11) := HB10.out.trans (hb11.mono HB10.out.size)
      have HZ11 : Hid (w10.heap.size ≤ w11.heap.size) := hb11.size
      have HA11 : Hid (BoxAt w11 w.heap.size k n t a F.length cap 24) := HA10.out.below hb11
      have HW11 : Hid (OwnV w11 (.slice pw G.length cw) G bw) := HW10.out.keep (fun b hb => hb11.block b (HW10.out.blocks b hb).lt)
      have HD11 : Hid (BoxAt w11 w4.heap.size xk xn xt pw G.length cw 29) := HD10.out.below hb11
      have HX11 : Hid (OwnV w11 (.slice px F.length cx) F bx) := HX10.out.keep (fun b hb => hb11.block b (HX10.out.blocks b hb).lt)
      have HE11 : Hid (BoxAt w11 w6.heap.size k n t px F.length cx 29) := HE10.out.below hb11
      have HI11 : Hid (w11.heap[gi]? = some (.cells (zs.map (Value.int .i64)).toArray 3 (0, 0))) := (hb11.block _ (Array.getElem?_eq_some_iff.1 HI10.out).1).trans HI10.out
      have HG11 : Hid (OwnV w11 (.slice pg G.length cg) G bg) := HG10.out.keep (fun b hb => hb11.block b (HG10.out.blocks b hb).lt)
      have HJ11 : Hid (BoxAt w11 w9.heap.size xk xn xt pg G.length cg 29) := HJ10.out.below hb11
      clear HA10 HW10 HD10 HX10 HE10 HI10 HG10 HJ10
      clear j0 j1 j2 j3 d0 d1 d2 d3
      clear hb11 HRG HRW
      obtain ⟨e0, e1, e2, e3⟩ := HE11.out.cells
      obtain ⟨a0, a1, a2, a3⟩ := HA11.out.cells
      obtain ⟨px', cx', hpx, _, hrx⟩ := HX11.out.reads
      cases hpx
      have HRX := Lib.hid hrx
      clear hrx
      go_wp2
      go_region_held3 (fun w' => (w'.cell? ⟨w.heap.size, 0, none⟩ = some (.int .i64 k) ∧ w'.cell? ⟨w.heap.size, 1, none⟩ = some (.int .i64 n) ∧ w'.cell? ⟨w.heap.size, 2, none⟩ = some (.string t) ∧ w'.cell? ⟨w.heap.size, 3, none⟩ = some (.slice a F.length cap)) ∧ w'.cell? ⟨w6.heap.size, 0, none⟩ = some (.int .i64 k) ∧ w'.cell? ⟨w6.heap.size, 1, none⟩ = some (.int .i64 n) ∧ w'.cell? ⟨w6.heap.size, 2, none⟩ = some (.string t) ∧ w'.cell? ⟨w6.heap.size, 3, none⟩ = some (.slice px F.length cx))
        (first
          | go_keep
          | (refine ⟨⟨cell_below (w := w12) (cell_below (w := w11.drew) a0 hb12) hb13, cell_below (w := w12) (cell_below (w := w11.drew) a1 hb12) hb13, cell_below (w := w12) (cell_below (w := w11.drew) a2 hb12) hb13, cell_below (w := w12) (cell_below (w := w11.drew) a3 hb12) hb13⟩, cell_below (w := w12) (cell_below (w := w11.drew) e0 hb12) hb13, cell_below (w := w12) (cell_below (w := w11.drew) e1 hb12) hb13, cell_below (w := w12) (cell_below (w := w11.drew) e2 hb12) hb13, cell_below (w := w12) (cell_below (w := w11.drew) e3 hb12) hb13⟩)
          | (refine ⟨⟨cell_below (w := w11.drew) a0 hb12, cell_below (w := w11.drew) a1 hb12, cell_below (w := w11.drew) a2 hb12, cell_below (w := w11.drew) a3 hb12⟩, cell_below (w := w11.drew) e0 hb12, cell_below (w := w11.drew) e1 hb12, cell_below (w := w11.drew) e2 hb12, cell_below (w := w11.drew) e3 hb12⟩))
        (first
          | (go_at_call 9; refine (HT.out w11.drew HB11.out.drew).mono ?_; rintro e w12 ⟨⟨vc, bc, rfl, hoc, _, _⟩, hb12⟩; obtain ⟨pc, cc, rfl, _, hrc⟩ := hoc.reads; have HRC := Lib.hid hrc; clear hoc hrc)
          | (go_at_call 12; refine (HE.out w12 px pc cx cc (HRX.out.below (below_of_drew hb12)) HRC.out).mono ?_; rintro e w13 ⟨rfl, hb13⟩))
      have hb12' := below_of_drew hb12
      have HB12 : Hid (Below w0.heap.size w0 w12) := HB11.out.trans (hb12'.mono HB11.out.size)
      have HZ12 : Hid (w11.heap.size ≤ w12.heap.size) := hb12'.size
      have HA12 : Hid (BoxAt w12 w.heap.size k n t a F.length cap 24) := HA11.out.below hb12'
      have HW12 : Hid (OwnV w12 (.slice pw G.length cw) G bw) := HW11.out.keep (fun b hb => hb12'.block b (HW11.out.blocks b hb).lt)
      have HD12 : Hid (BoxAt w12 w4.heap.size xk xn xt pw G.length cw 29) := HD11.out.below hb12'
      have HX12 : Hid (OwnV w12 (.slice px F.length cx) F bx) := HX11.out.keep (fun b hb => hb12'.block b (HX11.out.blocks b hb).lt)
      have HE12 : Hid (BoxAt w12 w6.heap.size k n t px F.length cx 29) := HE11.out.below hb12'
      have HI12 : Hid (w12.heap[gi]? = some (.cells (zs.map (Value.int .i64)).toArray 3 (0, 0))) := (hb12'.block _ (Array.getElem?_eq_some_iff.1 HI11.out).1).trans HI11.out
      have HG12 : Hid (OwnV w12 (.slice pg G.length cg) G bg) := HG11.out.keep (fun b hb => hb12'.block b (HG11.out.blocks b hb).lt)
      have HJ12 : Hid (BoxAt w12 w9.heap.size xk xn xt pg G.length cg 29) := HJ11.out.below hb12'
      clear HA11 HW11 HD11 HX11 HE11 HI11 HG11 HJ11
      have HB13 : Hid (Below w0.heap.size w0 w13) := HB12.out.trans (hb13.mono HB12.out.size)
      have HZ13 : Hid (w12.heap.size ≤ w13.heap.size) := hb13.size
      have HA13 : Hid (BoxAt w13 w.heap.size k n t a F.length cap 24) := HA12.out.below hb13
      have HW13 : Hid (OwnV w13 (.slice pw G.length cw) G bw) := HW12.out.keep (fun b hb => hb13.block b (HW12.out.blocks b hb).lt)
      have HD13 : Hid (BoxAt w13 w4.heap.size xk xn xt pw G.length cw 29) := HD12.out.below hb13
      have HX13 : Hid (OwnV w13 (.slice px F.length cx) F bx) := HX12.out.keep (fun b hb => hb13.block b (HX12.out.blocks b hb).lt)
      have HE13 : Hid (BoxAt w13 w6.heap.size k n t px F.length cx 29) := HE12.out.below hb13
      have HI13 : Hid (w13.heap[gi]? = some (.cells (zs.map (Value.int .i64)).toArray 3 (0, 0))) := (hb13.block _ (Array.getElem?_eq_some_iff.1 HI12.out).1).trans HI12.out
      have HG13 : Hid (OwnV w13 (.slice pg G.length cg) G bg) := HG12.out.keep (fun b hb => hb13.block b (HG12.out.blocks b hb).lt)
      have HJ13 : Hid (BoxAt w13 w9.heap.size xk xn xt pg G.length cg 29) := HJ12.out.below hb13
      clear HA12 HW12 HD12 HX12 HE12 HI12 HG12 HJ12
      clear e0 e1 e2 e3 a0 a1 a2 a3
      clear hb12 hb12' hb13 HRX HRC
      go_wp2_with fail
      refine (HTI.out w13 HB13.out).mono ?_
      rintro e w14 ⟨g14, hg14, rfl, hc14, hb14⟩
      have HR14 := Lib.hid (readsI_new hc14)
      have HB14 : Hid (Below w0.heap.size w0 w14) := HB13.out.trans (hb14.mono HB13.out.size)
      have HZ14 : Hid (w13.heap.size ≤ w14.heap.size) := hb14.size
      have HA14 : Hid (BoxAt w14 w.heap.size k n t a F.length cap 24) := HA13.out.below hb14
      have HW14 : Hid (OwnV w14 (.slice pw G.length cw) G bw) := HW13.out.keep (fun b hb => hb14.block b (HW13.out.blocks b hb).lt)
      have HD14 : Hid (BoxAt w14 w4.heap.size xk xn xt pw G.length cw 29) := HD13.out.below hb14
      have HX14 : Hid (OwnV w14 (.slice px F.length cx) F bx) := HX13.out.keep (fun b hb => hb14.block b (HX13.out.blocks b hb).lt)
      have HE14 : Hid (BoxAt w14 w6.heap.size k n t px F.length cx 29) := HE13.out.below hb14
      have HI14 : Hid (w14.heap[gi]? = some (.cells (zs.map (Value.int .i64)).toArray 3 (0, 0))) := (hb14.block _ (Array.getElem?_eq_some_iff.1 HI13.out).1).trans HI13.out
      have HG14 : Hid (OwnV w14 (.slice pg G.length cg) G bg) := HG13.out.keep (fun b hb => hb14.block b (HG13.out.blocks b hb).lt)
      have HJ14 : Hid (BoxAt w14 w9.heap.size xk xn xt pg G.length cg 29) := HJ13.out.below hb14
      clear HA13 HW13 HD13 HX13 HE13 HI13 HG13 HJ13
      clear hc14 hb14 hg14
      go_wp2_with fail
      refine (HEI.out w14 _ _ _ _ (readsI_new HI14.out) HR14.out).mono ?_
      rintro e w15 ⟨rfl, n15, hw15⟩
      have hb15 : Below w14.heap.size w14 w15 := by rw [hw15]; exact below_drewN (Below.refl _ _) n15
      have HB15 : Hid (Below w0.heap.size w0 w15) := HB14.out.trans (hb15.mono HB14.out.size)
      have HZ15 : Hid (w14.heap.size ≤ w15.heap.size) := hb15.size
      have HA15 : Hid (BoxAt w15 w.heap.size k n t a F.length cap 24) := HA14.out.below hb15
      have HW15 : Hid (OwnV w15 (.slice pw G.length cw) G bw) := HW14.out.keep (fun b hb => hb15.block b (HW14.out.blocks b hb).lt)
      have HD15 : Hid (BoxAt w15 w4.heap.size xk xn xt pw G.length cw 29) := HD14.out.below hb15
      have HX15 : Hid (OwnV w15 (.slice px F.length cx) F bx) := HX14.out.keep (fun b hb => hb15.block b (HX14.out.blocks b hb).lt)
      have HE15 : Hid (BoxAt w15 w6.heap.size k n t px F.length cx 29) := HE14.out.below hb15
      have HI15 : Hid (w15.heap[gi]? = some (.cells (zs.map (Value.int .i64)).toArray 3 (0, 0))) := (hb15.block _ (Array.getElem?_eq_some_iff.1 HI14.out).1).trans HI14.out
      have HG15 : Hid (OwnV w15 (.slice pg G.length cg) G bg) := HG14.out.keep (fun b hb => hb15.block b (HG14.out.blocks b hb).lt)
      have HJ15 : Hid (BoxAt w15 w9.heap.size xk xn xt pg G.length cg 29) := HJ14.out.below hb15
      clear HA14 HW14 HD14 HX14 HE14 HI14 HG14 HJ14
      clear hb15 hw15 HR14
      obtain ⟨e0, e1, e2, e3⟩ := HE15.out.cells
      go_wp2_with fail
      refine (HMX.out w15 _ bx HX15.out HNDX.out).mono ?_
      rintro e w16 ⟨rfl, _, ho16⟩
      have HBSX : Hid (w0.heap.size ≤ w5.heap.size) := HB5.out.size
      have HB16 : Hid (Below w0.heap.size w0 w16) := HB15.out.trans (ho16.below (fun b hb => by have := HXR.out b hb; have := HBSX.out; omega) HB15.out.size)
      have HZ16 : Hid (w15.heap.size ≤ w16.heap.size) := ho16.size
      have HA16 : Hid (BoxAt w16 w.heap.size k n t a F.length cap 24) := (ho16.block _ (Array.getElem?_eq_some_iff.1 HA15.out).1 (fun e => by have := HS0.out; have := HSD.out; have := HSE.out; have := HSJ.out; have := HZ1.out; have := HZ2.out; have := HZ3.out; have := HZ4.out; have := HZ5.out; have := HZ6.out; have := HZ7.out; have := HZ8.out; have := HZ9.out; have := HZ10.out; have := HZ11.out; have := HZ12.out; have := HZ13.out; have := HZ14.out; have := HZ15.out; have := HXR.out _ e; omega)).trans HA15.out
      have HW16 : Hid (OwnV w16 (.slice pw G.length cw) G bw) := HW15.out.keep (fun b hb => ho16.block b (HW15.out.blocks b hb).lt (fun e => by have := HS0.out; have := HSD.out; have := HSE.out; have := HSJ.out; have := HZ1.out; have := HZ2.out; have := HZ3.out; have := HZ4.out; have := HZ5.out; have := HZ6.out; have := HZ7.out; have := HZ8.out; have := HZ9.out; have := HZ10.out; have := HZ11.out; have := HZ12.out; have := HZ13.out; have := HZ14.out; have := HZ15.out; have := HWR.out b hb; have := HXR.out b e; omega))
      have HD16 : Hid (BoxAt w16 w4.heap.size xk xn xt pw G.length cw 29) := (ho16.block _ (Array.getElem?_eq_some_iff.1 HD15.out).1 (fun e => by have := HS0.out; have := HSD.out; have := HSE.out; have := HSJ.out; have := HZ1.out; have := HZ2.out; have := HZ3.out; have := HZ4.out; have := HZ5.out; have := HZ6.out; have := HZ7.out; have := HZ8.out; have := HZ9.out; have := HZ10.out; have := HZ11.out; have := HZ12.out; have := HZ13.out; have := HZ14.out; have := HZ15.out; have := HXR.out _ e; omega)).trans HD15.out
      have HE16 : Hid (BoxAt w16 w6.heap.size k n t px F.length cx 29) := (ho16.block _ (Array.getElem?_eq_some_iff.1 HE15.out).1 (fun e => by have := HS0.out; have := HSD.out; have := HSE.out; have := HSJ.out; have := HZ1.out; have := HZ2.out; have := HZ3.out; have := HZ4.out; have := HZ5.out; have := HZ6.out; have := HZ7.out; have := HZ8.out; have := HZ9.out; have := HZ10.out; have := HZ11.out; have := HZ12.out; have := HZ13.out; have := HZ14.out; have := HZ15.out; have := HXR.out _ e; omega)).trans HE15.out
      have HI16 : Hid (w16.heap[gi]? = some (.cells (zs.map (Value.int .i64)).toArray 3 (0, 0))) := (ho16.block _ (Array.getElem?_eq_some_iff.1 HI15.out).1 (fun e => by have := HS0.out; have := HSD.out; have := HSE.out; have := HSJ.out; have := HZ1.out; have := HZ2.out; have := HZ3.out; have := HZ4.out; have := HZ5.out; have := HZ6.out; have := HZ7.out; have := HZ8.out; have := HZ9.out; have := HZ10.out; have := HZ11.out; have := HZ12.out; have := HZ13.out; have := HZ14.out; have := HZ15.out; have := HIR.out; have := HXR.out _ e; omega)).trans HI15.out
      have HG16 : Hid (OwnV w16 (.slice pg G.length cg) G bg) := HG15.out.keep (fun b hb => ho16.block b (HG15.out.blocks b hb).lt (fun e => by have := HS0.out; have := HSD.out; have := HSE.out; have := HSJ.out; have := HZ1.out; have := HZ2.out; have := HZ3.out; have := HZ4.out; have := HZ5.out; have := HZ6.out; have := HZ7.out; have := HZ8.out; have := HZ9.out; have := HZ10.out; have := HZ11.out; have := HZ12.out; have := HZ13.out; have := HZ14.out; have := HZ15.out; have := HGR.out b hb; have := HXR.out b e; omega))
      have HJ16 : Hid (BoxAt w16 w9.heap.size xk xn xt pg G.length cg 29) := (ho16.block _ (Array.getElem?_eq_some_iff.1 HJ15.out).1 (fun e => by have := HS0.out; have := HSD.out; have := HSE.out; have := HSJ.out; have := HZ1.out; have := HZ2.out; have := HZ3.out; have := HZ4.out; have := HZ5.out; have := HZ6.out; have := HZ7.out; have := HZ8.out; have := HZ9.out; have := HZ10.out; have := HZ11.out; have := HZ12.out; have := HZ13.out; have := HZ14.out; have := HZ15.out; have := HXR.out _ e; omega)).trans HJ15.out
      clear HA15 HW15 HD15 HX15 HE15 HI15 HG15 HJ15
      clear e0 e1 e2 e3
      clear ho16
      go_wp2_with fail
      refine (HMI.out w16 gi _ HI16.out (by simp)).mono ?_
      rintro e w17 ⟨rfl, ho17⟩
      have HBSI : Hid (w0.heap.size ≤ w7.heap.size) := HB7.out.size
      have HB17 : Hid (Below w0.heap.size w0 w17) := HB16.out.trans (ho17.below (fun b hb => by have := HIR.out; have := HBSI.out; omega) HB16.out.size)
      have HZ17 : Hid (w16.heap.size ≤ w17.heap.size) := ho17.size
      have HA17 : Hid (BoxAt w17 w.heap.size k n t a F.length cap 24) := (ho17.block _ (Array.getElem?_eq_some_iff.1 HA16.out).1 (fun e => by have := HS0.out; have := HSD.out; have := HSE.out; have := HSJ.out; have := HZ1.out; have := HZ2.out; have := HZ3.out; have := HZ4.out; have := HZ5.out; have := HZ6.out; have := HZ7.out; have := HZ8.out; have := HZ9.out; have := HZ10.out; have := HZ11.out; have := HZ12.out; have := HZ13.out; have := HZ14.out; have := HZ15.out; have := HZ16.out; have := HIR.out; have e2 : w.heap.size = gi := e; have := HIR.out; omega)).trans HA16.out
      have HW17 : Hid (OwnV w17 (.slice pw G.length cw) G bw) := HW16.out.keep (fun b hb => ho17.block b (HW16.out.blocks b hb).lt (fun e => by have := HS0.out; have := HSD.out; have := HSE.out; have := HSJ.out; have := HZ1.out; have := HZ2.out; have := HZ3.out; have := HZ4.out; have := HZ5.out; have := HZ6.out; have := HZ7.out; have := HZ8.out; have := HZ9.out; have := HZ10.out; have := HZ11.out; have := HZ12.out; have := HZ13.out; have := HZ14.out; have := HZ15.out; have := HZ16.out; have := HWR.out b hb; have := HIR.out; have e2 : b = gi := e; omega))
      have HD17 : Hid (BoxAt w17 w4.heap.size xk xn xt pw G.length cw 29) := (ho17.block _ (Array.getElem?_eq_some_iff.1 HD16.out).1 (fun e => by have := HS0.out; have := HSD.out; have := HSE.out; have := HSJ.out; have := HZ1.out; have := HZ2.out; have := HZ3.out; have := HZ4.out; have := HZ5.out; have := HZ6.out; have := HZ7.out; have := HZ8.out; have := HZ9.out; have := HZ10.out; have := HZ11.out; have := HZ12.out; have := HZ13.out; have := HZ14.out; have := HZ15.out; have := HZ16.out; have := HIR.out; have e2 : w4.heap.size = gi := e; have := HIR.out; omega)).trans HD16.out
      have HG17 : Hid (OwnV w17 (.slice pg G.length cg) G bg) := HG16.out.keep (fun b hb => ho17.block b (HG16.out.blocks b hb).lt (fun e => by have := HS0.out; have := HSD.out; have := HSE.out; have := HSJ.out; have := HZ1.out; have := HZ2.out; have := HZ3.out; have := HZ4.out; have := HZ5.out; have := HZ6.out; have := HZ7.out; have := HZ8.out; have := HZ9.out; have := HZ10.out; have := HZ11.out; have := HZ12.out; have := HZ13.out; have := HZ14.out; have := HZ15.out; have := HZ16.out; have := HGR.out b hb; have := HIR.out; have e2 : b = gi := e; omega))
      have HJ17 : Hid (BoxAt w17 w9.heap.size xk xn xt pg G.length cg 29) := (ho17.block _ (Array.getElem?_eq_some_iff.1 HJ16.out).1 (fun e => by have := HS0.out; have := HSD.out; have := HSE.out; have := HSJ.out; have := HZ1.out; have := HZ2.out; have := HZ3.out; have := HZ4.out; have := HZ5.out; have := HZ6.out; have := HZ7.out; have := HZ8.out; have := HZ9.out; have := HZ10.out; have := HZ11.out; have := HZ12.out; have := HZ13.out; have := HZ14.out; have := HZ15.out; have := HZ16.out; have := HIR.out; have e2 : w9.heap.size = gi := e; have := HIR.out; omega)).trans HJ16.out
      clear HA16 HW16 HD16 HI16 HG16 HJ16
      clear ho17
      obtain ⟨j0, j1, j2, j3⟩ := HJ17.out.cells
      obtain ⟨d0, d1, d2, d3⟩ := HD17.out.cells
      obtain ⟨pg', cg', hpg, _, hrg⟩ := HG17.out.reads
      cases hpg
      obtain ⟨pw', cw', hpw, _, hrw⟩ := HW17.out.reads
      cases hpw
      have HRG := Lib.hid hrg
      have HRW := Lib.hid hrw
      clear hrg hrw
      go_wp2_with fail
      refine (HEG.out w17 pg pw cg cw HRG.out HRW.out).mono ?_
      rintro e w18 ⟨rfl, hb18⟩
      have HB18 : Hid (Below w0.heap.size w0 w18) := HB17.out.trans (hb18.mono HB17.out.size)
      have HZ18 : Hid (w17.heap.size ≤ w18.heap.size) := hb18.size
      have HA18 : Hid (BoxAt w18 w.heap.size k n t a F.length cap 24) := HA17.out.below hb18
      have HW18 : Hid (OwnV w18 (.slice pw G.length cw) G bw) := HW17.out.keep (fun b hb => hb18.block b (HW17.out.blocks b hb).lt)
      have HD18 : Hid (BoxAt w18 w4.heap.size xk xn xt pw G.length cw 29) := HD17.out.below hb18
      have HG18 : Hid (OwnV w18 (.slice pg G.length cg) G bg) := HG17.out.keep (fun b hb => hb18.block b (HG17.out.blocks b hb).lt)
      have HJ18 : Hid (BoxAt w18 w9.heap.size xk xn xt pg G.length cg 29) := HJ17.out.below hb18
      clear HA17 HW17 HD17 HG17 HJ17
      clear j0 j1 j2 j3 d0 d1 d2 d3
      clear hb18 HRG HRW
      obtain ⟨j0, j1, j2, j3⟩ := HJ18.out.cells
      go_wp2_with fail
      refine (HMG.out w18 _ bg HG18.out HNDG.out).mono ?_
      rintro e w19 ⟨rfl, hog19, ho19⟩
      have HBSG : Hid (w0.heap.size ≤ w8.heap.size) := HB8.out.size
      have HB19 : Hid (Below w0.heap.size w0 w19) := HB18.out.trans (ho19.below (fun b hb => by have := HGR.out b hb; have := HBSG.out; omega) HB18.out.size)
      have HZ19 : Hid (w18.heap.size ≤ w19.heap.size) := ho19.size
      have HA19 : Hid (BoxAt w19 w.heap.size k n t a F.length cap 24) := (ho19.block _ (Array.getElem?_eq_some_iff.1 HA18.out).1 (fun e => by have := HS0.out; have := HSD.out; have := HSE.out; have := HSJ.out; have := HZ1.out; have := HZ2.out; have := HZ3.out; have := HZ4.out; have := HZ5.out; have := HZ6.out; have := HZ7.out; have := HZ8.out; have := HZ9.out; have := HZ10.out; have := HZ11.out; have := HZ12.out; have := HZ13.out; have := HZ14.out; have := HZ15.out; have := HZ16.out; have := HZ17.out; have := HZ18.out; have := HGR.out _ e; omega)).trans HA18.out
      have HW19 : Hid (OwnV w19 (.slice pw G.length cw) G bw) := HW18.out.keep (fun b hb => ho19.block b (HW18.out.blocks b hb).lt (fun e => by have := HS0.out; have := HSD.out; have := HSE.out; have := HSJ.out; have := HZ1.out; have := HZ2.out; have := HZ3.out; have := HZ4.out; have := HZ5.out; have := HZ6.out; have := HZ7.out; have := HZ8.out; have := HZ9.out; have := HZ10.out; have := HZ11.out; have := HZ12.out; have := HZ13.out; have := HZ14.out; have := HZ15.out; have := HZ16.out; have := HZ17.out; have := HZ18.out; have := HWR.out b hb; have := HGR.out b e; omega))
      have HD19 : Hid (BoxAt w19 w4.heap.size xk xn xt pw G.length cw 29) := (ho19.block _ (Array.getElem?_eq_some_iff.1 HD18.out).1 (fun e => by have := HS0.out; have := HSD.out; have := HSE.out; have := HSJ.out; have := HZ1.out; have := HZ2.out; have := HZ3.out; have := HZ4.out; have := HZ5.out; have := HZ6.out; have := HZ7.out; have := HZ8.out; have := HZ9.out; have := HZ10.out; have := HZ11.out; have := HZ12.out; have := HZ13.out; have := HZ14.out; have := HZ15.out; have := HZ16.out; have := HZ17.out; have := HZ18.out; have := HGR.out _ e; omega)).trans HD18.out
      have HJ19 : Hid (BoxAt w19 w9.heap.size xk xn xt pg G.length cg 29) := (ho19.block _ (Array.getElem?_eq_some_iff.1 HJ18.out).1 (fun e => by have := HS0.out; have := HSD.out; have := HSE.out; have := HSJ.out; have := HZ1.out; have := HZ2.out; have := HZ3.out; have := HZ4.out; have := HZ5.out; have := HZ6.out; have := HZ7.out; have := HZ8.out; have := HZ9.out; have := HZ10.out; have := HZ11.out; have := HZ12.out; have := HZ13.out; have := HZ14.out; have := HZ15.out; have := HZ16.out; have := HZ17.out; have := HZ18.out; have := HGR.out _ e; omega)).trans HJ18.out
      clear HA18 HW18 HD18 HG18 HJ18
      clear j0 j1 j2 j3
      have HG19 : Hid (OwnV w19 (.slice pg G.length cg) (G.marked 1) bg) := hog19
      clear ho19 hog19
      obtain ⟨j0, j1, j2, j3⟩ := HJ19.out.cells
      obtain ⟨pg', cg', hpg, _, hrg⟩ := HG19.out.reads
      rw [Trees.marked_length] at hpg
      cases hpg
      have HRG := Lib.hid hrg
      clear hrg
      go_wp2_with fail
      refine (HHG.out w19 pg cg HRG.out).mono ?_
      rintro e w20 ⟨rfl, hb20⟩
      have HB20 : Hid (Below w0.heap.size w0 w20) := HB19.out.trans (hb20.mono HB19.out.size)
      have HZ20 : Hid (w19.heap.size ≤ w20.heap.size) := hb20.size
      have HA20 : Hid (BoxAt w20 w.heap.size k n t a F.length cap 24) := HA19.out.below hb20
      have HW20 : Hid (OwnV w20 (.slice pw G.length cw) G bw) := HW19.out.keep (fun b hb => hb20.block b (HW19.out.blocks b hb).lt)
      have HD20 : Hid (BoxAt w20 w4.heap.size xk xn xt pw G.length cw 29) := HD19.out.below hb20
      have HG20 : Hid (OwnV w20 (.slice pg G.length cg) (G.marked 1) bg) := HG19.out.keep (fun b hb => hb20.block b (HG19.out.blocks b hb).lt)
      have HJ20 : Hid (BoxAt w20 w9.heap.size xk xn xt pg G.length cg 29) := HJ19.out.below hb20
      clear HA19 HW19 HD19 HG19 HJ19
      clear j0 j1 j2 j3
      clear hb20 HRG
      obtain ⟨a0, a1, a2, a3⟩ := HA20.out.cells
      go_wp2_with fail
      refine (HT.out w20 HB20.out).mono ?_
      rintro e w21 ⟨⟨va, ba, rfl, hoa, _, _⟩, hb21⟩
      obtain ⟨pa, ca, rfl, hla, hra⟩ := hoa.reads
      have HRA := Lib.hid hra
      have HLA := Lib.hid hla
      have HB21 : Hid (Below w0.heap.size w0 w21) := HB20.out.trans (hb21.mono HB20.out.size)
      have HZ21 : Hid (w20.heap.size ≤ w21.heap.size) := hb21.size
      have HA21 : Hid (BoxAt w21 w.heap.size k n t a F.length cap 24) := HA20.out.below hb21
      have HW21 : Hid (OwnV w21 (.slice pw G.length cw) G bw) := HW20.out.keep (fun b hb => hb21.block b (HW20.out.blocks b hb).lt)
      have HD21 : Hid (BoxAt w21 w4.heap.size xk xn xt pw G.length cw 29) := HD20.out.below hb21
      have HG21 : Hid (OwnV w21 (.slice pg G.length cg) (G.marked 1) bg) := HG20.out.keep (fun b hb => hb21.block b (HG20.out.blocks b hb).lt)
      have HJ21 : Hid (BoxAt w21 w9.heap.size xk xn xt pg G.length cg 29) := HJ20.out.below hb21
      clear HA20 HW20 HD20 HG20 HJ20
      clear a0 a1 a2 a3
      clear hoa hra hla hb21
      go_wp2_with fail
      refine (HTI.out w21 HB21.out).mono ?_
      rintro e w22 ⟨g22, hg22, rfl, hc22, hb22⟩
      have HR22 := Lib.hid (readsI_new hc22)
      have HRA22 := Lib.hid (HRA.out.below hb22)
      have HB22 : Hid (Below w0.heap.size w0 w22) := HB21.out.trans (hb22.mono HB21.out.size)
      have HZ22 : Hid (w21.heap.size ≤ w22.heap.size) := hb22.size
      have HA22 : Hid (BoxAt w22 w.heap.size k n t a F.length cap 24) := HA21.out.below hb22
      have HW22 : Hid (OwnV w22 (.slice pw G.length cw) G bw) := HW21.out.keep (fun b hb => hb22.block b (HW21.out.blocks b hb).lt)
      have HD22 : Hid (BoxAt w22 w4.heap.size xk xn xt pw G.length cw 29) := HD21.out.below hb22
      have HG22 : Hid (OwnV w22 (.slice pg G.length cg) (G.marked 1) bg) := HG21.out.keep (fun b hb => hb22.block b (HG21.out.blocks b hb).lt)
      have HJ22 : Hid (BoxAt w22 w9.heap.size xk xn xt pg G.length cg 29) := HJ21.out.below hb22
      clear HA21 HW21 HD21 HG21 HJ21
      clear hc22 hb22 HRA hg22
      go_wp2_with fail
      refine (HHI.out w22 pa ca HRA22.out HLA.out _ _ HR22.out).mono ?_
      rintro e w23 ⟨⟨vh, bh, rfl, hoh, _, _⟩, hb23⟩
      obtain ⟨ph, ch, rfl, _, _⟩ := hoh.reads
      have HB23 : Hid (Below w0.heap.size w0 w23) := HB22.out.trans (hb23.mono HB22.out.size)
      have HZ23 : Hid (w22.heap.size ≤ w23.heap.size) := hb23.size
      have HA23 : Hid (BoxAt w23 w.heap.size k n t a F.length cap 24) := HA22.out.below hb23
      have HW23 : Hid (OwnV w23 (.slice pw G.length cw) G bw) := HW22.out.keep (fun b hb => hb23.block b (HW22.out.blocks b hb).lt)
      have HD23 : Hid (BoxAt w23 w4.heap.size xk xn xt pw G.length cw 29) := HD22.out.below hb23
      have HG23 : Hid (OwnV w23 (.slice pg G.length cg) (G.marked 1) bg) := HG22.out.keep (fun b hb => hb23.block b (HG22.out.blocks b hb).lt)
      have HJ23 : Hid (BoxAt w23 w9.heap.size xk xn xt pg G.length cg 29) := HJ22.out.below hb23
      clear HA22 HW22 HD22 HG22 HJ22
      clear hb23 HRA22 HLA HR22
      have HH23 : Hid (OwnV w23 (.slice ph G.length ch) G bh) := hoh
      clear hoh
      have hal : Below w23.heap.size w23 (w23.alloc (.cells #[.int .i64 xk, .int .i64 xn, .string xt, .slice ph G.length ch] 29)) := (Below.refl _ _).alloc (Nat.le_refl _) _
      have hbx := heap_at_new w23 (.cells #[.int .i64 xk, .int .i64 xn, .string xt, .slice ph G.length ch] 29)
      obtain ⟨w24, hw24⟩ : ∃ q, q = w23.alloc (.cells #[.int .i64 xk, .int .i64 xn, .string xt, .slice ph G.length ch] 29) := ⟨_, rfl⟩
      rw [← hw24] at hal hbx
      have HQ24 := Lib.hid hw24
      have HB24 : Hid (Below w0.heap.size w0 w24) := HB23.out.trans (hal.mono HB23.out.size)
      have HZ24 : Hid (w23.heap.size ≤ w24.heap.size) := hal.size
      have HA24 : Hid (BoxAt w24 w.heap.size k n t a F.length cap 24) := HA23.out.below hal
      have HW24 : Hid (OwnV w24 (.slice pw G.length cw) G bw) := HW23.out.keep (fun b hb => hal.block b (HW23.out.blocks b hb).lt)
      have HD24 : Hid (BoxAt w24 w4.heap.size xk xn xt pw G.length cw 29) := HD23.out.below hal
      have HG24 : Hid (OwnV w24 (.slice pg G.length cg) (G.marked 1) bg) := HG23.out.keep (fun b hb => hal.block b (HG23.out.blocks b hb).lt)
      have HJ24 : Hid (BoxAt w24 w9.heap.size xk xn xt pg G.length cg 29) := HJ23.out.below hal
      have HH24 : Hid (OwnV w24 (.slice ph G.length ch) G bh) := HH23.out.keep (fun b hb => hal.block b (HH23.out.blocks b hb).lt)
      clear HA23 HW23 HD23 HG23 HJ23 HH23
      have HK24 : Hid (BoxAt w24 w23.heap.size xk xn xt ph G.length ch 29) := hbx
      clear hal hbx hw24
      obtain ⟨k0, k1, k2, k3⟩ := HK24.out.cells
      obtain ⟨d0, d1, d2, d3⟩ := HD24.out.cells
      rw [HQ24.out] at k0 k1 k2 k3 d0 d1 d2 d3
      obtain ⟨ph', ch', hph, _, hrh⟩ := HH24.out.reads
      cases hph
      obtain ⟨pw', cw', hpw, _, hrw⟩ := HW24.out.reads
      cases hpw
      have HRH := Lib.hid hrh
      have HRW := Lib.hid hrw
      clear hrh hrw
      go_wp2_with fail
      rw [← HQ24.out]
      refine (HEG.out w24 ph pw ch cw HRH.out HRW.out).mono ?_
      rintro e w25 ⟨rfl, hb25⟩
      have HB25 : Hid (Below w0.heap.size w0 w25) := HB24.out.trans (hb25.mono HB24.out.size)
      have HZ25 : Hid (w24.heap.size ≤ w25.heap.size) := hb25.size
      have HA25 : Hid (BoxAt w25 w.heap.size k n t a F.length cap 24) := HA24.out.below hb25
      have HW25 : Hid (OwnV w25 (.slice pw G.length cw) G bw) := HW24.out.keep (fun b hb => hb25.block b (HW24.out.blocks b hb).lt)
      have HD25 : Hid (BoxAt w25 w4.heap.size xk xn xt pw G.length cw 29) := HD24.out.below hb25
      have HG25 : Hid (OwnV w25 (.slice pg G.length cg) (G.marked 1) bg) := HG24.out.keep (fun b hb => hb25.block b (HG24.out.blocks b hb).lt)
      have HJ25 : Hid (BoxAt w25 w9.heap.size xk xn xt pg G.length cg 29) := HJ24.out.below hb25
      have HH25 : Hid (OwnV w25 (.slice ph G.length ch) G bh) := HH24.out.keep (fun b hb => hb25.block b (HH24.out.blocks b hb).lt)
      have HK25 : Hid (BoxAt w25 w23.heap.size xk xn xt ph G.length ch 29) := HK24.out.below hb25
      clear HA24 HW24 HD24 HG24 HJ24 HH24 HK24
      clear k0 k1 k2 k3 d0 d1 d2 d3
      clear hb25 HRH HRW
      obtain ⟨j0, j1, j2, j3⟩ := HJ25.out.cells
      obtain ⟨pg', cg', hpg, _, hrg⟩ := HG25.out.reads
      rw [Trees.marked_length] at hpg
      cases hpg
      have HRG := Lib.hid hrg
      clear hrg
      go_wp2_with fail
      refine (HHG.out w25 pg cg HRG.out).mono ?_
      rintro e w26 ⟨rfl, hb26⟩
      have HB26 : Hid (Below w0.heap.size w0 w26) := HB25.out.trans (hb26.mono HB25.out.size)
      have HZ26 : Hid (w25.heap.size ≤ w26.heap.size) := hb26.size
      have HA26 : Hid (BoxAt w26 w.heap.size k n t a F.length cap 24) := HA25.out.below hb26
      have HG26 : Hid (OwnV w26 (.slice pg G.length cg) (G.marked 1) bg) := HG25.out.keep (fun b hb => hb26.block b (HG25.out.blocks b hb).lt)
      have HJ26 : Hid (BoxAt w26 w9.heap.size xk xn xt pg G.length cg 29) := HJ25.out.below hb26
      clear HA25 HG25 HJ25
      clear j0 j1 j2 j3
      clear hb26 HRG
      go_wp2
      go_ret
      exact ⟨rfl, HBW.out.trans (HB26.out.mono HBW.out.size)⟩
    · rw [left_no hsz] at H0
      clear hsz hf hm ht hzm _hk _hn
      go_enter Try.func3, Try.ntmps3
      go_wp2_with fail
      rw [HW0.out]
      refine H0.mono ?_
      rintro e w1 ⟨rfl, hb1⟩
      have HB1 := Lib.hid hb1
      clear hb1 H0 a0 a1 a2 a3
      go_wp2
      go_ret
      exact ⟨rfl, HBW.out.trans (HB1.out.mono HBW.out.size)⟩
end Go.Proofs.Ytcalgjggmgnofaa
