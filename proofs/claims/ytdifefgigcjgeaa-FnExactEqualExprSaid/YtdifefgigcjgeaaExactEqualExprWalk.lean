/- What is proved here: the text of FnExactEqualValue returns true for every two expressions. Condition: none. -/
import Derived.Test.YtdifefgigcjgeaaExImplEqual
import Derived.Test.YtdifefgigcjgeaaExSpecEqual
import Derived.Test.YtdifefgigcjgeaaExTreeSize
import Derived.Test.YtdifefgigcjgeaaExTreeEq
import Derived.Test.YtdifefgigcjgeaaExTreeMake
import Derived.Test.YtdifefgigcjgeaaBoxAt
namespace Go.Proofs.Ytdifefgigcjgeaa
open Ex
open Go.RowKit

set_option maxHeartbeats 4000000 in
set_option maxRecDepth 100000 in
theorem fnExactEqualExpr_walk (k n : Int) (t : ByteArray) (F : Trees) (a : Option Addr) (cap : Nat) (k2 n2 : Int) (t2 : ByteArray) (G : Trees) (a2 : Option Addr) (cap2 : Nat) (w : World)
    (hx : TreesAt w F a 0) (hf : F.fits) (hm : F.length ≤ maxLen) (_hk : -9223372036854775808 ≤ k ∧ k ≤ 9223372036854775807) (_hn : -9223372036854775808 ≤ n ∧ n ≤ 9223372036854775807) (ht : t.size ≤ maxLen)
    (hx2 : TreesAt w G a2 0) (hf2 : G.fits) (hm2 : G.length ≤ maxLen) (_hk2 : -9223372036854775808 ≤ k2 ∧ k2 ≤ 9223372036854775807) (_hn2 : -9223372036854775808 ≤ n2 ∧ n2 ≤ 9223372036854775807) (ht2 : t2.size ≤ maxLen) :
    Calls Try.prog 6 #[.agg #[.int .i64 k, .int .i64 n, .string t, .slice a F.length cap], .agg #[.int .i64 k2, .int .i64 n2, .string t2, .slice a2 G.length cap2]] w fun e w' => e = .returned (.bool true) ∧ Below w.heap.size w w' := by
  obtain ⟨w0, hw0⟩ : ∃ w0, w0 = (w.alloc (.cells #[.int .i64 k, .int .i64 n, .string t, .slice a F.length cap] 35)).alloc (.cells #[.int .i64 k2, .int .i64 n2, .string t2, .slice a2 G.length cap2] 35) := ⟨_, rfl⟩
  obtain ⟨hs0, ha0, hb0, hB0⟩ := two_new w (.cells #[.int .i64 k, .int .i64 n, .string t, .slice a F.length cap] 35) (.cells #[.int .i64 k2, .int .i64 n2, .string t2, .slice a2 G.length cap2] 35)
  rw [← hw0] at hs0 ha0 hb0 hB0
  have HA0 : Hid (BoxAt w0 w.heap.size k n t a F.length cap 35) := ha0
  have HC0 : Hid (BoxAt w0 (w.heap.size + 1) k2 n2 t2 a2 G.length cap2 35) := hb0
  have HB0 := Lib.hid hB0
  have HW0 := Lib.hid hw0
  have HX := Lib.hid (hx.below hB0)
  have HX2 := Lib.hid (hx2.below hB0)
  have H0 := szValue_any 1048576 (Nat.le_refl _) w0 k n t F a cap ht hf hm HX.out
  obtain ⟨v0, v1, v2, v3⟩ := HA0.out.cells
  obtain ⟨u0, u1, u2, u3⟩ := HC0.out.cells
  clear hw0 hs0 ha0 hb0 hB0 hx hx2 _hk _hn _hk2 _hn2
  by_cases hsz : t.size + F.size ≤ 1048576
  · rw [left_yes hsz] at H0
    have hL1 : 1048576 - (t.size + F.size) ≤ 1048576 := by omega
    generalize 1048576 - (t.size + F.size) = L1 at *
    have H1 := fun w' (hb : Below w0.heap.size w0 w') => szValue_any L1 hL1 w' k2 n2 t2 G a2 cap2 ht2 hf2 hm2 (HX2.out.below hb)
    by_cases hsz2 : t2.size + G.size ≤ L1
    · rw [left_yes hsz2] at H1
      have hL2 : L1 - (t2.size + G.size) ≤ 1048576 := by omega
      generalize L1 - (t2.size + G.size) = L2 at *
      have hfs : F.size ≤ 1048576 := by omega
      have hgs : G.size ≤ 1048576 := by omega
      have hfc : F.count ≤ 1048576 := by have := F.count_le_size; omega
      have hfl : F.length ≤ 1048576 := by have := F.length_le_size; omega
      have HTA := Lib.hid (fun w' (hb : Below w0.heap.size w0 w') => toValue_any w' k n t F a cap hf hfs (HX.out.below hb))
      have HTB := Lib.hid (fun w' (hb : Below w0.heap.size w0 w') => toValue_any w' k2 n2 t2 G a2 cap2 hf2 hgs (HX2.out.below hb))
      have HS := fun w' p cp p2 cp2 (hx : TreesAt w' F p 0) (hy : TreesAt w' G p2 0) => spec_equal F hfl hfs G w' k n t p cp k2 n2 t2 p2 cp2 hx hy
      have HI := fun w' p cp p2 cp2 (hx : TreesAt w' F p 0) (hy : TreesAt w' G p2 0) (hl : F.length ≤ cp) (hl2 : G.length ≤ cp2) => impl_equal w' k n t F p cp k2 n2 t2 G p2 cp2 hx hy hfc hl hl2
      have HEA := Lib.hid (fun w' p p2 cp cp2 (hx : TreesAt w' F p 0) (hy : TreesAt w' F p2 0) => eqValue_same w' k n t F p p2 cp cp2 hf hm hx hy)
      have HEB := Lib.hid (fun w' p p2 cp cp2 (hx : TreesAt w' G p 0) (hy : TreesAt w' G p2 0) => eqValue_same w' k2 n2 t2 G p p2 cp cp2 hf2 hm2 hx hy)
      generalize (headEq k n t F.length k2 n2 t2 G.length && F.same G) = z at HS HI
      have HHS := Lib.hid HS
      have HHI := Lib.hid HI
      have HH1 := Lib.hid H1
      clear HS HI H1 hsz hsz2 hfs hgs hfc hfl hf hf2 hm hm2 ht ht2
      go_enter Try.func6, Try.ntmps6
      go_wp2_with fail
      rw [← HW0.out]
      refine H0.mono ?_
      rintro e w1 ⟨rfl, hb1⟩
      have HB1 := Lib.hid hb1
      have HA1 : Hid (BoxAt w1 w.heap.size k n t a F.length cap 35) := HA0.out.below hb1
      have HC1 : Hid (BoxAt w1 (w.heap.size + 1) k2 n2 t2 a2 G.length cap2 35) := HC0.out.below hb1
      clear v0 v1 v2 v3 u0 u1 u2 u3 hb1 H0
      obtain ⟨v0, v1, v2, v3⟩ := HA1.out.cells
      obtain ⟨u0, u1, u2, u3⟩ := HC1.out.cells
      go_wp2_with fail
      refine (HH1.out w1 HB1.out).mono ?_
      rintro e w2 ⟨rfl, hb2⟩
      have HB2 : Hid (Below w0.heap.size w0 w2) := HB1.out.trans (hb2.mono HB1.out.size)
      have HA2 : Hid (BoxAt w2 w.heap.size k n t a F.length cap 35) := HA1.out.below hb2
      have HC2 : Hid (BoxAt w2 (w.heap.size + 1) k2 n2 t2 a2 G.length cap2 35) := HC1.out.below hb2
      have HA2d : Hid (BoxAt w2.drew w.heap.size k n t a F.length cap 35) := HA2.out
      have HC2d : Hid (BoxAt w2.drew (w.heap.size + 1) k2 n2 t2 a2 G.length cap2 35) := HC2.out
      have HB2d : Hid (Below w0.heap.size w0 w2.drew) := HB2.out.drew
      clear v0 v1 v2 v3 u0 u1 u2 u3 hb2 HH1
      obtain ⟨v0, v1, v2, v3⟩ := HA2.out.cells
      obtain ⟨u0, u1, u2, u3⟩ := HC2.out.cells
      have HTT : Hid (∀ wa, Hid (BoxAt wa w.heap.size k n t a F.length cap 35) → ∀ wb, Below wa.heap.size wa wb → Hid (BoxAt wb w.heap.size k n t a F.length cap 35)) := fun _ h _ hb => h.out.below hb
      have HTU : Hid (∀ wa, Hid (BoxAt wa (w.heap.size + 1) k2 n2 t2 a2 G.length cap2 35) → ∀ wb, Below wa.heap.size wa wb → Hid (BoxAt wb (w.heap.size + 1) k2 n2 t2 a2 G.length cap2 35)) := fun _ h _ hb => h.out.below hb
      have HTV : Hid (∀ wa, Hid (Below w0.heap.size w0 wa) → ∀ wb, Below wa.heap.size wa wb → Hid (Below w0.heap.size w0 wb)) := fun _ h _ hb => h.out.trans (hb.mono h.out.size)
      have HTT2 : Hid (∀ wb, Below w2.drew.heap.size w2.drew wb → Hid (BoxAt wb w.heap.size k n t a F.length cap 35)) := fun wb hb => HTT.out w2.drew HA2d wb hb
      have HTU2 : Hid (∀ wb, Below w2.drew.heap.size w2.drew wb → Hid (BoxAt wb (w.heap.size + 1) k2 n2 t2 a2 G.length cap2 35)) := fun wb hb => HTU.out w2.drew HC2d wb hb
      have HTV2 : Hid (∀ wb, Below w2.drew.heap.size w2.drew wb → Hid (Below w0.heap.size w0 wb)) := fun wb hb => HTV.out w2.drew HB2d wb hb
      go_wp2
      go_region_held3 (fun w' => (w'.cell? ⟨w.heap.size, 0, none⟩ = some (.int .i64 k) ∧ w'.cell? ⟨w.heap.size, 1, none⟩ = some (.int .i64 n) ∧ w'.cell? ⟨w.heap.size, 2, none⟩ = some (.string t) ∧ w'.cell? ⟨w.heap.size, 3, none⟩ = some (.slice a F.length cap)) ∧ w'.cell? ⟨w.heap.size + 1, 0, none⟩ = some (.int .i64 k2) ∧ w'.cell? ⟨w.heap.size + 1, 1, none⟩ = some (.int .i64 n2) ∧ w'.cell? ⟨w.heap.size + 1, 2, none⟩ = some (.string t2) ∧ w'.cell? ⟨w.heap.size + 1, 3, none⟩ = some (.slice a2 G.length cap2))
        (first
          | go_keep
          | (obtain ⟨a0, a1, a2, a3⟩ := HAE.out.cells; obtain ⟨b0, b1, b2, b3⟩ := HCE.out.cells; exact ⟨⟨a0, a1, a2, a3⟩, b0, b1, b2, b3⟩)
          | (obtain ⟨a0, a1, a2, a3⟩ := HAB.out.cells; obtain ⟨b0, b1, b2, b3⟩ := HCB.out.cells; exact ⟨⟨a0, a1, a2, a3⟩, b0, b1, b2, b3⟩)
          | (obtain ⟨a0, a1, a2, a3⟩ := HAA.out.cells; obtain ⟨b0, b1, b2, b3⟩ := HCA.out.cells; exact ⟨⟨a0, a1, a2, a3⟩, b0, b1, b2, b3⟩))
        (first
          | (go_at_call 15; with_reducible refine (HTA.out w2.drew HB2d.out).mono ?_; rintro e wa ⟨⟨va, ba, rfl, hoa, _, _⟩, hba⟩; obtain ⟨pa, ca, rfl, _, hra⟩ := hoa.reads; have HRA := Lib.hid hra; have HAA := HTT2.out wa hba; have HCA := HTU2.out wa hba; have HBA := HTV2.out wa hba; clear hoa hra)
          | (go_at_call 15; with_reducible refine (HTB.out w2.drew HB2d.out).mono ?_; rintro e wb ⟨⟨vb, bb, rfl, hob, _, _⟩, hbb⟩; obtain ⟨pb, cb, rfl, _, hrb⟩ := hob.reads; have HRB := Lib.hid hrb; have HAB := HTT2.out wb hbb; have HCB := HTU2.out wb hbb; have HBB := HTV2.out wb hbb; clear hob hrb)
          | (go_at_call 15; with_reducible refine (HTB.out wa HBA.out).mono ?_; rintro e wb ⟨⟨vb, bb, rfl, hob, _, _⟩, hbb⟩; obtain ⟨pb, cb, rfl, _, hrb⟩ := hob.reads; have HRB := Lib.hid hrb; have HRA2 := Lib.hid (HRA.out.below hbb); have HAB := HTT.out wa HAA wb hbb; have HCB := HTU.out wa HCA wb hbb; have HBB := HTV.out wa HBA wb hbb; clear hob hrb)
          | (go_at_call 15; with_reducible refine (HTA.out wb HBB.out).mono ?_; rintro e wa ⟨⟨va, ba, rfl, hoa, _, _⟩, hba⟩; obtain ⟨pa, ca, rfl, _, hra⟩ := hoa.reads; have HRA := Lib.hid hra; have HRB2 := Lib.hid (HRB.out.below hba); have HAA := HTT.out wb HAB wa hba; have HCA := HTU.out wb HCB wa hba; have HBA := HTV.out wb HBB wa hba; clear hoa hra)
          | (go_at_call 24; with_reducible refine (HHS.out wb pa ca pb cb HRA2.out HRB.out).mono ?_; rintro e we ⟨rfl, hbe⟩; have HAE := HTT.out wb HAB we hbe; have HCE := HTU.out wb HCB we hbe; have HBE := HTV.out wb HBB we hbe; clear hbe)
          | (go_at_call 24; with_reducible refine (HHS.out wa pa ca pb cb HRA.out HRB2.out).mono ?_; rintro e we ⟨rfl, hbe⟩; have HAE := HTT.out wa HAA we hbe; have HCE := HTU.out wa HCA we hbe; have HBE := HTV.out wa HBA we hbe; clear hbe))
      clear v0 v1 v2 v3 u0 u1 u2 u3 hba hbb
      obtain ⟨v0, v1, v2, v3⟩ := HAE.out.cells
      obtain ⟨u0, u1, u2, u3⟩ := HCE.out.cells
      go_wp2_with fail
      refine (HTA.out we HBE.out).mono ?_
      rintro e w3 ⟨⟨vc, bc, rfl, hoc, _, _⟩, hb3⟩
      obtain ⟨pc, cc, rfl, hlc, hrc⟩ := hoc.reads
      have HA3 := HTT.out we HAE w3 hb3
      have HC3 := HTU.out we HCE w3 hb3
      have HB3 := HTV.out we HBE w3 hb3
      have hB4 : Below w3.heap.size w3 (w3.alloc (.cells #[.int .i64 k, .int .i64 n, .string t, .slice pc F.length cc] 40)) := (Below.refl _ _).alloc (Nat.le_refl _) _
      have HA4 := HTT.out w3 HA3 _ hB4
      have HC4 := HTU.out w3 HC3 _ hB4
      have HB4 := HTV.out w3 HB3 _ hB4
      have HX4 : Hid (BoxAt (w3.alloc (.cells #[.int .i64 k, .int .i64 n, .string t, .slice pc F.length cc] 40)) w3.heap.size k n t pc F.length cc 40) := heap_at_new w3 _
      have HR4 := Lib.hid (hrc.below hB4)
      have HLC := Lib.hid hlc
      clear v0 v1 v2 v3 u0 u1 u2 u3 hb3 hB4 hoc hrc hlc
      obtain ⟨v0, v1, v2, v3⟩ := HA4.out.cells
      obtain ⟨u0, u1, u2, u3⟩ := HC4.out.cells
      go_wp2_with fail
      generalize w3.alloc (.cells #[.int .i64 k, .int .i64 n, .string t, .slice pc F.length cc] 40) = w4 at *
      refine (HTB.out w4 HB4.out).mono ?_
      rintro e w5 ⟨⟨vd, bd, rfl, hod, _, _⟩, hb5⟩
      obtain ⟨pd, cd, rfl, hld, hrd⟩ := hod.reads
      have HA5 := HTT.out w4 HA4 w5 hb5
      have HC5 := HTU.out w4 HC4 w5 hb5
      have HB5 := HTV.out w4 HB4 w5 hb5
      have HX5 : Hid (BoxAt w5 w3.heap.size k n t pc F.length cc 40) := HX4.out.below hb5
      have HR5 := Lib.hid (HR4.out.below hb5)
      have hB6 : Below w5.heap.size w5 (w5.alloc (.cells #[.int .i64 k2, .int .i64 n2, .string t2, .slice pd G.length cd] 40)) := (Below.refl _ _).alloc (Nat.le_refl _) _
      have HA6 := HTT.out w5 HA5 _ hB6
      have HC6 := HTU.out w5 HC5 _ hB6
      have HB6 := HTV.out w5 HB5 _ hB6
      have HX6 : Hid (BoxAt (w5.alloc (.cells #[.int .i64 k2, .int .i64 n2, .string t2, .slice pd G.length cd] 40)) w3.heap.size k n t pc F.length cc 40) := HX5.out.below hB6
      have HY6 : Hid (BoxAt (w5.alloc (.cells #[.int .i64 k2, .int .i64 n2, .string t2, .slice pd G.length cd] 40)) w5.heap.size k2 n2 t2 pd G.length cd 40) := heap_at_new w5 _
      have HR6 := Lib.hid (HR5.out.below hB6)
      have HS6 := Lib.hid (hrd.below hB6)
      have HLD := Lib.hid hld
      clear v0 v1 v2 v3 u0 u1 u2 u3 hb5 hB6 hod hrd hld
      obtain ⟨v0, v1, v2, v3⟩ := HA6.out.cells
      obtain ⟨u0, u1, u2, u3⟩ := HC6.out.cells
      obtain ⟨x0, x1, x2, x3⟩ := HX6.out.cells
      obtain ⟨y0, y1, y2, y3⟩ := HY6.out.cells
      go_wp2_with fail
      generalize w5.alloc (.cells #[.int .i64 k2, .int .i64 n2, .string t2, .slice pd G.length cd] 40) = w6 at *
      refine (HHI.out w6 pc cc pd cd HR6.out HS6.out HLC.out HLD.out).mono ?_
      rintro e w7 ⟨rfl, hb7⟩
      have HA7 := HTT.out w6 HA6 w7 hb7
      have HC7 := HTU.out w6 HC6 w7 hb7
      have HB7 := HTV.out w6 HB6 w7 hb7
      have HX7 : Hid (BoxAt w7 w3.heap.size k n t pc F.length cc 40) := HX6.out.below hb7
      have HY7 : Hid (BoxAt w7 w5.heap.size k2 n2 t2 pd G.length cd 40) := HY6.out.below hb7
      have HR7 := Lib.hid (HR6.out.below hb7)
      have HS7 := Lib.hid (HS6.out.below hb7)
      clear v0 v1 v2 v3 u0 u1 u2 u3 x0 x1 x2 x3 y0 y1 y2 y3 hb7 HHI HHS
      obtain ⟨v0, v1, v2, v3⟩ := HA7.out.cells
      obtain ⟨u0, u1, u2, u3⟩ := HC7.out.cells
      obtain ⟨x0, x1, x2, x3⟩ := HX7.out.cells
      obtain ⟨y0, y1, y2, y3⟩ := HY7.out.cells
      have HTX : Hid (∀ wa, Hid (BoxAt wa w3.heap.size k n t pc F.length cc 40) → ∀ wb, Below wa.heap.size wa wb → Hid (BoxAt wb w3.heap.size k n t pc F.length cc 40)) := fun _ h _ hb => h.out.below hb
      have HTY : Hid (∀ wa, Hid (BoxAt wa w5.heap.size k2 n2 t2 pd G.length cd 40) → ∀ wb, Below wa.heap.size wa wb → Hid (BoxAt wb w5.heap.size k2 n2 t2 pd G.length cd 40)) := fun _ h _ hb => h.out.below hb
      have HTR : Hid (∀ wa, Hid (TreesAt wa F pc 0) → ∀ wb, Below wa.heap.size wa wb → Hid (TreesAt wb F pc 0)) := fun _ h _ hb => h.out.below hb
      have HTS : Hid (∀ wa, Hid (TreesAt wa G pd 0) → ∀ wb, Below wa.heap.size wa wb → Hid (TreesAt wb G pd 0)) := fun _ h _ hb => h.out.below hb
      have HA7d : Hid (BoxAt w7.drew w.heap.size k n t a F.length cap 35) := HA7
      have HC7d : Hid (BoxAt w7.drew (w.heap.size + 1) k2 n2 t2 a2 G.length cap2 35) := HC7
      have HX7d : Hid (BoxAt w7.drew w3.heap.size k n t pc F.length cc 40) := HX7
      have HY7d : Hid (BoxAt w7.drew w5.heap.size k2 n2 t2 pd G.length cd 40) := HY7
      have HB7d : Hid (Below w0.heap.size w0 w7.drew) := HB7.out.drew
      have HR7d : Hid (TreesAt w7.drew F pc 0) := HR7.out.drew
      have HS7d : Hid (TreesAt w7.drew G pd 0) := HS7.out.drew
      go_wp2
      go_region_held3 (fun w' => (w'.cell? ⟨w.heap.size, 0, none⟩ = some (.int .i64 k) ∧ w'.cell? ⟨w.heap.size, 1, none⟩ = some (.int .i64 n) ∧ w'.cell? ⟨w.heap.size, 2, none⟩ = some (.string t) ∧ w'.cell? ⟨w.heap.size, 3, none⟩ = some (.slice a F.length cap)) ∧ w'.cell? ⟨w3.heap.size, 0, none⟩ = some (.int .i64 k) ∧ w'.cell? ⟨w3.heap.size, 1, none⟩ = some (.int .i64 n) ∧ w'.cell? ⟨w3.heap.size, 2, none⟩ = some (.string t) ∧ w'.cell? ⟨w3.heap.size, 3, none⟩ = some (.slice pc F.length cc))
        (first
          | go_keep
          | (obtain ⟨a0, a1, a2, a3⟩ := HA9.out.cells; obtain ⟨b0, b1, b2, b3⟩ := HX9.out.cells; exact ⟨⟨a0, a1, a2, a3⟩, b0, b1, b2, b3⟩)
          | (obtain ⟨a0, a1, a2, a3⟩ := HA8.out.cells; obtain ⟨b0, b1, b2, b3⟩ := HX8.out.cells; exact ⟨⟨a0, a1, a2, a3⟩, b0, b1, b2, b3⟩))
        (first
          | (go_at_call 15; refine (HTA.out w7.drew HB7d.out).mono ?_; rintro e w8 ⟨⟨ve, be, rfl, hoe, _, _⟩, hb8⟩; obtain ⟨pe, ce, rfl, _, hre⟩ := hoe.reads; have HRE := Lib.hid hre; have HA8 := HTT.out w7.drew HA7d w8 hb8; have HC8 := HTU.out w7.drew HC7d w8 hb8; have HX8 := HTX.out w7.drew HX7d w8 hb8; have HY8 := HTY.out w7.drew HY7d w8 hb8; have HB8 := HTV.out w7.drew HB7d w8 hb8; have HR8 := HTR.out w7.drew HR7d w8 hb8; have HS8 := HTS.out w7.drew HS7d w8 hb8; clear hoe hre)
          | (go_at_call 17; refine (HEA.out w8 pc pe cc ce HR8.out HRE.out).mono ?_; rintro e w9 ⟨rfl, hb9⟩; have HA9 := HTT.out w8 HA8 w9 hb9; have HC9 := HTU.out w8 HC8 w9 hb9; have HX9 := HTX.out w8 HX8 w9 hb9; have HY9 := HTY.out w8 HY8 w9 hb9; have HB9 := HTV.out w8 HB8 w9 hb9; have HS9 := HTS.out w8 HS8 w9 hb9))
      clear v0 v1 v2 v3 u0 u1 u2 u3 x0 x1 x2 x3 y0 y1 y2 y3 hb8 hb9
      obtain ⟨u0, u1, u2, u3⟩ := HC9.out.cells
      obtain ⟨y0, y1, y2, y3⟩ := HY9.out.cells
      have HC9d : Hid (BoxAt w9.drew (w.heap.size + 1) k2 n2 t2 a2 G.length cap2 35) := HC9
      have HY9d : Hid (BoxAt w9.drew w5.heap.size k2 n2 t2 pd G.length cd 40) := HY9
      have HB9d : Hid (Below w0.heap.size w0 w9.drew) := HB9.out.drew
      have HS9d : Hid (TreesAt w9.drew G pd 0) := HS9.out.drew
      go_wp2
      go_region_held3 (fun w' => (w'.cell? ⟨w.heap.size + 1, 0, none⟩ = some (.int .i64 k2) ∧ w'.cell? ⟨w.heap.size + 1, 1, none⟩ = some (.int .i64 n2) ∧ w'.cell? ⟨w.heap.size + 1, 2, none⟩ = some (.string t2) ∧ w'.cell? ⟨w.heap.size + 1, 3, none⟩ = some (.slice a2 G.length cap2)) ∧ w'.cell? ⟨w5.heap.size, 0, none⟩ = some (.int .i64 k2) ∧ w'.cell? ⟨w5.heap.size, 1, none⟩ = some (.int .i64 n2) ∧ w'.cell? ⟨w5.heap.size, 2, none⟩ = some (.string t2) ∧ w'.cell? ⟨w5.heap.size, 3, none⟩ = some (.slice pd G.length cd))
        (first
          | go_keep
          | (obtain ⟨a0, a1, a2, a3⟩ := HC11.out.cells; obtain ⟨b0, b1, b2, b3⟩ := HY11.out.cells; exact ⟨⟨a0, a1, a2, a3⟩, b0, b1, b2, b3⟩)
          | (obtain ⟨a0, a1, a2, a3⟩ := HC10.out.cells; obtain ⟨b0, b1, b2, b3⟩ := HY10.out.cells; exact ⟨⟨a0, a1, a2, a3⟩, b0, b1, b2, b3⟩))
        (first
          | (go_at_call 15; refine (HTB.out w9.drew HB9d.out).mono ?_; rintro e w10 ⟨⟨vf, bf, rfl, hof, _, _⟩, hb10⟩; obtain ⟨pf, cf, rfl, _, hrf⟩ := hof.reads; have HRF := Lib.hid hrf; have HC10 := HTU.out w9.drew HC9d w10 hb10; have HY10 := HTY.out w9.drew HY9d w10 hb10; have HB10 := HTV.out w9.drew HB9d w10 hb10; have HS10 := HTS.out w9.drew HS9d w10 hb10; clear hof hrf)
          | (go_at_call 17; refine (HEB.out w10 pd pf cd cf HS10.out HRF.out).mono ?_; rintro e w11 ⟨rfl, hb11⟩; have HC11 := HTU.out w10 HC10 w11 hb11; have HY11 := HTY.out w10 HY10 w11 hb11; have HB11 := HTV.out w10 HB10 w11 hb11))
      clear hb10 hb11 u0 u1 u2 u3 y0 y1 y2 y3
      go_wp2
      go_ret
      exact ⟨rfl, HB0.out.trans (HB11.out.mono HB0.out.size)⟩
    · rw [left_no hsz2] at H1
      have HH1 := Lib.hid H1
      clear H1 hsz hsz2 hf hf2 hm hm2 ht ht2
      go_enter Try.func6, Try.ntmps6
      go_wp2_with fail
      rw [← HW0.out]
      refine H0.mono ?_
      rintro e w1 ⟨rfl, hb1⟩
      have HB1 := Lib.hid hb1
      have HC1 := Lib.hid (HC0.out.below hb1)
      clear v0 v1 v2 v3 u0 u1 u2 u3 hb1 H0
      obtain ⟨u0, u1, u2, u3⟩ := HC1.out.cells
      go_wp2_with fail
      refine (HH1.out w1 HB1.out).mono ?_
      rintro e w2 ⟨rfl, hb2⟩
      have HB2 : Hid (Below w0.heap.size w0 w2) := HB1.out.trans (hb2.mono HB1.out.size)
      clear hb2 HH1 u0 u1 u2 u3
      go_wp2
      go_ret
      exact ⟨rfl, HB0.out.trans (HB2.out.mono HB0.out.size)⟩
  · rw [left_no hsz] at H0
    clear hsz hf hf2 hm hm2 ht ht2 u0 u1 u2 u3
    go_enter Try.func6, Try.ntmps6
    go_wp2_with fail
    rw [← HW0.out]
    refine H0.mono ?_
    rintro e w1 ⟨rfl, hb1⟩
    have HB1 := Lib.hid hb1
    clear hb1 H0 v0 v1 v2 v3
    go_wp2
    go_ret
    exact ⟨rfl, HB0.out.trans (HB1.out.mono HB0.out.size)⟩
end Go.Proofs.Ytdifefgigcjgeaa
