/- What is proved here: a piece of the proof of YtdilegbigaahnaaGreatExactIsValueOf (SpecHas, SpecLeft, SpecDepth, SpecGood). Condition: none beyond what each part says. -/
import Derived.Test.YtdilegbigaahnaaGreatVo02
import Derived.Test.YtdilegbigaahnaaGreatVo13
import Derived.Test.YtdilegbigaahnaaGreatVo04
import Derived.Deep.RegionHeld3
import Derived.Test.YtdilegbigaahnaaGreatVo09

/- What is proved here: the model's l4Has says whether a value has a type. Condition: value and signature lie in memory as said, and are small. -/
section
namespace Go.Proofs.YtdilegbigaahnaaGreat
open Go.RowKit

theorem two_allocs (w : World) (o1 o2 : Obj) : ((w.alloc o1).alloc o2).heap[w.heap.size]? = some o1 ∧ ((w.alloc o1).alloc o2).heap[w.heap.size + 1]? = some o2 ∧ Below w.heap.size w ((w.alloc o1).alloc o2) ∧ ((w.alloc o1).alloc o2).heap.size = w.heap.size + 2 := by
  have h := two_alloc w o1 o2
  exact ⟨h.2.1, h.2.2.1, h.2.2.2, h.1⟩

set_option maxHeartbeats 4000000 in
set_option maxRecDepth 100000 in
theorem spec_has (s : List TypeD) (hm : s.length ≤ 1048576) (hs : ∀ c ∈ s, c.cons.length ≤ 1048576 ∧ ∀ d ∈ c.cons, d.args.length ≤ 1048576) : ∀ G : Trees, G.fits → G.size ≤ 1048576 → ∀ (w : World) (k n : Int) (t : ByteArray) (p : Option Addr) (c : Nat) (a : Option Addr) (cap : Nat) (nm : ByteArray), t.size ≤ maxLen → TreesAt w G p 0 → Row2 TypeAt w a s →
    Calls Tryz.prog 23 #[.agg #[.slice a s.length cap], .agg #[.int .i64 k, .int .i64 n, .string t, .slice p G.length c], .string nm] w fun e w' => e = .returned (.bool (nodeHas s k n t G.length (fun l => G.has s l) nm)) ∧ Below w.heap.size w w' := by
  refine Trees.ind fun F hall hfit hsz w k n t p c a cap nm ht hx hsg => ?_
  generalize hz : nodeHas s k n t F.length (fun l => F.has s l) nm = z
  obtain ⟨hp0, hp1, hB0, hs0⟩ := two_allocs w (.cells #[.slice a s.length cap] 33) (.cells #[.int .i64 k, .int .i64 n, .string t, .slice p F.length c] 37)
  have HX := Lib.hid (hx.below hB0)
  have HSG := Lib.hid (row2_below type_below hsg hB0)
  have HB0 := Lib.hid hB0
  have HP0 := Lib.hid hp0
  have HP1 := Lib.hid hp1
  have HALL := Lib.hid hall
  have HFIT := Lib.hid hfit
  have HS := Lib.hid hs
  have hfl : F.length ≤ 1048576 := Nat.le_trans F.length_le_size hsz
  obtain ⟨c0, c1, c2, c3, _⟩ := four_cells hp1
  have d0 := (one_cell hp0).1
  clear hp0 hp1 hx hsg hall hfit hs hB0
  by_cases h1 : k = 1
  · subst h1
    have hz' : z = ((nm.toList == [105, 110, 116]) && inInt n && (t.toList == []) && decide (F.length = 0)) := by rw [← hz]; rfl
    clear hz HALL HX HSG HFIT HS hs0 HP0 HP1
    by_cases hA : (nm.toList == [105, 110, 116]) = true
    · rw [hA] at hz'
      have HI := Lib.hid (spec_inInt n)
      generalize inInt n = bi at *
      cases bi with
      | false =>
        have HZ : Hid (z = false) := hz'
        clear hz'
        go_enter Tryz.func23, Tryz.ntmps23
        go_wp2_with fail
        refine (HI.out _).mono ?_
        rintro e w1 ⟨rfl, rfl⟩
        go_wp2
        go_ret
        exact ⟨by rw [HZ.out]; rfl, HB0.out⟩
      | true =>
        by_cases hC : (t.toList == []) = true
        · rw [hC] at hz'
          by_cases hD : F.length = 0
          · have HZ : Hid (z = true) := by unfold Hid; rw [hz', hD]; rfl
            rw [hD] at HB0 c0 c1 c2 c3 d0 ⊢
            clear hz'
            go_enter Tryz.func23, Tryz.ntmps23
            go_wp2_with fail
            refine (HI.out _).mono ?_
            rintro e w1 ⟨rfl, rfl⟩
            go_wp2
            go_ret
            exact ⟨by rw [HZ.out]; rfl, HB0.out⟩
          · have HZ : Hid (z = false) := by unfold Hid; rw [hz', decide_eq_false hD]; rfl
            have hD2 : ((F.length : Int) == 0) = false := by simp; omega
            clear hz'
            generalize F.length = nn at *
            go_enter Tryz.func23, Tryz.ntmps23
            go_wp2_with fail
            refine (HI.out _).mono ?_
            rintro e w1 ⟨rfl, rfl⟩
            go_wp2
            go_ret
            exact ⟨by rw [HZ.out]; rfl, HB0.out⟩
        · have hC : (t.toList == []) = false := by simpa using hC
          have HZ : Hid (z = false) := by unfold Hid; rw [hz', hC]; rfl
          clear hz'
          go_enter Tryz.func23, Tryz.ntmps23
          go_wp2_with fail
          refine (HI.out _).mono ?_
          rintro e w1 ⟨rfl, rfl⟩
          go_wp2
          go_ret
          exact ⟨by rw [HZ.out]; rfl, HB0.out⟩
    · have hA : (nm.toList == [105, 110, 116]) = false := by simpa using hA
      have HZ : Hid (z = false) := by unfold Hid; rw [hz', hA]; rfl
      clear hz'
      go_enter Tryz.func23, Tryz.ntmps23
      go_wp2
      go_ret
      exact ⟨by rw [HZ.out]; rfl, HB0.out⟩
  have e1 : (k == 1) = false := by simpa using h1
  by_cases h2 : k = 2
  · subst h2
    have hz' : z = ((nm.toList == [116, 101, 120, 116]) && (n == 0) && decide (F.length = 0) && bl (ValidText t)) := by rw [← hz]; rfl
    have htm : t.size ≤ maxLen := ht
    clear hz HALL HX HSG HFIT HS hs0 HP0 HP1 h1
    by_cases hA : (nm.toList == [116, 101, 120, 116]) = true
    · rw [hA] at hz'
      by_cases hN : n = 0
      · subst hN
        by_cases hD : F.length = 0
        · have HZ : Hid (z = bl (ValidText t)) := by unfold Hid; rw [hz', hD]; rfl
          have HT := Lib.hid (spec_text t htm)
          generalize bl (ValidText t) = bt at *
          rw [hD] at HB0 c0 c1 c2 c3 d0 ⊢
          clear hz'
          go_enter Tryz.func23, Tryz.ntmps23
          go_wp2_with fail
          refine (HT.out _).mono ?_
          rintro e w1 ⟨rfl, hb1⟩
          have HB1 : Hid (Below w.heap.size w w1) := HB0.out.trans (hb1.mono HB0.out.size)
          clear hb1
          go_wp2
          go_ret
          exact ⟨by rw [HZ.out]; rfl, HB1.out⟩
        · have HZ : Hid (z = false) := by unfold Hid; rw [hz', decide_eq_false hD]; rfl
          have hD2 : ((F.length : Int) == 0) = false := by simp; omega
          clear hz'
          generalize F.length = nn at *
          go_enter Tryz.func23, Tryz.ntmps23
          go_wp2
          go_ret
          exact ⟨by rw [HZ.out]; rfl, HB0.out⟩
      · have hN2 : (n == 0) = false := by simpa using hN
        have HZ : Hid (z = false) := by unfold Hid; rw [hz', hN2]; rfl
        clear hz'
        go_enter Tryz.func23, Tryz.ntmps23
        go_wp2
        go_ret
        exact ⟨by rw [HZ.out]; rfl, HB0.out⟩
    · have hA : (nm.toList == [116, 101, 120, 116]) = false := by simpa using hA
      have HZ : Hid (z = false) := by unfold Hid; rw [hz', hA]; rfl
      clear hz'
      go_enter Tryz.func23, Tryz.ntmps23
      go_wp2
      go_ret
      exact ⟨by rw [HZ.out]; rfl, HB0.out⟩
  have e2 : (k == 2) = false := by simpa using h2
  by_cases h3 : k = 3
  rotate_left
  · have e3 : (k == 3) = false := by simpa using h3
    have HZ : Hid (z = false) := by unfold Hid; rw [← hz]; unfold nodeHas; rw [if_neg h1, if_neg h2, if_neg h3]
    clear hz HALL HX HSG HFIT HS hs0 HP0 HP1 h1 h2 h3
    go_enter Tryz.func23, Tryz.ntmps23
    go_wp2
    go_ret
    exact ⟨by rw [HZ.out]; rfl, HB0.out⟩
  subst h3
  have hz' : z = match theCon s t with
      | some (c, tn) => (tn.toList == nm.toList) && (n == 0) && decide (c.args.length = F.length) && F.has s c.args
      | none => false := by rw [← hz]; rfl
  clear hz h1 h2
  generalize hn : F.length = nn at *
  have HN := Lib.hid hn
  clear hn
  obtain ⟨w0, hw0⟩ : ∃ w0, w0 = (w.alloc (.cells #[.slice a s.length cap] 33)).alloc (.cells #[.int .i64 3, .int .i64 n, .string t, .slice p nn c] 37) := ⟨_, rfl⟩
  rw [← hw0] at HX HSG HB0 HP0 HP1 hs0 c0 c1 c2 c3 d0
  have HF := Lib.hid (spec_findCon w0 a cap s t HSG.out hm HS.out)
  have HW0 := Lib.hid hw0
  have HS0 := Lib.hid hs0
  clear hw0 hs0
  cases htc : theCon s t with
  | none =>
    rw [htc] at hz'
    have HZ : Hid (z = false) := hz'
    have HTC := Lib.hid htc
    clear htc hz'
    go_enter Tryz.func23, Tryz.ntmps23
    go_wp2_with fail
    rw [← HW0.out]
    refine HF.out.mono ?_
    rintro e w1 ⟨hb1, h⟩
    rcases h with ⟨_, _, _, _, h, _⟩ | ⟨_, rfl⟩
    · rw [HTC.out] at h; cases h
    have HB1 : Hid (Below w.heap.size w w1) := HB0.out.trans (hb1.mono HB0.out.size)
    have HB2 : Hid (Below w.heap.size w (w1.alloc (.cells #[.string ⟨#[]⟩, .slice none 0 0] 73))) := HB1.out.alloc HB1.out.size _
    clear hb1
    go_wp2
    go_ret
    exact ⟨by rw [HZ.out]; rfl, HB2.out⟩
  | some ct =>
    obtain ⟨cd, tn⟩ := ct
    rw [htc] at hz'
    have hca := theCon_args HS.out htc
    have HTC := Lib.hid htc
    simp only at hz'
    clear htc
    by_cases hA : (tn.toList == nm.toList) = true
    rotate_left
    · have hA : (tn.toList == nm.toList) = false := by simpa using hA
      have hA2 : (tn.toList != nm.toList) = true := by simp [bne, hA]
      have HZ : Hid (z = false) := by unfold Hid; rw [hz', hA]; rfl
      clear hz'
      go_enter Tryz.func23, Tryz.ntmps23
      go_wp2_with fail
      rw [← HW0.out]
      refine HF.out.mono ?_
      rintro e w1 ⟨hb1, h⟩
      rcases h with ⟨cd2, tn2, u, v, h, rfl, ho⟩ | ⟨h, _⟩
      rotate_left
      · rw [HTC.out] at h; cases h
      obtain ⟨rfl, rfl⟩ : cd = cd2 ∧ tn = tn2 := by have h2 := HTC.out.symm.trans h; cases h2; exact ⟨rfl, rfl⟩
      obtain ⟨qa, qc, hu, hv, hr⟩ := OwnCon.reads _ _ _ _ _ ho
      subst hu hv
      have hbA : Below w1.heap.size w1 (w1.alloc (.cells #[.string cd.name, .slice qa cd.args.length qc] 73)) := (Below.refl _ _).alloc (Nat.le_refl _) _
      have hB2 : Below w0.heap.size w0 (w1.alloc (.cells #[.string cd.name, .slice qa cd.args.length qc] 73)) := hb1.trans (hbA.mono hb1.size)
      have HR := Lib.hid (reads_below hr hbA)
      have g1 := (two_cells (heap_at_new w1 (.cells #[.string cd.name, .slice qa cd.args.length qc] 73))).2.1
      have HB2 : Hid (Below w.heap.size w (w1.alloc (.cells #[.string cd.name, .slice qa cd.args.length qc] 73))) := HB0.out.trans (hB2.mono HB0.out.size)
      have c1' := cell_below c1 hB2
      have c3' := cell_below c3 hB2
      have d0' := cell_below d0 hB2
      have HB20 := Lib.hid hB2
      clear hb1 ho hr hbA hB2 h c0 c1 c2 c3 d0
      go_wp2
      go_ret
      exact ⟨by rw [HZ.out]; rfl, HB2.out⟩
    have hA2 : (tn.toList != nm.toList) = false := by simp [bne, hA]
    by_cases hN : n = 0
    rotate_left
    · have hN2 : (n != 0) = true := by simpa using hN
      have HZ : Hid (z = false) := by unfold Hid; rw [hz', show (n == 0) = false by simpa using hN]; simp
      clear hz'
      go_enter Tryz.func23, Tryz.ntmps23
      go_wp2_with fail
      rw [← HW0.out]
      refine HF.out.mono ?_
      rintro e w1 ⟨hb1, h⟩
      rcases h with ⟨cd2, tn2, u, v, h, rfl, ho⟩ | ⟨h, _⟩
      rotate_left
      · rw [HTC.out] at h; cases h
      obtain ⟨rfl, rfl⟩ : cd = cd2 ∧ tn = tn2 := by have h2 := HTC.out.symm.trans h; cases h2; exact ⟨rfl, rfl⟩
      obtain ⟨qa, qc, hu, hv, hr⟩ := OwnCon.reads _ _ _ _ _ ho
      subst hu hv
      have hbA : Below w1.heap.size w1 (w1.alloc (.cells #[.string cd.name, .slice qa cd.args.length qc] 73)) := (Below.refl _ _).alloc (Nat.le_refl _) _
      have hB2 : Below w0.heap.size w0 (w1.alloc (.cells #[.string cd.name, .slice qa cd.args.length qc] 73)) := hb1.trans (hbA.mono hb1.size)
      have HR := Lib.hid (reads_below hr hbA)
      have g1 := (two_cells (heap_at_new w1 (.cells #[.string cd.name, .slice qa cd.args.length qc] 73))).2.1
      have HB2 : Hid (Below w.heap.size w (w1.alloc (.cells #[.string cd.name, .slice qa cd.args.length qc] 73))) := HB0.out.trans (hB2.mono HB0.out.size)
      have c1' := cell_below c1 hB2
      have c3' := cell_below c3 hB2
      have d0' := cell_below d0 hB2
      have HB20 := Lib.hid hB2
      clear hb1 ho hr hbA hB2 h c0 c1 c2 c3 d0
      go_wp2
      go_ret
      exact ⟨by rw [HZ.out]; rfl, HB2.out⟩
    subst hN
    by_cases hD : cd.args.length = nn
    rotate_left
    · have hD2 : ((cd.args.length : Int) != (nn : Int)) = true := by simp; omega
      have HZ : Hid (z = false) := by unfold Hid; rw [hz', decide_eq_false hD]; simp
      clear hz'
      go_enter Tryz.func23, Tryz.ntmps23
      go_wp2_with fail
      rw [← HW0.out]
      refine HF.out.mono ?_
      rintro e w1 ⟨hb1, h⟩
      rcases h with ⟨cd2, tn2, u, v, h, rfl, ho⟩ | ⟨h, _⟩
      rotate_left
      · rw [HTC.out] at h; cases h
      obtain ⟨rfl, rfl⟩ : cd = cd2 ∧ tn = tn2 := by have h2 := HTC.out.symm.trans h; cases h2; exact ⟨rfl, rfl⟩
      obtain ⟨qa, qc, hu, hv, hr⟩ := OwnCon.reads _ _ _ _ _ ho
      subst hu hv
      have hbA : Below w1.heap.size w1 (w1.alloc (.cells #[.string cd.name, .slice qa cd.args.length qc] 73)) := (Below.refl _ _).alloc (Nat.le_refl _) _
      have hB2 : Below w0.heap.size w0 (w1.alloc (.cells #[.string cd.name, .slice qa cd.args.length qc] 73)) := hb1.trans (hbA.mono hb1.size)
      have HR := Lib.hid (reads_below hr hbA)
      have g1 := (two_cells (heap_at_new w1 (.cells #[.string cd.name, .slice qa cd.args.length qc] 73))).2.1
      have HB2 : Hid (Below w.heap.size w (w1.alloc (.cells #[.string cd.name, .slice qa cd.args.length qc] 73))) := HB0.out.trans (hB2.mono HB0.out.size)
      have c1' := cell_below c1 hB2
      have c3' := cell_below c3 hB2
      have d0' := cell_below d0 hB2
      have HB20 := Lib.hid hB2
      clear hb1 ho hr hbA hB2 h c0 c1 c2 c3 d0
      go_wp2
      go_ret
      exact ⟨by rw [HZ.out]; rfl, HB2.out⟩
    have HZ : Hid (F.has s cd.args = z) := by unfold Hid; rw [hz', hA, hD]; simp
    have HD := Lib.hid hD
    clear hz'
    go_enter Tryz.func23, Tryz.ntmps23
    go_wp2_with fail
    rw [← HW0.out]
    refine HF.out.mono ?_
    rintro e w1 ⟨hb1, h⟩
    rcases h with ⟨cd2, tn2, u, v, h, rfl, ho⟩ | ⟨h, _⟩
    rotate_left
    · rw [HTC.out] at h; cases h
    obtain ⟨rfl, rfl⟩ : cd = cd2 ∧ tn = tn2 := by have h2 := HTC.out.symm.trans h; cases h2; exact ⟨rfl, rfl⟩
    obtain ⟨qa, qc, hu, hv, hr⟩ := OwnCon.reads _ _ _ _ _ ho
    subst hu hv
    have hbA : Below w1.heap.size w1 (w1.alloc (.cells #[.string cd.name, .slice qa cd.args.length qc] 73)) := (Below.refl _ _).alloc (Nat.le_refl _) _
    have hB2 : Below w0.heap.size w0 (w1.alloc (.cells #[.string cd.name, .slice qa cd.args.length qc] 73)) := hb1.trans (hbA.mono hb1.size)
    have HR := Lib.hid (reads_below hr hbA)
    have g1 := (two_cells (heap_at_new w1 (.cells #[.string cd.name, .slice qa cd.args.length qc] 73))).2.1
    have HB2 : Hid (Below w.heap.size w (w1.alloc (.cells #[.string cd.name, .slice qa cd.args.length qc] 73))) := HB0.out.trans (hB2.mono HB0.out.size)
    have c1' := cell_below c1 hB2
    have c3' := cell_below c3 hB2
    have d0' := cell_below d0 hB2
    have HB20 := Lib.hid hB2
    clear hb1 ho hr hbA hB2 h c0 c1 c2 c3 d0
    rw [hD] at c3' g1 d0' HB2 HB20 c1' HR
    rw [hD]
    go_wp2
    generalize w1.alloc (.cells #[.string cd.name, .slice qa nn qc] 73) = w2 at *
    have HC3 := Lib.hid c3'
    have HD0 := Lib.hid d0'
    have HG1 := Lib.hid g1
    have HX2 := Lib.hid (HX.out.below HB20.out)
    have HSG2 := Lib.hid (row2_below type_below HSG.out HB20.out)
    clear c1' c3' d0' g1 hD hca
    go_loopw [10] (fun i wr => ∃ (j : Nat) (r : Trees) (xs : List ByteArray), i = .int .i64 j ∧ j + r.length = nn ∧ Hid (xs = cd.args.drop j) ∧ Hid (r.has s xs = z) ∧ Hid (TreesAt w2 r p j) ∧ Hid (r.fits ∧ r.size ≤ 1048576) ∧ Hid (r.All (fun G => G.fits → G.size ≤ 1048576 → ∀ (w : World) (k n : Int) (t : ByteArray) (p : Option Addr) (c : Nat) (a : Option Addr) (cap : Nat) (nm : ByteArray), t.size ≤ maxLen → TreesAt w G p 0 → Row2 TypeAt w a s →
        Calls Tryz.prog 23 #[.agg #[.slice a s.length cap], .agg #[.int .i64 k, .int .i64 n, .string t, .slice p G.length c], .string nm] w fun e w' => e = .returned (.bool (nodeHas s k n t G.length (fun l => G.has s l) nm)) ∧ Below w.heap.size w w')) ∧ Hid (Below w2.heap.size w2 wr)) (fun i _ => nn - (intOf i).toNat)
    case atStart => exact ⟨0, F, cd.args, rfl, by rw [HN.out]; omega, rfl, HZ, HX2, ⟨HFIT.out, hsz⟩, HALL, Below.refl _ _⟩
    case round =>
      obtain ⟨j, r, xs, rfl, hjn, hxs, hz, hxr, hfr, hall, hB⟩ := hrel
      have hc3 := cell_below HC3.out hB.out
      have hd0 := cell_below HD0.out hB.out
      have hg1 := cell_below HG1.out hB.out
      cases r with
      | nil =>
        obtain rfl : j = nn := by simp only [Trees.length] at hjn; omega
        obtain rfl : true = z := hz.out
        clear hxr hall hxs hfr hz
        go_wp2
        go_ret
        exact ⟨rfl, HB2.out.trans (hB.out.mono HB2.out.size)⟩
      | cons k3 n3 t3 a3 r =>
        have hjl : j < nn := by simp only [Trees.length] at hjn; omega
        have hjn2 : j + 1 + r.length = nn := by simp only [Trees.length] at hjn; omega
        have hja : j < cd.args.length := by rw [HD.out]; exact hjl
        obtain ⟨y, q, cq, rfl, g1, g2, g3, g4, hs3, _⟩ := (hxr.out.below hB.out).open
        have hxr2 : Hid (TreesAt w2 r (some y) (j + 1)) := hxr.out.2
        obtain ⟨y2, hy2, j1⟩ := (reads_below HR.out hB.out) j hja
        subst hy2
        have hxs2 := hxs.out
        rw [List.drop_eq_getElem_cons hja] at hxs2
        generalize cd.args[j] = nm2 at *
        subst hxs2
        have hfs := hfr.out.2
        simp only [Trees.size] at hfs
        have hft := hfr.out.1.2.2.1
        have HFR : Hid (r.fits ∧ r.size ≤ 1048576) := ⟨hfr.out.1.2.2.2.2.2, by omega⟩
        have H := fun (w' : World) (hb : Below wr.heap.size wr w') => hall.out.1 hfr.out.1.2.2.2.2.1 (by omega) w' k3 n3 t3 q cq a cap nm2 hft (hs3.below hb) (row2_below type_below (row2_below type_below HSG2.out hB.out) hb)
        have HA2 := Lib.hid hall.out.2
        have hz2 := hz.out
        simp only [Trees.has] at hz2
        have HXS : Hid (cd.args.drop (j + 1) = cd.args.drop (j + 1)) := rfl
        generalize nodeHas s k3 n3 t3 a3.length (fun l => a3.has s l) nm2 = hb at *
        have HH := Lib.hid H
        clear hxr hz hjn hs3 hall hfr hfs H hja hxs
        cases hb with
        | false =>
          obtain rfl : false = z := by simpa using hz2
          clear hz2
          go_wp2
          go_region_held3 (fun w' => (w'.cell? ⟨w.heap.size + 1, 3, none⟩ = some (.slice (some y) nn c) ∧ w'.cell? ⟨w.heap.size, 0, none⟩ = some (.slice a s.length cap) ∧ w'.cell? ⟨w1.heap.size, 1, none⟩ = some (.slice (some y2) nn qc) ∧ w'.cell? (y2.add j) = some (.string nm2)) ∧ (w'.cell? (y.add (j * 4)) = some (.int .i64 k3) ∧ w'.cell? (fieldAt y j 1) = some (.int .i64 n3) ∧ w'.cell? (fieldAt y j 2) = some (.string t3) ∧ w'.cell? (fieldAt y j 3) = some (.slice q a3.length cq)))
            (first
              | go_keep
              | (refine ⟨⟨cell_below ?_ hbl, cell_below ?_ hbl, cell_below ?_ hbl, cell_below ?_ hbl⟩, cell_below ?_ hbl, cell_below ?_ hbl, cell_below ?_ hbl, cell_below ?_ hbl⟩ <;> assumption))
            (first
              | (go_at_call 23; refine (HH.out _ ((Below.refl _ _).drew)).mono ?_; rintro e w3 ⟨rfl, hbl⟩))
          have HB3 : Hid (Below w2.heap.size w2 w3) := hB.out.trans ((below_of_drew hbl).mono hB.out.size)
          clear hbl HH
          go_wp2
          go_ret
          exact ⟨rfl, HB2.out.trans (HB3.out.mono HB2.out.size)⟩
        | true =>
          have HZ2 : Hid (r.has s (cd.args.drop (j + 1)) = z) := by unfold Hid; simpa using hz2
          clear hz2
          go_wp2
          go_region_held3 (fun w' => (w'.cell? ⟨w.heap.size + 1, 3, none⟩ = some (.slice (some y) nn c) ∧ w'.cell? ⟨w.heap.size, 0, none⟩ = some (.slice a s.length cap) ∧ w'.cell? ⟨w1.heap.size, 1, none⟩ = some (.slice (some y2) nn qc) ∧ w'.cell? (y2.add j) = some (.string nm2)) ∧ (w'.cell? (y.add (j * 4)) = some (.int .i64 k3) ∧ w'.cell? (fieldAt y j 1) = some (.int .i64 n3) ∧ w'.cell? (fieldAt y j 2) = some (.string t3) ∧ w'.cell? (fieldAt y j 3) = some (.slice q a3.length cq)))
            (first
              | go_keep
              | (refine ⟨⟨cell_below ?_ hbl, cell_below ?_ hbl, cell_below ?_ hbl, cell_below ?_ hbl⟩, cell_below ?_ hbl, cell_below ?_ hbl, cell_below ?_ hbl, cell_below ?_ hbl⟩ <;> assumption))
            (first
              | (go_at_call 23; refine (HH.out _ ((Below.refl _ _).drew)).mono ?_; rintro e w3 ⟨rfl, hbl⟩))
          have HB3 : Hid (Below w2.heap.size w2 w3) := hB.out.trans ((below_of_drew hbl).mono hB.out.size)
          clear hbl HH
          go_wp2
          go_roundw
          case rel => exact ⟨j + 1, r, cd.args.drop (j + 1), by go_num, hjn2, rfl, HZ2, hxr2, HFR, HA2, HB3⟩
          case measure => simp [intOf]; omega
end Go.Proofs.YtdilegbigaahnaaGreat
end

/- What is proved here: the model's l4Left counts a value's nodes down. Condition: the value lies in memory as said, and is small. -/
section
namespace Go.Proofs.YtdilegbigaahnaaGreat
open Go.RowKit

theorem left_step (q a b : Nat) : (left q a < 0 → left q (a + b) = -1) ∧ (0 ≤ left q a → left q (a + b) = left (left q a).toNat b) := by
  by_cases h : a ≤ q
  · rw [left_yes h]
    refine ⟨fun h => by omega, fun _ => ?_⟩
    rw [Int.toNat_natCast]
    unfold left
    split <;> split <;> omega
  · rw [left_no h]
    exact ⟨fun _ => left_no (by omega), fun h => by omega⟩

set_option maxHeartbeats 1000000 in
set_option maxRecDepth 100000 in
theorem spec_left : ∀ F : Trees, F.count ≤ 1048576 → ∀ (L : Nat), L ≤ 1048576 → ∀ (w : World) (k n : Int) (t : ByteArray) (p : Option Addr) (cap : Nat), TreesAt w F p 0 →
    Calls Tryz.prog 21 #[.agg #[.int .i64 k, .int .i64 n, .string t, .slice p F.length cap], .int .i64 (L : Int)] w fun e w' => e = .returned (.int .i64 (left L (1 + F.count))) ∧ Below w.heap.size w w' := by
  refine Trees.ind fun F hall hc L hL w k n t p cap hx => ?_
  have hlc := F.length_le_count
  have HALL := Lib.hid hall
  clear hall
  generalize hn : F.length = nn at *
  have HN := Lib.hid hn
  have hB0 : Below w.heap.size w (w.alloc (.cells #[.int .i64 k, .int .i64 n, .string t, .slice p nn cap] 37)) := (Below.refl _ _).alloc (Nat.le_refl _) _
  have HX := Lib.hid (hx.below hB0)
  have hc3 := (four_cells (heap_at_new w (.cells #[.int .i64 k, .int .i64 n, .string t, .slice p nn cap] 37))).2.2.2.1
  have HB0 := Lib.hid hB0
  have hz : ((L : Int) - 1 < 0 → left L (1 + F.count) = -1) ∧ (0 ≤ (L : Int) - 1 → left L (1 + F.count) = left ((L : Int) - 1).toNat F.count) := by
    refine ⟨fun h => left_no (by omega), fun h => ?_⟩
    unfold left
    split <;> split <;> omega
  have HZ := Lib.hid hz
  have hMb : -1 ≤ (L : Int) - 1 ∧ (L : Int) - 1 ≤ 1048576 := by omega
  generalize left L (1 + F.count) = z at *
  generalize hM : (L : Int) - 1 = M at *
  have HM := Lib.hid hM
  clear hM
  clear hn hz
  go_enter Tryz.func21, Tryz.ntmps21
  go_wp2
  generalize w.alloc (.cells #[.int .i64 k, .int .i64 n, .string t, .slice p nn cap] 37) = w0 at *
  have HC3 := Lib.hid hc3
  clear hB0 hx hc3
  go_loopw [1, 5] (fun l i wr => ∃ (j : Nat) (m : Int) (rest : Trees), i = .int .i64 j ∧ l = .int .i64 m ∧ (-1 ≤ m ∧ m ≤ 1048576) ∧ j + rest.length = nn ∧ Hid (rest.count ≤ 1048576) ∧ Hid ((m < 0 → z = -1) ∧ (0 ≤ m → z = left m.toNat rest.count)) ∧ Hid (TreesAt w0 rest p j) ∧ Hid (rest.All (fun G => G.count ≤ 1048576 → ∀ (L : Nat), L ≤ 1048576 → ∀ (w : World) (k n : Int) (t : ByteArray) (p : Option Addr) (cap : Nat), TreesAt w G p 0 →
    Calls Tryz.prog 21 #[.agg #[.int .i64 k, .int .i64 n, .string t, .slice p G.length cap], .int .i64 (L : Int)] w fun e w' => e = .returned (.int .i64 (left L (1 + G.count))) ∧ Below w.heap.size w w')) ∧ Hid (Below w0.heap.size w0 wr)) (fun _ i _ => nn - (intOf i).toNat)
  case atStart => exact ⟨0, M, F, rfl, by rw [HM.out], hMb, by rw [HN.out]; omega, hc, HZ, HX, HALL, Below.refl _ _⟩
  case round =>
    obtain ⟨j, m, rest, rfl, rfl, hm, hjn, hcr, hz, hxr, hall, hB⟩ := hrel
    have hb3 := cell_below HC3.out hB.out
    cases rest with
    | cons kd nu tx ar r =>
      have hjl : j < nn := by simp only [Trees.length] at hjn; omega
      have hjn2 : j + 1 + r.length = nn := by simp only [Trees.length] at hjn; omega
      by_cases hneg : m < 0
      · have HE : Hid (z = -1) := hz.out.1 hneg
        obtain rfl : m = -1 := by omega
        clear hz hxr hall hneg hm
        go_wp2
        go_ret
        exact ⟨by rw [HE.out]; rfl, HB0.out.trans (hB.out.mono HB0.out.size)⟩
      · obtain ⟨q, rfl⟩ : ∃ q : Nat, m = q := ⟨m.toNat, by omega⟩
        have hq : q ≤ 1048576 := by omega
        have hcr2 := hcr.out
        simp only [Trees.count] at hcr2
        have hz2 := hz.out.2 (by omega)
        rw [Int.toNat_natCast] at hz2
        obtain ⟨y, q2, cq, rfl, h1, h2, h3, h4, hs, hr⟩ := (hxr.out.below hB.out).open
        have hxr2 : Hid (TreesAt w0 r (some y) (j + 1)) := hxr.out.2
        have H := hall.out.1 (by omega) q hq wr kd nu tx q2 cq hs
        have HA2 := Lib.hid hall.out.2
        have HZ2 : Hid ((left q (1 + ar.count) < 0 → z = -1) ∧ (0 ≤ left q (1 + ar.count) → z = left (left q (1 + ar.count)).toNat r.count)) := by
          unfold Hid
          rw [hz2]
          exact left_step q (1 + ar.count) r.count
        have hlr : -1 ≤ left q (1 + ar.count) ∧ left q (1 + ar.count) ≤ 1048576 := by unfold left; split <;> omega
        have HCR : Hid (r.count ≤ 1048576) := by unfold Hid; omega
        generalize left q (1 + ar.count) = d at *
        clear hxr hall hs hr hjn hz hz2 hm hneg hcr hcr2
        go_wp2_with fail
        refine H.mono ?_
        rintro e w1 ⟨rfl, hb1⟩
        have HB1 : Hid (Below w0.heap.size w0 w1) := hB.out.trans (hb1.mono hB.out.size)
        clear hb1 H
        go_wp2
        go_roundw
        case rel => exact ⟨j + 1, d, r, by go_num, rfl, hlr, hjn2, HCR, HZ2, hxr2, HA2, HB1⟩
        case measure => simp [intOf]; omega
    | nil =>
      obtain rfl : j = nn := by simp only [Trees.length] at hjn; omega
      have HE : Hid (z = m) := by
        unfold Hid
        by_cases h : m < 0
        · rw [hz.out.1 h]; omega
        · rw [hz.out.2 (by omega)]
          rw [show (Trees.nil).count = 0 from rfl, left_yes (Nat.zero_le _)]
          omega
      clear hxr hall hz
      go_wp2
      go_ret
      exact ⟨by rw [HE.out]; rfl, HB0.out.trans (hB.out.mono HB0.out.size)⟩
end Go.Proofs.YtdilegbigaahnaaGreat
end

/- What is proved here: the model's DepthOfValue counts the depth of a value. Condition: the value lies in memory as said, and is small. -/
section
namespace Go.Proofs.YtdilegbigaahnaaGreat
open Go.RowKit

theorem spec_max (a b : Nat) (w : World) :
    Calls Tryz.prog 42 #[.int .i64 (a : Int), .int .i64 (b : Int)] w fun e w' => e = .returned (.int .i64 ((max a b : Nat) : Int)) ∧ w' = w := by
  by_cases h : b < a
  · rw [Nat.max_eq_left (by omega)]
    go_enter Tryz.func42, Tryz.ntmps42
    go_wp2
    go_ret
    exact ⟨rfl, rfl⟩
  · rw [Nat.max_eq_right (by omega)]
    go_enter Tryz.func42, Tryz.ntmps42
    go_wp2
    go_ret
    exact ⟨rfl, rfl⟩

set_option maxHeartbeats 1000000 in
set_option maxRecDepth 100000 in
theorem spec_depth : ∀ F : Trees, F.count ≤ 1048576 → ∀ (w : World) (k n : Int) (t : ByteArray) (p : Option Addr) (cap : Nat), TreesAt w F p 0 →
    Calls Tryz.prog 22 #[.agg #[.int .i64 k, .int .i64 n, .string t, .slice p F.length cap]] w fun e w' => e = .returned (.int .i64 ((F.deep + 1 : Nat) : Int)) ∧ Below w.heap.size w w' := by
  refine Trees.ind fun F hall hc w k n t p cap hx => ?_
  have hlc := F.length_le_count
  have hdc := F.deep_le_count
  have HALL := Lib.hid hall
  clear hall
  generalize hz : F.deep = z at *
  have HZ : Hid (F.deep = z) := hz
  have hzb : z ≤ 1048577 := by omega
  have HCC := Lib.hid hc
  generalize hn : F.length = nn at *
  have HN := Lib.hid hn
  clear hn hz hdc
  have hB0 : Below w.heap.size w (w.alloc (.cells #[.int .i64 k, .int .i64 n, .string t, .slice p nn cap] 37)) := (Below.refl _ _).alloc (Nat.le_refl _) _
  have HX := Lib.hid (hx.below hB0)
  have hc3 := (four_cells (heap_at_new w (.cells #[.int .i64 k, .int .i64 n, .string t, .slice p nn cap] 37))).2.2.2.1
  go_enter Tryz.func22, Tryz.ntmps22
  go_wp2
  generalize w.alloc (.cells #[.int .i64 k, .int .i64 n, .string t, .slice p nn cap] 37) = w0 at *
  have HB0 := Lib.hid hB0
  have HC3 := Lib.hid hc3
  clear hB0 hx hc3
  go_loopw [3, 4] (fun s i wr => ∃ (j c : Nat) (rest : Trees), i = .int .i64 j ∧ s = .int .i64 c ∧ c ≤ z ∧ j + rest.length = nn ∧ Hid (max c rest.deep = z) ∧ Hid (rest.count ≤ 1048576) ∧ Hid (TreesAt w0 rest p j) ∧ Hid (rest.All (fun G => G.count ≤ 1048576 → ∀ (w : World) (k n : Int) (t : ByteArray) (p : Option Addr) (cap : Nat), TreesAt w G p 0 →
    Calls Tryz.prog 22 #[.agg #[.int .i64 k, .int .i64 n, .string t, .slice p G.length cap]] w fun e w' => e = .returned (.int .i64 ((G.deep + 1 : Nat) : Int)) ∧ Below w.heap.size w w')) ∧ Hid (Below w0.heap.size w0 wr)) (fun _ i _ => nn - (intOf i).toNat)
  case atStart => exact ⟨0, 0, F, rfl, rfl, Nat.zero_le _, by rw [HN.out]; omega, by unfold Hid; rw [HZ.out]; omega, HCC, HX, HALL, Below.refl _ _⟩
  case round =>
    obtain ⟨j, c, rest, rfl, rfl, hcl, hjn, hcz, hcr, hxr, hall, hB⟩ := hrel
    have hb3 := cell_below HC3.out hB.out
    cases rest with
    | cons kd nu tx ar r =>
      have hjl : j < nn := by simp only [Trees.length] at hjn; omega
      have hjn2 : j + 1 + r.length = nn := by simp only [Trees.length] at hjn; omega
      have hcz2 := hcz.out
      have hcr2 := hcr.out
      simp only [Trees.deep] at hcz2
      simp only [Trees.count] at hcr2
      obtain ⟨y, q, cq, rfl, h1, h2, h3, h4, hs, hr⟩ := (hxr.out.below hB.out).open
      have hxr2 : Hid (TreesAt w0 r (some y) (j + 1)) := hxr.out.2
      have H := hall.out.1 (by omega) wr kd nu tx q cq hs
      have HA2 := Lib.hid hall.out.2
      have HCR : Hid (r.count ≤ 1048576) := by unfold Hid; omega
      generalize ar.deep + 1 = d at *
      have HCZ : Hid (max (max c d) r.deep = z) := by unfold Hid; omega
      have hcl2 : max c d ≤ z := by omega
      have HM := spec_max c d
      clear hxr hall hs hr hjn hcz hcr hcz2 hcr2
      generalize max c d = m at *
      go_wp2_with fail
      refine H.mono ?_
      rintro e w1 ⟨rfl, hb1⟩
      have HB1 : Hid (Below w0.heap.size w0 w1) := hB.out.trans (hb1.mono hB.out.size)
      clear hb1 H
      go_wp2_with fail
      refine (HM w1).mono ?_
      rintro e w2 ⟨rfl, rfl⟩
      clear HM
      go_wp2
      go_roundw
      case rel => exact ⟨j + 1, m, r, by go_num, rfl, hcl2, hjn2, HCZ, HCR, hxr2, HA2, HB1⟩
      case measure => simp [intOf]; omega
    | nil =>
      obtain rfl : j = nn := by simp only [Trees.length] at hjn; omega
      obtain rfl : c = z := by have := hcz.out; simp only [Trees.deep] at this; omega
      clear hxr hall
      go_wp2
      go_ret
      exact ⟨rfl, HB0.out.trans (hB.out.mono HB0.out.size)⟩
end Go.Proofs.YtdilegbigaahnaaGreat
end

/- What is proved here: the model's l3Good (package spec) says whether a declaration is good by itself. Condition: it lies in memory as said, and is small. -/
section
namespace Go.Proofs.YtdilegbigaahnaaGreat
open Go.RowKit

set_option maxHeartbeats 4000000 in
set_option maxRecDepth 100000 in
theorem spec_good (w : World) (a : Option Addr) (cap : Nat) (s : List TypeD) (t : TypeD) (u v : Value) (hx : Row2 TypeAt w a s) (hm : s.length ≤ 1048576) (hs : ∀ c ∈ s, c.cons.length ≤ 1048576 ∧ ∀ d ∈ c.cons, d.args.length ≤ 1048576) (ht : TypeAt w t u v) (hf : t.fits) (hl : t.cons.length ≤ 1048576) (hl2 : ∀ d ∈ t.cons, d.args.length ≤ 1048576) :
    Calls Tryz.prog 39 #[.agg #[.slice a s.length cap], .agg #[u, v]] w fun e w' => e = .returned (.bool (bl (GoodT s t))) ∧ Below w.heap.size w w' := by
  obtain ⟨a2, cap2, rfl, rfl, hr⟩ := ht
  obtain ⟨w2, h2⟩ : ∃ w2, w2 = (w.alloc (.cells #[.slice a s.length cap] 33)).alloc (.cells #[.string t.name, .slice a2 t.cons.length cap2] 71) := ⟨_, rfl⟩
  have h := two_alloc w (.cells #[.slice a s.length cap] 33) (.cells #[.string t.name, .slice a2 t.cons.length cap2] 71)
  rw [← h2] at h
  obtain ⟨hsz, hp0, hp1, hB⟩ := h
  have HX := Lib.hid hx
  have HS := Lib.hid hs
  have HR := Lib.hid (row2_below con_below hr hB)
  have HB := Lib.hid hB
  have H2 := Lib.hid h2
  have HF := Lib.hid hf.2.2
  have HFN := Lib.hid hf.1
  have HL := Lib.hid hl2
  have HC0 := Lib.hid (one_cell hp0).1
  have HC1 := Lib.hid (two_cells hp1).1
  have HC2 := Lib.hid (two_cells hp1).2.1
  clear hx hr hB h2 hsz hp0 hp1 hf hl2 hs
  generalize hn : t.cons.length = n at *
  have HN := Lib.hid hn
  clear hn
  go_enter Tryz.func39, Tryz.ntmps39
  go_wp2
  rw [← H2.out]
  go_loopw [5] (fun i wr => ∃ (k : Nat), k ≤ n ∧ i = .int .i64 k ∧ Hid (Below w2.heap.size w2 wr) ∧ Hid (∀ (j : Nat) y, j < k → t.cons[j]? = some y → GoodC s y)) (fun i _ => n - (intOf i).toNat)
  case atStart => exact ⟨0, Nat.zero_le _, rfl, Below.refl _ _, fun j _ h => by omega⟩
  case round =>
    obtain ⟨k, hk, rfl, hBR, hne⟩ := hrel
    have c1 := cell_below HC1.out hBR.out
    have c2 := cell_below HC2.out hBR.out
    by_cases hlt : k < n
    · have hk' : k < t.cons.length := by rw [HN.out]; exact hlt
      have hltz : (k : Int) < (n : Int) := by omega
      obtain ⟨y, u1, v1, rfl, hc0, hc1, hr1⟩ := row2_below con_below HR.out hBR.out k hk'
      have hx : t.cons[k]? = some t.cons[k] := List.getElem?_eq_getElem hk'
      have hfx := HF.out _ (List.getElem_mem hk')
      have hlx := HL.out _ (List.getElem_mem hk')
      generalize t.cons[k] = c at hx hr1 hfx hlx
      have HXE := Lib.hid hx
      obtain ⟨ca, cc, hu, hv, hra⟩ := hr1
      subst hu
      subst hv
      have hbD : Below wr.heap.size wr (wr.alloc (.cells #[.string c.name, .slice ca c.args.length cc] 73)) := (Below.refl _ _).alloc (Nat.le_refl _) _
      have HBD : Hid (Below w2.heap.size w2 (wr.alloc (.cells #[.string c.name, .slice ca c.args.length cc] 73))) := hBR.out.trans (hbD.mono hBR.out.size)
      have HRA := Lib.hid (reads_below hra hbD)
      obtain ⟨e1, e2, _, _⟩ := two_cells (heap_at_new wr (.cells #[.string c.name, .slice ca c.args.length cc] 73))
      have hK := spec_con c.name hfx.1 (wr.alloc (.cells #[.string c.name, .slice ca c.args.length cc] 73))
      clear hx hra hbD hfx
      generalize hm2 : c.args.length = m at *
      have HM := Lib.hid hm2
      clear hm2
      by_cases hw : Word 65 90 c.name
      · rw [bl_true hw] at hK
        have HW := Lib.hid hw
        clear hw
        by_cases h3 : m ≤ 3
        · have h3' : ¬ (3 : Int) < (m : Int) := by omega
          go_wp2_with fail
          generalize wr.alloc (.cells #[.string c.name, .slice ca m cc] 73) = w4 at *
          generalize wr.heap.size = nd at *
          refine hK.mono ?_
          rintro e w5 ⟨rfl, hb5⟩
          have f2 := cell_below e2 hb5
          have HF2 := Lib.hid f2
          have HB5 : Hid (Below w2.heap.size w2 w5) := HBD.out.trans (hb5.mono HBD.out.size)
          have HR5 := Lib.hid (reads_below HRA.out hb5)
          clear hb5 hK e1 e2 c1 c2 hc0 hc1
          go_wp2
          clear f2
          go_loopw [7] (fun i wr => ∃ (q : Nat), q ≤ m ∧ i = .int .i64 q ∧ Hid (Below w5.heap.size w5 wr) ∧ Hid (∀ (j : Nat) y, j < q → c.args[j]? = some y → isTypeB s y = true)) (fun i _ => m - (intOf i).toNat)
          case atStart => exact ⟨0, Nat.zero_le _, rfl, Below.refl _ _, fun j _ h => by omega⟩
          case round =>
            obtain ⟨q, hq, rfl, hBI, hne2⟩ := hrel
            have f2 := cell_below HF2.out hBI.out
            have HBQ : Hid (Below w2.heap.size w2 wr) := HB5.out.trans (hBI.out.mono HB5.out.size)
            have f0 := cell_below HC0.out HBQ.out
            by_cases hlt2 : q < m
            · have hq' : q < c.args.length := by rw [HM.out]; exact hlt2
              have hltz2 : (q : Int) < (m : Int) := by omega
              obtain ⟨y2, rfl, hd⟩ := reads_below HR5.out hBI.out q hq'
              have hx2 : c.args[q]? = some c.args[q] := List.getElem?_eq_getElem hq'
              generalize c.args[q] = x at hx2 hd
              have HX2 := Lib.hid hx2
              clear hx2
              have H := spec_isType wr.drew a cap s x (row2_below type_below HX.out (HB.out.trans (HBQ.out.mono HB.out.size)).drew) hm HS.out
              cases hb : isTypeB s x with
              | true =>
                rw [hb] at H
                have HBB := Lib.hid hb
                clear hb
                go_wp2
                go_region_held3 (fun w' => w'.cell? ⟨w.heap.size, 0, none⟩ = some (.slice a s.length cap) ∧ w'.cell? ⟨nd, 1, none⟩ = some (.slice (some y2) m cc) ∧ w'.cell? (y2.add q) = some (.string x))
                  (first
                    | go_keep
                    | exact ⟨cell_below (w := wr.drew) f0 hb6, cell_below (w := wr.drew) f2 hb6, cell_below (w := wr.drew) hd hb6⟩)
                  (first
                    | (go_at_call 31; refine H.mono ?_; rintro e w6 ⟨rfl, hb6⟩))
                have HB6 : Hid (Below w5.heap.size w5 w6) := hBI.out.trans ((below_of_drew hb6).mono hBI.out.size)
                clear hb6 H
                go_wp2
                go_roundw
                case rel => exact ⟨q + 1, by omega, by go_num, HB6, before_succ' (p := fun y => isTypeB s y = true) hne2.out HX2.out HBB.out⟩
                case measure => simp [intOf]; omega
              | false =>
                rw [hb] at H
                have HRES : Hid (bl (GoodT s t) = false) := bl_false (fun h => by
                  obtain ⟨h4, h5⟩ := List.getElem?_eq_some_iff.1 HXE.out
                  obtain ⟨h6, h7⟩ := List.getElem?_eq_some_iff.1 HX2.out
                  have := (h.2.2.2 c (h5 ▸ List.getElem_mem h4)).2.2 x (h7 ▸ List.getElem_mem h6)
                  rw [hb] at this
                  cases this)
                clear hb
                go_wp2
                go_region_held3 (fun w' => w'.cell? ⟨w.heap.size, 0, none⟩ = some (.slice a s.length cap) ∧ w'.cell? ⟨nd, 1, none⟩ = some (.slice (some y2) m cc) ∧ w'.cell? (y2.add q) = some (.string x))
                  (first
                    | go_keep
                    | exact ⟨cell_below (w := wr.drew) f0 hb6, cell_below (w := wr.drew) f2 hb6, cell_below (w := wr.drew) hd hb6⟩)
                  (first
                    | (go_at_call 31; refine H.mono ?_; rintro e w6 ⟨rfl, hb6⟩))
                have HB6 : Hid (Below w2.heap.size w2 w6) := HBQ.out.trans ((below_of_drew hb6).mono HBQ.out.size)
                clear hb6 H
                go_wp2
                go_ret
                exact ⟨by rw [HRES.out]; rfl, HB.out.trans (HB6.out.mono HB.out.size)⟩
            · have HG : Hid (GoodC s c) := ⟨HW.out, by rw [HM.out]; exact h3, all_of_index (fun j y hj hy => hne2.out j y (by have := HM.out; omega) hy)⟩
              go_wp2
              go_roundw
              case rel => exact ⟨k + 1, by omega, by go_num, HBQ, before_succ' hne.out HXE.out HG.out⟩
              case measure => simp [intOf]; omega
        · have h3' : (3 : Int) < (m : Int) := by omega
          have HRES : Hid (bl (GoodT s t) = false) := bl_false (fun h => by
            obtain ⟨h4, h5⟩ := List.getElem?_eq_some_iff.1 HXE.out
            have := (h.2.2.2 c (h5 ▸ List.getElem_mem h4)).2.1
            have := HM.out
            omega)
          go_wp2_with fail
          generalize wr.alloc (.cells #[.string c.name, .slice ca m cc] 73) = w4 at *
          refine hK.mono ?_
          rintro e w5 ⟨rfl, hb5⟩
          have f2 := cell_below e2 hb5
          have HB5 : Hid (Below w2.heap.size w2 w5) := HBD.out.trans (hb5.mono HBD.out.size)
          clear hb5 hK e1 e2 c1 c2 hc0 hc1
          go_wp2
          go_ret
          exact ⟨by rw [HRES.out]; rfl, HB.out.trans (HB5.out.mono HB.out.size)⟩
      · rw [bl_false hw] at hK
        have HRES : Hid (bl (GoodT s t) = false) := bl_false (fun h => by
          obtain ⟨h4, h5⟩ := List.getElem?_eq_some_iff.1 HXE.out
          exact hw (h.2.2.2 c (h5 ▸ List.getElem_mem h4)).1)
        clear hw
        go_wp2_with fail
        generalize wr.alloc (.cells #[.string c.name, .slice ca m cc] 73) = w4 at *
        refine hK.mono ?_
        rintro e w5 ⟨rfl, hb5⟩
        have HB5 : Hid (Below w2.heap.size w2 w5) := HBD.out.trans (hb5.mono HBD.out.size)
        clear hb5 hK e1 e2 c1 c2 hc0 hc1
        go_wp2
        go_ret
        exact ⟨by rw [HRES.out]; rfl, HB.out.trans (HB5.out.mono HB.out.size)⟩
    · have HAL : Hid (∀ c ∈ t.cons, GoodC s c) := all_of_index (fun j y hj hy => hne.out j y (by have := HN.out; omega) hy)
      have hK := spec_name t.name HFN.out wr
      by_cases hw : Name t.name
      · rw [bl_true hw] at hK
        have HRES : Hid (bl (GoodT s t) = bl (1 ≤ n ∧ n ≤ 5)) := bl_congr ⟨fun h => by have := h.2.1; have := h.2.2.1; have := HN.out; omega, fun h => ⟨hw, by have := HN.out; omega, by have := HN.out; omega, HAL.out⟩⟩
        clear hw
        have hI := fun w => spec_in n 1 5 w
        go_wp2_with fail
        refine hK.mono ?_
        rintro e w5 ⟨rfl, hb5⟩
        have f2 := cell_below c2 hb5
        have HB5 : Hid (Below w2.heap.size w2 w5) := hBR.out.trans (hb5.mono hBR.out.size)
        clear hb5 hK c1 c2
        go_wp2_with fail
        refine (hI w5).mono ?_
        rintro e w6 ⟨rfl, rfl⟩
        generalize bl (1 ≤ n ∧ n ≤ 5) = q at *
        go_wp2
        go_ret
        exact ⟨by rw [HRES.out]; rfl, HB.out.trans (HB5.out.mono HB.out.size)⟩
      · rw [bl_false hw] at hK
        have HRES : Hid (bl (GoodT s t) = false) := bl_false (fun h => hw h.1)
        clear hw
        go_wp2_with fail
        refine hK.mono ?_
        rintro e w5 ⟨rfl, hb5⟩
        have HB5 : Hid (Below w2.heap.size w2 w5) := hBR.out.trans (hb5.mono hBR.out.size)
        clear hb5 hK c1 c2
        go_wp2
        go_ret
        exact ⟨by rw [HRES.out]; rfl, HB.out.trans (HB5.out.mono HB.out.size)⟩
end Go.Proofs.YtdilegbigaahnaaGreat
end
