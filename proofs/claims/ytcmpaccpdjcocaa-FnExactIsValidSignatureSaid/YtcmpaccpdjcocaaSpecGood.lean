/- What is proved here: the model's l3Good (package spec) says whether a declaration is good by itself. Condition: it lies in memory as said, and is small. -/
import Derived.Test.YtcmpaccpdjcocaaValidCon
import Derived.Deep.RegionHeld3
namespace Go.Proofs.Ytcmpaccpdjcocaa
open Go.RowKit

set_option maxHeartbeats 4000000 in
set_option maxRecDepth 100000 in
theorem spec_good (w : World) (a : Option Addr) (cap : Nat) (s : List TypeD) (t : TypeD) (u v : Value) (hx : Row2 TypeAt w a s) (hm : s.length ≤ 1048576) (hs : ∀ c ∈ s, c.cons.length ≤ 1048576 ∧ ∀ d ∈ c.cons, d.args.length ≤ 1048576) (ht : TypeAt w t u v) (hf : t.fits) (hl : t.cons.length ≤ 1048576) (hl2 : ∀ d ∈ t.cons, d.args.length ≤ 1048576) :
    Calls Try.prog 42 #[.agg #[.slice a s.length cap], .agg #[u, v]] w fun e w' => e = .returned (.bool (bl (GoodT s t))) ∧ Below w.heap.size w w' := by
  obtain ⟨a2, cap2, rfl, rfl, hr⟩ := ht
  obtain ⟨w2, h2⟩ : ∃ w2, w2 = (w.alloc (.cells #[.slice a s.length cap] 33)).alloc (.cells #[.string t.name, .slice a2 t.cons.length cap2] 28) := ⟨_, rfl⟩
  have h := two_alloc w (.cells #[.slice a s.length cap] 33) (.cells #[.string t.name, .slice a2 t.cons.length cap2] 28)
  rw [← h2] at h
  obtain ⟨hsz, hp0, hp1, hB⟩ := h
  have HX := Lib.hid hx
  have HS := Lib.hid hs
  have HR := Lib.hid (row2_below con_below hr hB)
  have HB := Lib.hid hB
  have H2 := Lib.hid h2
  have HF := Lib.hid hf.2.2
  have HFN := Lib.hid hf.1
  have HL := Lib.hid hl2
  have HC0 := Lib.hid (one_cell hp0).1
  have HC1 := Lib.hid (two_cells hp1).1
  have HC2 := Lib.hid (two_cells hp1).2.1
  clear hx hr hB h2 hsz hp0 hp1 hf hl2 hs
  generalize hn : t.cons.length = n at *
  have HN := Lib.hid hn
  clear hn
  go_enter Try.func42, Try.ntmps42
  go_wp2
  rw [← H2.out]
  go_loopw [5] (fun i wr => ∃ (k : Nat), k ≤ n ∧ i = .int .i64 k ∧ Hid (Below w2.heap.size w2 wr) ∧ Hid (∀ (j : Nat) y, j < k → t.cons[j]? = some y → GoodC s y)) (fun i _ => n - (intOf i).toNat)
  case atStart => exact ⟨0, Nat.zero_le _, rfl, Below.refl _ _, fun j _ h => by omega⟩
  case round =>
    obtain ⟨k, hk, rfl, hBR, hne⟩ := hrel
    have c1 := cell_below HC1.out hBR.out
    have c2 := cell_below HC2.out hBR.out
    by_cases hlt : k < n
    · have hk' : k < t.cons.length := by rw [HN.out]; exact hlt
      have hltz : (k : Int) < (n : Int) := by omega
      obtain ⟨y, u1, v1, rfl, hc0, hc1, hr1⟩ := row2_below con_below HR.out hBR.out k hk'
      have hx : t.cons[k]? = some t.cons[k] := List.getElem?_eq_getElem hk'
      have hfx := HF.out _ (List.getElem_mem hk')
      have hlx := HL.out _ (List.getElem_mem hk')
      generalize t.cons[k] = c at hx hr1 hfx hlx
      have HXE := Lib.hid hx
      obtain ⟨ca, cc, hu, hv, hra⟩ := hr1
      subst hu
      subst hv
      have hbD : Below wr.heap.size wr (wr.alloc (.cells #[.string c.name, .slice ca c.args.length cc] 42)) := (Below.refl _ _).alloc (Nat.le_refl _) _
      have HBD : Hid (Below w2.heap.size w2 (wr.alloc (.cells #[.string c.name, .slice ca c.args.length cc] 42))) := hBR.out.trans (hbD.mono hBR.out.size)
      have HRA := Lib.hid (reads_below hra hbD)
      obtain ⟨e1, e2, _, _⟩ := two_cells (heap_at_new wr (.cells #[.string c.name, .slice ca c.args.length cc] 42))
      have hK := spec_con c.name hfx.1 (wr.alloc (.cells #[.string c.name, .slice ca c.args.length cc] 42))
      clear hx hra hbD hfx
      generalize hm2 : c.args.length = m at *
      have HM := Lib.hid hm2
      clear hm2
      by_cases hw : Word 65 90 c.name
      · rw [bl_true hw] at hK
        have HW := Lib.hid hw
        clear hw
        by_cases h3 : m ≤ 3
        · have h3' : ¬ (3 : Int) < (m : Int) := by omega
          go_wp2_with fail
          generalize wr.alloc (.cells #[.string c.name, .slice ca m cc] 42) = w4 at *
          generalize wr.heap.size = nd at *
          refine hK.mono ?_
          rintro e w5 ⟨rfl, hb5⟩
          have f2 := cell_below e2 hb5
          have HF2 := Lib.hid f2
          have HB5 : Hid (Below w2.heap.size w2 w5) := HBD.out.trans (hb5.mono HBD.out.size)
          have HR5 := Lib.hid (reads_below HRA.out hb5)
          clear hb5 hK e1 e2 c1 c2 hc0 hc1
          go_wp2
          clear f2
          go_loopw [7] (fun i wr => ∃ (q : Nat), q ≤ m ∧ i = .int .i64 q ∧ Hid (Below w5.heap.size w5 wr) ∧ Hid (∀ (j : Nat) y, j < q → c.args[j]? = some y → isTypeB s y = true)) (fun i _ => m - (intOf i).toNat)
          case atStart => exact ⟨0, Nat.zero_le _, rfl, Below.refl _ _, fun j _ h => by omega⟩
          case round =>
            obtain ⟨q, hq, rfl, hBI, hne2⟩ := hrel
            have f2 := cell_below HF2.out hBI.out
            have HBQ : Hid (Below w2.heap.size w2 wr) := HB5.out.trans (hBI.out.mono HB5.out.size)
            have f0 := cell_below HC0.out HBQ.out
            by_cases hlt2 : q < m
            · have hq' : q < c.args.length := by rw [HM.out]; exact hlt2
              have hltz2 : (q : Int) < (m : Int) := by omega
              obtain ⟨y2, rfl, hd⟩ := reads_below HR5.out hBI.out q hq'
              have hx2 : c.args[q]? = some c.args[q] := List.getElem?_eq_getElem hq'
              generalize c.args[q] = x at hx2 hd
              have HX2 := Lib.hid hx2
              clear hx2
              have H := spec_isType wr.drew a cap s x (row2_below type_below HX.out (HB.out.trans (HBQ.out.mono HB.out.size)).drew) hm HS.out
              cases hb : isTypeB s x with
              | true =>
                rw [hb] at H
                have HBB := Lib.hid hb
                clear hb
                go_wp2
                go_region_held3 (fun w' => w'.cell? ⟨w.heap.size, 0, none⟩ = some (.slice a s.length cap) ∧ w'.cell? ⟨nd, 1, none⟩ = some (.slice (some y2) m cc) ∧ w'.cell? (y2.add q) = some (.string x))
                  (first
                    | go_keep
                    | exact ⟨cell_below (w := wr.drew) f0 hb6, cell_below (w := wr.drew) f2 hb6, cell_below (w := wr.drew) hd hb6⟩)
                  (first
                    | (go_at_call 21; refine H.mono ?_; rintro e w6 ⟨rfl, hb6⟩))
                have HB6 : Hid (Below w5.heap.size w5 w6) := hBI.out.trans ((below_of_drew hb6).mono hBI.out.size)
                clear hb6 H
                go_wp2
                go_roundw
                case rel => exact ⟨q + 1, by omega, by go_num, HB6, before_succ' (p := fun y => isTypeB s y = true) hne2.out HX2.out HBB.out⟩
                case measure => simp [intOf]; omega
              | false =>
                rw [hb] at H
                have HRES : Hid (bl (GoodT s t) = false) := bl_false (fun h => by
                  obtain ⟨h4, h5⟩ := List.getElem?_eq_some_iff.1 HXE.out
                  obtain ⟨h6, h7⟩ := List.getElem?_eq_some_iff.1 HX2.out
                  have := (h.2.2.2 c (h5 ▸ List.getElem_mem h4)).2.2 x (h7 ▸ List.getElem_mem h6)
                  rw [hb] at this
                  cases this)
                clear hb
                go_wp2
                go_region_held3 (fun w' => w'.cell? ⟨w.heap.size, 0, none⟩ = some (.slice a s.length cap) ∧ w'.cell? ⟨nd, 1, none⟩ = some (.slice (some y2) m cc) ∧ w'.cell? (y2.add q) = some (.string x))
                  (first
                    | go_keep
                    | exact ⟨cell_below (w := wr.drew) f0 hb6, cell_below (w := wr.drew) f2 hb6, cell_below (w := wr.drew) hd hb6⟩)
                  (first
                    | (go_at_call 21; refine H.mono ?_; rintro e w6 ⟨rfl, hb6⟩))
                have HB6 : Hid (Below w2.heap.size w2 w6) := HBQ.out.trans ((below_of_drew hb6).mono HBQ.out.size)
                clear hb6 H
                go_wp2
                go_ret
                exact ⟨by rw [HRES.out]; rfl, HB.out.trans (HB6.out.mono HB.out.size)⟩
            · have HG : Hid (GoodC s c) := ⟨HW.out, by rw [HM.out]; exact h3, all_of_index (fun j y hj hy => hne2.out j y (by have := HM.out; omega) hy)⟩
              go_wp2
              go_roundw
              case rel => exact ⟨k + 1, by omega, by go_num, HBQ, before_succ' hne.out HXE.out HG.out⟩
              case measure => simp [intOf]; omega
        · have h3' : (3 : Int) < (m : Int) := by omega
          have HRES : Hid (bl (GoodT s t) = false) := bl_false (fun h => by
            obtain ⟨h4, h5⟩ := List.getElem?_eq_some_iff.1 HXE.out
            have := (h.2.2.2 c (h5 ▸ List.getElem_mem h4)).2.1
            have := HM.out
            omega)
          go_wp2_with fail
          generalize wr.alloc (.cells #[.string c.name, .slice ca m cc] 42) = w4 at *
          refine hK.mono ?_
          rintro e w5 ⟨rfl, hb5⟩
          have f2 := cell_below e2 hb5
          have HB5 : Hid (Below w2.heap.size w2 w5) := HBD.out.trans (hb5.mono HBD.out.size)
          clear hb5 hK e1 e2 c1 c2 hc0 hc1
          go_wp2
          go_ret
          exact ⟨by rw [HRES.out]; rfl, HB.out.trans (HB5.out.mono HB.out.size)⟩
      · rw [bl_false hw] at hK
        have HRES : Hid (bl (GoodT s t) = false) := bl_false (fun h => by
          obtain ⟨h4, h5⟩ := List.getElem?_eq_some_iff.1 HXE.out
          exact hw (h.2.2.2 c (h5 ▸ List.getElem_mem h4)).1)
        clear hw
        go_wp2_with fail
        generalize wr.alloc (.cells #[.string c.name, .slice ca m cc] 42) = w4 at *
        refine hK.mono ?_
        rintro e w5 ⟨rfl, hb5⟩
        have HB5 : Hid (Below w2.heap.size w2 w5) := HBD.out.trans (hb5.mono HBD.out.size)
        clear hb5 hK e1 e2 c1 c2 hc0 hc1
        go_wp2
        go_ret
        exact ⟨by rw [HRES.out]; rfl, HB.out.trans (HB5.out.mono HB.out.size)⟩
    · have HAL : Hid (∀ c ∈ t.cons, GoodC s c) := all_of_index (fun j y hj hy => hne.out j y (by have := HN.out; omega) hy)
      have hK := spec_name t.name HFN.out wr
      by_cases hw : Name t.name
      · rw [bl_true hw] at hK
        have HRES : Hid (bl (GoodT s t) = bl (1 ≤ n ∧ n ≤ 5)) := bl_congr ⟨fun h => by have := h.2.1; have := h.2.2.1; have := HN.out; omega, fun h => ⟨hw, by have := HN.out; omega, by have := HN.out; omega, HAL.out⟩⟩
        clear hw
        have hI := fun w => spec_in n 1 5 w
        go_wp2_with fail
        refine hK.mono ?_
        rintro e w5 ⟨rfl, hb5⟩
        have f2 := cell_below c2 hb5
        have HB5 : Hid (Below w2.heap.size w2 w5) := hBR.out.trans (hb5.mono hBR.out.size)
        clear hb5 hK c1 c2
        go_wp2_with fail
        refine (hI w5).mono ?_
        rintro e w6 ⟨rfl, rfl⟩
        generalize bl (1 ≤ n ∧ n ≤ 5) = q at *
        go_wp2
        go_ret
        exact ⟨by rw [HRES.out]; rfl, HB.out.trans (HB5.out.mono HB.out.size)⟩
      · rw [bl_false hw] at hK
        have HRES : Hid (bl (GoodT s t) = false) := bl_false (fun h => hw h.1)
        clear hw
        go_wp2_with fail
        refine hK.mono ?_
        rintro e w5 ⟨rfl, hb5⟩
        have HB5 : Hid (Below w2.heap.size w2 w5) := hBR.out.trans (hb5.mono hBR.out.size)
        clear hb5 hK c1 c2
        go_wp2
        go_ret
        exact ⟨by rw [HRES.out]; rfl, HB.out.trans (HB5.out.mono HB.out.size)⟩
end Go.Proofs.Ytcmpaccpdjcocaa
