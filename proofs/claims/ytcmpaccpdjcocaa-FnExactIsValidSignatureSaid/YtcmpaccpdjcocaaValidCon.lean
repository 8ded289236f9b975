/- What is proved here: the program's tests on one declaration (isValidCon, isValidType) say whether it is good by itself. Condition: it lies in memory as said, and is small. -/
import Derived.Test.YtcmpaccpdjcocaaImplIsType
import Derived.Test.YtcmpaccpdjcocaaInhab
import Derived.Test.YtcmpaccpdjcocaaNames
namespace Go.Proofs.Ytcmpaccpdjcocaa
open Go.RowKit

/-- A constructor, a type that is good by itself. -/
def GoodC (s : List TypeD) (c : ConD) : Prop := Word 65 90 c.name ∧ c.args.length ≤ 3 ∧ ∀ a ∈ c.args, isTypeB s a = true
def GoodT (s : List TypeD) (t : TypeD) : Prop := Name t.name ∧ 1 ≤ t.cons.length ∧ t.cons.length ≤ 5 ∧ ∀ c ∈ t.cons, GoodC s c

theorem all_of_index {α : Type} {p : α → Prop} {l : List α} (h : ∀ (j : Nat) y, j < l.length → l[j]? = some y → p y) : ∀ x ∈ l, p x := by
  intro x hx
  obtain ⟨j, hj, e⟩ := List.mem_iff_getElem.1 hx
  exact h j x hj (by rw [List.getElem?_eq_getElem hj, e])

set_option maxHeartbeats 2000000 in
set_option maxRecDepth 100000 in
theorem impl_validCon (w : World) (a : Option Addr) (cap : Nat) (s : List TypeD) (c : ConD) (u v : Value) (hx : Row2 TypeAt w a s) (hm : s.length ≤ 1048576) (hc : ConAt w c u v) (hf : c.fits) (hl : c.args.length ≤ 1048576) :
    Calls Try.prog 59 #[.agg #[.slice a s.length cap], .agg #[u, v]] w fun e w' => e = .returned (.bool (bl (GoodC s c))) ∧ Below w.heap.size w w' := by
  obtain ⟨a2, cap2, rfl, rfl, hr⟩ := hc
  obtain ⟨w2, h2⟩ : ∃ w2, w2 = (w.alloc (.cells #[.slice a s.length cap] 33)).alloc (.cells #[.string c.name, .slice a2 c.args.length cap2] 42) := ⟨_, rfl⟩
  have h := two_alloc w (.cells #[.slice a s.length cap] 33) (.cells #[.string c.name, .slice a2 c.args.length cap2] 42)
  rw [← h2] at h
  obtain ⟨hsz, hp0, hp1, hB⟩ := h
  have HX := Lib.hid hx
  have HR := Lib.hid (reads_below hr hB)
  have HB := Lib.hid hB
  have H2 := Lib.hid h2
  obtain ⟨q0, _⟩ := one_cell hp0
  obtain ⟨q1, q2, _, _⟩ := two_cells hp1
  have hK := impl_con c.name hf.1 w2
  clear hx hr hB h2 hsz hp0 hp1 hf
  generalize hn : c.args.length = n at *
  have HN := Lib.hid hn
  clear hn
  by_cases hw : Word 65 90 c.name
  · rw [bl_true hw] at hK
    have HW := Lib.hid hw
    clear hw
    by_cases h3 : n ≤ 3
    · go_enter Try.func59, Try.ntmps59
      go_wp2_with fail
      rw [← H2.out]
      refine hK.mono ?_
      rintro e w3 ⟨rfl, hb3⟩
      have HB3 : Hid (Below w.heap.size w w3) := HB.out.trans (hb3.mono HB.out.size)
      have HR3 := Lib.hid (reads_below HR.out hb3)
      have c0 := cell_below q0 hb3
      have c1 := cell_below q1 hb3
      have c2 := cell_below q2 hb3
      have HC0 := Lib.hid c0
      clear hb3 hK q0 q1 q2
      go_wp2
      clear c0 c1 c2
      go_loopw [20] (fun i wr => ∃ (k : Nat), k ≤ n ∧ i = .int .i64 k ∧ Hid (Below w3.heap.size w3 wr) ∧ Hid (∀ (j : Nat) y, j < k → c.args[j]? = some y → isTypeB s y = true)) (fun i _ => n - (intOf i).toNat)
      case atStart => exact ⟨0, Nat.zero_le _, rfl, Below.refl _ _, fun j _ h => by omega⟩
      case round =>
        obtain ⟨k, hk, rfl, hBR, hne⟩ := hrel
        have c0 := cell_below HC0.out hBR.out
        by_cases hlt : k < n
        · have hk' : k < c.args.length := by rw [HN.out]; exact hlt
          have hltz : (k : Int) < (n : Int) := by omega
          obtain ⟨y, rfl, hc⟩ := reads_below HR3.out hBR.out k hk'
          have hx : c.args[k]? = some c.args[k] := List.getElem?_eq_getElem hk'
          generalize c.args[k] = x at hx hc
          have HXE := Lib.hid hx
          clear hx
          have H := impl_isType wr a cap s x (row2_below type_below HX.out (HB3.out.trans (hBR.out.mono HB3.out.size))) hm
          cases hb : isTypeB s x with
          | true =>
            rw [hb] at H
            have HBB := Lib.hid hb
            clear hb
            go_wp2_with fail
            refine H.mono ?_
            rintro e w4 ⟨rfl, hb4⟩
            have HB4 : Hid (Below w3.heap.size w3 w4) := hBR.out.trans (hb4.mono hBR.out.size)
            clear hb4 H
            go_wp2
            go_roundw
            case rel => exact ⟨k + 1, by omega, by go_num, HB4, before_succ' (p := fun y => isTypeB s y = true) hne.out HXE.out HBB.out⟩
            case measure => simp [intOf]; omega
          | false =>
            rw [hb] at H
            have HRES : Hid (bl (GoodC s c) = false) := bl_false (fun h => by
              obtain ⟨h4, h5⟩ := List.getElem?_eq_some_iff.1 HXE.out
              have := h.2.2 x (h5 ▸ List.getElem_mem h4)
              rw [hb] at this
              cases this)
            clear hb
            go_wp2_with fail
            refine H.mono ?_
            rintro e w4 ⟨rfl, hb4⟩
            have HB4 : Hid (Below w3.heap.size w3 w4) := hBR.out.trans (hb4.mono hBR.out.size)
            clear hb4 H
            go_wp2
            go_ret
            exact ⟨by rw [HRES.out]; rfl, HB3.out.trans (HB4.out.mono HB3.out.size)⟩
        · have HRES : Hid (bl (GoodC s c) = true) := bl_true ⟨HW.out, by rw [HN.out]; exact h3, all_of_index (fun j y hj hy => hne.out j y (by have := HN.out; omega) hy)⟩
          go_wp2
          go_ret
          exact ⟨by rw [HRES.out]; rfl, HB3.out.trans (hBR.out.mono HB3.out.size)⟩
    · have HRES : Hid (bl (GoodC s c) = false) := bl_false (fun h => by have := h.2.1; have := HN.out; omega)
      have h3' : (3 : Int) < (n : Int) := by omega
      go_enter Try.func59, Try.ntmps59
      go_wp2_with fail
      rw [← H2.out]
      refine hK.mono ?_
      rintro e w3 ⟨rfl, hb3⟩
      have HB3 : Hid (Below w.heap.size w w3) := HB.out.trans (hb3.mono HB.out.size)
      have c1 := cell_below q1 hb3
      have c2 := cell_below q2 hb3
      clear hb3 hK q0 q1 q2
      go_wp2
      go_ret
      exact ⟨by rw [HRES.out]; rfl, HB3.out⟩
  · rw [bl_false hw] at hK
    have HRES : Hid (bl (GoodC s c) = false) := bl_false (fun h => hw h.1)
    clear hw
    go_enter Try.func59, Try.ntmps59
    go_wp2_with fail
    rw [← H2.out]
    refine hK.mono ?_
    rintro e w3 ⟨rfl, hb3⟩
    have HB3 : Hid (Below w.heap.size w w3) := HB.out.trans (hb3.mono HB.out.size)
    clear hb3 hK q0 q1 q2
    go_wp2
    go_ret
    exact ⟨by rw [HRES.out]; rfl, HB3.out⟩

set_option maxHeartbeats 2000000 in
set_option maxRecDepth 100000 in
theorem impl_validType (w : World) (a : Option Addr) (cap : Nat) (s : List TypeD) (t : TypeD) (u v : Value) (hx : Row2 TypeAt w a s) (hm : s.length ≤ 1048576) (ht : TypeAt w t u v) (hf : t.fits) (hl : t.cons.length ≤ 1048576) (hl2 : ∀ d ∈ t.cons, d.args.length ≤ 1048576) :
    Calls Try.prog 45 #[.agg #[.slice a s.length cap], .agg #[u, v]] w fun e w' => e = .returned (.bool (bl (GoodT s t))) ∧ Below w.heap.size w w' := by
  obtain ⟨a2, cap2, rfl, rfl, hr⟩ := ht
  obtain ⟨w2, h2⟩ : ∃ w2, w2 = (w.alloc (.cells #[.slice a s.length cap] 33)).alloc (.cells #[.string t.name, .slice a2 t.cons.length cap2] 28) := ⟨_, rfl⟩
  have h := two_alloc w (.cells #[.slice a s.length cap] 33) (.cells #[.string t.name, .slice a2 t.cons.length cap2] 28)
  rw [← h2] at h
  obtain ⟨hsz, hp0, hp1, hB⟩ := h
  have HX := Lib.hid hx
  have HR := Lib.hid (row2_below con_below hr hB)
  have HB := Lib.hid hB
  have H2 := Lib.hid h2
  have HF := Lib.hid hf.2.2
  have HL := Lib.hid hl2
  obtain ⟨q0, _⟩ := one_cell hp0
  obtain ⟨q1, q2, _, _⟩ := two_cells hp1
  have hK := impl_name t.name hf.1 w2
  clear hx hr hB h2 hsz hp0 hp1 hf hl2
  generalize hn : t.cons.length = n at *
  have HN := Lib.hid hn
  clear hn
  by_cases hw : Name t.name
  · rw [bl_true hw] at hK
    have HW := Lib.hid hw
    clear hw
    by_cases h3 : 1 ≤ n ∧ n ≤ 5
    · obtain ⟨h3a, h3b⟩ := h3
      go_enter Try.func45, Try.ntmps45
      go_wp2_with fail
      rw [← H2.out]
      refine hK.mono ?_
      rintro e w3 ⟨rfl, hb3⟩
      have HB3 : Hid (Below w.heap.size w w3) := HB.out.trans (hb3.mono HB.out.size)
      have HR3 := Lib.hid (row2_below con_below HR.out hb3)
      have c0 := cell_below q0 hb3
      have c1 := cell_below q1 hb3
      have c2 := cell_below q2 hb3
      have HC0 := Lib.hid c0
      clear hb3 hK q0 q1 q2
      go_wp2
      clear c0 c1 c2
      go_loopw [26] (fun i wr => ∃ (k : Nat), k ≤ n ∧ i = .int .i64 k ∧ Hid (Below w3.heap.size w3 wr) ∧ Hid (∀ (j : Nat) y, j < k → t.cons[j]? = some y → GoodC s y)) (fun i _ => n - (intOf i).toNat)
      case atStart => exact ⟨0, Nat.zero_le _, rfl, Below.refl _ _, fun j _ h => by omega⟩
      case round =>
        obtain ⟨k, hk, rfl, hBR, hne⟩ := hrel
        by_cases hlt : k < n
        · have hk' : k < t.cons.length := by rw [HN.out]; exact hlt
          have hltz : (k : Int) < (n : Int) := by omega
          obtain ⟨y, u1, v1, rfl, hc0, hc1, hr1⟩ := row2_below con_below HR3.out hBR.out k hk'
          have hx : t.cons[k]? = some t.cons[k] := List.getElem?_eq_getElem hk'
          have hfx := HF.out _ (List.getElem_mem hk')
          have hlx := HL.out _ (List.getElem_mem hk')
          generalize t.cons[k] = c at hx hr1 hfx hlx
          have HXE := Lib.hid hx
          have hr2 := hr1
          obtain ⟨ca, cc, hu, hv, _⟩ := hr2
          subst hu
          subst hv
          have hbD : Below wr.heap.size wr (wr.alloc (.cells #[.string c.name, .slice ca c.args.length cc] 42)) := (Below.refl _ _).alloc (Nat.le_refl _) _
          have HBD : Hid (Below w3.heap.size w3 (wr.alloc (.cells #[.string c.name, .slice ca c.args.length cc] 42))) := hBR.out.trans (hbD.mono hBR.out.size)
          have c0 := cell_below HC0.out HBD.out
          have H := impl_validCon _ a cap s c _ _ (row2_below type_below HX.out (HB3.out.trans (HBD.out.mono HB3.out.size))) hm (con_below _ _ _ _ _ hr1 hbD) hfx hlx
          clear hx hr1 hfx hlx hbD
          by_cases hg : GoodC s c
          · rw [bl_true hg] at H
            have HG := Lib.hid hg
            clear hg
            go_wp2_with fail
            refine H.mono ?_
            rintro e w4 ⟨rfl, hb4⟩
            have HB4 : Hid (Below w3.heap.size w3 w4) := HBD.out.trans (hb4.mono HBD.out.size)
            clear hb4 H
            go_wp2
            go_roundw
            case rel => exact ⟨k + 1, by omega, by go_num, HB4, before_succ' hne.out HXE.out HG.out⟩
            case measure => simp [intOf]; omega
          · rw [bl_false hg] at H
            have HRES : Hid (bl (GoodT s t) = false) := bl_false (fun h => by
              obtain ⟨h4, h5⟩ := List.getElem?_eq_some_iff.1 HXE.out
              exact hg (h.2.2.2 c (h5 ▸ List.getElem_mem h4)))
            clear hg
            go_wp2_with fail
            refine H.mono ?_
            rintro e w4 ⟨rfl, hb4⟩
            have HB4 : Hid (Below w3.heap.size w3 w4) := HBD.out.trans (hb4.mono HBD.out.size)
            clear hb4 H
            go_wp2
            go_ret
            exact ⟨by rw [HRES.out]; rfl, HB3.out.trans (HB4.out.mono HB3.out.size)⟩
        · have HRES : Hid (bl (GoodT s t) = true) := bl_true ⟨HW.out, by rw [HN.out]; exact h3a, by rw [HN.out]; exact h3b, all_of_index (fun j y hj hy => hne.out j y (by have := HN.out; omega) hy)⟩
          go_wp2
          go_ret
          exact ⟨by rw [HRES.out]; rfl, HB3.out.trans (hBR.out.mono HB3.out.size)⟩
    · have HRES : Hid (bl (GoodT s t) = false) := bl_false (fun h => by have := h.2.1; have := h.2.2.1; have := HN.out; omega)
      by_cases h4 : n < 1
      · have h4' : (n : Int) < 1 := by omega
        go_enter Try.func45, Try.ntmps45
        go_wp2_with fail
        rw [← H2.out]
        refine hK.mono ?_
        rintro e w3 ⟨rfl, hb3⟩
        have HB3 : Hid (Below w.heap.size w w3) := HB.out.trans (hb3.mono HB.out.size)
        have c1 := cell_below q1 hb3
        have c2 := cell_below q2 hb3
        clear hb3 hK q0 q1 q2 h3
        go_wp2
        go_ret
        exact ⟨by rw [HRES.out]; rfl, HB3.out⟩
      · have h4' : ¬ (n : Int) < 1 := by omega
        have h5' : (5 : Int) < (n : Int) := by omega
        go_enter Try.func45, Try.ntmps45
        go_wp2_with fail
        rw [← H2.out]
        refine hK.mono ?_
        rintro e w3 ⟨rfl, hb3⟩
        have HB3 : Hid (Below w.heap.size w w3) := HB.out.trans (hb3.mono HB.out.size)
        have c1 := cell_below q1 hb3
        have c2 := cell_below q2 hb3
        clear hb3 hK q0 q1 q2 h3
        go_wp2
        go_ret
        exact ⟨by rw [HRES.out]; rfl, HB3.out⟩
  · rw [bl_false hw] at hK
    have HRES : Hid (bl (GoodT s t) = false) := bl_false (fun h => hw h.1)
    clear hw
    go_enter Try.func45, Try.ntmps45
    go_wp2_with fail
    rw [← H2.out]
    refine hK.mono ?_
    rintro e w3 ⟨rfl, hb3⟩
    have HB3 : Hid (Below w.heap.size w w3) := HB.out.trans (hb3.mono HB.out.size)
    clear hb3 hK q0 q1 q2
    go_wp2
    go_ret
    exact ⟨by rw [HRES.out]; rfl, HB3.out⟩
end Go.Proofs.Ytcmpaccpdjcocaa
