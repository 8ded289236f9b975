/- What is proved here: a piece of the proof of YtijbaienhaiamaaGreatDoorGuards (GuardsWalk). Condition: none beyond what each part says. -/
import Derived.Test.YtijbaienhaiamaaGreatDoorGu01
import Derived.Test.YtijbaienhaiamaaGreatDoorGu10
import Derived.Test.YtijbaienhaiamaaGreatDoorGu14
import Derived.Test.YtijbaienhaiamaaGreatDoorGu18
import Derived.Test.YtijbaienhaiamaaGreatDoorGu21
import Derived.Test.YtijbaienhaiamaaGreatDoorGu22
import Derived.Test.YtijbaienhaiamaaGreatDoorGu23
import Derived.Test.YtijbaienhaiamaaGreatDoorGu24
import Derived.Test.YtijbaienhaiamaaGreatDoorGu25
import Derived.Test.YtijbaienhaiamaaGreatDoorGu26
import Derived.Test.YtijbaienhaiamaaGreatDoorGu08

/- What is proved here: the text of FnGuards returns true for every code. Condition: the library's variables read as laid. -/
section
namespace Go.Proofs.YtijbaienhaiamaaGreatDoor
open Go.RowKit
open Ex

theorem rising_nil (w : World) : Calls Tryz.prog 24 #[.slice none 0 0] w fun e w' => e = .returned (.bool true) ∧ Below w.heap.size w w' := by
  go_enter Tryz.func24, Tryz.ntmps24
  go_wp2
  go_loop [3] (fun i => i = .int .i64 1) (fun _ => 0)
  case atStart => rfl
  case round =>
    obtain rfl := hrel
    go_wp2
    go_ret
    exact ⟨rfl, Below.refl _ _⟩
/-- Names that came back: read, and in order. -/
def Told (w : World) (a : Option Addr) (c : Nat) (ys : List ByteArray) : Prop := Reads w a ys ∧ ∀ W, Below w.heap.size w W → Calls Tryz.prog 24 #[.slice a ys.length c] W fun e w' => e = .returned (.bool true) ∧ Below W.heap.size W w'
theorem told_of {w w' : World} {xs : List ByteArray} {e : Ending} (h : OutT w (sorted xs) e w') (hm : (sorted xs).length ≤ maxLen) : ∃ a c, e = .returned (.slice a (sorted xs).length c) ∧ Told w' a c (sorted xs) ∧ Below w.heap.size w w' := by
  rcases h with ⟨g, cap, rest, hg, rfl, hblk, hb⟩ | ⟨e1, rfl, hb⟩
  · refine ⟨_, cap, rfl, ⟨hblk.reads, fun W hW => ?_⟩, hb⟩
    refine (rising_any W g cap (sorted xs) (reads_below hblk.reads hW) (sorted_ok xs).1 hm).mono ?_
    rintro e w3 ⟨rfl, n, rfl⟩
    exact ⟨rfl, below_drewN (Below.refl _ _) n⟩
  · rw [e1]
    exact ⟨none, 0, rfl, ⟨fun j hj => absurd hj (by simp), fun W _ => rising_nil W⟩, hb⟩
theorem headEq_self (k n : Int) (t : ByteArray) (F : Trees) : (headEq k n t F.length k n t F.length && F.same F) = true := by
  rw [Bool.and_eq_true, Trees.same_iff, headEq_iff]
  exact ⟨⟨rfl, rfl, rfl, rfl⟩, rfl⟩
theorem drop_succ_of {α : Type} {l : List α} {j : Nat} {x : α} {r : List α} (h : x :: r = l.drop j) : r = l.drop (j + 1) ∧ l.take (j + 1) = l.take j ++ [x] := by
  have hj : j < l.length := by
    rcases Nat.lt_or_ge j l.length with h1 | h1
    · exact h1
    · rw [List.drop_eq_nil_of_le h1] at h; cases h
  have e := List.drop_eq_getElem_cons hj
  rw [← h] at e
  injection e with e1 e2
  exact ⟨e2, by rw [List.take_succ_eq_append_getElem hj, ← e1]⟩

set_option maxHeartbeats 16000000 in
set_option maxRecDepth 100000 in
theorem fnGuards_walk (a : Option Addr) (len cap : Nat) (zs : List Int) (w : World) (hr : IsRow .u8 w a len cap zs) (hL : LibVars w) :
    Calls Tryz.prog 5 #[.slice a len cap] w fun e w' => e = .returned (.bool true) ∧ Below w.heap.size w w' := by
  have hib : (Tryz.prog.info? 68).map (fun i => (i.zero, i.size, i.bytes)) = some (some (.agg #[.string ⟨#[]⟩, .int .i64 0, .int .i64 0, .string ⟨#[]⟩, .slice none 0 0]), 5, 72) := by kernel_rfl
  obtain ⟨i0, hi, hz0, hz1, hz2⟩ := info_parts hib
  have hlen := row_len hr
  have HLV : Hid (∀ W, Below w.heap.size w W → LibVars W) := fun W hb => hL.stays hb
  by_cases hbig : 1048576 < len
  · clear hr hL HLV
    go_enter Tryz.func5, Tryz.ntmps5
    go_wp2_with fail
    refine (big_any a len cap hlen _).mono ?_
    rintro e w1 ⟨rfl, rfl⟩
    rw [decide_eq_true hbig]
    go_wp2
    go_ret
    exact ⟨rfl, Below.refl _ _⟩
  have hl6 : len ≤ 1048576 := by omega
  have HRW : Hid (∀ W, Below w.heap.size w W → IsRow .u8 W a len cap zs) := fun W hb => row_stays (row := none) hr (grown_of_below hb) (fun _ _ _ => by simp)
  have HD1 := Lib.hid (drawFormatExpr_any w a len cap zs hr hl6)
  have HD2 := Lib.hid (fun W hb => drawParseExpr_any W a len cap zs (HRW.out W hb) hl6)
  have HD3 := Lib.hid (fun W hb => drawEvalExpr_any W a len cap zs (HRW.out W hb) hl6)
  have hbe : decide (1048576 < len) = false := decide_eq_false hbig
  clear hr hL
  go_enter Tryz.func5, Tryz.ntmps5
  go_wp2_with fail
  refine (big_any a len cap hlen _).mono ?_
  rintro e w' ⟨rfl, rfl⟩
  rw [hbe]
  clear hbe hbig hl6 hlen HRW
  go_wp2_with fail
  refine HD1.out.mono ?_
  rintro e w1 ⟨k, n, t, p, c, F, rfl, ⟨hx, hlc, hcn, htm, hk, hn, ht⟩, hb1⟩
  have hfit := F.tame_fits htm (by unfold maxLen; omega)
  have hcm : F.count ≤ 1048576 := by omega
  have htm2 : t.size ≤ maxLen := by unfold maxLen; omega
  obtain ⟨w2, hw2⟩ : ∃ w2, w2 = w1.alloc (.cells #[.int .i64 k, .int .i64 n, .string t, .slice p F.length c] 54) := ⟨_, rfl⟩
  have hB2 : Below w1.heap.size w1 w2 := by rw [hw2]; exact (Below.refl _ _).alloc (Nat.le_refl _) _
  have hn2 : w2.heap[w1.heap.size]? = some (.cells #[.int .i64 k, .int .i64 n, .string t, .slice p F.length c] 54 (0, 0)) := by rw [hw2]; exact heap_at_new w1 _
  have HBW2 : Hid (Below w.heap.size w w2) := hb1.trans (hB2.mono hb1.size)
  have HX : Hid (∀ W, Below w2.heap.size w2 W → TreesAt W F p 0) := fun W hb => (hx.below hB2).below hb
  have HBX : Hid (∀ W, Below w2.heap.size w2 W → W.cell? ⟨w1.heap.size, 0, none⟩ = some (.int .i64 k) ∧ W.cell? ⟨w1.heap.size, 1, none⟩ = some (.int .i64 n) ∧ W.cell? ⟨w1.heap.size, 2, none⟩ = some (.string t) ∧ W.cell? ⟨w1.heap.size, 3, none⟩ = some (.slice p F.length c)) := fun W hb => by
    obtain ⟨y0, y1, y2, y3, _⟩ := four_cells ((hb.block _ (Array.getElem?_eq_some_iff.1 hn2).1).trans hn2)
    exact ⟨y0, y1, y2, y3⟩
  have HUP : Hid (∀ W, Below w2.heap.size w2 W → Below w.heap.size w W) := fun W hb => HBW2.out.trans (hb.mono HBW2.out.size)
  have HFI := Lib.hid (fun W hb => impl_format_expr W k n t F p c hfit hcm htm2 (HX.out W hb) hlc (HLV.out W (HUP.out W hb)).tab)
  have HFS := Lib.hid (fun W hb => spec_format_expr W k n t F p c hfit hcm htm2 (HX.out W hb))
  have HVI := Lib.hid (fun W hb => impl_valid_expr W k n t F p c hfit hcm htm2 (HX.out W hb) hlc)
  have HVS := Lib.hid (fun W hb => spec_valid_expr W k n t F p c hfit hcm htm2 (HX.out W hb))
  have HEQ := Lib.hid (fun W p2 c2 (hy : TreesAt W F p2 0) (hl2 : F.length ≤ c2) hb => impl_equal W k n t F p2 c2 k n t F p c hy (HX.out W hb) hcm hl2 hlc)
  have HPI := Lib.hid (fun W hb => impl_ParseExpr (exprFmt k n t F) (by have := exprFmt_size k n t F; omega) W (HLV.out W (HUP.out W hb)))
  have hes := headEq_self k n t F
  rw [hes] at HEQ
  have HNE : Hid (validExpr k n t F = false → ∀ q : PatD, good q → text q ≠ (exprFmt k n t F).data.toList) := fun hv q hq e => by
    have := good_ge hq
    have h0 : exprFmt k n t F = ⟨#[]⟩ := by unfold exprFmt; rw [if_neg (by rw [hv]; decide)]
    rw [h0] at e
    rw [e] at this
    simp at this
  have HYE : Hid (validExpr k n t F = true → good ⟨k, n, t, F⟩ ∧ Fits 12 0 1 ⟨k, n, t, F⟩ ∧ text ⟨k, n, t, F⟩ = (exprFmt k n t F).data.toList) := fun hv => by
    have hg : good ⟨k, n, t, F⟩ := by
      unfold validExpr at hv
      simp only [Bool.and_eq_true] at hv
      exact hv.2
    refine ⟨hg, (valid_iff hg).1 hv, ?_⟩
    unfold exprFmt
    rw [if_pos hv]
    rfl
  have HW2 := Lib.hid hw2
  obtain ⟨y0, y1, y2, y3⟩ := HBX.out w2 (Below.refl _ _)
  rw [hw2] at y0 y1 y2 y3
  have hse : ((exprFmt k n t F).toList != (exprFmt k n t F).toList) = false := by simp
  generalize exprFmt k n t F = s at *
  generalize validExpr k n t F = V at *
  clear hx hlc hcn htm hk hn ht hb1 hfit hcm htm2 hw2 hB2 hn2 HD1 HBW2 hes HX
  go_wp2_with fail
  rw [← HW2.out]
  refine (HFI.out w2 (Below.refl _ _)).mono ?_
  clear y0 y1 y2 y3
  rintro e w3 ⟨rfl, hb3⟩
  have HB3 := Lib.hid hb3
  clear hb3
  go_wp2_with fail
  refine (HPI.out w3 HB3.out).mono ?_
  rintro e w4 ⟨hP, hb4⟩
  have HB4 := Lib.hid (HB3.out.trans (hb4.mono HB3.out.size))
  have hvv : (V != V) = false := by cases V <;> rfl
  rcases hP with ⟨q, v4, bs4, rfl, ho4, hnd4, hbs4, hg4, htx4, hf4⟩ | ⟨rfl, hno⟩
  · obtain ⟨p5, c5, rfl, hl5, hx5⟩ := ho4.reads
    cases V with
    | false => exact absurd htx4 (HNE.out rfl q hg4)
    | true =>
      obtain ⟨hyg, hyf, hyt⟩ := HYE.out rfl
      obtain rfl := text_inj hg4 hyg hf4 hyf (htx4.trans hyt.symm)
      dsimp only at *
      obtain ⟨w5, hw5⟩ : ∃ w5, w5 = w4.alloc (.cells #[.int .i64 k, .int .i64 n, .string t, .slice p5 F.length c5] 54) := ⟨_, rfl⟩
      have hB5 : Below w4.heap.size w4 w5 := by rw [hw5]; exact (Below.refl _ _).alloc (Nat.le_refl _) _
      have hn5 : w5.heap[w4.heap.size]? = some (.cells #[.int .i64 k, .int .i64 n, .string t, .slice p5 F.length c5] 54 (0, 0)) := by rw [hw5]; exact heap_at_new w4 _
      have HB5 := Lib.hid (HB4.out.trans (hB5.mono HB4.out.size))
      have HC5 : Hid (∀ W, Below w5.heap.size w5 W → (W.cell? ⟨w4.heap.size, 0, none⟩ = some (.int .i64 k) ∧ W.cell? ⟨w4.heap.size, 1, none⟩ = some (.int .i64 n) ∧ W.cell? ⟨w4.heap.size, 2, none⟩ = some (.string t) ∧ W.cell? ⟨w4.heap.size, 3, none⟩ = some (.slice p5 F.length c5)) ∧ TreesAt W F p5 0) := fun W hb => by
        obtain ⟨y0, y1, y2, y3, _⟩ := four_cells ((hb.block _ (Array.getElem?_eq_some_iff.1 hn5).1).trans hn5)
        exact ⟨⟨y0, y1, y2, y3⟩, (hx5.below hB5).below hb⟩
      have HHW := Lib.hid hw5
      have HL5 := Lib.hid hl5
      obtain ⟨y0, y1, y2, y3⟩ := HBX.out w5 HB5.out
      rw [hw5] at y0 y1 y2 y3
      clear hyg hyf hyt ho4 hnd4 hbs4 hg4 htx4 hf4 hl5 hx5 hw5 hB5 hn5 hb4 HB4 HB3 HPI HNE HYE HW2
      go_wp2_with fail
      rw [← HHW.out]
      refine (HFS.out w5 HB5.out).mono ?_
      clear y0 y1 y2 y3
      rintro e w6 ⟨rfl, hb6⟩
      have HB6 := Lib.hid (HB5.out.trans (hb6.mono HB5.out.size))
      have HB56 := Lib.hid hb6
      obtain ⟨y0, y1, y2, y3⟩ := HBX.out w6 HB6.out
      clear hb6 HFS
      go_wp2_with fail
      refine (HVS.out w6 HB6.out).mono ?_
      clear y0 y1 y2 y3
      rintro e w7 ⟨rfl, hb7⟩
      have HB7 := Lib.hid (HB6.out.trans (hb7.mono HB6.out.size))
      have HB57 := Lib.hid (HB56.out.trans (hb7.mono HB56.out.size))
      obtain ⟨y0, y1, y2, y3⟩ := HBX.out w7 HB7.out
      clear hb7 HVS HB6 HB56
      go_wp2_with fail
      refine (HVI.out w7 HB7.out).mono ?_
      clear y0 y1 y2 y3
      rintro e w8 ⟨rfl, hb8⟩
      have HB8 := Lib.hid (HB7.out.trans (hb8.mono HB7.out.size))
      have HB58 := Lib.hid (HB57.out.trans (hb8.mono HB57.out.size))
      obtain ⟨y0, y1, y2, y3⟩ := HBX.out w8 HB8.out
      obtain ⟨⟨z0, z1, z2, z3⟩, hx8⟩ := HC5.out w8 HB58.out
      have HX8 := Lib.hid (HEQ.out w8 p5 c5 hx8 HL5.out HB8.out)
      clear hb8 HVI HB7 HB57 hx8 HC5 HEQ HL5
      go_wp2_with fail
      refine HX8.out.mono ?_
      clear y0 y1 y2 y3 z0 z1 z2 z3 HX8
      rintro e wy ⟨rfl, hb9⟩
      have HBY := Lib.hid (HB8.out.trans (hb9.mono HB8.out.size))
      clear hb9 HB8 HB58 HBX HHW HB5 HFI
      go_wp2_with fail
      refine (HD2.out wy (HUP.out wy HBY.out)).mono ?_
      rintro e u1 ⟨s2, hs2, rfl, hb⟩
      have HU1 := Lib.hid (HBY.out.trans (hb.mono HBY.out.size))
      have hs2m : s2.size ≤ 1048576 := by omega
      have HPI2 := Lib.hid (fun W hb => impl_ParseExpr s2 hs2m W (HLV.out W (HUP.out W hb)))
      have HPS2 := Lib.hid (fun W => spec_ParseExpr s2 hs2m W)
      clear hb hs2 hs2m HD2 HBY
      go_wp2_with fail
      refine (HPI2.out u1 HU1.out).mono ?_
      rintro e u2 ⟨hP2, hb⟩
      have HU2 := Lib.hid (HU1.out.trans (hb.mono HU1.out.size))
      clear HPI2 HU1 hb
      rcases hP2 with ⟨q2, v2, bs2, rfl, ho2, hnd2, hbs2, hg2, htx2, hf2⟩ | ⟨rfl, hno2⟩
      · obtain ⟨p9, c9, rfl, hl9, hx9⟩ := ho2.reads
        obtain ⟨u3, hu3⟩ : ∃ u3, u3 = u2.alloc (.cells #[.int .i64 q2.k, .int .i64 q2.n, .string q2.t, .slice p9 q2.F.length c9] 54) := ⟨_, rfl⟩
        have hB3 : Below u2.heap.size u2 u3 := by rw [hu3]; exact (Below.refl _ _).alloc (Nat.le_refl _) _
        have hn3 : u3.heap[u2.heap.size]? = some (.cells #[.int .i64 q2.k, .int .i64 q2.n, .string q2.t, .slice p9 q2.F.length c9] 54 (0, 0)) := by rw [hu3]; exact heap_at_new u2 _
        have HU3 := Lib.hid (HU2.out.trans (hB3.mono HU2.out.size))
        have HC3 : Hid (∀ W, Below u3.heap.size u3 W → W.cell? ⟨u2.heap.size, 0, none⟩ = some (.int .i64 q2.k) ∧ W.cell? ⟨u2.heap.size, 1, none⟩ = some (.int .i64 q2.n) ∧ W.cell? ⟨u2.heap.size, 2, none⟩ = some (.string q2.t) ∧ W.cell? ⟨u2.heap.size, 3, none⟩ = some (.slice p9 q2.F.length c9)) := fun W hb => by
          obtain ⟨y0, y1, y2, y3, _⟩ := four_cells ((hb.block _ (Array.getElem?_eq_some_iff.1 hn3).1).trans hn3)
          exact ⟨y0, y1, y2, y3⟩
        have hcq : q2.F.count ≤ 1048576 := by have := hf2.1; omega
        have hff2 : exprFmt q2.k q2.n q2.t q2.F = s2 := by
          unfold exprFmt
          rw [if_pos ((valid_iff hg2).2 hf2)]
          show str (text q2) = s2
          rw [htx2, str_data]
        have HF3 := Lib.hid (fun W (hb : Below u3.heap.size u3 W) => impl_format_expr W q2.k q2.n q2.t q2.F p9 c9 (formedE_fits _ hg2.2) hcq (form_small hg2.1).2.2.1 ((hx9.below hB3).below hb) hl9 (HLV.out W (HUP.out W (HU3.out.trans (hb.mono HU3.out.size)))).tab)
        rw [hff2] at HF3
        have HNO : Hid (∀ B A, Want s2.data.toList A B → B = true) := fun B A hW => by
          rcases hW with ⟨h, _⟩ | ⟨_, _, hn⟩
          · exact h
          · exact absurd htx2 (hn q2 hg2 hf2)
        have HHU := Lib.hid hu3
        have hse2 : (s2.toList != s2.toList) = false := by simp
        clear ho2 hnd2 hbs2 hg2 htx2 hf2 hl9 hx9 hu3 hB3 hn3 hcq hff2 HU2
        generalize q2.F.length = l9 at *
        generalize q2.k = k9 at *
        generalize q2.n = n9 at *
        generalize q2.t = t9 at *
        go_wp2_with fail
        rw [← HHU.out]
        refine (HPS2.out u3).mono ?_
        clear HPS2
        rintro e u4 ⟨⟨A5, B5, hW5, v5, bs5, rfl, ho5, _, _⟩, hb⟩
        obtain rfl := HNO.out B5 A5 hW5
        obtain ⟨p5, c5, rfl, hl5, hx5⟩ := ho5.reads
        obtain ⟨u5, hu5⟩ : ∃ u5, u5 = u4.alloc (.cells #[.int .i64 A5.k, .int .i64 A5.n, .string A5.t, .slice p5 A5.F.length c5] 54) := ⟨_, rfl⟩
        have hB5 : Below u4.heap.size u4 u5 := by rw [hu5]; exact (Below.refl _ _).alloc (Nat.le_refl _) _
        have hB35 : Below u3.heap.size u3 u5 := hb.trans (hB5.mono hb.size)
        have HU5 := Lib.hid (HU3.out.trans (hB35.mono HU3.out.size))
        obtain ⟨y0, y1, y2, y3⟩ := HC3.out u5 hB35
        have HF5 := Lib.hid (HF3.out u5 hB35)
        have HHU5 := Lib.hid hu5
        rw [hu5] at y0 y1 y2 y3
        clear ho5 hl5 hx5 hu5 hB5 hB35 hb hW5 HNO HF3 HC3 HU3 HHU
        go_wp2_with fail
        rw [← HHU5.out]
        refine HF5.out.mono ?_
        clear y0 y1 y2 y3 HF5
        rintro e wz ⟨rfl, hb⟩
        have HBZ : Hid (Below w2.heap.size w2 wz) := HU5.out.trans (hb.mono HU5.out.size)
        have HWZ : Hid (Below w.heap.size w wz) := HUP.out wz HBZ.out
        clear hb HU5 HHU5
        go_wp2_with fail
        refine (HD3.out wz (HUP.out wz HBZ.out)).mono ?_
        clear HUP
        rintro e v1 ⟨k2, n2, t2, p2, c2, F2, a2, ca2, env, rfl, ⟨hx, hlc, hcn, htm, hk, hn, ht⟩, hbe, hel, hsm, hb1⟩
        have hfit := F2.tame_fits htm (by unfold maxLen; omega)
        have hcm : F2.count ≤ 1048576 := by omega
        have htm2 : t2.size ≤ maxLen := by unfold maxLen; omega
        have hem : env.length ≤ 1048576 := by omega
        obtain ⟨v2, hv2⟩ : ∃ v2, v2 = v1.alloc (.cells #[.int .i64 k2, .int .i64 n2, .string t2, .slice p2 F2.length c2] 54) := ⟨_, rfl⟩
        have hB2 : Below v1.heap.size v1 v2 := by rw [hv2]; exact (Below.refl _ _).alloc (Nat.le_refl _) _
        have hn2 : v2.heap[v1.heap.size]? = some (.cells #[.int .i64 k2, .int .i64 n2, .string t2, .slice p2 F2.length c2] 54 (0, 0)) := by rw [hv2]; exact heap_at_new v1 _
        have HZB : Hid (Below w.heap.size w v2) := (HWZ.out.trans (hb1.mono HWZ.out.size)).trans (hB2.mono (Nat.le_trans HWZ.out.size hb1.size))
        have HXB : Hid (∀ W, Below v2.heap.size v2 W → TreesAt W F2 p2 0 ∧ BindsAt W env a2 0) := fun W hb => ⟨(hx.below hB2).below hb, (hbe.below hB2).below hb⟩
        have HCB : Hid (∀ W, Below v2.heap.size v2 W → W.cell? ⟨v1.heap.size, 0, none⟩ = some (.int .i64 k2) ∧ W.cell? ⟨v1.heap.size, 1, none⟩ = some (.int .i64 n2) ∧ W.cell? ⟨v1.heap.size, 2, none⟩ = some (.string t2) ∧ W.cell? ⟨v1.heap.size, 3, none⟩ = some (.slice p2 F2.length c2)) := fun W hb => by
          obtain ⟨y0, y1, y2, y3, _⟩ := four_cells ((hb.block _ (Array.getElem?_eq_some_iff.1 hn2).1).trans hn2)
          exact ⟨y0, y1, y2, y3⟩
        have HEI := Lib.hid (fun W hb => impl_eval env hem a2 ca2 W k2 n2 t2 F2 p2 c2 hfit hcm htm2 (HXB.out W hb).1 hlc (HXB.out W hb).2)
        have HES := Lib.hid (fun W hb => spec_eval env hem a2 ca2 W k2 n2 t2 F2 p2 c2 hfit hcm htm2 (HXB.out W hb).1 (HXB.out W hb).2)
        have HEO := Lib.hid (fun W hb env3 (hem3 : List.length env3 ≤ 1048576) a3 ca3 (hb3 : BindsAt W env3 a3 0) => impl_eval env3 hem3 a3 ca3 W k2 n2 t2 F2 p2 c2 hfit hcm htm2 (HXB.out W hb).1 hlc hb3)
        have HVO := Lib.hid (fun W hb => impl_vars W k2 n2 t2 F2 p2 c2 hcm (HXB.out W hb).1 hlc)
        have hus : (sorted (nodeVarsE k2 t2 ++ F2.varsE)).length ≤ 101 := by
          have h1 := sorted_length_le (nodeVarsE k2 t2 ++ F2.varsE)
          have h2 := nodeVarsE_len k2 t2
          have h3 := varsE_len F2
          rw [List.length_append] at h1
          omega
        have HUS := Lib.hid hus
        have HFI2 : Hid (exprV (env.filter fun x => decide (0 ≤ Lib.idxOfS (sorted (nodeVarsE k2 t2 ++ F2.varsE)) x.nm)) k2 n2 t2 F2 = exprV env k2 n2 t2 F2) := exprV_filter (fun nm => decide (0 ≤ Lib.idxOfS (sorted (nodeVarsE k2 t2 ++ F2.varsE)) nm)) env k2 n2 t2 F2 (fun x hx => decide_eq_true ((Lib.idxOfS_nonneg_iff _ _).2 (((sorted_ok _).2 x).2 hx)))
        have HSM := Lib.hid hsm
        have HHV := Lib.hid hv2
        have HEL := Lib.hid hel
        obtain ⟨y0, y1, y2, y3⟩ := HCB.out v2 (Below.refl _ _)
        rw [hv2] at y0 y1 y2 y3
        clear hx hlc hcn htm hk hn ht hbe hel hsm hb1 hfit hcm htm2 hem hv2 hB2 hn2 hus HD3 HWZ HBZ
        generalize nodeVarsE k2 t2 ++ F2.varsE = us at *
        generalize hE1 : exprV env k2 n2 t2 F2 = nv at *
        go_wp2_with fail
        rw [← HHV.out]
        refine (HEI.out v2 (Below.refl _ _)).mono ?_
        clear y0 y1 y2 y3 HEI
        rintro e v3 ⟨rfl, hb⟩
        have HV3 := Lib.hid hb
        obtain ⟨y0, y1, y2, y3⟩ := HCB.out v3 hb
        clear hb
        go_wp2_with fail
        refine (HVO.out v3 HV3.out).mono ?_
        clear y0 y1 y2 y3 HVO
        rintro e v4 hT
        obtain ⟨a4, c4, rfl, hT4, hb⟩ := told_of hT (by have := HUS.out; unfold maxLen; omega)
        have HT4 := Lib.hid hT4
        have HV4 := Lib.hid (HV3.out.trans (hb.mono HV3.out.size))
        have hE2 := HFI2.out
        generalize sorted us = ys at *
        clear hT hT4 hb HV3
        have hlit := GrowB.lit v4 (Nat.le_refl v4.heap.size)
        obtain ⟨v5, hv5⟩ : ∃ v5, v5 = v4.alloc (.cells #[] 68) := ⟨_, rfl⟩
        rw [← hv5] at hlit
        have HG5 := Lib.hid hlit
        have HB5 : Hid (Below v4.heap.size v4 v5) := by rw [hv5]; exact (Below.refl _ _).alloc (Nat.le_refl _) _
        have HV5 := Lib.hid hv5
        have HFL : Hid (exprV (env.filter fun x => decide (0 ≤ Lib.idxOfS ys x.nm)) k2 n2 t2 F2 = nv) := hE2
        have HBE : Hid (BindsAt v4 env a2 0) := (HXB.out v4 HV4.out).2
        generalize hen : env.length = m at *
        have HEN := Lib.hid hen
        clear hlit hv5 hE2 HFI2 hen hE1
        go_wp2
        rw [← HV5.out]
        have hm3 : m ≤ 3 := HEL.out
        go_loopw [16, 17] (fun o i wr => ∃ (j q : Nat) (l : List BindD) (rest : List BindD) (a : Option Addr) (c : Nat) (xs : List Value), i = .int .i64 j ∧ o = .slice a q c ∧ j + rest.length = m ∧ q ≤ j ∧ Hid (l.length = q ∧ l = (env.take j).filter (fun x => decide (0 ≤ Lib.idxOfS ys x.nm)) ∧ rest = env.drop j) ∧ Hid (BindsAt v4 rest a2 j) ∧ Hid (GrowB wr v4.heap.size (.slice a q c) l xs) ∧ Hid (Below v4.heap.size v4 wr)) (fun _ i _ => m - (intOf i).toNat)
        case atStart => exact ⟨0, 0, [], env, _, 0, [], rfl, rfl, by rw [HEN.out]; omega, Nat.le_refl _, ⟨rfl, rfl, rfl⟩, HBE, HG5, HB5⟩
        case round =>
          obtain ⟨j, q, l2, rest, a5, c5, xs, rfl, rfl, hjm, hqj, hL, hxr, hG, hS⟩ := hrel
          cases rest with
          | cons x r =>
            have hjl : j < m := by simp only [List.length_cons] at hjm; omega
            have hjm2 : j + 1 + r.length = m := by simp only [List.length_cons] at hjm; omega
            obtain ⟨⟨y, px, cp, hay, h1, h2, h3, h4, h5, _, _⟩, hr⟩ := (hxr.out.below hS.out)
            subst hay
            have HXR : Hid (BindsAt v4 r (some y) (j + 1)) := hxr.out.2
            have hsx : SmallB x := HSM.out x (by
              have := hL.out.2.2
              have h9 : x ∈ env.drop j := by rw [← this]; exact List.mem_cons_self ..
              exact List.mem_of_mem_drop h9)
            obtain ⟨hd1, hd2⟩ := drop_succ_of hL.out.2.2
            rw [hsx.1] at h5
            have h3' : wr.cell? { block := (y.add (j * 5)).block, off := (y.add (j * 5)).off + 1 + 1 } = some (.int .i64 x.n) := h3
            obtain ⟨nm, kd, nu, tx, FX⟩ := x
            have HSX := Lib.hid hsx
            have HDT : Hid (r = env.drop (j + 1) ∧ env.take (j + 1) = env.take j ++ [⟨nm, kd, nu, tx, FX⟩]) := ⟨hd1, hd2⟩
            have HSI := Lib.hid (spec_index wr a4 c4 ys nm (reads_below HT4.out.1 hS.out) (by have := HUS.out; unfold maxLen; omega))
            dsimp only at *
            simp only [Trees.length] at h5
            clear hxr hr hjm hsx hd1 hd2 
            go_wp2_with fail
            refine HSI.out.mono ?_
            rintro e w9 ⟨rfl, rfl⟩
            by_cases hz : 0 ≤ Lib.idxOfS ys nm
            · have HZ := Lib.hid hz
              generalize Lib.idxOfS ys nm = z at hz
              have hal : Below w9.heap.size w9 (w9.alloc (.cells #[.string nm, .int .i64 kd, .int .i64 nu, .string tx, .slice px 0 cp] 68)) := (Below.refl _ _).alloc (Nat.le_refl _) _
              have hG6 := hG.out.keep (w' := w9.alloc (.cells #[.string nm, .int .i64 kd, .int .i64 nu, .string tx, .slice px 0 cp] 68)) (fun b h1 h2 => hal.block b h2)
              have hown6 := hG6.owns
              rw [hL.out.1] at hown6
              have HO6 := Lib.hid hown6
              have HFLT := Lib.hid hG6.flat
              have HAL := Lib.hid hal
              have HZS : Hid (v4.heap.size ≤ w9.heap.size) := hS.out.size
              clear hG6 hown6 hal HSI
              go_wp2_with (at_builtin; refine wpList_append_lies _ rfl _ _ 61 rfl v4.heap.size 68 i0 (.agg #[.string ⟨#[]⟩, .int .i64 0, .int .i64 0, .string ⟨#[]⟩, .slice none 0 0]) 5 72 Tryz.underlying61 hi hz0 hz1 hz2 rfl (by decide) _ _ _ rfl HO6.out ⟨w9.heap.size, 0, none⟩ 1 1 [.string nm, .int .i64 kd, .int .i64 nu, .string tx, .slice px 0 cp] rfl rfl (grow_five _ _ _ _ _ _ _) (grow_one5 _ _ _ _ _ _ _) (by decide) (by unfold maxLen; omega) (by omega) (by have := HZS.out; simp; omega) (w9.heap.size + 1) (by simp) ?_)
              intro g9 cap9 w10 hown hgrow hat hlt9
              have hfar := hG.out.far
              have hG9 : GrowB w10 v4.heap.size (.slice (some ⟨g9, 0, none⟩) (q + 1) cap9) (l2 ++ [⟨nm, kd, nu, tx, FX⟩]) (xs ++ [.string nm, .int .i64 kd, .int .i64 nu, .string tx, .slice px 0 cp]) := ⟨by rw [List.length_append, hL.out.1]; exact hown, Flat.snoc (x := ⟨nm, kd, nu, tx, FX⟩) HSX.out.1 px cp l2 xs HFLT.out⟩
              have hB9 : Below v4.heap.size v4 w10 := (hS.out.trans (HAL.out.mono hS.out.size)).grown hgrow (Nat.le_trans hS.out.size HAL.out.size) (fun g e => by have := hfar g e; omega)
              have HG9 := Lib.hid hG9
              have HB9 := Lib.hid hB9
              have HL9 : Hid ((l2 ++ [(⟨nm, kd, nu, tx, FX⟩ : BindD)]).length = q + 1 ∧ l2 ++ [(⟨nm, kd, nu, tx, FX⟩ : BindD)] = (env.take (j + 1)).filter (fun x => decide (0 ≤ Lib.idxOfS ys x.nm)) ∧ r = env.drop (j + 1)) := ⟨by rw [List.length_append, hL.out.1]; rfl, by rw [HDT.out.2, List.filter_append, ← hL.out.2.1, List.filter_cons, if_pos (decide_eq_true HZ.out)]; rfl, HDT.out.1⟩
              clear hfar hG9 hB9 hown hgrow hat hlt9 HFLT HO6 HAL HZS hS hL hG h1 h2 h3 h3' h4 h5 hz HZ
              go_wp2
              go_roundw
              case rel => exact ⟨j + 1, q + 1, _, r, _, cap9, _, by go_num, rfl, hjm2, by omega, HL9, HXR, HG9, HB9⟩
              case measure => simp [intOf]; omega
            · have HZ := Lib.hid hz
              generalize Lib.idxOfS ys nm = z at hz
              have HL9 : Hid (l2.length = q ∧ l2 = (env.take (j + 1)).filter (fun x => decide (0 ≤ Lib.idxOfS ys x.nm)) ∧ r = env.drop (j + 1)) := ⟨hL.out.1, by rw [HDT.out.2, List.filter_append, ← hL.out.2.1, List.filter_cons, if_neg (by simpa using HZ.out)]; simp, HDT.out.1⟩
              clear hL h1 h2 h3 h3' h4 h5 HZ HSI
              go_wp2
              go_roundw
              case rel => exact ⟨j + 1, q, l2, r, a5, c5, xs, by go_num, rfl, hjm2, by omega, HL9, HXR, hG, hS⟩
              case measure => simp [intOf]; omega
          | nil =>
            obtain rfl : j = m := by simp only [List.length_nil] at hjm; omega
            obtain ⟨a6, c6, he6, hr6⟩ := hG.out.reads
            rw [hL.out.1] at he6
            have hae : a6 = a5 ∧ c6 = c5 := by injection he6 with h1 h2 h3; exact ⟨h1.symm, h3.symm⟩
            obtain ⟨rfl, rfl⟩ := hae
            have hlf : l2 = env.filter (fun x => decide (0 ≤ Lib.idxOfS ys x.nm)) := by
              have := hL.out.2.1
              rw [← HEN.out, List.take_length] at this
              exact this
            have HUR : Hid (Below v2.heap.size v2 wr) := HV4.out.trans (hS.out.mono HV4.out.size)
            have HES2 := Lib.hid (HES.out wr HUR.out)
            have HEO2 := Lib.hid (fun W (hb : Below wr.heap.size wr W) => HEO.out W (HUR.out.trans (hb.mono HUR.out.size)) l2 (by rw [hL.out.1]; omega) a6 c6 (hr6.below hb))
            rw [hlf] at HEO2
            rw [HFL.out] at HEO2
            rw [← hlf, hL.out.1] at HEO2
            have HRI := Lib.hid (fun W (hb : Below wr.heap.size wr W) => HT4.out.2 W (hS.out.trans (hb.mono hS.out.size)))
            have HCB2 : Hid (∀ W, Below wr.heap.size wr W → W.cell? ⟨v1.heap.size, 0, none⟩ = some (.int .i64 k2) ∧ W.cell? ⟨v1.heap.size, 1, none⟩ = some (.int .i64 n2) ∧ W.cell? ⟨v1.heap.size, 2, none⟩ = some (.string t2) ∧ W.cell? ⟨v1.heap.size, 3, none⟩ = some (.slice p2 F2.length c2)) := fun W hb => HCB.out W (HUR.out.trans (hb.mono HUR.out.size))
            have HZW : Hid (Below w.heap.size w wr) := HZB.out.trans (HUR.out.mono HZB.out.size)
            obtain ⟨y0, y1, y2, y3⟩ := HCB2.out wr (Below.refl _ _)
            generalize F2.length = lf at *
            generalize ys.length = ly at *
            clear he6 hr6 hlf hL hG hS hxr HT4 HXB HCB HEO HES HSM HEN HFL HZB
            go_wp2_with fail
            refine HES2.out.mono ?_
            clear y0 y1 y2 y3 HES2
            rintro e w7 ⟨rfl, hb7⟩
            have HB7 := Lib.hid hb7
            obtain ⟨y0, y1, y2, y3⟩ := HCB2.out w7 hb7
            clear hb7
            have hvv2 : (nv == nv) = true := by simp
            go_wp2_with fail
            refine (HEO2.out w7 HB7.out).mono ?_
            clear y0 y1 y2 y3 HEO2
            rintro e w8 ⟨rfl, hb8⟩
            have HB8 := Lib.hid (HB7.out.trans (hb8.mono HB7.out.size))
            clear hb8
            go_wp2_with fail
            refine (HRI.out w8 HB8.out).mono ?_
            rintro e w9 ⟨rfl, hb9⟩
            have HB9 := Lib.hid (HB8.out.trans (hb9.mono HB8.out.size))
            clear hb9 HRI
            go_wp2
            go_ret
            exact ⟨rfl, HZW.out.trans (HB9.out.mono HZW.out.size)⟩
      · have HNO : Hid (∀ B A, Want s2.data.toList A B → B = false) := fun B A hW => by
          rcases hW with ⟨_, h1, h2, h3, _⟩ | ⟨h, _⟩
          · exact absurd h3 (hno2 A h1 h2)
          · exact h
        obtain ⟨u3, hu3⟩ : ∃ u3, u3 = u2.alloc (.cells #[.int .i64 0, .int .i64 0, .string ⟨#[]⟩, .slice none 0 0] 54) := ⟨_, rfl⟩
        have hB3 : Below u2.heap.size u2 u3 := by rw [hu3]; exact (Below.refl _ _).alloc (Nat.le_refl _) _
        have HU3 := Lib.hid (HU2.out.trans (hB3.mono HU2.out.size))
        have HHU := Lib.hid hu3
        clear hno2 hu3 hB3 HU2
        go_wp2_with fail
        rw [← HHU.out]
        refine (HPS2.out u3).mono ?_
        clear HPS2
        rintro e u4 ⟨⟨A5, B5, hW5, v5, bs5, rfl, ho5, _, _⟩, hb⟩
        obtain rfl := HNO.out B5 A5 hW5
        obtain ⟨p5, c5, rfl, hl5, hx5⟩ := ho5.reads
        obtain ⟨wz, hu5⟩ : ∃ u5, u5 = u4.alloc (.cells #[.int .i64 A5.k, .int .i64 A5.n, .string A5.t, .slice p5 A5.F.length c5] 54) := ⟨_, rfl⟩
        have hB5 : Below u4.heap.size u4 wz := by rw [hu5]; exact (Below.refl _ _).alloc (Nat.le_refl _) _
        have hB35 : Below u3.heap.size u3 wz := hb.trans (hB5.mono hb.size)
        have HBZ : Hid (Below w2.heap.size w2 wz) := HU3.out.trans (hB35.mono HU3.out.size)
        have HWZ : Hid (Below w.heap.size w wz) := HUP.out wz HBZ.out
        have HHU5 := Lib.hid hu5
        clear ho5 hl5 hx5 hu5 hB5 hB35 hb hW5 HNO HU3 HHU
        go_wp2_with fail
        rw [← HHU5.out]
        refine (HD3.out wz (HUP.out wz HBZ.out)).mono ?_
        clear HUP
        rintro e v1 ⟨k2, n2, t2, p2, c2, F2, a2, ca2, env, rfl, ⟨hx, hlc, hcn, htm, hk, hn, ht⟩, hbe, hel, hsm, hb1⟩
        have hfit := F2.tame_fits htm (by unfold maxLen; omega)
        have hcm : F2.count ≤ 1048576 := by omega
        have htm2 : t2.size ≤ maxLen := by unfold maxLen; omega
        have hem : env.length ≤ 1048576 := by omega
        obtain ⟨v2, hv2⟩ : ∃ v2, v2 = v1.alloc (.cells #[.int .i64 k2, .int .i64 n2, .string t2, .slice p2 F2.length c2] 54) := ⟨_, rfl⟩
        have hB2 : Below v1.heap.size v1 v2 := by rw [hv2]; exact (Below.refl _ _).alloc (Nat.le_refl _) _
        have hn2 : v2.heap[v1.heap.size]? = some (.cells #[.int .i64 k2, .int .i64 n2, .string t2, .slice p2 F2.length c2] 54 (0, 0)) := by rw [hv2]; exact heap_at_new v1 _
        have HZB : Hid (Below w.heap.size w v2) := (HWZ.out.trans (hb1.mono HWZ.out.size)).trans (hB2.mono (Nat.le_trans HWZ.out.size hb1.size))
        have HXB : Hid (∀ W, Below v2.heap.size v2 W → TreesAt W F2 p2 0 ∧ BindsAt W env a2 0) := fun W hb => ⟨(hx.below hB2).below hb, (hbe.below hB2).below hb⟩
        have HCB : Hid (∀ W, Below v2.heap.size v2 W → W.cell? ⟨v1.heap.size, 0, none⟩ = some (.int .i64 k2) ∧ W.cell? ⟨v1.heap.size, 1, none⟩ = some (.int .i64 n2) ∧ W.cell? ⟨v1.heap.size, 2, none⟩ = some (.string t2) ∧ W.cell? ⟨v1.heap.size, 3, none⟩ = some (.slice p2 F2.length c2)) := fun W hb => by
          obtain ⟨y0, y1, y2, y3, _⟩ := four_cells ((hb.block _ (Array.getElem?_eq_some_iff.1 hn2).1).trans hn2)
          exact ⟨y0, y1, y2, y3⟩
        have HEI := Lib.hid (fun W hb => impl_eval env hem a2 ca2 W k2 n2 t2 F2 p2 c2 hfit hcm htm2 (HXB.out W hb).1 hlc (HXB.out W hb).2)
        have HES := Lib.hid (fun W hb => spec_eval env hem a2 ca2 W k2 n2 t2 F2 p2 c2 hfit hcm htm2 (HXB.out W hb).1 (HXB.out W hb).2)
        have HEO := Lib.hid (fun W hb env3 (hem3 : List.length env3 ≤ 1048576) a3 ca3 (hb3 : BindsAt W env3 a3 0) => impl_eval env3 hem3 a3 ca3 W k2 n2 t2 F2 p2 c2 hfit hcm htm2 (HXB.out W hb).1 hlc hb3)
        have HVO := Lib.hid (fun W hb => impl_vars W k2 n2 t2 F2 p2 c2 hcm (HXB.out W hb).1 hlc)
        have hus : (sorted (nodeVarsE k2 t2 ++ F2.varsE)).length ≤ 101 := by
          have h1 := sorted_length_le (nodeVarsE k2 t2 ++ F2.varsE)
          have h2 := nodeVarsE_len k2 t2
          have h3 := varsE_len F2
          rw [List.length_append] at h1
          omega
        have HUS := Lib.hid hus
        have HFI2 : Hid (exprV (env.filter fun x => decide (0 ≤ Lib.idxOfS (sorted (nodeVarsE k2 t2 ++ F2.varsE)) x.nm)) k2 n2 t2 F2 = exprV env k2 n2 t2 F2) := exprV_filter (fun nm => decide (0 ≤ Lib.idxOfS (sorted (nodeVarsE k2 t2 ++ F2.varsE)) nm)) env k2 n2 t2 F2 (fun x hx => decide_eq_true ((Lib.idxOfS_nonneg_iff _ _).2 (((sorted_ok _).2 x).2 hx)))
        have HSM := Lib.hid hsm
        have HHV := Lib.hid hv2
        have HEL := Lib.hid hel
        obtain ⟨y0, y1, y2, y3⟩ := HCB.out v2 (Below.refl _ _)
        rw [hv2] at y0 y1 y2 y3
        clear hx hlc hcn htm hk hn ht hbe hel hsm hb1 hfit hcm htm2 hem hv2 hB2 hn2 hus HD3 HWZ HBZ
        generalize nodeVarsE k2 t2 ++ F2.varsE = us at *
        generalize hE1 : exprV env k2 n2 t2 F2 = nv at *
        go_wp2_with fail
        rw [← HHV.out]
        refine (HEI.out v2 (Below.refl _ _)).mono ?_
        clear y0 y1 y2 y3 HEI
        rintro e v3 ⟨rfl, hb⟩
        have HV3 := Lib.hid hb
        obtain ⟨y0, y1, y2, y3⟩ := HCB.out v3 hb
        clear hb
        go_wp2_with fail
        refine (HVO.out v3 HV3.out).mono ?_
        clear y0 y1 y2 y3 HVO
        rintro e v4 hT
        obtain ⟨a4, c4, rfl, hT4, hb⟩ := told_of hT (by have := HUS.out; unfold maxLen; omega)
        have HT4 := Lib.hid hT4
        have HV4 := Lib.hid (HV3.out.trans (hb.mono HV3.out.size))
        have hE2 := HFI2.out
        generalize sorted us = ys at *
        clear hT hT4 hb HV3
        have hlit := GrowB.lit v4 (Nat.le_refl v4.heap.size)
        obtain ⟨v5, hv5⟩ : ∃ v5, v5 = v4.alloc (.cells #[] 68) := ⟨_, rfl⟩
        rw [← hv5] at hlit
        have HG5 := Lib.hid hlit
        have HB5 : Hid (Below v4.heap.size v4 v5) := by rw [hv5]; exact (Below.refl _ _).alloc (Nat.le_refl _) _
        have HV5 := Lib.hid hv5
        have HFL : Hid (exprV (env.filter fun x => decide (0 ≤ Lib.idxOfS ys x.nm)) k2 n2 t2 F2 = nv) := hE2
        have HBE : Hid (BindsAt v4 env a2 0) := (HXB.out v4 HV4.out).2
        generalize hen : env.length = m at *
        have HEN := Lib.hid hen
        clear hlit hv5 hE2 HFI2 hen hE1
        go_wp2
        rw [← HV5.out]
        have hm3 : m ≤ 3 := HEL.out
        go_loopw [16, 17] (fun o i wr => ∃ (j q : Nat) (l : List BindD) (rest : List BindD) (a : Option Addr) (c : Nat) (xs : List Value), i = .int .i64 j ∧ o = .slice a q c ∧ j + rest.length = m ∧ q ≤ j ∧ Hid (l.length = q ∧ l = (env.take j).filter (fun x => decide (0 ≤ Lib.idxOfS ys x.nm)) ∧ rest = env.drop j) ∧ Hid (BindsAt v4 rest a2 j) ∧ Hid (GrowB wr v4.heap.size (.slice a q c) l xs) ∧ Hid (Below v4.heap.size v4 wr)) (fun _ i _ => m - (intOf i).toNat)
        case atStart => exact ⟨0, 0, [], env, _, 0, [], rfl, rfl, by rw [HEN.out]; omega, Nat.le_refl _, ⟨rfl, rfl, rfl⟩, HBE, HG5, HB5⟩
        case round =>
          obtain ⟨j, q, l2, rest, a5, c5, xs, rfl, rfl, hjm, hqj, hL, hxr, hG, hS⟩ := hrel
          cases rest with
          | cons x r =>
            have hjl : j < m := by simp only [List.length_cons] at hjm; omega
            have hjm2 : j + 1 + r.length = m := by simp only [List.length_cons] at hjm; omega
            obtain ⟨⟨y, px, cp, hay, h1, h2, h3, h4, h5, _, _⟩, hr⟩ := (hxr.out.below hS.out)
            subst hay
            have HXR : Hid (BindsAt v4 r (some y) (j + 1)) := hxr.out.2
            have hsx : SmallB x := HSM.out x (by
              have := hL.out.2.2
              have h9 : x ∈ env.drop j := by rw [← this]; exact List.mem_cons_self ..
              exact List.mem_of_mem_drop h9)
            obtain ⟨hd1, hd2⟩ := drop_succ_of hL.out.2.2
            rw [hsx.1] at h5
            have h3' : wr.cell? { block := (y.add (j * 5)).block, off := (y.add (j * 5)).off + 1 + 1 } = some (.int .i64 x.n) := h3
            obtain ⟨nm, kd, nu, tx, FX⟩ := x
            have HSX := Lib.hid hsx
            have HDT : Hid (r = env.drop (j + 1) ∧ env.take (j + 1) = env.take j ++ [⟨nm, kd, nu, tx, FX⟩]) := ⟨hd1, hd2⟩
            have HSI := Lib.hid (spec_index wr a4 c4 ys nm (reads_below HT4.out.1 hS.out) (by have := HUS.out; unfold maxLen; omega))
            dsimp only at *
            simp only [Trees.length] at h5
            clear hxr hr hjm hsx hd1 hd2 
            go_wp2_with fail
            refine HSI.out.mono ?_
            rintro e w9 ⟨rfl, rfl⟩
            by_cases hz : 0 ≤ Lib.idxOfS ys nm
            · have HZ := Lib.hid hz
              generalize Lib.idxOfS ys nm = z at hz
              have hal : Below w9.heap.size w9 (w9.alloc (.cells #[.string nm, .int .i64 kd, .int .i64 nu, .string tx, .slice px 0 cp] 68)) := (Below.refl _ _).alloc (Nat.le_refl _) _
              have hG6 := hG.out.keep (w' := w9.alloc (.cells #[.string nm, .int .i64 kd, .int .i64 nu, .string tx, .slice px 0 cp] 68)) (fun b h1 h2 => hal.block b h2)
              have hown6 := hG6.owns
              rw [hL.out.1] at hown6
              have HO6 := Lib.hid hown6
              have HFLT := Lib.hid hG6.flat
              have HAL := Lib.hid hal
              have HZS : Hid (v4.heap.size ≤ w9.heap.size) := hS.out.size
              clear hG6 hown6 hal HSI
              go_wp2_with (at_builtin; refine wpList_append_lies _ rfl _ _ 61 rfl v4.heap.size 68 i0 (.agg #[.string ⟨#[]⟩, .int .i64 0, .int .i64 0, .string ⟨#[]⟩, .slice none 0 0]) 5 72 Tryz.underlying61 hi hz0 hz1 hz2 rfl (by decide) _ _ _ rfl HO6.out ⟨w9.heap.size, 0, none⟩ 1 1 [.string nm, .int .i64 kd, .int .i64 nu, .string tx, .slice px 0 cp] rfl rfl (grow_five _ _ _ _ _ _ _) (grow_one5 _ _ _ _ _ _ _) (by decide) (by unfold maxLen; omega) (by omega) (by have := HZS.out; simp; omega) (w9.heap.size + 1) (by simp) ?_)
              intro g9 cap9 w10 hown hgrow hat hlt9
              have hfar := hG.out.far
              have hG9 : GrowB w10 v4.heap.size (.slice (some ⟨g9, 0, none⟩) (q + 1) cap9) (l2 ++ [⟨nm, kd, nu, tx, FX⟩]) (xs ++ [.string nm, .int .i64 kd, .int .i64 nu, .string tx, .slice px 0 cp]) := ⟨by rw [List.length_append, hL.out.1]; exact hown, Flat.snoc (x := ⟨nm, kd, nu, tx, FX⟩) HSX.out.1 px cp l2 xs HFLT.out⟩
              have hB9 : Below v4.heap.size v4 w10 := (hS.out.trans (HAL.out.mono hS.out.size)).grown hgrow (Nat.le_trans hS.out.size HAL.out.size) (fun g e => by have := hfar g e; omega)
              have HG9 := Lib.hid hG9
              have HB9 := Lib.hid hB9
              have HL9 : Hid ((l2 ++ [(⟨nm, kd, nu, tx, FX⟩ : BindD)]).length = q + 1 ∧ l2 ++ [(⟨nm, kd, nu, tx, FX⟩ : BindD)] = (env.take (j + 1)).filter (fun x => decide (0 ≤ Lib.idxOfS ys x.nm)) ∧ r = env.drop (j + 1)) := ⟨by rw [List.length_append, hL.out.1]; rfl, by rw [HDT.out.2, List.filter_append, ← hL.out.2.1, List.filter_cons, if_pos (decide_eq_true HZ.out)]; rfl, HDT.out.1⟩
              clear hfar hG9 hB9 hown hgrow hat hlt9 HFLT HO6 HAL HZS hS hL hG h1 h2 h3 h3' h4 h5 hz HZ
              go_wp2
              go_roundw
              case rel => exact ⟨j + 1, q + 1, _, r, _, cap9, _, by go_num, rfl, hjm2, by omega, HL9, HXR, HG9, HB9⟩
              case measure => simp [intOf]; omega
            · have HZ := Lib.hid hz
              generalize Lib.idxOfS ys nm = z at hz
              have HL9 : Hid (l2.length = q ∧ l2 = (env.take (j + 1)).filter (fun x => decide (0 ≤ Lib.idxOfS ys x.nm)) ∧ r = env.drop (j + 1)) := ⟨hL.out.1, by rw [HDT.out.2, List.filter_append, ← hL.out.2.1, List.filter_cons, if_neg (by simpa using HZ.out)]; simp, HDT.out.1⟩
              clear hL h1 h2 h3 h3' h4 h5 HZ HSI
              go_wp2
              go_roundw
              case rel => exact ⟨j + 1, q, l2, r, a5, c5, xs, by go_num, rfl, hjm2, by omega, HL9, HXR, hG, hS⟩
              case measure => simp [intOf]; omega
          | nil =>
            obtain rfl : j = m := by simp only [List.length_nil] at hjm; omega
            obtain ⟨a6, c6, he6, hr6⟩ := hG.out.reads
            rw [hL.out.1] at he6
            have hae : a6 = a5 ∧ c6 = c5 := by injection he6 with h1 h2 h3; exact ⟨h1.symm, h3.symm⟩
            obtain ⟨rfl, rfl⟩ := hae
            have hlf : l2 = env.filter (fun x => decide (0 ≤ Lib.idxOfS ys x.nm)) := by
              have := hL.out.2.1
              rw [← HEN.out, List.take_length] at this
              exact this
            have HUR : Hid (Below v2.heap.size v2 wr) := HV4.out.trans (hS.out.mono HV4.out.size)
            have HES2 := Lib.hid (HES.out wr HUR.out)
            have HEO2 := Lib.hid (fun W (hb : Below wr.heap.size wr W) => HEO.out W (HUR.out.trans (hb.mono HUR.out.size)) l2 (by rw [hL.out.1]; omega) a6 c6 (hr6.below hb))
            rw [hlf] at HEO2
            rw [HFL.out] at HEO2
            rw [← hlf, hL.out.1] at HEO2
            have HRI := Lib.hid (fun W (hb : Below wr.heap.size wr W) => HT4.out.2 W (hS.out.trans (hb.mono hS.out.size)))
            have HCB2 : Hid (∀ W, Below wr.heap.size wr W → W.cell? ⟨v1.heap.size, 0, none⟩ = some (.int .i64 k2) ∧ W.cell? ⟨v1.heap.size, 1, none⟩ = some (.int .i64 n2) ∧ W.cell? ⟨v1.heap.size, 2, none⟩ = some (.string t2) ∧ W.cell? ⟨v1.heap.size, 3, none⟩ = some (.slice p2 F2.length c2)) := fun W hb => HCB.out W (HUR.out.trans (hb.mono HUR.out.size))
            have HZW : Hid (Below w.heap.size w wr) := HZB.out.trans (HUR.out.mono HZB.out.size)
            obtain ⟨y0, y1, y2, y3⟩ := HCB2.out wr (Below.refl _ _)
            generalize F2.length = lf at *
            generalize ys.length = ly at *
            clear he6 hr6 hlf hL hG hS hxr HT4 HXB HCB HEO HES HSM HEN HFL HZB
            go_wp2_with fail
            refine HES2.out.mono ?_
            clear y0 y1 y2 y3 HES2
            rintro e w7 ⟨rfl, hb7⟩
            have HB7 := Lib.hid hb7
            obtain ⟨y0, y1, y2, y3⟩ := HCB2.out w7 hb7
            clear hb7
            have hvv2 : (nv == nv) = true := by simp
            go_wp2_with fail
            refine (HEO2.out w7 HB7.out).mono ?_
            clear y0 y1 y2 y3 HEO2
            rintro e w8 ⟨rfl, hb8⟩
            have HB8 := Lib.hid (HB7.out.trans (hb8.mono HB7.out.size))
            clear hb8
            go_wp2_with fail
            refine (HRI.out w8 HB8.out).mono ?_
            rintro e w9 ⟨rfl, hb9⟩
            have HB9 := Lib.hid (HB8.out.trans (hb9.mono HB8.out.size))
            clear hb9 HRI
            go_wp2
            go_ret
            exact ⟨rfl, HZW.out.trans (HB9.out.mono HZW.out.size)⟩
  · cases V with
    | true =>
      obtain ⟨hyg, hyf, hyt⟩ := HYE.out rfl
      exact absurd hyt (hno _ hyg hyf)
    | false =>
      obtain ⟨w5, hw5⟩ : ∃ w5, w5 = w4.alloc (.cells #[.int .i64 0, .int .i64 0, .string ⟨#[]⟩, .slice none 0 0] 54) := ⟨_, rfl⟩
      have hB5 : Below w4.heap.size w4 w5 := by rw [hw5]; exact (Below.refl _ _).alloc (Nat.le_refl _) _
      have HB5 := Lib.hid (HB4.out.trans (hB5.mono HB4.out.size))
      have HHW := Lib.hid hw5
      obtain ⟨y0, y1, y2, y3⟩ := HBX.out w5 HB5.out
      rw [hw5] at y0 y1 y2 y3
      clear hno hw5 hB5 hb4 HB4 HB3 HPI HNE HYE HW2 HEQ
      go_wp2_with fail
      rw [← HHW.out]
      refine (HFS.out w5 HB5.out).mono ?_
      clear y0 y1 y2 y3
      rintro e w6 ⟨rfl, hb6⟩
      have HB6 := Lib.hid (HB5.out.trans (hb6.mono HB5.out.size))
      obtain ⟨y0, y1, y2, y3⟩ := HBX.out w6 HB6.out
      clear hb6 HFS
      go_wp2_with fail
      refine (HVS.out w6 HB6.out).mono ?_
      clear y0 y1 y2 y3
      rintro e w7 ⟨rfl, hb7⟩
      have HB7 := Lib.hid (HB6.out.trans (hb7.mono HB6.out.size))
      obtain ⟨y0, y1, y2, y3⟩ := HBX.out w7 HB7.out
      clear hb7 HVS HB6
      go_wp2_with fail
      refine (HVI.out w7 HB7.out).mono ?_
      clear y0 y1 y2 y3
      rintro e wy ⟨rfl, hb8⟩
      have HBY := Lib.hid (HB7.out.trans (hb8.mono HB7.out.size))
      clear hb8 HVI HB7 HBX HHW HB5 HFI
      go_wp2_with fail
      refine (HD2.out wy (HUP.out wy HBY.out)).mono ?_
      rintro e u1 ⟨s2, hs2, rfl, hb⟩
      have HU1 := Lib.hid (HBY.out.trans (hb.mono HBY.out.size))
      have hs2m : s2.size ≤ 1048576 := by omega
      have HPI2 := Lib.hid (fun W hb => impl_ParseExpr s2 hs2m W (HLV.out W (HUP.out W hb)))
      have HPS2 := Lib.hid (fun W => spec_ParseExpr s2 hs2m W)
      clear hb hs2 hs2m HD2 HBY
      go_wp2_with fail
      refine (HPI2.out u1 HU1.out).mono ?_
      rintro e u2 ⟨hP2, hb⟩
      have HU2 := Lib.hid (HU1.out.trans (hb.mono HU1.out.size))
      clear HPI2 HU1 hb
      rcases hP2 with ⟨q2, v2, bs2, rfl, ho2, hnd2, hbs2, hg2, htx2, hf2⟩ | ⟨rfl, hno2⟩
      · obtain ⟨p9, c9, rfl, hl9, hx9⟩ := ho2.reads
        obtain ⟨u3, hu3⟩ : ∃ u3, u3 = u2.alloc (.cells #[.int .i64 q2.k, .int .i64 q2.n, .string q2.t, .slice p9 q2.F.length c9] 54) := ⟨_, rfl⟩
        have hB3 : Below u2.heap.size u2 u3 := by rw [hu3]; exact (Below.refl _ _).alloc (Nat.le_refl _) _
        have hn3 : u3.heap[u2.heap.size]? = some (.cells #[.int .i64 q2.k, .int .i64 q2.n, .string q2.t, .slice p9 q2.F.length c9] 54 (0, 0)) := by rw [hu3]; exact heap_at_new u2 _
        have HU3 := Lib.hid (HU2.out.trans (hB3.mono HU2.out.size))
        have HC3 : Hid (∀ W, Below u3.heap.size u3 W → W.cell? ⟨u2.heap.size, 0, none⟩ = some (.int .i64 q2.k) ∧ W.cell? ⟨u2.heap.size, 1, none⟩ = some (.int .i64 q2.n) ∧ W.cell? ⟨u2.heap.size, 2, none⟩ = some (.string q2.t) ∧ W.cell? ⟨u2.heap.size, 3, none⟩ = some (.slice p9 q2.F.length c9)) := fun W hb => by
          obtain ⟨y0, y1, y2, y3, _⟩ := four_cells ((hb.block _ (Array.getElem?_eq_some_iff.1 hn3).1).trans hn3)
          exact ⟨y0, y1, y2, y3⟩
        have hcq : q2.F.count ≤ 1048576 := by have := hf2.1; omega
        have hff2 : exprFmt q2.k q2.n q2.t q2.F = s2 := by
          unfold exprFmt
          rw [if_pos ((valid_iff hg2).2 hf2)]
          show str (text q2) = s2
          rw [htx2, str_data]
        have HF3 := Lib.hid (fun W (hb : Below u3.heap.size u3 W) => impl_format_expr W q2.k q2.n q2.t q2.F p9 c9 (formedE_fits _ hg2.2) hcq (form_small hg2.1).2.2.1 ((hx9.below hB3).below hb) hl9 (HLV.out W (HUP.out W (HU3.out.trans (hb.mono HU3.out.size)))).tab)
        rw [hff2] at HF3
        have HNO : Hid (∀ B A, Want s2.data.toList A B → B = true) := fun B A hW => by
          rcases hW with ⟨h, _⟩ | ⟨_, _, hn⟩
          · exact h
          · exact absurd htx2 (hn q2 hg2 hf2)
        have HHU := Lib.hid hu3
        have hse2 : (s2.toList != s2.toList) = false := by simp
        clear ho2 hnd2 hbs2 hg2 htx2 hf2 hl9 hx9 hu3 hB3 hn3 hcq hff2 HU2
        generalize q2.F.length = l9 at *
        generalize q2.k = k9 at *
        generalize q2.n = n9 at *
        generalize q2.t = t9 at *
        go_wp2_with fail
        rw [← HHU.out]
        refine (HPS2.out u3).mono ?_
        clear HPS2
        rintro e u4 ⟨⟨A5, B5, hW5, v5, bs5, rfl, ho5, _, _⟩, hb⟩
        obtain rfl := HNO.out B5 A5 hW5
        obtain ⟨p5, c5, rfl, hl5, hx5⟩ := ho5.reads
        obtain ⟨u5, hu5⟩ : ∃ u5, u5 = u4.alloc (.cells #[.int .i64 A5.k, .int .i64 A5.n, .string A5.t, .slice p5 A5.F.length c5] 54) := ⟨_, rfl⟩
        have hB5 : Below u4.heap.size u4 u5 := by rw [hu5]; exact (Below.refl _ _).alloc (Nat.le_refl _) _
        have hB35 : Below u3.heap.size u3 u5 := hb.trans (hB5.mono hb.size)
        have HU5 := Lib.hid (HU3.out.trans (hB35.mono HU3.out.size))
        obtain ⟨y0, y1, y2, y3⟩ := HC3.out u5 hB35
        have HF5 := Lib.hid (HF3.out u5 hB35)
        have HHU5 := Lib.hid hu5
        rw [hu5] at y0 y1 y2 y3
        clear ho5 hl5 hx5 hu5 hB5 hB35 hb hW5 HNO HF3 HC3 HU3 HHU
        go_wp2_with fail
        rw [← HHU5.out]
        refine HF5.out.mono ?_
        clear y0 y1 y2 y3 HF5
        rintro e wz ⟨rfl, hb⟩
        have HBZ : Hid (Below w2.heap.size w2 wz) := HU5.out.trans (hb.mono HU5.out.size)
        have HWZ : Hid (Below w.heap.size w wz) := HUP.out wz HBZ.out
        clear hb HU5 HHU5
        go_wp2_with fail
        refine (HD3.out wz (HUP.out wz HBZ.out)).mono ?_
        clear HUP
        rintro e v1 ⟨k2, n2, t2, p2, c2, F2, a2, ca2, env, rfl, ⟨hx, hlc, hcn, htm, hk, hn, ht⟩, hbe, hel, hsm, hb1⟩
        have hfit := F2.tame_fits htm (by unfold maxLen; omega)
        have hcm : F2.count ≤ 1048576 := by omega
        have htm2 : t2.size ≤ maxLen := by unfold maxLen; omega
        have hem : env.length ≤ 1048576 := by omega
        obtain ⟨v2, hv2⟩ : ∃ v2, v2 = v1.alloc (.cells #[.int .i64 k2, .int .i64 n2, .string t2, .slice p2 F2.length c2] 54) := ⟨_, rfl⟩
        have hB2 : Below v1.heap.size v1 v2 := by rw [hv2]; exact (Below.refl _ _).alloc (Nat.le_refl _) _
        have hn2 : v2.heap[v1.heap.size]? = some (.cells #[.int .i64 k2, .int .i64 n2, .string t2, .slice p2 F2.length c2] 54 (0, 0)) := by rw [hv2]; exact heap_at_new v1 _
        have HZB : Hid (Below w.heap.size w v2) := (HWZ.out.trans (hb1.mono HWZ.out.size)).trans (hB2.mono (Nat.le_trans HWZ.out.size hb1.size))
        have HXB : Hid (∀ W, Below v2.heap.size v2 W → TreesAt W F2 p2 0 ∧ BindsAt W env a2 0) := fun W hb => ⟨(hx.below hB2).below hb, (hbe.below hB2).below hb⟩
        have HCB : Hid (∀ W, Below v2.heap.size v2 W → W.cell? ⟨v1.heap.size, 0, none⟩ = some (.int .i64 k2) ∧ W.cell? ⟨v1.heap.size, 1, none⟩ = some (.int .i64 n2) ∧ W.cell? ⟨v1.heap.size, 2, none⟩ = some (.string t2) ∧ W.cell? ⟨v1.heap.size, 3, none⟩ = some (.slice p2 F2.length c2)) := fun W hb => by
          obtain ⟨y0, y1, y2, y3, _⟩ := four_cells ((hb.block _ (Array.getElem?_eq_some_iff.1 hn2).1).trans hn2)
          exact ⟨y0, y1, y2, y3⟩
        have HEI := Lib.hid (fun W hb => impl_eval env hem a2 ca2 W k2 n2 t2 F2 p2 c2 hfit hcm htm2 (HXB.out W hb).1 hlc (HXB.out W hb).2)
        have HES := Lib.hid (fun W hb => spec_eval env hem a2 ca2 W k2 n2 t2 F2 p2 c2 hfit hcm htm2 (HXB.out W hb).1 (HXB.out W hb).2)
        have HEO := Lib.hid (fun W hb env3 (hem3 : List.length env3 ≤ 1048576) a3 ca3 (hb3 : BindsAt W env3 a3 0) => impl_eval env3 hem3 a3 ca3 W k2 n2 t2 F2 p2 c2 hfit hcm htm2 (HXB.out W hb).1 hlc hb3)
        have HVO := Lib.hid (fun W hb => impl_vars W k2 n2 t2 F2 p2 c2 hcm (HXB.out W hb).1 hlc)
        have hus : (sorted (nodeVarsE k2 t2 ++ F2.varsE)).length ≤ 101 := by
          have h1 := sorted_length_le (nodeVarsE k2 t2 ++ F2.varsE)
          have h2 := nodeVarsE_len k2 t2
          have h3 := varsE_len F2
          rw [List.length_append] at h1
          omega
        have HUS := Lib.hid hus
        have HFI2 : Hid (exprV (env.filter fun x => decide (0 ≤ Lib.idxOfS (sorted (nodeVarsE k2 t2 ++ F2.varsE)) x.nm)) k2 n2 t2 F2 = exprV env k2 n2 t2 F2) := exprV_filter (fun nm => decide (0 ≤ Lib.idxOfS (sorted (nodeVarsE k2 t2 ++ F2.varsE)) nm)) env k2 n2 t2 F2 (fun x hx => decide_eq_true ((Lib.idxOfS_nonneg_iff _ _).2 (((sorted_ok _).2 x).2 hx)))
        have HSM := Lib.hid hsm
        have HHV := Lib.hid hv2
        have HEL := Lib.hid hel
        obtain ⟨y0, y1, y2, y3⟩ := HCB.out v2 (Below.refl _ _)
        rw [hv2] at y0 y1 y2 y3
        clear hx hlc hcn htm hk hn ht hbe hel hsm hb1 hfit hcm htm2 hem hv2 hB2 hn2 hus HD3 HWZ HBZ
        generalize nodeVarsE k2 t2 ++ F2.varsE = us at *
        generalize hE1 : exprV env k2 n2 t2 F2 = nv at *
        go_wp2_with fail
        rw [← HHV.out]
        refine (HEI.out v2 (Below.refl _ _)).mono ?_
        clear y0 y1 y2 y3 HEI
        rintro e v3 ⟨rfl, hb⟩
        have HV3 := Lib.hid hb
        obtain ⟨y0, y1, y2, y3⟩ := HCB.out v3 hb
        clear hb
        go_wp2_with fail
        refine (HVO.out v3 HV3.out).mono ?_
        clear y0 y1 y2 y3 HVO
        rintro e v4 hT
        obtain ⟨a4, c4, rfl, hT4, hb⟩ := told_of hT (by have := HUS.out; unfold maxLen; omega)
        have HT4 := Lib.hid hT4
        have HV4 := Lib.hid (HV3.out.trans (hb.mono HV3.out.size))
        have hE2 := HFI2.out
        generalize sorted us = ys at *
        clear hT hT4 hb HV3
        have hlit := GrowB.lit v4 (Nat.le_refl v4.heap.size)
        obtain ⟨v5, hv5⟩ : ∃ v5, v5 = v4.alloc (.cells #[] 68) := ⟨_, rfl⟩
        rw [← hv5] at hlit
        have HG5 := Lib.hid hlit
        have HB5 : Hid (Below v4.heap.size v4 v5) := by rw [hv5]; exact (Below.refl _ _).alloc (Nat.le_refl _) _
        have HV5 := Lib.hid hv5
        have HFL : Hid (exprV (env.filter fun x => decide (0 ≤ Lib.idxOfS ys x.nm)) k2 n2 t2 F2 = nv) := hE2
        have HBE : Hid (BindsAt v4 env a2 0) := (HXB.out v4 HV4.out).2
        generalize hen : env.length = m at *
        have HEN := Lib.hid hen
        clear hlit hv5 hE2 HFI2 hen hE1
        go_wp2
        rw [← HV5.out]
        have hm3 : m ≤ 3 := HEL.out
        go_loopw [16, 17] (fun o i wr => ∃ (j q : Nat) (l : List BindD) (rest : List BindD) (a : Option Addr) (c : Nat) (xs : List Value), i = .int .i64 j ∧ o = .slice a q c ∧ j + rest.length = m ∧ q ≤ j ∧ Hid (l.length = q ∧ l = (env.take j).filter (fun x => decide (0 ≤ Lib.idxOfS ys x.nm)) ∧ rest = env.drop j) ∧ Hid (BindsAt v4 rest a2 j) ∧ Hid (GrowB wr v4.heap.size (.slice a q c) l xs) ∧ Hid (Below v4.heap.size v4 wr)) (fun _ i _ => m - (intOf i).toNat)
        case atStart => exact ⟨0, 0, [], env, _, 0, [], rfl, rfl, by rw [HEN.out]; omega, Nat.le_refl _, ⟨rfl, rfl, rfl⟩, HBE, HG5, HB5⟩
        case round =>
          obtain ⟨j, q, l2, rest, a5, c5, xs, rfl, rfl, hjm, hqj, hL, hxr, hG, hS⟩ := hrel
          cases rest with
          | cons x r =>
            have hjl : j < m := by simp only [List.length_cons] at hjm; omega
            have hjm2 : j + 1 + r.length = m := by simp only [List.length_cons] at hjm; omega
            obtain ⟨⟨y, px, cp, hay, h1, h2, h3, h4, h5, _, _⟩, hr⟩ := (hxr.out.below hS.out)
            subst hay
            have HXR : Hid (BindsAt v4 r (some y) (j + 1)) := hxr.out.2
            have hsx : SmallB x := HSM.out x (by
              have := hL.out.2.2
              have h9 : x ∈ env.drop j := by rw [← this]; exact List.mem_cons_self ..
              exact List.mem_of_mem_drop h9)
            obtain ⟨hd1, hd2⟩ := drop_succ_of hL.out.2.2
            rw [hsx.1] at h5
            have h3' : wr.cell? { block := (y.add (j * 5)).block, off := (y.add (j * 5)).off + 1 + 1 } = some (.int .i64 x.n) := h3
            obtain ⟨nm, kd, nu, tx, FX⟩ := x
            have HSX := Lib.hid hsx
            have HDT : Hid (r = env.drop (j + 1) ∧ env.take (j + 1) = env.take j ++ [⟨nm, kd, nu, tx, FX⟩]) := ⟨hd1, hd2⟩
            have HSI := Lib.hid (spec_index wr a4 c4 ys nm (reads_below HT4.out.1 hS.out) (by have := HUS.out; unfold maxLen; omega))
            dsimp only at *
            simp only [Trees.length] at h5
            clear hxr hr hjm hsx hd1 hd2 
            go_wp2_with fail
            refine HSI.out.mono ?_
            rintro e w9 ⟨rfl, rfl⟩
            by_cases hz : 0 ≤ Lib.idxOfS ys nm
            · have HZ := Lib.hid hz
              generalize Lib.idxOfS ys nm = z at hz
              have hal : Below w9.heap.size w9 (w9.alloc (.cells #[.string nm, .int .i64 kd, .int .i64 nu, .string tx, .slice px 0 cp] 68)) := (Below.refl _ _).alloc (Nat.le_refl _) _
              have hG6 := hG.out.keep (w' := w9.alloc (.cells #[.string nm, .int .i64 kd, .int .i64 nu, .string tx, .slice px 0 cp] 68)) (fun b h1 h2 => hal.block b h2)
              have hown6 := hG6.owns
              rw [hL.out.1] at hown6
              have HO6 := Lib.hid hown6
              have HFLT := Lib.hid hG6.flat
              have HAL := Lib.hid hal
              have HZS : Hid (v4.heap.size ≤ w9.heap.size) := hS.out.size
              clear hG6 hown6 hal HSI
              go_wp2_with (at_builtin; refine wpList_append_lies _ rfl _ _ 61 rfl v4.heap.size 68 i0 (.agg #[.string ⟨#[]⟩, .int .i64 0, .int .i64 0, .string ⟨#[]⟩, .slice none 0 0]) 5 72 Tryz.underlying61 hi hz0 hz1 hz2 rfl (by decide) _ _ _ rfl HO6.out ⟨w9.heap.size, 0, none⟩ 1 1 [.string nm, .int .i64 kd, .int .i64 nu, .string tx, .slice px 0 cp] rfl rfl (grow_five _ _ _ _ _ _ _) (grow_one5 _ _ _ _ _ _ _) (by decide) (by unfold maxLen; omega) (by omega) (by have := HZS.out; simp; omega) (w9.heap.size + 1) (by simp) ?_)
              intro g9 cap9 w10 hown hgrow hat hlt9
              have hfar := hG.out.far
              have hG9 : GrowB w10 v4.heap.size (.slice (some ⟨g9, 0, none⟩) (q + 1) cap9) (l2 ++ [⟨nm, kd, nu, tx, FX⟩]) (xs ++ [.string nm, .int .i64 kd, .int .i64 nu, .string tx, .slice px 0 cp]) := ⟨by rw [List.length_append, hL.out.1]; exact hown, Flat.snoc (x := ⟨nm, kd, nu, tx, FX⟩) HSX.out.1 px cp l2 xs HFLT.out⟩
              have hB9 : Below v4.heap.size v4 w10 := (hS.out.trans (HAL.out.mono hS.out.size)).grown hgrow (Nat.le_trans hS.out.size HAL.out.size) (fun g e => by have := hfar g e; omega)
              have HG9 := Lib.hid hG9
              have HB9 := Lib.hid hB9
              have HL9 : Hid ((l2 ++ [(⟨nm, kd, nu, tx, FX⟩ : BindD)]).length = q + 1 ∧ l2 ++ [(⟨nm, kd, nu, tx, FX⟩ : BindD)] = (env.take (j + 1)).filter (fun x => decide (0 ≤ Lib.idxOfS ys x.nm)) ∧ r = env.drop (j + 1)) := ⟨by rw [List.length_append, hL.out.1]; rfl, by rw [HDT.out.2, List.filter_append, ← hL.out.2.1, List.filter_cons, if_pos (decide_eq_true HZ.out)]; rfl, HDT.out.1⟩
              clear hfar hG9 hB9 hown hgrow hat hlt9 HFLT HO6 HAL HZS hS hL hG h1 h2 h3 h3' h4 h5 hz HZ
              go_wp2
              go_roundw
              case rel => exact ⟨j + 1, q + 1, _, r, _, cap9, _, by go_num, rfl, hjm2, by omega, HL9, HXR, HG9, HB9⟩
              case measure => simp [intOf]; omega
            · have HZ := Lib.hid hz
              generalize Lib.idxOfS ys nm = z at hz
              have HL9 : Hid (l2.length = q ∧ l2 = (env.take (j + 1)).filter (fun x => decide (0 ≤ Lib.idxOfS ys x.nm)) ∧ r = env.drop (j + 1)) := ⟨hL.out.1, by rw [HDT.out.2, List.filter_append, ← hL.out.2.1, List.filter_cons, if_neg (by simpa using HZ.out)]; simp, HDT.out.1⟩
              clear hL h1 h2 h3 h3' h4 h5 HZ HSI
              go_wp2
              go_roundw
              case rel => exact ⟨j + 1, q, l2, r, a5, c5, xs, by go_num, rfl, hjm2, by omega, HL9, HXR, hG, hS⟩
              case measure => simp [intOf]; omega
          | nil =>
            obtain rfl : j = m := by simp only [List.length_nil] at hjm; omega
            obtain ⟨a6, c6, he6, hr6⟩ := hG.out.reads
            rw [hL.out.1] at he6
            have hae : a6 = a5 ∧ c6 = c5 := by injection he6 with h1 h2 h3; exact ⟨h1.symm, h3.symm⟩
            obtain ⟨rfl, rfl⟩ := hae
            have hlf : l2 = env.filter (fun x => decide (0 ≤ Lib.idxOfS ys x.nm)) := by
              have := hL.out.2.1
              rw [← HEN.out, List.take_length] at this
              exact this
            have HUR : Hid (Below v2.heap.size v2 wr) := HV4.out.trans (hS.out.mono HV4.out.size)
            have HES2 := Lib.hid (HES.out wr HUR.out)
            have HEO2 := Lib.hid (fun W (hb : Below wr.heap.size wr W) => HEO.out W (HUR.out.trans (hb.mono HUR.out.size)) l2 (by rw [hL.out.1]; omega) a6 c6 (hr6.below hb))
            rw [hlf] at HEO2
            rw [HFL.out] at HEO2
            rw [← hlf, hL.out.1] at HEO2
            have HRI := Lib.hid (fun W (hb : Below wr.heap.size wr W) => HT4.out.2 W (hS.out.trans (hb.mono hS.out.size)))
            have HCB2 : Hid (∀ W, Below wr.heap.size wr W → W.cell? ⟨v1.heap.size, 0, none⟩ = some (.int .i64 k2) ∧ W.cell? ⟨v1.heap.size, 1, none⟩ = some (.int .i64 n2) ∧ W.cell? ⟨v1.heap.size, 2, none⟩ = some (.string t2) ∧ W.cell? ⟨v1.heap.size, 3, none⟩ = some (.slice p2 F2.length c2)) := fun W hb => HCB.out W (HUR.out.trans (hb.mono HUR.out.size))
            have HZW : Hid (Below w.heap.size w wr) := HZB.out.trans (HUR.out.mono HZB.out.size)
            obtain ⟨y0, y1, y2, y3⟩ := HCB2.out wr (Below.refl _ _)
            generalize F2.length = lf at *
            generalize ys.length = ly at *
            clear he6 hr6 hlf hL hG hS hxr HT4 HXB HCB HEO HES HSM HEN HFL HZB
            go_wp2_with fail
            refine HES2.out.mono ?_
            clear y0 y1 y2 y3 HES2
            rintro e w7 ⟨rfl, hb7⟩
            have HB7 := Lib.hid hb7
            obtain ⟨y0, y1, y2, y3⟩ := HCB2.out w7 hb7
            clear hb7
            have hvv2 : (nv == nv) = true := by simp
            go_wp2_with fail
            refine (HEO2.out w7 HB7.out).mono ?_
            clear y0 y1 y2 y3 HEO2
            rintro e w8 ⟨rfl, hb8⟩
            have HB8 := Lib.hid (HB7.out.trans (hb8.mono HB7.out.size))
            clear hb8
            go_wp2_with fail
            refine (HRI.out w8 HB8.out).mono ?_
            rintro e w9 ⟨rfl, hb9⟩
            have HB9 := Lib.hid (HB8.out.trans (hb9.mono HB8.out.size))
            clear hb9 HRI
            go_wp2
            go_ret
            exact ⟨rfl, HZW.out.trans (HB9.out.mono HZW.out.size)⟩
      · have HNO : Hid (∀ B A, Want s2.data.toList A B → B = false) := fun B A hW => by
          rcases hW with ⟨_, h1, h2, h3, _⟩ | ⟨h, _⟩
          · exact absurd h3 (hno2 A h1 h2)
          · exact h
        obtain ⟨u3, hu3⟩ : ∃ u3, u3 = u2.alloc (.cells #[.int .i64 0, .int .i64 0, .string ⟨#[]⟩, .slice none 0 0] 54) := ⟨_, rfl⟩
        have hB3 : Below u2.heap.size u2 u3 := by rw [hu3]; exact (Below.refl _ _).alloc (Nat.le_refl _) _
        have HU3 := Lib.hid (HU2.out.trans (hB3.mono HU2.out.size))
        have HHU := Lib.hid hu3
        clear hno2 hu3 hB3 HU2
        go_wp2_with fail
        rw [← HHU.out]
        refine (HPS2.out u3).mono ?_
        clear HPS2
        rintro e u4 ⟨⟨A5, B5, hW5, v5, bs5, rfl, ho5, _, _⟩, hb⟩
        obtain rfl := HNO.out B5 A5 hW5
        obtain ⟨p5, c5, rfl, hl5, hx5⟩ := ho5.reads
        obtain ⟨wz, hu5⟩ : ∃ u5, u5 = u4.alloc (.cells #[.int .i64 A5.k, .int .i64 A5.n, .string A5.t, .slice p5 A5.F.length c5] 54) := ⟨_, rfl⟩
        have hB5 : Below u4.heap.size u4 wz := by rw [hu5]; exact (Below.refl _ _).alloc (Nat.le_refl _) _
        have hB35 : Below u3.heap.size u3 wz := hb.trans (hB5.mono hb.size)
        have HBZ : Hid (Below w2.heap.size w2 wz) := HU3.out.trans (hB35.mono HU3.out.size)
        have HWZ : Hid (Below w.heap.size w wz) := HUP.out wz HBZ.out
        have HHU5 := Lib.hid hu5
        clear ho5 hl5 hx5 hu5 hB5 hB35 hb hW5 HNO HU3 HHU
        go_wp2_with fail
        rw [← HHU5.out]
        refine (HD3.out wz (HUP.out wz HBZ.out)).mono ?_
        clear HUP
        rintro e v1 ⟨k2, n2, t2, p2, c2, F2, a2, ca2, env, rfl, ⟨hx, hlc, hcn, htm, hk, hn, ht⟩, hbe, hel, hsm, hb1⟩
        have hfit := F2.tame_fits htm (by unfold maxLen; omega)
        have hcm : F2.count ≤ 1048576 := by omega
        have htm2 : t2.size ≤ maxLen := by unfold maxLen; omega
        have hem : env.length ≤ 1048576 := by omega
        obtain ⟨v2, hv2⟩ : ∃ v2, v2 = v1.alloc (.cells #[.int .i64 k2, .int .i64 n2, .string t2, .slice p2 F2.length c2] 54) := ⟨_, rfl⟩
        have hB2 : Below v1.heap.size v1 v2 := by rw [hv2]; exact (Below.refl _ _).alloc (Nat.le_refl _) _
        have hn2 : v2.heap[v1.heap.size]? = some (.cells #[.int .i64 k2, .int .i64 n2, .string t2, .slice p2 F2.length c2] 54 (0, 0)) := by rw [hv2]; exact heap_at_new v1 _
        have HZB : Hid (Below w.heap.size w v2) := (HWZ.out.trans (hb1.mono HWZ.out.size)).trans (hB2.mono (Nat.le_trans HWZ.out.size hb1.size))
        have HXB : Hid (∀ W, Below v2.heap.size v2 W → TreesAt W F2 p2 0 ∧ BindsAt W env a2 0) := fun W hb => ⟨(hx.below hB2).below hb, (hbe.below hB2).below hb⟩
        have HCB : Hid (∀ W, Below v2.heap.size v2 W → W.cell? ⟨v1.heap.size, 0, none⟩ = some (.int .i64 k2) ∧ W.cell? ⟨v1.heap.size, 1, none⟩ = some (.int .i64 n2) ∧ W.cell? ⟨v1.heap.size, 2, none⟩ = some (.string t2) ∧ W.cell? ⟨v1.heap.size, 3, none⟩ = some (.slice p2 F2.length c2)) := fun W hb => by
          obtain ⟨y0, y1, y2, y3, _⟩ := four_cells ((hb.block _ (Array.getElem?_eq_some_iff.1 hn2).1).trans hn2)
          exact ⟨y0, y1, y2, y3⟩
        have HEI := Lib.hid (fun W hb => impl_eval env hem a2 ca2 W k2 n2 t2 F2 p2 c2 hfit hcm htm2 (HXB.out W hb).1 hlc (HXB.out W hb).2)
        have HES := Lib.hid (fun W hb => spec_eval env hem a2 ca2 W k2 n2 t2 F2 p2 c2 hfit hcm htm2 (HXB.out W hb).1 (HXB.out W hb).2)
        have HEO := Lib.hid (fun W hb env3 (hem3 : List.length env3 ≤ 1048576) a3 ca3 (hb3 : BindsAt W env3 a3 0) => impl_eval env3 hem3 a3 ca3 W k2 n2 t2 F2 p2 c2 hfit hcm htm2 (HXB.out W hb).1 hlc hb3)
        have HVO := Lib.hid (fun W hb => impl_vars W k2 n2 t2 F2 p2 c2 hcm (HXB.out W hb).1 hlc)
        have hus : (sorted (nodeVarsE k2 t2 ++ F2.varsE)).length ≤ 101 := by
          have h1 := sorted_length_le (nodeVarsE k2 t2 ++ F2.varsE)
          have h2 := nodeVarsE_len k2 t2
          have h3 := varsE_len F2
          rw [List.length_append] at h1
          omega
        have HUS := Lib.hid hus
        have HFI2 : Hid (exprV (env.filter fun x => decide (0 ≤ Lib.idxOfS (sorted (nodeVarsE k2 t2 ++ F2.varsE)) x.nm)) k2 n2 t2 F2 = exprV env k2 n2 t2 F2) := exprV_filter (fun nm => decide (0 ≤ Lib.idxOfS (sorted (nodeVarsE k2 t2 ++ F2.varsE)) nm)) env k2 n2 t2 F2 (fun x hx => decide_eq_true ((Lib.idxOfS_nonneg_iff _ _).2 (((sorted_ok _).2 x).2 hx)))
        have HSM := Lib.hid hsm
        have HHV := Lib.hid hv2
        have HEL := Lib.hid hel
        obtain ⟨y0, y1, y2, y3⟩ := HCB.out v2 (Below.refl _ _)
        rw [hv2] at y0 y1 y2 y3
        clear hx hlc hcn htm hk hn ht hbe hel hsm hb1 hfit hcm htm2 hem hv2 hB2 hn2 hus HD3 HWZ HBZ
        generalize nodeVarsE k2 t2 ++ F2.varsE = us at *
        generalize hE1 : exprV env k2 n2 t2 F2 = nv at *
        go_wp2_with fail
        rw [← HHV.out]
        refine (HEI.out v2 (Below.refl _ _)).mono ?_
        clear y0 y1 y2 y3 HEI
        rintro e v3 ⟨rfl, hb⟩
        have HV3 := Lib.hid hb
        obtain ⟨y0, y1, y2, y3⟩ := HCB.out v3 hb
        clear hb
        go_wp2_with fail
        refine (HVO.out v3 HV3.out).mono ?_
        clear y0 y1 y2 y3 HVO
        rintro e v4 hT
        obtain ⟨a4, c4, rfl, hT4, hb⟩ := told_of hT (by have := HUS.out; unfold maxLen; omega)
        have HT4 := Lib.hid hT4
        have HV4 := Lib.hid (HV3.out.trans (hb.mono HV3.out.size))
        have hE2 := HFI2.out
        generalize sorted us = ys at *
        clear hT hT4 hb HV3
        have hlit := GrowB.lit v4 (Nat.le_refl v4.heap.size)
        obtain ⟨v5, hv5⟩ : ∃ v5, v5 = v4.alloc (.cells #[] 68) := ⟨_, rfl⟩
        rw [← hv5] at hlit
        have HG5 := Lib.hid hlit
        have HB5 : Hid (Below v4.heap.size v4 v5) := by rw [hv5]; exact (Below.refl _ _).alloc (Nat.le_refl _) _
        have HV5 := Lib.hid hv5
        have HFL : Hid (exprV (env.filter fun x => decide (0 ≤ Lib.idxOfS ys x.nm)) k2 n2 t2 F2 = nv) := hE2
        have HBE : Hid (BindsAt v4 env a2 0) := (HXB.out v4 HV4.out).2
        generalize hen : env.length = m at *
        have HEN := Lib.hid hen
        clear hlit hv5 hE2 HFI2 hen hE1
        go_wp2
        rw [← HV5.out]
        have hm3 : m ≤ 3 := HEL.out
        go_loopw [16, 17] (fun o i wr => ∃ (j q : Nat) (l : List BindD) (rest : List BindD) (a : Option Addr) (c : Nat) (xs : List Value), i = .int .i64 j ∧ o = .slice a q c ∧ j + rest.length = m ∧ q ≤ j ∧ Hid (l.length = q ∧ l = (env.take j).filter (fun x => decide (0 ≤ Lib.idxOfS ys x.nm)) ∧ rest = env.drop j) ∧ Hid (BindsAt v4 rest a2 j) ∧ Hid (GrowB wr v4.heap.size (.slice a q c) l xs) ∧ Hid (Below v4.heap.size v4 wr)) (fun _ i _ => m - (intOf i).toNat)
        case atStart => exact ⟨0, 0, [], env, _, 0, [], rfl, rfl, by rw [HEN.out]; omega, Nat.le_refl _, ⟨rfl, rfl, rfl⟩, HBE, HG5, HB5⟩
        case round =>
          obtain ⟨j, q, l2, rest, a5, c5, xs, rfl, rfl, hjm, hqj, hL, hxr, hG, hS⟩ := hrel
          cases rest with
          | cons x r =>
            have hjl : j < m := by simp only [List.length_cons] at hjm; omega
            have hjm2 : j + 1 + r.length = m := by simp only [List.length_cons] at hjm; omega
            obtain ⟨⟨y, px, cp, hay, h1, h2, h3, h4, h5, _, _⟩, hr⟩ := (hxr.out.below hS.out)
            subst hay
            have HXR : Hid (BindsAt v4 r (some y) (j + 1)) := hxr.out.2
            have hsx : SmallB x := HSM.out x (by
              have := hL.out.2.2
              have h9 : x ∈ env.drop j := by rw [← this]; exact List.mem_cons_self ..
              exact List.mem_of_mem_drop h9)
            obtain ⟨hd1, hd2⟩ := drop_succ_of hL.out.2.2
            rw [hsx.1] at h5
            have h3' : wr.cell? { block := (y.add (j * 5)).block, off := (y.add (j * 5)).off + 1 + 1 } = some (.int .i64 x.n) := h3
            obtain ⟨nm, kd, nu, tx, FX⟩ := x
            have HSX := Lib.hid hsx
            have HDT : Hid (r = env.drop (j + 1) ∧ env.take (j + 1) = env.take j ++ [⟨nm, kd, nu, tx, FX⟩]) := ⟨hd1, hd2⟩
            have HSI := Lib.hid (spec_index wr a4 c4 ys nm (reads_below HT4.out.1 hS.out) (by have := HUS.out; unfold maxLen; omega))
            dsimp only at *
            simp only [Trees.length] at h5
            clear hxr hr hjm hsx hd1 hd2 
            go_wp2_with fail
            refine HSI.out.mono ?_
            rintro e w9 ⟨rfl, rfl⟩
            by_cases hz : 0 ≤ Lib.idxOfS ys nm
            · have HZ := Lib.hid hz
              generalize Lib.idxOfS ys nm = z at hz
              have hal : Below w9.heap.size w9 (w9.alloc (.cells #[.string nm, .int .i64 kd, .int .i64 nu, .string tx, .slice px 0 cp] 68)) := (Below.refl _ _).alloc (Nat.le_refl _) _
              have hG6 := hG.out.keep (w' := w9.alloc (.cells #[.string nm, .int .i64 kd, .int .i64 nu, .string tx, .slice px 0 cp] 68)) (fun b h1 h2 => hal.block b h2)
              have hown6 := hG6.owns
              rw [hL.out.1] at hown6
              have HO6 := Lib.hid hown6
              have HFLT := Lib.hid hG6.flat
              have HAL := Lib.hid hal
              have HZS : Hid (v4.heap.size ≤ w9.heap.size) := hS.out.size
              clear hG6 hown6 hal HSI
              go_wp2_with (at_builtin; refine wpList_append_lies _ rfl _ _ 61 rfl v4.heap.size 68 i0 (.agg #[.string ⟨#[]⟩, .int .i64 0, .int .i64 0, .string ⟨#[]⟩, .slice none 0 0]) 5 72 Tryz.underlying61 hi hz0 hz1 hz2 rfl (by decide) _ _ _ rfl HO6.out ⟨w9.heap.size, 0, none⟩ 1 1 [.string nm, .int .i64 kd, .int .i64 nu, .string tx, .slice px 0 cp] rfl rfl (grow_five _ _ _ _ _ _ _) (grow_one5 _ _ _ _ _ _ _) (by decide) (by unfold maxLen; omega) (by omega) (by have := HZS.out; simp; omega) (w9.heap.size + 1) (by simp) ?_)
              intro g9 cap9 w10 hown hgrow hat hlt9
              have hfar := hG.out.far
              have hG9 : GrowB w10 v4.heap.size (.slice (some ⟨g9, 0, none⟩) (q + 1) cap9) (l2 ++ [⟨nm, kd, nu, tx, FX⟩]) (xs ++ [.string nm, .int .i64 kd, .int .i64 nu, .string tx, .slice px 0 cp]) := ⟨by rw [List.length_append, hL.out.1]; exact hown, Flat.snoc (x := ⟨nm, kd, nu, tx, FX⟩) HSX.out.1 px cp l2 xs HFLT.out⟩
              have hB9 : Below v4.heap.size v4 w10 := (hS.out.trans (HAL.out.mono hS.out.size)).grown hgrow (Nat.le_trans hS.out.size HAL.out.size) (fun g e => by have := hfar g e; omega)
              have HG9 := Lib.hid hG9
              have HB9 := Lib.hid hB9
              have HL9 : Hid ((l2 ++ [(⟨nm, kd, nu, tx, FX⟩ : BindD)]).length = q + 1 ∧ l2 ++ [(⟨nm, kd, nu, tx, FX⟩ : BindD)] = (env.take (j + 1)).filter (fun x => decide (0 ≤ Lib.idxOfS ys x.nm)) ∧ r = env.drop (j + 1)) := ⟨by rw [List.length_append, hL.out.1]; rfl, by rw [HDT.out.2, List.filter_append, ← hL.out.2.1, List.filter_cons, if_pos (decide_eq_true HZ.out)]; rfl, HDT.out.1⟩
              clear hfar hG9 hB9 hown hgrow hat hlt9 HFLT HO6 HAL HZS hS hL hG h1 h2 h3 h3' h4 h5 hz HZ
              go_wp2
              go_roundw
              case rel => exact ⟨j + 1, q + 1, _, r, _, cap9, _, by go_num, rfl, hjm2, by omega, HL9, HXR, HG9, HB9⟩
              case measure => simp [intOf]; omega
            · have HZ := Lib.hid hz
              generalize Lib.idxOfS ys nm = z at hz
              have HL9 : Hid (l2.length = q ∧ l2 = (env.take (j + 1)).filter (fun x => decide (0 ≤ Lib.idxOfS ys x.nm)) ∧ r = env.drop (j + 1)) := ⟨hL.out.1, by rw [HDT.out.2, List.filter_append, ← hL.out.2.1, List.filter_cons, if_neg (by simpa using HZ.out)]; simp, HDT.out.1⟩
              clear hL h1 h2 h3 h3' h4 h5 HZ HSI
              go_wp2
              go_roundw
              case rel => exact ⟨j + 1, q, l2, r, a5, c5, xs, by go_num, rfl, hjm2, by omega, HL9, HXR, hG, hS⟩
              case measure => simp [intOf]; omega
          | nil =>
            obtain rfl : j = m := by simp only [List.length_nil] at hjm; omega
            obtain ⟨a6, c6, he6, hr6⟩ := hG.out.reads
            rw [hL.out.1] at he6
            have hae : a6 = a5 ∧ c6 = c5 := by injection he6 with h1 h2 h3; exact ⟨h1.symm, h3.symm⟩
            obtain ⟨rfl, rfl⟩ := hae
            have hlf : l2 = env.filter (fun x => decide (0 ≤ Lib.idxOfS ys x.nm)) := by
              have := hL.out.2.1
              rw [← HEN.out, List.take_length] at this
              exact this
            have HUR : Hid (Below v2.heap.size v2 wr) := HV4.out.trans (hS.out.mono HV4.out.size)
            have HES2 := Lib.hid (HES.out wr HUR.out)
            have HEO2 := Lib.hid (fun W (hb : Below wr.heap.size wr W) => HEO.out W (HUR.out.trans (hb.mono HUR.out.size)) l2 (by rw [hL.out.1]; omega) a6 c6 (hr6.below hb))
            rw [hlf] at HEO2
            rw [HFL.out] at HEO2
            rw [← hlf, hL.out.1] at HEO2
            have HRI := Lib.hid (fun W (hb : Below wr.heap.size wr W) => HT4.out.2 W (hS.out.trans (hb.mono hS.out.size)))
            have HCB2 : Hid (∀ W, Below wr.heap.size wr W → W.cell? ⟨v1.heap.size, 0, none⟩ = some (.int .i64 k2) ∧ W.cell? ⟨v1.heap.size, 1, none⟩ = some (.int .i64 n2) ∧ W.cell? ⟨v1.heap.size, 2, none⟩ = some (.string t2) ∧ W.cell? ⟨v1.heap.size, 3, none⟩ = some (.slice p2 F2.length c2)) := fun W hb => HCB.out W (HUR.out.trans (hb.mono HUR.out.size))
            have HZW : Hid (Below w.heap.size w wr) := HZB.out.trans (HUR.out.mono HZB.out.size)
            obtain ⟨y0, y1, y2, y3⟩ := HCB2.out wr (Below.refl _ _)
            generalize F2.length = lf at *
            generalize ys.length = ly at *
            clear he6 hr6 hlf hL hG hS hxr HT4 HXB HCB HEO HES HSM HEN HFL HZB
            go_wp2_with fail
            refine HES2.out.mono ?_
            clear y0 y1 y2 y3 HES2
            rintro e w7 ⟨rfl, hb7⟩
            have HB7 := Lib.hid hb7
            obtain ⟨y0, y1, y2, y3⟩ := HCB2.out w7 hb7
            clear hb7
            have hvv2 : (nv == nv) = true := by simp
            go_wp2_with fail
            refine (HEO2.out w7 HB7.out).mono ?_
            clear y0 y1 y2 y3 HEO2
            rintro e w8 ⟨rfl, hb8⟩
            have HB8 := Lib.hid (HB7.out.trans (hb8.mono HB7.out.size))
            clear hb8
            go_wp2_with fail
            refine (HRI.out w8 HB8.out).mono ?_
            rintro e w9 ⟨rfl, hb9⟩
            have HB9 := Lib.hid (HB8.out.trans (hb9.mono HB8.out.size))
            clear hb9 HRI
            go_wp2
            go_ret
            exact ⟨rfl, HZW.out.trans (HB9.out.mono HZW.out.size)⟩
end Go.Proofs.YtijbaienhaiamaaGreatDoor
end
