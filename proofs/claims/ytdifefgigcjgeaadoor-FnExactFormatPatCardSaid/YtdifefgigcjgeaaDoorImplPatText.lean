/- What is proved here: the program's formatValidPat returns the representation of a pattern. Condition: the pattern lies in memory as said, is valid node by node, and small; the table of the powers of ten is as listed. -/
import Derived.Test.YtdifefgigcjgeaaDoorPatText
import Derived.Test.YtdifefgigcjgeaaDoorCat
import Derived.Test.YtdifefgigcjgeaaDoorTreeCells
import Derived.Test.YtdifefgigcjgeaaDoorJoinRoom
import Derived.Test.YtdifefgigcjgeaaDoorItoaLaid
import Derived.Test.YtdifefgigcjgeaaDoorTrees
import Derived.RangeFuncBox
import Derived.Deep.RegionHeld3
namespace Go.Proofs.YtdifefgigcjgeaaDoor
open Go.RowKit

theorem joined_str (xs : List (List UInt8)) (sep : List UInt8) : joined (xs.map str) (str sep) = Lib.join xs sep := by
  unfold joined
  rw [List.map_map]
  have e : ((fun x : ByteArray => x.data.toList) ∘ str) = id := by funext l; simp [str]
  have e2 : (str sep).data.toList = sep := by simp [str]
  rw [e2]
  show Lib.join (List.map ((fun x : ByteArray => x.data.toList) ∘ str) xs) sep = _
  rw [e, List.map_id]
def strV (l : List UInt8) : Value := .string (str l)
theorem strV_map (xs : List (List UInt8)) : xs.map strV = (xs.map str).map Value.string := by rw [List.map_map]; rfl
theorem owns_far {w w' : World} {base : Nat} {e : TypeId} {size : Nat} {v : Value} {n : Nat} {xs : List Value} (h : w.ownsRow base e size v n xs) (hb : Below w.heap.size w w') : w'.ownsRow base e size v n xs := by
  refine ⟨h.1, ?_⟩
  rcases h.2 with h2 | ⟨g, cap, cur, rfl, hb2, hg, h1, h2, h3, h4⟩
  · exact .inl h2
  · exact .inr ⟨g, cap, cur, rfl, hb2, (hb.block g (h.lt g rfl).2).trans hg, h1, h2, h3, h4⟩
theorem cell_one_new' (w : World) (v : Value) (t : TypeId) : ∀ j u, [v][j]? = some u → (w.alloc (.cells #[v] t)).cell? ((⟨w.heap.size, 0, none⟩ : Addr).add j) = some u := by
  intro j u hj
  have h := heap_at_new w (.cells #[v] t)
  match j, hj with
  | 0, hj =>
    simp only [List.getElem?_cons_zero, Option.some.injEq] at hj
    subst hj
    simp only [Addr.add, World.cell?, if_true, h]
    rfl
/-- What is left of the slice of the parts behind the loop. -/
theorem parts_own' {w : World} {B : Nat} {v : Value} {xs : List (List UInt8)} (h : w.ownsRow B 9 1 v xs.length (xs.map strV)) (hne : xs ≠ []) : ∃ g cap rest, v = .slice (some ⟨g, 0, none⟩) xs.length cap ∧ B ≤ g ∧ Block w g (xs.map str) rest ∧ xs.length ≤ cap := by
  rw [strV_map] at h
  have hv : v ≠ .slice none 0 0 := by
    rcases h.2 with ⟨_, e2⟩ | ⟨g, cap, cur, rfl, _⟩
    · exact absurd (List.eq_nil_of_length_eq_zero e2) hne
    · simp
  obtain ⟨g, cap, rest, rfl, hg, hb, hl⟩ := block_of_owned h hv
  rw [List.length_map] at hl
  refine ⟨g, cap, rest, by rw [List.length_map], hg, hb, ?_⟩
  rcases h.2 with ⟨h1, _⟩ | ⟨g', cap', cur, hv', _, _, h1, _⟩
  · cases h1
  · injection hv' with _ _ hcc
    rw [hcc]
    exact h1

set_option maxHeartbeats 4000000 in
set_option maxRecDepth 100000 in
theorem impl_pat_text : ∀ G : Trees, G.formed = true → G.count ≤ 1048576 → ∀ (w : World) (k n : Int) (t : ByteArray) (p : Option Addr) (cap : Nat), patForm k n t G.length = true → TreesAt w G p 0 → Lib.TabIs Tryd.prog w "internal/strconv.uint64pow10" .u64 Lib.pow10Tab →
    Calls Tryd.prog 31 #[.agg #[.int .i64 k, .int .i64 n, .string t, .slice p G.length cap]] w fun e w' => e = .returned (.string (str (nodeP k n t G.texts))) ∧ Below w.heap.size w w' := by
  have hi : (Tryd.prog.info? 9).map (fun i => (i.zero, i.size, i.bytes)) = some (some (.string ⟨#[]⟩), 1, 16) := by kernel_rfl
  obtain ⟨i0, hi, hz0, hz1, hz2⟩ := info_parts hi
  refine Trees.ind fun F hall hfm hc w k n t p cap hpf hx htab => ?_
  have hB0 : Below w.heap.size w (w.alloc (.cells #[.int .i64 k, .int .i64 n, .string t, .slice p F.length cap] 29)) := (Below.refl _ _).alloc (Nat.le_refl _) _
  have HTAB := Lib.hid (fun w' (hb : Below w.heap.size w w') => Go.Joins.tab_stays (g := 1) (by kernel_rfl) htab hb (Nat.le_refl _))
  have hlt := text_len k n t F hfm hpf
  have HPF := Lib.hid hpf
  have HALL := Lib.hid hall
  have HFM := Lib.hid hfm
  have HCC := Lib.hid hc
  have HX := Lib.hid (hx.below hB0)
  have hlc := F.length_le_count
  have hnb : F.length ≤ 1048576 := by omega
  have HLT : Hid ((nodeP k n t F.texts).length ≤ 104857600) := by unfold Hid; omega
  have htl := texts_length F
  obtain ⟨b0, b1, b2, b3, _⟩ := four_cells (heap_at_new w (.cells #[.int .i64 k, .int .i64 n, .string t, .slice p F.length cap] 29))
  generalize hxs : F.texts = xs at *
  have HXS := Lib.hid hxs
  generalize hnn : F.length = nn at *
  have HN := Lib.hid hnn
  have HTL := Lib.hid htl
  generalize hw0 : w.alloc (.cells #[.int .i64 k, .int .i64 n, .string t, .slice p nn cap] 29) = w0 at *
  have HW0 := Lib.hid hw0
  have HB0 := Lib.hid hB0
  have HB := Lib.hid (fun W (hb : Below w0.heap.size w0 W) => show W.cell? ⟨w.heap.size, 0, none⟩ = some (.int .i64 k) ∧ W.cell? ⟨w.heap.size, 1, none⟩ = some (.int .i64 n) ∧ W.cell? ⟨w.heap.size, 2, none⟩ = some (.string t) ∧ W.cell? ⟨w.heap.size, 3, none⟩ = some (.slice p nn cap) from ⟨cell_below b0 hb, cell_below b1 hb, cell_below b2 hb, cell_below b3 hb⟩)
  clear hall hfm hc hpf hx htab hB0 hlt hlc htl hxs hnn hw0 b0 b1 b2
  go_enter Tryd.func31, Tryd.ntmps31
  go_wp2
  rw [HW0.out]
  clear b3
  go_loopw [3, 9] (fun lst i wr => ∃ (j : Nat) (rest : Trees) (done : List (List UInt8)) (lv : Value), i = .int .i64 j ∧ lv = lst ∧ j + rest.length = nn ∧ Hid (done.length = j) ∧ Hid (done ++ rest.texts = xs) ∧ Hid (rest.formed = true) ∧ Hid (rest.count ≤ 1048576) ∧ Hid (TreesAt w0 rest p j) ∧ Hid (rest.All (fun G => G.formed = true → G.count ≤ 1048576 → ∀ (w : World) (k n : Int) (t : ByteArray) (p : Option Addr) (cap : Nat), patForm k n t G.length = true → TreesAt w G p 0 → Lib.TabIs Tryd.prog w "internal/strconv.uint64pow10" .u64 Lib.pow10Tab →
    Calls Tryd.prog 31 #[.agg #[.int .i64 k, .int .i64 n, .string t, .slice p G.length cap]] w fun e w' => e = .returned (.string (str (nodeP k n t G.texts))) ∧ Below w.heap.size w w')) ∧ Hid (wr.ownsRow w0.heap.size 9 1 lv done.length (done.map strV)) ∧ Hid (Below w0.heap.size w0 wr)) (fun _ i _ => nn - (intOf i).toNat)
  case atStart => exact ⟨0, F, [], _, rfl, rfl, by rw [HN.out]; omega, Lib.hid rfl, HXS, HFM, HCC, HX, HALL, ⟨rfl, .inl ⟨rfl, rfl⟩⟩, Below.refl _ _⟩
  case round =>
    obtain ⟨j, rest, done, lv, rfl, rfl, hjn, hdl, hacc, hfr, hcr, hxr, hal, hown, hB⟩ := hrel
    cases rest with
    | cons kd nu tx ar r =>
      have hjl : j < nn := by simp only [Trees.length] at hjn; omega
      have hjn2 : j + 1 + r.length = nn := by simp only [Trees.length] at hjn; omega
      obtain ⟨y, q, cq, rfl, g1, g2, g3, g4, hsub, hrr⟩ := (hxr.out.below hB.out).open
      have hfr1 := hfr.out
      simp only [Trees.formed, Bool.and_eq_true] at hfr1
      have hcr2 := hcr.out
      simp only [Trees.count] at hcr2
      have hba : Below wr.heap.size wr (wr.alloc (.cells #[.int .i64 kd, .int .i64 nu, .string tx, .slice q ar.length cq] 29)) := (Below.refl _ _).alloc (Nat.le_refl _) _
      have hsa : (wr.alloc (.cells #[.int .i64 kd, .int .i64 nu, .string tx, .slice q ar.length cq] 29)).heap.size = wr.heap.size + 1 := Array.size_push _
      obtain ⟨a0, a1, a2, a3, _⟩ := four_cells (heap_at_new wr (.cells #[.int .i64 kd, .int .i64 nu, .string tx, .slice q ar.length cq] 29))
      have HBA : Hid (Below w0.heap.size w0 (wr.alloc (.cells #[.int .i64 kd, .int .i64 nu, .string tx, .slice q ar.length cq] 29))) := hB.out.trans (hba.mono hB.out.size)
      have HOA : Hid ((wr.alloc (.cells #[.int .i64 kd, .int .i64 nu, .string tx, .slice q ar.length cq] 29)).ownsRow w0.heap.size 9 1 lv done.length (done.map strV)) := owns_far hown.out hba
      have H := hal.out.1 hfr1.2.1 (by omega) (wr.alloc (.cells #[.int .i64 kd, .int .i64 nu, .string tx, .slice q ar.length cq] 29)) kd nu tx q cq hfr1.1 (hsub.below hba) (HTAB.out _ (HB0.out.trans (HBA.out.mono HB0.out.size)))
      have hxr2 : Hid (TreesAt w0 r (some y) (j + 1)) := hxr.out.2
      have HA2 := Lib.hid hal.out.2
      have HF2 : Hid (r.formed = true) := hfr1.2.2
      have HC2 : Hid (r.count ≤ 1048576) := by unfold Hid; omega
      have HACC : Hid ((done ++ [nodeP kd nu tx ar.texts]) ++ r.texts = xs) := by unfold Hid; rw [← hacc.out]; simp [Trees.texts]
      have hdb : done.length ≤ 1048576 := by have := hdl.out; omega
      have hD2 : Hid (∀ u ∈ [strV (nodeP kd nu tx ar.texts)], u.oneCell' = true) := by intro u hu; simp at hu; subst hu; rfl
      have hD3 : Hid (done.length + 1 ≤ maxLen) := by unfold Hid maxLen; omega
      have hD4 : Hid ((done.length + 1) * 16 ≤ 140737488355328) := by unfold Hid; omega
      have hE : strV (nodeP kd nu tx ar.texts) = .string (str (nodeP kd nu tx ar.texts)) := rfl
      have HMK : Hid (∀ (v2 : Value) (w2 : World), w2.ownsRow w0.heap.size 9 1 v2 (done.length + 1) (done.map strV ++ [.string (str (nodeP kd nu tx ar.texts))]) → w2.ownsRow w0.heap.size 9 1 v2 (done ++ [nodeP kd nu tx ar.texts]).length ((done ++ [nodeP kd nu tx ar.texts]).map strV)) := fun v2 w2 h => by
        rw [List.length_append, List.map_append]
        exact h
      rw [hE] at hD2
      clear hE
      generalize hnd : str (nodeP kd nu tx ar.texts) = nd at *
      clear hxr hal hsub hrr hfr hcr hcr2 hacc hfr1 hjn hown
      have HG4 := Lib.hid g4
      go_wp2_with fail
      generalize wr.alloc (.cells #[.int .i64 kd, .int .i64 nu, .string tx, .slice q ar.length cq] 29) = wa at *
      refine H.mono ?_
      rintro e w1 ⟨rfl, hb1⟩
      have HB1 : Hid (Below w0.heap.size w0 w1) := HBA.out.trans (hb1.mono HBA.out.size)
      have hO1 : w1.ownsRow w0.heap.size 9 1 lv done.length (done.map strV) := owns_far HOA.out hb1
      have HO1 := Lib.hid hO1
      have HW1 : Hid (w0.heap.size ≤ w1.heap.size) := HB1.out.size
      have HN1 := Lib.hid (cell_one_new' w1 (.string nd) 9)
      have HN5 : Hid (w0.heap.size ≤ (w1.alloc (.cells #[.string nd] 9)).heap.size) := by unfold Hid; have := HW1.out; simp; omega
      have HLOW : Hid (∀ g, lv.ownBlock = some g → w0.heap.size ≤ g) := fun g hg => (HO1.out.lt g hg).1
      clear hb1 H hO1 hba hsa a0 a1 a2 a3 g1 g2 g3 g4
      go_wp2_with (at_builtin; refine wpList_append_own _ rfl _ _ 85 rfl w0.heap.size 9 i0 (.string ⟨#[]⟩) 1 16 Tryd.underlying85 hi hz0 hz1 hz2 rfl (by decide) _ _ _ rfl (HO1.out.alloc _) ⟨w1.heap.size, 0, none⟩ 1 1 [.string nd] rfl rfl HN1.out hD2.out hD3.out hD4.out HN5.out ?_)
      intro v2 w2 ho2 hg2 _
      have HO2 := Lib.hid (HMK.out v2 w2 ho2)
      have HB2 : Hid (Below w0.heap.size w0 w2) := (HB1.out.alloc HW1.out _).grown hg2 HN5.out HLOW.out
      clear ho2 hg2
      go_wp2
      go_roundw
      case rel => exact ⟨j + 1, r, done ++ [nodeP kd nu tx ar.texts], v2, by go_num, rfl, hjn2, by unfold Hid; rw [List.length_append, hdl.out]; rfl, HACC, HF2, HC2, hxr2, HA2, HO2, HB2⟩
      case measure => simp [intOf]; omega
    | nil =>
      obtain rfl : j = nn := by simp only [Trees.length] at hjn; omega
      obtain rfl : done = xs := by have := hacc.out; simpa [Trees.texts] using this
      have HBR : Hid (Below w0.heap.size w0 wr) := hB.out
      obtain ⟨e0, e1, e2, e3⟩ := HB.out wr HBR.out
      have hown' := hown.out
      have HOWN := Lib.hid hown'
      have htb := HTAB.out wr (HB0.out.trans (HBR.out.mono HB0.out.size))
      have HTB := Lib.hid htb
      clear hown hown' htb hacc hjn hxr hal hfr hcr hB
      rcases (patForm_iff k n t j).1 HPF.out with ⟨rfl, -⟩ | ⟨rfl, -⟩ | ⟨rfl, hi3, -⟩ | ⟨rfl, -, hv, -⟩ | ⟨rfl, -⟩ | ⟨rfl, -, -, hl2⟩ | ⟨rfl, -, hN, hl1⟩
      · clear hdl
        go_wp2
        go_ret
        exact ⟨rfl, HB0.out.trans (HBR.out.mono HB0.out.size)⟩
      · have HE : Hid (nodeP 2 n t done = if done = [] then t.data.toList else t.data.toList ++ [40] ++ Lib.join done [44, 32] ++ [41]) := rfl
        by_cases h0 : j = 0
        · have hd0 : done = [] := List.eq_nil_of_length_eq_zero (by rw [hdl.out]; exact h0)
          have HE2 : Hid (str (nodeP 2 n t done) = t) := by unfold Hid; rw [HE.out, if_pos hd0, str_data]
          have hnil : ∃ a c, lv = .slice a 0 c := by
            rcases HOWN.out.2 with ⟨h1, _⟩ | ⟨g, c, _, h1, _⟩
            · exact ⟨none, 0, h1⟩
            · exact ⟨_, c, by rw [h1, hdl.out, h0]⟩
          obtain ⟨a, c, rfl⟩ := hnil
          clear hd0 h0
          go_wp2
          go_ret
          exact ⟨by rw [HE2.out]; rfl, HB0.out.trans (HBR.out.mono HB0.out.size)⟩
        · have hdn : done ≠ [] := fun h => by have h2 := hdl.out; rw [h] at h2; simp at h2; omega
          obtain ⟨g, cp, rest, rfl, hg, hblk, hcp⟩ := parts_own' HOWN.out hdn
          have HE2 : Hid (str (nodeP 2 n t done) = str (t.data.toList ++ [40] ++ Lib.join done [44, 32] ++ [41])) := by unfold Hid; rw [HE.out, if_neg hdn]
          have hjl : t.data.toList.length + (Lib.join done [44, 32]).length + 2 ≤ 104857600 := by
            have h1 := HLT.out
            rw [HE.out, if_neg hdn] at h1
            simp only [List.length_append, List.length_singleton] at h1
            omega
          have hj := impl_join_room wr g cp (done.map str) rest (str [44, 32]) hblk (by rw [List.length_map]; exact hcp) (by rw [List.length_map]; have := hdl.out; omega) (by rw [joined_str]; omega)
          rw [joined_str, List.length_map] at hj
          have HJ : Hid (∀ W, Below wr.heap.size wr W → Calls Tryd.prog 60 #[.slice (some ⟨g, 0, none⟩) done.length cp, .string ⟨#[44, 32]⟩] W fun e w' => e = .returned (.string (str (Lib.join done [44, 32]))) ∧ Below W.heap.size W w') := fun W hb => by
            have h := impl_join_room W g cp (done.map str) rest (str [44, 32]) (hblk.below hb) (by rw [List.length_map]; exact hcp) (by rw [List.length_map]; have := hdl.out; omega) (by rw [joined_str]; omega)
            rw [joined_str, List.length_map] at h
            exact h
          have hk1 := fun w => cat t.data.toList [40] (by simp at hjl ⊢; omega) w
          have hk2 := fun w => cat (t.data.toList ++ [40]) (Lib.join done [44, 32]) (by simp at hjl ⊢; omega) w
          have hk3 := fun w => cat (t.data.toList ++ [40] ++ Lib.join done [44, 32]) [41] (by simp at hjl ⊢; omega) w
          rw [str_data] at hk1
          change ∀ w, (Op.stringOp .add t ⟨#[40]⟩).run Tryd.prog w = _ at hk1
          change ∀ w, (Op.stringOp .add _ ⟨#[41]⟩).run Tryd.prog w = _ at hk3
          generalize str (t.data.toList ++ [40] ++ Lib.join done [44, 32] ++ [41]) = s3 at *
          generalize str (t.data.toList ++ [40] ++ Lib.join done [44, 32]) = s2 at *
          generalize str (t.data.toList ++ [40]) = s1 at *
          generalize str (Lib.join done [44, 32]) = s0 at *
          have hl0 : ((done.length : Int) == 0) = false := by have := hdl.out; simp; omega
          have HD : Hid (Below wr.heap.size wr wr.drew) := (Below.refl _ _).drew
          have hjr : j = done.length := hdl.out.symm
          clear hblk hcp hg hjl hj h0 hdn hjr
          go_wp2
          go_region_held3 (fun W => W.cell? ⟨w.heap.size, 2, none⟩ = some (.string t))
            (first
              | go_keep
              | (have hkeep := (HB.out _ (HBR.out.trans (HB1.out.mono HBR.out.size))).2.2.1; exact hkeep)
              | fail "no arm")
            (first
              | (go_at_call 60; (with_reducible refine (HJ.out wr.drew HD.out).mono ?_); rintro e w1 ⟨rfl, hb1⟩; have HB1 : Hid (Below wr.heap.size wr w1) := Below.trans HD.out (hb1.mono HD.out.size); clear hb1)
              | fail "no arm")
          go_wp2
          go_ret
          exact ⟨by rw [HE2.out]; rfl, HB0.out.trans ((HBR.out.trans (HB1.out.mono HBR.out.size)).mono HB0.out.size)⟩
      · unfold inInt at hi3
        simp only [Bool.and_eq_true, decide_eq_true_eq] at hi3
        have HF := impl_format n (by omega) (by omega) wr HTB.out
        clear hdl hi3
        go_wp2_with fail
        refine HF.mono ?_
        rintro e w1 ⟨rfl, hb1⟩
        have HB1 : Hid (Below w0.heap.size w0 w1) := HBR.out.trans (hb1.mono HBR.out.size)
        clear hb1 HF
        go_wp2
        go_ret
        exact ⟨rfl, HB0.out.trans (HB1.out.mono HB0.out.size)⟩
      · have ht := hv.1
        have htl : t.data.toList.length = t.size := rfl
        have hc1 := fun w => cat [34] t.data.toList (by rw [htl]; simp; omega) w
        rw [str_data] at hc1
        have hc2 := fun w => cat ([34] ++ t.data.toList) [34] (by rw [List.length_append, htl]; simp; omega) w
        change ∀ w, (Op.stringOp .add ⟨#[34]⟩ t).run Tryd.prog w = _ at hc1
        change ∀ w, (Op.stringOp .add (str ([34] ++ t.data.toList)) ⟨#[34]⟩).run Tryd.prog w = _ at hc2
        have HE : Hid (str (nodeP 4 n t done) = str ([34] ++ t.data.toList ++ [34])) := rfl
        generalize str ([34] ++ t.data.toList) = s1 at *
        generalize str ([34] ++ t.data.toList ++ [34]) = s2 at *
        clear hdl htl hv ht
        go_wp2
        go_ret
        exact ⟨by rw [HE.out]; rfl, HB0.out.trans (HBR.out.mono HB0.out.size)⟩
      · have HE : Hid (nodeP 5 n t done = if done = [] then t.data.toList else t.data.toList ++ [40] ++ Lib.join done [44, 32] ++ [41]) := rfl
        by_cases h0 : j = 0
        · have hd0 : done = [] := List.eq_nil_of_length_eq_zero (by rw [hdl.out]; exact h0)
          have HE2 : Hid (str (nodeP 5 n t done) = t) := by unfold Hid; rw [HE.out, if_pos hd0, str_data]
          have hnil : ∃ a c, lv = .slice a 0 c := by
            rcases HOWN.out.2 with ⟨h1, _⟩ | ⟨g, c, _, h1, _⟩
            · exact ⟨none, 0, h1⟩
            · exact ⟨_, c, by rw [h1, hdl.out, h0]⟩
          obtain ⟨a, c, rfl⟩ := hnil
          clear hd0 h0
          go_wp2
          go_ret
          exact ⟨by rw [HE2.out]; rfl, HB0.out.trans (HBR.out.mono HB0.out.size)⟩
        · have hdn : done ≠ [] := fun h => by have h2 := hdl.out; rw [h] at h2; simp at h2; omega
          obtain ⟨g, cp, rest, rfl, hg, hblk, hcp⟩ := parts_own' HOWN.out hdn
          have HE2 : Hid (str (nodeP 5 n t done) = str (t.data.toList ++ [40] ++ Lib.join done [44, 32] ++ [41])) := by unfold Hid; rw [HE.out, if_neg hdn]
          have hjl : t.data.toList.length + (Lib.join done [44, 32]).length + 2 ≤ 104857600 := by
            have h1 := HLT.out
            rw [HE.out, if_neg hdn] at h1
            simp only [List.length_append, List.length_singleton] at h1
            omega
          have hj := impl_join_room wr g cp (done.map str) rest (str [44, 32]) hblk (by rw [List.length_map]; exact hcp) (by rw [List.length_map]; have := hdl.out; omega) (by rw [joined_str]; omega)
          rw [joined_str, List.length_map] at hj
          have HJ : Hid (∀ W, Below wr.heap.size wr W → Calls Tryd.prog 60 #[.slice (some ⟨g, 0, none⟩) done.length cp, .string ⟨#[44, 32]⟩] W fun e w' => e = .returned (.string (str (Lib.join done [44, 32]))) ∧ Below W.heap.size W w') := fun W hb => by
            have h := impl_join_room W g cp (done.map str) rest (str [44, 32]) (hblk.below hb) (by rw [List.length_map]; exact hcp) (by rw [List.length_map]; have := hdl.out; omega) (by rw [joined_str]; omega)
            rw [joined_str, List.length_map] at h
            exact h
          have hk1 := fun w => cat t.data.toList [40] (by simp at hjl ⊢; omega) w
          have hk2 := fun w => cat (t.data.toList ++ [40]) (Lib.join done [44, 32]) (by simp at hjl ⊢; omega) w
          have hk3 := fun w => cat (t.data.toList ++ [40] ++ Lib.join done [44, 32]) [41] (by simp at hjl ⊢; omega) w
          rw [str_data] at hk1
          change ∀ w, (Op.stringOp .add t ⟨#[40]⟩).run Tryd.prog w = _ at hk1
          change ∀ w, (Op.stringOp .add _ ⟨#[41]⟩).run Tryd.prog w = _ at hk3
          generalize str (t.data.toList ++ [40] ++ Lib.join done [44, 32] ++ [41]) = s3 at *
          generalize str (t.data.toList ++ [40] ++ Lib.join done [44, 32]) = s2 at *
          generalize str (t.data.toList ++ [40]) = s1 at *
          generalize str (Lib.join done [44, 32]) = s0 at *
          have hl0 : ((done.length : Int) == 0) = false := by have := hdl.out; simp; omega
          have HD : Hid (Below wr.heap.size wr wr.drew) := (Below.refl _ _).drew
          have hjr : j = done.length := hdl.out.symm
          clear hblk hcp hg hjl hj h0 hdn hjr
          go_wp2
          go_region_held3 (fun W => W.cell? ⟨w.heap.size, 2, none⟩ = some (.string t))
            (first
              | go_keep
              | (have hkeep := (HB.out _ (HBR.out.trans (HB1.out.mono HBR.out.size))).2.2.1; exact hkeep)
              | fail "no arm")
            (first
              | (go_at_call 60; (with_reducible refine (HJ.out wr.drew HD.out).mono ?_); rintro e w1 ⟨rfl, hb1⟩; have HB1 : Hid (Below wr.heap.size wr w1) := Below.trans HD.out (hb1.mono HD.out.size); clear hb1)
              | fail "no arm")
          go_wp2
          go_ret
          exact ⟨by rw [HE2.out]; rfl, HB0.out.trans ((HBR.out.trans (HB1.out.mono HBR.out.size)).mono HB0.out.size)⟩
      · obtain ⟨g, cp, rest, rfl, hg, hblk, hcp⟩ := parts_own' HOWN.out (fun h => by have h2 := hdl.out; rw [h] at h2; simp at h2; omega)
        have HE : Hid (str (nodeP 6 n t done) = str ([40] ++ Lib.join done [32, 124, 32] ++ [41])) := rfl
        have hjl : (Lib.join done [32, 124, 32]).length ≤ 104857600 := by
          have h1 := HLT.out
          have h2 : (nodeP 6 n t done).length = (Lib.join done [32, 124, 32]).length + 2 := by
            show ([40] ++ Lib.join done [32, 124, 32] ++ [41]).length = _
            simp
          omega
        have hj := impl_join_room wr g cp (done.map str) rest (str [32, 124, 32]) hblk (by rw [List.length_map]; exact hcp) (by rw [List.length_map]; have := hdl.out; omega) (by rw [joined_str]; omega)
        rw [joined_str, List.length_map] at hj
        change Calls Tryd.prog 60 #[.slice (some ⟨g, 0, none⟩) done.length cp, .string ⟨#[32, 124, 32]⟩] wr fun e w' => e = .returned (.string (str (Lib.join done [32, 124, 32]))) ∧ _ at hj
        have hk1 := fun w => cat [40] (Lib.join done [32, 124, 32]) (by simp; omega) w
        have hk2 := fun w => cat ([40] ++ Lib.join done [32, 124, 32]) [41] (by simp; omega) w
        change ∀ w, (Op.stringOp .add ⟨#[40]⟩ _).run Tryd.prog w = _ at hk1
        change ∀ w, (Op.stringOp .add _ ⟨#[41]⟩).run Tryd.prog w = _ at hk2
        generalize str ([40] ++ Lib.join done [32, 124, 32] ++ [41]) = s2 at *
        generalize str ([40] ++ Lib.join done [32, 124, 32]) = s1 at *
        generalize str (Lib.join done [32, 124, 32]) = s0 at *
        clear hdl hblk hcp hg hjl hl2
        go_wp2_with fail
        refine hj.mono ?_
        rintro e w1 ⟨rfl, hb1⟩
        have HB1 : Hid (Below w0.heap.size w0 w1) := HBR.out.trans (hb1.mono HBR.out.size)
        clear hb1 hj
        go_wp2
        go_ret
        exact ⟨by rw [HE.out]; rfl, HB0.out.trans (HB1.out.mono HB0.out.size)⟩
      · obtain ⟨g, cp, rest, rfl, hg, hblk, hcp⟩ := parts_own' HOWN.out (fun h => by have h2 := hdl.out; rw [h] at h2; simp at h2; omega)
        obtain ⟨u, hu⟩ : ∃ u, done = [u] := by
          match done, hdl.out.trans hl1 with
          | [u], _ => exact ⟨u, rfl⟩
        have ht8 := word_size hN.1
        have htl : t.data.toList.length = t.size := rfl
        have HE : Hid (str (nodeP 7 n t done) = str (t.data.toList ++ [32, 64, 32] ++ u)) := by unfold Hid; rw [hu]; rfl
        have hul : u.length ≤ 104857600 := by
          have h1 := HLT.out
          rw [hu] at h1
          have h2 : (nodeP 7 n t [u]).length = t.data.toList.length + 3 + u.length := by
            show (t.data.toList ++ [32, 64, 32] ++ u).length = _
            simp
            omega
          omega
        have hc0 : wr.cell? ⟨g, 0, none⟩ = some (.string (str u)) := by
          have h := hblk.reads 0 (by rw [hu]; simp)
          obtain ⟨y, hy, hc⟩ := h
          cases hy
          have e : (⟨g, 0, none⟩ : Addr).add 0 = ⟨g, 0, none⟩ := rfl
          rw [e] at hc
          simpa [hu] using hc
        have hk1 := fun w => cat t.data.toList [32, 64, 32] (by rw [htl]; simp; omega) w
        have hk2 := fun w => cat (t.data.toList ++ [32, 64, 32]) u (by rw [List.length_append, htl]; simp; omega) w
        rw [str_data] at hk1
        change ∀ w, (Op.stringOp .add t ⟨#[32, 64, 32]⟩).run Tryd.prog w = _ at hk1
        have hdl1 : (done.length : Int) = 1 := by rw [hu]; rfl
        have hdl2 : done.length = 1 := by rw [hu]; rfl
        generalize str (t.data.toList ++ [32, 64, 32] ++ u) = s2 at *
        generalize str (t.data.toList ++ [32, 64, 32]) = s1 at *
        generalize str u = s0 at *
        rw [hdl2]
        clear hblk hcp hg hul hl1 hu htl ht8 hN hdl1 hdl2
        go_wp2
        go_quiet (fail)
        go_wp2
        go_ret
        exact ⟨by rw [HE.out]; rfl, HB0.out.trans ((HBR.out.trans (below_drewN (Below.refl _ _) _)).mono HB0.out.size)⟩
end Go.Proofs.YtdifefgigcjgeaaDoor
