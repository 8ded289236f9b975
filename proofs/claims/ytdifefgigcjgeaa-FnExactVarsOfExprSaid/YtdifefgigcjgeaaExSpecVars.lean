/- What is proved here: the model's VarsOfExpr gives the sorted names of an expression's variables. Condition: the pattern lies in memory as said, and is small. -/
import Derived.Test.YtdifefgigcjgeaaExVars
import Derived.Test.YtdifefgigcjgeaaTreeCells
import Derived.Test.YtdifefgigcjgeaaSpecSort
import Derived.Maps.AppendAt
import Derived.RangeFuncBox
import Derived.Deep.RegionHeld3
namespace Go.Proofs.Ytdifefgigcjgeaa.Ex
open Go.RowKit

/-- A slice of texts that came from v by appending: only v's own block and new ones have changed. -/
structure ListTo (w0 w : World) (v lst : Value) (ys : List ByteArray) (wr : World) : Prop where
  own : wr.ownsRow w0.heap.size 9 1 lst ys.length (ys.map Value.string)
  grow : w.grownBy wr v.ownBlock
  near : ∀ g, lst.ownBlock = some g → v.ownBlock = some g ∨ w.heap.size < g
  low : ∀ g, v.ownBlock = some g → w0.heap.size ≤ g
theorem ListTo.below {w0 w wr : World} {v lst : Value} {ys : List ByteArray} (h : ListTo w0 w v lst ys wr) (hb : Below w0.heap.size w0 w) : Below w0.heap.size w0 wr := hb.grown h.grow hb.size h.low
theorem ListTo.call {w0 w wr w1 : World} {v lst v1 : Value} {ys zs : List ByteArray} (h : ListTo w0 w v lst ys wr) (k : ListTo w0 wr lst v1 zs w1) : ListTo w0 w v v1 zs w1 := by
  have hs := h.grow.size
  refine ⟨k.own, ⟨k.grow.os.trans h.grow.os, k.grow.tape.trans h.grow.tape, k.grow.output.trans h.grow.output, Nat.le_trans hs k.grow.size, fun b hb hn => ?_⟩, fun g hg => ?_, h.low⟩
  · rw [k.grow.block b (by omega) (fun e => ?_)]
    · exact h.grow.block b hb hn
    · rcases h.near b e.symm with h1 | h1
      · exact hn h1.symm
      · omega
  · rcases k.near g hg with h1 | h1
    · exact h.near g h1
    · exact .inr (by omega)
theorem ListTo.box {w0 w wr w1 : World} {v lst v1 : Value} {ys zs : List ByteArray} {o : Obj} (h : ListTo w0 w v lst ys wr) (hv : ∀ g, v.ownBlock = some g → g < w.heap.size) (hb : wr.heap[w.heap.size]? = some o) (k : ListTo w0 wr lst v1 zs w1) : w1.heap[w.heap.size]? = some o := by
  rw [k.grow.block w.heap.size (Array.getElem?_eq_some_iff.1 hb).1 (fun e => ?_)]
  · exact hb
  · rcases h.near _ e.symm with h1 | h1
    · have := hv _ h1; omega
    · omega

set_option maxHeartbeats 2000000 in
set_option maxRecDepth 100000 in
theorem spec_vars_list (w0 : World) : ∀ G : Trees, G.count ≤ 1048576 → ∀ (w : World) (k n : Int) (t : ByteArray) (p : Option Addr) (cap : Nat) (v : Value) (xs : List ByteArray), Below w0.heap.size w0 w → TreesAt w0 G p 0 → w.ownsRow w0.heap.size 9 1 v xs.length (xs.map Value.string) → xs.length + 1 + G.count ≤ 2097152 →
    Calls Try.prog 50 #[.agg #[.int .i64 k, .int .i64 n, .string t, .slice p G.length cap], v] w fun e w' => ∃ v', e = .returned v' ∧ ListTo w0 w v v' (xs ++ (nodeVarsE k t ++ G.varsE)) w' := by
  have hi : (Try.prog.info? 9).map (fun i => (i.zero, i.size, i.bytes)) = some (some (.string ⟨#[]⟩), 1, 16) := by kernel_rfl
  obtain ⟨i0, hi, hz0, hz1, hz2⟩ := info_parts hi
  refine Trees.ind fun F hall hc w k n t p cap v xs hw hx hown hbd => ?_
  have HALL := Lib.hid hall
  have HC : Hid (F.count ≤ 1048576) := hc
  have HX := Lib.hid hx
  have HW := Lib.hid hw
  have hlc := F.length_le_count
  have HVL : Hid (∀ g, v.ownBlock = some g → g < w.heap.size) := fun g hg => (hown.lt g hg).2
  obtain ⟨zs, hzs⟩ : ∃ zs, xs ++ (nodeVarsE k t ++ F.varsE) = zs := ⟨_, rfl⟩
  rw [hzs]
  generalize hn : F.length = nn at *
  have HN := Lib.hid hn
  have hnb : nn ≤ 1048576 := by omega
  have hbox := heap_at_new w (.cells #[.int .i64 k, .int .i64 n, .string t, .slice p nn cap] 40)
  have hB1 : Below w.heap.size w (w.alloc (.cells #[.int .i64 k, .int .i64 n, .string t, .slice p nn cap] 40)) := (Below.refl _ _).alloc (Nat.le_refl _) _
  have hlow : ∀ g, v.ownBlock = some g → w0.heap.size ≤ g := fun g hg => (hown.lt g hg).1
  have hl0 : ListTo w0 w v v xs (w.alloc (.cells #[.int .i64 k, .int .i64 n, .string t, .slice p nn cap] 40)) := ⟨hown.alloc _, ⟨rfl, rfl, rfl, hB1.size, fun b hb _ => hB1.block b hb⟩, fun g hg => .inl hg, hlow⟩
  obtain ⟨w1, hw1⟩ : ∃ w1, w1 = w.alloc (.cells #[.int .i64 k, .int .i64 n, .string t, .slice p nn cap] 40) := ⟨_, rfl⟩
  have hs1 : (w.alloc (.cells #[.int .i64 k, .int .i64 n, .string t, .slice p nn cap] 40)).heap.size = w.heap.size + 1 := Array.size_push _
  rw [← hw1] at hbox hl0 hs1
  have HW1 := Lib.hid hw1
  obtain ⟨c0, c1, c2, c3, _⟩ := four_cells hbox
  by_cases hkv : k = 2
  · have hnv : nodeVarsE k t = [t] := by unfold nodeVarsE; rw [if_pos hkv]
    rw [hnv] at hzs
    have HZS : Hid ((xs ++ [t]) ++ F.varsE = zs) := by unfold Hid; rw [← hzs]; simp
    have HBND : Hid ((xs ++ [t]).length + F.count ≤ 2097152) := by unfold Hid; rw [List.length_append, List.length_singleton]; omega
    have hD1 := cell_one_new w1 (.string t) 9
    rw [hs1] at hD1
    have HD1 := Lib.hid hD1
    clear hD1
    have HD2 : Hid (∀ u ∈ [Value.string t], u.oneCell' = true) := by intro u hu; simp at hu; subst hu; rfl
    have HD3 : Hid (xs.length + 1 ≤ maxLen) := by unfold Hid maxLen; omega
    have HD4 : Hid ((xs.length + 1) * 16 ≤ 140737488355328) := by unfold Hid; omega
    have HD5 : Hid (w0.heap.size ≤ (w1.alloc (.cells #[.string t] 9)).heap.size) := by unfold Hid; have := hw.size; simp; omega
    have HO := Lib.hid hl0.own
    have HFIN : Hid (∀ v2 w5, w5.ownsRow w0.heap.size 9 1 v2 (xs.length + 1) (xs.map Value.string ++ [.string t]) → (w1.alloc (.cells #[.string t] 9)).grownBy w5 v.ownBlock → (v2.ownBlock = v.ownBlock ∨ v2.ownBlock = some (w.heap.size + 1 + 1)) → ListTo w0 w v v2 (xs ++ [t]) w5 ∧ w5.heap[w.heap.size]? = some (.cells #[.int .i64 k, .int .i64 n, .string t, .slice p nn cap] 40 (0, 0))) := by
      intro v2 w5 ho hg hat
      have hs5 : w1.heap.size + 1 ≤ w5.heap.size := by have := hg.size; simpa using this
      have hk : ∀ b, b < w1.heap.size → some b ≠ v.ownBlock → w5.heap[b]? = w1.heap[b]? := fun b hb hn => (hg.block b (by simp; omega) hn).trans (Below.heap_alloc _ _ _ hb)
      refine ⟨⟨by rw [List.length_append, List.map_append]; exact ho, ⟨hg.os.trans hl0.grow.os, hg.tape.trans hl0.grow.tape, hg.output.trans hl0.grow.output, by omega, fun b hb hn => (hk b (by omega) hn).trans (hl0.grow.block b hb hn)⟩, fun g hg2 => ?_, hlow⟩, ?_⟩
      · rcases hat with h | h
        · exact .inl (h ▸ hg2)
        · rw [h] at hg2; injection hg2 with hg2; exact .inr (by omega)
      · rw [hk _ (by omega) (fun e => by have := HVL.out _ e.symm; omega)]
        exact hbox
    clear hall hx hw hown hbd hn hzs hnv hl0 hlow hB1 hw1 hbox hlc hc
    subst hkv
    go_enter Try.func50, Try.ntmps50
    go_wp2_with (at_builtin; rw [← HW1.out]; refine wpList_append_own_at _ rfl _ _ 44 rfl w0.heap.size 9 i0 (.string ⟨#[]⟩) 1 16 Try.underlying44 hi hz0 hz1 hz2 rfl (by decide) _ _ _ rfl (HO.out.alloc _) ⟨w.heap.size + 1, 0, none⟩ 1 1 [.string t] rfl rfl HD1.out HD2.out HD3.out HD4.out HD5.out ?_)
    intro v2 w5 ho5 hg5 _ hat5
    obtain ⟨hlt5, hbx5⟩ := HFIN.out v2 w5 ho5 hg5 hat5
    have HLT := Lib.hid hlt5
    have HBX := Lib.hid hbx5
    clear hlt5 hbx5 ho5 hg5 hat5 c0 c1 c2 c3
    go_wp2
    go_loopw [1, 5] (fun lst i wr => ∃ (j : Nat) (rest : Trees) (ys : List ByteArray) (lv : Value), i = .int .i64 j ∧ lv = lst ∧ j + rest.length = nn ∧ ys.length + rest.count ≤ 2097152 ∧ Hid (rest.count ≤ 1048576) ∧ Hid (ys ++ rest.varsE = zs) ∧ Hid (TreesAt w0 rest p j) ∧ Hid (rest.All (fun G => G.count ≤ 1048576 → ∀ (w : World) (k n : Int) (t : ByteArray) (p : Option Addr) (cap : Nat) (v : Value) (xs : List ByteArray), Below w0.heap.size w0 w → TreesAt w0 G p 0 → w.ownsRow w0.heap.size 9 1 v xs.length (xs.map Value.string) → xs.length + 1 + G.count ≤ 2097152 →
        Calls Try.prog 50 #[.agg #[.int .i64 k, .int .i64 n, .string t, .slice p G.length cap], v] w fun e w' => ∃ v', e = .returned v' ∧ ListTo w0 w v v' (xs ++ (nodeVarsE k t ++ G.varsE)) w')) ∧ Hid (ListTo w0 w v lv ys wr) ∧ Hid (wr.heap[w.heap.size]? = some (.cells #[.int .i64 2, .int .i64 n, .string t, .slice p nn cap] 40 (0, 0)))) (fun _ i _ => nn - (intOf i).toNat)
    case atStart => exact ⟨0, F, xs ++ [t], _, rfl, rfl, by rw [HN.out]; omega, HBND.out, HC, HZS, HX, HALL, HLT, HBX⟩
    case round =>
      obtain ⟨j, rest, ys, lv, rfl, rfl, hjn, hyl, hcr, hzr, hxr, hall, hlt, hbx⟩ := hrel
      have hb3 := (four_cells hbx.out).2.2.2.1
      cases rest with
      | cons kd nu tx ar r =>
        have hjl : j < nn := by simp only [Trees.length] at hjn; omega
        have hjn2 : j + 1 + r.length = nn := by simp only [Trees.length] at hjn; omega
        have hcr2 := hcr.out
        simp only [Trees.count] at hcr2 hyl
        have hB0r : Below w0.heap.size w0 wr := hlt.out.below HW.out
        obtain ⟨y, q, cq, rfl, h1, h2, h3, h4, hs, hr⟩ := (hxr.out.below hB0r).open
        have hs0 : TreesAt w0 ar q 0 := by
          obtain ⟨y', q', cq', e', _, _, _, h4', hs', _⟩ := hxr.out.open
          cases e'
          have e := (cell_below h4' hB0r).symm.trans h4
          cases e
          exact hs'
        have hxr2 : Hid (TreesAt w0 r (some y) (j + 1)) := hxr.out.2
        have H := hall.out.1 (by omega) wr kd nu tx q cq lv ys hB0r hs0 hlt.out.own (by omega)
        have HA2 := Lib.hid hall.out.2
        have HCR : Hid (r.count ≤ 1048576) := by unfold Hid; omega
        have hvl := varsE_len ar
        have hnl := nodeVarsE_len kd tx
        have hyl2 : (ys ++ (nodeVarsE kd tx ++ ar.varsE)).length + r.count ≤ 2097152 := by simp only [List.length_append]; omega
        have HZR : Hid ((ys ++ (nodeVarsE kd tx ++ ar.varsE)) ++ r.varsE = zs) := by
          unfold Hid
          rw [← hzr.out]
          simp only [Trees.varsE, List.append_assoc]
        have HLTO := Lib.hid hlt.out
        have HBXO := Lib.hid hbx.out
        clear hxr hall hs hs0 hr hjn hcr hcr2 hzr hvl hnl hyl hB0r hlt hbx
        go_wp2_with fail
        refine H.mono ?_
        rintro e w1 ⟨v1, rfl, ho1⟩
        have hl1 := Lib.hid (HLTO.out.call ho1)
        have hx1 := Lib.hid (HLTO.out.box HVL.out HBXO.out ho1)
        clear ho1 H
        go_wp2
        go_roundw
        case rel => exact ⟨j + 1, r, ys ++ (nodeVarsE kd tx ++ ar.varsE), v1, by go_num, rfl, hjn2, hyl2, HCR, HZR, hxr2, HA2, hl1, hx1⟩
        case measure => simp [intOf]; omega
      | nil =>
        obtain rfl : j = nn := by simp only [Trees.length] at hjn; omega
        have HZR : Hid (ys = zs) := by unfold Hid; have := hzr.out; simpa [Trees.varsE] using this
        have HLTO := Lib.hid hlt.out
        clear hxr hall hzr hlt hbx
        go_wp2
        go_ret
        exact ⟨_, rfl, by rw [← HZR.out]; exact HLTO.out⟩
  · have hnv : nodeVarsE k t = [] := by unfold nodeVarsE; rw [if_neg hkv]
    rw [hnv, List.nil_append] at hzs
    have HZS : Hid (xs ++ F.varsE = zs) := hzs
    have HBND : Hid (xs.length + F.count ≤ 2097152) := by unfold Hid; omega
    have h2 : (k == 2) = false := by simpa using hkv
    have HLT := Lib.hid hl0
    have HBX := Lib.hid hbox
    clear hall hx hw hown hbd hn hzs hnv hl0 hlow hB1 hw1 hbox hlc hc hkv hs1
    go_enter Try.func50, Try.ntmps50
    go_wp2
    rw [← HW1.out]
    go_loopw [1, 5] (fun lst i wr => ∃ (j : Nat) (rest : Trees) (ys : List ByteArray) (lv : Value), i = .int .i64 j ∧ lv = lst ∧ j + rest.length = nn ∧ ys.length + rest.count ≤ 2097152 ∧ Hid (rest.count ≤ 1048576) ∧ Hid (ys ++ rest.varsE = zs) ∧ Hid (TreesAt w0 rest p j) ∧ Hid (rest.All (fun G => G.count ≤ 1048576 → ∀ (w : World) (k n : Int) (t : ByteArray) (p : Option Addr) (cap : Nat) (v : Value) (xs : List ByteArray), Below w0.heap.size w0 w → TreesAt w0 G p 0 → w.ownsRow w0.heap.size 9 1 v xs.length (xs.map Value.string) → xs.length + 1 + G.count ≤ 2097152 →
        Calls Try.prog 50 #[.agg #[.int .i64 k, .int .i64 n, .string t, .slice p G.length cap], v] w fun e w' => ∃ v', e = .returned v' ∧ ListTo w0 w v v' (xs ++ (nodeVarsE k t ++ G.varsE)) w')) ∧ Hid (ListTo w0 w v lv ys wr) ∧ Hid (wr.heap[w.heap.size]? = some (.cells #[.int .i64 k, .int .i64 n, .string t, .slice p nn cap] 40 (0, 0)))) (fun _ i _ => nn - (intOf i).toNat)
    case atStart => exact ⟨0, F, xs, _, rfl, rfl, by rw [HN.out]; omega, HBND.out, HC, HZS, HX, HALL, HLT, HBX⟩
    case round =>
      obtain ⟨j, rest, ys, lv, rfl, rfl, hjn, hyl, hcr, hzr, hxr, hall, hlt, hbx⟩ := hrel
      have hb3 := (four_cells hbx.out).2.2.2.1
      cases rest with
      | cons kd nu tx ar r =>
        have hjl : j < nn := by simp only [Trees.length] at hjn; omega
        have hjn2 : j + 1 + r.length = nn := by simp only [Trees.length] at hjn; omega
        have hcr2 := hcr.out
        simp only [Trees.count] at hcr2 hyl
        have hB0r : Below w0.heap.size w0 wr := hlt.out.below HW.out
        obtain ⟨y, q, cq, rfl, h1, h2, h3, h4, hs, hr⟩ := (hxr.out.below hB0r).open
        have hs0 : TreesAt w0 ar q 0 := by
          obtain ⟨y', q', cq', e', _, _, _, h4', hs', _⟩ := hxr.out.open
          cases e'
          have e := (cell_below h4' hB0r).symm.trans h4
          cases e
          exact hs'
        have hxr2 : Hid (TreesAt w0 r (some y) (j + 1)) := hxr.out.2
        have H := hall.out.1 (by omega) wr kd nu tx q cq lv ys hB0r hs0 hlt.out.own (by omega)
        have HA2 := Lib.hid hall.out.2
        have HCR : Hid (r.count ≤ 1048576) := by unfold Hid; omega
        have hvl := varsE_len ar
        have hnl := nodeVarsE_len kd tx
        have hyl2 : (ys ++ (nodeVarsE kd tx ++ ar.varsE)).length + r.count ≤ 2097152 := by simp only [List.length_append]; omega
        have HZR : Hid ((ys ++ (nodeVarsE kd tx ++ ar.varsE)) ++ r.varsE = zs) := by
          unfold Hid
          rw [← hzr.out]
          simp only [Trees.varsE, List.append_assoc]
        have HLTO := Lib.hid hlt.out
        have HBXO := Lib.hid hbx.out
        clear hxr hall hs hs0 hr hjn hcr hcr2 hzr hvl hnl hyl hB0r hlt hbx
        go_wp2_with fail
        refine H.mono ?_
        rintro e w1 ⟨v1, rfl, ho1⟩
        have hl1 := Lib.hid (HLTO.out.call ho1)
        have hx1 := Lib.hid (HLTO.out.box HVL.out HBXO.out ho1)
        clear ho1 H
        go_wp2
        go_roundw
        case rel => exact ⟨j + 1, r, ys ++ (nodeVarsE kd tx ++ ar.varsE), v1, by go_num, rfl, hjn2, hyl2, HCR, HZR, hxr2, HA2, hl1, hx1⟩
        case measure => simp [intOf]; omega
      | nil =>
        obtain rfl : j = nn := by simp only [Trees.length] at hjn; omega
        have HZR : Hid (ys = zs) := by unfold Hid; have := hzr.out; simpa [Trees.varsE] using this
        have HLTO := Lib.hid hlt.out
        clear hxr hall hzr hlt hbx
        go_wp2
        go_ret
        exact ⟨_, rfl, by rw [← HZR.out]; exact HLTO.out⟩
set_option maxHeartbeats 1000000 in
set_option maxRecDepth 100000 in
theorem spec_vars (w : World) (k n : Int) (t : ByteArray) (F : Trees) (p : Option Addr) (cap : Nat) (hc : F.count ≤ 1048576) (hx : TreesAt w F p 0) :
    Calls Try.prog 18 #[.agg #[.int .i64 k, .int .i64 n, .string t, .slice p F.length cap]] w fun e w' => ∃ ys, SortOf (nodeVarsE k t ++ F.varsE) ys ∧ OutTexts w ys e w' := by
  have hB1 : Below w.heap.size w (w.alloc (.cells #[.int .i64 k, .int .i64 n, .string t, .slice p F.length cap] 40)) := (Below.refl _ _).alloc (Nat.le_refl _) _
  have hs1 : (w.alloc (.cells #[.int .i64 k, .int .i64 n, .string t, .slice p F.length cap] 40)).heap.size = w.heap.size + 1 := Array.size_push _
  obtain ⟨w1, hw1⟩ : ∃ w1, w1 = w.alloc (.cells #[.int .i64 k, .int .i64 n, .string t, .slice p F.length cap] 40) := ⟨_, rfl⟩
  rw [← hw1] at hB1 hs1
  have hB2 : Below w.heap.size w (w1.alloc (.cells #[] 9)) := hB1.alloc (by omega) _
  have hown : (w1.alloc (.cells #[] 9)).ownsRow w.heap.size 9 1 (.slice (some ⟨w1.heap.size, 0, none⟩) 0 0) 0 [] := World.ownsRow_lit (base := w.heap.size) (e := 9) (size := 1) w1 #[] 0 (by omega) (by unfold maxLen; omega) rfl
  have H := spec_vars_list w F hc (w1.alloc (.cells #[] 9)) k n t p cap (.slice (some ⟨w1.heap.size, 0, none⟩) 0 0) [] hB2 hx hown (by simp; omega)
  rw [List.nil_append] at H
  have hvl := varsE_len F
  have hnl := nodeVarsE_len k t
  have hml : (nodeVarsE k t ++ F.varsE).length ≤ 1048577 := by rw [List.length_append]; omega
  have HML := Lib.hid hml
  have HB2 := Lib.hid hB2
  have HS1 := Lib.hid hs1
  have HW1 := Lib.hid hw1
  rw [hs1] at H
  generalize nodeVarsE k t ++ F.varsE = xs at *
  generalize F.length = fl at *
  clear hc hx hB1 hB2 hown hvl hnl hml hs1 hw1
  go_enter Try.func18, Try.ntmps18
  go_wp2_with fail
  rw [← HW1.out]
  refine H.mono ?_
  rintro e w2 ⟨v', rfl, hl⟩
  have hB3 := hl.below HB2.out
  obtain ⟨a, c, rfl, hrd⟩ : ∃ a c, v' = .slice a xs.length c ∧ Reads w2 a xs := by
    rcases hl.own.2 with ⟨e1, e2⟩ | ⟨g, cp, cur, e1, _⟩
    · have e3 : xs = [] := List.eq_nil_of_length_eq_zero e2
      subst e3
      exact ⟨none, 0, e1, fun j hj => absurd hj (by simp)⟩
    · obtain ⟨g2, cap2, rest, hv2, hg2, hblk, _⟩ := block_of_owned hl.own (by rw [e1]; simp)
      exact ⟨_, _, hv2, hblk.reads⟩
  have HB3 := Lib.hid hB3
  have hso := spec_sort_big w2 a c xs hrd HML.out
  clear hl hB3 hrd H
  go_wp2_with fail
  refine hso.mono ?_
  rintro e w3 ⟨ys, hs, g, c3, rest, hg, rfl, hblk, hb⟩
  have HO : Hid (∃ ys, SortOf xs ys ∧ OutTexts w ys (.returned (.slice (some ⟨g, 0, none⟩) ys.length c3)) w3) := ⟨ys, hs, g, c3, rest, Nat.le_trans HB3.out.size hg, rfl, hblk, HB3.out.trans (hb.mono HB3.out.size)⟩
  have HF : Hid (SortOf xs ys ∧ OutTexts w ys (.returned (.slice (some ⟨g, 0, none⟩) ys.length c3)) w3) := ⟨hs, g, c3, rest, Nat.le_trans HB3.out.size hg, rfl, hblk, HB3.out.trans (hb.mono HB3.out.size)⟩
  clear hs hblk hb hso HO
  go_wp2
  go_ret
  exact ⟨ys, HF.out⟩
end Go.Proofs.Ytdifefgigcjgeaa.Ex
