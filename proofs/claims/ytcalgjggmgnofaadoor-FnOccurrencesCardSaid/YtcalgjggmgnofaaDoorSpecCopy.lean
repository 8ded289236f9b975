/- What is proved here: the model's copy of a value (package spec, l4Copy). Condition: the value lies in memory as said, and is small. -/
import Derived.Test.YtcalgjggmgnofaaDoorTreeGrow
import Derived.Test.YtcalgjggmgnofaaDoorBoxAt
import Derived.Laws.Rows
import Derived.Deep.RegionHeld3
namespace Go.Proofs.YtcalgjggmgnofaaDoor
open Go.RowKit

/-- A value comes back in memory of the call's own. -/
def NewValue (w : World) (k n : Int) (t : ByteArray) (F : Trees) (e : Ending) (w' : World) : Prop :=
  (∃ v bs, e = .returned (.agg #[.int .i64 k, .int .i64 n, .string t, v]) ∧ OwnV w' v F bs ∧ bs.Nodup ∧ ∀ b ∈ bs, w.heap.size ≤ b ∧ b < w'.heap.size) ∧ Below w.heap.size w w'

theorem three_boxes (w : World) (o0 o1 o2 : Obj) : (((w.alloc o0).alloc o1).alloc o2).heap[w.heap.size]? = some o0 ∧ (((w.alloc o0).alloc o1).alloc o2).heap[w.heap.size + 1]? = some o1 ∧ (((w.alloc o0).alloc o1).alloc o2).heap[w.heap.size + 1 + 1]? = some o2 ∧ (((w.alloc o0).alloc o1).alloc o2).heap.size = w.heap.size + 3 ∧ Below w.heap.size w (((w.alloc o0).alloc o1).alloc o2) := by
  have s1 : (w.alloc o0).heap.size = w.heap.size + 1 := Array.size_push _
  have s2 : ((w.alloc o0).alloc o1).heap.size = (w.alloc o0).heap.size + 1 := Array.size_push _
  have s3 : (((w.alloc o0).alloc o1).alloc o2).heap.size = ((w.alloc o0).alloc o1).heap.size + 1 := Array.size_push _
  have e1 := heap_at_new (w.alloc o0) o1
  have e2 := heap_at_new ((w.alloc o0).alloc o1) o2
  rw [s1] at e1
  rw [s2, s1] at e2
  refine ⟨?_, ?_, e2, by omega, (((Below.refl _ _).alloc (Nat.le_refl _) _).alloc (by omega) _).alloc (by omega) _⟩
  · rw [Below.heap_alloc _ _ _ (by omega), Below.heap_alloc _ _ _ (by omega)]
    exact heap_at_new w o0
  · rw [Below.heap_alloc _ _ _ (by omega)]
    exact e1

set_option maxHeartbeats 4000000 in
set_option maxRecDepth 100000 in
theorem l4Copy_any : ∀ F : Trees, F.count ≤ 1048576 → ∀ (w : World) (k n : Int) (t : ByteArray) (p : Option Addr) (cap : Nat), TreesAt w F p 0 →
    Calls Tryd.prog 41 #[.agg #[.int .i64 k, .int .i64 n, .string t, .slice p F.length cap]] w (NewValue w k n t F) := by
  refine Trees.ind fun F hall hcnt w k n t p cap hx => ?_
  have hi : (Tryd.prog.info? 26).map (fun i => (i.zero, i.size, i.bytes)) = some (some (.agg #[.int .i64 0, .int .i64 0, .string ⟨#[]⟩, .slice none 0 0]), 4, 56) := by kernel_rfl
  obtain ⟨i0, hi, hz0, hz1, hz2⟩ := info_parts hi
  have h3 := three_boxes w (.cells #[.int .i64 k, .int .i64 n, .string t, .slice p F.length cap] 26) (.cells #[.int .i64 0, .int .i64 0, .string ⟨#[]⟩, .slice none 0 0] 26) (.cells #[.int .i64 k, .int .i64 n, .string t, .slice none 0 0] 26)
  obtain ⟨w3, hw3⟩ : ∃ w3, w3 = ((w.alloc (.cells #[.int .i64 k, .int .i64 n, .string t, .slice p F.length cap] 26)).alloc (.cells #[.int .i64 0, .int .i64 0, .string ⟨#[]⟩, .slice none 0 0] 26)).alloc (.cells #[.int .i64 k, .int .i64 n, .string t, .slice none 0 0] 26) := ⟨_, rfl⟩
  rw [← hw3] at h3
  obtain ⟨ha, hb, hc, hs, hB⟩ := h3
  have HW3 := Lib.hid hw3
  have HX := Lib.hid hx
  have HC := Lib.hid hcnt
  have HALL := Lib.hid hall
  have hln := F.length_le_count
  generalize hn : F.length = m at *
  have HN := Lib.hid hn
  have hml : m ≤ 1048576 := by omega
  have HI : Hid (BoxAt w3 w.heap.size k n t p m cap 26 ∧ BoxAt w3 (w.heap.size + 1) 0 0 ⟨#[]⟩ none 0 0 26 ∧ BoxAt w3 (w.heap.size + 1 + 1) k n t none 0 0 26 ∧ Below w.heap.size w w3 ∧ w.heap.size + 3 ≤ w3.heap.size) := ⟨ha, hb, hc, hB, by omega⟩
  clear hx hall hcnt ha hb hc hs hB hw3 hn hln
  go_enter Tryd.func41, Tryd.ntmps41
  go_wp2
  rw [← HW3.out]
  clear HW3
  go_loopw [4] (fun i wr => ∃ (j : Nat) (pre rest : Trees) (a : Option Addr) (c : Nat) (bs : List Nat) (xs : List Value), i = .int .i64 j ∧ j + rest.length = m ∧ Hid (pre.length = j ∧ pre.append rest = F ∧ rest.count ≤ 1048576) ∧ Hid (TreesAt w rest p j) ∧ Hid (rest.All (fun G => G.count ≤ 1048576 → ∀ (w : World) (k n : Int) (t : ByteArray) (p : Option Addr) (cap : Nat), TreesAt w G p 0 →
    Calls Tryd.prog 41 #[.agg #[.int .i64 k, .int .i64 n, .string t, .slice p G.length cap]] w (NewValue w k n t G))) ∧ Hid (GrowV wr (w.heap.size + 3) (.slice a j c) pre bs xs) ∧ Hid (BoxAt wr w.heap.size k n t p m cap 26 ∧ BoxAt wr (w.heap.size + 1) 0 0 ⟨#[]⟩ none 0 0 26 ∧ BoxAt wr (w.heap.size + 1 + 1) k n t a j c 26 ∧ Below w.heap.size w wr ∧ w.heap.size + 3 ≤ wr.heap.size)) (fun i _ => m - (intOf i).toNat)
  case atStart => exact ⟨0, .nil, F, none, 0, [], [], rfl, by rw [HN.out]; omega, ⟨rfl, rfl, HC.out⟩, HX, HALL, GrowV.nil _ _, HI⟩
  case round =>
    obtain ⟨j, pre, rest, a, c, bs, xs, rfl, hjm, hP, hxr, hall, hG, hI⟩ := hrel
    cases rest with
    | nil =>
      obtain rfl : j = m := by simp only [Trees.length] at hjm; omega
      obtain ⟨cs, hO, hnd, hfr⟩ := hG.out.own
      have hPF := hP.out.2.1
      rw [Trees.append_nil] at hPF
      rw [hPF] at hO
      have HO := Lib.hid hO
      have HND := Lib.hid hnd
      have HFR := Lib.hid hfr
      obtain ⟨v0, v1, v2, v3⟩ := hI.out.1.cells
      obtain ⟨x0, x1, x2, x3⟩ := hI.out.2.2.1.cells
      obtain ⟨r0, r1, r2, r3, f0, f1, f2, f3⟩ := four_cells hI.out.2.1
      clear hO hnd hfr hPF hG hxr hall hP
      go_wp2
      refine bodyPost_ret (results_cell_row rfl _ _ (w.heap.size + 1) _ _ _ _ rfl (four_set (four_set (four_set (four_set hI.out.2.1 _).1 _).2.1 _).2.2.1 _).2.2.2 Tryd.underlying26 rfl (by kernel_rfl)) rfl ?_
      refine ⟨⟨_, cs, rfl, HO.out.keep (fun b hb => ?_), HND.out, fun b hb => ?_⟩, (((hI.out.2.2.2.1.setCell (by show _ ≤ w.heap.size + 1; omega) _).setCell (by show _ ≤ w.heap.size + 1; omega) _).setCell (by show _ ≤ w.heap.size + 1; omega) _).setCell (by show _ ≤ w.heap.size + 1; omega) _⟩
      · have := HFR.out b hb
        rw [Below.heap_setCell _ _ _ _ (by show b ≠ w.heap.size + 1; omega), Below.heap_setCell _ _ _ _ (by show b ≠ w.heap.size + 1; omega), Below.heap_setCell _ _ _ _ (by show b ≠ w.heap.size + 1; omega), Below.heap_setCell _ _ _ _ (by show b ≠ w.heap.size + 1; omega)]
      · have := HFR.out b hb
        exact ⟨by omega, by simpa [World.setCell] using this.2⟩
    | cons kd nu tx ar r =>
      have hjl : j < m := by simp only [Trees.length] at hjm; omega
      have hjm2 : j + 1 + r.length = m := by simp only [Trees.length] at hjm; omega
      obtain ⟨hp1, hp2, hp3⟩ := hP.out
      simp only [Trees.count] at hp3
      have HP2 : Hid ((pre.snoc kd nu tx ar).length = j + 1 ∧ (pre.snoc kd nu tx ar).append r = F ∧ r.count ≤ 1048576) := ⟨by rw [Trees.snoc_length, hp1], by rw [Trees.snoc_append]; exact hp2, by omega⟩
      have HP1 := Lib.hid hp1
      obtain ⟨y, q, cq, rfl, h1, h2, h3, h4, hs4, _⟩ := (hxr.out.below hI.out.2.2.2.1).open
      have hyb : y.block < w.heap.size := by
        obtain ⟨y', _, _, hy', h1', _⟩ := hxr.out.open
        cases hy'
        have e := addr_block y (j * 4)
        rcases Nat.lt_or_ge y.block w.heap.size with h | h
        · exact h
        · simp [World.cell?, e, Array.getElem?_eq_none h] at h1'
      have HXR2 : Hid (TreesAt w r (some y) (j + 1)) := hxr.out.2
      have HA2 := Lib.hid hall.out.2
      have HCALL := Lib.hid (hall.out.1 (by omega) wr.drew kd nu tx q cq hs4.drew)
      obtain ⟨v0, v1, v2, v3⟩ := hI.out.1.cells
      obtain ⟨x0, x1, x2, x3, f0, f1, f2, f3⟩ := four_cells hI.out.2.2.1
      have HYB := Lib.hid hyb
      clear hP hp1 hp2 hp3 hxr hall hs4 hyb hjm v0 v1 v2 x0 x1 x2 f0 f1 f2
      go_wp2
      go_region_law
        (first
          | (go_simp; go_at_call 41; refine HCALL.out.mono ?_
             rintro e w1 ⟨⟨u, c1, rfl, ho, hnd, hfr⟩, hb⟩
             obtain ⟨q2, cq2, rfl, hl2, _⟩ := ho.reads
             have hb1 := below_of_drew hb
             have hI1 : BoxAt w1 w.heap.size k n t (some y) m cap 26 ∧ BoxAt w1 (w.heap.size + 1) 0 0 ⟨#[]⟩ none 0 0 26 ∧ BoxAt w1 (w.heap.size + 1 + 1) k n t a j c 26 ∧ Below w.heap.size w w1 ∧ w.heap.size + 3 ≤ w1.heap.size := ⟨hI.out.1.below hb1, hI.out.2.1.below hb1, hI.out.2.2.1.below hb1, hI.out.2.2.2.1.trans (hb1.mono hI.out.2.2.2.1.size), Nat.le_trans hI.out.2.2.2.2 hb1.size⟩
             have hal : Below w1.heap.size w1 (w1.alloc (.cells #[.int .i64 kd, .int .i64 nu, .string tx, .slice q2 ar.length cq2] 26)) := (Below.refl _ _).alloc (Nat.le_refl _) _
             have HI1 := Lib.hid hI1
             have HG1 := Lib.hid ((hG.out.below hb1).below hal).owns
             have HO1 := Lib.hid ho
             have HND1 := Lib.hid hnd
             have HFR1 := Lib.hid hfr
             have HBW := Lib.hid hb1
             have HAL := Lib.hid hal
             obtain ⟨_, _, _, x3b, _, _, _, f3b⟩ := four_cells hI1.2.2.1
             obtain ⟨_, _, _, v3b⟩ := hI1.1.cells
             have x3c := (hI1.2.2.1.below hal).cells.2.2.2
             clear ho hnd hfr hb hb1 hI1 hal)
          | (refine step_append_lies _ rfl (.tmp 20) (.tmp 27) 24 rfl (w.heap.size + 3) 26 i0 (.agg #[.int .i64 0, .int .i64 0, .string ⟨#[]⟩, .slice none 0 0]) 4 56 Tryd.underlying24 hi hz0 hz1 hz2 rfl (by decide) (.slice a j c) pre.length xs (by simp [Act.eval]) HG1.out ⟨w1.heap.size, 0, none⟩ 1 1 [.int .i64 kd, .int .i64 nu, .string tx, .slice q2 ar.length cq2] (by simp [Act.eval]) rfl (grow_four _ _ _ _ _ _) (grow_one _ _ _ _ _ _) (by decide) (by rw [HP1.out]; unfold maxLen; omega) (by rw [HP1.out]; omega) (by have := HI1.out.2.2.2.2; simp; omega) (w1.heap.size + 1) (by simp) ?_
             intro g cap4 w4 hown hgrow hat hlt
             have hGM := GrowV.more (w := wr) (w1 := w1) hG.out hI.out.2.2.2.2 HBW.out HO1.out HND1.out HFR1.out HAL.out hown hgrow (by rcases hat with h | h; exact .inl h; exact .inr (by simp [h]))
             have hs2 := HAL.out.size
             have hs1 := HI1.out.2.2.2.2
             have hfar := hG.out.far
             have hk : ∀ b, b < w.heap.size + 3 → w4.heap[b]? = w1.heap[b]? := fun b hb => by rw [hgrow.block b (by omega) (fun e => by have := hfar b e.symm; omega), HAL.out.block b (by omega)]
             have HB4 : Hid (Below w.heap.size w w4) := (HI1.out.2.2.2.1.trans (HAL.out.mono HI1.out.2.2.2.1.size)).grown hgrow (by omega) (fun b e => by have := hfar b e; omega)
             have HV4 : Hid (BoxAt w4 w.heap.size k n t (some y) m cap 26) := (hk _ (by omega)).trans HI1.out.1
             have HR4 : Hid (BoxAt w4 (w.heap.size + 1) 0 0 ⟨#[]⟩ none 0 0 26) := (hk _ (by omega)).trans HI1.out.2.1
             have HO4 : Hid (BoxAt w4 (w.heap.size + 1 + 1) k n t a j c 26) := (hk _ (by omega)).trans HI1.out.2.2.1
             have HZ4 : Hid (w.heap.size + 3 ≤ w4.heap.size) := by have := hgrow.size; unfold Hid; omega
             obtain ⟨_, _, _, x4, _, _, _, f4⟩ := four_cells HO4.out
             obtain ⟨_, _, _, v4⟩ := HV4.out.cells
             rw [HP1.out] at hGM
             have HGM := Lib.hid hGM
             rw [HP1.out]
             clear hGM hs2 hs1 hfar hk hown hgrow hat hlt))
      all_goals
        clear HG1 HO1 HND1 HFR1 HBW HAL HI1 HCALL hG hI
        go_wp2
        go_roundw
        case rel =>
          have hne : ∀ b, b ≠ w.heap.size + 1 + 1 → (w4.setCell ⟨w.heap.size + 1 + 1, 3, none⟩ (.slice (some ⟨g, 0, none⟩) (j + 1) cap4)).heap[b]? = w4.heap[b]? := fun b hb => Below.heap_setCell _ _ _ _ hb
          exact ⟨j + 1, pre.snoc kd nu tx ar, r, some ⟨g, 0, none⟩, cap4, _, _, by go_num, hjm2, HP2, HXR2, HA2, HGM.out.aside _ _ _ (by omega), (hne _ (by omega)).trans HV4.out, (hne _ (by omega)).trans HR4.out, (four_set HO4.out _).2.2.2, HB4.out.setCell (by show _ ≤ w.heap.size + 1 + 1; omega) _, by simpa [World.setCell] using HZ4.out⟩
        case measure => simp [intOf]; omega
end Go.Proofs.YtcalgjggmgnofaaDoor
