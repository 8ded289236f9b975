/- What is proved here: the program's isWithinLimits says whether a value has at most 40 nodes and a depth of at most 12. Condition: the value lies in memory as said, and is small. -/
import Derived.Test.YtdifefgigcjgeaaExPartsOf
import Derived.Test.YtdifefgigcjgeaaMost
namespace Go.Proofs.Ytdifefgigcjgeaa.Ex
open Go.RowKit Go.Shelf

attribute [local go_sem] Oper.semAt_some

/-- Six new blocks. -/
theorem six6 (w : World) (o1 o2 o3 o4 o5 o6 : Obj) : ((((((w.alloc o1).alloc o2).alloc o3).alloc o4).alloc o5).alloc o6).heap.size = w.heap.size + 6 ∧ (((((w.alloc o1).alloc o2).alloc o3).alloc o4).alloc o5).heap.size = w.heap.size + 5 ∧
    ((((((w.alloc o1).alloc o2).alloc o3).alloc o4).alloc o5).alloc o6).heap[w.heap.size + 1]? = some o2 ∧ ((((((w.alloc o1).alloc o2).alloc o3).alloc o4).alloc o5).alloc o6).heap[w.heap.size + 1 + 1]? = some o3 ∧ ((((((w.alloc o1).alloc o2).alloc o3).alloc o4).alloc o5).alloc o6).heap[w.heap.size + 1 + 1 + 1]? = some o4 ∧ ((((((w.alloc o1).alloc o2).alloc o3).alloc o4).alloc o5).alloc o6).heap[w.heap.size + 1 + 1 + 1 + 1]? = some o5 ∧ ((((((w.alloc o1).alloc o2).alloc o3).alloc o4).alloc o5).alloc o6).heap[w.heap.size + 1 + 1 + 1 + 1 + 1]? = some o6 ∧ Below w.heap.size w ((((((w.alloc o1).alloc o2).alloc o3).alloc o4).alloc o5).alloc o6) := by
  have s1 : (w.alloc o1).heap.size = w.heap.size + 1 := by simp
  have s2 : ((w.alloc o1).alloc o2).heap.size = w.heap.size + 2 := by simp
  have s3 : (((w.alloc o1).alloc o2).alloc o3).heap.size = w.heap.size + 3 := by simp
  have s4 : ((((w.alloc o1).alloc o2).alloc o3).alloc o4).heap.size = w.heap.size + 4 := by simp
  have s5 : (((((w.alloc o1).alloc o2).alloc o3).alloc o4).alloc o5).heap.size = w.heap.size + 5 := by simp
  have s6 : ((((((w.alloc o1).alloc o2).alloc o3).alloc o4).alloc o5).alloc o6).heap.size = w.heap.size + 6 := by simp
  have n2 := heap_at_new (w.alloc o1) o2
  have n3 := heap_at_new ((w.alloc o1).alloc o2) o3
  have n4 := heap_at_new (((w.alloc o1).alloc o2).alloc o3) o4
  have n5 := heap_at_new ((((w.alloc o1).alloc o2).alloc o3).alloc o4) o5
  have n6 := heap_at_new (((((w.alloc o1).alloc o2).alloc o3).alloc o4).alloc o5) o6
  rw [s1] at n2
  rw [s2] at n3
  rw [s3] at n4
  rw [s4] at n5
  rw [s5] at n6
  refine ⟨s6, s5, ?_, ?_, ?_, ?_, n6, ((((((Below.refl _ _).alloc (Nat.le_refl _) _).alloc (by omega) _).alloc (by omega) _).alloc (by omega) _).alloc (by omega) _).alloc (by omega) _⟩
  · rw [Below.heap_alloc _ _ _ (by omega), Below.heap_alloc _ _ _ (by omega), Below.heap_alloc _ _ _ (by omega), Below.heap_alloc _ _ _ (by omega)]; exact n2
  · rw [Below.heap_alloc _ _ _ (by omega), Below.heap_alloc _ _ _ (by omega), Below.heap_alloc _ _ _ (by omega)]; exact n3
  · rw [Below.heap_alloc _ _ _ (by omega), Below.heap_alloc _ _ _ (by omega)]; exact n4
  · rw [Below.heap_alloc _ _ _ (by omega)]; exact n5

set_option maxHeartbeats 2000000 in
set_option maxRecDepth 100000 in
theorem impl_limits (N D : Nat) (hN : N ≤ 1048576) (w : World) (k nu : Int) (t : ByteArray) (F : Trees) (p : Option Addr) (cap : Nat) (hx : TreesAt w F p 0) (hcap : F.length ≤ cap) (hc : F.count ≤ 1048576) :
    Calls Try.prog 45 #[.agg #[.int .i64 k, .int .i64 nu, .string t, .slice p F.length cap], .int .i64 (N : Int), .int .i64 (D : Int)] w fun e w' => e = .returned (.bool (decide (1 + F.count ≤ N ∧ F.deep + 1 ≤ D))) ∧ Below w.heap.size w w' := by
  refine (callsIn_wide (n := 9)).1 ?_
  refine callsIn_of_wp_marks Try.func45 rfl trivial ?_ rfl
  simp only [Try.ntmps45, List.size_toArray, List.length_cons, List.length_nil, Nat.reduceAdd, Nat.reduceSub, Array.replicate_succ, Array.replicate_zero, List.push_toArray, List.append_toArray, List.nil_append, List.cons_append]
  gi_wp2_with (refine ⟨trivial, ?_⟩; gi_at_call 51; refine (parts_of _ k nu t p F.length cap _).mono ?_; rintro e w' ⟨rfl, rfl⟩)
  obtain ⟨w3, hw3⟩ : ∃ w3, w3 = (((((w.alloc (.cells #[.int .i64 k, .int .i64 nu, .string t, .slice p F.length cap] 40)).alloc (.cells #[.int .i64 (N : Int)] 3)).alloc (.cells #[.int .i64 (D : Int)] 3)).alloc (.cells #[.bool false] 4)).alloc (.cells #[.int .i64 0] 3)).alloc (.cells #[.int .i64 k, .int .i64 nu, .string t, .slice p F.length cap] 40) := ⟨_, rfl⟩
  obtain ⟨hs6, hs5, hpN, hpD, hp0, hp1, hp2, hB⟩ := six6 w (.cells #[.int .i64 k, .int .i64 nu, .string t, .slice p F.length cap] 40) (.cells #[.int .i64 (N : Int)] 3) (.cells #[.int .i64 (D : Int)] 3) (.cells #[.bool false] 4) (.cells #[.int .i64 0] 3) (.cells #[.int .i64 k, .int .i64 nu, .string t, .slice p F.length cap] 40)
  rw [← hw3] at hs6 hpN hpD hp0 hp1 hp2 hB ⊢
  have hseq := parts_seq (9 - 1) k nu t F p cap (w.heap.size + 1 + 1 + 1 + 1 + 1) w.heap.size w3 hp2 (TreesOn.keep (fun b hb => hB.block b hb) _ _ _ (TreesOn.of _ _ _ hx)) (by omega) hc hcap
  have hdeep := most_seq (1, k, nu, t, F.length) F rfl
  have hdb := F.deep_le_count
  have hlen : ((1, k, nu, t, F.length) :: F.pre 2 : List Part).length = 1 + F.count := by rw [List.length_cons, Trees.pre_length]; omega
  generalize (1, k, nu, t, F.length) :: F.pre 2 = seq at *
  generalize hz : decide (1 + F.count ≤ N ∧ F.deep + 1 ≤ D) = z
  have HZ := Lib.hid hz
  clear hw3 hx hp2 hz
  refine wpIn_rangeFunc_go rfl (by omega) (gf := 72) (lb := #[.pointer (some ⟨w.heap.size + 1 + 1 + 1 + 1 + 1, 0, none⟩)]) rfl trivial (enters_of Try.func72 (by kernel_rfl) rfl)
    hseq (Below.refl _ _) (by omega) (fun _ => rfl)
    (fun j W => ((W.cell? ⟨w.heap.size + 1 + 1 + 1 + 1, 0, none⟩ = some (.int .i64 (j : Int)) ∧ W.frozen? ⟨w.heap.size + 1 + 1 + 1 + 1, 0, none⟩ = false ∧ W.cell? ⟨w.heap.size + 1 + 1 + 1, 0, none⟩ = some (.bool false) ∧ W.frozen? ⟨w.heap.size + 1 + 1 + 1, 0, none⟩ = false) ∧ W.cell? ⟨w.heap.size + 1, 0, none⟩ = some (.int .i64 (N : Int)) ∧ W.cell? ⟨w.heap.size + 1 + 1, 0, none⟩ = some (.int .i64 (D : Int))) ∧ (j ≤ N ∧ most (seq.take j) ≤ D) ∧ Below w.heap.size w W)
    (fun c W => c = .ret ∧ z = false ∧ W.cell? ⟨w.heap.size + 1 + 1 + 1, 0, none⟩ = some (.bool false) ∧ Below w.heap.size w W)
    (fun j A C hs hb => ⟨⟨⟨(hb.cell (p := ⟨w.heap.size + 1 + 1 + 1 + 1, 0, none⟩) (by show w.heap.size + 1 + 1 + 1 + 1 < _; omega)).trans hs.1.1.1, (hb.frozen (p := ⟨w.heap.size + 1 + 1 + 1 + 1, 0, none⟩) (by show w.heap.size + 1 + 1 + 1 + 1 < _; omega)).trans hs.1.1.2.1, (hb.cell (p := ⟨w.heap.size + 1 + 1 + 1, 0, none⟩) (by show w.heap.size + 1 + 1 + 1 < _; omega)).trans hs.1.1.2.2.1, (hb.frozen (p := ⟨w.heap.size + 1 + 1 + 1, 0, none⟩) (by show w.heap.size + 1 + 1 + 1 < _; omega)).trans hs.1.1.2.2.2⟩, (hb.cell (p := ⟨w.heap.size + 1, 0, none⟩) (by show w.heap.size + 1 < _; omega)).trans hs.1.2.1, (hb.cell (p := ⟨w.heap.size + 1 + 1, 0, none⟩) (by show w.heap.size + 1 + 1 < _; omega)).trans hs.1.2.2⟩, hs.2.1, hs.2.2.trans (hb.mono (by omega))⟩)
    (fun _ A C hs hb => ⟨hs.1, hs.2.1, (hb.cell (p := ⟨w.heap.size + 1 + 1 + 1, 0, none⟩) (by show w.heap.size + 1 + 1 + 1 < _; omega)).trans hs.2.2.1, hs.2.2.2.trans (hb.mono (by omega))⟩)
    ⟨⟨⟨(one_cell4 hp1).1, (one_cell4 hp1).2, (one_cell4 hp0).1, (one_cell4 hp0).2⟩, (one_cell4 hpN).1, (one_cell4 hpD).1⟩, ⟨by omega, by simp [most]⟩, hB⟩
    (fun x => { tmps := #[.agg #[.int .i64 k, .int .i64 nu, .string t, .slice p F.length cap], .int .i64 (N : Int), .int .i64 (D : Int), .pointer (some ⟨w.heap.size, 0, none⟩), .pointer (some ⟨w.heap.size + 1, 0, none⟩), .pointer (some ⟨w.heap.size + 1 + 1, 0, none⟩), .pointer (some ⟨w.heap.size + 1 + 1 + 1, 0, none⟩), .pointer (some ⟨w.heap.size + 1 + 1 + 1 + 1, 0, none⟩), .int .i64 (x.d : Int), .agg #[.int .i64 k, .int .i64 nu, .string t, .slice p F.length cap], .func (.func 72) #[] #[.pointer (some ⟨w.heap.size + 1 + 1 + 1 + 1 + 1, 0, none⟩)], .int .i64 (x.d : Int), x.val, undef, undef, undef, undef, undef, undef, undef, undef, undef, undef], defers := [] }) ?assign ?body ?done ?stop
  case assign =>
    intro l x W K hK
    simp only [List.zip_toArray, List.foldl_toArray, List.zip_cons_cons, List.zip_nil_right, List.foldl_cons, List.foldl_nil, List.setIfInBounds_toArray, List.set_cons_succ, List.set_cons_zero]
    gi_wp2
    simpa using hK
  case body =>
    rintro l j ⟨d, vk, vn, vt, vp, vl, vc⟩ W hj ⟨⟨⟨hc1, hf1, hc2, hf2⟩, hcN, hcD⟩, ⟨hjN, hmD⟩, hBW⟩ hws
    have hm := most_take seq j _ hj
    have hl2 := le_most seq j _ hj
    rw [hdeep] at hl2
    dsimp only [PartX.key] at hm hl2
    have hjl : j < 1 + F.count := by
      rw [← hlen]
      exact (List.getElem?_eq_some_iff.1 hj).1
    have HB := Lib.hid hBW
    have HM : Hid (most (seq.take (j + 1)) = max (most (seq.take j)) d) := hm
    have HMD := Lib.hid hmD
    have hx1 := World.cell?_setCell_same' W ⟨w.heap.size + 1 + 1 + 1 + 1, 0, none⟩ (.int .i64 ((j : Int) + 1)) (by rw [hc1]; rfl)
    have hx2 : (W.setCell ⟨w.heap.size + 1 + 1 + 1 + 1, 0, none⟩ (.int .i64 ((j : Int) + 1))).cell? ⟨w.heap.size + 1 + 1 + 1, 0, none⟩ = some (.bool false) := by
      rw [← hc2]
      exact World.cell?_of_block (Below.heap_setCell _ _ _ _ (by show w.heap.size + 1 + 1 + 1 ≠ w.heap.size + 1 + 1 + 1 + 1; omega))
    have hxN : (W.setCell ⟨w.heap.size + 1 + 1 + 1 + 1, 0, none⟩ (.int .i64 ((j : Int) + 1))).cell? ⟨w.heap.size + 1, 0, none⟩ = some (.int .i64 (N : Int)) := by
      rw [← hcN]
      exact World.cell?_of_block (Below.heap_setCell _ _ _ _ (by show w.heap.size + 1 ≠ w.heap.size + 1 + 1 + 1 + 1; omega))
    have hxD : (W.setCell ⟨w.heap.size + 1 + 1 + 1 + 1, 0, none⟩ (.int .i64 ((j : Int) + 1))).cell? ⟨w.heap.size + 1 + 1, 0, none⟩ = some (.int .i64 (D : Int)) := by
      rw [← hcD]
      exact World.cell?_of_block (Below.heap_setCell _ _ _ _ (by show w.heap.size + 1 + 1 ≠ w.heap.size + 1 + 1 + 1 + 1; omega))
    have hx3 : (W.setCell ⟨w.heap.size + 1 + 1 + 1 + 1, 0, none⟩ (.int .i64 ((j : Int) + 1))).frozen? ⟨w.heap.size + 1 + 1 + 1, 0, none⟩ = false := by rw [World.frozen?_setCell]; exact hf2
    have hB1 : Below w.heap.size w (W.setCell ⟨w.heap.size + 1 + 1 + 1 + 1, 0, none⟩ (.int .i64 ((j : Int) + 1))) := HB.out.setCell (by show _ ≤ w.heap.size + 1 + 1 + 1 + 1; omega) _
    have HX2 := Lib.hid hx2
    have HB1 := Lib.hid hB1
    have hA1 : Apart w.heap.size w3.heap.size W (W.setCell ⟨w.heap.size + 1 + 1 + 1 + 1, 0, none⟩ (.int .i64 ((j : Int) + 1))) := Apart.setCell _ _ _ (by show _ ≤ w.heap.size + 1 + 1 + 1 + 1; omega) (by show w.heap.size + 1 + 1 + 1 + 1 < _; omega)
    have HA1 := Lib.hid hA1
    have HF1 : Hid ((W.setCell ⟨w.heap.size + 1 + 1 + 1 + 1, 0, none⟩ (.int .i64 ((j : Int) + 1))).frozen? ⟨w.heap.size + 1 + 1 + 1 + 1, 0, none⟩ = false) := by unfold Hid; rw [World.frozen?_setCell]; exact hf1
    have HF2 := Lib.hid hx3
    have HX1 := Lib.hid hx1
    have HXN := Lib.hid hxN
    have HXD := Lib.hid hxD
    have HW3 := Lib.hid hs6
    clear hj hBW hseq hm hmD hB1 hA1 hs6 hs5 hlen hdeep hp0 hp1 hB hpN hpD hcN hcD
    by_cases hgt : N < j + 1
    · have HE : Hid (z = false) := by unfold Hid; rw [← HZ.out]; simp; omega
      have hg : (N : Int) < (j : Int) + 1 := by omega
      clear hjl hl2 hdb
      gi_wp2
      refine ⟨HA1.out.trans (Apart.setCell _ _ _ (by show _ ≤ w.heap.size + 1 + 1 + 1; omega) (by show w.heap.size + 1 + 1 + 1 < _; have := HW3.out; omega)), rfl, HE.out, World.cell?_setCell_same' _ _ _ (by rw [HX2.out]; rfl), HB1.out.setCell (by show _ ≤ w.heap.size + 1 + 1 + 1; omega) _⟩
    · have hg : ¬ (N : Int) < (j : Int) + 1 := by omega
      by_cases hd : D < d
      · have HE : Hid (z = false) := by unfold Hid; rw [← HZ.out]; simp; omega
        have hg2 : (D : Int) < (d : Int) := by omega
        clear hjl hl2 hdb
        gi_wp2
        refine ⟨HA1.out.trans (Apart.setCell _ _ _ (by show _ ≤ w.heap.size + 1 + 1 + 1; omega) (by show w.heap.size + 1 + 1 + 1 < _; have := HW3.out; omega)), rfl, HE.out, World.cell?_setCell_same' _ _ _ (by rw [HX2.out]; rfl), HB1.out.setCell (by show _ ≤ w.heap.size + 1 + 1 + 1; omega) _⟩
      · have hg2 : ¬ (D : Int) < (d : Int) := by omega
        clear hjl hl2 hdb
        gi_wp2
        refine ⟨HA1.out, ⟨⟨⟨by rw [HX1.out]; rfl, HF1.out, HX2.out, HF2.out⟩, HXN.out, HXD.out⟩, ⟨by omega, by rw [HM.out]; have := HMD.out; omega⟩, HB1.out⟩⟩
  case done =>
    rintro Df W hD' ⟨⟨⟨hc1, hf1, hc2, hf2⟩, hcN, hcD⟩, ⟨hjN, hmD⟩, hBW⟩ hK
    rw [List.take_length, hdeep] at hmD
    rw [hlen] at hjN
    have HE : Hid (z = true) := by unfold Hid; rw [← HZ.out]; simp; omega
    have HB := Lib.hid hBW
    have hK4 : (W.setCell ⟨w.heap.size + 1 + 1 + 1, 0, none⟩ (.bool true)).heap[Df]? = some (.deferred (some [])) := (Below.heap_setCell W ⟨w.heap.size + 1 + 1 + 1, 0, none⟩ _ _ (by show Df ≠ w.heap.size + 1 + 1 + 1; omega)).trans hK
    have hc5 : ((W.setCell ⟨w.heap.size + 1 + 1 + 1, 0, none⟩ (.bool true)).putObj Df (.deferred none)).cell? ⟨w.heap.size + 1 + 1 + 1, 0, none⟩ = some (.bool true) :=
      (World.cell?_of_block (World.putObj_heap_other (k := w.heap.size + 1 + 1 + 1) (by omega))).trans (World.cell?_setCell_same' _ _ _ (by rw [hc2]; rfl))
    have HB2 : Hid (Below w.heap.size w (W.setCell ⟨w.heap.size + 1 + 1 + 1, 0, none⟩ (.bool true))) := HB.out.setCell (by show _ ≤ w.heap.size + 1 + 1 + 1; omega) _
    clear hBW hseq hcN hcD
    gi_wp2
    refine ⟨by simp, .inl ⟨_, _, rfl, run_takeDeferred hK4, ?_⟩⟩
    refine ⟨.bool true, ?_, by rw [HZ.out, HE.out], HB2.out.trans (Below.putObj' _ Df (by omega) _)⟩
    simp [results, Try.f45, go_sem, hc5]
  case stop =>
    rintro Df c W hD' ⟨rfl, hzf, hc2, hBW⟩ hK
    have HB := Lib.hid hBW
    have hc5 : (W.putObj Df (.deferred none)).cell? ⟨w.heap.size + 1 + 1 + 1, 0, none⟩ = some (.bool false) :=
      (World.cell?_of_block (World.putObj_heap_other (k := w.heap.size + 1 + 1 + 1) (by omega))).trans hc2
    clear hBW hseq
    gi_wp2
    refine ⟨by simp, .inl ⟨_, _, rfl, run_takeDeferred hK, ?_⟩⟩
    refine ⟨.bool false, ?_, by rw [HZ.out, hzf], HB.out.trans (Below.putObj' _ Df (by omega) _)⟩
    simp [results, Try.f45, go_sem, hc5]
end Go.Proofs.Ytdifefgigcjgeaa.Ex
