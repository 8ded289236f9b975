/- What is proved here: the program's CountValue and DepthOfValue count the nodes and the depth of a value. Condition: the value lies in memory as said, and is small. -/
import Derived.Test.YtdilegbigaahnaaPartsOf
namespace Go.Proofs.Ytdilegbigaahnaa
open Go.RowKit Go.Shelf

attribute [local go_sem] Oper.semAt_some

set_option maxHeartbeats 1000000 in
set_option maxRecDepth 100000 in
theorem impl_count_parts (w : World) (k nu : Int) (t : ByteArray) (F : Trees) (p : Option Addr) (cap : Nat) (hx : TreesAt w F p 0) (hcap : F.length ≤ cap) (hc : F.count ≤ 1048576) :
    Calls Try.prog 32 #[.agg #[.int .i64 k, .int .i64 nu, .string t, .slice p F.length cap]] w fun e w' => e = .returned (.int .i64 ((1 + F.count : Nat) : Int)) ∧ Below w.heap.size w w' := by
  refine (callsIn_wide (n := 9)).1 ?_
  refine callsIn_of_wp_marks Try.func32 rfl trivial ?_ rfl
  simp only [Try.ntmps32, List.size_toArray, List.length_cons, List.length_nil, Nat.reduceAdd, Nat.reduceSub, Array.replicate_succ, Array.replicate_zero, List.push_toArray, List.append_toArray, List.nil_append, List.cons_append]
  gi_wp2_with (refine ⟨trivial, ?_⟩; gi_at_call 50; refine (parts_of _ k nu t p F.length cap _).mono ?_; rintro e w' ⟨rfl, rfl⟩)
  obtain ⟨w3, hw3⟩ : ∃ w3, w3 = ((w.alloc (.cells #[.int .i64 k, .int .i64 nu, .string t, .slice p F.length cap] 29)).alloc (.cells #[.int .i64 0] 3)).alloc (.cells #[.int .i64 k, .int .i64 nu, .string t, .slice p F.length cap] 29) := ⟨_, rfl⟩
  obtain ⟨hs3, hp1, hp2, hB⟩ := three4 w (.cells #[.int .i64 k, .int .i64 nu, .string t, .slice p F.length cap] 29) (.cells #[.int .i64 0] 3) (.cells #[.int .i64 k, .int .i64 nu, .string t, .slice p F.length cap] 29)
  rw [← hw3] at hs3 hp1 hp2 hB ⊢
  have hseq := parts_seq (9 - 1) k nu t F p cap (w.heap.size + 1 + 1) w.heap.size w3 hp2 (TreesOn.keep (fun b hb => hB.block b hb) _ _ _ (TreesOn.of _ _ _ hx)) (by omega) hc hcap
  have hlen : ((1, k, nu, t, F.length) :: F.pre 2 : List Part).length = 1 + F.count := by rw [List.length_cons, Trees.pre_length]; omega
  generalize (1, k, nu, t, F.length) :: F.pre 2 = seq at *
  clear hw3 hx hp2
  refine wpIn_rangeFunc_go rfl (by omega) (gf := 59) (lb := #[.pointer (some ⟨w.heap.size + 1 + 1, 0, none⟩)]) rfl trivial (enters_of Try.func59 (by kernel_rfl) rfl)
    hseq (Below.refl _ _) (by omega) (fun _ => rfl)
    (fun j W => W.cell? ⟨w.heap.size + 1, 0, none⟩ = some (.int .i64 (j : Int)) ∧ W.frozen? ⟨w.heap.size + 1, 0, none⟩ = false ∧ Below w.heap.size w W)
    (fun _ _ => False)
    (fun j A C hs hb => ⟨(hb.cell (p := ⟨w.heap.size + 1, 0, none⟩) (by show w.heap.size + 1 < _; omega)).trans hs.1, (hb.frozen (p := ⟨w.heap.size + 1, 0, none⟩) (by show w.heap.size + 1 < _; omega)).trans hs.2.1, hs.2.2.trans (hb.mono (by omega))⟩)
    (fun _ _ _ hs _ => hs)
    ⟨(one_cell4 hp1).1, (one_cell4 hp1).2, hB⟩
    (fun x => { tmps := #[.agg #[.int .i64 k, .int .i64 nu, .string t, .slice p F.length cap], .pointer (some ⟨w.heap.size, 0, none⟩), .int .i64 0, .pointer (some ⟨w.heap.size + 1, 0, none⟩), .agg #[.int .i64 k, .int .i64 nu, .string t, .slice p F.length cap], .func (.func 59) #[] #[.pointer (some ⟨w.heap.size + 1 + 1, 0, none⟩)], .int .i64 (x.d : Int), x.val, undef, undef, undef], defers := [] }) ?assign ?body ?done ?stop
  case assign =>
    intro l x W K hK
    gi_wp2
    simpa using hK
  case body =>
    rintro l j x W hj ⟨hc1, hf1, hBW⟩ hws
    have hjl : j < 1 + F.count := by
      rw [← hlen]
      exact (List.getElem?_eq_some_iff.1 hj).1
    have HB := Lib.hid hBW
    clear hj hBW hseq
    gi_wp2
    refine ⟨Apart.setCell _ _ _ (by show _ ≤ w.heap.size + 1; omega) (by show w.heap.size + 1 < _; omega), ?_, ?_, HB.out.setCell (by show _ ≤ w.heap.size + 1; omega) _⟩
    · rw [World.cell?_setCell_same' _ _ _ (by rw [hc1]; rfl)]
      rfl
    · rw [World.frozen?_setCell]; exact hf1
  case done =>
    rintro D W hD ⟨hc1, hf1, hBW⟩ hK
    rw [hlen] at hc1
    have HB := Lib.hid hBW
    clear hBW hseq
    gi_wp2
    refine ⟨by simp, .inl ⟨_, _, rfl, run_takeDeferred hK, ?_⟩⟩
    exact ⟨_, results_tmp rfl _ _ _, rfl, HB.out.trans (Below.putObj' _ D (by omega) _)⟩
  case stop =>
    rintro D c W _ h _
    exact h.elim

set_option maxHeartbeats 1000000 in
theorem impl_count (w : World) (k nu : Int) (t : ByteArray) (F : Trees) (p : Option Addr) (cap : Nat) (hx : TreesAt w F p 0) (hcap : F.length ≤ cap) (hc : F.count ≤ 1048576) :
    Calls Try.prog 13 #[.agg #[.int .i64 k, .int .i64 nu, .string t, .slice p F.length cap]] w fun e w' => e = .returned (.int .i64 ((1 + F.count : Nat) : Int)) ∧ Below w.heap.size w w' := by
  have hB0 : Below w.heap.size w (w.alloc (.cells #[.int .i64 k, .int .i64 nu, .string t, .slice p F.length cap] 29)) := (Below.refl _ _).alloc (Nat.le_refl _) _
  have H := impl_count_parts (w.alloc (.cells #[.int .i64 k, .int .i64 nu, .string t, .slice p F.length cap] 29)) k nu t F p cap (hx.below hB0) hcap hc
  have HB0 := Lib.hid hB0
  generalize 1 + F.count = z at *
  generalize F.length = l at *
  clear hx hcap hc hB0
  go_enter Try.func13, Try.ntmps13
  go_wp2_with fail
  refine H.mono ?_
  rintro e w1 ⟨rfl, hb⟩
  have HB1 : Hid (Below w.heap.size w w1) := HB0.out.trans (hb.mono HB0.out.size)
  clear H hb
  go_wp2
  go_ret
  exact ⟨rfl, HB1.out⟩
end Go.Proofs.Ytdilegbigaahnaa
