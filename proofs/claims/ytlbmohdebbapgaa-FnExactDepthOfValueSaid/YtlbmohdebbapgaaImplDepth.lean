/- What is proved here: the program's DepthOfValue counts the depth of a value. Condition: the value lies in memory as said, and is small. -/
import Derived.Test.YtlbmohdebbapgaaImplCount
namespace Go.Proofs.Ytlbmohdebbapgaa
open Go.RowKit Go.Shelf

attribute [local go_sem] Oper.semAt_some

def most (l : List Nat) : Nat := l.foldl max 0
theorem foldl_max (l : List Nat) : ∀ a, l.foldl max a = max a (l.foldl max 0) := by
  induction l with
  | nil => intro a; simp
  | cons x r ih => intro a; rw [List.foldl_cons, List.foldl_cons, ih, ih (max 0 x)]; omega
theorem most_append (a b : List Nat) : most (a ++ b) = max (most a) (most b) := by
  unfold most
  rw [List.foldl_append, foldl_max]
theorem most_cons (x : Nat) (r : List Nat) : most (x :: r) = max x (most r) := by
  unfold most
  rw [List.foldl_cons, foldl_max]
  omega
theorem most_pre (F : Trees) : ∀ d, (F.deep = 0 → most (F.pre (d + 1)) = 0) ∧ (F.deep ≠ 0 → most (F.pre (d + 1)) = d + F.deep) := by
  induction F with
  | nil => intro d; exact ⟨fun _ => rfl, fun h => absurd rfl h⟩
  | cons k n t ar r ih1 ih2 =>
    intro d
    have h1 := ih1 (d + 1)
    have h2 := ih2 d
    have e : most (Trees.pre (.cons k n t ar r) (d + 1)) = max (d + 1) (max (most (ar.pre (d + 1 + 1))) (most (r.pre (d + 1)))) := by
      rw [Trees.pre, most_cons, most_append]
    have e2 : (Trees.cons k n t ar r).deep = max (ar.deep + 1) r.deep := rfl
    rw [e, e2]
    refine ⟨fun h => by omega, fun _ => ?_⟩
    by_cases ha : ar.deep = 0 <;> by_cases hr : r.deep = 0
    · rw [h1.1 ha, h2.1 hr]; omega
    · rw [h1.1 ha, h2.2 hr]; omega
    · rw [h1.2 ha, h2.1 hr]; omega
    · rw [h1.2 ha, h2.2 hr]; omega
theorem most_seq (F : Trees) : most (1 :: F.pre 2) = F.deep + 1 := by
  rw [most_cons]
  by_cases h : F.deep = 0
  · rw [(most_pre F 1).1 h]; omega
  · rw [(most_pre F 1).2 h]; omega
theorem most_take (l : List Nat) (j x : Nat) (h : l[j]? = some x) : most (l.take (j + 1)) = max (most (l.take j)) x := by
  obtain ⟨hj, rfl⟩ := List.getElem?_eq_some_iff.1 h
  rw [List.take_succ_eq_append_getElem hj, most_append, most_cons]
  simp [most]
theorem most_le (l : List Nat) (j : Nat) : most (l.take j) ≤ most l := by
  have e : most l = max (most (l.take j)) (most (l.drop j)) := by rw [← most_append, List.take_append_drop]
  omega
theorem le_most (l : List Nat) (j x : Nat) (h : l[j]? = some x) : x ≤ most l := by
  have := most_le l (j + 1)
  rw [most_take l j x h] at this
  omega

set_option maxHeartbeats 1000000 in
set_option maxRecDepth 100000 in
theorem impl_depth (w : World) (k nu : Int) (t : ByteArray) (F : Trees) (p : Option Addr) (cap : Nat) (hx : TreesAt w F p 0) (hcap : F.length ≤ cap) (hc : F.count ≤ 1048576) :
    Calls Try.prog 13 #[.agg #[.int .i64 k, .int .i64 nu, .string t, .slice p F.length cap]] w fun e w' => e = .returned (.int .i64 ((F.deep + 1 : Nat) : Int)) ∧ Below w.heap.size w w' := by
  refine (callsIn_wide (n := 9)).1 ?_
  refine callsIn_of_wp_marks Try.func13 rfl trivial ?_ rfl
  simp only [Try.ntmps13, List.size_toArray, List.length_cons, List.length_nil, Nat.reduceAdd, Nat.reduceSub, Array.replicate_succ, Array.replicate_zero, List.push_toArray, List.append_toArray, List.nil_append, List.cons_append]
  gi_wp2_with (refine ⟨trivial, ?_⟩; gi_at_call 20; refine (parts_of _ k nu t p F.length cap _).mono ?_; rintro e w' ⟨rfl, rfl⟩)
  obtain ⟨w3, hw3⟩ : ∃ w3, w3 = ((w.alloc (.cells #[.int .i64 k, .int .i64 nu, .string t, .slice p F.length cap] 29)).alloc (.cells #[.int .i64 0] 3)).alloc (.cells #[.int .i64 k, .int .i64 nu, .string t, .slice p F.length cap] 29) := ⟨_, rfl⟩
  obtain ⟨hs3, hp1, hp2, hB⟩ := three4 w (.cells #[.int .i64 k, .int .i64 nu, .string t, .slice p F.length cap] 29) (.cells #[.int .i64 0] 3) (.cells #[.int .i64 k, .int .i64 nu, .string t, .slice p F.length cap] 29)
  rw [← hw3] at hs3 hp1 hp2 hB ⊢
  have hseq := parts_seq (9 - 1) k nu t F p cap (w.heap.size + 1 + 1) w.heap.size w3 hp2 (TreesOn.keep (fun b hb => hB.block b hb) _ _ _ (TreesOn.of _ _ _ hx)) (by omega) hc hcap
  have hdeep := most_seq F
  have hdb := F.deep_le_count
  generalize 1 :: F.pre 2 = seq at *
  clear hw3 hx hp2
  refine wpIn_rangeFunc_go rfl (by omega) (gf := 25) (lb := #[.pointer (some ⟨w.heap.size + 1 + 1, 0, none⟩)]) rfl trivial (enters_of Try.func25 (by kernel_rfl) rfl)
    hseq (Below.refl _ _) (by omega) (fun _ => rfl)
    (fun j W => W.cell? ⟨w.heap.size + 1, 0, none⟩ = some (.int .i64 (most (seq.take j) : Int)) ∧ W.frozen? ⟨w.heap.size + 1, 0, none⟩ = false ∧ Below w.heap.size w W)
    (fun _ _ => False)
    (fun j A C hs hb => ⟨(hb.cell (p := ⟨w.heap.size + 1, 0, none⟩) (by show w.heap.size + 1 < _; omega)).trans hs.1, (hb.frozen (p := ⟨w.heap.size + 1, 0, none⟩) (by show w.heap.size + 1 < _; omega)).trans hs.2.1, hs.2.2.trans (hb.mono (by omega))⟩)
    (fun _ _ _ hs _ => hs)
    ⟨(one_cell4 hp1).1, (one_cell4 hp1).2, hB⟩
    (fun x => { tmps := #[.agg #[.int .i64 k, .int .i64 nu, .string t, .slice p F.length cap], .pointer (some ⟨w.heap.size, 0, none⟩), .int .i64 0, .pointer (some ⟨w.heap.size + 1, 0, none⟩), .int .i64 (x.1 : Int), .agg #[.int .i64 k, .int .i64 nu, .string t, .slice p F.length cap], .func (.func 25) #[] #[.pointer (some ⟨w.heap.size + 1 + 1, 0, none⟩)], .int .i64 (x.1 : Int), x.2, undef, undef, undef, undef], defers := [] }) ?assign ?body ?done ?stop
  case assign =>
    intro l x W K hK
    simp only [List.zip_toArray, List.foldl_toArray, List.zip_cons_cons, List.zip_nil_right, List.foldl_cons, List.foldl_nil, List.setIfInBounds_toArray, List.set_cons_succ, List.set_cons_zero]
    gi_wp2
    simpa using hK
  case body =>
    rintro l j ⟨d, v⟩ W hj ⟨hc1, hf1, hBW⟩ hws
    have hm := most_take seq j d hj
    have hl1 := most_le seq j
    have hl2 := le_most seq j d hj
    rw [hdeep] at hl1 hl2
    have HB := Lib.hid hBW
    have HM := Lib.hid hm
    clear hj hBW hseq hm
    generalize most (seq.take j) = a at *
    gi_wp2
    refine ⟨Apart.setCell _ _ _ (by show _ ≤ w.heap.size + 1; omega) (by show w.heap.size + 1 < _; omega), ?_, ?_, HB.out.setCell (by show _ ≤ w.heap.size + 1; omega) _⟩
    · rw [World.cell?_setCell_same' _ _ _ (by rw [hc1]; rfl), HM.out]
      have e : ((max a d : Nat) : Int) = max (a : Int) (d : Int) := by omega
      rw [e]
    · rw [World.frozen?_setCell]; exact hf1
  case done =>
    rintro D W hD ⟨hc1, hf1, hBW⟩ hK
    rw [List.take_length, hdeep] at hc1
    have HB := Lib.hid hBW
    clear hBW hseq
    gi_wp2
    refine ⟨by simp, .inl ⟨_, _, rfl, run_takeDeferred hK, ?_⟩⟩
    exact ⟨_, results_tmp rfl _ _ _, rfl, HB.out.trans (Below.putObj' _ D (by omega) _)⟩
  case stop =>
    rintro D c W _ h _
    exact h.elim
end Go.Proofs.Ytlbmohdebbapgaa
