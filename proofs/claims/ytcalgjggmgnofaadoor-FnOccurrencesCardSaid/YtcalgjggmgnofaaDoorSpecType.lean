/- What is proved here: the model's copy of a declared type (package spec, l3Type). Condition: it lies in memory as said, and is small. -/
import Derived.Test.YtcalgjggmgnofaaDoorSpecCon
namespace Go.Proofs.YtcalgjggmgnofaaDoor
open Go.RowKit

theorem news_two (w : World) (x y : Value) (T : TypeId) (N : Nat) (hN : w.heap.size = N) : ∀ j u, [x, y][j]? = some u → (w.alloc (.cells #[x, y] T)).cell? ((⟨N, 0, none⟩ : Addr).add j) = some u := by
  subst hN
  have h := two_cells (heap_at_new w (.cells #[x, y] T))
  intro j u hj
  match j, hj with
  | 0, hj => simp at hj; subst hj; exact h.1
  | 1, hj => simp at hj; subst hj; exact h.2.1

/-- The copy of a type as it grows: its box, the result's cell, the copy. -/
def Copying (w : World) (t : TypeD) (a : Option Addr) (cap k : Nat) (v : Value) (wr : World) : Prop :=
  wr.heap[w.heap.size]? = some (.cells #[.string t.name, .slice a t.cons.length cap] 108 (0, 0)) ∧ wr.heap[w.heap.size + 1]? = some (.cells #[.string ⟨#[]⟩, .slice none 0 0] 108 (0, 0)) ∧
    wr.heap[w.heap.size + 1 + 1]? = some (.cells #[.string t.name, v] 108 (0, 0)) ∧ Growing 116 OwnCon (w.heap.size + 3) t.cons k v wr ∧ Below w.heap.size w wr

theorem Copying.next {w : World} {t : TypeD} {a : Option Addr} {cap k : Nat} {v v' : Value} {wr w4 : World} (h : Copying w t a cap k v wr) (hG : Growing 116 OwnCon (w.heap.size + 3) t.cons (k + 1) v' w4) (hold : ∀ b, b < w.heap.size + 3 → w4.heap[b]? = wr.heap[b]?)
    (h1 : w4.os = wr.os) (h2 : w4.tape = wr.tape) (h3 : w4.output = wr.output) (h4 : wr.heap.size ≤ w4.heap.size) :
    w4.cell? ⟨w.heap.size + 1 + 1, 1, none⟩ = some v ∧ w4.frozen? ⟨w.heap.size + 1 + 1, 1, none⟩ = false ∧ Copying w t a cap (k + 1) v' (w4.setCell ⟨w.heap.size + 1 + 1, 1, none⟩ v') := by
  obtain ⟨c0, c1, c2, c3, c4⟩ := h
  have d0 := (hold w.heap.size (by omega)).trans c0
  have d1 := (hold (w.heap.size + 1) (by omega)).trans c1
  have d2 := (hold (w.heap.size + 1 + 1) (by omega)).trans c2
  obtain ⟨_, q1, _, q2⟩ := two_cells d2
  refine ⟨q1, q2, ?_, ?_, (two_set d2 _).2, hG.keep keeps_con (by simp [World.setCell]) (fun b hb _ => Below.heap_setCell _ _ _ _ (by show b ≠ w.heap.size + 1 + 1; omega)), Below.setCell (p := ⟨w.heap.size + 1 + 1, 1, none⟩) (c4.trans ⟨h1, h2, h3, h4, fun b hb => hold b (by omega)⟩) (by show w.heap.size ≤ w.heap.size + 1 + 1; omega) _⟩
  · rw [Below.heap_setCell _ _ _ _ (by show w.heap.size ≠ w.heap.size + 1 + 1; omega)]
    exact d0
  · rw [Below.heap_setCell _ _ _ _ (by show w.heap.size + 1 ≠ w.heap.size + 1 + 1; omega)]
    exact d1

set_option maxHeartbeats 1000000 in
set_option maxRecDepth 100000 in
theorem l3Type_any (w : World) (t : TypeD) (u v : Value) (hx : TypeAt w t u v) (hm : t.cons.length ≤ 1048576) (hm2 : ∀ d ∈ t.cons, d.args.length ≤ 1048576) :
    Calls Tryd.prog 103 #[.agg #[u, v]] w fun e w' => (∃ u' v', e = .returned (.agg #[u', v']) ∧ OwnType (Came w w') w' t u' v') ∧ Below w.heap.size w w' := by
  obtain ⟨a, cap, rfl, rfl, hr⟩ := hx
  have HR := Lib.hid hr
  have HS := Lib.hid hm2
  obtain ⟨w3, h3⟩ : ∃ w3, w3 = ((w.alloc (.cells #[.string t.name, .slice a t.cons.length cap] 108)).alloc (.cells #[.string ⟨#[]⟩, .slice none 0 0] 108)).alloc (.cells #[.string t.name, .slice none 0 0] 108) := ⟨_, rfl⟩
  have hC : Copying w t a cap 0 (.slice none 0 0) w3 := by
    have h := three w (.cells #[.string t.name, .slice a t.cons.length cap] 108) (.cells #[.string ⟨#[]⟩, .slice none 0 0] 108) (.cells #[.string t.name, .slice none 0 0] 108)
    have h0 := three0 w (.cells #[.string t.name, .slice a t.cons.length cap] 108) (.cells #[.string ⟨#[]⟩, .slice none 0 0] 108) (.cells #[.string t.name, .slice none 0 0] 108)
    rw [← h3] at h h0
    exact ⟨h0, h.2.1, h.2.2.1, Growing.start (World.ownsRow_nil _ _ _ _) (by omega), h.2.2.2⟩
  have HC := Lib.hid hC
  have H3 := Lib.hid h3
  clear hr hm2 h3 hC
  generalize hn : t.cons.length = n at *
  have HN := Lib.hid hn
  clear hn
  go_enter Tryd.func103, Tryd.ntmps103
  go_wp2
  rw [← H3.out]
  go_loopw [4] (fun i wr => ∃ (k : Nat) (v : Value), k ≤ n ∧ i = .int .i64 k ∧ Hid (Copying w t a cap k v wr)) (fun i _ => n - (intOf i).toNat)
  case atStart => exact ⟨0, _, Nat.zero_le _, rfl, HC⟩
  case round =>
    obtain ⟨k, v, hk, rfl, hC⟩ := hrel
    have hC' := hC.out
    obtain ⟨c0, _, c2, HGW, c4⟩ := hC'
    rw [HN.out] at c0
    obtain ⟨_, e1, _, _⟩ := two_cells c0
    have HC4 := Lib.hid c4
    have HG4 := Lib.hid HGW
    have HC2 := Lib.hid c2
    clear c0 c4 HGW
    by_cases hlt : k < n
    · have hk' : k < t.cons.length := by rw [HN.out]; exact hlt
      obtain ⟨y, u1, v1, rfl, hc0, hc1, hr1⟩ := row2_below con_below HR.out HC4.out k hk'
      have hx : t.cons[k]? = some t.cons[k] := List.getElem?_eq_getElem hk'
      have H := l3Con_any wr.drew t.cons[k] u1 v1 hr1 (HS.out _ (List.getElem_mem hk'))
      generalize t.cons[k] = c at hx hr1 H
      have HX := Lib.hid hx
      have hltz : (k : Int) < (n : Int) := by omega
      obtain ⟨_, e2, _, _⟩ := two_cells c2
      obtain ⟨i0, hi, hz0, hz1, hz2⟩ := zero_Con
      clear hr1 hx c2
      go_wp2
      go_region_law (first
        | (go_simp; go_at_call 115; refine H.mono ?_
           rintro e w1 ⟨⟨u2, v2, rfl, ho⟩, hb1⟩
           have ho2 := ho
           obtain ⟨rfl, a2, cap2, rfl, _⟩ := ho2
           have HO := Lib.hid ho
           have hb1' : Below wr.heap.size wr w1 := below_of_drew hb1
           have HB1 := Lib.hid hb1'
           obtain ⟨_, e3, _, _⟩ := two_cells ((hb1'.block (w.heap.size + 1 + 1) (by rcases Nat.lt_or_ge (w.heap.size + 1 + 1) wr.heap.size with h | h; exact h; have := HC2.out; rw [Array.getElem?_eq_none h] at this; cases this)).trans HC2.out)
           have e4 : (w1.alloc (.cells #[.string c.name, .slice a2 c.args.length cap2] 116)).cell? ⟨w.heap.size + 1 + 1, 1, none⟩ = some v := cell_below e3 ((Below.refl _ _).alloc (Nat.le_refl _) _)
           clear hb1 hb1' ho)
        | (obtain ⟨ps, how, hBs, hstep⟩ := Growing.step keeps_con HG4.out HX.out HO.out HB1.out ((Below.refl _ _).alloc (Nat.le_refl _) (.cells #[.string c.name, .slice a2 c.args.length cap2] 116))
           refine step_append_lies _ rfl _ _ 106 rfl (w.heap.size + 3) 116 i0 (.agg #[.string ⟨#[]⟩, .slice none 0 0]) 2 40 Tryd.underlying106 hi hz0 hz1 hz2 rfl (by decide) v k (flat ps) rfl how ⟨w1.heap.size, 0, none⟩ 1 1 [.string c.name, .slice a2 c.args.length cap2] rfl rfl (news_two w1 _ _ _ _ rfl) (by intro u hu; simp at hu; rcases hu with rfl | rfl <;> rfl) (by decide) (by unfold maxLen; omega) (by omega) hBs _ rfl ?_
           intro g cap3 w4 hown hgrow hat hlt4
           obtain ⟨hG, hold, ho1, ho2, ho3, ho4⟩ := hstep g cap3 w4 hown hgrow hat
           obtain ⟨f1, f2, hC5⟩ := Copying.next hC.out hG hold ho1 ho2 ho3 ho4
           have HC5 := Lib.hid hC5
           clear how hBs hstep hown hgrow hat hG hold ho1 ho2 ho3 ho4 hC5))
      all_goals
        go_wp2
        go_roundw
        case rel => exact ⟨k + 1, _, by omega, by go_num, HC5⟩
        case measure => simp [intOf]; omega
    · obtain rfl : k = n := by omega
      have hD := HG4.out
      rw [← HN.out] at hD
      have hD2 := hD.done
      have hD3 := hD2
      obtain ⟨a2, cap2, rfl, _⟩ := hD3
      have HD := Lib.hid hD2
      obtain ⟨_, c1, _, _, _⟩ := hC.out
      have HC1 := Lib.hid c1
      obtain ⟨p1, p2, p3, p4⟩ := two_cells c1
      obtain ⟨p5, p6, p7, p8⟩ := two_cells c2
      clear c1 c2 hD hD2 HG4
      go_wp2
      refine bodyPost_ret (results_cell_row rfl _ _ (w.heap.size + 1) _ _ _ _ rfl (two_set (two_set HC1.out _).1 _).2 Tryd.underlying108 rfl (by kernel_rfl)) rfl ?_
      refine ⟨⟨_, _, rfl, rfl, (HD.out.keep keeps_con ?_).wider ?_⟩, (HC4.out.setCell (by show _ ≤ w.heap.size + 1; omega) _).setCell (by show _ ≤ w.heap.size + 1; omega) _⟩
      · rintro b ⟨hb1, _⟩
        rw [Below.heap_setCell _ _ _ _ (by show b ≠ w.heap.size + 1; omega), Below.heap_setCell _ _ _ _ (by show b ≠ w.heap.size + 1; omega)]
      · rintro b ⟨hb1, hb2⟩
        exact ⟨by omega, by simpa [World.setCell] using hb2⟩
end Go.Proofs.YtcalgjggmgnofaaDoor
