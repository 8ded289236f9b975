/- What is proved here: the program's copy of a type (copyType) lies in memory of its own. Condition: what is copied lies in memory as said, and is small. -/
import Derived.Test.YtcmpaccpdjcocaaImplCopy
namespace Go.Proofs.Ytcmpaccpdjcocaa
open Go.RowKit

/-- One part of an owned row, and its cells. -/
theorem Own2.part {α : Type} {T : TypeId} {E : (Nat → Prop) → World → α → Value → Value → Prop} {F : Nat → Prop} {w : World} {a : Option Addr} {n cap : Nat} {l : List α} (h : Own2 T E F w (.slice a n cap) l) {k : Nat} {x : α} (hx : l[k]? = some x) :
    ∃ y G u v, a = some y ∧ w.cell? (y.add (k * 2)) = some u ∧ w.cell? ⟨(y.add (k * 2)).block, (y.add (k * 2)).off + 1, none⟩ = some v ∧ E G w x u v ∧ ∀ b, G b → F b := by
  obtain ⟨hk, _⟩ := List.getElem?_eq_some_iff.1 hx
  obtain ⟨a2, cap2, hv, h0 | ⟨g, ps, rest, G, rfl, h2, h3, h4, h5⟩⟩ := h
  · subst h0
    simp at hx
  · injection hv with h6 h7 h8
    subst h6
    have hp : ps[k]? = some ps[k] := List.getElem?_eq_getElem (by omega)
    obtain ⟨c1, c2, _, _⟩ := h4.cells k (by omega)
    have e : (⟨g, 0, none⟩ : Addr).add (k * 2) = ⟨g, k * 2, none⟩ := by simp [Addr.add]; intro h; omega
    exact ⟨_, G k, _, _, rfl, by rw [e]; exact c1, by rw [e]; exact c2, h5.2.2 k x _ hk hx hp, fun b hb => (h5.1 k hk b hb).1⟩

def room (n : Nat) : Array Value := madeCells (Value.agg #[.string ⟨#[]⟩, .slice none 0 0]).cells (n * 2)
theorem room_size (n : Nat) : (room n).size = n * 2 := by simp [room, madeCells]
theorem make_room (n : Nat) (hn : n ≤ 1048576) (W : World) :
    (Instr.makeSlice 26 (.int .i64 0) (.int .i64 (n : Int))).run Try.prog W = .ok (.slice (some ⟨W.heap.size, 0, none⟩) 0 n) (W.alloc (.cells (room n) 42)) := by
  obtain ⟨i0, hi, hz0, hz1, hz2⟩ := zero_Con
  have hr := run_make (P := Try.prog) W 26 42 i0 _ Try.underlying26 hi hz0 .i64 .i64 0 n (by omega) (by omega) (by rw [hz2]; omega) (by omega)
  rw [hz1] at hr
  exact hr

/-- The copy of a type as it grows: its box, the result's cell. -/
def Piling (w : World) (t : TypeD) (a : Option Addr) (cap k : Nat) (v : Value) (wr : World) : Prop :=
  wr.heap[w.heap.size]? = some (.cells #[.string t.name, .slice a t.cons.length cap] 28 (0, 0)) ∧ wr.heap[w.heap.size + 1]? = some (.cells #[.string ⟨#[]⟩, .slice none 0 0] 28 (0, 0)) ∧
    Growing 42 OwnCon (w.heap.size + 2) t.cons k v wr ∧ Below w.heap.size w wr

set_option maxHeartbeats 1000000 in
set_option maxRecDepth 100000 in
theorem copyType_any (F : Nat → Prop) (w : World) (t : TypeD) (u v : Value) (hO : OwnType F w t u v) (hF : ∀ b, F b → b < w.heap.size) (hm : t.cons.length ≤ 1048576) (hm2 : ∀ d ∈ t.cons, d.args.length ≤ 1048576) :
    Calls Try.prog 28 #[.agg #[u, v]] w fun e w' => (∃ u' v', e = .returned (.agg #[u', v']) ∧ OwnType (Came w w') w' t u' v') ∧ Below w.heap.size w w' := by
  obtain ⟨rfl, hO⟩ := hO
  have hO' := hO
  obtain ⟨a, cap, rfl, _⟩ := hO'
  have HO := Lib.hid hO
  have HF := Lib.hid hF
  have HS := Lib.hid hm2
  obtain ⟨w2, h2⟩ : ∃ w2, w2 = (w.alloc (.cells #[.string t.name, .slice a t.cons.length cap] 28)).alloc (.cells #[.string ⟨#[]⟩, .slice none 0 0] 28) := ⟨_, rfl⟩
  have h := two_alloc w (.cells #[.string t.name, .slice a t.cons.length cap] 28) (.cells #[.string ⟨#[]⟩, .slice none 0 0] 28)
  rw [← h2] at h
  obtain ⟨hs, hp0, hp1, hB⟩ := h
  have hmk := make_room t.cons.length hm
  have hcur := room_size t.cons.length
  generalize room t.cons.length = cur at *
  have hB3 : Below w2.heap.size w2 (w2.alloc (.cells cur 42)) := (Below.refl _ _).alloc (Nat.le_refl _) _
  have how := World.ownsRow_made (base := w.heap.size + 2) (e := 42) (size := 2) w2 cur t.cons.length (by omega) (by unfold maxLen; omega) hcur
  have hPL : Piling w t a cap 0 (.slice (some ⟨w2.heap.size, 0, none⟩) 0 t.cons.length) (w2.alloc (.cells cur 42)) :=
    ⟨(hB3.block _ (by omega)).trans hp0, (hB3.block _ (by omega)).trans hp1, Growing.start how (by have := hB3.size; omega), hB.trans (hB3.mono (by omega))⟩
  rw [hs] at hPL
  have HPL := Lib.hid hPL
  have H2 := Lib.hid h2
  clear hO hF hm2 h2 hs hp0 hp1 hB hcur hB3 how hPL
  generalize hn : t.cons.length = n at *
  have HN := Lib.hid hn
  clear hn
  go_enter Try.func28, Try.ntmps28
  go_wp2
  clear hmk
  rw [← H2.out]
  generalize w2.alloc (.cells cur 42) = w3 at *
  go_loopw [3, 13] (fun v i wr => ∃ (k : Nat), k ≤ n ∧ i = .int .i64 k ∧ Hid (Piling w t a cap k v wr)) (fun _ i _ => n - (intOf i).toNat)
  case atStart => exact ⟨0, Nat.zero_le _, rfl, HPL⟩
  case round =>
    obtain ⟨k, hk, rfl, hC⟩ := hrel
    by_cases hlt : k < n
    · have hk' : k < t.cons.length := by rw [HN.out]; exact hlt
      have hx : t.cons[k]? = some t.cons[k] := List.getElem?_eq_getElem hk'
      have hcm := HS.out _ (List.getElem_mem hk')
      generalize t.cons[k] = c at hx hcm
      obtain ⟨c0, c1, hGW, hB⟩ := hC.out
      have hO4 : Own2 42 OwnCon F wr (.slice a n cap) t.cons := HO.out.keep keeps_con (fun b hb => hB.block b (HF.out b hb))
      obtain ⟨y, G, u1, v1, rfl, hc0, hc1, hE, hGF⟩ := Own2.part hO4 hx
      have hE2 := hE
      obtain ⟨rfl, a1, cap1, rfl, _⟩ := hE2
      have hbA : Below wr.heap.size wr (wr.alloc (.cells #[.string c.name, .slice a1 c.args.length cap1] 42)) := (Below.refl _ _).alloc (Nat.le_refl _) _
      have hG5 := hGW.keep keeps_con hbA.size (fun b _ hl => hbA.block b hl)
      have H := copyCon_any G (wr.alloc (.cells #[.string c.name, .slice a1 c.args.length cap1] 42)) c _ _ (keeps_con _ _ _ _ _ _ hE (fun b hb => hbA.block b (Nat.lt_of_lt_of_le (HF.out b (hGF b hb)) hB.size))) (fun b hb => Nat.lt_of_lt_of_le (HF.out b (hGF b hb)) (Nat.le_trans hB.size hbA.size)) hcm
      have HB5 : Hid (Below w.heap.size w (wr.alloc (.cells #[.string c.name, .slice a1 c.args.length cap1] 42))) := hB.trans (hbA.mono hB.size)
      have hltg : w.heap.size + 1 < wr.heap.size := by
        rcases Nat.lt_or_ge (w.heap.size + 1) wr.heap.size with h | h
        · exact h
        · rw [Array.getElem?_eq_none h] at c1
          cases c1
      have HD0 := Lib.hid ((hbA.block _ (by omega)).trans c0)
      have HD1 := Lib.hid ((hbA.block _ hltg).trans c1)
      have HG5 := Lib.hid hG5
      have HX := Lib.hid hx
      have hltz : (k : Int) < (n : Int) := by omega
      have hlts : w.heap.size + 1 < (wr.alloc (.cells #[.string c.name, .slice a1 c.args.length cap1] 42)).heap.size := Nat.lt_of_lt_of_le hltg hbA.size
      have HLS := Lib.hid hlts
      obtain ⟨i0, hi, hz0, hz1, hz2⟩ := zero_Con
      clear c0 c1 hGW hB hO4 hE hGF hbA hG5 hx hltg hlts
      go_wp2_with fail
      generalize wr.alloc (.cells #[.string c.name, .slice a1 c.args.length cap1] 42) = w5 at *
      refine H.mono ?_
      rintro e w6 ⟨⟨u6, v6, rfl, ho6⟩, hb6⟩
      have ho7 := ho6
      obtain ⟨rfl, a6, cap6, rfl, _⟩ := ho7
      obtain ⟨ps, how, hBs, hstep⟩ := Growing.step keeps_con HG5.out HX.out ho6 hb6 ((Below.refl _ _).alloc (Nat.le_refl _) (.cells #[.string c.name, .slice a6 c.args.length cap6] 42))
      have HST := Lib.hid hstep
      clear hstep ho6 hb6 H
      go_wp2_with (at_builtin; refine wpList_append_lies _ rfl _ _ 26 rfl (w.heap.size + 2) 42 i0 (.agg #[.string ⟨#[]⟩, .slice none 0 0]) 2 40 Try.underlying26 hi hz0 hz1 hz2 rfl (by decide) _ k (flat ps) rfl how ⟨w6.heap.size, 0, none⟩ 1 1 [.string c.name, .slice a6 c.args.length cap6] rfl rfl (news_two w6 _ _ _ _ rfl) ?d1 (by decide) ?d2 ?d3 hBs _ rfl ?_)
      case d1 => intro u hu; simp at hu; rcases hu with rfl | rfl <;> rfl
      case d2 => unfold maxLen; omega
      case d3 => omega
      intro g cap3 w7 hown hgrow hat hlt7
      obtain ⟨hG, hold, ho1, ho2, ho3, ho4⟩ := HST.out g cap3 w7 hown hgrow (hat.imp id (fun h => h.trans (Array.size_push _).symm))
      have HPN : Hid (Piling w t (some y) cap (k + 1) (.slice (some ⟨g, 0, none⟩) (k + 1) cap3) w7) :=
        ⟨(hold _ (by omega)).trans HD0.out, (hold _ (by omega)).trans HD1.out, hG, HB5.out.trans ⟨ho1, ho2, ho3, ho4, fun b hb => hold b (by omega)⟩⟩
      clear how hBs hown hgrow hat hG hold ho1 ho2 ho3 ho4 HST
      go_wp2
      go_roundw
      case rel => exact ⟨k + 1, by omega, by go_num, HPN⟩
      case measure => simp [intOf]; omega
    · obtain rfl : k = n := by omega
      obtain ⟨c0, c1, hGW, hB⟩ := hC.out
      rw [← HN.out] at hGW
      have hD := hGW.done
      have hD2 := hD
      obtain ⟨a2, cap2, rfl, _⟩ := hD2
      have HD := Lib.hid hD
      have HC1 := Lib.hid c1
      have HB := Lib.hid hB
      obtain ⟨q1, _, _, _⟩ := two_cells c0
      obtain ⟨p1, p2, p3, p4⟩ := two_cells c1
      clear c0 c1 hGW hB hD hC
      go_wp2
      refine bodyPost_ret (results_cell_row rfl _ _ (w.heap.size + 1) _ _ _ _ rfl (two_set (two_set HC1.out _).1 _).2 Try.underlying28 rfl (by kernel_rfl)) rfl ?_
      refine ⟨⟨_, _, rfl, rfl, (HD.out.keep keeps_con ?_).wider ?_⟩, (HB.out.setCell (by show _ ≤ w.heap.size + 1; omega) _).setCell (by show _ ≤ w.heap.size + 1; omega) _⟩
      · rintro b ⟨hb1, _⟩
        rw [Below.heap_setCell _ _ _ _ (by show b ≠ w.heap.size + 1; omega), Below.heap_setCell _ _ _ _ (by show b ≠ w.heap.size + 1; omega)]
      · rintro b ⟨hb1, hb2⟩
        exact ⟨by omega, by simpa [World.setCell] using hb2⟩
end Go.Proofs.Ytcmpaccpdjcocaa
