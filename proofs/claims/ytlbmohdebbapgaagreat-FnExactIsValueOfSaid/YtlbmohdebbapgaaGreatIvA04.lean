/- What is proved here: a piece of the proof of YtlbmohdebbapgaaGreatExactIsValueOf (ImplCopy, ImplCopyType, SpecFind, SpecFindCon, ImplFindCon). Condition: none beyond what each part says. -/
import Derived.Test.YtlbmohdebbapgaaGreatIvA03
import Derived.Test.YtlbmohdebbapgaaGreatIvA02
import Derived.Laws.ResultCell

/- What is proved here: the program's copies of a constructor and of a type (copyCon, copyType) lie in memory of their own. Condition: what is copied lies in memory as said, and is small. -/
section
namespace Go.Proofs.YtlbmohdebbapgaaGreat
open Go.RowKit

theorem clone_any (F : Nat → Prop) (w : World) (v : Value) (xs : List ByteArray) (hO : OwnS F w v xs) (hm : xs.length ≤ 1048576) :
    Calls Tryz.prog 100 #[v] w fun e w' => (∃ a2 cap2, e = .returned (.slice a2 xs.length cap2) ∧ OwnS (Came w w') w' (.slice a2 xs.length cap2) xs) ∧ Below w.heap.size w w' := by
  have own : ∀ (w' : World) (v' : Value), w'.ownsRow w.heap.size 9 1 v' xs.length (xs.map Value.string) → ∃ a2 cap2, v' = .slice a2 xs.length cap2 ∧ OwnS (Came w w') w' (.slice a2 xs.length cap2) xs := by
    intro w' v' h
    rcases h.2 with ⟨e1, e2⟩ | ⟨g, cap, cur, rfl, hb, hg, _⟩
    · exact ⟨none, 0, by rw [e1, e2], none, 0, by rw [e2], .inl (List.eq_nil_of_length_eq_zero e2)⟩
    · refine ⟨_, cap, rfl, (owns_owned h).wider ?_⟩
      rintro b rfl
      refine ⟨hb, ?_⟩
      rcases Nat.lt_or_ge b w'.heap.size with h1 | h1
      · exact h1
      · rw [Array.getElem?_eq_none h1] at hg
        cases hg
  obtain ⟨a, cap, rfl, h0 | ⟨g, rest, rfl, hg, hb⟩⟩ := hO
  · subst h0
    cases a with
    | none =>
      refine (Tryz.slices_Clone_string_nil 0 cap w).mono ?_
      rintro e w' ⟨rfl, rfl⟩
      exact ⟨⟨none, 0, rfl, none, 0, rfl, .inl rfl⟩, Below.refl _ _⟩
    | some y =>
      refine (Tryz.slices_Clone_string_zero y cap w).mono ?_
      rintro e w' ⟨v', rfl, h1, _, hbl⟩
      obtain ⟨a2, cap2, rfl, h2⟩ := own w' v' h1
      exact ⟨⟨a2, cap2, rfl, h2⟩, hbl⟩
  · have hr := hb.reads
    have H := Tryz.slices_Clone_string g 0 xs.length cap xs w (Nat.le_refl _) (by omega) (fun j hj => by
      obtain ⟨y, hy, hc⟩ := hr j hj
      injection hy with hy
      subst hy
      have e1 : (⟨g, 0, none⟩ : Addr).add j = ⟨g, 0 + j, none⟩ := by simp [Addr.add]; intro h; omega
      rw [e1] at hc
      rw [hc, List.getD_eq_getElem?_getD, List.getElem?_eq_getElem hj]
      rfl)
    rw [List.take_length] at H
    refine H.mono ?_
    rintro e w' ⟨v', rfl, h1, _, hbl⟩
    obtain ⟨a2, cap2, rfl, h2⟩ := own w' v' h1
    exact ⟨⟨a2, cap2, rfl, h2⟩, hbl⟩

set_option maxHeartbeats 1000000 in
set_option maxRecDepth 100000 in
theorem copyCon_any (F : Nat → Prop) (w : World) (c : ConD) (u v : Value) (hO : OwnCon F w c u v) (hF : ∀ b, F b → b < w.heap.size) (hm : c.args.length ≤ 1048576) :
    Calls Tryz.prog 79 #[.agg #[u, v]] w fun e w' => (∃ u' v', e = .returned (.agg #[u', v']) ∧ OwnCon (Came w w') w' c u' v') ∧ Below w.heap.size w w' := by
  obtain ⟨rfl, hO⟩ := hO
  obtain ⟨w2, h2⟩ : ∃ w2, w2 = (w.alloc (.cells #[.string c.name, v] 73)).alloc (.cells #[.string ⟨#[]⟩, .slice none 0 0] 73) := ⟨_, rfl⟩
  have h := two_alloc w (.cells #[.string c.name, v] 73) (.cells #[.string ⟨#[]⟩, .slice none 0 0] 73)
  rw [← h2] at h
  obtain ⟨hs, hp0, hp1, hB⟩ := h
  have H := clone_any F w2.drew v c.args (hO.keep (fun b hb => hB.block b (hF b hb))) hm
  obtain ⟨a, cap, rfl, _⟩ := hO
  have H2 := Lib.hid h2
  have HP0 := Lib.hid hp0
  have HP1 := Lib.hid hp1
  have HB := Lib.hid hB
  have HSZ := Lib.hid hs
  obtain ⟨q1, q2, _, _⟩ := two_cells hp0
  clear h2 hp0 hp1 hB hs hF
  go_enter Tryz.func79, Tryz.ntmps79
  go_wp2
  rw [← H2.out]
  go_region_law (first
    | (go_simp; go_at_call 100; refine H.mono ?_
       rintro e w3 ⟨⟨a2, cap2, rfl, ho⟩, hb3⟩
       have hb3' := below_of_drew hb3
       have hr1 := (hb3'.block (w.heap.size + 1) (by have := HSZ.out; omega)).trans HP1.out
       obtain ⟨p1, p2, p3, p4⟩ := two_cells hr1
       obtain ⟨p5, _, _, _⟩ := two_cells ((hb3'.block w.heap.size (by have := HSZ.out; omega)).trans HP0.out)
       have HR1 := Lib.hid hr1
       have HO := Lib.hid ho
       have HB3 : Hid (Below w.heap.size w w3) := HB.out.trans (hb3'.mono HB.out.size)
       clear hb3 hb3' ho hr1))
  all_goals
    go_wp2
    refine bodyPost_ret (results_cell_row rfl _ _ (w.heap.size + 1) _ _ _ _ rfl (two_set (two_set HR1.out _).1 _).2 Tryz.underlying73 rfl (by kernel_rfl)) rfl ?_
    refine ⟨⟨_, _, rfl, rfl, (HO.out.keep ?_).wider ?_⟩, (HB3.out.setCell (by show _ ≤ w.heap.size + 1; omega) _).setCell (by show _ ≤ w.heap.size + 1; omega) _⟩
    · rintro b ⟨hb1, _⟩
      have hh : w2.drew.heap.size = w2.heap.size := rfl
      have := HSZ.out
      rw [Below.heap_setCell _ _ _ _ (by show b ≠ w.heap.size + 1; omega), Below.heap_setCell _ _ _ _ (by show b ≠ w.heap.size + 1; omega)]
    · rintro b ⟨hb1, hb2⟩
      have hh : w2.drew.heap.size = w2.heap.size := rfl
      have := HSZ.out
      exact ⟨by omega, by simpa [World.setCell] using hb2⟩
end Go.Proofs.YtlbmohdebbapgaaGreat
end

/- What is proved here: the program's copy of a type (copyType) lies in memory of its own. Condition: what is copied lies in memory as said, and is small. -/
section
namespace Go.Proofs.YtlbmohdebbapgaaGreat
open Go.RowKit

/-- One part of an owned row, and its cells. -/
theorem Own2.part {α : Type} {T : TypeId} {E : (Nat → Prop) → World → α → Value → Value → Prop} {F : Nat → Prop} {w : World} {a : Option Addr} {n cap : Nat} {l : List α} (h : Own2 T E F w (.slice a n cap) l) {k : Nat} {x : α} (hx : l[k]? = some x) :
    ∃ y G u v, a = some y ∧ w.cell? (y.add (k * 2)) = some u ∧ w.cell? ⟨(y.add (k * 2)).block, (y.add (k * 2)).off + 1, none⟩ = some v ∧ E G w x u v ∧ ∀ b, G b → F b := by
  obtain ⟨hk, _⟩ := List.getElem?_eq_some_iff.1 hx
  obtain ⟨a2, cap2, hv, h0 | ⟨g, ps, rest, G, rfl, h2, h3, h4, h5⟩⟩ := h
  · subst h0
    simp at hx
  · injection hv with h6 h7 h8
    subst h6
    have hp : ps[k]? = some ps[k] := List.getElem?_eq_getElem (by omega)
    obtain ⟨c1, c2, _, _⟩ := h4.cells k (by omega)
    have e : (⟨g, 0, none⟩ : Addr).add (k * 2) = ⟨g, k * 2, none⟩ := by simp [Addr.add]; intro h; omega
    exact ⟨_, G k, _, _, rfl, by rw [e]; exact c1, by rw [e]; exact c2, h5.2.2 k x _ hk hx hp, fun b hb => (h5.1 k hk b hb).1⟩

def room (n : Nat) : Array Value := madeCells (Value.agg #[.string ⟨#[]⟩, .slice none 0 0]).cells (n * 2)
theorem room_size (n : Nat) : (room n).size = n * 2 := by simp [room, madeCells]
theorem make_room (n : Nat) (hn : n ≤ 1048576) (W : World) :
    (Instr.makeSlice 69 (.int .i64 0) (.int .i64 (n : Int))).run Tryz.prog W = .ok (.slice (some ⟨W.heap.size, 0, none⟩) 0 n) (W.alloc (.cells (room n) 73)) := by
  obtain ⟨i0, hi, hz0, hz1, hz2⟩ := zero_Con
  have hr := run_make (P := Tryz.prog) W 69 73 i0 _ Tryz.underlying69 hi hz0 .i64 .i64 0 n (by omega) (by omega) (by rw [hz2]; omega) (by omega)
  rw [hz1] at hr
  exact hr

/-- The copy of a type as it grows: its box, the result's cell. -/
def Piling (w : World) (t : TypeD) (a : Option Addr) (cap k : Nat) (v : Value) (wr : World) : Prop :=
  wr.heap[w.heap.size]? = some (.cells #[.string t.name, .slice a t.cons.length cap] 71 (0, 0)) ∧ wr.heap[w.heap.size + 1]? = some (.cells #[.string ⟨#[]⟩, .slice none 0 0] 71 (0, 0)) ∧
    Growing 73 OwnCon (w.heap.size + 2) t.cons k v wr ∧ Below w.heap.size w wr

set_option maxHeartbeats 1000000 in
set_option maxRecDepth 100000 in
theorem copyType_any (F : Nat → Prop) (w : World) (t : TypeD) (u v : Value) (hO : OwnType F w t u v) (hF : ∀ b, F b → b < w.heap.size) (hm : t.cons.length ≤ 1048576) (hm2 : ∀ d ∈ t.cons, d.args.length ≤ 1048576) :
    Calls Tryz.prog 84 #[.agg #[u, v]] w fun e w' => (∃ u' v', e = .returned (.agg #[u', v']) ∧ OwnType (Came w w') w' t u' v') ∧ Below w.heap.size w w' := by
  obtain ⟨rfl, hO⟩ := hO
  have hO' := hO
  obtain ⟨a, cap, rfl, _⟩ := hO'
  have HO := Lib.hid hO
  have HF := Lib.hid hF
  have HS := Lib.hid hm2
  obtain ⟨w2, h2⟩ : ∃ w2, w2 = (w.alloc (.cells #[.string t.name, .slice a t.cons.length cap] 71)).alloc (.cells #[.string ⟨#[]⟩, .slice none 0 0] 71) := ⟨_, rfl⟩
  have h := two_alloc w (.cells #[.string t.name, .slice a t.cons.length cap] 71) (.cells #[.string ⟨#[]⟩, .slice none 0 0] 71)
  rw [← h2] at h
  obtain ⟨hs, hp0, hp1, hB⟩ := h
  have hmk := make_room t.cons.length hm
  have hcur := room_size t.cons.length
  generalize room t.cons.length = cur at *
  have hB3 : Below w2.heap.size w2 (w2.alloc (.cells cur 73)) := (Below.refl _ _).alloc (Nat.le_refl _) _
  have how := World.ownsRow_made (base := w.heap.size + 2) (e := 73) (size := 2) w2 cur t.cons.length (by omega) (by unfold maxLen; omega) hcur
  have hPL : Piling w t a cap 0 (.slice (some ⟨w2.heap.size, 0, none⟩) 0 t.cons.length) (w2.alloc (.cells cur 73)) :=
    ⟨(hB3.block _ (by omega)).trans hp0, (hB3.block _ (by omega)).trans hp1, Growing.start how (by have := hB3.size; omega), hB.trans (hB3.mono (by omega))⟩
  rw [hs] at hPL
  have HPL := Lib.hid hPL
  have H2 := Lib.hid h2
  clear hO hF hm2 h2 hs hp0 hp1 hB hcur hB3 how hPL
  generalize hn : t.cons.length = n at *
  have HN := Lib.hid hn
  clear hn
  go_enter Tryz.func84, Tryz.ntmps84
  go_wp2
  clear hmk
  rw [← H2.out]
  generalize w2.alloc (.cells cur 73) = w3 at *
  go_loopw [3, 13] (fun v i wr => ∃ (k : Nat), k ≤ n ∧ i = .int .i64 k ∧ Hid (Piling w t a cap k v wr)) (fun _ i _ => n - (intOf i).toNat)
  case atStart => exact ⟨0, Nat.zero_le _, rfl, HPL⟩
  case round =>
    obtain ⟨k, hk, rfl, hC⟩ := hrel
    by_cases hlt : k < n
    · have hk' : k < t.cons.length := by rw [HN.out]; exact hlt
      have hx : t.cons[k]? = some t.cons[k] := List.getElem?_eq_getElem hk'
      have hcm := HS.out _ (List.getElem_mem hk')
      generalize t.cons[k] = c at hx hcm
      obtain ⟨c0, c1, hGW, hB⟩ := hC.out
      have hO4 : Own2 73 OwnCon F wr (.slice a n cap) t.cons := HO.out.keep keeps_con (fun b hb => hB.block b (HF.out b hb))
      obtain ⟨y, G, u1, v1, rfl, hc0, hc1, hE, hGF⟩ := Own2.part hO4 hx
      have hE2 := hE
      obtain ⟨rfl, a1, cap1, rfl, _⟩ := hE2
      have hbA : Below wr.heap.size wr (wr.alloc (.cells #[.string c.name, .slice a1 c.args.length cap1] 73)) := (Below.refl _ _).alloc (Nat.le_refl _) _
      have hG5 := hGW.keep keeps_con hbA.size (fun b _ hl => hbA.block b hl)
      have H := copyCon_any G (wr.alloc (.cells #[.string c.name, .slice a1 c.args.length cap1] 73)) c _ _ (keeps_con _ _ _ _ _ _ hE (fun b hb => hbA.block b (Nat.lt_of_lt_of_le (HF.out b (hGF b hb)) hB.size))) (fun b hb => Nat.lt_of_lt_of_le (HF.out b (hGF b hb)) (Nat.le_trans hB.size hbA.size)) hcm
      have HB5 : Hid (Below w.heap.size w (wr.alloc (.cells #[.string c.name, .slice a1 c.args.length cap1] 73))) := hB.trans (hbA.mono hB.size)
      have hltg : w.heap.size + 1 < wr.heap.size := by
        rcases Nat.lt_or_ge (w.heap.size + 1) wr.heap.size with h | h
        · exact h
        · rw [Array.getElem?_eq_none h] at c1
          cases c1
      have HD0 := Lib.hid ((hbA.block _ (by omega)).trans c0)
      have HD1 := Lib.hid ((hbA.block _ hltg).trans c1)
      have HG5 := Lib.hid hG5
      have HX := Lib.hid hx
      have hltz : (k : Int) < (n : Int) := by omega
      have hlts : w.heap.size + 1 < (wr.alloc (.cells #[.string c.name, .slice a1 c.args.length cap1] 73)).heap.size := Nat.lt_of_lt_of_le hltg hbA.size
      have HLS := Lib.hid hlts
      obtain ⟨i0, hi, hz0, hz1, hz2⟩ := zero_Con
      clear c0 c1 hGW hB hO4 hE hGF hbA hG5 hx hltg hlts
      go_wp2_with fail
      generalize wr.alloc (.cells #[.string c.name, .slice a1 c.args.length cap1] 73) = w5 at *
      refine H.mono ?_
      rintro e w6 ⟨⟨u6, v6, rfl, ho6⟩, hb6⟩
      have ho7 := ho6
      obtain ⟨rfl, a6, cap6, rfl, _⟩ := ho7
      obtain ⟨ps, how, hBs, hstep⟩ := Growing.step keeps_con HG5.out HX.out ho6 hb6 ((Below.refl _ _).alloc (Nat.le_refl _) (.cells #[.string c.name, .slice a6 c.args.length cap6] 73))
      have HST := Lib.hid hstep
      clear hstep ho6 hb6 H
      go_wp2_with (at_builtin; refine wpList_append_lies _ rfl _ _ 69 rfl (w.heap.size + 2) 73 i0 (.agg #[.string ⟨#[]⟩, .slice none 0 0]) 2 40 Tryz.underlying69 hi hz0 hz1 hz2 rfl (by decide) _ k (flat ps) rfl how ⟨w6.heap.size, 0, none⟩ 1 1 [.string c.name, .slice a6 c.args.length cap6] rfl rfl (news_two w6 _ _ _ _ rfl) ?d1 (by decide) ?d2 ?d3 hBs _ rfl ?_)
      case d1 => intro u hu; simp at hu; rcases hu with rfl | rfl <;> rfl
      case d2 => unfold maxLen; omega
      case d3 => omega
      intro g cap3 w7 hown hgrow hat hlt7
      obtain ⟨hG, hold, ho1, ho2, ho3, ho4⟩ := HST.out g cap3 w7 hown hgrow (hat.imp id (fun h => h.trans (Array.size_push _).symm))
      have HPN : Hid (Piling w t (some y) cap (k + 1) (.slice (some ⟨g, 0, none⟩) (k + 1) cap3) w7) :=
        ⟨(hold _ (by omega)).trans HD0.out, (hold _ (by omega)).trans HD1.out, hG, HB5.out.trans ⟨ho1, ho2, ho3, ho4, fun b hb => hold b (by omega)⟩⟩
      clear how hBs hown hgrow hat hG hold ho1 ho2 ho3 ho4 HST
      go_wp2
      go_roundw
      case rel => exact ⟨k + 1, by omega, by go_num, HPN⟩
      case measure => simp [intOf]; omega
    · obtain rfl : k = n := by omega
      obtain ⟨c0, c1, hGW, hB⟩ := hC.out
      rw [← HN.out] at hGW
      have hD := hGW.done
      have hD2 := hD
      obtain ⟨a2, cap2, rfl, _⟩ := hD2
      have HD := Lib.hid hD
      have HC1 := Lib.hid c1
      have HB := Lib.hid hB
      obtain ⟨q1, _, _, _⟩ := two_cells c0
      obtain ⟨p1, p2, p3, p4⟩ := two_cells c1
      clear c0 c1 hGW hB hD hC
      go_wp2
      refine bodyPost_ret (results_cell_row rfl _ _ (w.heap.size + 1) _ _ _ _ rfl (two_set (two_set HC1.out _).1 _).2 Tryz.underlying71 rfl (by kernel_rfl)) rfl ?_
      refine ⟨⟨_, _, rfl, rfl, (HD.out.keep keeps_con ?_).wider ?_⟩, (HB.out.setCell (by show _ ≤ w.heap.size + 1; omega) _).setCell (by show _ ≤ w.heap.size + 1; omega) _⟩
      · rintro b ⟨hb1, _⟩
        rw [Below.heap_setCell _ _ _ _ (by show b ≠ w.heap.size + 1; omega), Below.heap_setCell _ _ _ _ (by show b ≠ w.heap.size + 1; omega)]
      · rintro b ⟨hb1, hb2⟩
        exact ⟨by omega, by simpa [World.setCell] using hb2⟩
end Go.Proofs.YtlbmohdebbapgaaGreat
end

/- What is proved here: the model's FindType and IsType (package spec) find the first declaration, and copy it. Condition: the signature lies in memory as said, and is small. -/
section
namespace Go.Proofs.YtlbmohdebbapgaaGreat
open Go.RowKit

/-- What FindType hands back: a copy of the first declaration and true, or the zero TypeDecl and false. -/
def Found (w : World) (s : List TypeD) (nm : ByteArray) (e : Ending) (w' : World) : Prop :=
  Below w.heap.size w w' ∧ ((∃ x u v, theType s nm = some x ∧ e = .returned (.tuple #[.agg #[u, v], .bool true]) ∧ OwnType (Came w w') w' x u v) ∨ (theType s nm = none ∧ e = .returned (.tuple #[.agg #[.string ⟨#[]⟩, .slice none 0 0], .bool false])))

set_option maxHeartbeats 1000000 in
set_option maxRecDepth 100000 in
theorem spec_findType (w : World) (a : Option Addr) (cap : Nat) (s : List TypeD) (nm : ByteArray) (hx : Row2 TypeAt w a s) (hm : s.length ≤ 1048576) (hs : ∀ c ∈ s, c.cons.length ≤ 1048576 ∧ ∀ d ∈ c.cons, d.args.length ≤ 1048576) :
    Calls Tryz.prog 58 #[.agg #[.slice a s.length cap], .string nm] w (Found w s nm) := by
  have HX := Lib.hid hx
  have HS := Lib.hid hs
  clear hx hs
  obtain ⟨w2, h2⟩ : ∃ w2, w2 = (w.alloc (.cells #[.slice a s.length cap] 33)).alloc (.cells #[.string ⟨#[]⟩, .slice none 0 0] 71) := ⟨_, rfl⟩
  have s1 : (w.alloc (.cells #[.slice a s.length cap] 33)).heap.size = w.heap.size + 1 := Array.size_push _
  have hB : Below w.heap.size w w2 := by rw [h2]; exact ((Below.refl _ _).alloc (Nat.le_refl _) _).alloc (by omega) _
  have hp0 : w2.heap[w.heap.size]? = some (.cells #[.slice a s.length cap] 33 (0, 0)) := by
    rw [h2, Below.heap_alloc _ _ _ (by omega)]
    exact heap_at_new w _
  have hp1 : w2.heap[w.heap.size + 1]? = some (.cells #[.string ⟨#[]⟩, .slice none 0 0] 71 (0, 0)) := by
    rw [h2, ← s1]
    exact heap_at_new _ _
  have H2 := Lib.hid h2
  have HB := Lib.hid hB
  have HP1 := Lib.hid hp1
  obtain ⟨q0, _⟩ := one_cell hp0
  obtain ⟨p1, p2, p3, p4⟩ := two_cells hp1
  have hw2 : w2.heap.size = w.heap.size + 1 + 1 := by rw [h2, ← s1]; exact Array.size_push _
  have HW2 := Lib.hid hw2
  clear h2 hB hp0 hp1 s1 hw2
  generalize hn : s.length = n at *
  have HN := Lib.hid hn
  clear hn
  go_enter Tryz.func58, Tryz.ntmps58
  go_wp2
  rw [← H2.out]
  go_loop [6] (fun i => ∃ (k : Nat), k ≤ n ∧ i = .int .i64 k ∧ Hid (∀ (j : Nat) y, j < k → s[j]? = some y → TypeD.named nm y = false)) (fun i => n - (intOf i).toNat)
  case atStart => exact ⟨0, Nat.zero_le _, rfl, fun j _ h => by omega⟩
  case round =>
    obtain ⟨k, hk, rfl, hne⟩ := hrel
    by_cases hlt : k < n
    · have hk' : k < s.length := by rw [HN.out]; exact hlt
      obtain ⟨y, u1, v1, rfl, hc0, hc1, hr1⟩ := row2_below type_below HX.out HB.out k hk'
      have hltz : (k : Int) < (n : Int) := by omega
      have hx : s[k]? = some s[k] := List.getElem?_eq_getElem hk'
      have hq := HS.out _ (List.getElem_mem hk')
      generalize s[k] = x at hx hr1 hq
      have HXE := Lib.hid hx
      clear hx
      have H := l3Type_any w2 x u1 v1 hr1 hq.1 hq.2
      obtain ⟨ta, tc, hu, hv, _⟩ := hr1
      subst hu
      subst hv
      by_cases he : (x.name.toList == nm.toList) = true
      · go_wp2_with fail
        refine H.mono ?_
        rintro e w3 ⟨⟨u2, v2, rfl, ho⟩, hb3⟩
        have ho2 := ho
        obtain ⟨rfl, a2, cap2, rfl, _⟩ := ho2
        have hr3 := (hb3.block (w.heap.size + 1) (by have := HW2.out; omega)).trans HP1.out
        have HR3 := Lib.hid hr3
        obtain ⟨r1, r2, r3, r4⟩ := two_cells hr3
        have HO := Lib.hid ho
        have HB3 : Hid (Below w.heap.size w w3) := HB.out.trans (hb3.mono HB.out.size)
        have HT : Hid (theType s nm = some x) := find_at _ _ k x HXE.out he hne.out
        clear hr3 ho hb3 H he
        go_wp2
        refine bodyPost_ret (results_row_tmp rfl _ _ (w.heap.size + 1) _ _ _ _ rfl (two_set (two_set HR3.out _).1 _).2 Tryz.underlying71 rfl (by kernel_rfl)) rfl ?_
        refine ⟨(HB3.out.setCell (by show _ ≤ w.heap.size + 1; omega) _).setCell (by show _ ≤ w.heap.size + 1; omega) _, .inl ⟨x, _, _, HT.out, rfl, rfl, (HO.out.2.keep keeps_con ?_).wider ?_⟩⟩
        · rintro b ⟨hb1, _⟩
          have := HW2.out
          rw [Below.heap_setCell _ _ _ _ (by show b ≠ w.heap.size + 1; omega), Below.heap_setCell _ _ _ _ (by show b ≠ w.heap.size + 1; omega)]
        · rintro b ⟨hb1, hb2⟩
          have := HW2.out
          exact ⟨by omega, by simpa [World.setCell] using hb2⟩
      · have he2 : (x.name.toList == nm.toList) = false := by simpa using he
        clear he H
        go_wp2
        go_round
        case rel =>
          refine ⟨k + 1, by omega, by go_num, fun j z hj hz => ?_⟩
          rcases Nat.lt_or_ge j k with h3 | h3
          · exact hne.out j z h3 hz
          · obtain rfl : j = k := by omega
            have := HXE.out
            rw [this] at hz
            obtain rfl := Option.some.inj hz
            exact he2
        case measure => simp [intOf]; omega
    · have HT : Hid (theType s nm = none) := find_no _ _ (fun j z hz => hne.out j z (by have := (List.getElem?_eq_some_iff.1 hz).1; have := HN.out; omega) hz)
      go_wp2
      refine bodyPost_ret (results_row_tmp rfl _ _ (w.heap.size + 1) _ _ _ _ rfl (two_set (two_set HP1.out _).1 _).2 Tryz.underlying71 rfl (by kernel_rfl)) rfl ?_
      exact ⟨(HB.out.setCell (by show _ ≤ w.heap.size + 1; omega) _).setCell (by show _ ≤ w.heap.size + 1; omega) _, .inr ⟨HT.out, rfl⟩⟩
end Go.Proofs.YtlbmohdebbapgaaGreat
end

/- What is proved here: the model's FindCon (package spec) finds the first constructor of a name, and copies it. Condition: the signature lies in memory as said, and is small. -/
section
namespace Go.Proofs.YtlbmohdebbapgaaGreat
open Go.RowKit

/-- What FindCon hands back: a copy of the first constructor, its type's name and true, or zero values and false. -/
def FoundCon (w : World) (s : List TypeD) (nm : ByteArray) (e : Ending) (w' : World) : Prop :=
  Below w.heap.size w w' ∧ ((∃ c tn u v, theCon s nm = some (c, tn) ∧ e = .returned (.tuple #[.agg #[u, v], .string tn, .bool true]) ∧ OwnCon (Came w w') w' c u v) ∨ (theCon s nm = none ∧ e = .returned (.tuple #[.agg #[.string ⟨#[]⟩, .slice none 0 0], .string ⟨#[]⟩, .bool false])))

theorem theCon_at {s : List TypeD} {nm : ByteArray} {k i : Nat} {t : TypeD} {c : ConD} (ht : s[k]? = some t) (hc : t.cons[i]? = some c) (hn : ConD.named nm c = true) (h1 : ∀ (j : Nat) y, j < k → s[j]? = some y → hasCon nm y = false) (h2 : ∀ (j : Nat) y, j < i → t.cons[j]? = some y → ConD.named nm y = false) : theCon s nm = some (c, t.name) := by
  have e2 : t.cons.find? (ConD.named nm) = some c := find_at _ _ i c hc hn h2
  have e1 : s.find? (hasCon nm) = some t := find_at _ _ k t ht (by unfold hasCon; rw [e2]; rfl) h1
  unfold theCon
  rw [e1]
  simp [e2]
theorem theCon_no {s : List TypeD} {nm : ByteArray} (h1 : ∀ (j : Nat) y, s[j]? = some y → hasCon nm y = false) : theCon s nm = none := by
  unfold theCon
  rw [find_no _ _ h1]
  rfl
theorem hasCon_no {t : TypeD} {nm : ByteArray} (h : ∀ (j : Nat) y, t.cons[j]? = some y → ConD.named nm y = false) : hasCon nm t = false := by
  unfold hasCon
  rw [find_no _ _ h]
  rfl
theorem before_succ {α : Type} {p : α → Prop} {l : List α} {k : Nat} {x : α} (h : ∀ (j : Nat) y, j < k → l[j]? = some y → p y) (hx : l[k]? = some x) (hp : p x) : ∀ (j : Nat) y, j < k + 1 → l[j]? = some y → p y := by
  intro j y hj hy
  rcases Nat.lt_or_ge j k with h3 | h3
  · exact h j y h3 hy
  · obtain rfl : j = k := by omega
    rw [hx] at hy
    obtain rfl := Option.some.inj hy
    exact hp

set_option maxHeartbeats 2000000 in
set_option maxRecDepth 100000 in
theorem spec_findCon (w : World) (a : Option Addr) (cap : Nat) (s : List TypeD) (nm : ByteArray) (hx : Row2 TypeAt w a s) (hm : s.length ≤ 1048576) (hs : ∀ c ∈ s, c.cons.length ≤ 1048576 ∧ ∀ d ∈ c.cons, d.args.length ≤ 1048576) :
    Calls Tryz.prog 45 #[.agg #[.slice a s.length cap], .string nm] w (FoundCon w s nm) := by
  have HX := Lib.hid hx
  have HS := Lib.hid hs
  clear hx hs
  obtain ⟨w2, h2⟩ : ∃ w2, w2 = (w.alloc (.cells #[.slice a s.length cap] 33)).alloc (.cells #[.string ⟨#[]⟩, .slice none 0 0] 73) := ⟨_, rfl⟩
  have h := two_alloc w (.cells #[.slice a s.length cap] 33) (.cells #[.string ⟨#[]⟩, .slice none 0 0] 73)
  rw [← h2] at h
  obtain ⟨hw2, hp0, hp1, hB⟩ := h
  have H2 := Lib.hid h2
  have HB := Lib.hid hB
  have HP1 := Lib.hid hp1
  obtain ⟨q0, _⟩ := one_cell hp0
  obtain ⟨p1, p2, p3, p4⟩ := two_cells hp1
  have HW2 := Lib.hid hw2
  clear h2 hB hp0 hp1 hw2
  generalize hn : s.length = n at *
  have HN := Lib.hid hn
  clear hn
  go_enter Tryz.func45, Tryz.ntmps45
  go_wp2
  rw [← H2.out]
  go_loop [7] (fun i => ∃ (k : Nat), k ≤ n ∧ i = .int .i64 k ∧ Hid (∀ (j : Nat) y, j < k → s[j]? = some y → hasCon nm y = false)) (fun i => n - (intOf i).toNat)
  case atStart => exact ⟨0, Nat.zero_le _, rfl, fun j _ h => by omega⟩
  case round =>
    obtain ⟨k, hk, rfl, hne⟩ := hrel
    by_cases hlt : k < n
    · have hk' : k < s.length := by rw [HN.out]; exact hlt
      obtain ⟨y, u1, v1, rfl, hc0, hc1, hr1⟩ := row2_below type_below HX.out HB.out k hk'
      have hyb : (y.add (k * 2)).block < w.heap.size := by
        obtain ⟨y', u', v', hy', hd, _, _⟩ := HX.out k hk'
        obtain rfl := Option.some.inj hy'
        exact block_of_cell hd
      have HYB := Lib.hid hyb
      clear hyb
      have hltz : (k : Int) < (n : Int) := by omega
      have hx : s[k]? = some s[k] := List.getElem?_eq_getElem hk'
      have hq := HS.out _ (List.getElem_mem hk')
      generalize s[k] = x at hx hr1 hq
      have HXE := Lib.hid hx
      obtain ⟨ta, tc, hu, hv, hr2⟩ := hr1
      subst hu
      subst hv
      have HR2 := Lib.hid hr2
      have HQ := Lib.hid hq.2
      have hq1 := hq.1
      clear hx hr2 hq
      generalize hn2 : x.cons.length = n2 at *
      have HN2 := Lib.hid hn2
      clear hn2
      go_wp2
      go_loop [8] (fun i => ∃ (i2 : Nat), i2 ≤ n2 ∧ i = .int .i64 i2 ∧ Hid (∀ (j : Nat) y, j < i2 → x.cons[j]? = some y → ConD.named nm y = false)) (fun i => n2 - (intOf i).toNat)
      case atStart => exact ⟨0, Nat.zero_le _, rfl, fun j _ h => by omega⟩
      case round =>
        obtain ⟨i, hi, rfl, hne2⟩ := hrel
        by_cases hlt2 : i < n2
        · have hi' : i < x.cons.length := by rw [HN2.out]; exact hlt2
          obtain ⟨y2, u2, v2, rfl, hd0, hd1, hr3⟩ := HR2.out i hi'
          have hltz2 : (i : Int) < (n2 : Int) := by omega
          have hx2 : x.cons[i]? = some x.cons[i] := List.getElem?_eq_getElem hi'
          have hq2 := HQ.out _ (List.getElem_mem hi')
          generalize x.cons[i] = c at hx2 hr3 hq2
          have HCE := Lib.hid hx2
          clear hx2
          have H := l3Con_any w2.drew c u2 v2 hr3 hq2
          obtain ⟨ca, cc, hu, hv, _⟩ := hr3
          subst hu
          subst hv
          by_cases he : (c.name.toList == nm.toList) = true
          · have HT : Hid (theCon s nm = some (c, x.name)) := theCon_at HXE.out HCE.out he hne.out hne2.out
            go_wp2
            go_region_law (first
              | (go_simp; go_at_call 72; refine H.mono ?_
                 rintro e w3 ⟨⟨u3, v3, rfl, ho⟩, hb3⟩
                 have ho2 := ho
                 obtain ⟨rfl, a3, cap3, rfl, _⟩ := ho2
                 have hb3' := below_of_drew hb3
                 have hr3 := (hb3'.block (w.heap.size + 1) (by have := HW2.out; omega)).trans HP1.out
                 obtain ⟨r1, r2, r3, r4⟩ := two_cells hr3
                 have r5 := cell_below q0 hb3'
                 have r6 := cell_below hc0 hb3'
                 have r7 : ((w3.setCell ⟨w.heap.size + 1, 0, none⟩ (.string c.name)).setCell ⟨w.heap.size + 1, 1, none⟩ (.slice a3 c.args.length cap3)).cell? (y.add (k * 2)) = some (.string x.name) := by
                   have := HYB.out
                   rw [← r6]
                   exact World.cell?_of_block (by rw [Below.heap_setCell _ _ _ _ (by show (y.add (k * 2)).block ≠ w.heap.size + 1; omega), Below.heap_setCell _ _ _ _ (by show (y.add (k * 2)).block ≠ w.heap.size + 1; omega)])
                 have HR3 := Lib.hid hr3
                 have HO := Lib.hid ho
                 have HB3 : Hid (Below w.heap.size w w3) := HB.out.trans (hb3'.mono HB.out.size)
                 clear hb3 hb3' ho hr3))
            all_goals
              go_wp2
              refine bodyPost_ret (results_row_tmp2 rfl _ _ (w.heap.size + 1) _ _ _ _ rfl (two_set (two_set HR3.out _).1 _).2 Tryz.underlying73 rfl (by kernel_rfl)) rfl ?_
              refine ⟨(HB3.out.setCell (by show _ ≤ w.heap.size + 1; omega) _).setCell (by show _ ≤ w.heap.size + 1; omega) _, .inl ⟨c, x.name, _, _, HT.out, rfl, rfl, (HO.out.2.keep ?_).wider ?_⟩⟩
              · rintro b ⟨hb1, _⟩
                have hh : w2.drew.heap.size = w2.heap.size := rfl
                have := HW2.out
                rw [Below.heap_setCell _ _ _ _ (by show b ≠ w.heap.size + 1; omega), Below.heap_setCell _ _ _ _ (by show b ≠ w.heap.size + 1; omega)]
              · rintro b ⟨hb1, hb2⟩
                have hh : w2.drew.heap.size = w2.heap.size := rfl
                have := HW2.out
                exact ⟨by omega, by simpa [World.setCell] using hb2⟩
          · have he2 : (c.name.toList == nm.toList) = false := by simpa using he
            clear he H
            go_wp2
            go_round
            case rel => exact ⟨i + 1, by omega, by go_num, before_succ hne2.out HCE.out he2⟩
            case measure => simp [intOf]; omega
        · have HNC : Hid (hasCon nm x = false) := hasCon_no (fun j z hz => hne2.out j z (by have := (List.getElem?_eq_some_iff.1 hz).1; have := HN2.out; omega) hz)
          go_wp2
          go_round
          case rel => exact ⟨k + 1, by omega, by go_num, before_succ hne.out HXE.out HNC.out⟩
          case measure => simp [intOf]; omega
    · have HT : Hid (theCon s nm = none) := theCon_no (fun j z hz => hne.out j z (by have := (List.getElem?_eq_some_iff.1 hz).1; have := HN.out; omega) hz)
      go_wp2
      refine bodyPost_ret (results_row_tmp2 rfl _ _ (w.heap.size + 1) _ _ _ _ rfl (two_set (two_set HP1.out _).1 _).2 Tryz.underlying73 rfl (by kernel_rfl)) rfl ?_
      exact ⟨(HB.out.setCell (by show _ ≤ w.heap.size + 1; omega) _).setCell (by show _ ≤ w.heap.size + 1; omega) _, .inr ⟨HT.out, rfl⟩⟩
end Go.Proofs.YtlbmohdebbapgaaGreat
end

/- What is proved here: the program's FindCon finds the first constructor of a name, and copies it. Condition: the signature lies in memory as said, and is small. -/
section
namespace Go.Proofs.YtlbmohdebbapgaaGreat
open Go.RowKit

set_option maxHeartbeats 2000000 in
set_option maxRecDepth 100000 in
theorem impl_findCon (F : Nat → Prop) (w : World) (a : Option Addr) (cap : Nat) (s : List TypeD) (nm : ByteArray) (hO : OwnSig F w (.slice a s.length cap) s) (hF : ∀ b, F b → b < w.heap.size) (hm : s.length ≤ 1048576) (hs : ∀ c ∈ s, c.cons.length ≤ 1048576 ∧ ∀ d ∈ c.cons, d.args.length ≤ 1048576) :
    Calls Tryz.prog 55 #[.agg #[.slice a s.length cap], .string nm] w (FoundCon w s nm) := by
  have HO := Lib.hid hO
  have HF := Lib.hid hF
  have HS := Lib.hid hs
  clear hO hs hF
  obtain ⟨w2, h2⟩ : ∃ w2, w2 = (w.alloc (.cells #[.slice a s.length cap] 33)).alloc (.cells #[.string ⟨#[]⟩, .slice none 0 0] 73) := ⟨_, rfl⟩
  have h := two_alloc w (.cells #[.slice a s.length cap] 33) (.cells #[.string ⟨#[]⟩, .slice none 0 0] 73)
  rw [← h2] at h
  obtain ⟨hsz, hp0, hp1, hB⟩ := h
  have H2 := Lib.hid h2
  have HB := Lib.hid hB
  have HP1 := Lib.hid hp1
  have HSZ := Lib.hid hsz
  clear h2 hB hp0 hp1 hsz
  generalize hn : s.length = n at *
  have HN := Lib.hid hn
  clear hn
  go_enter Tryz.func55, Tryz.ntmps55
  go_wp2
  rw [← H2.out]
  go_loopw [14] (fun i wr => ∃ (k : Nat), k ≤ n ∧ i = .int .i64 k ∧ Hid (Below w2.heap.size w2 wr) ∧ Hid (∀ (j : Nat) y, j < k → s[j]? = some y → hasCon nm y = false)) (fun i _ => n - (intOf i).toNat)
  case atStart => exact ⟨0, Nat.zero_le _, rfl, Below.refl _ _, fun j _ h => by omega⟩
  case round =>
    obtain ⟨k, hk, rfl, hBR, hne⟩ := hrel
    have HBW : Hid (Below w.heap.size w wr) := HB.out.trans (hBR.out.mono HB.out.size)
    by_cases hlt : k < n
    · have hk' : k < s.length := by rw [HN.out]; exact hlt
      have hx : s[k]? = some s[k] := List.getElem?_eq_getElem hk'
      have hq := HS.out _ (List.getElem_mem hk')
      generalize s[k] = x at hx hq
      have hO4 : OwnSig F wr (.slice a n cap) s := HO.out.keep keeps_type (fun b hb => HBW.out.block b (HF.out b hb))
      obtain ⟨y, G, u1, v1, rfl, hc0, hc1, hE, hGF⟩ := Own2.part hO4 hx
      obtain ⟨rfl, hE⟩ := hE
      have hE2 := hE
      obtain ⟨a1, cap1, rfl, _⟩ := hE2
      have HXE := Lib.hid hx
      have HQ := Lib.hid hq.2
      have hq1 := hq.1
      have hltz : (k : Int) < (n : Int) := by omega
      have hbA : Below wr.heap.size wr (wr.alloc (.cells #[.string x.name, .slice a1 x.cons.length cap1] 71)) := (Below.refl _ _).alloc (Nat.le_refl _) _
      have hGlt : ∀ b, G b → b < wr.heap.size := fun b hb => Nat.lt_of_lt_of_le (HF.out b (hGF b hb)) HBW.out.size
      have HE : Hid (Own2 73 OwnCon G (wr.alloc (.cells #[.string x.name, .slice a1 x.cons.length cap1] 71)) (.slice a1 x.cons.length cap1) x.cons) := hE.keep keeps_con (fun b hb => hbA.block b (hGlt b hb))
      have HGL : Hid (∀ b, G b → b < (wr.alloc (.cells #[.string x.name, .slice a1 x.cons.length cap1] 71)).heap.size) := fun b hb => Nat.lt_of_lt_of_le (hGlt b hb) hbA.size
      obtain ⟨e1, _, _, _⟩ := two_cells (heap_at_new wr (.cells #[.string x.name, .slice a1 x.cons.length cap1] 71))
      have HE1 := Lib.hid e1
      have HNW : Hid (w.heap.size + 1 < wr.heap.size) := by have := HSZ.out; have := hBR.out.size; unfold Hid; omega
      have HBA : Hid (Below w2.heap.size w2 (wr.alloc (.cells #[.string x.name, .slice a1 x.cons.length cap1] 71))) := hBR.out.trans (hbA.mono hBR.out.size)
      clear hx hO4 hE hGF hbA hGlt hq e1
      generalize hn2 : x.cons.length = n2 at *
      have HN2 := Lib.hid hn2
      clear hn2
      go_wp2
      generalize wr.alloc (.cells #[.string x.name, .slice a1 n2 cap1] 71) = w4 at *
      generalize hnd : wr.heap.size = nd at *
      clear hnd
      go_loopw [21] (fun i wr2 => ∃ (i2 : Nat), i2 ≤ n2 ∧ i = .int .i64 i2 ∧ Hid (Below w4.heap.size w4 wr2) ∧ Hid (∀ (j : Nat) y, j < i2 → x.cons[j]? = some y → ConD.named nm y = false)) (fun i _ => n2 - (intOf i).toNat)
      case atStart => exact ⟨0, Nat.zero_le _, rfl, Below.refl _ _, fun j _ h => by omega⟩
      case round =>
        obtain ⟨i, hi, rfl, hBI, hne2⟩ := hrel
        have HBJ : Hid (Below w2.heap.size w2 wr) := HBA.out.trans (hBI.out.mono HBA.out.size)
        by_cases hlt2 : i < n2
        · have hi' : i < x.cons.length := by rw [HN2.out]; exact hlt2
          have hx2 : x.cons[i]? = some x.cons[i] := List.getElem?_eq_getElem hi'
          have hq2 := HQ.out _ (List.getElem_mem hi')
          generalize x.cons[i] = c at hx2 hq2
          have hO5 : Own2 73 OwnCon G wr (.slice a1 n2 cap1) x.cons := HE.out.keep keeps_con (fun b hb => hBI.out.block b (HGL.out b hb))
          obtain ⟨y2, G2, u2, v2, rfl, hd0, hd1, hE3, hGF2⟩ := Own2.part hO5 hx2
          have hE4 := hE3
          obtain ⟨rfl, a2, cap2, rfl, _⟩ := hE4
          have HCE := Lib.hid hx2
          have hltz2 : (i : Int) < (n2 : Int) := by omega
          have hbC : Below wr.heap.size wr (wr.alloc (.cells #[.string c.name, .slice a2 c.args.length cap2] 73)) := (Below.refl _ _).alloc (Nat.le_refl _) _
          have hG2 : ∀ b, G2 b → b < wr.heap.size := fun b hb => Nat.lt_of_lt_of_le (HGL.out b (hGF2 b hb)) hBI.out.size
          have hE6 : OwnCon G2 (wr.alloc (.cells #[.string c.name, .slice a2 c.args.length cap2] 73)).drew c (.string c.name) (.slice a2 c.args.length cap2) := keeps_con _ _ _ _ _ _ hE3 (fun b hb => hbC.block b (hG2 b hb))
          have H := copyCon_any G2 _ c _ _ hE6 (fun b hb => Nat.lt_of_lt_of_le (hG2 b hb) hbC.size) hq2
          have HBC := Lib.hid hbC
          clear hx2 hO5 hE3 hGF2 hbC hG2 hE6
          by_cases he : (c.name.toList == nm.toList) = true
          · have HT : Hid (theCon s nm = some (c, x.name)) := theCon_at HXE.out HCE.out he hne.out hne2.out
            have hf0 : (wr.alloc (.cells #[.string c.name, .slice a2 c.args.length cap2] 73)).cell? ⟨nd, 0, none⟩ = some (.string x.name) := cell_below (cell_below HE1.out hBI.out) HBC.out
            have hlt1 : w.heap.size + 1 < wr.heap.size := by have := HSZ.out; have := HBJ.out.size; omega
            have hf1 : (wr.alloc (.cells #[.string c.name, .slice a2 c.args.length cap2] 73)).heap[w.heap.size + 1]? = some (.cells #[.string ⟨#[]⟩, .slice none 0 0] 73 (0, 0)) := (HBC.out.block _ hlt1).trans ((HBJ.out.block _ (by have := HSZ.out; omega)).trans HP1.out)
            have HF1 := Lib.hid hf1
            have HL1 : Hid (w.heap.size + 1 < (wr.alloc (.cells #[.string c.name, .slice a2 c.args.length cap2] 73)).heap.size) := Nat.lt_of_lt_of_le hlt1 HBC.out.size
            have HBK : Hid (Below w.heap.size w (wr.alloc (.cells #[.string c.name, .slice a2 c.args.length cap2] 73))) := HB.out.trans ((HBJ.out.trans (HBC.out.mono HBJ.out.size)).mono HB.out.size)
            clear hf1 hlt1
            go_wp2
            go_region_law (first
              | (go_simp; go_at_call 79; refine H.mono ?_
                 rintro e w7 ⟨⟨u7, v7, rfl, ho⟩, hb7⟩
                 have ho2 := ho
                 obtain ⟨rfl, a7, cap7, rfl, _⟩ := ho2
                 have hb7' := below_of_drew hb7
                 have hr3 := (hb7'.block (w.heap.size + 1) HL1.out).trans HF1.out
                 obtain ⟨r1, r2, r3, r4⟩ := two_cells hr3
                 have r5 := cell_below hf0 hb7'
                 have r7 : ((w7.setCell ⟨w.heap.size + 1, 0, none⟩ (.string c.name)).setCell ⟨w.heap.size + 1, 1, none⟩ (.slice a7 c.args.length cap7)).cell? ⟨nd, 0, none⟩ = some (.string x.name) := by
                   have := HNW.out
                   rw [← r5]
                   exact World.cell?_of_block (by rw [Below.heap_setCell _ _ _ _ (by show nd ≠ w.heap.size + 1; omega), Below.heap_setCell _ _ _ _ (by show nd ≠ w.heap.size + 1; omega)])
                 have HR3 := Lib.hid hr3
                 have HOO := Lib.hid ho
                 have HB7 : Hid (Below w.heap.size w w7) := HBK.out.trans (hb7'.mono HBK.out.size)
                 clear hb7 hb7' ho hr3))
            all_goals
              go_wp2
              refine bodyPost_ret (results_row_tmp2 rfl _ _ (w.heap.size + 1) _ _ _ _ rfl (two_set (two_set HR3.out _).1 _).2 Tryz.underlying73 rfl (by kernel_rfl)) rfl ?_
              refine ⟨(HB7.out.setCell (by show _ ≤ w.heap.size + 1; omega) _).setCell (by show _ ≤ w.heap.size + 1; omega) _, .inl ⟨c, x.name, _, _, HT.out, rfl, rfl, (HOO.out.2.keep ?_).wider ?_⟩⟩
              · rintro b ⟨hb1, _⟩
                have := HL1.out
                have hh : (wr.alloc (.cells #[.string c.name, .slice a2 c.args.length cap2] 73)).drew.heap.size = (wr.alloc (.cells #[.string c.name, .slice a2 c.args.length cap2] 73)).heap.size := rfl
                rw [Below.heap_setCell _ _ _ _ (by show b ≠ w.heap.size + 1; omega), Below.heap_setCell _ _ _ _ (by show b ≠ w.heap.size + 1; omega)]
              · rintro b ⟨hb1, hb2⟩
                have := HL1.out
                have hh : (wr.alloc (.cells #[.string c.name, .slice a2 c.args.length cap2] 73)).drew.heap.size = (wr.alloc (.cells #[.string c.name, .slice a2 c.args.length cap2] 73)).heap.size := rfl
                exact ⟨by omega, by simpa [World.setCell] using hb2⟩
          · have he2 : (c.name.toList == nm.toList) = false := by simpa using he
            have HBN : Hid (Below w4.heap.size w4 (wr.alloc (.cells #[.string c.name, .slice a2 c.args.length cap2] 73))) := hBI.out.trans (HBC.out.mono hBI.out.size)
            clear he H
            go_wp2
            go_roundw
            case rel => exact ⟨i + 1, by omega, by go_num, HBN, before_succ hne2.out HCE.out he2⟩
            case measure => simp [intOf]; omega
        · have HNC : Hid (hasCon nm x = false) := hasCon_no (fun j z hz => hne2.out j z (by have := (List.getElem?_eq_some_iff.1 hz).1; have := HN2.out; omega) hz)
          go_wp2
          go_roundw
          case rel => exact ⟨k + 1, by omega, by go_num, HBJ, before_succ hne.out HXE.out HNC.out⟩
          case measure => simp [intOf]; omega
    · have HT : Hid (theCon s nm = none) := theCon_no (fun j z hz => hne.out j z (by have := (List.getElem?_eq_some_iff.1 hz).1; have := HN.out; omega) hz)
      have hr1 := (hBR.out.block (w.heap.size + 1) (by have := HSZ.out; omega)).trans HP1.out
      have HR1 := Lib.hid hr1
      obtain ⟨r1, r2, r3, r4⟩ := two_cells hr1
      clear hr1
      go_wp2
      refine bodyPost_ret (results_row_tmp2 rfl _ _ (w.heap.size + 1) _ _ _ _ rfl (two_set (two_set HR1.out _).1 _).2 Tryz.underlying73 rfl (by kernel_rfl)) rfl ?_
      exact ⟨(HBW.out.setCell (by show _ ≤ w.heap.size + 1; omega) _).setCell (by show _ ≤ w.heap.size + 1; omega) _, .inr ⟨HT.out, rfl⟩⟩
end Go.Proofs.YtlbmohdebbapgaaGreat
end
