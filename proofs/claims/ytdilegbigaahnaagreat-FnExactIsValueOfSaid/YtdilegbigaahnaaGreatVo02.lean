/- What is proved here: a piece of the proof of YtdilegbigaahnaaGreatExactIsValueOf (SigMake, Trees, Find, Bl, ValidText, InInt, HasType, TreeCells). Condition: none beyond what each part says. -/
import Derived.Test.YtdilegbigaahnaaGreatVo01
import Derived.Laws.Rows

/- What is proved here: the laws' copy of a signature (toSignature and what it calls) is the same signature in memory of its own. Condition: it lies in memory as said, and is small. -/
section
namespace Go.Proofs.YtdilegbigaahnaaGreat
open Go.RowKit

theorem own_new {w w' : World} {g : Nat} {xs : List ByteArray} (hg : w.heap.size ≤ g) (h : w'.heap[g]? = some (.cells (xs.map Value.string).toArray 9 (0, 0))) : OwnS (Came w w') w' (.slice (some ⟨g, 0, none⟩) xs.length xs.length) xs := by
  have hb : Block w' g xs [] := by unfold Block; rw [List.append_nil]; exact h
  exact ⟨_, _, rfl, .inr ⟨g, [], rfl, ⟨hg, hb.lt⟩, hb⟩⟩
/-- A struct of two fields in a block of the call's own. -/
theorem made_flat (n : Nat) (u v : Value) : madeCells (Value.agg #[u, v]).cells (n * 2) = (flat (List.replicate n (u, v))).toArray := by
  apply Array.ext
  · simp [madeCells, flat_length]; omega
  · intro i h1 h2
    have hi : i < n * 2 := by simpa [madeCells] using h1
    have hf := flat_at (List.replicate n (u, v)) [] (i / 2) (u, v) (by rw [List.getElem?_replicate, if_pos (by omega)])
    rw [List.append_nil] at hf
    rcases Nat.mod_two_eq_zero_or_one i with h | h
    · have e : i / 2 * 2 = i := by omega
      rw [e] at hf
      have := hf.1
      simp [madeCells, Value.cells, h]
      rw [List.getElem?_eq_some_iff] at this
      obtain ⟨h3, h4⟩ := this
      exact h4.symm
    · have e : i / 2 * 2 + 1 = i := by omega
      rw [e] at hf
      have := hf.2
      simp [madeCells, Value.cells, h]
      rw [List.getElem?_eq_some_iff] at this
      obtain ⟨h3, h4⟩ := this
      exact h4.symm
theorem toStringS_any (w : World) (a : Option Addr) (cap : Nat) (xs : List ByteArray) (hx : Reads w a xs) (hm : xs.length ≤ 1048576) :
    Calls Tryz.prog 109 #[.slice a xs.length cap] w fun e w' => (∃ v, e = .returned v ∧ OwnS (Came w w') w' v xs) ∧ Below w.heap.size w w' := by
  refine (toS_any w a cap xs hx hm).mono ?_
  rintro e w1 ⟨g, hg, rfl, hc, hb⟩
  exact ⟨⟨_, rfl, own_new hg hc⟩, hb⟩

set_option maxHeartbeats 1000000 in
set_option maxRecDepth 100000 in
theorem toCon_any (w : World) (c : ConD) (u v : Value) (hx : ConAt w c u v) (hm : c.args.length ≤ 1048576) :
    Calls Tryz.prog 95 #[.agg #[u, v]] w fun e w' => (∃ u' v', e = .returned (.agg #[u', v']) ∧ OwnCon (Came w w') w' c u' v') ∧ Below w.heap.size w w' := by
  obtain ⟨a, cap, rfl, rfl, hr⟩ := hx
  have HR := Lib.hid hr
  clear hr
  obtain ⟨w3, h3⟩ : ∃ w3, w3 = ((w.alloc (.cells #[.string c.name, .slice a c.args.length cap] 126)).alloc (.cells #[.string ⟨#[]⟩, .slice none 0 0] 73)).alloc (.cells #[.string c.name, .slice none 0 0] 73) := ⟨_, rfl⟩
  have h := three w (.cells #[.string c.name, .slice a c.args.length cap] 126) (.cells #[.string ⟨#[]⟩, .slice none 0 0] 73) (.cells #[.string c.name, .slice none 0 0] 73)
  rw [← h3] at h
  obtain ⟨hs3, hp1, hp2, hB⟩ := h
  have HB := Lib.hid hB
  have HS := Lib.hid hs3
  have HP1 := Lib.hid hp1
  have HP2 := Lib.hid hp2
  have H3 := Lib.hid h3
  clear hB hs3 hp1 hp2 h3
  go_enter Tryz.func95, Tryz.ntmps95
  go_wp2_with fail
  rw [← H3.out]
  refine (toStringS_any w3 a cap c.args (reads_below HR.out HB.out) hm).mono ?_
  rintro e w1 ⟨⟨v1, rfl, hO⟩, hb1⟩
  have hs := HS.out
  have hO2 := hO
  obtain ⟨a2, cap2, rfl, _⟩ := hO2
  have HO := Lib.hid hO
  clear hO
  have hr1 := (hb1.block (w.heap.size + 1) (by omega)).trans HP1.out
  have HR1 := Lib.hid hr1
  obtain ⟨q1, q2, q3, q4⟩ := two_cells hr1
  obtain ⟨q5, q6, q7, q8⟩ := two_cells ((hb1.block (w.heap.size + 1 + 1) (by omega)).trans HP2.out)
  have HB1 : Hid (Below w.heap.size w w1) := HB.out.trans (hb1.mono (by omega))
  clear hb1 HB HP1 HP2 hr1
  go_wp2
  have hz1 : (w1.setCell ⟨w.heap.size + 1 + 1, 1, none⟩ (.slice a2 c.args.length cap2)).heap[w.heap.size + 1]? = some (.cells #[.string ⟨#[]⟩, .slice none 0 0] 73 (0, 0)) := by
    rw [Below.heap_setCell _ _ _ _ (by show w.heap.size + 1 ≠ w.heap.size + 1 + 1; omega)]
    exact HR1.out
  refine bodyPost_ret (results_cell_row rfl _ _ (w.heap.size + 1) _ _ _ _ rfl (two_set (two_set hz1 _).1 _).2 Tryz.underlying73 rfl (by kernel_rfl)) rfl ?_
  refine ⟨⟨_, _, rfl, rfl, (HO.out.keep ?_).wider ?_⟩, ((HB1.out.setCell (by show _ ≤ w.heap.size + 1 + 1; omega) _).setCell (by show _ ≤ w.heap.size + 1; omega) _).setCell (by show _ ≤ w.heap.size + 1; omega) _⟩
  · intro b hb
    obtain ⟨hb1, hb2⟩ := hb
    rw [Below.heap_setCell _ _ _ _ (by show b ≠ w.heap.size + 1; omega), Below.heap_setCell _ _ _ _ (by show b ≠ w.heap.size + 1; omega), Below.heap_setCell _ _ _ _ (by show b ≠ w.heap.size + 1 + 1; omega)]
  · intro b hb
    obtain ⟨hb1, hb2⟩ := hb
    exact ⟨by omega, by simpa [World.setCell] using hb2⟩

theorem make_Con (n : Nat) (hn : n ≤ 1048576) (W : World) :
    (Instr.makeSlice 69 (.int .i64 (n : Int)) (.int .i64 (n : Int))).run Tryz.prog W = .ok (.slice (some ⟨W.heap.size, 0, none⟩) n n) (W.alloc (.cells (flat (List.replicate n (Value.string ⟨#[]⟩, Value.slice none 0 0))).toArray 73)) := by
  obtain ⟨i0, hi, hz0, hz1, hz2⟩ := zero_Con
  have hr := run_make (P := Tryz.prog) W 69 73 i0 _ Tryz.underlying69 hi hz0 .i64 .i64 n n (by omega) (by omega) (by rw [hz2]; omega) (by omega)
  rw [hr]
  simp only [Int.toNat_natCast]
  rw [hz1, made_flat]

set_option maxHeartbeats 1000000 in
set_option maxRecDepth 100000 in
theorem toConS_any (w : World) (a : Option Addr) (cap : Nat) (cs : List ConD) (hx : Row2 ConAt w a cs) (hm : cs.length ≤ 1048576) (hs : ∀ c ∈ cs, c.args.length ≤ 1048576) :
    Calls Tryz.prog 73 #[.slice a cs.length cap] w fun e w' => (∃ v, e = .returned v ∧ Own2 73 OwnCon (Came w w') w' v cs) ∧ Below w.heap.size w w' := by
  have hmk := make_Con cs.length hm
  have HX := Lib.hid hx
  have HS := Lib.hid hs
  clear hx hs
  go_enter Tryz.func73, Tryz.ntmps73
  go_wp2
  clear hmk
  generalize hps : List.replicate cs.length (Value.string ⟨#[]⟩, Value.slice none 0 0) = ps0
  have hb0 := heap_at_new w (.cells (flat ps0).toArray 73)
  have hB0 : Below w.heap.size w (w.alloc (.cells (flat ps0).toArray 73)) := (Below.refl _ _).alloc (Nat.le_refl _) _
  have hst : (w.alloc (.cells (flat ps0).toArray 73)).heap.size = w.heap.size + 1 := Array.size_push _
  have hlen : ps0.length = cs.length := by rw [← hps]; simp
  clear hps
  generalize w.alloc (.cells (flat ps0).toArray 73) = w0 at hb0 hB0 hst ⊢
  have HI : Hid (Filling 73 OwnCon w w.heap.size cs 0 w0) := ⟨ps0, fun _ _ => False, hlen, by unfold Pairs; rw [List.append_nil]; exact hb0, ⟨fun j hj => absurd hj (Nat.not_lt_zero _), fun i j _ hj => absurd hj (Nat.not_lt_zero _), fun j x p hj => absurd hj (Nat.not_lt_zero _)⟩, hB0, by omega⟩
  clear hb0 hB0 hst hlen
  generalize hn : cs.length = n at *
  have HN := Lib.hid hn
  clear hn
  go_loopw [4] (fun i wr => ∃ k : Nat, k ≤ n ∧ i = .int .i64 k ∧ Hid (Filling 73 OwnCon w w.heap.size cs k wr)) (fun i _ => n - (intOf i).toNat)
  case atStart => exact ⟨0, Nat.zero_le _, rfl, HI⟩
  case round =>
    obtain ⟨k, hk, rfl, hF⟩ := hrel
    by_cases hlt : k < n
    · have hk' : k < cs.length := by rw [HN.out]; exact hlt
      obtain ⟨y, u, v, rfl, hc0, hc1, hr⟩ := row2_below con_below HX.out hF.out.below k hk'
      have H := toCon_any wr cs[k] u v hr (HS.out _ (List.getElem_mem hk'))
      clear hr
      go_wp2_with fail
      refine H.mono ?_
      clear H
      rintro e w1 ⟨⟨u', v', rfl, ho⟩, hb1⟩
      have ho2 := ho
      obtain ⟨rfl, a2, cap2, rfl, _⟩ := ho2
      obtain ⟨x0, y0, q1, q2, q3, q4, hF2⟩ := Filling.step keeps_con hF.out hk' ho hb1
      have HF2 := Lib.hid hF2
      clear hF2 ho hb1
      go_wp2
      go_roundw
      case rel => exact ⟨k + 1, by omega, by go_num, HF2⟩
      case measure => simp [intOf]; omega
    · obtain rfl : k = n := by omega
      go_wp2
      go_ret
      refine ⟨⟨_, rfl, ?_⟩, hF.out.below⟩
      rw [← HN.out] at hF ⊢
      exact hF.out.done _

set_option maxHeartbeats 1000000 in
set_option maxRecDepth 100000 in
theorem toTypeDecl_any (w : World) (c : TypeD) (u v : Value) (hx : TypeAt w c u v) (hm : c.cons.length ≤ 1048576) (hm2 : ∀ d ∈ c.cons, d.args.length ≤ 1048576) :
    Calls Tryz.prog 46 #[.agg #[u, v]] w fun e w' => (∃ u' v', e = .returned (.agg #[u', v']) ∧ OwnType (Came w w') w' c u' v') ∧ Below w.heap.size w w' := by
  obtain ⟨a, cap, rfl, rfl, hr⟩ := hx
  have HR := Lib.hid hr
  clear hr
  obtain ⟨w3, h3⟩ : ∃ w3, w3 = ((w.alloc (.cells #[.string c.name, .slice a c.cons.length cap] 66)).alloc (.cells #[.string ⟨#[]⟩, .slice none 0 0] 71)).alloc (.cells #[.string c.name, .slice none 0 0] 71) := ⟨_, rfl⟩
  have h := three w (.cells #[.string c.name, .slice a c.cons.length cap] 66) (.cells #[.string ⟨#[]⟩, .slice none 0 0] 71) (.cells #[.string c.name, .slice none 0 0] 71)
  rw [← h3] at h
  obtain ⟨hs3, hp1, hp2, hB⟩ := h
  have HB := Lib.hid hB
  have HS := Lib.hid hs3
  have HP1 := Lib.hid hp1
  have HP2 := Lib.hid hp2
  have H3 := Lib.hid h3
  clear hB hs3 hp1 hp2 h3
  go_enter Tryz.func46, Tryz.ntmps46
  go_wp2_with fail
  rw [← H3.out]
  refine (toConS_any w3 a cap c.cons (row2_below con_below HR.out HB.out) hm hm2).mono ?_
  rintro e w1 ⟨⟨v1, rfl, hO⟩, hb1⟩
  have hs := HS.out
  have hO2 := hO
  obtain ⟨a2, cap2, rfl, _⟩ := hO2
  have HO := Lib.hid hO
  clear hO
  have hr1 := (hb1.block (w.heap.size + 1) (by omega)).trans HP1.out
  have HR1 := Lib.hid hr1
  obtain ⟨q1, q2, q3, q4⟩ := two_cells hr1
  obtain ⟨q5, q6, q7, q8⟩ := two_cells ((hb1.block (w.heap.size + 1 + 1) (by omega)).trans HP2.out)
  have HB1 : Hid (Below w.heap.size w w1) := HB.out.trans (hb1.mono (by omega))
  clear hb1 HB HP1 HP2 hr1
  go_wp2
  have hz1 : (w1.setCell ⟨w.heap.size + 1 + 1, 1, none⟩ (.slice a2 c.cons.length cap2)).heap[w.heap.size + 1]? = some (.cells #[.string ⟨#[]⟩, .slice none 0 0] 71 (0, 0)) := by
    rw [Below.heap_setCell _ _ _ _ (by show w.heap.size + 1 ≠ w.heap.size + 1 + 1; omega)]
    exact HR1.out
  refine bodyPost_ret (results_cell_row rfl _ _ (w.heap.size + 1) _ _ _ _ rfl (two_set (two_set hz1 _).1 _).2 Tryz.underlying71 rfl (by kernel_rfl)) rfl ?_
  refine ⟨⟨_, _, rfl, rfl, (HO.out.keep keeps_con ?_).wider ?_⟩, ((HB1.out.setCell (by show _ ≤ w.heap.size + 1 + 1; omega) _).setCell (by show _ ≤ w.heap.size + 1; omega) _).setCell (by show _ ≤ w.heap.size + 1; omega) _⟩
  · intro b hb
    obtain ⟨hb1, hb2⟩ := hb
    rw [Below.heap_setCell _ _ _ _ (by show b ≠ w.heap.size + 1; omega), Below.heap_setCell _ _ _ _ (by show b ≠ w.heap.size + 1; omega), Below.heap_setCell _ _ _ _ (by show b ≠ w.heap.size + 1 + 1; omega)]
  · intro b hb
    obtain ⟨hb1, hb2⟩ := hb
    exact ⟨by omega, by simpa [World.setCell] using hb2⟩

theorem zero_TypeDecl : ∃ i, Tryz.prog.info? 71 = some i ∧ i.zero = some (.agg #[.string ⟨#[]⟩, .slice none 0 0]) ∧ i.size = 2 ∧ i.bytes = 40 := by
  have hi : (Tryz.prog.info? 71).map (fun i => (i.zero, i.size, i.bytes)) = some (some (.agg #[.string ⟨#[]⟩, .slice none 0 0]), 2, 40) := by kernel_rfl
  obtain ⟨i0, hi, hz0, hz1, hz2⟩ := info_parts hi
  exact ⟨i0, hi, hz0, hz1, hz2⟩
theorem make_TypeDecl (n : Nat) (hn : n ≤ 1048576) (W : World) :
    (Instr.makeSlice 31 (.int .i64 (n : Int)) (.int .i64 (n : Int))).run Tryz.prog W = .ok (.slice (some ⟨W.heap.size, 0, none⟩) n n) (W.alloc (.cells (flat (List.replicate n (Value.string ⟨#[]⟩, Value.slice none 0 0))).toArray 71)) := by
  obtain ⟨i0, hi, hz0, hz1, hz2⟩ := zero_TypeDecl
  have hr := run_make (P := Tryz.prog) W 31 71 i0 _ Tryz.underlying31 hi hz0 .i64 .i64 n n (by omega) (by omega) (by rw [hz2]; omega) (by omega)
  rw [hr]
  simp only [Int.toNat_natCast]
  rw [hz1, made_flat]

set_option maxHeartbeats 1000000 in
set_option maxRecDepth 100000 in
theorem toTypeDeclS_any (w : World) (a : Option Addr) (cap : Nat) (cs : List TypeD) (hx : Row2 TypeAt w a cs) (hm : cs.length ≤ 1048576) (hs : ∀ c ∈ cs, c.cons.length ≤ 1048576 ∧ ∀ d ∈ c.cons, d.args.length ≤ 1048576) :
    Calls Tryz.prog 24 #[.slice a cs.length cap] w fun e w' => (∃ v, e = .returned v ∧ Own2 71 OwnType (Came w w') w' v cs) ∧ Below w.heap.size w w' := by
  have hmk := make_TypeDecl cs.length hm
  have HX := Lib.hid hx
  have HS := Lib.hid hs
  clear hx hs
  go_enter Tryz.func24, Tryz.ntmps24
  go_wp2
  clear hmk
  generalize hps : List.replicate cs.length (Value.string ⟨#[]⟩, Value.slice none 0 0) = ps0
  have hb0 := heap_at_new w (.cells (flat ps0).toArray 71)
  have hB0 : Below w.heap.size w (w.alloc (.cells (flat ps0).toArray 71)) := (Below.refl _ _).alloc (Nat.le_refl _) _
  have hst : (w.alloc (.cells (flat ps0).toArray 71)).heap.size = w.heap.size + 1 := Array.size_push _
  have hlen : ps0.length = cs.length := by rw [← hps]; simp
  clear hps
  generalize w.alloc (.cells (flat ps0).toArray 71) = w0 at hb0 hB0 hst ⊢
  have HI : Hid (Filling 71 OwnType w w.heap.size cs 0 w0) := ⟨ps0, fun _ _ => False, hlen, by unfold Pairs; rw [List.append_nil]; exact hb0, ⟨fun j hj => absurd hj (Nat.not_lt_zero _), fun i j _ hj => absurd hj (Nat.not_lt_zero _), fun j x p hj => absurd hj (Nat.not_lt_zero _)⟩, hB0, by omega⟩
  clear hb0 hB0 hst hlen
  generalize hn : cs.length = n at *
  have HN := Lib.hid hn
  clear hn
  go_loopw [4] (fun i wr => ∃ k : Nat, k ≤ n ∧ i = .int .i64 k ∧ Hid (Filling 71 OwnType w w.heap.size cs k wr)) (fun i _ => n - (intOf i).toNat)
  case atStart => exact ⟨0, Nat.zero_le _, rfl, HI⟩
  case round =>
    obtain ⟨k, hk, rfl, hF⟩ := hrel
    by_cases hlt : k < n
    · have hk' : k < cs.length := by rw [HN.out]; exact hlt
      obtain ⟨y, u, v, rfl, hc0, hc1, hr⟩ := row2_below type_below HX.out hF.out.below k hk'
      have H := toTypeDecl_any wr cs[k] u v hr (HS.out _ (List.getElem_mem hk')).1 (HS.out _ (List.getElem_mem hk')).2
      clear hr
      go_wp2_with fail
      refine H.mono ?_
      clear H
      rintro e w1 ⟨⟨u', v', rfl, ho⟩, hb1⟩
      have ho2 := ho
      obtain ⟨rfl, a2, cap2, rfl, _⟩ := ho2
      obtain ⟨x0, y0, q1, q2, q3, q4, hF2⟩ := Filling.step keeps_type hF.out hk' ho hb1
      have HF2 := Lib.hid hF2
      clear hF2 ho hb1
      go_wp2
      go_roundw
      case rel => exact ⟨k + 1, by omega, by go_num, HF2⟩
      case measure => simp [intOf]; omega
    · obtain rfl : k = n := by omega
      go_wp2
      go_ret
      refine ⟨⟨_, rfl, ?_⟩, hF.out.below⟩
      rw [← HN.out] at hF ⊢
      exact hF.out.done _

set_option maxHeartbeats 1000000 in
set_option maxRecDepth 100000 in
theorem toSig_any (w : World) (a : Option Addr) (cap : Nat) (s : List TypeD) (hx : Row2 TypeAt w a s) (hm : s.length ≤ 1048576) (hs : ∀ c ∈ s, c.cons.length ≤ 1048576 ∧ ∀ d ∈ c.cons, d.args.length ≤ 1048576) :
    Calls Tryz.prog 8 #[.agg #[.slice a s.length cap]] w fun e w' => (∃ v, e = .returned (.agg #[v]) ∧ OwnSig (Came w w') w' v s) ∧ Below w.heap.size w w' := by
  have HR := Lib.hid hx
  have HM := Lib.hid hm
  have HS2 := Lib.hid hs
  clear hx hm hs
  obtain ⟨w3, h3⟩ : ∃ w3, w3 = ((w.alloc (.cells #[.slice a s.length cap] 24)).alloc (.cells #[.slice none 0 0] 33)).alloc (.cells #[.slice none 0 0] 33) := ⟨_, rfl⟩
  have h := three w (.cells #[.slice a s.length cap] 24) (.cells #[.slice none 0 0] 33) (.cells #[.slice none 0 0] 33)
  rw [← h3] at h
  obtain ⟨hs3, hp1, hp2, hB⟩ := h
  have HB := Lib.hid hB
  have HS := Lib.hid hs3
  have HP1 := Lib.hid hp1
  have HP2 := Lib.hid hp2
  have H3 := Lib.hid h3
  clear hB hs3 hp1 hp2 h3
  go_enter Tryz.func8, Tryz.ntmps8
  go_wp2_with fail
  rw [← H3.out]
  refine (toTypeDeclS_any w3 a cap s (row2_below type_below HR.out HB.out) HM.out HS2.out).mono ?_
  rintro e w1 ⟨⟨v1, rfl, hO⟩, hb1⟩
  have hs := HS.out
  have hO2 := hO
  obtain ⟨a2, cap2, rfl, _⟩ := hO2
  have HO := Lib.hid hO
  clear hO
  have hr1 := (hb1.block (w.heap.size + 1) (by omega)).trans HP1.out
  have HR1 := Lib.hid hr1
  obtain ⟨q1, q3⟩ := one_cell hr1
  obtain ⟨q5, q7⟩ := one_cell ((hb1.block (w.heap.size + 1 + 1) (by omega)).trans HP2.out)
  have HB1 : Hid (Below w.heap.size w w1) := HB.out.trans (hb1.mono (by omega))
  clear hb1 HB HP1 HP2 hr1
  go_wp2
  have hz1 : (w1.setCell ⟨w.heap.size + 1 + 1, 0, none⟩ (.slice a2 s.length cap2)).heap[w.heap.size + 1]? = some (.cells #[.slice none 0 0] 33 (0, 0)) := by
    rw [Below.heap_setCell _ _ _ _ (by show w.heap.size + 1 ≠ w.heap.size + 1 + 1; omega)]
    exact HR1.out
  refine bodyPost_ret (results_cell_row rfl _ _ (w.heap.size + 1) _ _ _ _ rfl (one_set hz1 _) Tryz.underlying33 rfl (by kernel_rfl)) rfl ?_
  refine ⟨⟨_, rfl, (HO.out.keep keeps_type ?_).wider ?_⟩, (HB1.out.setCell (by show _ ≤ w.heap.size + 1 + 1; omega) _).setCell (by show _ ≤ w.heap.size + 1; omega) _⟩
  · intro b hb
    obtain ⟨hb1, hb2⟩ := hb
    rw [Below.heap_setCell _ _ _ _ (by show b ≠ w.heap.size + 1; omega), Below.heap_setCell _ _ _ _ (by show b ≠ w.heap.size + 1 + 1; omega)]
  · intro b hb
    obtain ⟨hb1, hb2⟩ := hb
    exact ⟨by omega, by simpa [World.setCell] using hb2⟩
end Go.Proofs.YtdilegbigaahnaaGreat
end

/- What is proved here: rows of nodes (a kind, a number, a text, and a row of nodes below) as they lie in memory: values, and whatever has their form. No condition. -/
section
namespace Go.Proofs.YtdilegbigaahnaaGreat
open Go.RowKit

/-- A row of nodes. -/
inductive Trees where
  | nil : Trees
  | cons (kind num : Int) (text : ByteArray) (args rest : Trees) : Trees
namespace Trees
def length : Trees → Nat
  | .nil => 0
  | .cons _ _ _ _ r => r.length + 1
def append : Trees → Trees → Trees
  | .nil, b => b
  | .cons k n t ar r, b => .cons k n t ar (r.append b)
/-- One more at the end. -/
def snoc (a : Trees) (k n : Int) (t : ByteArray) (ar : Trees) : Trees := a.append (.cons k n t ar .nil)
theorem append_length (a b : Trees) : (a.append b).length = a.length + b.length := by
  induction a with
  | nil => simp [append, length]
  | cons k n t ar r _ ih => simp [append, length, ih]; omega
theorem append_nil (a : Trees) : a.append .nil = a := by
  induction a with
  | nil => rfl
  | cons k n t ar r _ ih => simp [append, ih]
theorem append_assoc (a b c : Trees) : (a.append b).append c = a.append (b.append c) := by
  induction a with
  | nil => rfl
  | cons k n t ar r _ ih => simp [append, ih]
theorem snoc_append (a b : Trees) (k n : Int) (t : ByteArray) (ar : Trees) : (a.snoc k n t ar).append b = a.append (.cons k n t ar b) := by
  unfold snoc
  rw [append_assoc]
  rfl
theorem snoc_length (a : Trees) (k n : Int) (t : ByteArray) (ar : Trees) : (a.snoc k n t ar).length = a.length + 1 := by
  unfold snoc
  rw [append_length]
  rfl
/-- Of the rows below the nodes of a row. -/
def All (P : Trees → Prop) : Trees → Prop
  | .nil => True
  | .cons _ _ _ ar r => P ar ∧ r.All P
theorem ind {P : Trees → Prop} (h : ∀ F : Trees, F.All P → P F) : ∀ F, P F := fun F => by
  have h2 : F.All P := by
    induction F with
    | nil => trivial
    | cons k n t ar r ih1 ih2 => exact ⟨h ar ih1, ih2⟩
  exact h F h2
/-- Every number and every length is one that a machine has. -/
def fits : Trees → Prop
  | .nil => True
  | .cons k n t ar r => (-9223372036854775808 ≤ k ∧ k ≤ 9223372036854775807) ∧ (-9223372036854775808 ≤ n ∧ n ≤ 9223372036854775807) ∧ t.size ≤ maxLen ∧ ar.length ≤ maxLen ∧ ar.fits ∧ r.fits
/-- The places that it takes: a node one, and the bytes of its text. -/
def size : Trees → Nat
  | .nil => 0
  | .cons _ _ t ar r => t.size + 1 + ar.size + r.size
/-- The nodes. -/
def count : Trees → Nat
  | .nil => 0
  | .cons _ _ _ ar r => 1 + ar.count + r.count
/-- The most nodes one below the other. -/
def deep : Trees → Nat
  | .nil => 0
  | .cons _ _ _ ar r => max (ar.deep + 1) r.deep
theorem length_le_size (F : Trees) : F.length ≤ F.size := by
  induction F with
  | nil => simp [length, size]
  | cons k n t ar r _ ih => simp [length, size]; omega
theorem length_le_count (F : Trees) : F.length ≤ F.count := by
  induction F with
  | nil => simp [length, count]
  | cons k n t ar r _ ih => simp [length, count]; omega
theorem count_le_size (F : Trees) : F.count ≤ F.size := by
  induction F with
  | nil => simp [count, size]
  | cons k n t ar r ih1 ih => simp [count, size]; omega
theorem deep_le_count (F : Trees) : F.deep ≤ F.count := by
  induction F with
  | nil => simp [deep, count]
  | cons k n t ar r ih1 ih => simp [deep, count]; omega
end Trees

/-- The fields behind the first of a node. -/
abbrev fieldAt (y : Addr) (i j : Nat) : Addr := { block := (y.add (i * 4)).block, off := (y.add (i * 4)).off + j }
/-- The row at a, from its i-th node on, reads as said. -/
def TreesAt (w : World) : Trees → Option Addr → Nat → Prop
  | .nil, _, _ => True
  | .cons k n t ar r, a, i => (∃ y p cap, a = some y ∧ w.cell? (y.add (i * 4)) = some (.int .i64 k) ∧ w.cell? (fieldAt y i 1) = some (.int .i64 n) ∧ w.cell? (fieldAt y i 2) = some (.string t) ∧ w.cell? (fieldAt y i 3) = some (.slice p ar.length cap) ∧ ar.length ≤ cap ∧ TreesAt w ar p 0) ∧ TreesAt w r a (i + 1)
theorem TreesAt.keep {w w' : World} (hc : ∀ p v, w.cell? p = some v → w'.cell? p = some v) : ∀ (F : Trees) (a : Option Addr) (i : Nat), TreesAt w F a i → TreesAt w' F a i := by
  intro F
  induction F with
  | nil => intro _ _ _; trivial
  | cons k n t ar r ih1 ih2 =>
    rintro a i ⟨⟨y, p, cap, h1, h2, h3, h4, h5, hl, h6⟩, h7⟩
    exact ⟨⟨y, p, cap, h1, hc _ _ h2, hc _ _ h3, hc _ _ h4, hc _ _ h5, hl, ih1 _ _ h6⟩, ih2 _ _ h7⟩
theorem TreesAt.below {w w' : World} {F : Trees} {a : Option Addr} {i : Nat} (h : TreesAt w F a i) (hb : Below w.heap.size w w') : TreesAt w' F a i :=
  TreesAt.keep (fun _ _ hc => cell_below hc hb) F a i h
theorem TreesAt.drew {w : World} {F : Trees} {a : Option Addr} {i : Nat} (h : TreesAt w F a i) : TreesAt w.drew F a i :=
  TreesAt.keep (w := w) (w' := w.drew) (fun _ _ hc => hc) F a i h
/-- The same row behind a world whose blocks below B lie as they lay, where the row's blocks are below B. -/
theorem TreesAt.low {w w' : World} {F : Trees} {a : Option Addr} {i B : Nat} (hB : B = w.heap.size) (h : TreesAt w F a i) (hk : ∀ b, b < B → w'.heap[b]? = w.heap[b]?) : TreesAt w' F a i := by
  subst hB
  refine TreesAt.keep (fun p v hc => ?_) F a i h
  rw [← hc]
  have hlt : p.block < w.heap.size := by
    rcases Nat.lt_or_ge p.block w.heap.size with h1 | h1
    · exact h1
    · simp [World.cell?, Array.getElem?_eq_none h1] at hc
  exact World.cell?_of_block (hk _ hlt)
/-- What is read of the i-th node. -/
theorem TreesAt.open {w : World} {k n : Int} {t : ByteArray} {ar r : Trees} {a : Option Addr} {i : Nat} (h : TreesAt w (.cons k n t ar r) a i) :
    ∃ y p cap, a = some y ∧ w.cell? (y.add (i * 4)) = some (.int .i64 k) ∧ w.cell? (fieldAt y i 1) = some (.int .i64 n) ∧ w.cell? (fieldAt y i 2) = some (.string t) ∧ w.cell? (fieldAt y i 3) = some (.slice p ar.length cap) ∧ TreesAt w ar p 0 ∧ TreesAt w r a (i + 1) := by
  obtain ⟨⟨y, p, cap, h1, h2, h3, h4, h5, _, h6⟩, h7⟩ := h
  exact ⟨y, p, cap, h1, h2, h3, h4, h5, h6, h7⟩
/-- Without the nodes of the row itself. -/
def Trees.inner : Trees → Nat
  | .nil => 0
  | .cons _ _ t ar r => t.size + ar.size + r.inner
theorem Trees.size_eq (F : Trees) : F.size = F.length + F.inner := by
  induction F with
  | nil => rfl
  | cons k n t ar r _ ih => simp [Trees.size, Trees.length, Trees.inner, ih]; omega

theorem Trees.append_count (A B : Trees) : (A.append B).count = A.count + B.count := by
  induction A with
  | nil => simp [Trees.append, Trees.count]
  | cons k n t ar r _ ih => simp [Trees.append, Trees.count, ih]; omega
end Go.Proofs.YtdilegbigaahnaaGreat
end

/- What is proved here: the first element of a list that a test picks, by its place; the first type, the first constructor of a name. No condition. -/
section
namespace Go.Proofs.YtdilegbigaahnaaGreat
open Go.RowKit

theorem find_at {α : Type} (p : α → Bool) (l : List α) (k : Nat) (x : α) (hx : l[k]? = some x) (hp : p x = true) (hne : ∀ (j : Nat) y, j < k → l[j]? = some y → p y = false) : l.find? p = some x := by
  induction l generalizing k with
  | nil => simp at hx
  | cons z r ih =>
    cases k with
    | zero =>
      simp at hx
      subst hx
      simp [List.find?, hp]
    | succ k =>
      have h0 := hne 0 z (by omega) (by simp)
      rw [List.find?_cons_of_neg (by simp [h0])]
      exact ih k (by simpa using hx) (fun j y hj hy => hne (j + 1) y (by omega) (by simpa using hy))
theorem find_no {α : Type} (p : α → Bool) (l : List α) (hne : ∀ (j : Nat) y, l[j]? = some y → p y = false) : l.find? p = none := by
  rw [List.find?_eq_none]
  intro x hx
  obtain ⟨j, hj, e⟩ := List.mem_iff_getElem.1 hx
  simp [hne j x (by rw [List.getElem?_eq_getElem hj, e])]

def TypeD.named (nm : ByteArray) (t : TypeD) : Bool := t.name.toList == nm.toList
def ConD.named (nm : ByteArray) (c : ConD) : Bool := c.name.toList == nm.toList
/-- The first type of a name. -/
def theType (s : List TypeD) (nm : ByteArray) : Option TypeD := s.find? (TypeD.named nm)
def hasCon (nm : ByteArray) (t : TypeD) : Bool := (t.cons.find? (ConD.named nm)).isSome
/-- The first constructor of a name, with the name of its type. -/
def theCon (s : List TypeD) (nm : ByteArray) : Option (ConD × ByteArray) := (s.find? (hasCon nm)).bind fun t => (t.cons.find? (ConD.named nm)).map fun c => (c, t.name)
theorem two_alloc (w : World) (o0 o1 : Obj) : ((w.alloc o0).alloc o1).heap.size = w.heap.size + 1 + 1 ∧ ((w.alloc o0).alloc o1).heap[w.heap.size]? = some o0 ∧ ((w.alloc o0).alloc o1).heap[w.heap.size + 1]? = some o1 ∧ Below w.heap.size w ((w.alloc o0).alloc o1) := by
  have s1 : (w.alloc o0).heap.size = w.heap.size + 1 := Array.size_push _
  have s2 : ((w.alloc o0).alloc o1).heap.size = (w.alloc o0).heap.size + 1 := Array.size_push _
  refine ⟨by omega, ?_, ?_, ((Below.refl _ _).alloc (Nat.le_refl _) _).alloc (by omega) _⟩
  · rw [Below.heap_alloc _ _ _ (by omega)]
    exact heap_at_new w o0
  · rw [← s1]
    exact heap_at_new _ o1

theorem results_row_tmp {P : Program} {fn : Func} {p u : Tmp} {ty : TypeId} (h : fn.results = #[.cell p ty, .tmp u]) (tmps : Array Value) (w : World) (g : Nat) (t : TypeId) (cs : Array Value) (fr : Nat × Nat) (d : TypeDesc)
    (hp : tmps.getD p undef = .pointer (some ⟨g, 0, none⟩)) (hg : w.heap[g]? = some (.cells cs t fr))
    (hu : P.underlying ty = some d) (hd : (match d with | .struct _ | .array _ _ => true | _ => false) = true) (hi : (P.info? ty).map (·.size) = some cs.size) :
    (results fn tmps).run P w = .ok (.tuple #[.agg cs, tmps.getD u undef]) w := by
  have hp' : tmps[p]?.getD undef = .pointer (some ⟨g, 0, none⟩) := by simpa using hp
  simp [results, h, hp', asAddr, run_loadVar_row w g t ty cs fr d hg hu hd hi]
theorem results_row_tmp2 {P : Program} {fn : Func} {p u v : Tmp} {ty : TypeId} (h : fn.results = #[.cell p ty, .tmp u, .tmp v]) (tmps : Array Value) (w : World) (g : Nat) (t : TypeId) (cs : Array Value) (fr : Nat × Nat) (d : TypeDesc)
    (hp : tmps.getD p undef = .pointer (some ⟨g, 0, none⟩)) (hg : w.heap[g]? = some (.cells cs t fr))
    (hu : P.underlying ty = some d) (hd : (match d with | .struct _ | .array _ _ => true | _ => false) = true) (hi : (P.info? ty).map (·.size) = some cs.size) :
    (results fn tmps).run P w = .ok (.tuple #[.agg cs, tmps.getD u undef, tmps.getD v undef]) w := by
  have hp' : tmps[p]?.getD undef = .pointer (some ⟨g, 0, none⟩) := by simpa using hp
  simp [results, h, hp', asAddr, run_loadVar_row w g t ty cs fr d hg hu hd hi]
theorem block_of_cell {w : World} {p : Addr} {v : Value} (h : w.cell? p = some v) : p.block < w.heap.size := by
  rcases Nat.lt_or_ge p.block w.heap.size with h1 | h1
  · exact h1
  · simp [World.cell?, Array.getElem?_eq_none h1] at h
end Go.Proofs.YtdilegbigaahnaaGreat
end

/- What is proved here: the Bool of a proposition. No condition. -/
section
namespace Go.Proofs.YtdilegbigaahnaaGreat
open Go.RowKit

noncomputable def bl (p : Prop) : Bool := @decide p (Classical.propDecidable p)
theorem bl_true {p : Prop} (h : p) : bl p = true := by unfold bl; exact @decide_eq_true _ (Classical.propDecidable p) h
theorem bl_false {p : Prop} (h : ¬ p) : bl p = false := by unfold bl; exact @decide_eq_false _ (Classical.propDecidable p) h
theorem bl_iff {p : Prop} : bl p = true ↔ p := by unfold bl; exact @decide_eq_true_iff _ (Classical.propDecidable p)
theorem bl_not_iff {p : Prop} : bl p = false ↔ ¬ p := by unfold bl; exact @decide_eq_false_iff_not _ (Classical.propDecidable p)
theorem bl_congr {p q : Prop} (h : p ↔ q) : bl p = bl q := by rw [propext h]

end Go.Proofs.YtdilegbigaahnaaGreat
end

/- What is proved here: the model's and the program's IsValidText say what a valid text is. Condition: the text's length is a length. -/
section
namespace Go.Proofs.YtdilegbigaahnaaGreat
open Go.RowKit

/-- A byte that may stand in a text. -/
def OkByte (c : UInt8) : Prop := 32 ≤ c.toNat ∧ c.toNat ≤ 126 ∧ c.toNat ≠ 34
def ValidText (s : ByteArray) : Prop := s.size ≤ 8 ∧ ∀ j (h : j < s.size), OkByte s[j]

set_option maxHeartbeats 1000000 in
set_option maxRecDepth 100000 in
theorem spec_text (s : ByteArray) (hs : s.size ≤ maxLen) (w : World) :
    Calls Tryz.prog 44 #[.string s] w fun e w' => e = .returned (.bool (bl (ValidText s))) ∧ Below w.heap.size w w' := by
  unfold maxLen at hs
  go_enter Tryz.func44, Tryz.ntmps44
  go_wp2
  go_loopw [3] (fun i wr => ∃ k : Nat, k ≤ s.size ∧ i = .int .i64 k ∧ Hid (∀ j (h : j < s.size), j < k → OkByte s[j]) ∧ Below w.heap.size w wr) (fun i _ => s.size - (intOf i).toNat)
  case atStart => exact ⟨0, Nat.zero_le _, rfl, fun j h h1 => by omega, Below.refl _ _⟩
  case round =>
    obtain ⟨k, hk, rfl, HG, hB⟩ := hrel
    by_cases hlt : k < s.size
    · have hbad : ¬ OkByte s[k] → Hid (bl (ValidText s) = false) := fun h => bl_false (fun hv => h (hv.2 k hlt))
      have HBAD := Lib.hid hbad
      clear hbad
      have h255 : s[k].toNat < 256 := s[k].toNat_lt
      by_cases h1 : s[k].toNat < 32
      · have HE := HBAD.out (fun h => by have := h.1; omega)
        go_wp2
        go_ret
        exact ⟨by rw [HE.out]; rfl, hB⟩
      · by_cases h2 : 126 < s[k].toNat
        · have HE := HBAD.out (fun h => by have := h.2.1; omega)
          go_wp2
          go_ret
          exact ⟨by rw [HE.out]; rfl, hB⟩
        · by_cases h3 : s[k].toNat = 34
          · have HE := HBAD.out (fun h => h.2.2 h3)
            go_wp2
            go_ret
            exact ⟨by rw [HE.out]; rfl, hB⟩
          · have HC : Hid (OkByte s[k]) := ⟨by omega, by omega, h3⟩
            have e3 : ((s[k].toNat : Int) == 34) = false := by simpa using (by omega : ¬ (s[k].toNat : Int) = 34)
            clear HBAD
            go_wp2
            go_roundw
            case rel =>
              refine ⟨k + 1, by omega, by go_num, fun j h h4 => ?_, hB⟩
              rcases Nat.lt_or_ge j k with h5 | h5
              · exact HG.out j h h5
              · obtain rfl : j = k := by omega
                exact HC.out
            case measure => simp [intOf]; omega
    · by_cases h8 : s.size ≤ 8
      · have hR : bl (ValidText s) = true := bl_true ⟨h8, fun j h => HG.out j h (by omega)⟩
        have e8 : decide ((s.size : Int) ≤ 8) = true := by simp; omega
        have HR := Lib.hid hR
        clear hR
        go_wp2
        go_ret
        exact ⟨by rw [HR.out]; rfl, hB⟩
      · have hR : bl (ValidText s) = false := bl_false (fun h => h8 h.1)
        have e8 : decide ((s.size : Int) ≤ 8) = false := by simp; omega
        have HR := Lib.hid hR
        clear hR
        go_wp2
        go_ret
        exact ⟨by rw [HR.out]; rfl, hB⟩

set_option maxHeartbeats 1000000 in
set_option maxRecDepth 100000 in
theorem impl_text (s : ByteArray) (hs : s.size ≤ maxLen) (w : World) :
    Calls Tryz.prog 54 #[.string s] w fun e w' => e = .returned (.bool (bl (ValidText s))) ∧ Below w.heap.size w w' := by
  unfold maxLen at hs
  by_cases h8 : 8 < s.size
  · have HR : Hid (bl (ValidText s) = false) := bl_false (fun h => by have := h.1; omega)
    go_enter Tryz.func54, Tryz.ntmps54
    go_wp2
    go_ret
    exact ⟨by rw [HR.out]; rfl, Below.refl _ _⟩
  · go_enter Tryz.func54, Tryz.ntmps54
    go_wp2
    go_loopw [9] (fun i wr => ∃ k : Nat, k ≤ s.size ∧ i = .int .i64 k ∧ Hid (∀ j (h : j < s.size), j < k → OkByte s[j]) ∧ Below w.heap.size w wr) (fun i _ => s.size - (intOf i).toNat)
    case atStart => exact ⟨0, Nat.zero_le _, rfl, fun j h h1 => by omega, Below.refl _ _⟩
    case round =>
      obtain ⟨k, hk, rfl, HG, hB⟩ := hrel
      by_cases hlt : k < s.size
      · have hbad : ¬ OkByte s[k] → Hid (bl (ValidText s) = false) := fun h => bl_false (fun hv => h (hv.2 k hlt))
        have HBAD := Lib.hid hbad
        clear hbad
        have h255 : s[k].toNat < 256 := s[k].toNat_lt
        by_cases h1 : s[k].toNat < 32
        · have HE := HBAD.out (fun h => by have := h.1; omega)
          go_wp2
          go_ret
          exact ⟨by rw [HE.out]; rfl, hB⟩
        · by_cases h2 : 126 < s[k].toNat
          · have HE := HBAD.out (fun h => by have := h.2.1; omega)
            go_wp2
            go_ret
            exact ⟨by rw [HE.out]; rfl, hB⟩
          · by_cases h3 : s[k].toNat = 34
            · have HE := HBAD.out (fun h => h.2.2 h3)
              go_wp2
              go_ret
              exact ⟨by rw [HE.out]; rfl, hB⟩
            · have HC : Hid (OkByte s[k]) := ⟨by omega, by omega, h3⟩
              have e3 : ((s[k].toNat : Int) == 34) = false := by simpa using (by omega : ¬ (s[k].toNat : Int) = 34)
              clear HBAD
              go_wp2
              go_roundw
              case rel =>
                refine ⟨k + 1, by omega, by go_num, fun j h h4 => ?_, hB⟩
                rcases Nat.lt_or_ge j k with h5 | h5
                · exact HG.out j h h5
                · obtain rfl : j = k := by omega
                  exact HC.out
              case measure => simp [intOf]; omega
      · have hR : bl (ValidText s) = true := bl_true ⟨by omega, fun j h => HG.out j h (by omega)⟩
        have HR := Lib.hid hR
        clear hR
        go_wp2
        go_ret
        exact ⟨by rw [HR.out]; rfl, hB⟩
end Go.Proofs.YtdilegbigaahnaaGreat
end

/- What is proved here: whether an integer is within the bounds of the document, as model and program tell it. No condition. -/
section
namespace Go.Proofs.YtdilegbigaahnaaGreat
open Go.RowKit

def inInt (n : Int) : Bool := decide (-999999999999 ≤ n) && decide (n ≤ 999999999999)
set_option maxRecDepth 100000 in
theorem spec_inInt (n : Int) (w : World) :
    Calls Tryz.prog 43 #[.int .i64 n, .int .i64 (-999999999999), .int .i64 999999999999] w fun e w' => e = .returned (.bool (inInt n)) ∧ w' = w := by
  unfold inInt
  by_cases h1 : -999999999999 ≤ n
  · have e1 : decide (-999999999999 ≤ n) = true := by simpa using h1
    rw [e1]
    clear h1
    go_enter Tryz.func43, Tryz.ntmps43
    go_wp2
    go_ret
    exact ⟨rfl, rfl⟩
  · have e1 : decide (-999999999999 ≤ n) = false := by simpa using h1
    rw [e1]
    clear h1
    go_enter Tryz.func43, Tryz.ntmps43
    go_wp2
    go_ret
    exact ⟨rfl, rfl⟩
set_option maxRecDepth 100000 in
theorem impl_inInt (n : Int) (w : World) :
    Calls Tryz.prog 53 #[.int .i64 n] w fun e w' => e = .returned (.bool (inInt n)) ∧ w' = w := by
  unfold inInt
  by_cases h1 : -999999999999 ≤ n
  · have e1 : decide (-999999999999 ≤ n) = true := by simpa using h1
    rw [e1]
    clear h1
    go_enter Tryz.func53, Tryz.ntmps53
    go_wp2
    go_ret
    exact ⟨rfl, rfl⟩
  · have e1 : decide (-999999999999 ≤ n) = false := by simpa using h1
    rw [e1]
    clear h1
    go_enter Tryz.func53, Tryz.ntmps53
    go_wp2
    go_ret
    exact ⟨rfl, rfl⟩
end Go.Proofs.YtdilegbigaahnaaGreat
end

/- What is proved here: what it is for a value to have a type (pure). No condition. -/
section
namespace Go.Proofs.YtdilegbigaahnaaGreat
open Go.RowKit

/-- A node of the type nm, with nn nodes below of which 'below' says whether they have their types. -/
noncomputable def nodeHas (s : List TypeD) (k n : Int) (t : ByteArray) (nn : Nat) (below : List ByteArray → Bool) (nm : ByteArray) : Bool :=
  if k = 1 then (nm.toList == [105, 110, 116]) && inInt n && (t.toList == []) && decide (nn = 0)
  else if k = 2 then (nm.toList == [116, 101, 120, 116]) && (n == 0) && decide (nn = 0) && bl (ValidText t)
  else if k = 3 then match theCon s t with
    | some (c, tn) => (tn.toList == nm.toList) && (n == 0) && decide (c.args.length = nn) && below c.args
    | none => false
  else false
noncomputable def Trees.has (s : List TypeD) : Trees → List ByteArray → Bool
  | .nil, _ => true
  | .cons _ _ _ _ _, [] => true
  | .cons k n t ar r, x :: xs => nodeHas s k n t ar.length (fun l => ar.has s l) x && r.has s xs

theorem theCon_args {s : List TypeD} (hs : ∀ c ∈ s, c.cons.length ≤ 1048576 ∧ ∀ d ∈ c.cons, d.args.length ≤ 1048576) {nm : ByteArray} {c : ConD} {tn : ByteArray} (h : theCon s nm = some (c, tn)) : c.args.length ≤ 1048576 := by
  unfold theCon at h
  obtain ⟨t, ht, h⟩ := Option.bind_eq_some_iff.1 h
  obtain ⟨d, hd, h⟩ := Option.map_eq_some_iff.1 h
  cases h
  exact (hs t (List.mem_of_find?_eq_some ht)).2 _ (List.mem_of_find?_eq_some hd)

end Go.Proofs.YtdilegbigaahnaaGreat
end

/- What is proved here: the cells of a struct of four fields in a block. No condition. -/
section
namespace Go.Proofs.YtdilegbigaahnaaGreat
open Go.RowKit

/-- A struct of four fields in a block of the call's own. -/
theorem four_cells {w : World} {b : Nat} {x y z u : Value} {T : TypeId} (h : w.heap[b]? = some (.cells #[x, y, z, u] T (0, 0))) : w.cell? ⟨b, 0, none⟩ = some x ∧ w.cell? ⟨b, 1, none⟩ = some y ∧ w.cell? ⟨b, 2, none⟩ = some z ∧ w.cell? ⟨b, 3, none⟩ = some u ∧ w.frozen? ⟨b, 0, none⟩ = false ∧ w.frozen? ⟨b, 1, none⟩ = false ∧ w.frozen? ⟨b, 2, none⟩ = false ∧ w.frozen? ⟨b, 3, none⟩ = false := by
  refine ⟨?_, ?_, ?_, ?_, ?_, ?_, ?_, ?_⟩ <;> simp [World.cell?, World.frozen?, h]
theorem four_set {w : World} {b : Nat} {x y z u : Value} {T : TypeId} (h : w.heap[b]? = some (.cells #[x, y, z, u] T (0, 0))) (v : Value) : (w.setCell ⟨b, 0, none⟩ v).heap[b]? = some (.cells #[v, y, z, u] T (0, 0)) ∧ (w.setCell ⟨b, 1, none⟩ v).heap[b]? = some (.cells #[x, v, z, u] T (0, 0)) ∧ (w.setCell ⟨b, 2, none⟩ v).heap[b]? = some (.cells #[x, y, v, u] T (0, 0)) ∧ (w.setCell ⟨b, 3, none⟩ v).heap[b]? = some (.cells #[x, y, z, v] T (0, 0)) := by
  refine ⟨?_, ?_, ?_, ?_⟩ <;> simp [World.setCell, Array.getElem?_modify, h]
end Go.Proofs.YtdilegbigaahnaaGreat
end
