/- What is proved here: the laws' copy of a signature (toSignature and what it calls) is the same signature in memory of its own. Condition: it lies in memory as said, and is small. -/
import Derived.Test.YtcmpaccpdjcocaaSigOwn
import Derived.Test.YtcmpaccpdjcocaaTextsMake
import Derived.Laws.Rows
namespace Go.Proofs.Ytcmpaccpdjcocaa
open Go.RowKit

theorem own_new {w w' : World} {g : Nat} {xs : List ByteArray} (hg : w.heap.size ≤ g) (h : w'.heap[g]? = some (.cells (xs.map Value.string).toArray 9 (0, 0))) : OwnS (Came w w') w' (.slice (some ⟨g, 0, none⟩) xs.length xs.length) xs := by
  have hb : Block w' g xs [] := by unfold Block; rw [List.append_nil]; exact h
  exact ⟨_, _, rfl, .inr ⟨g, [], rfl, ⟨hg, hb.lt⟩, hb⟩⟩
/-- A struct of two fields in a block of the call's own. -/
theorem two_cells {w : World} {b : Nat} {x y : Value} {T : TypeId} (h : w.heap[b]? = some (.cells #[x, y] T (0, 0))) : w.cell? ⟨b, 0, none⟩ = some x ∧ w.cell? ⟨b, 1, none⟩ = some y ∧ w.frozen? ⟨b, 0, none⟩ = false ∧ w.frozen? ⟨b, 1, none⟩ = false := by
  refine ⟨?_, ?_, ?_, ?_⟩ <;> simp [World.cell?, World.frozen?, h]
theorem one_cell {w : World} {b : Nat} {x : Value} {T : TypeId} (h : w.heap[b]? = some (.cells #[x] T (0, 0))) : w.cell? ⟨b, 0, none⟩ = some x ∧ w.frozen? ⟨b, 0, none⟩ = false := by
  refine ⟨?_, ?_⟩ <;> simp [World.cell?, World.frozen?, h]
theorem one_set {w : World} {b : Nat} {x : Value} {T : TypeId} (h : w.heap[b]? = some (.cells #[x] T (0, 0))) (v : Value) : (w.setCell ⟨b, 0, none⟩ v).heap[b]? = some (.cells #[v] T (0, 0)) := by
  simp [World.setCell, Array.getElem?_modify, h]
theorem two_set {w : World} {b : Nat} {x y : Value} {T : TypeId} (h : w.heap[b]? = some (.cells #[x, y] T (0, 0))) (v : Value) : (w.setCell ⟨b, 0, none⟩ v).heap[b]? = some (.cells #[v, y] T (0, 0)) ∧ (w.setCell ⟨b, 1, none⟩ v).heap[b]? = some (.cells #[x, v] T (0, 0)) := by
  constructor <;> simp [World.setCell, Array.getElem?_modify, h]
theorem three (w : World) (o0 o1 o2 : Obj) : (((w.alloc o0).alloc o1).alloc o2).heap.size = w.heap.size + 3 ∧ (((w.alloc o0).alloc o1).alloc o2).heap[w.heap.size + 1]? = some o1 ∧ (((w.alloc o0).alloc o1).alloc o2).heap[w.heap.size + 1 + 1]? = some o2 ∧ Below w.heap.size w (((w.alloc o0).alloc o1).alloc o2) := by
  have s1 : (w.alloc o0).heap.size = w.heap.size + 1 := Array.size_push _
  have s2 : ((w.alloc o0).alloc o1).heap.size = (w.alloc o0).heap.size + 1 := Array.size_push _
  have s3 : (((w.alloc o0).alloc o1).alloc o2).heap.size = ((w.alloc o0).alloc o1).heap.size + 1 := Array.size_push _
  have e1 := heap_at_new (w.alloc o0) o1
  have e2 := heap_at_new ((w.alloc o0).alloc o1) o2
  rw [s1] at e1
  rw [s2, s1] at e2
  refine ⟨by omega, ?_, e2, (((Below.refl _ _).alloc (Nat.le_refl _) _).alloc (by omega) _).alloc (by omega) _⟩
  rw [Below.heap_alloc _ _ _ (by omega)]
  exact e1
theorem made_flat (n : Nat) (u v : Value) : madeCells (Value.agg #[u, v]).cells (n * 2) = (flat (List.replicate n (u, v))).toArray := by
  apply Array.ext
  · simp [madeCells, flat_length]; omega
  · intro i h1 h2
    have hi : i < n * 2 := by simpa [madeCells] using h1
    have hf := flat_at (List.replicate n (u, v)) [] (i / 2) (u, v) (by rw [List.getElem?_replicate, if_pos (by omega)])
    rw [List.append_nil] at hf
    rcases Nat.mod_two_eq_zero_or_one i with h | h
    · have e : i / 2 * 2 = i := by omega
      rw [e] at hf
      have := hf.1
      simp [madeCells, Value.cells, h]
      rw [List.getElem?_eq_some_iff] at this
      obtain ⟨h3, h4⟩ := this
      exact h4.symm
    · have e : i / 2 * 2 + 1 = i := by omega
      rw [e] at hf
      have := hf.2
      simp [madeCells, Value.cells, h]
      rw [List.getElem?_eq_some_iff] at this
      obtain ⟨h3, h4⟩ := this
      exact h4.symm
theorem toStringS_any (w : World) (a : Option Addr) (cap : Nat) (xs : List ByteArray) (hx : Reads w a xs) (hm : xs.length ≤ 1048576) :
    Calls Try.prog 85 #[.slice a xs.length cap] w fun e w' => (∃ v, e = .returned v ∧ OwnS (Came w w') w' v xs) ∧ Below w.heap.size w w' := by
  refine (toS_any w a cap xs hx hm).mono ?_
  rintro e w1 ⟨g, hg, rfl, hc, hb⟩
  exact ⟨⟨_, rfl, own_new hg hc⟩, hb⟩

set_option maxHeartbeats 1000000 in
set_option maxRecDepth 100000 in
theorem toCon_any (w : World) (c : ConD) (u v : Value) (hx : ConAt w c u v) (hm : c.args.length ≤ 1048576) :
    Calls Try.prog 76 #[.agg #[u, v]] w fun e w' => (∃ u' v', e = .returned (.agg #[u', v']) ∧ OwnCon (Came w w') w' c u' v') ∧ Below w.heap.size w w' := by
  obtain ⟨a, cap, rfl, rfl, hr⟩ := hx
  have HR := Lib.hid hr
  clear hr
  obtain ⟨w3, h3⟩ : ∃ w3, w3 = ((w.alloc (.cells #[.string c.name, .slice a c.args.length cap] 90)).alloc (.cells #[.string ⟨#[]⟩, .slice none 0 0] 42)).alloc (.cells #[.string c.name, .slice none 0 0] 42) := ⟨_, rfl⟩
  have h := three w (.cells #[.string c.name, .slice a c.args.length cap] 90) (.cells #[.string ⟨#[]⟩, .slice none 0 0] 42) (.cells #[.string c.name, .slice none 0 0] 42)
  rw [← h3] at h
  obtain ⟨hs3, hp1, hp2, hB⟩ := h
  have HB := Lib.hid hB
  have HS := Lib.hid hs3
  have HP1 := Lib.hid hp1
  have HP2 := Lib.hid hp2
  have H3 := Lib.hid h3
  clear hB hs3 hp1 hp2 h3
  go_enter Try.func76, Try.ntmps76
  go_wp2_with fail
  rw [← H3.out]
  refine (toStringS_any w3 a cap c.args (reads_below HR.out HB.out) hm).mono ?_
  rintro e w1 ⟨⟨v1, rfl, hO⟩, hb1⟩
  have hs := HS.out
  have hO2 := hO
  obtain ⟨a2, cap2, rfl, _⟩ := hO2
  have HO := Lib.hid hO
  clear hO
  have hr1 := (hb1.block (w.heap.size + 1) (by omega)).trans HP1.out
  have HR1 := Lib.hid hr1
  obtain ⟨q1, q2, q3, q4⟩ := two_cells hr1
  obtain ⟨q5, q6, q7, q8⟩ := two_cells ((hb1.block (w.heap.size + 1 + 1) (by omega)).trans HP2.out)
  have HB1 : Hid (Below w.heap.size w w1) := HB.out.trans (hb1.mono (by omega))
  clear hb1 HB HP1 HP2 hr1
  go_wp2
  have hz1 : (w1.setCell ⟨w.heap.size + 1 + 1, 1, none⟩ (.slice a2 c.args.length cap2)).heap[w.heap.size + 1]? = some (.cells #[.string ⟨#[]⟩, .slice none 0 0] 42 (0, 0)) := by
    rw [Below.heap_setCell _ _ _ _ (by show w.heap.size + 1 ≠ w.heap.size + 1 + 1; omega)]
    exact HR1.out
  refine bodyPost_ret (results_cell_row rfl _ _ (w.heap.size + 1) _ _ _ _ rfl (two_set (two_set hz1 _).1 _).2 Try.underlying42 rfl (by kernel_rfl)) rfl ?_
  refine ⟨⟨_, _, rfl, rfl, (HO.out.keep ?_).wider ?_⟩, ((HB1.out.setCell (by show _ ≤ w.heap.size + 1 + 1; omega) _).setCell (by show _ ≤ w.heap.size + 1; omega) _).setCell (by show _ ≤ w.heap.size + 1; omega) _⟩
  · intro b hb
    obtain ⟨hb1, hb2⟩ := hb
    rw [Below.heap_setCell _ _ _ _ (by show b ≠ w.heap.size + 1; omega), Below.heap_setCell _ _ _ _ (by show b ≠ w.heap.size + 1; omega), Below.heap_setCell _ _ _ _ (by show b ≠ w.heap.size + 1 + 1; omega)]
  · intro b hb
    obtain ⟨hb1, hb2⟩ := hb
    exact ⟨by omega, by simpa [World.setCell] using hb2⟩

theorem zero_Con : ∃ i, Try.prog.info? 42 = some i ∧ i.zero = some (.agg #[.string ⟨#[]⟩, .slice none 0 0]) ∧ i.size = 2 ∧ i.bytes = 40 := by
  have hi : (Try.prog.info? 42).map (fun i => (i.zero, i.size, i.bytes)) = some (some (.agg #[.string ⟨#[]⟩, .slice none 0 0]), 2, 40) := by kernel_rfl
  obtain ⟨i0, hi, hz0, hz1, hz2⟩ := info_parts hi
  exact ⟨i0, hi, hz0, hz1, hz2⟩
theorem make_Con (n : Nat) (hn : n ≤ 1048576) (W : World) :
    (Instr.makeSlice 26 (.int .i64 (n : Int)) (.int .i64 (n : Int))).run Try.prog W = .ok (.slice (some ⟨W.heap.size, 0, none⟩) n n) (W.alloc (.cells (flat (List.replicate n (Value.string ⟨#[]⟩, Value.slice none 0 0))).toArray 42)) := by
  obtain ⟨i0, hi, hz0, hz1, hz2⟩ := zero_Con
  have hr := run_make (P := Try.prog) W 26 42 i0 _ Try.underlying26 hi hz0 .i64 .i64 n n (by omega) (by omega) (by rw [hz2]; omega) (by omega)
  rw [hr]
  simp only [Int.toNat_natCast]
  rw [hz1, made_flat]

set_option maxHeartbeats 1000000 in
set_option maxRecDepth 100000 in
theorem toConS_any (w : World) (a : Option Addr) (cap : Nat) (cs : List ConD) (hx : Row2 ConAt w a cs) (hm : cs.length ≤ 1048576) (hs : ∀ c ∈ cs, c.args.length ≤ 1048576) :
    Calls Try.prog 63 #[.slice a cs.length cap] w fun e w' => (∃ v, e = .returned v ∧ Own2 42 OwnCon (Came w w') w' v cs) ∧ Below w.heap.size w w' := by
  have hmk := make_Con cs.length hm
  have HX := Lib.hid hx
  have HS := Lib.hid hs
  clear hx hs
  go_enter Try.func63, Try.ntmps63
  go_wp2
  clear hmk
  generalize hps : List.replicate cs.length (Value.string ⟨#[]⟩, Value.slice none 0 0) = ps0
  have hb0 := heap_at_new w (.cells (flat ps0).toArray 42)
  have hB0 : Below w.heap.size w (w.alloc (.cells (flat ps0).toArray 42)) := (Below.refl _ _).alloc (Nat.le_refl _) _
  have hst : (w.alloc (.cells (flat ps0).toArray 42)).heap.size = w.heap.size + 1 := Array.size_push _
  have hlen : ps0.length = cs.length := by rw [← hps]; simp
  clear hps
  generalize w.alloc (.cells (flat ps0).toArray 42) = w0 at hb0 hB0 hst ⊢
  have HI : Hid (Filling 42 OwnCon w w.heap.size cs 0 w0) := ⟨ps0, fun _ _ => False, hlen, by unfold Pairs; rw [List.append_nil]; exact hb0, ⟨fun j hj => absurd hj (Nat.not_lt_zero _), fun i j _ hj => absurd hj (Nat.not_lt_zero _), fun j x p hj => absurd hj (Nat.not_lt_zero _)⟩, hB0, by omega⟩
  clear hb0 hB0 hst hlen
  generalize hn : cs.length = n at *
  have HN := Lib.hid hn
  clear hn
  go_loopw [4] (fun i wr => ∃ k : Nat, k ≤ n ∧ i = .int .i64 k ∧ Hid (Filling 42 OwnCon w w.heap.size cs k wr)) (fun i _ => n - (intOf i).toNat)
  case atStart => exact ⟨0, Nat.zero_le _, rfl, HI⟩
  case round =>
    obtain ⟨k, hk, rfl, hF⟩ := hrel
    by_cases hlt : k < n
    · have hk' : k < cs.length := by rw [HN.out]; exact hlt
      obtain ⟨y, u, v, rfl, hc0, hc1, hr⟩ := row2_below con_below HX.out hF.out.below k hk'
      have H := toCon_any wr cs[k] u v hr (HS.out _ (List.getElem_mem hk'))
      clear hr
      go_wp2_with fail
      refine H.mono ?_
      clear H
      rintro e w1 ⟨⟨u', v', rfl, ho⟩, hb1⟩
      have ho2 := ho
      obtain ⟨rfl, a2, cap2, rfl, _⟩ := ho2
      obtain ⟨x0, y0, q1, q2, q3, q4, hF2⟩ := Filling.step keeps_con hF.out hk' ho hb1
      have HF2 := Lib.hid hF2
      clear hF2 ho hb1
      go_wp2
      go_roundw
      case rel => exact ⟨k + 1, by omega, by go_num, HF2⟩
      case measure => simp [intOf]; omega
    · obtain rfl : k = n := by omega
      go_wp2
      go_ret
      refine ⟨⟨_, rfl, ?_⟩, hF.out.below⟩
      rw [← HN.out] at hF ⊢
      exact hF.out.done _

set_option maxHeartbeats 1000000 in
set_option maxRecDepth 100000 in
theorem toTypeDecl_any (w : World) (c : TypeD) (u v : Value) (hx : TypeAt w c u v) (hm : c.cons.length ≤ 1048576) (hm2 : ∀ d ∈ c.cons, d.args.length ≤ 1048576) :
    Calls Try.prog 49 #[.agg #[u, v]] w fun e w' => (∃ u' v', e = .returned (.agg #[u', v']) ∧ OwnType (Came w w') w' c u' v') ∧ Below w.heap.size w w' := by
  obtain ⟨a, cap, rfl, rfl, hr⟩ := hx
  have HR := Lib.hid hr
  clear hr
  obtain ⟨w3, h3⟩ : ∃ w3, w3 = ((w.alloc (.cells #[.string c.name, .slice a c.cons.length cap] 69)).alloc (.cells #[.string ⟨#[]⟩, .slice none 0 0] 28)).alloc (.cells #[.string c.name, .slice none 0 0] 28) := ⟨_, rfl⟩
  have h := three w (.cells #[.string c.name, .slice a c.cons.length cap] 69) (.cells #[.string ⟨#[]⟩, .slice none 0 0] 28) (.cells #[.string c.name, .slice none 0 0] 28)
  rw [← h3] at h
  obtain ⟨hs3, hp1, hp2, hB⟩ := h
  have HB := Lib.hid hB
  have HS := Lib.hid hs3
  have HP1 := Lib.hid hp1
  have HP2 := Lib.hid hp2
  have H3 := Lib.hid h3
  clear hB hs3 hp1 hp2 h3
  go_enter Try.func49, Try.ntmps49
  go_wp2_with fail
  rw [← H3.out]
  refine (toConS_any w3 a cap c.cons (row2_below con_below HR.out HB.out) hm hm2).mono ?_
  rintro e w1 ⟨⟨v1, rfl, hO⟩, hb1⟩
  have hs := HS.out
  have hO2 := hO
  obtain ⟨a2, cap2, rfl, _⟩ := hO2
  have HO := Lib.hid hO
  clear hO
  have hr1 := (hb1.block (w.heap.size + 1) (by omega)).trans HP1.out
  have HR1 := Lib.hid hr1
  obtain ⟨q1, q2, q3, q4⟩ := two_cells hr1
  obtain ⟨q5, q6, q7, q8⟩ := two_cells ((hb1.block (w.heap.size + 1 + 1) (by omega)).trans HP2.out)
  have HB1 : Hid (Below w.heap.size w w1) := HB.out.trans (hb1.mono (by omega))
  clear hb1 HB HP1 HP2 hr1
  go_wp2
  have hz1 : (w1.setCell ⟨w.heap.size + 1 + 1, 1, none⟩ (.slice a2 c.cons.length cap2)).heap[w.heap.size + 1]? = some (.cells #[.string ⟨#[]⟩, .slice none 0 0] 28 (0, 0)) := by
    rw [Below.heap_setCell _ _ _ _ (by show w.heap.size + 1 ≠ w.heap.size + 1 + 1; omega)]
    exact HR1.out
  refine bodyPost_ret (results_cell_row rfl _ _ (w.heap.size + 1) _ _ _ _ rfl (two_set (two_set hz1 _).1 _).2 Try.underlying28 rfl (by kernel_rfl)) rfl ?_
  refine ⟨⟨_, _, rfl, rfl, (HO.out.keep keeps_con ?_).wider ?_⟩, ((HB1.out.setCell (by show _ ≤ w.heap.size + 1 + 1; omega) _).setCell (by show _ ≤ w.heap.size + 1; omega) _).setCell (by show _ ≤ w.heap.size + 1; omega) _⟩
  · intro b hb
    obtain ⟨hb1, hb2⟩ := hb
    rw [Below.heap_setCell _ _ _ _ (by show b ≠ w.heap.size + 1; omega), Below.heap_setCell _ _ _ _ (by show b ≠ w.heap.size + 1; omega), Below.heap_setCell _ _ _ _ (by show b ≠ w.heap.size + 1 + 1; omega)]
  · intro b hb
    obtain ⟨hb1, hb2⟩ := hb
    exact ⟨by omega, by simpa [World.setCell] using hb2⟩

theorem zero_TypeDecl : ∃ i, Try.prog.info? 28 = some i ∧ i.zero = some (.agg #[.string ⟨#[]⟩, .slice none 0 0]) ∧ i.size = 2 ∧ i.bytes = 40 := by
  have hi : (Try.prog.info? 28).map (fun i => (i.zero, i.size, i.bytes)) = some (some (.agg #[.string ⟨#[]⟩, .slice none 0 0]), 2, 40) := by kernel_rfl
  obtain ⟨i0, hi, hz0, hz1, hz2⟩ := info_parts hi
  exact ⟨i0, hi, hz0, hz1, hz2⟩
theorem make_TypeDecl (n : Nat) (hn : n ≤ 1048576) (W : World) :
    (Instr.makeSlice 31 (.int .i64 (n : Int)) (.int .i64 (n : Int))).run Try.prog W = .ok (.slice (some ⟨W.heap.size, 0, none⟩) n n) (W.alloc (.cells (flat (List.replicate n (Value.string ⟨#[]⟩, Value.slice none 0 0))).toArray 28)) := by
  obtain ⟨i0, hi, hz0, hz1, hz2⟩ := zero_TypeDecl
  have hr := run_make (P := Try.prog) W 31 28 i0 _ Try.underlying31 hi hz0 .i64 .i64 n n (by omega) (by omega) (by rw [hz2]; omega) (by omega)
  rw [hr]
  simp only [Int.toNat_natCast]
  rw [hz1, made_flat]

set_option maxHeartbeats 1000000 in
set_option maxRecDepth 100000 in
theorem toTypeDeclS_any (w : World) (a : Option Addr) (cap : Nat) (cs : List TypeD) (hx : Row2 TypeAt w a cs) (hm : cs.length ≤ 1048576) (hs : ∀ c ∈ cs, c.cons.length ≤ 1048576 ∧ ∀ d ∈ c.cons, d.args.length ≤ 1048576) :
    Calls Try.prog 27 #[.slice a cs.length cap] w fun e w' => (∃ v, e = .returned v ∧ Own2 28 OwnType (Came w w') w' v cs) ∧ Below w.heap.size w w' := by
  have hmk := make_TypeDecl cs.length hm
  have HX := Lib.hid hx
  have HS := Lib.hid hs
  clear hx hs
  go_enter Try.func27, Try.ntmps27
  go_wp2
  clear hmk
  generalize hps : List.replicate cs.length (Value.string ⟨#[]⟩, Value.slice none 0 0) = ps0
  have hb0 := heap_at_new w (.cells (flat ps0).toArray 28)
  have hB0 : Below w.heap.size w (w.alloc (.cells (flat ps0).toArray 28)) := (Below.refl _ _).alloc (Nat.le_refl _) _
  have hst : (w.alloc (.cells (flat ps0).toArray 28)).heap.size = w.heap.size + 1 := Array.size_push _
  have hlen : ps0.length = cs.length := by rw [← hps]; simp
  clear hps
  generalize w.alloc (.cells (flat ps0).toArray 28) = w0 at hb0 hB0 hst ⊢
  have HI : Hid (Filling 28 OwnType w w.heap.size cs 0 w0) := ⟨ps0, fun _ _ => False, hlen, by unfold Pairs; rw [List.append_nil]; exact hb0, ⟨fun j hj => absurd hj (Nat.not_lt_zero _), fun i j _ hj => absurd hj (Nat.not_lt_zero _), fun j x p hj => absurd hj (Nat.not_lt_zero _)⟩, hB0, by omega⟩
  clear hb0 hB0 hst hlen
  generalize hn : cs.length = n at *
  have HN := Lib.hid hn
  clear hn
  go_loopw [4] (fun i wr => ∃ k : Nat, k ≤ n ∧ i = .int .i64 k ∧ Hid (Filling 28 OwnType w w.heap.size cs k wr)) (fun i _ => n - (intOf i).toNat)
  case atStart => exact ⟨0, Nat.zero_le _, rfl, HI⟩
  case round =>
    obtain ⟨k, hk, rfl, hF⟩ := hrel
    by_cases hlt : k < n
    · have hk' : k < cs.length := by rw [HN.out]; exact hlt
      obtain ⟨y, u, v, rfl, hc0, hc1, hr⟩ := row2_below type_below HX.out hF.out.below k hk'
      have H := toTypeDecl_any wr cs[k] u v hr (HS.out _ (List.getElem_mem hk')).1 (HS.out _ (List.getElem_mem hk')).2
      clear hr
      go_wp2_with fail
      refine H.mono ?_
      clear H
      rintro e w1 ⟨⟨u', v', rfl, ho⟩, hb1⟩
      have ho2 := ho
      obtain ⟨rfl, a2, cap2, rfl, _⟩ := ho2
      obtain ⟨x0, y0, q1, q2, q3, q4, hF2⟩ := Filling.step keeps_type hF.out hk' ho hb1
      have HF2 := Lib.hid hF2
      clear hF2 ho hb1
      go_wp2
      go_roundw
      case rel => exact ⟨k + 1, by omega, by go_num, HF2⟩
      case measure => simp [intOf]; omega
    · obtain rfl : k = n := by omega
      go_wp2
      go_ret
      refine ⟨⟨_, rfl, ?_⟩, hF.out.below⟩
      rw [← HN.out] at hF ⊢
      exact hF.out.done _

set_option maxHeartbeats 1000000 in
set_option maxRecDepth 100000 in
theorem toSig_any (w : World) (a : Option Addr) (cap : Nat) (s : List TypeD) (hx : Row2 TypeAt w a s) (hm : s.length ≤ 1048576) (hs : ∀ c ∈ s, c.cons.length ≤ 1048576 ∧ ∀ d ∈ c.cons, d.args.length ≤ 1048576) :
    Calls Try.prog 9 #[.agg #[.slice a s.length cap]] w fun e w' => (∃ v, e = .returned (.agg #[v]) ∧ OwnSig (Came w w') w' v s) ∧ Below w.heap.size w w' := by
  have HR := Lib.hid hx
  have HM := Lib.hid hm
  have HS2 := Lib.hid hs
  clear hx hm hs
  obtain ⟨w3, h3⟩ : ∃ w3, w3 = ((w.alloc (.cells #[.slice a s.length cap] 24)).alloc (.cells #[.slice none 0 0] 33)).alloc (.cells #[.slice none 0 0] 33) := ⟨_, rfl⟩
  have h := three w (.cells #[.slice a s.length cap] 24) (.cells #[.slice none 0 0] 33) (.cells #[.slice none 0 0] 33)
  rw [← h3] at h
  obtain ⟨hs3, hp1, hp2, hB⟩ := h
  have HB := Lib.hid hB
  have HS := Lib.hid hs3
  have HP1 := Lib.hid hp1
  have HP2 := Lib.hid hp2
  have H3 := Lib.hid h3
  clear hB hs3 hp1 hp2 h3
  go_enter Try.func9, Try.ntmps9
  go_wp2_with fail
  rw [← H3.out]
  refine (toTypeDeclS_any w3 a cap s (row2_below type_below HR.out HB.out) HM.out HS2.out).mono ?_
  rintro e w1 ⟨⟨v1, rfl, hO⟩, hb1⟩
  have hs := HS.out
  have hO2 := hO
  obtain ⟨a2, cap2, rfl, _⟩ := hO2
  have HO := Lib.hid hO
  clear hO
  have hr1 := (hb1.block (w.heap.size + 1) (by omega)).trans HP1.out
  have HR1 := Lib.hid hr1
  obtain ⟨q1, q3⟩ := one_cell hr1
  obtain ⟨q5, q7⟩ := one_cell ((hb1.block (w.heap.size + 1 + 1) (by omega)).trans HP2.out)
  have HB1 : Hid (Below w.heap.size w w1) := HB.out.trans (hb1.mono (by omega))
  clear hb1 HB HP1 HP2 hr1
  go_wp2
  have hz1 : (w1.setCell ⟨w.heap.size + 1 + 1, 0, none⟩ (.slice a2 s.length cap2)).heap[w.heap.size + 1]? = some (.cells #[.slice none 0 0] 33 (0, 0)) := by
    rw [Below.heap_setCell _ _ _ _ (by show w.heap.size + 1 ≠ w.heap.size + 1 + 1; omega)]
    exact HR1.out
  refine bodyPost_ret (results_cell_row rfl _ _ (w.heap.size + 1) _ _ _ _ rfl (one_set hz1 _) Try.underlying33 rfl (by kernel_rfl)) rfl ?_
  refine ⟨⟨_, rfl, (HO.out.keep keeps_type ?_).wider ?_⟩, (HB1.out.setCell (by show _ ≤ w.heap.size + 1 + 1; omega) _).setCell (by show _ ≤ w.heap.size + 1; omega) _⟩
  · intro b hb
    obtain ⟨hb1, hb2⟩ := hb
    rw [Below.heap_setCell _ _ _ _ (by show b ≠ w.heap.size + 1; omega), Below.heap_setCell _ _ _ _ (by show b ≠ w.heap.size + 1 + 1; omega)]
  · intro b hb
    obtain ⟨hb1, hb2⟩ := hb
    exact ⟨by omega, by simpa [World.setCell] using hb2⟩
end Go.Proofs.Ytcmpaccpdjcocaa
