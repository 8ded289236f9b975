/- What is proved here: a piece of the proof of YtlbmohdebbapgaaGreatExactIsValueOf (SigMake, SpecCon, SpecType, Shelf). Condition: none beyond what each part says. -/
import Derived.Test.YtlbmohdebbapgaaGreatIvA02
import Derived.Test.YtlbmohdebbapgaaGreatIvA01
import Derived.Laws.Rows
import Derived.Deep.AppendLies
import Derived.Deep.RegionLaw
import Derived.Shelf.Small.Bits
import Derived.Shelf.Strconv.Itoa0
import Derived.Shelf.Sort.Plain
import Derived.Ground.Names2Prog
import Derived.Shelf.Slices.Clone
import Derived.Shelf.Slices.CompactS
import Derived.Shelf.Slices.Cells
import Derived.Shelf.Slices.In.SortNone
import Derived.Ground.SlgnProg
import Derived.Shelf.SlicesE.Clone
import Derived.Test.YtlbmohdebbapgaaGreatProg

/- What is proved here: the laws' copy of a signature (toSignature and what it calls) is the same signature in memory of its own. Condition: it lies in memory as said, and is small. -/
section
namespace Go.Proofs.YtlbmohdebbapgaaGreat
open Go.RowKit

theorem own_new {w w' : World} {g : Nat} {xs : List ByteArray} (hg : w.heap.size ≤ g) (h : w'.heap[g]? = some (.cells (xs.map Value.string).toArray 9 (0, 0))) : OwnS (Came w w') w' (.slice (some ⟨g, 0, none⟩) xs.length xs.length) xs := by
  have hb : Block w' g xs [] := by unfold Block; rw [List.append_nil]; exact h
  exact ⟨_, _, rfl, .inr ⟨g, [], rfl, ⟨hg, hb.lt⟩, hb⟩⟩
/-- A struct of two fields in a block of the call's own. -/
theorem two_cells {w : World} {b : Nat} {x y : Value} {T : TypeId} (h : w.heap[b]? = some (.cells #[x, y] T (0, 0))) : w.cell? ⟨b, 0, none⟩ = some x ∧ w.cell? ⟨b, 1, none⟩ = some y ∧ w.frozen? ⟨b, 0, none⟩ = false ∧ w.frozen? ⟨b, 1, none⟩ = false := by
  refine ⟨?_, ?_, ?_, ?_⟩ <;> simp [World.cell?, World.frozen?, h]
theorem one_cell {w : World} {b : Nat} {x : Value} {T : TypeId} (h : w.heap[b]? = some (.cells #[x] T (0, 0))) : w.cell? ⟨b, 0, none⟩ = some x ∧ w.frozen? ⟨b, 0, none⟩ = false := by
  refine ⟨?_, ?_⟩ <;> simp [World.cell?, World.frozen?, h]
theorem one_set {w : World} {b : Nat} {x : Value} {T : TypeId} (h : w.heap[b]? = some (.cells #[x] T (0, 0))) (v : Value) : (w.setCell ⟨b, 0, none⟩ v).heap[b]? = some (.cells #[v] T (0, 0)) := by
  simp [World.setCell, Array.getElem?_modify, h]
theorem two_set {w : World} {b : Nat} {x y : Value} {T : TypeId} (h : w.heap[b]? = some (.cells #[x, y] T (0, 0))) (v : Value) : (w.setCell ⟨b, 0, none⟩ v).heap[b]? = some (.cells #[v, y] T (0, 0)) ∧ (w.setCell ⟨b, 1, none⟩ v).heap[b]? = some (.cells #[x, v] T (0, 0)) := by
  constructor <;> simp [World.setCell, Array.getElem?_modify, h]
theorem three (w : World) (o0 o1 o2 : Obj) : (((w.alloc o0).alloc o1).alloc o2).heap.size = w.heap.size + 3 ∧ (((w.alloc o0).alloc o1).alloc o2).heap[w.heap.size + 1]? = some o1 ∧ (((w.alloc o0).alloc o1).alloc o2).heap[w.heap.size + 1 + 1]? = some o2 ∧ Below w.heap.size w (((w.alloc o0).alloc o1).alloc o2) := by
  have s1 : (w.alloc o0).heap.size = w.heap.size + 1 := Array.size_push _
  have s2 : ((w.alloc o0).alloc o1).heap.size = (w.alloc o0).heap.size + 1 := Array.size_push _
  have s3 : (((w.alloc o0).alloc o1).alloc o2).heap.size = ((w.alloc o0).alloc o1).heap.size + 1 := Array.size_push _
  have e1 := heap_at_new (w.alloc o0) o1
  have e2 := heap_at_new ((w.alloc o0).alloc o1) o2
  rw [s1] at e1
  rw [s2, s1] at e2
  refine ⟨by omega, ?_, e2, (((Below.refl _ _).alloc (Nat.le_refl _) _).alloc (by omega) _).alloc (by omega) _⟩
  rw [Below.heap_alloc _ _ _ (by omega)]
  exact e1
theorem made_flat (n : Nat) (u v : Value) : madeCells (Value.agg #[u, v]).cells (n * 2) = (flat (List.replicate n (u, v))).toArray := by
  apply Array.ext
  · simp [madeCells, flat_length]; omega
  · intro i h1 h2
    have hi : i < n * 2 := by simpa [madeCells] using h1
    have hf := flat_at (List.replicate n (u, v)) [] (i / 2) (u, v) (by rw [List.getElem?_replicate, if_pos (by omega)])
    rw [List.append_nil] at hf
    rcases Nat.mod_two_eq_zero_or_one i with h | h
    · have e : i / 2 * 2 = i := by omega
      rw [e] at hf
      have := hf.1
      simp [madeCells, Value.cells, h]
      rw [List.getElem?_eq_some_iff] at this
      obtain ⟨h3, h4⟩ := this
      exact h4.symm
    · have e : i / 2 * 2 + 1 = i := by omega
      rw [e] at hf
      have := hf.2
      simp [madeCells, Value.cells, h]
      rw [List.getElem?_eq_some_iff] at this
      obtain ⟨h3, h4⟩ := this
      exact h4.symm
theorem toStringS_any (w : World) (a : Option Addr) (cap : Nat) (xs : List ByteArray) (hx : Reads w a xs) (hm : xs.length ≤ 1048576) :
    Calls Tryz.prog 109 #[.slice a xs.length cap] w fun e w' => (∃ v, e = .returned v ∧ OwnS (Came w w') w' v xs) ∧ Below w.heap.size w w' := by
  refine (toS_any w a cap xs hx hm).mono ?_
  rintro e w1 ⟨g, hg, rfl, hc, hb⟩
  exact ⟨⟨_, rfl, own_new hg hc⟩, hb⟩

set_option maxHeartbeats 1000000 in
set_option maxRecDepth 100000 in
theorem toCon_any (w : World) (c : ConD) (u v : Value) (hx : ConAt w c u v) (hm : c.args.length ≤ 1048576) :
    Calls Tryz.prog 95 #[.agg #[u, v]] w fun e w' => (∃ u' v', e = .returned (.agg #[u', v']) ∧ OwnCon (Came w w') w' c u' v') ∧ Below w.heap.size w w' := by
  obtain ⟨a, cap, rfl, rfl, hr⟩ := hx
  have HR := Lib.hid hr
  clear hr
  obtain ⟨w3, h3⟩ : ∃ w3, w3 = ((w.alloc (.cells #[.string c.name, .slice a c.args.length cap] 125)).alloc (.cells #[.string ⟨#[]⟩, .slice none 0 0] 73)).alloc (.cells #[.string c.name, .slice none 0 0] 73) := ⟨_, rfl⟩
  have h := three w (.cells #[.string c.name, .slice a c.args.length cap] 125) (.cells #[.string ⟨#[]⟩, .slice none 0 0] 73) (.cells #[.string c.name, .slice none 0 0] 73)
  rw [← h3] at h
  obtain ⟨hs3, hp1, hp2, hB⟩ := h
  have HB := Lib.hid hB
  have HS := Lib.hid hs3
  have HP1 := Lib.hid hp1
  have HP2 := Lib.hid hp2
  have H3 := Lib.hid h3
  clear hB hs3 hp1 hp2 h3
  go_enter Tryz.func95, Tryz.ntmps95
  go_wp2_with fail
  rw [← H3.out]
  refine (toStringS_any w3 a cap c.args (reads_below HR.out HB.out) hm).mono ?_
  rintro e w1 ⟨⟨v1, rfl, hO⟩, hb1⟩
  have hs := HS.out
  have hO2 := hO
  obtain ⟨a2, cap2, rfl, _⟩ := hO2
  have HO := Lib.hid hO
  clear hO
  have hr1 := (hb1.block (w.heap.size + 1) (by omega)).trans HP1.out
  have HR1 := Lib.hid hr1
  obtain ⟨q1, q2, q3, q4⟩ := two_cells hr1
  obtain ⟨q5, q6, q7, q8⟩ := two_cells ((hb1.block (w.heap.size + 1 + 1) (by omega)).trans HP2.out)
  have HB1 : Hid (Below w.heap.size w w1) := HB.out.trans (hb1.mono (by omega))
  clear hb1 HB HP1 HP2 hr1
  go_wp2
  have hz1 : (w1.setCell ⟨w.heap.size + 1 + 1, 1, none⟩ (.slice a2 c.args.length cap2)).heap[w.heap.size + 1]? = some (.cells #[.string ⟨#[]⟩, .slice none 0 0] 73 (0, 0)) := by
    rw [Below.heap_setCell _ _ _ _ (by show w.heap.size + 1 ≠ w.heap.size + 1 + 1; omega)]
    exact HR1.out
  refine bodyPost_ret (results_cell_row rfl _ _ (w.heap.size + 1) _ _ _ _ rfl (two_set (two_set hz1 _).1 _).2 Tryz.underlying73 rfl (by kernel_rfl)) rfl ?_
  refine ⟨⟨_, _, rfl, rfl, (HO.out.keep ?_).wider ?_⟩, ((HB1.out.setCell (by show _ ≤ w.heap.size + 1 + 1; omega) _).setCell (by show _ ≤ w.heap.size + 1; omega) _).setCell (by show _ ≤ w.heap.size + 1; omega) _⟩
  · intro b hb
    obtain ⟨hb1, hb2⟩ := hb
    rw [Below.heap_setCell _ _ _ _ (by show b ≠ w.heap.size + 1; omega), Below.heap_setCell _ _ _ _ (by show b ≠ w.heap.size + 1; omega), Below.heap_setCell _ _ _ _ (by show b ≠ w.heap.size + 1 + 1; omega)]
  · intro b hb
    obtain ⟨hb1, hb2⟩ := hb
    exact ⟨by omega, by simpa [World.setCell] using hb2⟩

theorem zero_Con : ∃ i, Tryz.prog.info? 73 = some i ∧ i.zero = some (.agg #[.string ⟨#[]⟩, .slice none 0 0]) ∧ i.size = 2 ∧ i.bytes = 40 := by
  have hi : (Tryz.prog.info? 73).map (fun i => (i.zero, i.size, i.bytes)) = some (some (.agg #[.string ⟨#[]⟩, .slice none 0 0]), 2, 40) := by kernel_rfl
  obtain ⟨i0, hi, hz0, hz1, hz2⟩ := info_parts hi
  exact ⟨i0, hi, hz0, hz1, hz2⟩
theorem make_Con (n : Nat) (hn : n ≤ 1048576) (W : World) :
    (Instr.makeSlice 69 (.int .i64 (n : Int)) (.int .i64 (n : Int))).run Tryz.prog W = .ok (.slice (some ⟨W.heap.size, 0, none⟩) n n) (W.alloc (.cells (flat (List.replicate n (Value.string ⟨#[]⟩, Value.slice none 0 0))).toArray 73)) := by
  obtain ⟨i0, hi, hz0, hz1, hz2⟩ := zero_Con
  have hr := run_make (P := Tryz.prog) W 69 73 i0 _ Tryz.underlying69 hi hz0 .i64 .i64 n n (by omega) (by omega) (by rw [hz2]; omega) (by omega)
  rw [hr]
  simp only [Int.toNat_natCast]
  rw [hz1, made_flat]

set_option maxHeartbeats 1000000 in
set_option maxRecDepth 100000 in
theorem toConS_any (w : World) (a : Option Addr) (cap : Nat) (cs : List ConD) (hx : Row2 ConAt w a cs) (hm : cs.length ≤ 1048576) (hs : ∀ c ∈ cs, c.args.length ≤ 1048576) :
    Calls Tryz.prog 73 #[.slice a cs.length cap] w fun e w' => (∃ v, e = .returned v ∧ Own2 73 OwnCon (Came w w') w' v cs) ∧ Below w.heap.size w w' := by
  have hmk := make_Con cs.length hm
  have HX := Lib.hid hx
  have HS := Lib.hid hs
  clear hx hs
  go_enter Tryz.func73, Tryz.ntmps73
  go_wp2
  clear hmk
  generalize hps : List.replicate cs.length (Value.string ⟨#[]⟩, Value.slice none 0 0) = ps0
  have hb0 := heap_at_new w (.cells (flat ps0).toArray 73)
  have hB0 : Below w.heap.size w (w.alloc (.cells (flat ps0).toArray 73)) := (Below.refl _ _).alloc (Nat.le_refl _) _
  have hst : (w.alloc (.cells (flat ps0).toArray 73)).heap.size = w.heap.size + 1 := Array.size_push _
  have hlen : ps0.length = cs.length := by rw [← hps]; simp
  clear hps
  generalize w.alloc (.cells (flat ps0).toArray 73) = w0 at hb0 hB0 hst ⊢
  have HI : Hid (Filling 73 OwnCon w w.heap.size cs 0 w0) := ⟨ps0, fun _ _ => False, hlen, by unfold Pairs; rw [List.append_nil]; exact hb0, ⟨fun j hj => absurd hj (Nat.not_lt_zero _), fun i j _ hj => absurd hj (Nat.not_lt_zero _), fun j x p hj => absurd hj (Nat.not_lt_zero _)⟩, hB0, by omega⟩
  clear hb0 hB0 hst hlen
  generalize hn : cs.length = n at *
  have HN := Lib.hid hn
  clear hn
  go_loopw [4] (fun i wr => ∃ k : Nat, k ≤ n ∧ i = .int .i64 k ∧ Hid (Filling 73 OwnCon w w.heap.size cs k wr)) (fun i _ => n - (intOf i).toNat)
  case atStart => exact ⟨0, Nat.zero_le _, rfl, HI⟩
  case round =>
    obtain ⟨k, hk, rfl, hF⟩ := hrel
    by_cases hlt : k < n
    · have hk' : k < cs.length := by rw [HN.out]; exact hlt
      obtain ⟨y, u, v, rfl, hc0, hc1, hr⟩ := row2_below con_below HX.out hF.out.below k hk'
      have H := toCon_any wr cs[k] u v hr (HS.out _ (List.getElem_mem hk'))
      clear hr
      go_wp2_with fail
      refine H.mono ?_
      clear H
      rintro e w1 ⟨⟨u', v', rfl, ho⟩, hb1⟩
      have ho2 := ho
      obtain ⟨rfl, a2, cap2, rfl, _⟩ := ho2
      obtain ⟨x0, y0, q1, q2, q3, q4, hF2⟩ := Filling.step keeps_con hF.out hk' ho hb1
      have HF2 := Lib.hid hF2
      clear hF2 ho hb1
      go_wp2
      go_roundw
      case rel => exact ⟨k + 1, by omega, by go_num, HF2⟩
      case measure => simp [intOf]; omega
    · obtain rfl : k = n := by omega
      go_wp2
      go_ret
      refine ⟨⟨_, rfl, ?_⟩, hF.out.below⟩
      rw [← HN.out] at hF ⊢
      exact hF.out.done _

set_option maxHeartbeats 1000000 in
set_option maxRecDepth 100000 in
theorem toTypeDecl_any (w : World) (c : TypeD) (u v : Value) (hx : TypeAt w c u v) (hm : c.cons.length ≤ 1048576) (hm2 : ∀ d ∈ c.cons, d.args.length ≤ 1048576) :
    Calls Tryz.prog 46 #[.agg #[u, v]] w fun e w' => (∃ u' v', e = .returned (.agg #[u', v']) ∧ OwnType (Came w w') w' c u' v') ∧ Below w.heap.size w w' := by
  obtain ⟨a, cap, rfl, rfl, hr⟩ := hx
  have HR := Lib.hid hr
  clear hr
  obtain ⟨w3, h3⟩ : ∃ w3, w3 = ((w.alloc (.cells #[.string c.name, .slice a c.cons.length cap] 66)).alloc (.cells #[.string ⟨#[]⟩, .slice none 0 0] 71)).alloc (.cells #[.string c.name, .slice none 0 0] 71) := ⟨_, rfl⟩
  have h := three w (.cells #[.string c.name, .slice a c.cons.length cap] 66) (.cells #[.string ⟨#[]⟩, .slice none 0 0] 71) (.cells #[.string c.name, .slice none 0 0] 71)
  rw [← h3] at h
  obtain ⟨hs3, hp1, hp2, hB⟩ := h
  have HB := Lib.hid hB
  have HS := Lib.hid hs3
  have HP1 := Lib.hid hp1
  have HP2 := Lib.hid hp2
  have H3 := Lib.hid h3
  clear hB hs3 hp1 hp2 h3
  go_enter Tryz.func46, Tryz.ntmps46
  go_wp2_with fail
  rw [← H3.out]
  refine (toConS_any w3 a cap c.cons (row2_below con_below HR.out HB.out) hm hm2).mono ?_
  rintro e w1 ⟨⟨v1, rfl, hO⟩, hb1⟩
  have hs := HS.out
  have hO2 := hO
  obtain ⟨a2, cap2, rfl, _⟩ := hO2
  have HO := Lib.hid hO
  clear hO
  have hr1 := (hb1.block (w.heap.size + 1) (by omega)).trans HP1.out
  have HR1 := Lib.hid hr1
  obtain ⟨q1, q2, q3, q4⟩ := two_cells hr1
  obtain ⟨q5, q6, q7, q8⟩ := two_cells ((hb1.block (w.heap.size + 1 + 1) (by omega)).trans HP2.out)
  have HB1 : Hid (Below w.heap.size w w1) := HB.out.trans (hb1.mono (by omega))
  clear hb1 HB HP1 HP2 hr1
  go_wp2
  have hz1 : (w1.setCell ⟨w.heap.size + 1 + 1, 1, none⟩ (.slice a2 c.cons.length cap2)).heap[w.heap.size + 1]? = some (.cells #[.string ⟨#[]⟩, .slice none 0 0] 71 (0, 0)) := by
    rw [Below.heap_setCell _ _ _ _ (by show w.heap.size + 1 ≠ w.heap.size + 1 + 1; omega)]
    exact HR1.out
  refine bodyPost_ret (results_cell_row rfl _ _ (w.heap.size + 1) _ _ _ _ rfl (two_set (two_set hz1 _).1 _).2 Tryz.underlying71 rfl (by kernel_rfl)) rfl ?_
  refine ⟨⟨_, _, rfl, rfl, (HO.out.keep keeps_con ?_).wider ?_⟩, ((HB1.out.setCell (by show _ ≤ w.heap.size + 1 + 1; omega) _).setCell (by show _ ≤ w.heap.size + 1; omega) _).setCell (by show _ ≤ w.heap.size + 1; omega) _⟩
  · intro b hb
    obtain ⟨hb1, hb2⟩ := hb
    rw [Below.heap_setCell _ _ _ _ (by show b ≠ w.heap.size + 1; omega), Below.heap_setCell _ _ _ _ (by show b ≠ w.heap.size + 1; omega), Below.heap_setCell _ _ _ _ (by show b ≠ w.heap.size + 1 + 1; omega)]
  · intro b hb
    obtain ⟨hb1, hb2⟩ := hb
    exact ⟨by omega, by simpa [World.setCell] using hb2⟩

theorem zero_TypeDecl : ∃ i, Tryz.prog.info? 71 = some i ∧ i.zero = some (.agg #[.string ⟨#[]⟩, .slice none 0 0]) ∧ i.size = 2 ∧ i.bytes = 40 := by
  have hi : (Tryz.prog.info? 71).map (fun i => (i.zero, i.size, i.bytes)) = some (some (.agg #[.string ⟨#[]⟩, .slice none 0 0]), 2, 40) := by kernel_rfl
  obtain ⟨i0, hi, hz0, hz1, hz2⟩ := info_parts hi
  exact ⟨i0, hi, hz0, hz1, hz2⟩
theorem make_TypeDecl (n : Nat) (hn : n ≤ 1048576) (W : World) :
    (Instr.makeSlice 31 (.int .i64 (n : Int)) (.int .i64 (n : Int))).run Tryz.prog W = .ok (.slice (some ⟨W.heap.size, 0, none⟩) n n) (W.alloc (.cells (flat (List.replicate n (Value.string ⟨#[]⟩, Value.slice none 0 0))).toArray 71)) := by
  obtain ⟨i0, hi, hz0, hz1, hz2⟩ := zero_TypeDecl
  have hr := run_make (P := Tryz.prog) W 31 71 i0 _ Tryz.underlying31 hi hz0 .i64 .i64 n n (by omega) (by omega) (by rw [hz2]; omega) (by omega)
  rw [hr]
  simp only [Int.toNat_natCast]
  rw [hz1, made_flat]

set_option maxHeartbeats 1000000 in
set_option maxRecDepth 100000 in
theorem toTypeDeclS_any (w : World) (a : Option Addr) (cap : Nat) (cs : List TypeD) (hx : Row2 TypeAt w a cs) (hm : cs.length ≤ 1048576) (hs : ∀ c ∈ cs, c.cons.length ≤ 1048576 ∧ ∀ d ∈ c.cons, d.args.length ≤ 1048576) :
    Calls Tryz.prog 24 #[.slice a cs.length cap] w fun e w' => (∃ v, e = .returned v ∧ Own2 71 OwnType (Came w w') w' v cs) ∧ Below w.heap.size w w' := by
  have hmk := make_TypeDecl cs.length hm
  have HX := Lib.hid hx
  have HS := Lib.hid hs
  clear hx hs
  go_enter Tryz.func24, Tryz.ntmps24
  go_wp2
  clear hmk
  generalize hps : List.replicate cs.length (Value.string ⟨#[]⟩, Value.slice none 0 0) = ps0
  have hb0 := heap_at_new w (.cells (flat ps0).toArray 71)
  have hB0 : Below w.heap.size w (w.alloc (.cells (flat ps0).toArray 71)) := (Below.refl _ _).alloc (Nat.le_refl _) _
  have hst : (w.alloc (.cells (flat ps0).toArray 71)).heap.size = w.heap.size + 1 := Array.size_push _
  have hlen : ps0.length = cs.length := by rw [← hps]; simp
  clear hps
  generalize w.alloc (.cells (flat ps0).toArray 71) = w0 at hb0 hB0 hst ⊢
  have HI : Hid (Filling 71 OwnType w w.heap.size cs 0 w0) := ⟨ps0, fun _ _ => False, hlen, by unfold Pairs; rw [List.append_nil]; exact hb0, ⟨fun j hj => absurd hj (Nat.not_lt_zero _), fun i j _ hj => absurd hj (Nat.not_lt_zero _), fun j x p hj => absurd hj (Nat.not_lt_zero _)⟩, hB0, by omega⟩
  clear hb0 hB0 hst hlen
  generalize hn : cs.length = n at *
  have HN := Lib.hid hn
  clear hn
  go_loopw [4] (fun i wr => ∃ k : Nat, k ≤ n ∧ i = .int .i64 k ∧ Hid (Filling 71 OwnType w w.heap.size cs k wr)) (fun i _ => n - (intOf i).toNat)
  case atStart => exact ⟨0, Nat.zero_le _, rfl, HI⟩
  case round =>
    obtain ⟨k, hk, rfl, hF⟩ := hrel
    by_cases hlt : k < n
    · have hk' : k < cs.length := by rw [HN.out]; exact hlt
      obtain ⟨y, u, v, rfl, hc0, hc1, hr⟩ := row2_below type_below HX.out hF.out.below k hk'
      have H := toTypeDecl_any wr cs[k] u v hr (HS.out _ (List.getElem_mem hk')).1 (HS.out _ (List.getElem_mem hk')).2
      clear hr
      go_wp2_with fail
      refine H.mono ?_
      clear H
      rintro e w1 ⟨⟨u', v', rfl, ho⟩, hb1⟩
      have ho2 := ho
      obtain ⟨rfl, a2, cap2, rfl, _⟩ := ho2
      obtain ⟨x0, y0, q1, q2, q3, q4, hF2⟩ := Filling.step keeps_type hF.out hk' ho hb1
      have HF2 := Lib.hid hF2
      clear hF2 ho hb1
      go_wp2
      go_roundw
      case rel => exact ⟨k + 1, by omega, by go_num, HF2⟩
      case measure => simp [intOf]; omega
    · obtain rfl : k = n := by omega
      go_wp2
      go_ret
      refine ⟨⟨_, rfl, ?_⟩, hF.out.below⟩
      rw [← HN.out] at hF ⊢
      exact hF.out.done _

set_option maxHeartbeats 1000000 in
set_option maxRecDepth 100000 in
theorem toSig_any (w : World) (a : Option Addr) (cap : Nat) (s : List TypeD) (hx : Row2 TypeAt w a s) (hm : s.length ≤ 1048576) (hs : ∀ c ∈ s, c.cons.length ≤ 1048576 ∧ ∀ d ∈ c.cons, d.args.length ≤ 1048576) :
    Calls Tryz.prog 8 #[.agg #[.slice a s.length cap]] w fun e w' => (∃ v, e = .returned (.agg #[v]) ∧ OwnSig (Came w w') w' v s) ∧ Below w.heap.size w w' := by
  have HR := Lib.hid hx
  have HM := Lib.hid hm
  have HS2 := Lib.hid hs
  clear hx hm hs
  obtain ⟨w3, h3⟩ : ∃ w3, w3 = ((w.alloc (.cells #[.slice a s.length cap] 24)).alloc (.cells #[.slice none 0 0] 33)).alloc (.cells #[.slice none 0 0] 33) := ⟨_, rfl⟩
  have h := three w (.cells #[.slice a s.length cap] 24) (.cells #[.slice none 0 0] 33) (.cells #[.slice none 0 0] 33)
  rw [← h3] at h
  obtain ⟨hs3, hp1, hp2, hB⟩ := h
  have HB := Lib.hid hB
  have HS := Lib.hid hs3
  have HP1 := Lib.hid hp1
  have HP2 := Lib.hid hp2
  have H3 := Lib.hid h3
  clear hB hs3 hp1 hp2 h3
  go_enter Tryz.func8, Tryz.ntmps8
  go_wp2_with fail
  rw [← H3.out]
  refine (toTypeDeclS_any w3 a cap s (row2_below type_below HR.out HB.out) HM.out HS2.out).mono ?_
  rintro e w1 ⟨⟨v1, rfl, hO⟩, hb1⟩
  have hs := HS.out
  have hO2 := hO
  obtain ⟨a2, cap2, rfl, _⟩ := hO2
  have HO := Lib.hid hO
  clear hO
  have hr1 := (hb1.block (w.heap.size + 1) (by omega)).trans HP1.out
  have HR1 := Lib.hid hr1
  obtain ⟨q1, q3⟩ := one_cell hr1
  obtain ⟨q5, q7⟩ := one_cell ((hb1.block (w.heap.size + 1 + 1) (by omega)).trans HP2.out)
  have HB1 : Hid (Below w.heap.size w w1) := HB.out.trans (hb1.mono (by omega))
  clear hb1 HB HP1 HP2 hr1
  go_wp2
  have hz1 : (w1.setCell ⟨w.heap.size + 1 + 1, 0, none⟩ (.slice a2 s.length cap2)).heap[w.heap.size + 1]? = some (.cells #[.slice none 0 0] 33 (0, 0)) := by
    rw [Below.heap_setCell _ _ _ _ (by show w.heap.size + 1 ≠ w.heap.size + 1 + 1; omega)]
    exact HR1.out
  refine bodyPost_ret (results_cell_row rfl _ _ (w.heap.size + 1) _ _ _ _ rfl (one_set hz1 _) Tryz.underlying33 rfl (by kernel_rfl)) rfl ?_
  refine ⟨⟨_, rfl, (HO.out.keep keeps_type ?_).wider ?_⟩, (HB1.out.setCell (by show _ ≤ w.heap.size + 1 + 1; omega) _).setCell (by show _ ≤ w.heap.size + 1; omega) _⟩
  · intro b hb
    obtain ⟨hb1, hb2⟩ := hb
    rw [Below.heap_setCell _ _ _ _ (by show b ≠ w.heap.size + 1; omega), Below.heap_setCell _ _ _ _ (by show b ≠ w.heap.size + 1 + 1; omega)]
  · intro b hb
    obtain ⟨hb1, hb2⟩ := hb
    exact ⟨by omega, by simpa [World.setCell] using hb2⟩
end Go.Proofs.YtlbmohdebbapgaaGreat
end

/- What is proved here: the model's copy of a constructor (package spec, l3Con). Condition: it lies in memory as said, and is small. -/
section
namespace Go.Proofs.YtlbmohdebbapgaaGreat
open Go.RowKit

theorem texts_one (xs : List ByteArray) : ∀ u ∈ xs.map Value.string, u.oneCell' = true := by
  intro u hu
  obtain ⟨x, _, rfl⟩ := List.mem_map.1 hu
  rfl
theorem reads_news {w : World} {y : Addr} {xs : List ByteArray} (h : Reads w (some y) xs) : ∀ j u, (xs.map Value.string)[j]? = some u → w.cell? (y.add j) = some u := by
  intro j u hj
  rw [List.getElem?_map] at hj
  by_cases hl : j < xs.length
  · rw [List.getElem?_eq_getElem hl] at hj
    obtain rfl : Value.string xs[j] = u := Option.some.inj hj
    obtain ⟨y', hy, hc⟩ := h j hl
    obtain rfl := Option.some.inj hy
    exact hc
  · rw [List.getElem?_eq_none (by omega)] at hj
    cases hj
theorem three0 (w : World) (o0 o1 o2 : Obj) : (((w.alloc o0).alloc o1).alloc o2).heap[w.heap.size]? = some o0 := by
  have s1 : (w.alloc o0).heap.size = w.heap.size + 1 := Array.size_push _
  have s2 : ((w.alloc o0).alloc o1).heap.size = (w.alloc o0).heap.size + 1 := Array.size_push _
  rw [Below.heap_alloc _ _ _ (by omega), Below.heap_alloc _ _ _ (by omega)]
  exact heap_at_new w o0
theorem three_mid (w : World) (o0 o1 o2 : Obj) : (((w.alloc o0).alloc o1).alloc o2).drew.heap[w.heap.size + 1]? = some o1 := (three w o0 o1 o2).2.1
theorem three_grown {w w3 : World} {o0 o1 : Obj} {p : Prop} (h : w3.heap.size = w.heap.size + 3 ∧ w3.heap[w.heap.size + 1]? = some o1 ∧ p ∧ Below w.heap.size w w3) (h0 : w3.heap[w.heap.size]? = some o0) (w1 : World) (r : Option Nat) (hg : w3.drew.grownBy w1 r) (hr : r = some (w.heap.size + 1 + 1)) : w1.heap[w.heap.size + 1]? = some o1 ∧ w1.heap[w.heap.size]? = some o0 ∧ Below w.heap.size w w1 := by
  obtain ⟨h1, h2, _, h4⟩ := h
  subst hr
  have hs : w3.drew.heap.size = w3.heap.size := rfl
  exact ⟨(hg.block (w.heap.size + 1) (by omega) (fun e => by have := Option.some.inj e; omega)).trans h2, (hg.block w.heap.size (by omega) (fun e => by have := Option.some.inj e; omega)).trans h0, h4.drew.grown hg (by omega) (fun k e => by have := Option.some.inj e; omega)⟩
/-- What 'ownsRow' says of texts. -/
theorem owns_owned {w : World} {B : Nat} {g cap : Nat} {n : Nat} {xs : List ByteArray} (h : w.ownsRow B 9 1 (.slice (some ⟨g, 0, none⟩) n cap) n (xs.map Value.string)) : OwnS (fun b => b = g) w (.slice (some ⟨g, 0, none⟩) n cap) xs := by
  obtain ⟨g2, cap2, rest, hv, _, hb, hn⟩ := block_of_owned h (by intro e; cases e)
  injection hv with h1 h2 h3
  injection h1 with h1
  injection h1 with h1
  subst h1
  subst hn
  exact ⟨_, _, rfl, .inr ⟨g, rest, rfl, rfl, hb⟩⟩

set_option maxHeartbeats 1000000 in
set_option maxRecDepth 100000 in
theorem l3Con_any (w : World) (c : ConD) (u v : Value) (hx : ConAt w c u v) (hm : c.args.length ≤ 1048576) :
    Calls Tryz.prog 72 #[.agg #[u, v]] w fun e w' => (∃ u' v', e = .returned (.agg #[u', v']) ∧ OwnCon (Came w w') w' c u' v') ∧ Below w.heap.size w w' := by
  obtain ⟨a, cap, rfl, rfl, hr⟩ := hx
  by_cases h0 : c.args = []
  · have HR := Lib.hid h0
    have hl : c.args.length = 0 := by simp [h0]
    rw [hl]
    have HL := Lib.hid hl
    clear hr hl h0
    cases a
    all_goals
      go_enter Tryz.func72, Tryz.ntmps72
      go_wp2
      go_region
      go_wp2
      refine bodyPost_ret (results_cell_row rfl _ _ (w.heap.size + 1) _ _ _ _ rfl (three_mid _ _ _ _) Tryz.underlying73 rfl (by kernel_rfl)) rfl ?_
      exact ⟨⟨_, _, rfl, rfl, _, _, by rw [HL.out], .inl HR.out⟩, (three _ _ _ _).2.2.2.drew⟩
  · obtain ⟨y, rfl⟩ : ∃ y, a = some y := by
      obtain ⟨y, hy, _⟩ := hr 0 (List.length_pos_iff.2 h0)
      exact ⟨y, hy⟩
    have hi : (Tryz.prog.info? 9).map (fun i => (i.zero, i.size, i.bytes)) = some (some (.string ⟨#[]⟩), 1, 16) := by kernel_rfl
    obtain ⟨i0, hi, hz0, hz1, hz2⟩ := info_parts hi
    have hpos : 0 < c.args.length := List.length_pos_iff.2 h0
    have h3 := three w (.cells #[.string c.name, .slice (some y) c.args.length cap] 73) (.cells #[.string ⟨#[]⟩, .slice none 0 0] 73) (.cells #[] 9)
    have how := World.ownsRow_made (base := w.heap.size) (e := 9) (size := 1) ((w.alloc (.cells #[.string c.name, .slice (some y) c.args.length cap] 73)).alloc (.cells #[.string ⟨#[]⟩, .slice none 0 0] 73)) #[] 0 (by simp; omega) (by decide) (by simp)
    have hsz : ((w.alloc (.cells #[.string c.name, .slice (some y) c.args.length cap] 73)).alloc (.cells #[.string ⟨#[]⟩, .slice none 0 0] 73)).heap.size = w.heap.size + 1 + 1 := by simp
    rw [hsz] at how
    have HO := Lib.hid how.drew
    have HG := Lib.hid (three_grown h3 (three0 _ _ _ _))
    have H3 := Lib.hid h3
    have HR := Lib.hid hr
    clear h0 h3 hr how hsz
    go_enter Tryz.func72, Tryz.ntmps72
    go_wp2
    go_region_law (first
      | (refine step_append_lies _ rfl _ _ 67 rfl w.heap.size 9 i0 (.string ⟨#[]⟩) 1 16 Tryz.underlying67 hi hz0 hz1 hz2 rfl (by decide) _ 0 [] rfl HO.out y c.args.length cap (c.args.map Value.string) rfl (by simp) (reads_news (reads_below HR.out H3.out.2.2.2.drew)) (texts_one _) hpos (by unfold maxLen; omega) (by omega) (by simp; omega) (w.heap.size + 3) H3.out.1 ?_
         intro g cap2 w1 hown hgrow hat hlt
         obtain ⟨hq, hq0, hb1⟩ := HG.out w1 _ hgrow rfl
         obtain ⟨q5, q6, q7, q8⟩ := two_cells hq0
         obtain ⟨q1, q2, q3, q4⟩ := two_cells hq
         have HQ := Lib.hid hq
         have HB1 := Lib.hid hb1
         rw [Nat.zero_add] at hown
         have HRR := Lib.hid (owns_owned hown)
         have hg : w.heap.size + 1 ≠ g := by
           rcases hat with h | h
           · injection (show some (w.heap.size + 1 + 1) = some g from h) with h
             omega
           · omega
         have hg2 : w.heap.size ≤ g := by
           rcases hat with h | h
           · injection (show some (w.heap.size + 1 + 1) = some g from h) with h
             omega
           · omega
         clear hown hgrow hat hq hq0 hb1))
    all_goals
      go_wp2
      refine bodyPost_ret (results_cell_row rfl _ _ (w.heap.size + 1) _ _ _ _ rfl (two_set (two_set HQ.out _).1 _).2 Tryz.underlying73 rfl (by kernel_rfl)) rfl ?_
      refine ⟨⟨_, _, rfl, rfl, (HRR.out.keep ?_).wider ?_⟩, (HB1.out.setCell (by show _ ≤ w.heap.size + 1; omega) _).setCell (by show _ ≤ w.heap.size + 1; omega) _⟩
      · rintro b rfl
        rw [Below.heap_setCell _ _ _ _ (fun e => hg e.symm), Below.heap_setCell _ _ _ _ (fun e => hg e.symm)]
      · rintro b rfl
        exact ⟨hg2, by simpa [World.setCell] using hlt⟩
end Go.Proofs.YtlbmohdebbapgaaGreat
end

/- What is proved here: the model's copy of a declared type (package spec, l3Type). Condition: it lies in memory as said, and is small. -/
section
namespace Go.Proofs.YtlbmohdebbapgaaGreat
open Go.RowKit

theorem news_two (w : World) (x y : Value) (T : TypeId) (N : Nat) (hN : w.heap.size = N) : ∀ j u, [x, y][j]? = some u → (w.alloc (.cells #[x, y] T)).cell? ((⟨N, 0, none⟩ : Addr).add j) = some u := by
  subst hN
  have h := two_cells (heap_at_new w (.cells #[x, y] T))
  intro j u hj
  match j, hj with
  | 0, hj => simp at hj; subst hj; exact h.1
  | 1, hj => simp at hj; subst hj; exact h.2.1

/-- The copy of a type as it grows: its box, the result's cell, the copy. -/
def Copying (w : World) (t : TypeD) (a : Option Addr) (cap k : Nat) (v : Value) (wr : World) : Prop :=
  wr.heap[w.heap.size]? = some (.cells #[.string t.name, .slice a t.cons.length cap] 71 (0, 0)) ∧ wr.heap[w.heap.size + 1]? = some (.cells #[.string ⟨#[]⟩, .slice none 0 0] 71 (0, 0)) ∧
    wr.heap[w.heap.size + 1 + 1]? = some (.cells #[.string t.name, v] 71 (0, 0)) ∧ Growing 73 OwnCon (w.heap.size + 3) t.cons k v wr ∧ Below w.heap.size w wr

theorem Copying.next {w : World} {t : TypeD} {a : Option Addr} {cap k : Nat} {v v' : Value} {wr w4 : World} (h : Copying w t a cap k v wr) (hG : Growing 73 OwnCon (w.heap.size + 3) t.cons (k + 1) v' w4) (hold : ∀ b, b < w.heap.size + 3 → w4.heap[b]? = wr.heap[b]?)
    (h1 : w4.os = wr.os) (h2 : w4.tape = wr.tape) (h3 : w4.output = wr.output) (h4 : wr.heap.size ≤ w4.heap.size) :
    w4.cell? ⟨w.heap.size + 1 + 1, 1, none⟩ = some v ∧ w4.frozen? ⟨w.heap.size + 1 + 1, 1, none⟩ = false ∧ Copying w t a cap (k + 1) v' (w4.setCell ⟨w.heap.size + 1 + 1, 1, none⟩ v') := by
  obtain ⟨c0, c1, c2, c3, c4⟩ := h
  have d0 := (hold w.heap.size (by omega)).trans c0
  have d1 := (hold (w.heap.size + 1) (by omega)).trans c1
  have d2 := (hold (w.heap.size + 1 + 1) (by omega)).trans c2
  obtain ⟨_, q1, _, q2⟩ := two_cells d2
  refine ⟨q1, q2, ?_, ?_, (two_set d2 _).2, hG.keep keeps_con (by simp [World.setCell]) (fun b hb _ => Below.heap_setCell _ _ _ _ (by show b ≠ w.heap.size + 1 + 1; omega)), Below.setCell (p := ⟨w.heap.size + 1 + 1, 1, none⟩) (c4.trans ⟨h1, h2, h3, h4, fun b hb => hold b (by omega)⟩) (by show w.heap.size ≤ w.heap.size + 1 + 1; omega) _⟩
  · rw [Below.heap_setCell _ _ _ _ (by show w.heap.size ≠ w.heap.size + 1 + 1; omega)]
    exact d0
  · rw [Below.heap_setCell _ _ _ _ (by show w.heap.size + 1 ≠ w.heap.size + 1 + 1; omega)]
    exact d1

set_option maxHeartbeats 1000000 in
set_option maxRecDepth 100000 in
theorem l3Type_any (w : World) (t : TypeD) (u v : Value) (hx : TypeAt w t u v) (hm : t.cons.length ≤ 1048576) (hm2 : ∀ d ∈ t.cons, d.args.length ≤ 1048576) :
    Calls Tryz.prog 83 #[.agg #[u, v]] w fun e w' => (∃ u' v', e = .returned (.agg #[u', v']) ∧ OwnType (Came w w') w' t u' v') ∧ Below w.heap.size w w' := by
  obtain ⟨a, cap, rfl, rfl, hr⟩ := hx
  have HR := Lib.hid hr
  have HS := Lib.hid hm2
  obtain ⟨w3, h3⟩ : ∃ w3, w3 = ((w.alloc (.cells #[.string t.name, .slice a t.cons.length cap] 71)).alloc (.cells #[.string ⟨#[]⟩, .slice none 0 0] 71)).alloc (.cells #[.string t.name, .slice none 0 0] 71) := ⟨_, rfl⟩
  have hC : Copying w t a cap 0 (.slice none 0 0) w3 := by
    have h := three w (.cells #[.string t.name, .slice a t.cons.length cap] 71) (.cells #[.string ⟨#[]⟩, .slice none 0 0] 71) (.cells #[.string t.name, .slice none 0 0] 71)
    have h0 := three0 w (.cells #[.string t.name, .slice a t.cons.length cap] 71) (.cells #[.string ⟨#[]⟩, .slice none 0 0] 71) (.cells #[.string t.name, .slice none 0 0] 71)
    rw [← h3] at h h0
    exact ⟨h0, h.2.1, h.2.2.1, Growing.start (World.ownsRow_nil _ _ _ _) (by omega), h.2.2.2⟩
  have HC := Lib.hid hC
  have H3 := Lib.hid h3
  clear hr hm2 h3 hC
  generalize hn : t.cons.length = n at *
  have HN := Lib.hid hn
  clear hn
  go_enter Tryz.func83, Tryz.ntmps83
  go_wp2
  rw [← H3.out]
  go_loopw [4] (fun i wr => ∃ (k : Nat) (v : Value), k ≤ n ∧ i = .int .i64 k ∧ Hid (Copying w t a cap k v wr)) (fun i _ => n - (intOf i).toNat)
  case atStart => exact ⟨0, _, Nat.zero_le _, rfl, HC⟩
  case round =>
    obtain ⟨k, v, hk, rfl, hC⟩ := hrel
    have hC' := hC.out
    obtain ⟨c0, _, c2, HGW, c4⟩ := hC'
    rw [HN.out] at c0
    obtain ⟨_, e1, _, _⟩ := two_cells c0
    have HC4 := Lib.hid c4
    have HG4 := Lib.hid HGW
    have HC2 := Lib.hid c2
    clear c0 c4 HGW
    by_cases hlt : k < n
    · have hk' : k < t.cons.length := by rw [HN.out]; exact hlt
      obtain ⟨y, u1, v1, rfl, hc0, hc1, hr1⟩ := row2_below con_below HR.out HC4.out k hk'
      have hx : t.cons[k]? = some t.cons[k] := List.getElem?_eq_getElem hk'
      have H := l3Con_any wr.drew t.cons[k] u1 v1 hr1 (HS.out _ (List.getElem_mem hk'))
      generalize t.cons[k] = c at hx hr1 H
      have HX := Lib.hid hx
      have hltz : (k : Int) < (n : Int) := by omega
      obtain ⟨_, e2, _, _⟩ := two_cells c2
      obtain ⟨i0, hi, hz0, hz1, hz2⟩ := zero_Con
      clear hr1 hx c2
      go_wp2
      go_region_law (first
        | (go_simp; go_at_call 72; refine H.mono ?_
           rintro e w1 ⟨⟨u2, v2, rfl, ho⟩, hb1⟩
           have ho2 := ho
           obtain ⟨rfl, a2, cap2, rfl, _⟩ := ho2
           have HO := Lib.hid ho
           have hb1' : Below wr.heap.size wr w1 := below_of_drew hb1
           have HB1 := Lib.hid hb1'
           obtain ⟨_, e3, _, _⟩ := two_cells ((hb1'.block (w.heap.size + 1 + 1) (by rcases Nat.lt_or_ge (w.heap.size + 1 + 1) wr.heap.size with h | h; exact h; have := HC2.out; rw [Array.getElem?_eq_none h] at this; cases this)).trans HC2.out)
           have e4 : (w1.alloc (.cells #[.string c.name, .slice a2 c.args.length cap2] 73)).cell? ⟨w.heap.size + 1 + 1, 1, none⟩ = some v := cell_below e3 ((Below.refl _ _).alloc (Nat.le_refl _) _)
           clear hb1 hb1' ho)
        | (obtain ⟨ps, how, hBs, hstep⟩ := Growing.step keeps_con HG4.out HX.out HO.out HB1.out ((Below.refl _ _).alloc (Nat.le_refl _) (.cells #[.string c.name, .slice a2 c.args.length cap2] 73))
           refine step_append_lies _ rfl _ _ 69 rfl (w.heap.size + 3) 73 i0 (.agg #[.string ⟨#[]⟩, .slice none 0 0]) 2 40 Tryz.underlying69 hi hz0 hz1 hz2 rfl (by decide) v k (flat ps) rfl how ⟨w1.heap.size, 0, none⟩ 1 1 [.string c.name, .slice a2 c.args.length cap2] rfl rfl (news_two w1 _ _ _ _ rfl) (by intro u hu; simp at hu; rcases hu with rfl | rfl <;> rfl) (by decide) (by unfold maxLen; omega) (by omega) hBs _ rfl ?_
           intro g cap3 w4 hown hgrow hat hlt4
           obtain ⟨hG, hold, ho1, ho2, ho3, ho4⟩ := hstep g cap3 w4 hown hgrow hat
           obtain ⟨f1, f2, hC5⟩ := Copying.next hC.out hG hold ho1 ho2 ho3 ho4
           have HC5 := Lib.hid hC5
           clear how hBs hstep hown hgrow hat hG hold ho1 ho2 ho3 ho4 hC5))
      all_goals
        go_wp2
        go_roundw
        case rel => exact ⟨k + 1, _, by omega, by go_num, HC5⟩
        case measure => simp [intOf]; omega
    · obtain rfl : k = n := by omega
      have hD := HG4.out
      rw [← HN.out] at hD
      have hD2 := hD.done
      have hD3 := hD2
      obtain ⟨a2, cap2, rfl, _⟩ := hD3
      have HD := Lib.hid hD2
      obtain ⟨_, c1, _, _, _⟩ := hC.out
      have HC1 := Lib.hid c1
      obtain ⟨p1, p2, p3, p4⟩ := two_cells c1
      obtain ⟨p5, p6, p7, p8⟩ := two_cells c2
      clear c1 c2 hD hD2 HG4
      go_wp2
      refine bodyPost_ret (results_cell_row rfl _ _ (w.heap.size + 1) _ _ _ _ rfl (two_set (two_set HC1.out _).1 _).2 Tryz.underlying71 rfl (by kernel_rfl)) rfl ?_
      refine ⟨⟨_, _, rfl, rfl, (HD.out.keep keeps_con ?_).wider ?_⟩, (HC4.out.setCell (by show _ ≤ w.heap.size + 1; omega) _).setCell (by show _ ≤ w.heap.size + 1; omega) _⟩
      · rintro b ⟨hb1, _⟩
        rw [Below.heap_setCell _ _ _ _ (by show b ≠ w.heap.size + 1; omega), Below.heap_setCell _ _ _ _ (by show b ≠ w.heap.size + 1; omega)]
      · rintro b ⟨hb1, hb2⟩
        exact ⟨by omega, by simpa [World.setCell] using hb2⟩
end Go.Proofs.YtlbmohdebbapgaaGreat
end

/- What is proved here: contracts of Go's library, laid at this program's numbers; each is one application of a theorem of the kit. Its own premises are its conditions. -/
section
namespace Go.Proofs
open Go.Shelf
def Tryz.lays190_ren : Go.Shelf.Ren := ⟨fun | 190 => 101 | 125 => 115 | 258 => 114 | 128 => 130 | 129 => 131 | 302 => 121 | 303 => 122 | 304 => 123 | 305 => 124 | 306 => 125 | 307 => 126 | 308 => 127 | 309 => 128 | 310 => 129 | 333 => 132 | 329 => 133 | 330 => 134 | 334 => 135 | 335 => 136 | 336 => 137 | 344 => 138 | n => n, fun | 31 => 67 | 9 => 9 | 3 => 3 | 46 => 139 | 0 => 0 | 51 => 153 | 53 => 155 | 4 => 4 | 183 => 146 | 182 => 145 | 131 => 101 | 5 => 5 | 218 => 156 | 222 => 160 | 228 => 162 | 229 => 163 | n => n, fun | n => n⟩
theorem Tryz.lays190 : Go.Proofs.Lays.n190 Tryz.prog Tryz.lays190_ren := {
  mixed := by kernel_rfl
  f125 := Tryz.func115.trans (congrArg some (by kernel_rfl))
  f128 := Tryz.func130.trans (congrArg some (by kernel_rfl))
  f129 := Tryz.func131.trans (congrArg some (by kernel_rfl))
  f190 := Tryz.func101.trans (congrArg some (by kernel_rfl))
  f258 := Tryz.func114.trans (congrArg some (by kernel_rfl))
  f302 := Tryz.func121.trans (congrArg some (by kernel_rfl))
  f303 := Tryz.func122.trans (congrArg some (by kernel_rfl))
  f304 := Tryz.func123.trans (congrArg some (by kernel_rfl))
  f305 := Tryz.func124.trans (congrArg some (by kernel_rfl))
  f306 := Tryz.func125.trans (congrArg some (by kernel_rfl))
  f307 := Tryz.func126.trans (congrArg some (by kernel_rfl))
  f308 := Tryz.func127.trans (congrArg some (by kernel_rfl))
  f309 := Tryz.func128.trans (congrArg some (by kernel_rfl))
  f310 := Tryz.func129.trans (congrArg some (by kernel_rfl))
  f329 := Tryz.func133.trans (congrArg some (by kernel_rfl))
  f330 := Tryz.func134.trans (congrArg some (by kernel_rfl))
  f333 := Tryz.func132.trans (congrArg some (by kernel_rfl))
  f334 := Tryz.func135.trans (congrArg some (by kernel_rfl))
  f335 := Tryz.func136.trans (congrArg some (by kernel_rfl))
  f336 := Tryz.func137.trans (congrArg some (by kernel_rfl))
  f344 := Tryz.func138.trans (congrArg some (by kernel_rfl))
  t0 := Tryz.underlying0
  a0 := Tryz.isAgg0
  z0 := Tryz.sizeOf0
  v0 := Tryz.zeroValue0
  t3 := Tryz.underlying3
  a3 := Tryz.isAgg3
  z3 := Tryz.sizeOf3
  v3 := Tryz.zeroValue3
  t4 := Tryz.underlying4
  a4 := Tryz.isAgg4
  z4 := Tryz.sizeOf4
  v4 := Tryz.zeroValue4
  t5 := Tryz.underlying5
  a5 := Tryz.isAgg5
  z5 := Tryz.sizeOf5
  v5 := Tryz.zeroValue5
  t9 := Tryz.underlying9
  a9 := Tryz.isAgg9
  z9 := Tryz.sizeOf9
  v9 := Tryz.zeroValue9
  t31 := Tryz.underlying67
  a31 := Tryz.isAgg67
  z31 := Tryz.sizeOf67
  v31 := Tryz.zeroValue67
  t46 := Tryz.underlying139
  a46 := Tryz.isAgg139
  z46 := Tryz.sizeOf139
  v46 := Tryz.zeroValue139
  t51 := Tryz.underlying153
  a51 := Tryz.isAgg153
  z51 := Tryz.sizeOf153
  v51 := Tryz.zeroValue153
  t53 := Tryz.underlying155
  a53 := Tryz.isAgg155
  z53 := Tryz.sizeOf155
  v53 := Tryz.zeroValue155
  t131 := Tryz.underlying101
  a131 := Tryz.isAgg101
  z131 := Tryz.sizeOf101
  v131 := Tryz.zeroValue101
  t182 := Tryz.underlying145
  a182 := Tryz.isAgg145
  z182 := Tryz.sizeOf145
  v182 := Tryz.zeroValue145
  t183 := Tryz.underlying146
  a183 := Tryz.isAgg146
  z183 := Tryz.sizeOf146
  v183 := Tryz.zeroValue146
  t218 := Tryz.underlying156
  a218 := Tryz.isAgg156
  z218 := Tryz.sizeOf156
  v218 := Tryz.zeroValue156
  t222 := Tryz.underlying160
  a222 := Tryz.isAgg160
  z222 := Tryz.sizeOf160
  v222 := Tryz.zeroValue160
  t228 := Tryz.underlying162
  a228 := Tryz.isAgg162
  z228 := Tryz.sizeOf162
  v228 := Tryz.zeroValue162
  t229 := Tryz.underlying163
  a229 := Tryz.isAgg163
  z229 := Tryz.sizeOf163
  v229 := Tryz.zeroValue163 }
open Go.Sort Go.RowKit in
theorem Tryz.slices_Sort_string (blk off cap : Nat) (ss : List (List UInt8)) (w : World) (hH : Holds encStr w blk off ss.toArray) (hblk : blk < w.heap.size) (hsz : ss.length < 4611686018427387904) :
    Calls Tryz.prog 101 #[.slice (some ⟨blk, off, none⟩) ss.length cap] w fun e w' =>
      e = .returned (.tuple #[]) ∧ ∃ n os, w' = grow (putRow encStr (Sort.ahead w n) blk off (ss.mergeSort fun x y => decide (x ≤ y)).toArray) os := Any.slices_Sort_string Tryz.lays190 blk off cap ss w hH hblk hsz
def Tryz.laysNm216_ren : Go.Shelf.Ren := ⟨fun | 16 => 100 | n => n, fun | 24 => 67 | 9 => 9 | 4 => 4 | n => n, fun | n => n⟩
theorem Tryz.laysNm216 : Go.Proofs.Lays2.n16 Tryz.prog Tryz.laysNm216_ren := {
  mixed := by kernel_rfl
  f16 := Tryz.func100.trans (congrArg some (by kernel_rfl))
  t4 := Tryz.underlying4
  a4 := Tryz.isAgg4
  z4 := Tryz.sizeOf4
  v4 := Tryz.zeroValue4
  t9 := Tryz.underlying9
  a9 := Tryz.isAgg9
  z9 := Tryz.sizeOf9
  v9 := Tryz.zeroValue9
  t24 := Tryz.underlying67
  a24 := Tryz.isAgg67
  z24 := Tryz.sizeOf67
  v24 := Tryz.zeroValue67
  i9 := by kernel_rfl }
open Go.RowKit Go.Lib in
theorem Tryz.slices_Clone_string (b off n c : Nat) (zs : List ByteArray) (w : World) (hz : n ≤ zs.length) (hbig : n * 16 ≤ 140737488355328) (hc : ∀ j, j < zs.length → w.cell? ⟨b, off + j, none⟩ = some (.string (zs.getD j ByteArray.empty))) :
    Calls Tryz.prog 100 #[.slice (some ⟨b, off, none⟩) n c] w fun e w' => ∃ v', e = .returned v' ∧ w'.ownsRow w.heap.size 9 1 v' n ((zs.take n).map (Value.string)) ∧ v' ≠ .slice none 0 0 ∧ Below w.heap.size w w' := Any.slices_Clone_string Tryz.laysNm216 b off n c zs w hz hbig hc
open Go.RowKit Go.Lib in
theorem Tryz.slices_Clone_string_nil (n c : Nat) (w : World) :
    Calls Tryz.prog 100 #[.slice none n c] w fun e w' => e = .returned (.slice none 0 0) ∧ w' = w := Any.slices_Clone_string_nil Tryz.laysNm216 n c w
open Go.RowKit Go.Lib in
theorem Tryz.slices_Clone_string_zero (a : Addr) (c : Nat) (w : World) :
    Calls Tryz.prog 100 #[.slice (some a) 0 c] w fun e w' => ∃ v', e = .returned v' ∧ w'.ownsRow w.heap.size 9 1 v' 0 [] ∧ v' ≠ .slice none 0 0 ∧ Below w.heap.size w w' := Any.slices_Clone_string_zero Tryz.laysNm216 a c w
def Tryz.lays194_ren : Go.Shelf.Ren := ⟨fun | 194 => 102 | n => n, fun | 31 => 67 | 9 => 9 | 3 => 3 | 4 => 4 | 0 => 0 | n => n, fun | n => n⟩
theorem Tryz.lays194 : Go.Proofs.Lays.n194 Tryz.prog Tryz.lays194_ren := {
  mixed := by kernel_rfl
  f194 := Tryz.func102.trans (congrArg some (by kernel_rfl))
  t0 := Tryz.underlying0
  a0 := Tryz.isAgg0
  z0 := Tryz.sizeOf0
  v0 := Tryz.zeroValue0
  t3 := Tryz.underlying3
  a3 := Tryz.isAgg3
  z3 := Tryz.sizeOf3
  v3 := Tryz.zeroValue3
  t4 := Tryz.underlying4
  a4 := Tryz.isAgg4
  z4 := Tryz.sizeOf4
  v4 := Tryz.zeroValue4
  t9 := Tryz.underlying9
  a9 := Tryz.isAgg9
  z9 := Tryz.sizeOf9
  v9 := Tryz.zeroValue9
  t31 := Tryz.underlying67
  a31 := Tryz.isAgg67
  z31 := Tryz.sizeOf67
  v31 := Tryz.zeroValue67 }
open Go.RowKit Go.Lib Go.Sort in
theorem Tryz.slices_Compact_string (blk off cap : Nat) (zs : List (List UInt8)) (w : World) (hH : Holds encStr w blk off zs.toArray) (hsz : zs.length ≤ 9223372036854775807) (hcap : zs.length ≤ cap) :
    Calls Tryz.prog 102 #[.slice (some ⟨blk, off, none⟩) zs.length cap] w fun e w' => e = .returned (.slice (some ⟨blk, off, none⟩) (Lib.compact zs).length cap) ∧ ∃ q, w' = putRow encStr (Sort.ahead w q) blk off (Lib.compact zs ++ List.replicate (zs.length - (Lib.compact zs).length) []).toArray := Any.slices_Compact_string Tryz.lays194 blk off cap zs w hH hsz hcap
open Go.RowKit Go.Lib Go.Sort in
theorem Tryz.slices_Compact_string_empty (a : Option Addr) (cap : Nat) (w : World) :
    Calls Tryz.prog 102 #[.slice a 0 cap] w fun e w' => e = .returned (.slice a 0 cap) ∧ w' = w := Any.slices_Compact_string_empty Tryz.lays194 a cap w
open Go.RowKit Go.Sort in
theorem Tryz.slices_Sort_string_none (p : Option Addr) (cap : Nat) (w : World) :
    Calls Tryz.prog 101 #[.slice p 0 cap] w fun e w' => e = .returned (.tuple #[]) ∧ w' = w := Any.slices_Sort_string_none Tryz.lays190 p cap w
end Go.Proofs
end
