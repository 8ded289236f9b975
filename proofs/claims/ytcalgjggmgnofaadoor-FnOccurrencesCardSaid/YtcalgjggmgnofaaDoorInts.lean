/- What is proved here: the laws' helpers on lists of integers (toIntS, eqIntS) do what they say. Condition: the slice reads as the list. -/
import Derived.Test.YtcalgjggmgnofaaDoorReads
namespace Go.Proofs.YtcalgjggmgnofaaDoor
open Go.RowKit

/-- The slice at a reads as the integers zs. -/
def ReadsI (w : World) (a : Option Addr) (zs : List Int) : Prop := ∀ j (h : j < zs.length), ∃ y, a = some y ∧ w.cell? (y.add j) = some (.int .i64 zs[j])
/-- Every number is one that a machine has. -/
def fitsI (zs : List Int) : Prop := ∀ z ∈ zs, -9223372036854775808 ≤ z ∧ z ≤ 9223372036854775807
theorem readsI_below {w w' : World} {a : Option Addr} {xs : List Int} (h : ReadsI w a xs) (hb : Below w.heap.size w w') : ReadsI w' a xs := by
  intro j hj
  obtain ⟨y, rfl, hc⟩ := h j hj
  refine ⟨y, rfl, ?_⟩
  rw [← hc]
  have hlt : (y.add j).block < w.heap.size := by
    rcases Nat.lt_or_ge (y.add j).block w.heap.size with h | h
    · exact h
    · simp [World.cell?, Array.getElem?_eq_none h] at hc
  exact World.cell?_of_block (hb.block _ hlt)
theorem readsI_new {w : World} {g : Nat} {T : TypeId} {xs : List Int} (hb : w.heap[g]? = some (.cells (xs.map (Value.int .i64)).toArray T (0, 0))) : ReadsI w (some ⟨g, 0, none⟩) xs := by
  intro j hj
  refine ⟨_, rfl, ?_⟩
  have e : (⟨g, 0, none⟩ : Addr).add j = ⟨g, j, none⟩ := by simp [Addr.add]; intro h; omega
  rw [e]
  simp [World.cell?, hb, hj]

set_option maxHeartbeats 1000000 in
set_option maxRecDepth 100000 in
/-- eqIntS at two slices that read alike. -/
theorem eqI_same (w : World) (a b : Option Addr) (c d : Nat) (xs : List Int) (hx : ReadsI w a xs) (hy : ReadsI w b xs) (hm : xs.length ≤ maxLen) :
    Calls Tryd.prog 33 #[.slice a xs.length c, .slice b xs.length d] w fun e w' => e = .returned (.bool true) ∧ ∃ n, w' = w.drewN n := by
  unfold maxLen at hm
  have HX := Lib.hid hx
  have HY := Lib.hid hy
  clear hx hy
  generalize hn : xs.length = n at *
  have HN := Lib.hid hn
  clear hn
  go_enter Tryd.func33, Tryd.ntmps33
  go_wp2
  go_loopw [5] (fun i wr => ∃ (k q : Nat), k ≤ n ∧ i = .int .i64 k ∧ wr = w.drewN q) (fun i _ => n - (intOf i).toNat)
  case atStart => exact ⟨0, 0, Nat.zero_le _, rfl, rfl⟩
  case round =>
    obtain ⟨k, q, hk, rfl, rfl⟩ := hrel
    by_cases hlt : k < n
    · obtain ⟨y, rfl, hc⟩ := HX.out k (by rw [HN.out]; exact hlt)
      obtain ⟨z, rfl, hd⟩ := HY.out k (by rw [HN.out]; exact hlt)
      generalize xs[k]'(by rw [HN.out]; exact hlt) = x at hc hd
      go_wp2
      go_quiet (fail)
      go_wp2
      go_roundw
      case rel => exact ⟨k + 1, _, by omega, by go_num, rfl⟩
      case measure => simp [intOf]; omega
    · go_wp2
      go_ret
      exact ⟨rfl, q, rfl⟩

/-- A row of integers that is being filled: k of them are there. -/
def filledI (xs : List Int) (k : Nat) : List Value := (xs.take k).map (Value.int .i64) ++ List.replicate (xs.length - k) (.int .i64 0)
theorem filledI_length (xs : List Int) (k : Nat) (h : k ≤ xs.length) : (filledI xs k).length = xs.length := by simp [filledI]; omega
theorem filledI_set (xs : List Int) (k : Nat) (h : k < xs.length) : (filledI xs k).set k (.int .i64 xs[k]) = filledI xs (k + 1) := by
  unfold filledI
  rw [List.take_succ_eq_append_getElem h, List.map_append, show xs.length - k = (xs.length - (k + 1)) + 1 by omega, List.replicate_succ]
  have e : ((xs.take k).map (Value.int .i64)).length = k := by simp; omega
  rw [List.set_append_right k _ (by omega), e, Nat.sub_self, List.set_cons_zero]
  simp
theorem filledI_full (xs : List Int) : filledI xs xs.length = xs.map (Value.int .i64) := by simp [filledI]

theorem make_ints (n : Nat) (hn : n ≤ 1048576) (W : World) :
    (Instr.makeSlice 27 (.int .i64 (n : Int)) (.int .i64 (n : Int))).run Tryd.prog W = .ok (.slice (some ⟨W.heap.size, 0, none⟩) n n) (W.alloc (.cells (List.replicate n (Value.int .i64 0)).toArray 3)) := by
  have hi : (Tryd.prog.info? 3).map (fun i => (i.zero, i.size, i.bytes)) = some (some (.int .i64 0), 1, 8) := by kernel_rfl
  obtain ⟨i0, hi, hz0, hz1, hz2⟩ := info_parts hi
  have hr := run_make (P := Tryd.prog) W 27 3 i0 (.int .i64 0) Tryd.underlying27 hi hz0 .i64 .i64 n n (by omega) (by omega) (by rw [hz2]; omega) (by omega)
  rw [hr]
  simp only [Int.toNat_natCast]
  have e : madeCells (Value.int .i64 0).cells (n * i0.size) = (List.replicate n (Value.int .i64 0)).toArray := by
    rw [hz1, Nat.mul_one]
    apply Array.ext
    · simp [madeCells]
    · intro i h1 h2
      simp [madeCells, Value.cells, Nat.mod_one]
  rw [e]

/-- A new slice that reads as the integers xs, in a block of its own. -/
def NewInts (w : World) (xs : List Int) (e : Ending) (w' : World) : Prop :=
  ∃ g, w.heap.size ≤ g ∧ e = .returned (.slice (some ⟨g, 0, none⟩) xs.length xs.length) ∧ w'.heap[g]? = some (.cells (xs.map (Value.int .i64)).toArray 3 (0, 0)) ∧ Below w.heap.size w w'

set_option maxHeartbeats 1000000 in
set_option maxRecDepth 100000 in
theorem toI_any (w : World) (a : Option Addr) (cap : Nat) (xs : List Int) (hx : ReadsI w a xs) (hm : xs.length ≤ 1048576) :
    Calls Tryd.prog 32 #[.slice a xs.length cap] w (NewInts w xs) := by
  have hmk := make_ints xs.length hm
  have HX := Lib.hid hx
  clear hx
  go_enter Tryd.func32, Tryd.ntmps32
  go_wp2
  clear hmk
  have HF : Hid (Array.replicate xs.length (Value.int .i64 0) = (filledI xs 0).toArray) := by unfold Hid filledI; simp
  rw [HF.out]
  have hb0 := heap_at_new w (.cells (filledI xs 0).toArray 3)
  have hB0 : Below w.heap.size w (w.alloc (.cells (filledI xs 0).toArray 3)) := (Below.refl _ _).alloc (Nat.le_refl _) _
  generalize w.alloc (.cells (filledI xs 0).toArray 3) = w0 at hb0 hB0
  have HB0 := Lib.hid hb0
  clear hb0
  generalize hn : xs.length = n at *
  have HN := Lib.hid hn
  clear hn
  go_loopw [4] (fun i wr => ∃ k : Nat, k ≤ n ∧ i = .int .i64 k ∧ wr.heap[w.heap.size]? = some (.cells (filledI xs k).toArray 3 (0, 0)) ∧ Below w.heap.size w wr) (fun i _ => n - (intOf i).toNat)
  case atStart => exact ⟨0, Nat.zero_le _, rfl, HB0.out, hB0⟩
  case round =>
    obtain ⟨k, hk, rfl, hb, hB⟩ := hrel
    by_cases hlt : k < n
    · have hk' : k < xs.length := by rw [HN.out]; exact hlt
      obtain ⟨y, rfl, hc⟩ := readsI_below HX.out hB k hk'
      have hset := filledI_set xs k hk'
      have hcell := cells_cell hb k (by rw [filledI_length xs k (by omega)]; exact hk')
      have hfree := cells_free hb k
      have hb2 := cells_set hb k (.int .i64 xs[k])
      have HB := Lib.hid hb
      rw [hset] at hb2
      have HB2 := Lib.hid hb2
      clear hb hb2 hset
      generalize xs[k] = x at *
      generalize (filledI xs k)[k]'(by rw [filledI_length xs k (by omega)]; exact hk') = u at hcell
      go_wp2
      go_roundw
      case rel => exact ⟨k + 1, by omega, by go_num, HB2.out, hB.setCell (Nat.le_refl _) _⟩
      case measure => simp [intOf]; omega
    · obtain rfl : k = n := by omega
      go_wp2
      go_ret
      refine ⟨w.heap.size, Nat.le_refl _, by rw [HN.out]; rfl, ?_, hB⟩
      rw [hb, ← HN.out, filledI_full]
end Go.Proofs.YtcalgjggmgnofaaDoor
