/- What is proved here: lists of keys as they lie in memory; the laws' helpers on keys and on lists of keys (szKey, szKeyS, toKey, toKeyS, eqKeyS). Condition: the slice reads as the list. -/
import Derived.Test.YtcalgjggmgnofaaKeys
import Derived.Test.YtcalgjggmgnofaaSigBase
import Derived.Deep.RegionHeld3
namespace Go.Proofs.Ytcalgjggmgnofaa
open Go.RowKit

/-- A key: its kind, its number, its text. -/
abbrev KeyD := Int × Int × ByteArray
/-- The fields behind the first of a key in a row. -/
abbrev keyField (y : Addr) (i j : Nat) : Addr := { block := (y.add (i * 3)).block, off := (y.add (i * 3)).off + j }
/-- The slice at a reads as the keys. -/
def KeysAt (w : World) (a : Option Addr) (l : List KeyD) : Prop := ∀ j (h : j < l.length), ∃ y, a = some y ∧ w.cell? (y.add (j * 3)) = some (.int .i64 l[j].1) ∧ w.cell? (keyField y j 1) = some (.int .i64 l[j].2.1) ∧ w.cell? (keyField y j 2) = some (.string l[j].2.2)
theorem KeysAt.below {w w' : World} {a : Option Addr} {l : List KeyD} (h : KeysAt w a l) (hb : Below w.heap.size w w') : KeysAt w' a l := by
  intro j hj
  obtain ⟨y, e, h1, h2, h3⟩ := h j hj
  exact ⟨y, e, cell_below h1 hb, cell_below h2 hb, cell_below h3 hb⟩
/-- The bytes of the texts. -/
def inK (l : List KeyD) : Nat := (l.map fun x => x.2.2.size).sum
theorem inK_take (l : List KeyD) (k : Nat) (h : k < l.length) : inK (l.take (k + 1)) = inK (l.take k) + l[k].2.2.size := by
  unfold inK
  rw [List.take_succ_eq_append_getElem h, List.map_append, List.sum_append]
  simp only [List.map_cons, List.map_nil, List.sum_cons, List.sum_nil, Nat.add_zero]
theorem inK_take_le (l : List KeyD) (k : Nat) : inK (l.take k) ≤ inK l := by
  have e : inK l = inK (l.take k) + inK (l.drop k) := by
    unfold inK
    rw [← List.sum_append, ← List.map_append, List.take_append_drop]
  omega

set_option maxHeartbeats 1000000 in
set_option maxRecDepth 100000 in
theorem szKey_any (L : Nat) (hL : L ≤ 1048576) (w : World) (k n : Int) (t : ByteArray) (ht : t.size ≤ maxLen) :
    Calls Try.prog 23 #[.agg #[.int .i64 k, .int .i64 n, .string t], .int .i64 (L : Int)] w fun e w' => e = .returned (.int .i64 (left L t.size)) ∧ Below w.heap.size w w' := by
  unfold maxLen at ht
  have HB := Lib.hid ((Below.refl w.heap.size w).alloc (Nat.le_refl _) (.cells #[.int .i64 k, .int .i64 n, .string t] 46))
  by_cases hn : t.size ≤ L
  · have hZ := left_yes hn
    have hM2 : (L : Int) - (t.size : Int) = ((L - t.size : Nat) : Int) := by omega
    have hM3 : L - t.size ≤ 1048576 := by omega
    rw [hZ]
    generalize L - t.size = M at *
    clear hZ hn
    go_enter Try.func23, Try.ntmps23
    go_wp2
    go_ret
    exact ⟨rfl, HB.out⟩
  · have hM2 : (L : Int) - (t.size : Int) < 0 := by omega
    rw [left_no hn]
    clear hn
    go_enter Try.func23, Try.ntmps23
    go_wp2
    go_ret
    exact ⟨rfl, HB.out⟩

set_option maxHeartbeats 2000000 in
set_option maxRecDepth 100000 in
theorem szKeyS_any (w : World) (a : Option Addr) (cap : Nat) (l : List KeyD) (hx : KeysAt w a l) (hm : l.length ≤ maxLen) (hs : ∀ x ∈ l, x.2.2.size ≤ maxLen) :
    Calls Try.prog 22 #[.slice a l.length cap, .int .i64 1048576] w fun e w' => e = .returned (.int .i64 (left 1048576 (l.length + inK l))) ∧ Below w.heap.size w w' := by
  unfold maxLen at hm
  have HX := Lib.hid hx
  have HS := Lib.hid hs
  clear hx hs
  generalize hz : left 1048576 (l.length + inK l) = z
  have HZ := Lib.hid hz
  clear hz
  generalize hn : l.length = n at *
  have HN := Lib.hid hn
  clear hn
  by_cases h0 : 1048576 < n
  · have HE : Hid (z = -1) := by unfold Hid; rw [← HZ.out, left_no (by omega)]
    go_enter Try.func22, Try.ntmps22
    go_wp2
    go_ret
    exact ⟨by rw [HE.out]; rfl, Below.refl _ _⟩
  · go_enter Try.func22, Try.ntmps22
    go_wp2
    go_loopw [1, 5] (fun q i wr => ∃ (k m : Nat), k ≤ n ∧ i = .int .i64 k ∧ q = .int .i64 m ∧ m ≤ 1048576 ∧ Hid (m + n + inK (l.take k) = 1048576) ∧ Hid (Below w.heap.size w wr)) (fun _ i _ => n - (intOf i).toNat)
    case atStart =>
      refine ⟨0, 1048576 - n, Nat.zero_le _, rfl, ?_, by omega, ?_, Below.refl _ _⟩
      · congr 1; omega
      · unfold Hid; simp [inK]; omega
    case round =>
      obtain ⟨k, m, hk, rfl, rfl, hm1, hm2, hB⟩ := hrel
      by_cases hlt : k < n
      · obtain ⟨y, rfl, h1, h2, h3⟩ := (HX.out.below hB.out) k (by rw [HN.out]; exact hlt)
        have ht := inK_take l k (by rw [HN.out]; exact hlt)
        have hle := inK_take_le l (k + 1)
        have hsz := HS.out _ (List.getElem_mem (l := l) (n := k) (by rw [HN.out]; exact hlt))
        generalize l[k]'(by rw [HN.out]; exact hlt) = x at h1 h2 h3 ht hsz
        have H := Lib.hid (szKey_any m hm1 wr x.1 x.2.1 x.2.2 hsz)
        have HT := Lib.hid ht
        have HLE := Lib.hid hle
        clear ht hsz hle
        generalize x.1 = x1 at *
        generalize x.2.1 = x2 at *
        generalize x.2.2 = x3 at *
        by_cases hbad : x3.size ≤ m
        · have H2 := H.out
          rw [left_yes hbad] at H2
          have hq : m - x3.size ≤ 1048576 := by omega
          have HQ : Hid ((m - x3.size) + n + inK (l.take (k + 1)) = 1048576) := by unfold Hid; have := HT.out; have := hm2.out; omega
          generalize m - x3.size = m2 at *
          clear hbad H HT hm2 HLE
          go_wp2_with fail
          refine H2.mono ?_
          rintro e w1 ⟨rfl, hb1⟩
          have HB1 : Hid (Below w.heap.size w w1) := hB.out.trans (hb1.mono hB.out.size)
          clear hb1 H2
          go_wp2
          go_roundw
          case rel => exact ⟨k + 1, m2, by omega, by go_num, rfl, hq, HQ, HB1⟩
          case measure => simp [intOf]; omega
        · have H2 := H.out
          rw [left_no hbad] at H2
          have HE : Hid (z = -1) := by
            have := HT.out
            have := hm2.out
            have := HLE.out
            unfold Hid; rw [← HZ.out, left_no (by omega)]
          clear hbad H HT hm2 HLE
          go_wp2_with fail
          refine H2.mono ?_
          rintro e w1 ⟨rfl, hb1⟩
          have HB1 : Hid (Below w.heap.size w w1) := hB.out.trans (hb1.mono hB.out.size)
          clear hb1 H2
          go_wp2
          go_ret
          exact ⟨by rw [HE.out]; rfl, HB1.out⟩
      · obtain rfl : k = n := by omega
        have HE : Hid (z = (m : Int)) := by
          have e : l.take k = l := List.take_of_length_le (by rw [HN.out]; exact Nat.le_refl _)
          have h2 := hm2.out
          rw [e] at h2
          unfold Hid; rw [← HZ.out, left_yes (by omega)]; omega
        clear hm2
        go_wp2
        go_ret
        exact ⟨by rw [HE.out]; rfl, hB.out⟩

theorem three_above (w : World) (o0 o1 o2 : Obj) : (((w.alloc o0).alloc o1).alloc o2).heap[w.heap.size + 1]? = some o1 ∧ Below w.heap.size w (((w.alloc o0).alloc o1).alloc o2) := by
  obtain ⟨h1, h2⟩ := two_above w o0 o1
  have s2 : ((w.alloc o0).alloc o1).heap.size = w.heap.size + 1 + 1 := by simp
  refine ⟨?_, h2.alloc (by omega) _⟩
  rw [Below.heap_alloc _ _ _ (by omega)]
  exact h1

set_option maxHeartbeats 1000000 in
set_option maxRecDepth 100000 in
theorem toKey_any (w : World) (k n : Int) (t : ByteArray) :
    Calls Try.prog 26 #[.agg #[.int .i64 k, .int .i64 n, .string t]] w fun e w' => e = .returned (.agg #[.int .i64 k, .int .i64 n, .string t]) ∧ Below w.heap.size w w' := by
  have H := Lib.hid (three_above w (.cells #[.int .i64 k, .int .i64 n, .string t] 46) (.cells #[.int .i64 k, .int .i64 n, .string t] 41) (.cells #[.int .i64 k, .int .i64 n, .string t] 41))
  go_enter Try.func26, Try.ntmps26
  go_wp2
  refine bodyPost_ret (results_cell_row rfl _ _ (w.heap.size + 1) _ _ _ _ rfl H.out.1 Try.underlying41 rfl (by kernel_rfl)) rfl ?_
  exact ⟨rfl, H.out.2⟩

def put3 (w : World) (g k : Nat) (u0 u1 u2 : Value) : World := ((w.setCell ⟨g, k * 3, none⟩ u0).setCell ⟨g, k * 3 + 1, none⟩ u1).setCell ⟨g, k * 3 + 2, none⟩ u2
theorem put3_block {w : World} {g : Nat} {cs : Array Value} {T : TypeId} (h : w.heap[g]? = some (.cells cs T (0, 0))) (k : Nat) (u0 u1 u2 : Value) :
    (put3 w g k u0 u1 u2).heap[g]? = some (.cells (((cs.setIfInBounds (k * 3) u0).setIfInBounds (k * 3 + 1) u1).setIfInBounds (k * 3 + 2) u2) T (0, 0)) := by
  simp [put3, World.setCell, Array.getElem?_modify, h]
theorem key_cells {w : World} {g : Nat} {cs : Array Value} {T : TypeId} (h : w.heap[g]? = some (.cells cs T (0, 0))) (k n : Nat) (hs : cs.size = n * 3) (hk : k < n) :
    ∃ x0 x1 x2, w.cell? ⟨g, k * 3, none⟩ = some x0 ∧ w.cell? ⟨g, k * 3 + 1, none⟩ = some x1 ∧ w.cell? ⟨g, k * 3 + 2, none⟩ = some x2 ∧ w.frozen? ⟨g, k * 3, none⟩ = false ∧ w.frozen? ⟨g, k * 3 + 1, none⟩ = false ∧ w.frozen? ⟨g, k * 3 + 2, none⟩ = false := by
  have e : ∀ o, o < n * 3 → ∃ x, w.cell? ⟨g, o, none⟩ = some x := fun o ho => ⟨cs[o]'(by omega), by simp [World.cell?, h, hs, ho]⟩
  obtain ⟨x0, h0⟩ := e (k * 3) (by omega)
  obtain ⟨x1, h1⟩ := e (k * 3 + 1) (by omega)
  obtain ⟨x2, h2⟩ := e (k * 3 + 2) (by omega)
  refine ⟨x0, x1, x2, h0, h1, h2, ?_, ?_, ?_⟩ <;> simp [World.frozen?, h]

/-- Block g has n places for keys; the first ones hold the first keys of l. -/
def FillK (w : World) (g n : Nat) (l : List KeyD) (w' : World) : Prop :=
  ∃ cs : Array Value, w'.heap[g]? = some (.cells cs 41 (0, 0)) ∧ cs.size = n * 3 ∧ (∀ j (h : j < l.length), cs[j * 3]? = some (.int .i64 l[j].1) ∧ cs[j * 3 + 1]? = some (.int .i64 l[j].2.1) ∧ cs[j * 3 + 2]? = some (.string l[j].2.2)) ∧ Below w.heap.size w w' ∧ w.heap.size ≤ g ∧ g < w'.heap.size
theorem FillK.below {w : World} {g n : Nat} {l : List KeyD} {w' : World} (h : FillK w g n l w') : Below w.heap.size w w' := by
  obtain ⟨_, _, _, _, h, _⟩ := h
  exact h
theorem FillK.step {w : World} {g n : Nat} {l : List KeyD} {w' w1 : World} (h : FillK w g n l w') (hk : l.length < n) (hb : Below w'.heap.size w' w1) (x : KeyD) :
    ∃ x0 x1 x2, w1.cell? ⟨g, l.length * 3, none⟩ = some x0 ∧ w1.cell? ⟨g, l.length * 3 + 1, none⟩ = some x1 ∧ w1.cell? ⟨g, l.length * 3 + 2, none⟩ = some x2 ∧ w1.frozen? ⟨g, l.length * 3, none⟩ = false ∧ w1.frozen? ⟨g, l.length * 3 + 1, none⟩ = false ∧ w1.frozen? ⟨g, l.length * 3 + 2, none⟩ = false ∧
      FillK w g n (l ++ [x]) (put3 w1 g l.length (.int .i64 x.1) (.int .i64 x.2.1) (.string x.2.2)) := by
  obtain ⟨cs, hc, hs, hl, hB, hg, hgl⟩ := h
  have hs1 := hb.size
  have hc1 : w1.heap[g]? = some (.cells cs 41 (0, 0)) := (hb.block g hgl).trans hc
  obtain ⟨x0, x1, x2, c0, c1, c2, f0, f1, f2⟩ := key_cells hc1 l.length n hs hk
  refine ⟨x0, x1, x2, c0, c1, c2, f0, f1, f2, _, put3_block hc1 _ _ _ _, by simp [hs], fun j hj => ?_, (((hB.trans (hb.mono hB.size)).setCell (p := ⟨g, l.length * 3, none⟩) hg _).setCell (p := ⟨g, l.length * 3 + 1, none⟩) hg _).setCell (p := ⟨g, l.length * 3 + 2, none⟩) hg _, hg, by simp [put3, World.setCell]; omega⟩
  simp only [List.length_append, List.length_cons, List.length_nil] at hj
  rcases Nat.lt_or_ge j l.length with h1 | h1
  · obtain ⟨d0, d1, d2⟩ := hl j h1
    have e : (l ++ [x])[j] = l[j] := List.getElem_append_left h1
    rw [e]
    refine ⟨?_, ?_, ?_⟩
    · rw [Array.getElem?_setIfInBounds, if_neg (by omega), Array.getElem?_setIfInBounds, if_neg (by omega), Array.getElem?_setIfInBounds, if_neg (by omega)]; exact d0
    · rw [Array.getElem?_setIfInBounds, if_neg (by omega), Array.getElem?_setIfInBounds, if_neg (by omega), Array.getElem?_setIfInBounds, if_neg (by omega)]; exact d1
    · rw [Array.getElem?_setIfInBounds, if_neg (by omega), Array.getElem?_setIfInBounds, if_neg (by omega), Array.getElem?_setIfInBounds, if_neg (by omega)]; exact d2
  · obtain rfl : j = l.length := by omega
    have e : (l ++ [x])[l.length] = x := by simp
    rw [e]
    have l0 : l.length * 3 < cs.size := by omega
    have l1 : l.length * 3 + 1 < cs.size := by omega
    have l2 : l.length * 3 + 2 < cs.size := by omega
    refine ⟨?_, ?_, ?_⟩
    · rw [Array.getElem?_setIfInBounds, if_neg (by omega), Array.getElem?_setIfInBounds, if_neg (by omega), Array.getElem?_setIfInBounds, if_pos rfl, if_pos l0]
    · rw [Array.getElem?_setIfInBounds, if_neg (by omega), Array.getElem?_setIfInBounds, if_pos rfl, if_pos (by simpa using l1)]
    · rw [Array.getElem?_setIfInBounds, if_pos rfl, if_pos (by simpa using l2)]
theorem FillK.done {w : World} {g n : Nat} {l : List KeyD} {w' : World} (h : FillK w g n l w') : KeysAt w' (some ⟨g, 0, none⟩) l := by
  obtain ⟨cs, hc, hs, hl, _⟩ := h
  intro j hj
  obtain ⟨d0, d1, d2⟩ := hl j hj
  have ha : ∀ i, (⟨g, 0, none⟩ : Addr).add i = ⟨g, i, none⟩ := fun i => by simp [Addr.add]; intro h; omega
  refine ⟨_, rfl, ?_, ?_, ?_⟩
  · rw [ha]; simp [World.cell?, hc, d0]
  · unfold keyField; rw [ha]; simp [World.cell?, hc, d1]
  · unfold keyField; rw [ha]; simp [World.cell?, hc, d2]

theorem make_Key (n : Nat) (hn : n ≤ 1048576) (W : World) : ∃ cs : Array Value, cs.size = n * 3 ∧
    (Instr.makeSlice 50 (.int .i64 (n : Int)) (.int .i64 (n : Int))).run Try.prog W = .ok (.slice (some ⟨W.heap.size, 0, none⟩) n n) (W.alloc (.cells cs 41)) := by
  have hi : (Try.prog.info? 41).map (fun i => (i.zero, i.size, i.bytes)) = some (some (.agg #[.int .i64 0, .int .i64 0, .string ⟨#[]⟩]), 3, 32) := by kernel_rfl
  obtain ⟨i0, hi, hz0, hz1, hz2⟩ := info_parts hi
  have hr := run_make (P := Try.prog) W 50 41 i0 _ Try.underlying50 hi hz0 .i64 .i64 n n (by omega) (by omega) (by rw [hz2]; omega) (by omega)
  rw [hr]
  simp only [Int.toNat_natCast]
  exact ⟨_, by rw [hz1]; simp [madeCells], rfl⟩

set_option maxHeartbeats 1000000 in
set_option maxRecDepth 100000 in
theorem toKeyS_any (w : World) (a : Option Addr) (cap : Nat) (l : List KeyD) (hx : KeysAt w a l) (hm : l.length ≤ 1048576) :
    Calls Try.prog 25 #[.slice a l.length cap] w fun e w' => (∃ p, e = .returned (.slice p l.length l.length) ∧ KeysAt w' p l) ∧ Below w.heap.size w w' := by
  obtain ⟨cs, hcs, hmk⟩ := make_Key l.length hm w
  have HX := Lib.hid hx
  clear hx
  go_enter Try.func25, Try.ntmps25
  go_wp2
  clear hmk
  have hb0 := heap_at_new w (.cells cs 41)
  have hB0 : Below w.heap.size w (w.alloc (.cells cs 41)) := (Below.refl _ _).alloc (Nat.le_refl _) _
  have hst : (w.alloc (.cells cs 41)).heap.size = w.heap.size + 1 := Array.size_push _
  generalize w.alloc (.cells cs 41) = w0 at hb0 hB0 hst ⊢
  generalize hn : l.length = n at *
  have HN := Lib.hid hn
  have HI : Hid (FillK w w.heap.size n (l.take 0) w0) := ⟨cs, hb0, hcs, fun j hj => by simp at hj, hB0, Nat.le_refl _, by omega⟩
  clear hb0 hB0 hst hcs hn
  go_loopw [4] (fun i wr => ∃ (k : Nat), i = .int .i64 k ∧ k ≤ n ∧ Hid (FillK w w.heap.size n (l.take k) wr)) (fun i _ => n - (intOf i).toNat)
  case atStart => exact ⟨0, rfl, Nat.zero_le _, HI⟩
  case round =>
    obtain ⟨k, rfl, hk, hI⟩ := hrel
    by_cases hlt : k < n
    · have hk' : k < l.length := by rw [HN.out]; exact hlt
      obtain ⟨y, rfl, h1, h2, h3⟩ := (HX.out.below hI.out.below) k hk'
      have htk : (l.take k).length = k := by simp; omega
      have hts : l.take k ++ [l[k]] = l.take (k + 1) := (List.take_succ_eq_append_getElem hk').symm
      have HS := Lib.hid (fun w1 (hb : Below wr.heap.size wr w1) => hI.out.step (by rw [htk]; exact hlt) hb l[k])
      rw [htk, hts] at HS
      generalize l[k] = x at h1 h2 h3 HS
      have H := Lib.hid (toKey_any wr x.1 x.2.1 x.2.2)
      generalize x.1 = x1 at *
      generalize x.2.1 = x2 at *
      generalize x.2.2 = x3 at *
      clear htk hts hI
      go_wp2_with fail
      refine H.out.mono ?_
      rintro e w1 ⟨rfl, hb1⟩
      obtain ⟨z0, z1, z2, c0, c1, c2, f0, f1, f2, hF⟩ := HS.out w1 hb1
      have HF := Lib.hid hF
      clear hF hb1 HS H
      go_wp2
      go_roundw
      case rel => exact ⟨k + 1, by go_num, by omega, HF⟩
      case measure => simp [intOf]; omega
    · obtain rfl : k = n := by omega
      have HD := hI.out.done
      rw [List.take_of_length_le (by rw [HN.out]; exact Nat.le_refl _)] at HD
      have HB := Lib.hid hI.out.below
      clear hI
      have HDD := Lib.hid HD
      clear HD
      go_wp2
      go_ret
      exact ⟨⟨_, by rw [HN.out]; rfl, HDD.out⟩, HB.out⟩

set_option maxHeartbeats 1000000 in
set_option maxRecDepth 100000 in
theorem eqKeyS_same (w : World) (a b : Option Addr) (c d : Nat) (l : List KeyD) (hx : KeysAt w a l) (hy : KeysAt w b l) (hm : l.length ≤ maxLen) :
    Calls Try.prog 28 #[.slice a l.length c, .slice b l.length d] w fun e w' => e = .returned (.bool true) ∧ Below w.heap.size w w' := by
  unfold maxLen at hm
  have HX := Lib.hid hx
  have HY := Lib.hid hy
  clear hx hy
  generalize hn : l.length = n at *
  have HN := Lib.hid hn
  clear hn
  go_enter Try.func28, Try.ntmps28
  go_wp2
  go_loopw [5] (fun i wr => ∃ (k : Nat), k ≤ n ∧ i = .int .i64 k ∧ Hid (Below w.heap.size w wr)) (fun i _ => n - (intOf i).toNat)
  case atStart => exact ⟨0, Nat.zero_le _, rfl, Below.refl _ _⟩
  case round =>
    obtain ⟨k, hk, rfl, hB⟩ := hrel
    by_cases hlt : k < n
    · obtain ⟨y, rfl, h1, h2, h3⟩ := (HX.out.below hB.out) k (by rw [HN.out]; exact hlt)
      obtain ⟨z, rfl, j1, j2, j3⟩ := (HY.out.below hB.out) k (by rw [HN.out]; exact hlt)
      generalize l[k]'(by rw [HN.out]; exact hlt) = x at h1 h2 h3 j1 j2 j3
      have H := Lib.hid (eqKey_same wr.drew x.1 x.2.1 x.2.2)
      unfold keyV at H
      generalize x.1 = x1 at *
      generalize x.2.1 = x2 at *
      generalize x.2.2 = x3 at *
      go_wp2
      go_region_held3 (fun w' => (w'.cell? (y.add (k * 3)) = some (.int .i64 x1) ∧ w'.cell? (keyField y k 1) = some (.int .i64 x2) ∧ w'.cell? (keyField y k 2) = some (.string x3)) ∧ w'.cell? (z.add (k * 3)) = some (.int .i64 x1) ∧ w'.cell? (keyField z k 1) = some (.int .i64 x2) ∧ w'.cell? (keyField z k 2) = some (.string x3))
        (first
          | go_keep
          | (refine ⟨⟨cell_below ?_ hbl, cell_below ?_ hbl, cell_below ?_ hbl⟩, cell_below ?_ hbl, cell_below ?_ hbl, cell_below ?_ hbl⟩ <;> assumption))
        (first
          | (go_at_call 21; refine H.out.mono ?_; rintro e w1 ⟨rfl, hbl⟩))
      have HB1 : Hid (Below w.heap.size w w1) := hB.out.trans ((below_of_drew hbl).mono hB.out.size)
      clear hbl H
      go_wp2
      go_roundw
      case rel => exact ⟨k + 1, by omega, by go_num, HB1⟩
      case measure => simp [intOf]; omega
    · go_wp2
      go_ret
      exact ⟨rfl, hB.out⟩
end Go.Proofs.Ytcalgjggmgnofaa
