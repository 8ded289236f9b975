/- What is proved here: a piece of the proof of YtdilegbigaahnaaGreatExactIsValueOf (SpecLives, Num, MarkText, Marks, Owned, ImplSort, TwoRows, MapSets). Condition: none beyond what each part says. -/
import Derived.Test.YtdilegbigaahnaaGreatVo09
import Derived.Lib.ItoaNum
import Derived.Lib.ItoaMem
import Derived.Test.YtdilegbigaahnaaGreatVo01
import Derived.Lib.ItoaLen
import Derived.Laws.IdiomStrings
import Derived.Laws.Concat
import Derived.Deep.RegionHeld3
import Derived.Test.YtdilegbigaahnaaGreatVo03
import Derived.Sort.OwnSorted
import Derived.Sort.Grow
import Derived.Lib.OwnBridge
import Derived.Test.YtdilegbigaahnaaGreatVo08
import Derived.Lib.SlMapMerge
import Derived.Maps.RangeWalk
import Derived.Laws.IdiomRangeMap

/- What is proved here: the model's l3Lives and l3Round (package spec): one round adds names of types that have values, and where it adds none the list is closed. Condition: the signature lies in memory as said, and is small. -/
section
namespace Go.Proofs.YtdilegbigaahnaaGreat
open Go.RowKit

/-- What a row of texts of the call's own holds reads. -/
theorem owned_reads {w : World} {B : Nat} {v : Value} {n : Nat} {xs : List ByteArray} (h : w.ownsRow B 9 1 v n (xs.map Value.string)) : n = xs.length ∧ ∃ a cap, v = .slice a xs.length cap ∧ Reads w a xs := by
  have hl : n = xs.length := by simpa using h.1.symm
  refine ⟨hl, ?_⟩
  subst hl
  rcases h.2 with ⟨e1, e2⟩ | ⟨g, cap, cur, rfl, _⟩
  · have e3 : xs = [] := List.eq_nil_of_length_eq_zero e2
    subst e3
    exact ⟨none, 0, e1, fun j hj => absurd hj (by simp)⟩
  · obtain ⟨g2, cap2, rest, hv, _, hb, _⟩ := block_of_owned h (by intro e; cases e)
    injection hv with h1 h2 h3
    injection h1 with h1
    injection h1 with h1
    subst h1
    exact ⟨_, _, rfl, hb.reads⟩

theorem basic_cases (x : ByteArray) : (isBasic x = true ∧ (x.toList == [105, 110, 116]) = true) ∨ (isBasic x = true ∧ (x.toList == [105, 110, 116]) = false ∧ (x.toList == [116, 101, 120, 116]) = true) ∨ (isBasic x = false ∧ (x.toList == [105, 110, 116]) = false ∧ (x.toList == [116, 101, 120, 116]) = false) := by
  unfold isBasic
  cases (x.toList == [105, 110, 116]) <;> cases (x.toList == [116, 101, 120, 116]) <;> simp

set_option maxHeartbeats 1000000 in
set_option maxRecDepth 100000 in
theorem spec_lives (w : World) (c : ConD) (u v : Value) (a : Option Addr) (cap : Nat) (xs : List ByteArray) (hx : ConAt w c u v) (hm : c.args.length ≤ 1048576) (hl : Reads w a xs) (hml : xs.length ≤ 1048576) :
    Calls Tryz.prog 94 #[.agg #[u, v], .slice a xs.length cap] w fun e w' => e = .returned (.bool (bl (conOk (· ∈ xs) c))) ∧ Below w.heap.size w w' := by
  obtain ⟨a2, cap2, rfl, rfl, hr⟩ := hx
  obtain ⟨w2, h2⟩ : ∃ w2, w2 = w.alloc (.cells #[.string c.name, .slice a2 c.args.length cap2] 73) := ⟨_, rfl⟩
  have hB : Below w.heap.size w w2 := by rw [h2]; exact (Below.refl _ _).alloc (Nat.le_refl _) _
  have hp0 : w2.heap[w.heap.size]? = some (.cells #[.string c.name, .slice a2 c.args.length cap2] 73 (0, 0)) := by rw [h2]; exact heap_at_new w _
  obtain ⟨_, q0, _, _⟩ := two_cells hp0
  have HR := Lib.hid (reads_below hr hB)
  have HI := fun x => spec_index w2 a cap xs x (reads_below hl hB) (by unfold maxLen; omega)
  have HB := Lib.hid hB
  have H2 := Lib.hid h2
  clear hr hB hp0 hl h2
  generalize hn : c.args.length = n at *
  have HN := Lib.hid hn
  clear hn
  go_enter Tryz.func94, Tryz.ntmps94
  go_wp2
  rw [← H2.out]
  go_loop [5] (fun i => ∃ (k : Nat), k ≤ n ∧ i = .int .i64 k ∧ Hid (∀ (j : Nat) y, j < k → c.args[j]? = some y → argOk (· ∈ xs) y)) (fun i => n - (intOf i).toNat)
  case atStart => exact ⟨0, Nat.zero_le _, rfl, fun j _ h => by omega⟩
  case round =>
    obtain ⟨k, hk, rfl, hne⟩ := hrel
    by_cases hlt : k < n
    · have hk' : k < c.args.length := by rw [HN.out]; exact hlt
      obtain ⟨y, rfl, hc⟩ := HR.out k hk'
      have hltz : (k : Int) < (n : Int) := by omega
      have hx : c.args[k]? = some c.args[k] := List.getElem?_eq_getElem hk'
      generalize c.args[k] = x at hx hc
      have HXE := Lib.hid hx
      clear hx
      rcases basic_cases x with ⟨hb, h1⟩ | ⟨hb, h1, h3⟩ | ⟨hb, h1, h3⟩
      · have HA : Hid (argOk (· ∈ xs) x) := .inl hb
        clear hb
        go_wp2
        go_round
        case rel => exact ⟨k + 1, by omega, by go_num, before_succ' hne.out HXE.out HA.out⟩
        case measure => simp [intOf]; omega
      · have HA : Hid (argOk (· ∈ xs) x) := .inl hb
        clear hb
        go_wp2
        go_round
        case rel => exact ⟨k + 1, by omega, by go_num, before_succ' hne.out HXE.out HA.out⟩
        case measure => simp [intOf]; omega
      · have H := HI x
        have hmem := idx_mem xs x
        have hlo := idx_lo xs x
        by_cases hz : Lib.idxOfS xs x < 0
        · have HRES : Hid (bl (conOk (· ∈ xs) c) = false) := bl_false (fun h => by
            obtain ⟨h4, h5⟩ := List.getElem?_eq_some_iff.1 HXE.out
            rcases h x (h5 ▸ List.getElem_mem h4) with h6 | h6
            · rw [hb] at h6; cases h6
            · exact (hmem.1 hz) h6)
          have hz' : decide (Lib.idxOfS xs x < 0) = true := decide_eq_true hz
          clear hmem hz hb
          generalize Lib.idxOfS xs x = z at *
          go_wp2_with fail
          refine H.mono ?_
          rintro e w1 ⟨rfl, rfl⟩
          go_wp2
          go_ret
          exact ⟨by rw [HRES.out]; rfl, HB.out⟩
        · have HA : Hid (argOk (· ∈ xs) x) := .inr (Classical.not_not.1 (fun h => hz (hmem.2 h)))
          have hz' : decide (Lib.idxOfS xs x < 0) = false := decide_eq_false hz
          clear hmem hz hb
          generalize Lib.idxOfS xs x = z at *
          go_wp2_with fail
          refine H.mono ?_
          rintro e w1 ⟨rfl, rfl⟩
          go_wp2
          go_round
          case rel => exact ⟨k + 1, by omega, by go_num, before_succ' hne.out HXE.out HA.out⟩
          case measure => simp [intOf]; omega
    · have HRES : Hid (bl (conOk (· ∈ xs) c) = true) := bl_true (fun x hx => by
        obtain ⟨j, hj, e⟩ := List.mem_iff_getElem.1 hx
        exact hne.out j x (by have := HN.out; omega) (by rw [List.getElem?_eq_getElem hj, e]))
      go_wp2
      go_ret
      exact ⟨by rw [HRES.out]; rfl, HB.out⟩
end Go.Proofs.YtdilegbigaahnaaGreat
end

/- Plain facts on decimal numerals: the numeral of u is that of u / 10 with the last digit behind it. No condition. -/
section
namespace Go.Proofs.YtdilegbigaahnaaGreat
open Go.Lib

/-- The digits of u, none for 0. -/
def digitsOf (u : Nat) : List UInt8 := if u = 0 then [] else decDigits u

theorem digitsOf_zero : digitsOf 0 = [] := if_pos rfl
theorem digitsOf_pos {u : Nat} (h : u ≠ 0) : digitsOf u = decDigits u := if_neg h
theorem digitsOf_step {u : Nat} (h : u ≠ 0) : digitsOf u = digitsOf (u / 10) ++ [UInt8.ofNat (48 + u % 10)] := by
  rw [digitsOf_pos h, decDigits]
  by_cases h1 : u < 10
  · rw [dif_pos h1, show u / 10 = 0 by omega, digitsOf_zero, show u % 10 = u by omega]; rfl
  · rw [dif_neg h1, digitsOf_pos (by omega)]
theorem digitsOf_le (u : Nat) : (digitsOf u).length ≤ nDigits u := by
  by_cases h : u = 0
  · rw [h, digitsOf_zero]; simp
  · rw [digitsOf_pos h, decDigits_length]; exact Nat.le_refl _

end Go.Proofs.YtdilegbigaahnaaGreat
end

/- What is proved here: the laws' helper that makes a marked text (markText). Condition: small numbers. -/
section
namespace Go.Proofs.YtdilegbigaahnaaGreat
open Go.RowKit
open Go.Lib (decDigits nDigits)

theorem conv_digit (d : Nat) (hd : d < 10) (w : World) :
    (convert 123 9 (.slice (some ⟨w.heap.size, 0, none⟩) 1 1)).run Tryz.prog (w.alloc (.cells #[.int .u8 (48 + (d : Int))] 5)) = .ok (.string ⟨#[UInt8.ofNat (48 + d)]⟩) (w.alloc (.cells #[.int .u8 (48 + (d : Int))] 5)) := by
  have h := run_convert_bytes_back (P := Tryz.prog) (w.alloc (.cells #[.int .u8 (48 + (d : Int))] 5)) 123 9 5 ⟨w.heap.size, 0, none⟩ 1 [UInt8.ofNat (48 + d)] Tryz.underlying123 Tryz.underlying5 Tryz.underlying9 (fun j hj => by
    have hj0 : j = 0 := by simpa using hj
    subst hj0
    have e : ((UInt8.ofNat (48 + d)).toNat : Int) = 48 + (d : Int) := by simp; omega
    rw [Lib.add_plain]
    simp only [List.getElem_cons_zero]
    rw [e]
    simp [World.cell?_alloc_new])
  simpa using h
theorem cat_digit (c : UInt8) (L : List UInt8) (h : L.length ≤ 100) (w : World) : (Op.stringOp .add ⟨#[c]⟩ ⟨L.toArray⟩).run Tryz.prog w = .ok (.string ⟨(c :: L).toArray⟩) w := by
  have e1 : (ByteArray.mk #[c]).size = 1 := rfl
  have e2 : (ByteArray.mk L.toArray).size = L.length := by show L.toArray.size = _; simp
  rw [run_string_add_sum w _ _ (by rw [e1, e2]; omega)]
  rfl

/-- The mark of k. -/
def mt (k : Nat) : ByteArray := ⟨(109 :: decDigits k).toArray⟩

set_option maxHeartbeats 400000 in
set_option maxRecDepth 100000 in
theorem markText_any (n : Nat) (hp : 1 ≤ n) (h1 : n ≤ 4294967296) (w : World) :
    Calls Tryz.prog 65 #[.int .i64 (n : Int)] w fun e w' => e = .returned (.string (mt n)) ∧ Below w.heap.size w w' := by
  have hn20 : (decDigits n).length ≤ 20 := by rw [Lib.decDigits_length]; exact Lib.nDigits_le20 n (by omega)
  have hcm := cat_digit 109 (decDigits n) (by omega)
  have HN := Lib.hid hn20
  clear hn20
  go_enter Tryz.func65, Tryz.ntmps65
  go_wp2
  go_loopw [0, 3] (fun a o wr => ∃ (u : Nat) (L : List UInt8), a = .int .i64 u ∧ u ≤ n ∧ o = .string ⟨L.toArray⟩ ∧ L.length ≤ 20 ∧ digitsOf u ++ L = decDigits n ∧ Below w.heap.size w wr) (fun a _ _ => (intOf a).toNat)
  case atStart => exact ⟨n, [], rfl, Nat.le_refl _, rfl, by simp, by simp [digitsOf_pos (show n ≠ 0 by omega)], Below.refl _ _⟩
  case round =>
    obtain ⟨u, L, rfl, hu, rfl, hL, hD, hb⟩ := hrel
    by_cases h0 : u = 0
    · subst h0
      rw [digitsOf_zero] at hD
      simp at hD
      subst hD
      go_wp2
      go_ret
      exact ⟨rfl, hb⟩
    · have hD' := Lib.hid hD
      clear hD
      have hcv := conv_digit (u % 10) (by omega) wr
      have hct := cat_digit (UInt8.ofNat (48 + u % 10)) L (by omega)
      have hpos : 0 < u := by omega
      simp only [Int.natCast_emod, Int.cast_ofNat_Int] at hcv
      go_wp2
      go_roundw
      case rel =>
        refine ⟨u / 10, _, by go_num, by omega, rfl, ?_, ?_, ?_⟩
        · have := hD'.out
          rw [digitsOf_step h0] at this
          have h2 := congrArg List.length this
          have h3 := HN.out
          simp at h2 ⊢
          omega
        · have := hD'.out
          rw [digitsOf_step h0] at this
          simpa using this
        · exact hb.alloc (by have := hb.size; omega) _
      case measure => simp [intOf]; omega
end Go.Proofs.YtdilegbigaahnaaGreat
end

/- What is proved here: the laws' helper that marks the texts of a slice (markStringS). Conditions: the slice lies in a block of the call's own; small numbers. -/
section
namespace Go.Proofs.YtdilegbigaahnaaGreat
open Go.RowKit
open Go.Lib (decDigits nDigits)

/-- n marks from k on. -/
def marks (k n : Nat) : List ByteArray := (List.range n).map fun j => mt (k + j)
theorem marks_length (k n : Nat) : (marks k n).length = n := by simp [marks]
theorem marks_at (k n j : Nat) (h : j < (marks k n).length) : (marks k n)[j] = mt (k + j) := by simp [marks]

/-- A row that is being marked: j of its texts are. -/
def marking (xs : List ByteArray) (k j : Nat) : List Value := (marks k j).map Value.string ++ (xs.drop j).map Value.string
theorem marking_length (xs : List ByteArray) (k j : Nat) (h : j ≤ xs.length) : (marking xs k j).length = xs.length := by simp [marking, marks]; omega
theorem marking_set (xs : List ByteArray) (k j : Nat) (h : j < xs.length) : (marking xs k j).set j (.string (mt (k + j))) = marking xs k (j + 1) := by
  unfold marking
  have e : ((marks k j).map Value.string).length = j := by simp [marks]
  rw [List.set_append_right j _ (by omega), e, Nat.sub_self, List.drop_eq_getElem_cons h, List.map_cons, List.set_cons_zero]
  simp [marks, List.range_succ]
theorem marking_start (xs : List ByteArray) (k : Nat) : marking xs k 0 = xs.map Value.string := by simp [marking, marks]
theorem marking_full (xs : List ByteArray) (k : Nat) : marking xs k xs.length = (marks k xs.length).map Value.string := by simp [marking]

set_option maxHeartbeats 1000000 in
set_option maxRecDepth 100000 in
theorem markS_any (w : World) (g cap k : Nat) (xs : List ByteArray) (hb : w.heap[g]? = some (.cells (xs.map Value.string).toArray 9 (0, 0))) (hm : xs.length ≤ 1048577) (hk : 1 ≤ k) (hk2 : k ≤ 1048576) :
    Calls Tryz.prog 89 #[.slice (some ⟨g, 0, none⟩) xs.length cap, .int .i64 (k : Int)] w fun e w' =>
      e = .returned (.int .i64 ((k + xs.length : Nat) : Int)) ∧ w'.heap[g]? = some (.cells ((marks k xs.length).map Value.string).toArray 9 (0, 0)) ∧ w.grownBy w' (some g) := by
  have hlt : g < w.heap.size := by
    rcases Nat.lt_or_ge g w.heap.size with h | h
    · exact h
    · rw [Array.getElem?_eq_none h] at hb
      cases hb
  rw [← marking_start xs k] at hb
  have HB := Lib.hid hb
  clear hb
  generalize hn : xs.length = n at *
  have HN := Lib.hid hn
  clear hn
  go_enter Tryz.func89, Tryz.ntmps89
  go_wp2
  go_loopw [1, 5] (fun q i wr => ∃ j : Nat, j ≤ n ∧ i = .int .i64 j ∧ q = .int .i64 ((k + j : Nat) : Int) ∧ wr.heap[g]? = some (.cells (marking xs k j).toArray 9 (0, 0)) ∧ w.grownBy wr (some g)) (fun _ i _ => n - (intOf i).toNat)
  case atStart => exact ⟨0, Nat.zero_le _, rfl, rfl, HB.out, World.grownBy.refl _ _⟩
  case round =>
    obtain ⟨j, hj, rfl, rfl, hb, hg⟩ := hrel
    by_cases hlt2 : j < n
    · have hj2 : j < xs.length := by rw [HN.out]; exact hlt2
      have HB2 := Lib.hid hb
      have HG := Lib.hid hg
      clear hb hg
      go_wp2_with fail
      refine (markText_any (k + j) (by omega) (by omega) _).mono ?_
      rintro e w1 ⟨rfl, hbl⟩
      have hgs := HG.out.size
      have hb1 : w1.heap[g]? = some (.cells (marking xs k j).toArray 9 (0, 0)) := by rw [hbl.block g (by omega)]; exact HB2.out
      have hg1 : w.grownBy w1 (some g) := HG.out.trans ⟨hbl.os, hbl.tape, hbl.output, hbl.size, fun i hi _ => hbl.block i hi⟩
      have hcell := cells_cell hb1 j (by rw [marking_length xs k j (by omega)]; exact hj2)
      have hfree := cells_free hb1 j
      have hset := cells_set hb1 j (.string (mt (k + j)))
      rw [marking_set xs k j hj2] at hset
      have hgset : w.grownBy (w1.setCell ⟨g, j, none⟩ (.string (mt (k + j)))) (some g) := hg1.trans ⟨rfl, rfl, rfl, by simp [World.setCell], fun i _ hne => Below.heap_setCell w1 ⟨g, j, none⟩ _ i (fun e => hne (by rw [e]))⟩
      have HS := Lib.hid hset
      have HGS := Lib.hid hgset
      clear hb1 hg1 hset hgset
      generalize (marking xs k j)[j]'(by rw [marking_length xs k j (by omega)]; exact hj2) = u at hcell
      go_wp2
      go_roundw
      case rel => exact ⟨j + 1, by omega, by go_num, by go_num, HS.out, HGS.out⟩
      case measure => simp [intOf]; omega
    · obtain rfl : j = n := by omega
      go_wp2
      go_ret
      refine ⟨rfl, ?_, hg⟩
      rw [hb, ← HN.out, marking_full]
end Go.Proofs.YtdilegbigaahnaaGreat
end

/- What is proved here: texts in a block of the call's own with room behind them (what append and the library's Compact leave): read, marked. Conditions: small numbers. -/
section
namespace Go.Proofs.YtdilegbigaahnaaGreat
open Go.RowKit

/-- A slice of the texts ys in a block of the call's own comes back; nothing that was there has changed. -/
def OutTexts (w : World) (ys : List ByteArray) (e : Ending) (w' : World) : Prop :=
  ∃ g cap rest, w.heap.size ≤ g ∧ e = .returned (.slice (some ⟨g, 0, none⟩) ys.length cap) ∧ Block w' g ys rest ∧ Below w.heap.size w w'
theorem out_new {w w' : World} {ys : List ByteArray} {e : Ending} (h : NewTexts w ys e w') : OutTexts w ys e w' := by
  obtain ⟨g, hg, he, hb, hB⟩ := h
  exact ⟨g, _, [], hg, he, by unfold Block; rw [List.append_nil]; exact hb, hB⟩

/-- A row that is being marked, with what lies behind it. -/
theorem marking_set2 (xs : List ByteArray) (rest : List Value) (k j : Nat) (h : j < xs.length) : (marking xs k j ++ rest).set j (.string (mt (k + j))) = marking xs k (j + 1) ++ rest := by
  rw [List.set_append_left j _ (by rw [marking_length xs k j (by omega)]; exact h), marking_set xs k j h]

set_option maxHeartbeats 1000000 in
set_option maxRecDepth 100000 in
theorem markB_any (w : World) (g cap k : Nat) (xs : List ByteArray) (rest : List Value) (hb : Block w g xs rest) (hm : xs.length ≤ 1048577) (hk : 1 ≤ k) (hk2 : k ≤ 4194304) :
    Calls Tryz.prog 89 #[.slice (some ⟨g, 0, none⟩) xs.length cap, .int .i64 (k : Int)] w fun e w' =>
      e = .returned (.int .i64 ((k + xs.length : Nat) : Int)) ∧ Block w' g (marks k xs.length) rest ∧ w.grownBy w' (some g) := by
  have hlt : g < w.heap.size := hb.lt
  unfold Block at hb ⊢
  rw [← marking_start xs k] at hb
  have HB := Lib.hid hb
  clear hb
  generalize hn : xs.length = n at *
  have HN := Lib.hid hn
  clear hn
  go_enter Tryz.func89, Tryz.ntmps89
  go_wp2
  go_loopw [1, 5] (fun q i wr => ∃ j : Nat, j ≤ n ∧ i = .int .i64 j ∧ q = .int .i64 ((k + j : Nat) : Int) ∧ wr.heap[g]? = some (.cells (marking xs k j ++ rest).toArray 9 (0, 0)) ∧ w.grownBy wr (some g)) (fun _ i _ => n - (intOf i).toNat)
  case atStart => exact ⟨0, Nat.zero_le _, rfl, rfl, HB.out, World.grownBy.refl _ _⟩
  case round =>
    obtain ⟨j, hj, rfl, rfl, hb, hg⟩ := hrel
    by_cases hlt2 : j < n
    · have hj2 : j < xs.length := by rw [HN.out]; exact hlt2
      have HB2 := Lib.hid hb
      have HG := Lib.hid hg
      clear hb hg
      go_wp2_with fail
      refine (markText_any (k + j) (by omega) (by omega) _).mono ?_
      rintro e w1 ⟨rfl, hbl⟩
      have hgs := HG.out.size
      have hb1 : w1.heap[g]? = some (.cells (marking xs k j ++ rest).toArray 9 (0, 0)) := by rw [hbl.block g (by omega)]; exact HB2.out
      have hg1 : w.grownBy w1 (some g) := HG.out.trans ⟨hbl.os, hbl.tape, hbl.output, hbl.size, fun i hi _ => hbl.block i hi⟩
      have hle : j < (marking xs k j ++ rest).length := by rw [List.length_append, marking_length xs k j (by omega)]; omega
      have hcell := cells_cell hb1 j hle
      have hfree := cells_free hb1 j
      have hset := cells_set hb1 j (.string (mt (k + j)))
      rw [marking_set2 xs rest k j hj2] at hset
      have hgset : w.grownBy (w1.setCell ⟨g, j, none⟩ (.string (mt (k + j)))) (some g) := hg1.trans ⟨rfl, rfl, rfl, by simp [World.setCell], fun i _ hne => Below.heap_setCell w1 ⟨g, j, none⟩ _ i (fun e => hne (by rw [e]))⟩
      have HS := Lib.hid hset
      have HGS := Lib.hid hgset
      clear hb1 hg1 hset hgset
      generalize (marking xs k j ++ rest)[j]'hle = u at hcell
      clear hle
      go_wp2
      go_roundw
      case rel => exact ⟨j + 1, by omega, by go_num, by go_num, HS.out, HGS.out⟩
      case measure => simp [intOf]; omega
    · obtain rfl : j = n := by omega
      go_wp2
      go_ret
      refine ⟨rfl, ?_, hg⟩
      rw [hb, ← HN.out, marking_full]
end Go.Proofs.YtdilegbigaahnaaGreat
end

/- What is proved here: the program's SortNames gives the texts sorted, each once, in a block of its own; its AllDistinct says whether they are distinct. Condition: at most 1048576 texts, in a block of the call's own. -/
section
namespace Go.Proofs.YtdilegbigaahnaaGreat
open Go.RowKit Go.Sort

theorem reads_cells {w : World} {g : Nat} {xs : List ByteArray} (hx : Reads w (some ⟨g, 0, none⟩) xs) : ∀ j, j < xs.length → w.cell? ⟨g, 0 + j, none⟩ = some (.string (xs.getD j ByteArray.empty)) := by
  intro j hj
  obtain ⟨y, hy, hc⟩ := hx j hj
  injection hy with hy
  subst hy
  have e1 : (⟨g, 0, none⟩ : Addr).add j = ⟨g, 0 + j, none⟩ := by simp [Addr.add]; intro h; omega
  rw [e1] at hc
  rw [hc, getD_at _ _ hj]

/-- Behind slices.Clone and slices.Sort. -/
theorem after_sort {B : Nat} {w w1 w2 : World} {g n cap nn : Nat} {os : Array Obj} {ss zs : List (List UInt8)} (hl : zs.length = ss.length) (hn : ss.length = n) (hown : w1.ownsRow B 9 1 (.slice (some ⟨g, 0, none⟩) n cap) n (ss.map encStr)) (hbel : Below B w w1) (hs : B ≤ w1.heap.size)
    (he : w2 = grow (putRow encStr (Sort.ahead w1 nn) g 0 zs.toArray) os) :
    w2.ownsRow B 9 1 (.slice (some ⟨g, 0, none⟩) n cap) n (zs.map encStr) ∧ Below B w w2 := by
  subst hn
  subst he
  rcases hown.2 with ⟨h0, _⟩ | ⟨g', cap', cur, hv, hbase, hb, h1, h2, h3, h4⟩
  · cases h0
  cases hv
  exact ⟨ownsRow_sorted (n := nn) (os := os) hl hbase hb h1 h2 h3, hbel.grown (grownBy_sorted _) hs (fun j hj => by cases hj; exact hbase)⟩

set_option maxHeartbeats 1000000 in
set_option maxRecDepth 100000 in
theorem impl_sort (w : World) (g cap : Nat) (xs : List ByteArray) (hx : Reads w (some ⟨g, 0, none⟩) xs) (hm : xs.length ≤ 1048576) :
    Calls Tryz.prog 76 #[.slice (some ⟨g, 0, none⟩) xs.length cap] w (OutTexts w (sorted xs)) := by
  have H := Tryz.slices_Clone_string g 0 xs.length cap xs w (Nat.le_refl _) (by omega) (reads_cells hx)
  rw [List.take_length] at H
  clear hx
  go_enter Tryz.func76, Tryz.ntmps76
  go_wp2_with fail
  refine H.mono ?_
  rintro e w1 ⟨v1, rfl, hown, hnn, hbel⟩
  rw [← Lib.map_encStr] at hown
  obtain ⟨g1, cap1, rfl, hbg, hgl, hncap, hcm, hlen, hH⟩ := Lib.holds_of_ownsRow hown hnn
  have hsort := Tryz.slices_Sort_string g1 0 cap1 (xs.map key) w1 hH hgl (by rw [hlen]; omega)
  rw [hlen] at hsort
  have HO := Lib.hid hown
  have HL := Lib.hid hlen
  have HB := Lib.hid hbel
  clear hown hlen hH hbel hnn H
  have hkey := sorted_key xs
  have hzl := List.length_mergeSort (le := fun x y : List UInt8 => decide (x ≤ y)) (xs.map key)
  generalize (xs.map key).mergeSort (fun x y => decide (x ≤ y)) = zs at hsort hkey hzl
  have HK := Lib.hid hkey
  have HZ := Lib.hid hzl
  clear hkey hzl
  go_wp2_with fail
  refine hsort.mono ?_
  rintro e w2 ⟨rfl, nn, os, he⟩
  obtain ⟨hown2, hB2⟩ := after_sort HZ.out HL.out HO.out HB.out HB.out.size he
  have hz : zs.length = xs.length := HZ.out.trans HL.out
  obtain ⟨_, _, hv2, _, _, _, _, _, hH2⟩ := Lib.holds_of_ownsRow hown2 (by simp)
  cases hv2
  have hcomp := Tryz.slices_Compact_string g1 0 cap1 zs w2 hH2 (by omega) (by omega)
  rw [hz] at hcomp
  have HO2 := Lib.hid hown2
  have HB2 := Lib.hid hB2
  have HZ2 := Lib.hid hz
  clear hown2 hB2 hz hH2 he hsort
  have hle := Lib.compact_length_le zs
  have hcl : (Lib.compact zs).length = (sorted xs).length := by rw [← HK.out, List.length_map]
  rw [hcl] at hcomp
  have HC := Lib.hid hcl
  have HE := Lib.hid hle
  clear hcl hle
  go_wp2_with fail
  refine hcomp.mono ?_
  rintro e w3 ⟨rfl, q, he⟩
  have hc := Lib.ownsRow_putRow (q := q) (k := (sorted xs).length) (ys := Lib.compact zs ++ List.replicate (xs.length - (sorted xs).length) []) HO2.out (by have := HZ2.out; have := HC.out; have := HE.out; simp; omega) (by have := HZ2.out; have := HC.out; have := HE.out; omega)
  rw [← HC.out, List.take_left, HC.out, ← HK.out, Lib.map_encStr, HK.out, ← he] at hc
  have hB3 : Below w.heap.size w w3 := by rw [he]; exact Lib.below_putRow HB2.out hbg
  obtain ⟨g3, cap3, rest, hv3, hg3, hblk, _⟩ := block_of_owned hc (by simp)
  cases hv3
  have HBL := Lib.hid hblk
  clear hc hcomp he hblk
  go_wp2
  go_ret
  exact ⟨g1, cap1, rest, hbg, rfl, HBL.out, hB3⟩

set_option maxHeartbeats 1000000 in
set_option maxRecDepth 100000 in
theorem impl_distinct (w : World) (g cap : Nat) (xs : List ByteArray) (hx : Reads w (some ⟨g, 0, none⟩) xs) (hm : xs.length ≤ 1048576) :
    Calls Tryz.prog 48 #[.slice (some ⟨g, 0, none⟩) xs.length cap] w fun e w' => e = .returned (.bool (bl (Distinct xs))) ∧ Below w.heap.size w w' := by
  have HD := distinct_iff_length (sorted_ok xs)
  have H := impl_sort w g cap xs hx hm
  have HQ : Hid (bl (Distinct xs) = (((sorted xs).length : Int) == (xs.length : Int))) := by
    unfold Hid
    by_cases h : Distinct xs
    · rw [bl_true h, HD.1 h]; simp
    · rw [bl_false h]
      symm
      exact beq_eq_false_iff_ne.2 (fun e => h (HD.2 (by omega)))
  have hle := sorted_length_le xs
  clear hx HD
  generalize (sorted xs) = ys at H HQ hle
  go_enter Tryz.func48, Tryz.ntmps48
  go_wp2_with fail
  refine H.mono ?_
  rintro e w1 ⟨g1, cap1, rest, hg, rfl, hb, hB⟩
  have HB := Lib.hid hb
  clear hb H
  go_wp2
  go_ret
  exact ⟨by rw [HQ.out]; rfl, hB⟩
end Go.Proofs.YtdilegbigaahnaaGreat
end

/- What is proved here: two rows of texts of the call's own that grow side by side; what a valid signature is. No condition. -/
section
namespace Go.Proofs.YtdilegbigaahnaaGreat
open Go.RowKit

def conNames (s : List TypeD) : List ByteArray := (s.map fun t => t.cons.map ConD.name).flatten
/-- All declarations are good by themselves, no more than four, no name twice, and each type has values. -/
def ValidSig (s : List TypeD) : Prop := (∀ t ∈ s, GoodT s t) ∧ s.length ≤ 4 ∧ Distinct (s.map TypeD.name) ∧ Distinct (conNames s) ∧ (inhabited s).length = s.length

/-- Two rows of texts that grow; the box of the signature at n0. -/
structure Two (w : World) (B n0 : Nat) (box : Value) (xs ys : List ByteArray) (v1 v2 : Value) (wr : World) : Prop where
  one : wr.ownsRow B 9 1 v1 xs.length (xs.map Value.string)
  two : wr.ownsRow B 9 1 v2 ys.length (ys.map Value.string)
  apart : v1.ownBlock = none ∨ v1.ownBlock ≠ v2.ownBlock
  apart2 : v2.ownBlock = none ∨ v2.ownBlock ≠ v1.ownBlock
  base : Below w.heap.size w wr
  box : wr.cell? ⟨n0, 0, none⟩ = some box
  low : n0 < B
  le : B ≤ wr.heap.size
  le0 : w.heap.size ≤ B
theorem Two.swap {w : World} {B n0 : Nat} {box : Value} {xs ys : List ByteArray} {v1 v2 : Value} {wr : World} (h : Two w B n0 box xs ys v1 v2 wr) : Two w B n0 box ys xs v2 v1 wr := ⟨h.two, h.one, h.apart2, h.apart, h.base, h.box, h.low, h.le, h.le0⟩
theorem own_below {w w' : World} {B : Nat} {v : Value} {n : Nat} {xs : List Value} (h : w.ownsRow B 9 1 v n xs) (hb : Below w.heap.size w w') : w'.ownsRow B 9 1 v n xs :=
  h.kept (row := none) ⟨hb.os, hb.tape, hb.output, hb.size, fun k hk _ => hb.block k hk⟩ (by cases hv : v.ownBlock <;> simp)
theorem Two.below {w : World} {B n0 : Nat} {box : Value} {xs ys : List ByteArray} {v1 v2 : Value} {wr w' : World} (h : Two w B n0 box xs ys v1 v2 wr) (hb : Below wr.heap.size wr w') : Two w B n0 box xs ys v1 v2 w' :=
  ⟨own_below h.one hb, own_below h.two hb, h.apart, h.apart2, h.base.trans (hb.mono h.base.size), cell_below h.box hb, h.low, Nat.le_trans h.le hb.size, h.le0⟩
theorem Two.app1 {w : World} {B n0 : Nat} {box : Value} {xs ys : List ByteArray} {v1 v2 : Value} {wr w' : World} (h : Two w B n0 box xs ys v1 v2 wr) {x : ByteArray} {g c : Nat} (ho : w'.ownsRow B 9 1 (.slice (some ⟨g, 0, none⟩) (xs.length + 1) c) (xs.length + 1) (xs.map Value.string ++ [.string x])) (hg : wr.grownBy w' v1.ownBlock) (hat : v1.ownBlock = some g ∨ g = wr.heap.size) :
    Two w B n0 box (xs ++ [x]) ys (.slice (some ⟨g, 0, none⟩) (xs.length + 1) c) v2 w' := by
  have hr : ∀ k, v1.ownBlock = some k → B ≤ k := fun k hk => (h.one.lt k hk).1
  have hne : v2.ownBlock ≠ some g := by
    intro e
    rcases hat with h1 | h1
    · rcases h.apart2 with h2 | h2
      · rw [h2] at e; cases e
      · exact h2 (by rw [e, h1])
    · have := (h.two.lt g e).2
      omega
  refine ⟨?_, h.two.kept hg h.apart2, .inr (fun e => hne e.symm), .inr hne, h.base.grown hg h.base.size (fun k hk => Nat.le_trans h.le0 (hr k hk)), hg.cell h.box (fun e => ?_), h.low, Nat.le_trans h.le hg.size, h.le0⟩
  · rw [List.length_append, List.map_append]
    exact ho
  · have := hr n0 e.symm
    have := h.low
    omega

theorem names_take (s : List TypeD) (k : Nat) (t : TypeD) (h : s[k]? = some t) : (s.take (k + 1)).map TypeD.name = (s.take k).map TypeD.name ++ [t.name] := by
  obtain ⟨hk, rfl⟩ := List.getElem?_eq_some_iff.1 h
  rw [List.take_succ_eq_append_getElem hk, List.map_append]
  rfl
theorem cons_take (s : List TypeD) (k : Nat) (t : TypeD) (h : s[k]? = some t) : conNames (s.take (k + 1)) = conNames (s.take k) ++ t.cons.map ConD.name := by
  obtain ⟨hk, rfl⟩ := List.getElem?_eq_some_iff.1 h
  unfold conNames
  rw [List.take_succ_eq_append_getElem hk, List.map_append, List.flatten_append]
  simp
theorem con_take (t : TypeD) (i : Nat) (c : ConD) (h : t.cons[i]? = some c) : (t.cons.take (i + 1)).map ConD.name = (t.cons.take i).map ConD.name ++ [c.name] := by
  obtain ⟨hk, rfl⟩ := List.getElem?_eq_some_iff.1 h
  rw [List.take_succ_eq_append_getElem hk, List.map_append]
  rfl
end Go.Proofs.YtdilegbigaahnaaGreat
end

/- What is proved here: sets of texts kept as maps from string to bool: what a look-up finds, len, clear, and the library's maps.Copy. Conditions: the texts' lengths are lengths. -/
section
namespace Go.Proofs.YtdilegbigaahnaaGreat
open Go.RowKit Go.Maps Go.ChangeMaps

/-- Block b is a map of n entries at most in which the texts of S, and they alone, have true. -/
def HasSet (w : World) (b n : Nat) (S : ByteArray → Prop) : Prop := ∃ D, w.ownsMap Tryz.prog 9 (plainElem (H := Unit) Tryz.prog 4) b n D ∧ ∀ s, has D (strLit s) = bl (S s) ∧ D.atKey (strLit s) no = .lit (.bool (bl (S s)))

set_option maxRecDepth 100000 in
theorem HasSet.look {w : World} {b n : Nat} {S : ByteArray → Prop} (h : HasSet w b n S) (s : ByteArray) (hs : s.size ≤ maxLen) : (Instr.lookup 111 (.map (some b)) (.string s) false).run Tryz.prog w = .ok (.bool (bl (S s))) w := by
  obtain ⟨D, ho, hD⟩ := h
  obtain ⟨v, ps, hrun, hv⟩ := World.ownsMap.lookup ho lawS Tryz.underlying111 (zeroB w) (plainElem_bool Tryz.underlying4 false) (keyS hs)
  rw [hrun]
  rw [(hD s).2] at hv
  have hvb : ∀ x : Bool, plainElem (H := Unit) Tryz.prog 4 v = some (.lit (.bool x), ps) → v = .bool x := by
    intro x h
    unfold plainElem at h
    rw [Tryz.underlying4] at h
    cases v <;> simp at h
    rw [h.1]
  rw [hvb _ hv]
set_option maxRecDepth 100000 in
theorem HasSet.kept {w w' : World} {b n : Nat} {S : ByteArray → Prop} {row : Option Nat} (h : HasSet w b n S) (hg : w.grownBy w' row) (hne : some b ≠ row) : HasSet w' b n S := by
  obtain ⟨D, ho, hD⟩ := h
  exact ⟨D, World.ownsMap.kept ho hg hne, hD⟩
theorem HasSet.below {w w' : World} {b n : Nat} {S : ByteArray → Prop} (h : HasSet w b n S) (hb : Below w.heap.size w w') : HasSet w' b n S :=
  h.kept (row := none) ⟨hb.os, hb.tape, hb.output, hb.size, fun k hk _ => hb.block k hk⟩ (by simp)
theorem HasSet.lt {w : World} {b n : Nat} {S : ByteArray → Prop} (h : HasSet w b n S) : b < w.heap.size := by
  obtain ⟨D, ho, _⟩ := h
  exact World.ownsMap.lt ho

theorem has_fold (s : ByteArray) : ∀ (xs : List ByteArray) (m : DataW Unit), IsMap m → has ((xs.map strLit).foldl (fun m x => m.put x yes) m) (strLit s) = (bl (s ∈ xs) || has m (strLit s))
  | [], m, _ => by rw [bl_false (by simp)]; simp
  | x :: r, m, hm => by
    rw [List.map_cons, List.foldl_cons, has_fold s r (m.put (strLit x) yes) (hm.put _ _)]
    by_cases hr : s ∈ r
    · rw [bl_true hr, bl_true (List.mem_cons_of_mem _ hr)]
      simp
    · rw [bl_false hr]
      by_cases e : s = x
      · subst e
        rw [has_put_same hm (strLit_key s), bl_true (by simp)]
        simp
      · rw [has_put_other (fun h => e (strLit_inj h)), bl_false (by simp [hr, e])]
theorem has_setOf (s : ByteArray) (xs : List ByteArray) : has (setOf yes (xs.map strLit)) (strLit s) = bl (s ∈ xs) := by
  rw [setOf, has_fold s xs _ isMap_empty]
  have : has (DataW.map [] : DataW Unit) (strLit s) = false := rfl
  rw [this, Bool.or_false]
theorem IsSet.has {w : World} {b n : Nat} {xs : List ByteArray} (h : IsSet w b n xs) : HasSet w b n (· ∈ xs) := ⟨_, h, fun s => ⟨has_setOf s xs, at_setOf s xs⟩⟩
theorem size_setOf (xs : List ByteArray) : Maps.size (setOf yes (xs.map strLit)) = 0 ↔ xs = [] := by
  constructor
  · intro h
    cases xs with
    | nil => rfl
    | cons x r =>
      have h1 := has_setOf x (x :: r)
      rw [bl_true (by simp)] at h1
      generalize setOf yes ((x :: r).map strLit) = D at h h1
      cases D with
      | map es =>
        cases es with
        | nil => cases h1
        | cons p q => simp [Maps.size] at h
      | _ => simp [Maps.has] at h1
  · rintro rfl
    rfl

theorem bl_or (p q : Prop) : bl (p ∨ q) = (bl p || bl q) := by
  by_cases h1 : p
  · rw [bl_true h1, bl_true (Or.inl h1)]
    rfl
  · by_cases h2 : q
    · rw [bl_false h1, bl_true h2, bl_true (Or.inr h2)]
      rfl
    · rw [bl_false h1, bl_false h2, bl_false (fun h => h.elim h1 h2)]
      rfl

/-- clear(m). -/
theorem IsSet.clear {w : World} {b n : Nat} {xs : List ByteArray} (h : IsSet w b n xs) (ty : TypeId) :
    ∃ w', (Builtin.clear_ #[111] ty #[.map (some b)]).run Tryz.prog w = .ok (.tuple #[]) w' ∧ IsSet w' b 0 [] ∧ w.grownBy w' (some b) := by
  obtain ⟨es, clock, hb, F, _, _⟩ := h
  refine ⟨setBlock w b (.map #[] clock), ?_, ⟨#[], clock, heap_setBlock_same hb _, ⟨by simp, MapKept.stamped_empty _, by simp⟩, Nat.le_refl _, rfl⟩, ⟨rfl, rfl, rfl, by simp [setBlock], fun k _ hne => heap_setBlock_other hb _ (fun e => hne (by rw [e]))⟩⟩
  simp [Builtin.clear_, run_underlying Tryz.underlying111, MapKept.run_getObj_map hb, MapKept.run_setObj_map _ hb, Result.andThen, setBlock]

theorem wpList_clear {ops : Array Oper} {rest : List Oper} {o : Oper} {a : Act} {w : World} {Q : Exit → Act → World → Prop} (hg : o.guard = none) (m : Operand) (hop : o.op = Op.call { callee := Callee.builtin Builtin.clear, args := #[m], argTypes := #[111] })
    (b n : Nat) (xs : List ByteArray) (hm : a.eval m = .map (some b)) (h : IsSet w b n xs) (hK : ∀ w', IsSet w' b 0 [] → w.grownBy w' (some b) → wpList Tryz.prog ops Q rest (a.put o.dst (.tuple #[])) w') :
    wpList Tryz.prog ops Q (o :: rest) a w := by
  refine wpList_plain hg fun K' hK' => ?_
  obtain ⟨w', hrun, r1, r2⟩ := h.clear o.type
  unfold Oper.wp
  simp [execOp, hop, resolve, invoke, builtin, hm, hrun, Result.andThen]
  exact hK' _ _ (hK w' r1 r2)

theorem set_size_le {w : World} {b n : Nat} {xs : List ByteArray} (h : IsSet w b n xs) : Maps.size (setOf yes (xs.map strLit)) ≤ n := World.ownsMap.size_le h

set_option maxHeartbeats 4000000 in
set_option maxRecDepth 100000 in
/-- maps.Copy of one set into another. -/
theorem copy_sets (bd bs nd ns : Nat) (S : ByteArray → Prop) (ys : List ByteArray) (w : World) (hd : HasSet w bd nd S) (hs : IsSet w bs ns ys) (hne : bd ≠ bs) (hroom : nd + ns ≤ maxLen) :
    Calls Tryz.prog 104 #[.map (some bd), .map (some bs)] w fun e w' => e = .returned (.tuple #[]) ∧ HasSet w' bd (nd + ns) (fun x => S x ∨ x ∈ ys) ∧ IsSet w' bs ns ys ∧ w.grownBy w' (some bd) := by
  obtain ⟨Dd, hd, hDd⟩ := hd
  have hDs := fun s => And.intro (has_setOf s ys) (at_setOf s ys)
  have hsz := set_size_le hs
  have hbd := World.ownsMap.lt hd
  have hbs := World.ownsMap.lt hs
  unfold IsSet at hs ⊢
  generalize setOf yes (ys.map strLit) = Ds at *
  have HD := Lib.hid hDd
  have HE := Lib.hid hDs
  clear hDd hDs
  go_enter Tryz.func104, Tryz.ntmps104
  go_wp2_with (first
    | (at_range; refine wpList_range_own _ rfl _ 111 rfl 9 4 lawS Tryz.underlying111 (plainElem (H := Unit) Tryz.prog 4) bs ns _ rfl hs ?_; intro w0 hrg0 hg0 hs0)
    | go_in)
  go_frame
  go_loopw [8] (fun _ wr => ∃ (left : Lit → Bool) (cnt : Nat) (Dout : DataW Unit), wr.ranges Tryz.prog 9 (plainElem (H := Unit) Tryz.prog 4) bs w.heap.size ns Ds left cnt ∧ cnt ≤ Maps.size Ds ∧
      wr.ownsMap Tryz.prog 9 (plainElem (H := Unit) Tryz.prog 4) bd (nd + (Maps.size Ds - cnt)) Dout ∧ Merged Dout Dd Ds left ∧ w.grownBy wr (some bd))
    (fun _ wr => wr.rangeLeft bs w.heap.size)
  case atStart =>
    exact ⟨_, _, Dd, hrg0, Nat.le_refl _, (hd.kept hg0 (by simp)).mono (by omega), merged_start Dd Ds, hg0.but _⟩
  case round =>
    obtain ⟨left, cnt, Dout, hrg, hcs, hout, hM, hgw⟩ := hrel
    go_wp2_with (first
      | (at_next; refine wpList_next_ranges _ rfl _ rfl 9 lawS (plainElem (H := Unit) Tryz.prog 4) id id (fun key _ _ => ⟨key, rfl⟩) (fun v _ _ => ⟨v, rfl⟩) bs w.heap.size ns _ _ _ rfl hrg ?_ ?_)
      | go_in)
    · intro hc0 hl0
      go_wp2
      go_end0
      subst hc0
      refine ⟨rfl, ⟨Dout, by simpa using hout.mono (by omega), fun s => ?_⟩, hrg.owns, hgw⟩
      have h1 := hM.1 (strLit s)
      have h2 := hM.2 (strLit s) no
      rw [hl0 (strLit s), (HD.out s).1, (HE.out s).1] at h1
      rw [hl0 (strLit s), (HD.out s).2, (HE.out s).1, (HE.out s).2] at h2
      show has Dout (strLit s) = bl (S s ∨ s ∈ ys) ∧ Dout.atKey (strLit s) no = .lit (.bool (bl (S s ∨ s ∈ ys)))
      rw [h1, h2, bl_or]
      generalize bl (S s) = q1
      generalize bl (s ∈ ys) = q2
      cases q1 <;> cases q2 <;> exact ⟨rfl, rfl⟩
    · intro x c kl yd yp w1 cnt1 hkey hlx hv hat hrg1 hlt hg1 hs1 hen
      have hout1 := hout.kept hg1 (fun e => by have := Option.some.inj e; omega)
      go_wp2_with (first
        | (at_mapUpdate; refine wpList_mapUpdate_own _ rfl _ _ _ 111 rfl 9 4 lawS Tryz.underlying111 (plainElem (H := Unit) Tryz.prog 4) bd _ _ rfl hout1 (by omega) _ _ _ rfl rfl hkey yd yp hv ?_; intro w2 hout2 hg2; go_frame)
        | go_in)
      have hrg2 := hrg1.kept hg2 (fun e => hne (Option.some.inj e).symm) (fun e => by have := Option.some.inj e; omega)
      go_roundw
      case rel =>
        exact ⟨_, cnt1, _, hrg2, by omega, hout2.mono (by omega), merged_step hM hout.isMap (lawS.key hkey) hat, (hgw.andThen hg1 (fun j hj => .inl (by cases hj; exact Nat.le_refl _))).andThen hg2 (fun j hj => .inr hj)⟩
      case measure => rw [hrg2.left_eq, hrg.left_eq]; exact hlt
end Go.Proofs.YtdilegbigaahnaaGreat
end
