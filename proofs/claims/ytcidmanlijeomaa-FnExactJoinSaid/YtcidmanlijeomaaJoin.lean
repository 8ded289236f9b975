/- What is proved here: spec.Join and impl.Join return the texts with the separator between them. Conditions: the slice reads as the list; the result is not greater than 2^46 bytes. -/
import Derived.Test.YtcidmanlijeomaaTexts
import Derived.Test.YtcidmanlijeomaaShelf
import Derived.Lib.AppendStr
import Derived.Lib.Join
import Derived.Laws.IdiomStrings
namespace Go.Proofs.Ytcidmanlijeomaa
open Go.RowKit

/-- The texts with the separator between them, as bytes. -/
def joined (xs : List ByteArray) (by' : ByteArray) : List UInt8 := Lib.join (xs.map (·.data.toList)) by'.data.toList
theorem joined_snoc (xs : List ByteArray) (b : ByteArray) (k : Nat) (h : k < xs.length) : joined (xs.take (k + 1)) b = joined (xs.take k) b ++ (if k = 0 then [] else b.data.toList) ++ xs[k].data.toList := by
  unfold joined
  rw [List.take_succ_eq_append_getElem h, List.map_append]
  cases k with
  | zero => simp [Lib.join, List.intercalate]
  | succ k =>
    cases xs with
    | nil => simp at h
    | cons x r =>
      simp only [List.take_succ_cons, List.map_cons, List.cons_append, Lib.join_cons]
      simp [Lib.joinTail]
theorem joined_zero (xs : List ByteArray) (b : ByteArray) : joined (xs.take 0) b = [] := rfl
theorem joined_le (xs : List ByteArray) (b : ByteArray) (k : Nat) : (joined (xs.take k) b).length ≤ (joined xs b).length := by
  by_cases h : k < xs.length
  · have e : ∀ m, k ≤ m → m ≤ xs.length → (joined (xs.take k) b).length ≤ (joined (xs.take m) b).length := by
      intro m
      induction m with
      | zero => intro h1 _; rw [show k = 0 by omega]; exact Nat.le_refl _
      | succ m ih =>
        intro h1 h2
        by_cases e : k = m + 1
        · rw [e]; exact Nat.le_refl _
        · have := ih (by omega) (by omega)
          rw [joined_snoc xs b m (by omega)]
          simp
          omega
    have := e xs.length (by omega) (Nat.le_refl _)
    rwa [List.take_length] at this
  · rw [List.take_of_length_le (by omega)]; exact Nat.le_refl _

def bytesOf (l : List UInt8) : List Value := l.map fun b => Value.int .u8 b.toNat
theorem bytesOf_append (l r : List UInt8) : bytesOf (l ++ r) = bytesOf l ++ bytesOf r := by simp [bytesOf]
theorem bytesOf_str (s : ByteArray) : Lib.strCells s = bytesOf s.data.toList := rfl

/-- The bytes collected so far: a row of the call's own. -/
structure Out (B : Nat) (w : World) (v : Value) (l : List UInt8) : Prop where
  own : w.ownsRow B 5 1 v l.length (bytesOf l)
  ne : v ≠ .slice none 0 0

set_option maxHeartbeats 1000000 in
set_option maxRecDepth 100000 in
theorem spec_join (w : World) (a : Option Addr) (cap : Nat) (xs : List ByteArray) (b : ByteArray) (hx : Reads w a xs) (hm : xs.length ≤ 1048576) (hj : (joined xs b).length ≤ 70368744177664) :
    Calls Try.prog 5 #[.slice a xs.length cap, .string b] w fun e w' => e = .returned (.string ⟨(joined xs b).toArray⟩) ∧ Below w.heap.size w w' := by
  have hi : (Try.prog.info? 5).map (fun i => (i.zero, i.size, i.bytes)) = some (some (.int .u8 0), 1, 1) := by kernel_rfl
  obtain ⟨i0, hi, hz0, hz1, hz2⟩ := info_parts hi
  have HX := Lib.hid hx
  have HJ := Lib.hid hj
  clear hx hj
  generalize hn : xs.length = n at *
  have HN := Lib.hid hn
  clear hn
  go_enter Try.func5, Try.ntmps5
  go_wp2
  go_loopw [5, 6] (fun v i wr => ∃ k : Nat, k ≤ n ∧ i = .int .i64 k ∧ Out w.heap.size wr v (joined (xs.take k) b) ∧ Below w.heap.size w wr) (fun _ i _ => n - (intOf i).toNat)
  case atStart =>
    refine ⟨0, Nat.zero_le _, rfl, ⟨?_, by simp⟩, (Below.refl _ _).alloc (Nat.le_refl _) _⟩
    exact World.ownsRow_lit w #[] 0 (Nat.le_refl _) (by unfold maxLen; omega) rfl
  case round =>
    obtain ⟨k, hk, rfl, ⟨hown, hne⟩, hB⟩ := hrel
    by_cases hlt : k < n
    · have hk' : k < xs.length := by rw [HN.out]; exact hlt
      obtain ⟨y, rfl, hc⟩ := reads_below HX.out hB k hk'
      have hsn := joined_snoc xs b k hk'
      have hle := joined_le xs b (k + 1)
      have hJ := HJ.out
      obtain ⟨x, hxe⟩ : ∃ x, x = xs[k] := ⟨_, rfl⟩
      rw [← hxe] at hc hsn
      have HXE := Lib.hid hxe
      clear hxe
      by_cases h0 : k = 0
      · have hz : ¬ 0 < k := by omega
        rw [if_pos h0, List.append_nil] at hsn
        have H0 := Lib.hid h0
        clear h0
        rw [hsn] at hle
        rw [List.length_append] at hle
        have hxs : x.data.toList.length = x.size := rfl
        have HS := Lib.hid hsn
        have HXS := Lib.hid hxs
        clear hsn hxs
        go_wp2_with (at_builtin; refine Lib.wpList_append_own_string _ rfl _ _ 28 9 rfl w.heap.size 5 i0 Try.underlying28 Try.underlying9 hi hz0 hz1 hz2 _ _ _ rfl hown x rfl ?c3 ?c4 ?c5 ?_)
        case c3 => have := HXS.out; unfold maxLen; omega
        case c4 => have := HXS.out; omega
        case c5 => have := hB.size; omega
        intro v' w1 hown1 hg1 hnil1
        have HO : Hid (Out w.heap.size w1 v' (joined (xs.take (k + 1)) b)) := by
          have e := HXS.out
          rw [bytesOf_str, ← bytesOf_append, ← HS.out, ← e, ← List.length_append, ← HS.out] at hown1
          exact ⟨hown1, fun h => hnil1 h⟩
        have hB1 : Below w.heap.size w w1 := hB.grown hg1 (by have := hB.size; omega) (fun j hj => (hown.lt j hj).1)
        clear hown1 hg1 hnil1 hown hne
        go_wp2
        go_roundw
        case rel => exact ⟨k + 1, by omega, by go_num, HO.out, hB1⟩
        case measure => simp [intOf]; omega
      · have hz : 0 < k := by omega
        rw [if_neg h0] at hsn
        have H0 := Lib.hid h0
        clear h0
        rw [hsn] at hle
        rw [List.length_append, List.length_append] at hle
        have hxs : x.data.toList.length = x.size := rfl
        have hbs : b.data.toList.length = b.size := rfl
        have HS := Lib.hid hsn
        have HXS := Lib.hid hxs
        have HBS := Lib.hid hbs
        clear hsn hxs hbs
        go_wp2_with (at_builtin; refine Lib.wpList_append_own_string _ rfl _ _ 28 9 rfl w.heap.size 5 i0 Try.underlying28 Try.underlying9 hi hz0 hz1 hz2 _ _ _ rfl hown b rfl ?c3 ?c4 ?c5 ?_)
        case c3 => have := HBS.out; have := HXS.out; unfold maxLen; omega
        case c4 => have := HBS.out; have := HXS.out; omega
        case c5 => have := hB.size; omega
        intro v1 w1 hown1 hg1 hnil1
        have hB1 : Below w.heap.size w w1 := hB.grown hg1 (by have := hB.size; omega) (fun j hj => (hown.lt j hj).1)
        have hown1' : w1.ownsRow w.heap.size 5 1 v1 (joined (xs.take k) b ++ b.data.toList).length (bytesOf (joined (xs.take k) b ++ b.data.toList)) := by
          have e := HBS.out
          rw [bytesOf_str, ← bytesOf_append, ← e, ← List.length_append] at hown1
          exact hown1
        have hne1 : v1 ≠ .slice none 0 0 := fun h => hnil1 h
        obtain ⟨y', hy', hc1⟩ := reads_below HX.out hB1 k hk'
        have hc1 : w1.cell? (y.add k) = some (.string x) := by
          injection hy' with hy'
          subst hy'
          rw [hc1, HXE.out]
        clear hown1 hg1 hnil1 hown hne hc hy'
        go_wp2_with (at_builtin; refine Lib.wpList_append_own_string _ rfl _ _ 28 9 rfl w.heap.size 5 i0 Try.underlying28 Try.underlying9 hi hz0 hz1 hz2 _ _ _ rfl hown1' x rfl ?c3 ?c4 ?c5 ?_)
        case c3 => have := HBS.out; have := HXS.out; rw [List.length_append]; unfold maxLen; omega
        case c4 => have := HBS.out; have := HXS.out; rw [List.length_append]; omega
        case c5 => have := hB1.size; omega
        intro v' w2 hown2 hg2 hnil2
        have HO : Hid (Out w.heap.size w2 v' (joined (xs.take (k + 1)) b)) := by
          have el : (joined (xs.take k) b).length + b.size + x.size = (joined (xs.take (k + 1)) b).length := by
            rw [HS.out]
            simp only [List.length_append]
            have := HBS.out
            have := HXS.out
            omega
          rw [bytesOf_str, ← bytesOf_append, ← HS.out] at hown2
          rw [el] at hown2
          exact ⟨hown2, fun h => hnil2 h⟩
        have hB2 : Below w.heap.size w w2 := hB1.grown hg2 (by have := hB1.size; omega) (fun j hj => (hown1'.lt j hj).1)
        clear hown2 hg2 hnil2 hown1' hne1
        go_wp2
        go_roundw
        case rel => exact ⟨k + 1, by omega, by go_num, HO.out, hB2⟩
        case measure => simp [intOf]; omega
    · obtain rfl : k = n := by omega
      have e : xs.take xs.length = xs := List.take_length
      rw [← HN.out, e] at hown
      obtain ⟨g, cap', rfl⟩ : ∃ g cap', u5 = .slice (some ⟨g, 0, none⟩) (joined xs b).length cap' := by
        rcases hown.2 with ⟨h, _⟩ | ⟨g, c', cur, h, _⟩
        · exact absurd h hne
        · exact ⟨g, c', h⟩
      have hcv := run_convert_bytes_back (P := Try.prog) wr 28 9 5 ⟨g, 0, none⟩ cap' (joined xs b) Try.underlying28 Try.underlying5 Try.underlying9 (fun j hj => by
        have e1 : (⟨g, 0, none⟩ : Addr).add j = ⟨g, j, none⟩ := by simp [Addr.add]; intro h; omega
        rw [e1, hown.cellAt j (by rw [Nat.mul_one]; exact hj)]
        simp [bytesOf, hj])
      clear hown hne
      go_wp2
      go_ret
      exact ⟨rfl, hB⟩

theorem joined_len (xs : List ByteArray) (b : ByteArray) : (joined xs b).length ≤ total xs + xs.length * b.size := by
  have all : ∀ k, k ≤ xs.length → (joined (xs.take k) b).length ≤ total (xs.take k) + k * b.size := by
    intro k
    induction k with
    | zero => intro _; rw [joined_zero]; simp
    | succ k ih =>
      intro hk
      have := ih (by omega)
      rw [joined_snoc xs b k (by omega), total_take xs k (by omega), Nat.succ_mul]
      have e1 : xs[k].data.toList.length = xs[k].size := rfl
      have e2 : (if k = 0 then [] else b.data.toList).length ≤ b.size := by
        split
        · simp
        · exact Nat.le_refl _
      simp only [List.length_append]
      omega
  have := all xs.length (Nat.le_refl _)
  rwa [List.take_length] at this

set_option maxRecDepth 100000 in
theorem impl_join (w : World) (g : Nat) (xs : List ByteArray) (b : ByteArray) (hg : w.heap[g]? = some (.cells (xs.map Value.string).toArray 9 (0, 0))) (hm : xs.length ≤ 1048576) (hj : (joined xs b).length ≤ 70368744177664) :
    Calls Try.prog 7 #[.slice (some ⟨g, 0, none⟩) xs.length xs.length, .string b] w fun e w' => e = .returned (.string ⟨(joined xs b).toArray⟩) ∧ Below w.heap.size w w' := by
  have hlt : g < w.heap.size := by
    rcases Nat.lt_or_ge g w.heap.size with h | h
    · exact h
    · rw [Array.getElem?_eq_none h] at hg
      cases hg
  have H := Try.strings_Join g 0 xs.length xs b w (fun j x hx => by
    have hj2 : j < xs.length := by
      rcases Nat.lt_or_ge j xs.length with h | h
      · exact h
      · rw [List.getElem?_eq_none h] at hx
        cases hx
    rw [List.getElem?_eq_getElem hj2] at hx
    injection hx with hx
    simp [World.cell?, hg, hj2, hx]) hlt (by omega) (Nat.le_refl _) (Nat.le_trans hj (by omega))
  have HG := Lib.hid hg
  clear hg
  go_enter Try.func7, Try.ntmps7
  go_wp2_with fail
  refine H.mono ?_
  rintro e w' ⟨rfl, hb⟩
  go_wp2
  go_ret
  exact ⟨rfl, hb⟩
end Go.Proofs.Ytcidmanlijeomaa
