/- What is proved here: the model's SplitByte (package spec) returns the pieces of the text between the occurrences of the byte. Condition: at most 1048576 bytes. -/
import Derived.Test.YtcidmanlijeomaaDoorTexts
import Derived.Test.YtcidmanlijeomaaDoorPieces
namespace Go.Proofs.YtcidmanlijeomaaDoor
open Go.RowKit

/-- A slice that reads as the texts xs comes back; nothing that was there has changed. -/
def GivesTexts (w : World) (xs : List ByteArray) (e : Ending) (w' : World) : Prop := ∃ a cap, e = .returned (.slice a xs.length cap) ∧ Reads w' a xs ∧ Below w.heap.size w w'

theorem reads_own {w : World} {B : Nat} {T : TypeId} {v : Value} {ys : List ByteArray} (h : w.ownsRow B T 1 v ys.length (ys.map Value.string)) : ∃ a cap, v = .slice a ys.length cap ∧ Reads w a ys := by
  rcases h.2 with ⟨h1, h2⟩ | ⟨g, cap, cur, rfl, _⟩
  · obtain rfl := List.eq_nil_of_length_eq_zero h2
    exact ⟨none, 0, h1, fun j hj => absurd hj (by simp)⟩
  · refine ⟨_, _, rfl, fun j hj => ⟨_, rfl, ?_⟩⟩
    have e : (⟨g, 0, none⟩ : Addr).add j = ⟨g, j, none⟩ := by simp [Addr.add]; intro h; omega
    rw [e, h.cellAt j (by omega)]
    simp [hj]

/-- How far the splitting is: k bytes are looked at, the piece that is open begins at 'lo'. -/
def SplitAt (c : UInt8) (l : List UInt8) (k lo : Nat) (ys : List ByteArray) : Prop :=
  (k ≤ l.length ∧ lo ≤ k ∧ pieces c (l.take k) = ys.map (·.data.toList) ++ [(l.take k).drop lo]) ∨ (k = l.length + 1 ∧ pieces c l = ys.map (·.data.toList))
/-- How many pieces there can be. -/
theorem pieces_len (c : UInt8) : ∀ (l : List UInt8), (pieces c l).length ≤ l.length + 1
  | [] => by simp [pieces]
  | b :: l => by
    have ih := pieces_len c l
    unfold pieces
    split
    · simp; omega
    · split
      · simp
      · rename_i p ps h
        rw [h] at ih
        simp at ih ⊢
        omega
theorem split_piece (s : ByteArray) (lo k : Nat) : (s.extract lo k).data.toList = (s.data.toList.take k).drop lo := by
  rw [ByteArray.data_extract, Array.toList_extract, List.extract_eq_take_drop]
  rw [List.drop_take]
theorem splitAt_start (c : UInt8) (l : List UInt8) : SplitAt c l 0 0 [] := .inl ⟨Nat.zero_le _, Nat.le_refl _, by simp [pieces]⟩
theorem splitAt_end {c : UInt8} {s : ByteArray} {lo : Nat} {ys : List ByteArray} (h : SplitAt c s.data.toList s.size lo ys) : SplitAt c s.data.toList (s.size + 1) (s.size + 1) (ys ++ [s.extract lo s.size]) := by
  have e : s.data.toList.length = s.size := rfl
  rcases h with ⟨_, _, h⟩ | ⟨h, _⟩
  · refine .inr ⟨by rw [e], ?_⟩
    rw [List.map_append, List.map_cons, List.map_nil, split_piece s lo s.size, ← h, List.take_of_length_le (by omega)]
  · omega
theorem splitAt_hit {s : ByteArray} {k lo : Nat} {ys : List ByteArray} (hk : k < s.size) (h : SplitAt s[k] s.data.toList k lo ys) : SplitAt s[k] s.data.toList (k + 1) (k + 1) (ys ++ [s.extract lo k]) := by
  have e : s.data.toList.length = s.size := rfl
  have et : s.data.toList.take (k + 1) = s.data.toList.take k ++ [s[k]] := by
    rw [List.take_succ_eq_append_getElem (by omega)]; rfl
  rcases h with ⟨_, _, h⟩ | ⟨h, _⟩
  · refine .inl ⟨by omega, Nat.le_refl _, ?_⟩
    rw [et, pieces_snoc_hit, h, List.map_append, List.map_cons, List.map_nil, split_piece s lo k, ← et]
    congr 1
    simp
  · omega
theorem splitAt_miss {c : UInt8} {s : ByteArray} {k lo : Nat} {ys : List ByteArray} (hk : k < s.size) (hc : s[k] ≠ c) (h : SplitAt c s.data.toList k lo ys) : SplitAt c s.data.toList (k + 1) lo ys := by
  have e : s.data.toList.length = s.size := rfl
  have et : s.data.toList.take (k + 1) = s.data.toList.take k ++ [s[k]] := by
    rw [List.take_succ_eq_append_getElem (by omega)]; rfl
  rcases h with ⟨_, h1, h⟩ | ⟨h, _⟩
  · refine .inl ⟨by omega, by omega, ?_⟩
    rw [et, pieces_snoc_miss c s[k] hc _ _ _ h]
    congr 2
    rw [List.drop_append_of_le_length (by simp; omega)]
  · omega
theorem splitAt_len {c : UInt8} {l : List UInt8} {k lo : Nat} {ys : List ByteArray} (h : SplitAt c l k lo ys) : ys.length ≤ l.length + 1 := by
  rcases h with ⟨h0, _, h⟩ | ⟨_, h⟩
  · have h1 := pieces_len c (l.take k)
    rw [h] at h1
    simp at h1
    omega
  · have h1 := pieces_len c l
    rw [h] at h1
    simpa using h1
theorem splitAt_lo {c : UInt8} {l : List UInt8} {k lo : Nat} {ys : List ByteArray} (h : SplitAt c l k lo ys) (hk : k ≤ l.length) : lo ≤ k := by
  rcases h with ⟨_, h, _⟩ | ⟨h, _⟩ <;> omega

set_option maxHeartbeats 1000000 in
set_option maxRecDepth 100000 in
theorem spec_split (s : ByteArray) (c : UInt8) (hs : s.size ≤ 1048576) (w : World) :
    Calls Tryd.prog 20 #[.string s, .int .u8 (c.toNat : Int)] w fun e w' => ∃ ys : List ByteArray, ys.map (·.data.toList) = pieces c s.data.toList ∧ GivesTexts w ys e w' := by
  have hi : (Tryd.prog.info? 9).map (fun i => (i.zero, i.size, i.bytes)) = some (some (.string ⟨#[]⟩), 1, 16) := by kernel_rfl
  obtain ⟨i0, hi, hz0, hz1, hz2⟩ := info_parts hi
  go_enter Tryd.func20, Tryd.ntmps20
  go_wp2
  go_loopw [5, 6, 7] (fun v f i wr => ∃ (k lo : Nat) (ys : List ByteArray), k ≤ s.size + 1 ∧ i = .int .i64 k ∧ lo ≤ s.size + 1 ∧ f = .int .i64 lo ∧ SplitAt c s.data.toList k lo ys ∧ wr.ownsRow w.heap.size 9 1 v ys.length (ys.map Value.string) ∧ Below w.heap.size w wr) (fun _ _ i _ => s.size + 1 - (intOf i).toNat)
  case atStart =>
    refine ⟨0, 0, [], by omega, rfl, by omega, rfl, splitAt_start c _, ?_, (Below.refl _ _).alloc (Nat.le_refl _) _⟩
    exact World.ownsRow_lit w #[] 0 (Nat.le_refl _) (by unfold maxLen; omega) rfl
  case round =>
    obtain ⟨k, lo, ys, hk, rfl, hlo, rfl, hS, hown, hB⟩ := hrel
    have hsl : s.data.toList.length = s.size := rfl
    have hyl := splitAt_len hS
    rw [hsl] at hyl
    have HSL := Lib.hid hsl
    clear hsl
    by_cases hend : k = s.size + 1
    · obtain ⟨a, cap, rfl, hr⟩ := reads_own hown
      have hp : ys.map (·.data.toList) = pieces c s.data.toList := by
        have := HSL.out
        rcases hS with ⟨h, _⟩ | ⟨_, h⟩
        · omega
        · exact h.symm
      have HP := Lib.hid hp
      have HR := Lib.hid hr
      have hk1 : s.size < k := by omega
      clear hS hown hp hr hend
      go_wp2
      go_ret
      exact ⟨ys, HP.out, _, _, rfl, HR.out, hB⟩
    · have hlk := splitAt_lo hS (by have := HSL.out; omega)
      have hk2 : k ≤ s.size := by omega
      have HS := Lib.hid hS
      clear hS hend
      by_cases hlast : k = s.size
      · subst hlast
        go_wp2_with (at_builtin; refine wpList_append_own _ rfl _ _ 31 rfl w.heap.size 9 i0 (.string ⟨#[]⟩) 1 16 Tryd.underlying31 hi hz0 hz1 hz2 rfl (by decide) _ _ _ rfl (hown.alloc _) ⟨wr.heap.size, 0, none⟩ 1 1 [.string (s.extract lo s.size)] rfl rfl ?c1 ?c2 ?c3 ?c4 ?c5 ?_)
        case c1 =>
          intro j u hj
          match j, hj with
          | 0, hj => simp at hj; subst hj; simp [Addr.add, World.cell?_alloc_new]
        case c2 => intro u hu; simp at hu; subst hu; rfl
        case c3 => unfold maxLen; omega
        case c4 => omega
        case c5 => have := hB.size; simp; omega
        intro v' w1 hown1 hg1 hnil1
        have hB1 : Below w.heap.size w w1 := (hB.alloc (by have := hB.size; omega) _).grown hg1 (by have := hB.size; simp; omega) (fun j hj => (hown.lt j hj).1)
        have HO : Hid (w1.ownsRow w.heap.size 9 1 v' (ys ++ [s.extract lo s.size]).length ((ys ++ [s.extract lo s.size]).map Value.string)) := by
          rw [List.length_append, List.map_append]
          exact hown1
        clear hown hown1 hg1 hnil1
        go_wp2
        go_roundw
        case rel => exact ⟨s.size + 1, s.size + 1, ys ++ [s.extract lo s.size], by omega, by go_num, by omega, by go_num, splitAt_end HS.out, HO.out, hB1⟩
        case measure => simp [intOf]
      · have hk3 : k < s.size := by omega
        by_cases hc : s[k] = c
        · subst hc
          have hkn : ((k : Int) == (s.size : Int)) = false := by simp; omega
          clear hlast
          go_wp2_with (at_builtin; refine wpList_append_own _ rfl _ _ 31 rfl w.heap.size 9 i0 (.string ⟨#[]⟩) 1 16 Tryd.underlying31 hi hz0 hz1 hz2 rfl (by decide) _ _ _ rfl (hown.alloc _) ⟨wr.heap.size, 0, none⟩ 1 1 [.string (s.extract lo k)] rfl rfl ?c1 ?c2 ?c3 ?c4 ?c5 ?_)
          case c1 =>
            intro j u hj
            match j, hj with
            | 0, hj => simp at hj; subst hj; simp [Addr.add, World.cell?_alloc_new]
          case c2 => intro u hu; simp at hu; subst hu; rfl
          case c3 => unfold maxLen; omega
          case c4 => omega
          case c5 => have := hB.size; simp; omega
          intro v' w1 hown1 hg1 hnil1
          have hB1 : Below w.heap.size w w1 := (hB.alloc (by have := hB.size; omega) _).grown hg1 (by have := hB.size; simp; omega) (fun j hj => (hown.lt j hj).1)
          have HO : Hid (w1.ownsRow w.heap.size 9 1 v' (ys ++ [s.extract lo k]).length ((ys ++ [s.extract lo k]).map Value.string)) := by
            rw [List.length_append, List.map_append]
            exact hown1
          clear hown hown1 hg1 hnil1
          go_wp2
          go_roundw
          case rel => exact ⟨k + 1, k + 1, ys ++ [s.extract lo k], by omega, by go_num, by omega, by go_num, splitAt_hit hk3 HS.out, HO.out, hB1⟩
          case measure => simp [intOf]; omega
        · have hne : ((s[k].toNat : Int) == (c.toNat : Int)) = false := by
            simp only [beq_eq_false_iff_ne, ne_eq, Int.natCast_inj]
            exact fun h => hc (UInt8.toNat_inj.1 h)
          have hkn : ((k : Int) == (s.size : Int)) = false := by simp; omega
          have HC := Lib.hid hc
          clear hc hlast
          go_wp2
          go_roundw
          case rel => exact ⟨k + 1, lo, ys, by omega, by go_num, hlo, rfl, splitAt_miss hk3 HC.out HS.out, hown, hB⟩
          case measure => simp [intOf]; omega
end Go.Proofs.YtcidmanlijeomaaDoor
