/- What is proved here: a piece of the proof of YtijbaienhaiamaaDoorExactParseValue (VaSValue, VaSOk). Condition: none beyond what each part says. -/
import Derived.Test.YtijbaienhaiamaaDoorPv06
import Derived.Test.YtijbaienhaiamaaDoorPv07
import Derived.Test.YtijbaienhaiamaaDoorPv08
import Derived.Laws.Rows
import Derived.Laws.Runes
import Derived.Deep.RegionHeld3
import Derived.Deep.RegionLaw
import Derived.Deep.LoopGhost
import Derived.Deep.AppendLies

/- What is proved here: the specification's l4Value. Condition: it answers as said at the next depth. -/
section
namespace Go.Proofs.YtijbaienhaiamaaDoor.Va
open Go.RowKit

theorem none_con {N : Nat} {s : List UInt8} {m d : Nat} (hd : ¬ d ≤ 12) : NoneP N s m d := fun q s2 _ _ _ hf => by
  have := hf.2
  omega
theorem quoted_drop {s : ByteArray} {k : Nat} {a z : List UInt8} (h : quoted (s.data.toList.drop k) = some (a, z)) (hk : k ≤ s.size) : s.data.toList.drop (s.size - z.length) = z ∧ s.size - z.length ≤ s.size := by
  have e := (quoted_ok h).1
  have hl : s.data.toList.length = s.size := rfl
  have h1 := congrArg List.length e
  rw [List.length_append, List.length_drop, hl] at h1
  simp only [List.length_cons] at h1
  have e2 : s.data.toList.drop (k + (a.length + 1)) = z := by
    rw [← List.drop_drop, e, ← List.drop_drop, List.drop_left]
    rfl
  rw [show s.size - z.length = k + (a.length + 1) by omega]
  exact ⟨e2, by omega⟩
theorem begins_le {s : ByteArray} {k j : Nat} (h : begins s k ≤ j) : k ≤ j := by unfold begins at h; split at h <;> omega
/-- The word at a place, as the specification reads it. -/
theorem at_wordS {s : ByteArray} {k j : Nat} (hk : k ≤ s.size) (h1 : begins s k ≤ j) (h2 : j ≤ s.size) (h3 : ∀ i (hi : i < s.size), begins s k ≤ i → i < j → isLD s[i] = true) (h4 : ∀ hj : j < s.size, isLD s[j] = false) (h34 : ∀ x, s.data.toList.drop k ≠ 34 :: x) : AtWord (s.data.toList.drop k) (s.extract k j).data.toList (s.data.toList.drop j) := by
  obtain ⟨e1, e2⟩ := extract_leadS hk h1 h2 h3 h4
  refine ⟨e2, fun x y hx hy he => ?_, h34⟩
  rw [e1, he]
  refine leadS_all ?_ (fun c t e => ?_)
  · rcases hx with ⟨n, rfl⟩ | ⟨t, hw, rfl⟩
    · exact isW_int n
    · exact isW_word (.inr hw)
  · rcases hy with h | ⟨r, h | h | h⟩
    · rw [h] at e; cases e
    · rw [h] at e; injection e with e _; rw [← e]; decide
    · rw [h] at e; injection e with e _; rw [← e]; decide
    · rw [h] at e; injection e with e _; rw [← e]; decide
/-- What a call answers, in cells. -/
def SpRes (w : World) (b : Nat) (s : ByteArray) (k m d : Nat) (kk nn : Int) (tt : ByteArray) (v : Value) (w' : World) : Prop :=
  (∃ p k' m' bs, kk = PatD.k p ∧ nn = p.n ∧ tt = p.t ∧ OwnV w' v p.F bs ∧ bs.Nodup ∧ (∀ c ∈ bs, w.heap.size ≤ c ∧ c < w'.heap.size) ∧ SAt w' b s k' false ∧ k' ≤ s.size ∧ OkP 2097152 13 (s.data.toList.drop k) m d p (s.data.toList.drop k') m') ∨
  (∃ k', SAt w' b s k' true ∧ k' ≤ s.size ∧ NoneP 2097152 (s.data.toList.drop k) m d)
theorem SpAns.res {w w' : World} {b : Nat} {s : ByteArray} {k m d : Nat} {e : Ending} (h : SpAns w b s k m d e w') : ∃ kk nn tt a l c, e = .returned (.agg #[.int .i64 kk, .int .i64 nn, .string tt, .slice a l c]) ∧ SpRes w b s k m d kk nn tt (.slice a l c) w' := by
  rcases h with ⟨p, k', m', v, bs, rfl, ho, hnd, hbs, hS, hk, hP⟩ | ⟨kk, nn, t, a, l, c, k', rfl, hS, hk, hN⟩
  · obtain ⟨p2, cap2, rfl, _, _⟩ := ho.reads
    exact ⟨_, _, _, _, _, _, rfl, .inl ⟨p, k', m', bs, rfl, rfl, rfl, ho, hnd, hbs, hS, hk, hP⟩⟩
  · exact ⟨_, _, _, _, _, _, rfl, .inr ⟨k', hS, hk, hN⟩⟩
/-- Between two rounds: g is the box of the value that is read, B the blocks below its row. -/
def VInv (w : World) (b g B : Nat) (s t : ByteArray) (k m d : Nat) (gg : Nat) (wr : World) : Prop :=
  (∃ (A : Trees) (k1 m1 : Nat) (bs : List Nat) (xs : List Value) (a : Option Addr) (c : Nat), GrowV wr B (.slice a A.length c) A bs xs ∧ PBox wr g 3 0 t (.slice a A.length c) ∧ PBox wr w.heap.size 0 0 ⟨#[]⟩ (.slice none 0 0) ∧ SAt wr b s k1 false ∧ ArgsIn 2097152 13 (s.data.toList.drop k) m d A (s.data.toList.drop k1) m1 ∧ Only (Just b) w wr ∧ B ≤ wr.heap.size ∧ m1 ≤ k1 ∧ k1 ≤ s.size ∧ s.size - k1 + 2 ≤ gg) ∨
  (∃ a l c k1, PBox wr g 3 0 t (.slice a l c) ∧ PBox wr w.heap.size 0 0 ⟨#[]⟩ (.slice none 0 0) ∧ SAt wr b s k1 true ∧ k1 ≤ s.size ∧ ArgsNone 2097152 (s.data.toList.drop k) m d ∧ Only (Just b) w wr ∧ 1 ≤ gg)

set_option maxHeartbeats 8000000 in
set_option maxRecDepth 100000 in
theorem spec_value_text (b d : Nat) (hd : d ≤ 13) (w : World) (s : ByteArray) (k m : Nat) (h : SAt w b s k false) (hs : s.size ≤ 1048576) (hk : k ≤ s.size) (hm : m ≤ k) (hse : sees s k [34] = true) :
    Calls Tryd.prog 9 #[.pointer (some ⟨b, 0, none⟩), .int .i64 (d : Int)] w fun e w' => SpAns w b s k m d e w' ∧ Only (Just b) w w' := by
  have hlt := h.lt
  obtain ⟨w2, hw2⟩ : ∃ w2, w2 = w.alloc (.cells #[.int .i64 0, .int .i64 0, .string ⟨#[]⟩, .slice none 0 0] 24) := ⟨_, rfl⟩
  have hb2 : PBox w2 w.heap.size 0 0 ⟨#[]⟩ (.slice none 0 0) := by rw [hw2]; exact heap_at_new w _
  have hB2 : Only (Just b) w w2 := by rw [hw2]; exact (Only.refl _ _).more _
  have hS2 : SAt w2 b s k false := by rw [hw2]; exact h.below ((Below.refl _ _).alloc (Nat.le_refl _) _)
  have HQ : Hid (b < w.heap.size ∧ s.size ≤ 1048576 ∧ k ≤ s.size ∧ m ≤ k ∧ m + 1 ≤ 2097152) := ⟨hlt, hs, hk, hm, by omega⟩
  have H2 : Hid (PBox w2 w.heap.size 0 0 ⟨#[]⟩ (.slice none 0 0) ∧ Only (Just b) w w2 ∧ w.heap.size ≠ b) := ⟨hb2, hB2, by omega⟩
  have HW2 := Lib.hid hw2
  have HD := Lib.hid hd
  have HS := Lib.hid (take_yes w2 b s k [34] hS2 hs hk (by simp) hse)
  have HDR := Lib.hid (sees_true hse hk)
  clear hse hlt hw2 hb2 hB2 hS2 h hs hk hm hd
  go_enter Tryd.func9, Tryd.ntmps9
  go_wp2_with fail
  rw [← HW2.out]
  refine HS.out.mono ?_
  clear HS
  rintro e w3 ⟨rfl, hS3, hO3⟩
  have HC := Lib.hid (spec_quote w3 b s (k + 1) hS3 HQ.out.2.1 HDR.out.2)
  have H3 : Hid (PBox w3 w.heap.size 0 0 ⟨#[]⟩ (.slice none 0 0) ∧ Only (Just b) w w3) := ⟨pb_keep H2.out.1 hO3 H2.out.2.2, H2.out.2.1.trans hO3⟩
  clear hS3 hO3
  go_wp2_with fail
  refine HC.out.mono ?_
  clear HC
  rintro e w4 ⟨hq, hO4⟩
  have hp4 := pb_keep H3.out.1 hO4 H2.out.2.2
  rcases hq with ⟨⟨a, z⟩, hQ, rfl, hS4⟩ | ⟨hQ, t, j, rfl, _, hj, hS4⟩
  · have hz := quoted_drop hQ HDR.out.2
    have HI : Hid (OkP 2097152 13 (s.data.toList.drop k) m d (leaf 2 0 (str a)) (s.data.toList.drop (s.size - z.length)) (m + 1)) := by
      unfold Hid
      rw [hz.1, HDR.out.1]
      exact text_step_ok HQ.out.2.2.2.2 HD.out hQ
    have H10 : Hid (PBox w4 w.heap.size 0 0 ⟨#[]⟩ (.slice none 0 0) ∧ Only (Just b) w w4 ∧ SAt w4 b s (s.size - z.length) false ∧ s.size - z.length ≤ s.size) := ⟨hp4, H3.out.2.trans hO4, hS4, hz.2⟩
    obtain ⟨x0, x1, x2, x3, i0, i1, i2, i3⟩ := four_cells hp4
    dsimp only
    generalize str a = ta at *
    clear hz hQ hS4 hO4 hp4
    go_wp2
    refine bodyPost_ret (results_cell_row rfl _ _ w.heap.size _ _ _ _ rfl (set4_box H10.out.1 _ _ _ _) Tryd.underlying24 rfl (by kernel_rfl)) rfl ?_
    exact sp_leaf rfl H10.out.2.2.1 H10.out.2.2.2 HI.out H10.out.2.1 (Nat.le_refl _) (by have := HQ.out.1; omega)
  · have HNO : Hid (NoneP 2097152 (s.data.toList.drop k) m d) := by unfold Hid; rw [HDR.out.1]; exact text_step_none hQ
    have H10 : Hid (PBox w4 w.heap.size 0 0 ⟨#[]⟩ (.slice none 0 0) ∧ Only (Just b) w w4 ∧ SAt w4 b s j true ∧ j ≤ s.size) := ⟨hp4, H3.out.2.trans hO4, hS4, hj⟩
    obtain ⟨x0, x1, x2, x3, i0, i1, i2, i3⟩ := four_cells hp4
    clear hQ hS4 hO4 hp4 hj
    go_wp2
    refine bodyPost_ret (results_cell_row rfl _ _ w.heap.size _ _ _ _ rfl (set4_box H10.out.1 _ _ _ _) Tryd.underlying24 rfl (by kernel_rfl)) rfl ?_
    exact sp_none rfl H10.out.2.2.1 H10.out.2.2.2 HNO.out H10.out.2.1 (Nat.le_refl _) (by have := HQ.out.1; omega)

set_option maxHeartbeats 8000000 in
set_option maxRecDepth 100000 in
theorem spec_value_word (b d : Nat) (hd13 : d ≤ 13) (HR : d ≤ 12 → SReadOk b (d + 1)) (w : World) (s : ByteArray) (k m : Nat) (h : SAt w b s k false) (hs : s.size ≤ 1048576) (hk : k ≤ s.size) (hm : m ≤ k) (hse : sees s k [34] = false) :
    Calls Tryd.prog 9 #[.pointer (some ⟨b, 0, none⟩), .int .i64 (d : Int)] w fun e w' => SpAns w b s k m d e w' ∧ Only (Just b) w w' := by
  have hi : (Tryd.prog.info? 24).map (fun i => (i.zero, i.size, i.bytes)) = some (some (.agg #[.int .i64 0, .int .i64 0, .string ⟨#[]⟩, .slice none 0 0]), 4, 56) := by kernel_rfl
  obtain ⟨i0, hi, hz0, hz1, hz2⟩ := info_parts hi
  have HHI := Lib.hid hi
  have hlt := h.lt
  obtain ⟨w2, hw2⟩ : ∃ w2, w2 = w.alloc (.cells #[.int .i64 0, .int .i64 0, .string ⟨#[]⟩, .slice none 0 0] 24) := ⟨_, rfl⟩
  have hb2 : PBox w2 w.heap.size 0 0 ⟨#[]⟩ (.slice none 0 0) := by rw [hw2]; exact heap_at_new w _
  have hB2 : Only (Just b) w w2 := by rw [hw2]; exact (Only.refl _ _).more _
  have hS2 : SAt w2 b s k false := by rw [hw2]; exact h.below ((Below.refl _ _).alloc (Nat.le_refl _) _)
  have HQ : Hid (b < w.heap.size ∧ s.size ≤ 1048576 ∧ k ≤ s.size ∧ m ≤ k ∧ m + 1 ≤ 2097152) := ⟨hlt, hs, hk, hm, by omega⟩
  have H2 : Hid (PBox w2 w.heap.size 0 0 ⟨#[]⟩ (.slice none 0 0) ∧ Only (Just b) w w2 ∧ w.heap.size ≠ b) := ⟨hb2, hB2, by omega⟩
  have HW2 := Lib.hid hw2
  have HRO : Hid (d ≤ 12 → ∀ W k m, SAt W b s k false → k ≤ s.size → m ≤ k → Calls Tryd.prog 9 #[.pointer (some ⟨b, 0, none⟩), .int .i64 ((d : Int) + 1)] W fun e w' => SpAns W b s k m (d + 1) e w' ∧ Only (Just b) W w') := fun hd W k m h1 h2 h3 => HR hd W s k m h1 hs h2 h3
  have HS := Lib.hid (take_no w2 b s k [34] hS2 hs hk (by simp) hse)
  have HN34 : Hid (∀ x, s.data.toList.drop k ≠ 34 :: x) := fun x => sees_false hse x
  clear hse hlt hw2 hb2 hB2 hS2 h hs hk hm HR
  go_enter Tryd.func9, Tryd.ntmps9
  go_wp2_with fail
  rw [← HW2.out]
  refine HS.out.mono ?_
  clear HS
  rintro e w4 ⟨rfl, hS4, hO4⟩
  have HC := Lib.hid (spec_word_loop w4 b s k hS4 HQ.out.2.1 HQ.out.2.2.1)
  have H4 : Hid (PBox w4 w.heap.size 0 0 ⟨#[]⟩ (.slice none 0 0) ∧ Only (Just b) w w4) := ⟨pb_keep H2.out.1 hO4 H2.out.2.2, H2.out.2.1.trans hO4⟩
  clear hS4 hO4
  go_wp2_with fail
  refine HC.out.mono ?_
  clear HC
  rintro e w5 ⟨⟨j, hj1, hj2, hj3, hj4, rfl, hS5⟩, hO5⟩
  have HA : Hid (AtWord (s.data.toList.drop k) (s.extract k j).data.toList (s.data.toList.drop j)) := at_wordS HQ.out.2.2.1 hj1 hj2 hj3 hj4 HN34.out
  have hkj := begins_le hj1
  have H5 : Hid (PBox w5 w.heap.size 0 0 ⟨#[]⟩ (.slice none 0 0) ∧ Only (Just b) w w5 ∧ SAt w5 b s j false ∧ j ≤ s.size ∧ k ≤ j) := ⟨pb_keep H4.out.1 hO5 H2.out.2.2, H4.out.2.trans hO5, hS5, hj2, hkj⟩
  have htl : (s.extract k j).size ≤ 1048576 := by have := HQ.out.2.1; rw [ByteArray.size_extract]; omega
  clear hj1 hj2 hj3 hj4 hS5 hO5 H4 HN34 hkj
  generalize s.extract k j = t at *
  have HP := Lib.hid (spec_ParseInt t htl w5)
  have HCn := Lib.hid (fun W => spec_con t (by unfold maxLen; omega) W)
  have hin : ∀ n, (-999999999999 ≤ n ∧ n ≤ 999999999999) ↔ inInt n = true := fun n => by simp [inInt]
  have HBk : Hid (∀ W, Below w5.heap.size w5 W → PBox W w.heap.size 0 0 ⟨#[]⟩ (.slice none 0 0) ∧ Only (Just b) w W ∧ SAt W b s j false) := fun W hb => ⟨(hb.block _ (Array.getElem?_eq_some_iff.1 H5.out.1).1).trans H5.out.1, H5.out.2.1.trans (Only.of_below hb), H5.out.2.2.1.below hb⟩
  have HJ : Hid (j ≤ s.size ∧ k ≤ j ∧ w.heap.size + 1 ≤ w5.heap.size) := ⟨H5.out.2.2.2.1, H5.out.2.2.2.2, (Array.getElem?_eq_some_iff.1 H5.out.1).1⟩
  clear htl H5
  cases hRd : readOf (-999999999999) 999999999999 t.data.toList with
  | some n =>
    rw [hRd] at HP
    obtain ⟨i1, i2, i3⟩ := (readOf_iff (by omega) (by omega)).1 hRd
    have HI : Hid (OkP 2097152 13 (s.data.toList.drop k) m d (leaf 1 n ⟨#[]⟩) (s.data.toList.drop j) (m + 1)) := int_ok HA.out HQ.out.2.2.2.2 hd13 ((hin n).1 ⟨i1, i2⟩) i3
    clear hRd i1 i2 i3 hin HCn HRO
    go_wp2_with fail
    refine HP.out.mono ?_
    clear HP
    rintro e w6 ⟨he, hb⟩
    obtain rfl : e = .returned (.tuple #[.int .i64 n, .bool true]) := he
    have H10 := Lib.hid (HBk.out w6 hb)
    obtain ⟨x0, x1, x2, x3, f0, f1, f2, f3⟩ := four_cells H10.out.1
    clear hb HBk
    go_wp2
    refine bodyPost_ret (results_cell_row rfl _ _ w.heap.size _ _ _ _ rfl (set4_box H10.out.1 _ _ _ _) Tryd.underlying24 rfl (by kernel_rfl)) rfl ?_
    exact sp_leaf rfl H10.out.2.2 HJ.out.1 HI.out H10.out.2.1 (Nat.le_refl _) (by have := HQ.out.1; omega)
  | none =>
    rw [hRd] at HP
    have HNI : Hid (∀ n, inInt n = true → Lib.itoa n ≠ t.data.toList) := fun n hn he => by
      have := (readOf_iff (by omega) (by omega)).2 ⟨((hin n).2 hn).1, ((hin n).2 hn).2, he⟩
      rw [hRd] at this
      cases this
    clear hRd hin
    by_cases hW : Word 65 90 t
    · rw [bl_true hW] at HCn
      have HWD := Lib.hid hW
      clear hW
      by_cases hd : d ≤ 12
      · have hng : decide ((12 : Int) < (d : Int)) = false := by simp; omega
        go_wp2_with fail
        refine HP.out.mono ?_
        clear HP
        rintro e w6 ⟨he, hb⟩
        obtain rfl : e = .returned (.tuple #[.int .i64 0, .bool false]) := he

        obtain ⟨w7, hw7⟩ : ∃ w7, w7 = w6.alloc (.cells #[.int .i64 3, .int .i64 0, .string t, .slice none 0 0] 24) := ⟨_, rfl⟩
        have hB7 : Below w6.heap.size w6 w7 := by rw [hw7]; exact (Below.refl _ _).alloc (Nat.le_refl _) _
        have hn7 : PBox w7 w6.heap.size 3 0 t (.slice none 0 0) := by rw [hw7]; exact heap_at_new w6 _
        have hs7 : w7.heap.size = w6.heap.size + 1 := by rw [hw7]; exact Array.size_push _
        obtain ⟨e1, e2, e3⟩ := HBk.out w6 hb
        have H7 : Hid (PBox w7 w.heap.size 0 0 ⟨#[]⟩ (.slice none 0 0) ∧ Only (Just b) w w7 ∧ SAt w7 b s j false ∧ PBox w7 w6.heap.size 3 0 t (.slice none 0 0) ∧ w7.heap.size = w6.heap.size + 1 ∧ w.heap.size + 1 ≤ w6.heap.size) := ⟨(hB7.block _ (Array.getElem?_eq_some_iff.1 e1).1).trans e1, e2.trans (Only.of_below hB7), e3.below hB7, hn7, hs7, (Array.getElem?_eq_some_iff.1 e1).1⟩
        have HW7 := Lib.hid hw7
        obtain ⟨c0, c1, c2, f1, f2⟩ := H7.out.2.2.1.cells
        rw [hw7] at c0 c1 c2 f1 f2
        clear e1 e2 e3 hB7 hn7 hs7 hw7 hb HBk
        go_wp2_with fail
        rw [← HW7.out]
        refine (HCn.out w7).mono ?_
        clear HCn c0 c1 c2 f1 f2
        rintro e w8 ⟨rfl, hb8⟩
        have hlb := HQ.out.1
        have hS8 := H7.out.2.2.1.below hb8
        have hp8 : PBox w8 w.heap.size 0 0 ⟨#[]⟩ (.slice none 0 0) := (hb8.block _ (Array.getElem?_eq_some_iff.1 H7.out.1).1).trans H7.out.1
        have hg8 : PBox w8 w6.heap.size 3 0 t (.slice none 0 0) := (hb8.block _ (Array.getElem?_eq_some_iff.1 H7.out.2.2.2.1).1).trans H7.out.2.2.2.1
        obtain ⟨w9, hw9⟩ : ∃ w9, w9 = w8.setCell ⟨b, 2, none⟩ (.bool false) := ⟨_, rfl⟩
        have k9 : ∀ c, c ≠ b → w9.heap[c]? = w8.heap[c]? := fun c hc => by rw [hw9]; exact Below.heap_setCell _ _ _ _ (by show c ≠ b; exact hc)
        have hs9 : w9.heap.size = w8.heap.size := by rw [hw9]; simp [World.setCell]
        have H9 : Hid (PBox w9 w.heap.size 0 0 ⟨#[]⟩ (.slice none 0 0) ∧ Only (Just b) w w9 ∧ SAt w9 b s j false ∧ PBox w9 w6.heap.size 3 0 t (.slice none 0 0) ∧ w6.heap.size + 1 ≤ w9.heap.size ∧ w.heap.size + 1 ≤ w6.heap.size) := ⟨(k9 _ (by omega)).trans hp8, (H7.out.2.1.trans (Only.of_below hb8)).trans (by rw [hw9]; exact only_set _ _ _ _), by rw [hw9]; exact hS8.fail _, (k9 _ (by have := H7.out.2.2.2.2.2; omega)).trans hg8, by have := hb8.size; have := H7.out.2.2.2.2.1; omega, H7.out.2.2.2.2.2⟩
        obtain ⟨c0, c1, c2, f1, f2⟩ := hS8.cells
        have HW9 := Lib.hid hw9
        clear hS8 hp8 hg8 hb8 hw9 k9 hs9 H7
        cases hse : sees s j [40] with
        | false =>
          have HTK := Lib.hid (take_no w9 b s j [40] H9.out.2.2.1 HQ.out.2.1 HJ.out.1 (by simp) hse)
          have HI : Hid (OkP 2097152 13 (s.data.toList.drop k) m d ⟨3, 0, t, .nil⟩ (s.data.toList.drop j) (m + 1)) := con0_ok HA.out HWD.out HQ.out.2.2.2.2 hd13 (fun x => sees_false hse x)
          clear hse HRO
          go_wp2_with fail
          rw [← HW9.out]
          refine HTK.out.mono ?_
          clear HTK c0 c1 c2 f1 f2
          rintro e w10 ⟨rfl, hS10, hO10⟩
          have hb10 : PBox w10 w6.heap.size 3 0 t (.slice none 0 0) := pb_keep H9.out.2.2.2.1 hO10 (by have := H9.out.2.2.2.2.2; omega)
          have hp10 : PBox w10 w.heap.size 0 0 ⟨#[]⟩ (.slice none 0 0) := pb_keep H9.out.1 hO10 H2.out.2.2
          obtain ⟨y0, y1, y2, y3, _, _, _, _⟩ := four_cells hb10
          obtain ⟨x0, x1, x2, x3, g0, g1, g2, g3⟩ := four_cells hp10
          have H10 : Hid (PBox w10 w.heap.size 0 0 ⟨#[]⟩ (.slice none 0 0) ∧ Only (Just b) w w10 ∧ SAt w10 b s j false) := ⟨hp10, H9.out.2.1.trans hO10, hS10⟩
          clear hb10 hp10 hS10 hO10
          go_wp2
          refine bodyPost_ret (results_cell_row rfl _ _ w.heap.size _ _ _ _ rfl (set4_box H10.out.1 _ _ _ _) Tryd.underlying24 rfl (by kernel_rfl)) rfl ?_
          exact sp_leaf rfl H10.out.2.2 HJ.out.1 HI.out H10.out.2.1 (Nat.le_refl _) (by omega)
        | true =>
          have HTK := Lib.hid (take_yes w9 b s j [40] H9.out.2.2.1 HQ.out.2.1 HJ.out.1 (by simp) hse)
          have HDR := Lib.hid (sees_true hse HJ.out.1)
          have HA2 : Hid (AtWord (s.data.toList.drop k) t.data.toList (40 :: s.data.toList.drop (j + 1))) := by have h := HA.out; rw [HDR.out.1] at h; exact h
          have HRR := Lib.hid (HRO.out hd)
          clear hse HRO
          go_wp2_with fail
          rw [← HW9.out]
          refine HTK.out.mono ?_
          clear HTK c0 c1 c2 f1 f2
          rintro e w10 ⟨rfl, hS10, hO10⟩
          have hs10 := hO10.size
          have hb10 : PBox w10 w6.heap.size 3 0 t (.slice none 0 0) := pb_keep H9.out.2.2.2.1 hO10 (by have := H9.out.2.2.2.2.2; omega)
          have hp10 : PBox w10 w.heap.size 0 0 ⟨#[]⟩ (.slice none 0 0) := pb_keep H9.out.1 hO10 H2.out.2.2
          have HI0 : Hid (VInv w b w6.heap.size w10.heap.size s t (j + 1) (m + 1) d 1048578 w10) := .inl ⟨.nil, j + 1, m + 1, [], [], none, 0, GrowV.nil _ _, hb10, hp10, hS10, ArgsIn.start 2097152 13 _ (m + 1) d (by omega), H9.out.2.1.trans hO10, Nat.le_refl _, by have := HQ.out; have := HJ.out; omega, HDR.out.2, by have := HQ.out; omega⟩
          have HLB : Hid (b < w.heap.size ∧ w.heap.size + 1 ≤ w6.heap.size ∧ w6.heap.size + 1 ≤ w10.heap.size ∧ s.size ≤ 1048576) := ⟨hlb, H9.out.2.2.2.2.2, by have := H9.out.2.2.2.2.1; omega, HQ.out.2.1⟩
          clear hb10 hp10 hS10 hO10 hs10
          go_wp2
          go_loopg [] 1048578 (fun gg wr => Aside (VInv w b w6.heap.size w10.heap.size s t (j + 1) (m + 1) d gg wr) ∧ gg ≤ 1048578)
          case atStart => exact ⟨HI0.out, by omega⟩
          case round =>
            obtain ⟨hinv, hgk⟩ := hrel
            rcases hinv.out with ⟨A, k1, m1, bs, xs, a, c, hG, hgb, hrb, hS, hIn, hO, hB, hmk, hk1, hgg⟩ | ⟨a, l, c, k1, hgb, hrb, hS, hk1, hN, hO, hg1⟩
            rotate_left
            · obtain ⟨c0, c1, c2, f1, f2⟩ := hS.cells
              obtain ⟨y0, y1, y2, y3, _, _, _, _⟩ := four_cells hgb
              obtain ⟨x0, x1, x2, x3, g0, g1, g2, g3⟩ := four_cells hrb
              have H10 : Hid (PBox wr w.heap.size 0 0 ⟨#[]⟩ (.slice none 0 0) ∧ Only (Just b) w wr ∧ SAt wr b s k1 true ∧ k1 ≤ s.size ∧ ArgsNone 2097152 (s.data.toList.drop (j + 1)) (m + 1) d) := ⟨hrb, hO, hS, hk1, hN⟩
              clear hinv hS hN hO hk1 hg1 hgb hrb
              go_wp2
              refine bodyPost_ret (results_cell_row rfl _ _ w.heap.size _ _ _ _ rfl (set4_box H10.out.1 _ _ _ _) Tryd.underlying24 rfl (by kernel_rfl)) rfl ?_
              exact sp_none rfl H10.out.2.2.1 H10.out.2.2.2.1 (con_none HA2.out HWD.out H10.out.2.2.2.2) H10.out.2.1 (Nat.le_refl _) (by have := HLB.out; omega)
            have hwr : IntKind.i64.wrap ((d : Int) + 1) = (d : Int) + 1 := wrap_small _ (by omega) (by omega)
            have HC : Hid (Calls Tryd.prog 9 #[.pointer (some ⟨b, 0, none⟩), .int .i64 (IntKind.i64.wrap ((d : Int) + 1))] wr.drew fun e w' => SpAns wr.drew b s k1 m1 (d + 1) e w' ∧ Only (Just b) wr.drew w') := by
              unfold Hid
              rw [hwr]
              exact HRR.out wr.drew k1 m1 (hS.below (Below.refl _ _).drew) hk1 hmk
            clear hwr
            have HG := Lib.hid hG
            have hAl : A.length ≤ A.count := A.length_le_count
            have hA2 := hIn.nodes
            have HAL : Hid (A.length ≤ 1048576) := by have := HLB.out; unfold Hid; omega
            have HI : Hid (ArgsIn 2097152 13 (s.data.toList.drop (j + 1)) (m + 1) d A (s.data.toList.drop k1) m1 ∧ Only (Just b) w wr ∧ m1 ≤ k1 ∧ k1 ≤ s.size ∧ s.size - k1 + 2 ≤ gk ∧ PBox wr w6.heap.size 3 0 t (.slice a A.length c) ∧ PBox wr w.heap.size 0 0 ⟨#[]⟩ (.slice none 0 0) ∧ w10.heap.size ≤ wr.heap.size) := ⟨hIn, hO, hmk, hk1, hgg, hgb, hrb, hB⟩
            obtain ⟨c0, c1, c2, f1, f2⟩ := hS.cells
            obtain ⟨y0, y1, y2, y3, g0, g1, g2, g3⟩ := four_cells hgb
            clear hinv hG hS hIn hO hmk hk1 hgg hgb hrb hB hAl hA2 y0 y1 y2 g0 g1 g2 c0 c1 f1 f2 HI0
            go_wp2
            go_region_law
              (first
                | (go_simp; go_at_call 9; (with_reducible refine HC.out.mono ?_)
                   rintro e w1 ⟨hAns, hO1d⟩
                   obtain ⟨kk, nn, tt, a1, l1, c1', rfl, hres⟩ := hAns.res
                   have hO1 : Only (Just b) wr w1 := ⟨hO1d.os, hO1d.tape, hO1d.output, hO1d.size, hO1d.block⟩
                   have hal : Below w1.heap.size w1 (w1.alloc (.cells #[.int .i64 kk, .int .i64 nn, .string tt, .slice a1 l1 c1'] 24)) := (Below.refl _ _).alloc (Nat.le_refl _) _
                   have hgr := HG.out.grown hO1.grownBy (by have := HLB.out; omega)
                   have hgb1 := pb_keep HI.out.2.2.2.2.2.1 hO1 (by have := HLB.out; omega)
                   have HRES := Lib.hid hres
                   have HO1 := Lib.hid hO1
                   have HAL1 := Lib.hid hal
                   have HG1 := Lib.hid (hgr.below hal).owns
                   have HFAR := Lib.hid hgr.far
                   have HGB1 := Lib.hid hgb1
                   obtain ⟨_, _, _, x3b, _, _, _, f3b⟩ := four_cells hgb1
                   have x3c := (four_cells ((hal.block _ (Array.getElem?_eq_some_iff.1 hgb1).1).trans hgb1)).2.2.2.1
                   clear hres hO1 hO1d hal hgr hgb1 hAns)
                | (refine step_append_lies _ rfl (.tmp 52) (.tmp 57) 22 rfl w10.heap.size 24 i0 (.agg #[.int .i64 0, .int .i64 0, .string ⟨#[]⟩, .slice none 0 0]) 4 56 Tryd.underlying22 hi hz0 hz1 hz2 rfl (by decide) (.slice a A.length c) A.length xs (by simp [Act.eval]) HG1.out ⟨w1.heap.size, 0, none⟩ 1 1 [.int .i64 kk, .int .i64 nn, .string tt, .slice a1 l1 c1'] (by simp [Act.eval]) rfl (grow_four _ _ _ _ _ _) (grow_one _ _ _ _ _ _) (by decide) (by unfold maxLen; have := HAL.out; omega) (by have := HAL.out; omega) (by have := HI.out.2.2.2.2.2.2.2; have := HO1.out.size; have := HAL1.out.size; omega) (w1.heap.size + 1) (by simp) ?_
                   intro g9 cap4 w4 hown hgrow hat hlt
                   have hs1 := HO1.out.size
                   have hs2 := HAL1.out.size
                   have hq := HLB.out
                   have hb0 := HI.out.2.2.2.2.2.2.2
                   have hfar := HFAR.out
                   have hk : ∀ x, x < w10.heap.size → w4.heap[x]? = w1.heap[x]? := fun x hx => by rw [hgrow.block x (by omega) (fun e => by have := hfar x e.symm; omega), HAL1.out.block x (by omega)]
                   have HK := Lib.hid hk
                   have HO4 : Hid (Only (Just b) w w4) := only_grown ((HI.out.2.1.trans HO1.out).trans (Only.of_below HAL1.out)) hgrow (fun x e => by have := hfar x e; omega)
                   have HGB4 : Hid (PBox w4 w6.heap.size 3 0 t (.slice a A.length c)) := (hk _ (by omega)).trans HGB1.out
                   have HZ4 : Hid (w10.heap.size ≤ w4.heap.size) := by have := hgrow.size; unfold Hid; omega
                   have HX4 := Lib.hid (And.intro hown (And.intro hgrow hat))
                   obtain ⟨_, _, _, x4, _, _, _, f4⟩ := four_cells HGB4.out
                   clear hs1 hs2 hq hb0 hfar hk hown hgrow hat hlt))
            all_goals
              have hq := HLB.out
              obtain ⟨w5, hw5⟩ : ∃ w5, w5 = w4.setCell ⟨w6.heap.size, 3, none⟩ (.slice (some ⟨g9, 0, none⟩) (A.length + 1) cap4) := ⟨_, rfl⟩
              have k5 : ∀ x, x ≠ w6.heap.size → w5.heap[x]? = w4.heap[x]? := fun x hx => by rw [hw5]; exact Below.heap_setCell _ _ _ _ (by show x ≠ w6.heap.size; exact hx)
              have hs5 : w5.heap.size = w4.heap.size := by rw [hw5]; simp [World.setCell]
              have hk := HK.out
              have hgb5 : PBox w5 w6.heap.size 3 0 t (.slice (some ⟨g9, 0, none⟩) (A.length + 1) cap4) := by rw [hw5]; exact (four_set HGB4.out _).2.2.2
              have hrb5 : PBox w5 w.heap.size 0 0 ⟨#[]⟩ (.slice none 0 0) := (k5 _ (by omega)).trans ((hk _ (by omega)).trans (pb_keep HI.out.2.2.2.2.2.2.1 HO1.out (by omega)))
              have hO5 : Only (Just b) w w5 := ⟨by rw [hw5]; exact HO4.out.os, by rw [hw5]; exact HO4.out.tape, by rw [hw5]; exact HO4.out.output, by have := HO4.out.size; omega, fun c hc hn => (k5 c (by omega)).trans (HO4.out.block c hc hn)⟩
              have hb5 : w5.heap[b]? = w1.heap[b]? := (k5 b (by omega)).trans (hk b (by omega))
              have hgk1 := HI.out.2.2.2.2.1
              have H5 : Hid (PBox w5 w6.heap.size 3 0 t (.slice (some ⟨g9, 0, none⟩) (A.length + 1) cap4) ∧ PBox w5 w.heap.size 0 0 ⟨#[]⟩ (.slice none 0 0) ∧ Only (Just b) w w5 ∧ w10.heap.size ≤ w5.heap.size) := ⟨hgb5, hrb5, hO5, by have := HZ4.out; omega⟩
              have HW5 := Lib.hid hw5
              rcases HRES.out with ⟨p, k2, m2, bs2, rfl, rfl, rfl, ho, hnd, hbs, hS2, hk2, hP⟩ | ⟨k2, hS2, hk2, hN⟩
              rotate_left
              · have HAN : Hid (ArgsNone 2097152 (s.data.toList.drop (j + 1)) (m + 1) d) := args_none1 HI.out.1 hN
                have HS := Lib.hid (take_bad w5 b s k2 [41] (hS2.at hb5) hq.2.2.2 hk2 (by simp))
                have HTB := Lib.hid (fun W hW => take_bad W b s k2 [44, 32] hW hq.2.2.2 hk2 (by simp))
                have HK2 := Lib.hid hk2
                clear hS2 hN hk2 hb5 hO5 hrb5 hgb5 hk hs5 k5 hw5 HX4 HG HRES x3b f3b x3c x4 f4
                go_wp2_with fail
                rw [← HW5.out]
                refine HS.out.mono ?_
                clear HS
                rintro e w11 ⟨rfl, hS11, hO11⟩
                have HS := Lib.hid (HTB.out w11 hS11)
                have HO11 := Lib.hid hO11
                clear hS11 hO11 HTB
                go_wp2_with fail
                refine HS.out.mono ?_
                clear HS
                rintro e w12 ⟨rfl, hS12, hO12⟩
                obtain ⟨c0, c1, c2, f1, f2⟩ := hS12.cells
                have hO512 := HO11.out.trans hO12
                have H12 : Hid (SAt (w12.setCell ⟨b, 2, none⟩ (.bool true)) b s k2 true ∧ Only (Just b) w5 (w12.setCell ⟨b, 2, none⟩ (.bool true))) := ⟨hS12.fail true, hO512.trans (only_set _ _ _ _)⟩
                clear hS12 hO12 hO512
                go_wp2
                go_roundg (gk - 1)
                case rel => exact ⟨.inr ⟨_, _, _, k2, pb_keep H5.out.1 H12.out.2 (by omega), pb_keep H5.out.2.1 H12.out.2 (by omega), H12.out.1, HK2.out, HAN.out, H5.out.2.2.1.trans H12.out.2, by omega⟩, by omega⟩
                case measure => omega
              · have hGM := GrowV.moreN HG.out HI.out.2.2.2.2.2.2.2 HO1.out.grownBy (by omega) ho hnd hbs HAL1.out HX4.out.1 HX4.out.2.1 (by rcases HX4.out.2.2 with h | h; exact .inl h; exact .inr (by simp [h]))
                have hGM5 : GrowV w5 w10.heap.size (.slice (some ⟨g9, 0, none⟩) (A.length + 1) cap4) (A.add p) (bs ++ bs2) (xs ++ [.int .i64 p.k, .int .i64 p.n, .string p.t, .slice a1 l1 c1']) := by rw [hw5]; exact hGM.aside _ _ _ (by omega)
                have HGM := Lib.hid hGM5
                have HP := Lib.hid hP
                have HK2 := Lib.hid hk2
                have HS5 : Hid (SAt w5 b s k2 false) := hS2.at hb5
                clear hS2 hk2 hb5 hO5 hrb5 hgb5 hk hs5 k5 hw5 HX4 HG HRES x3b f3b x3c x4 f4 hGM hGM5 ho hnd hbs hP
                have HM2 : Hid (m2 ≤ k2) := okp_le HP.out HI.out.2.2.1 HI.out.2.2.2.1 HK2.out
                have HK12 : Hid (k1 < k2) := by
                  have h1 := congrArg List.length HP.out.text
                  have hsl : s.data.toList.length = s.size := rfl
                  rw [List.length_append, List.length_drop, List.length_drop, hsl] at h1
                  have h2 := good_ge HP.out.good
                  have h3 := HI.out.2.2.2.1
                  have h4 := HK2.out
                  unfold Hid
                  omega
                cases hse : sees s k2 [41] with
                | true =>
                  have HS := Lib.hid (take_yes w5 b s k2 [41] HS5.out hq.2.2.2 HK2.out (by simp) hse)
                  have HDR2 := Lib.hid (sees_true hse HK2.out)
                  clear hse
                  go_wp2_with fail
                  rw [← HW5.out]
                  refine HS.out.mono ?_
                  clear HS
                  rintro e w11 ⟨rfl, hS11, hO11⟩
                  have HP2 : OkP 2097152 13 (s.data.toList.drop k1) m1 (d + 1) p (41 :: s.data.toList.drop (k2 + 1)) m2 := by have h := HP.out; rw [HDR2.out.1] at h; exact h
                  have HOK : Hid (OkP 2097152 13 (s.data.toList.drop k) m d ⟨3, 0, t, A.add p⟩ (s.data.toList.drop (k2 + 1)) m2) := con_ok HA2.out HWD.out (args_ok HI.out.1 HP2)
                  obtain ⟨cs, o1, o2, o3⟩ := (HGM.out.grown hO11.grownBy (by omega)).own
                  have HOW := Lib.hid (And.intro o1 (And.intro o2 o3))
                  have H10 : Hid (PBox w11 w.heap.size 0 0 ⟨#[]⟩ (.slice none 0 0) ∧ Only (Just b) w w11 ∧ SAt w11 b s (k2 + 1) false) := ⟨pb_keep H5.out.2.1 hO11 (by omega), H5.out.2.2.1.trans hO11, hS11⟩
                  obtain ⟨y0, y1, y2, y3, _, _, _, _⟩ := four_cells (pb_keep H5.out.1 hO11 (by omega))
                  obtain ⟨x0, x1, x2, x3, u0, u1, u2, u3⟩ := four_cells H10.out.1
                  clear hS11 hO11 HP2 o1 o2 o3
                  go_wp2
                  refine bodyPost_ret (results_cell_row rfl _ _ w.heap.size _ _ _ _ rfl (set4_box H10.out.1 _ _ _ _) Tryd.underlying24 rfl (by kernel_rfl)) rfl ?_
                  refine sp_some (p := ⟨3, 0, t, A.add p⟩) rfl HOW.out.1 HOW.out.2.1 (fun c hc => ⟨by have := (HOW.out.2.2 c hc).1; omega, (HOW.out.2.2 c hc).2⟩) (fun c hc => by have := (HOW.out.2.2 c hc).1; omega) H10.out.2.2 HDR2.out.2 HOK.out H10.out.2.1 (Nat.le_refl _) (by omega)
                | false =>
                  have HS := Lib.hid (take_no w5 b s k2 [41] HS5.out hq.2.2.2 HK2.out (by simp) hse)
                  have HN1 : Hid (∀ r, s.data.toList.drop k2 ≠ 41 :: r) := fun r => sees_false hse r
                  clear hse
                  cases hse : sees s k2 [44, 32] with
                  | false =>
                    have HTB := Lib.hid (fun W hW => take_no W b s k2 [44, 32] hW hq.2.2.2 HK2.out (by simp) hse)
                    have HAN : Hid (ArgsNone 2097152 (s.data.toList.drop (j + 1)) (m + 1) d) := args_none2 HI.out.1 HP.out HN1.out (fun r => sees_false hse r)
                    clear hse
                    go_wp2_with fail
                    rw [← HW5.out]
                    refine HS.out.mono ?_
                    clear HS
                    rintro e w11 ⟨rfl, hS11, hO11⟩
                    have HS := Lib.hid (HTB.out w11 hS11)
                    have HO11 := Lib.hid hO11
                    clear hS11 hO11 HTB
                    go_wp2_with fail
                    refine HS.out.mono ?_
                    clear HS
                    rintro e w12 ⟨rfl, hS12, hO12⟩
                    obtain ⟨c0, c1, c2, f1, f2⟩ := hS12.cells
                    have hO512 := HO11.out.trans hO12
                    have H12 : Hid (SAt (w12.setCell ⟨b, 2, none⟩ (.bool true)) b s k2 true ∧ Only (Just b) w5 (w12.setCell ⟨b, 2, none⟩ (.bool true))) := ⟨hS12.fail true, hO512.trans (only_set _ _ _ _)⟩
                    clear hS12 hO12 hO512
                    go_wp2
                    go_roundg (gk - 1)
                    case rel => exact ⟨.inr ⟨_, _, _, k2, pb_keep H5.out.1 H12.out.2 (by omega), pb_keep H5.out.2.1 H12.out.2 (by omega), H12.out.1, HK2.out, HAN.out, H5.out.2.2.1.trans H12.out.2, by omega⟩, by omega⟩
                    case measure => omega
                  | true =>
                    have HTB := Lib.hid (fun W hW => take_yes W b s k2 [44, 32] hW hq.2.2.2 HK2.out (by simp) hse)
                    have HDR2 := Lib.hid (sees_true hse HK2.out)
                    clear hse
                    go_wp2_with fail
                    rw [← HW5.out]
                    refine HS.out.mono ?_
                    clear HS
                    rintro e w11 ⟨rfl, hS11, hO11⟩
                    have HS := Lib.hid (HTB.out w11 hS11)
                    have HO11 := Lib.hid hO11
                    clear hS11 hO11 HTB
                    go_wp2_with fail
                    refine HS.out.mono ?_
                    clear HS
                    rintro e w12 ⟨rfl, hS12, hO12⟩
                    have HP2 : Hid (OkP 2097152 13 (s.data.toList.drop k1) m1 (d + 1) p (44 :: 32 :: s.data.toList.drop (k2 + 2)) m2) := by have h := HP.out; rw [HDR2.out.1] at h; exact h
                    have H12 : Hid (SAt w12 b s (k2 + 2) false ∧ Only (Just b) w5 w12) := ⟨hS12, HO11.out.trans hO12⟩
                    clear hS12 hO12
                    go_wp2
                    have hb1 := HGM.out.grown H12.out.2.grownBy (by omega)
                    have hln : (A.add p).length = A.length + 1 := Trees.snoc_length _ _ _ _ _
                    have k9 := HK12.out
                    have k8 := HM2.out
                    have k7 := HDR2.out.2
                    have h6 := H5.out.2.2.2
                    have h5 := H12.out.2.size
                    rw [← hln] at hb1
                    have hgb := pb_keep H5.out.1 H12.out.2 (by omega)
                    rw [← hln] at hgb
                    go_roundg (gk - 1)
                    case rel => exact ⟨.inl ⟨A.add p, k2 + 2, m2, bs ++ bs2, _, _, _, hb1, hgb, pb_keep H5.out.2.1 H12.out.2 (by omega), H12.out.1, args_more HI.out.1 HP2.out, H5.out.2.2.1.trans H12.out.2, by omega, by omega, k7, by simp only [List.length_cons, List.length_nil] at k7; omega⟩, by omega⟩
                    case measure => omega
      · have hgt : decide ((12 : Int) < (d : Int)) = true := by simp; omega
        go_wp2_with fail
        refine HP.out.mono ?_
        clear HP
        rintro e w6 ⟨he, hb⟩
        obtain rfl : e = .returned (.tuple #[.int .i64 0, .bool false]) := he

        obtain ⟨w7, hw7⟩ : ∃ w7, w7 = w6.alloc (.cells #[.int .i64 3, .int .i64 0, .string t, .slice none 0 0] 24) := ⟨_, rfl⟩
        have hB7 : Below w6.heap.size w6 w7 := by rw [hw7]; exact (Below.refl _ _).alloc (Nat.le_refl _) _
        have hn7 : PBox w7 w6.heap.size 3 0 t (.slice none 0 0) := by rw [hw7]; exact heap_at_new w6 _
        have hs7 : w7.heap.size = w6.heap.size + 1 := by rw [hw7]; exact Array.size_push _
        obtain ⟨e1, e2, e3⟩ := HBk.out w6 hb
        have H7 : Hid (PBox w7 w.heap.size 0 0 ⟨#[]⟩ (.slice none 0 0) ∧ Only (Just b) w w7 ∧ SAt w7 b s j false ∧ PBox w7 w6.heap.size 3 0 t (.slice none 0 0) ∧ w7.heap.size = w6.heap.size + 1 ∧ w.heap.size + 1 ≤ w6.heap.size) := ⟨(hB7.block _ (Array.getElem?_eq_some_iff.1 e1).1).trans e1, e2.trans (Only.of_below hB7), e3.below hB7, hn7, hs7, (Array.getElem?_eq_some_iff.1 e1).1⟩
        have HW7 := Lib.hid hw7
        obtain ⟨c0, c1, c2, f1, f2⟩ := H7.out.2.2.1.cells
        rw [hw7] at c0 c1 c2 f1 f2
        clear e1 e2 e3 hB7 hn7 hs7 hw7 hb HBk
        go_wp2_with fail
        rw [← HW7.out]
        refine (HCn.out w7).mono ?_
        clear HCn c0 c1 c2 f1 f2
        rintro e w8 ⟨rfl, hb8⟩
        have hlb := HQ.out.1
        have hS8 := H7.out.2.2.1.below hb8
        have hp8 : PBox w8 w.heap.size 0 0 ⟨#[]⟩ (.slice none 0 0) := (hb8.block _ (Array.getElem?_eq_some_iff.1 H7.out.1).1).trans H7.out.1
        have hg8 : PBox w8 w6.heap.size 3 0 t (.slice none 0 0) := (hb8.block _ (Array.getElem?_eq_some_iff.1 H7.out.2.2.2.1).1).trans H7.out.2.2.2.1
        obtain ⟨w9, hw9⟩ : ∃ w9, w9 = w8.setCell ⟨b, 2, none⟩ (.bool true) := ⟨_, rfl⟩
        have k9 : ∀ c, c ≠ b → w9.heap[c]? = w8.heap[c]? := fun c hc => by rw [hw9]; exact Below.heap_setCell _ _ _ _ (by show c ≠ b; exact hc)
        have hs9 : w9.heap.size = w8.heap.size := by rw [hw9]; simp [World.setCell]
        have H9 : Hid (PBox w9 w.heap.size 0 0 ⟨#[]⟩ (.slice none 0 0) ∧ Only (Just b) w w9 ∧ SAt w9 b s j true ∧ PBox w9 w6.heap.size 3 0 t (.slice none 0 0) ∧ w6.heap.size + 1 ≤ w9.heap.size ∧ w.heap.size + 1 ≤ w6.heap.size) := ⟨(k9 _ (by omega)).trans hp8, (H7.out.2.1.trans (Only.of_below hb8)).trans (by rw [hw9]; exact only_set _ _ _ _), by rw [hw9]; exact hS8.fail _, (k9 _ (by have := H7.out.2.2.2.2.2; omega)).trans hg8, by have := hb8.size; have := H7.out.2.2.2.2.1; omega, H7.out.2.2.2.2.2⟩
        obtain ⟨c0, c1, c2, f1, f2⟩ := hS8.cells
        have HW9 := Lib.hid hw9
        clear hS8 hp8 hg8 hb8 hw9 k9 hs9 H7

        have HNO : Hid (NoneP 2097152 (s.data.toList.drop k) m d) := none_con hd
        have HTK := Lib.hid (take_bad w9 b s j [40] H9.out.2.2.1 HQ.out.2.1 HJ.out.1 (by simp))
        clear HRO
        go_wp2_with fail
        rw [← HW9.out]
        refine HTK.out.mono ?_
        clear HTK c0 c1 c2 f1 f2
        rintro e w10 ⟨rfl, hS10, hO10⟩
        have hb10 : PBox w10 w6.heap.size 3 0 t (.slice none 0 0) := pb_keep H9.out.2.2.2.1 hO10 (by have := H9.out.2.2.2.2.2; omega)
        have hp10 : PBox w10 w.heap.size 0 0 ⟨#[]⟩ (.slice none 0 0) := pb_keep H9.out.1 hO10 H2.out.2.2
        obtain ⟨y0, y1, y2, y3, _, _, _, _⟩ := four_cells hb10
        obtain ⟨x0, x1, x2, x3, g0, g1, g2, g3⟩ := four_cells hp10
        have H10 : Hid (PBox w10 w.heap.size 0 0 ⟨#[]⟩ (.slice none 0 0) ∧ Only (Just b) w w10 ∧ SAt w10 b s j true) := ⟨hp10, H9.out.2.1.trans hO10, hS10⟩
        clear hb10 hp10 hS10 hO10
        go_wp2
        refine bodyPost_ret (results_cell_row rfl _ _ w.heap.size _ _ _ _ rfl (set4_box H10.out.1 _ _ _ _) Tryd.underlying24 rfl (by kernel_rfl)) rfl ?_
        exact sp_none rfl H10.out.2.2 HJ.out.1 HNO.out H10.out.2.1 (Nat.le_refl _) (by omega)
    · rw [bl_false hW] at HCn
      have HNW : Hid (¬ Word 65 90 t) := hW
      clear hW
      go_wp2_with fail
      refine HP.out.mono ?_
      clear HP
      rintro e w6 ⟨he, hb⟩
      obtain rfl : e = .returned (.tuple #[.int .i64 0, .bool false]) := he

      obtain ⟨w7, hw7⟩ : ∃ w7, w7 = w6.alloc (.cells #[.int .i64 3, .int .i64 0, .string t, .slice none 0 0] 24) := ⟨_, rfl⟩
      have hB7 : Below w6.heap.size w6 w7 := by rw [hw7]; exact (Below.refl _ _).alloc (Nat.le_refl _) _
      have hn7 : PBox w7 w6.heap.size 3 0 t (.slice none 0 0) := by rw [hw7]; exact heap_at_new w6 _
      have hs7 : w7.heap.size = w6.heap.size + 1 := by rw [hw7]; exact Array.size_push _
      obtain ⟨e1, e2, e3⟩ := HBk.out w6 hb
      have H7 : Hid (PBox w7 w.heap.size 0 0 ⟨#[]⟩ (.slice none 0 0) ∧ Only (Just b) w w7 ∧ SAt w7 b s j false ∧ PBox w7 w6.heap.size 3 0 t (.slice none 0 0) ∧ w7.heap.size = w6.heap.size + 1 ∧ w.heap.size + 1 ≤ w6.heap.size) := ⟨(hB7.block _ (Array.getElem?_eq_some_iff.1 e1).1).trans e1, e2.trans (Only.of_below hB7), e3.below hB7, hn7, hs7, (Array.getElem?_eq_some_iff.1 e1).1⟩
      have HW7 := Lib.hid hw7
      obtain ⟨c0, c1, c2, f1, f2⟩ := H7.out.2.2.1.cells
      rw [hw7] at c0 c1 c2 f1 f2
      clear e1 e2 e3 hB7 hn7 hs7 hw7 hb HBk
      go_wp2_with fail
      rw [← HW7.out]
      refine (HCn.out w7).mono ?_
      clear HCn c0 c1 c2 f1 f2
      rintro e w8 ⟨rfl, hb8⟩
      have hlb := HQ.out.1
      have hS8 := H7.out.2.2.1.below hb8
      have hp8 : PBox w8 w.heap.size 0 0 ⟨#[]⟩ (.slice none 0 0) := (hb8.block _ (Array.getElem?_eq_some_iff.1 H7.out.1).1).trans H7.out.1
      have hg8 : PBox w8 w6.heap.size 3 0 t (.slice none 0 0) := (hb8.block _ (Array.getElem?_eq_some_iff.1 H7.out.2.2.2.1).1).trans H7.out.2.2.2.1
      obtain ⟨w9, hw9⟩ : ∃ w9, w9 = w8.setCell ⟨b, 2, none⟩ (.bool true) := ⟨_, rfl⟩
      have k9 : ∀ c, c ≠ b → w9.heap[c]? = w8.heap[c]? := fun c hc => by rw [hw9]; exact Below.heap_setCell _ _ _ _ (by show c ≠ b; exact hc)
      have hs9 : w9.heap.size = w8.heap.size := by rw [hw9]; simp [World.setCell]
      have H9 : Hid (PBox w9 w.heap.size 0 0 ⟨#[]⟩ (.slice none 0 0) ∧ Only (Just b) w w9 ∧ SAt w9 b s j true ∧ PBox w9 w6.heap.size 3 0 t (.slice none 0 0) ∧ w6.heap.size + 1 ≤ w9.heap.size ∧ w.heap.size + 1 ≤ w6.heap.size) := ⟨(k9 _ (by omega)).trans hp8, (H7.out.2.1.trans (Only.of_below hb8)).trans (by rw [hw9]; exact only_set _ _ _ _), by rw [hw9]; exact hS8.fail _, (k9 _ (by have := H7.out.2.2.2.2.2; omega)).trans hg8, by have := hb8.size; have := H7.out.2.2.2.2.1; omega, H7.out.2.2.2.2.2⟩
      obtain ⟨c0, c1, c2, f1, f2⟩ := hS8.cells
      have HW9 := Lib.hid hw9
      clear hS8 hp8 hg8 hb8 hw9 k9 hs9 H7

      have HNO : Hid (NoneP 2097152 (s.data.toList.drop k) m d) := word_none HA.out (by rw [str_data]; exact HNW.out) HNI.out
      have HTK := Lib.hid (take_bad w9 b s j [40] H9.out.2.2.1 HQ.out.2.1 HJ.out.1 (by simp))
      clear HRO
      go_wp2_with fail
      rw [← HW9.out]
      refine HTK.out.mono ?_
      clear HTK c0 c1 c2 f1 f2
      rintro e w10 ⟨rfl, hS10, hO10⟩
      have hb10 : PBox w10 w6.heap.size 3 0 t (.slice none 0 0) := pb_keep H9.out.2.2.2.1 hO10 (by have := H9.out.2.2.2.2.2; omega)
      have hp10 : PBox w10 w.heap.size 0 0 ⟨#[]⟩ (.slice none 0 0) := pb_keep H9.out.1 hO10 H2.out.2.2
      obtain ⟨y0, y1, y2, y3, _, _, _, _⟩ := four_cells hb10
      obtain ⟨x0, x1, x2, x3, g0, g1, g2, g3⟩ := four_cells hp10
      have H10 : Hid (PBox w10 w.heap.size 0 0 ⟨#[]⟩ (.slice none 0 0) ∧ Only (Just b) w w10 ∧ SAt w10 b s j true) := ⟨hp10, H9.out.2.1.trans hO10, hS10⟩
      clear hb10 hp10 hS10 hO10
      go_wp2
      refine bodyPost_ret (results_cell_row rfl _ _ w.heap.size _ _ _ _ rfl (set4_box H10.out.1 _ _ _ _) Tryd.underlying24 rfl (by kernel_rfl)) rfl ?_
      exact sp_none rfl H10.out.2.2 HJ.out.1 HNO.out H10.out.2.1 (Nat.le_refl _) (by omega)
end Go.Proofs.YtijbaienhaiamaaDoor.Va
end

/- What is proved here: the specification's reader of a value answers as said at every depth. No condition. -/
section
namespace Go.Proofs.YtijbaienhaiamaaDoor.Va
open Go.RowKit

theorem spec_value (b d : Nat) (hd : d ≤ 13) (HR : d ≤ 12 → SReadOk b (d + 1)) : SReadOk b d := fun w s k m h hs hk hm => by
  cases hse : sees s k [34] with
  | true => exact spec_value_text b d hd w s k m h hs hk hm hse
  | false => exact spec_value_word b d hd HR w s k m h hs hk hm hse
theorem spec_read_ok (b : Nat) : SReadOk b 1 := by
  have h13 : SReadOk b 13 := spec_value b 13 (by omega) (fun h => by omega)
  have h12 := spec_value b 12 (by omega) (fun _ => h13)
  have h11 := spec_value b 11 (by omega) (fun _ => h12)
  have h10 := spec_value b 10 (by omega) (fun _ => h11)
  have h9 := spec_value b 9 (by omega) (fun _ => h10)
  have h8 := spec_value b 8 (by omega) (fun _ => h9)
  have h7 := spec_value b 7 (by omega) (fun _ => h8)
  have h6 := spec_value b 6 (by omega) (fun _ => h7)
  have h5 := spec_value b 5 (by omega) (fun _ => h6)
  have h4 := spec_value b 4 (by omega) (fun _ => h5)
  have h3 := spec_value b 3 (by omega) (fun _ => h4)
  have h2 := spec_value b 2 (by omega) (fun _ => h3)
  exact spec_value b 1 (by omega) (fun _ => h2)
end Go.Proofs.YtijbaienhaiamaaDoor.Va
end
