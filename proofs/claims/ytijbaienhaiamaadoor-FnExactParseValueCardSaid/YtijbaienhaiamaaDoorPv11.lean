/- What is proved here: a piece of the proof of YtijbaienhaiamaaDoorExactParseValue (IndexAny, VaWord, VaReads, VaImplParse). Condition: none beyond what each part says. -/
import Derived.Test.YtijbaienhaiamaaDoorPv10
import Derived.Lib.OthersKept
import Derived.Test.YtijbaienhaiamaaDoorPv04
import Derived.Test.YtijbaienhaiamaaDoorPv03
import Derived.Test.YtijbaienhaiamaaDoorPv05

/- What is proved here: strings.IndexAny at "(,)" answers the first place of one of these, for every text. Condition: the text has at most 2^20 bytes. -/
section
namespace Go.Proofs.YtijbaienhaiamaaDoor
open Go.RowKit

theorem get_bang (s : ByteArray) (i : Nat) (h : i < s.size) : s.get! i = s[i] := by
  simp [ByteArray.get!, getElem!_pos, h]
  rfl
/-- The bytes of a rune that is no ASCII one lie in the text, and none of them is an ASCII one. -/
theorem decode_span (s : ByteArray) (pos : Nat) (h : pos < s.size) (ha : 128 ≤ (s[pos]'h).toNat) :
    pos + (Utf8.decode s pos).2 ≤ s.size ∧ ∀ j (hj : j < s.size), pos ≤ j → j < pos + (Utf8.decode s pos).2 → 128 ≤ (s[j]'hj).toNat := by
  have hk : ∀ k, (decide (pos + k < s.size) && ((s.get! (pos + k)).toNat / 64 == 2)) = true → pos + k < s.size ∧ ∀ hj : pos + k < s.size, 128 ≤ (s[pos + k]'hj).toNat := fun k hc => by
    rw [Bool.and_eq_true, decide_eq_true_eq, beq_iff_eq] at hc
    refine ⟨hc.1, fun hj => ?_⟩
    have := hc.2
    rw [get_bang s _ hj] at this
    omega
  have h1 : pos + 1 ≤ s.size ∧ ∀ j (hj : j < s.size), pos ≤ j → j < pos + 1 → 128 ≤ (s[j]'hj).toNat := ⟨h, fun j hj a b => by
    obtain rfl : j = pos := by omega
    exact ha⟩
  have h2 : (decide (pos + 1 < s.size) && ((s.get! (pos + 1)).toNat / 64 == 2)) = true → pos + 2 ≤ s.size ∧ ∀ j (hj : j < s.size), pos ≤ j → j < pos + 2 → 128 ≤ (s[j]'hj).toNat := fun c => by
    obtain ⟨a1, a2⟩ := hk 1 c
    refine ⟨a1, fun j hj a b => ?_⟩
    by_cases e : j < pos + 1
    · exact h1.2 j hj a e
    · obtain rfl : j = pos + 1 := by omega
      exact a2 hj
  have h3 : (decide (pos + 1 < s.size) && ((s.get! (pos + 1)).toNat / 64 == 2)) = true → (decide (pos + 2 < s.size) && ((s.get! (pos + 2)).toNat / 64 == 2)) = true → pos + 3 ≤ s.size ∧ ∀ j (hj : j < s.size), pos ≤ j → j < pos + 3 → 128 ≤ (s[j]'hj).toNat := fun c d => by
    obtain ⟨a1, a2⟩ := hk 2 d
    refine ⟨a1, fun j hj a b => ?_⟩
    by_cases e : j < pos + 2
    · exact (h2 c).2 j hj a e
    · obtain rfl : j = pos + 2 := by omega
      exact a2 hj
  have h4 : (decide (pos + 1 < s.size) && ((s.get! (pos + 1)).toNat / 64 == 2)) = true → (decide (pos + 2 < s.size) && ((s.get! (pos + 2)).toNat / 64 == 2)) = true → (decide (pos + 3 < s.size) && ((s.get! (pos + 3)).toNat / 64 == 2)) = true → pos + 4 ≤ s.size ∧ ∀ j (hj : j < s.size), pos ≤ j → j < pos + 4 → 128 ≤ (s[j]'hj).toNat := fun c d e => by
    obtain ⟨a1, a2⟩ := hk 3 e
    refine ⟨a1, fun j hj a b => ?_⟩
    by_cases e : j < pos + 3
    · exact (h3 c d).2 j hj a e
    · obtain rfl : j = pos + 3 := by omega
      exact a2 hj
  clear hk
  have hp : ∀ (q : Nat × Nat), Utf8.decode s pos = q → (q.2 = 1 ∨ (q.2 = 2 ∧ (decide (pos + 1 < s.size) && ((s.get! (pos + 1)).toNat / 64 == 2)) = true) ∨ (q.2 = 3 ∧ (decide (pos + 1 < s.size) && ((s.get! (pos + 1)).toNat / 64 == 2)) = true ∧ (decide (pos + 2 < s.size) && ((s.get! (pos + 2)).toNat / 64 == 2)) = true) ∨ (q.2 = 4 ∧ (decide (pos + 1 < s.size) && ((s.get! (pos + 1)).toNat / 64 == 2)) = true ∧ (decide (pos + 2 < s.size) && ((s.get! (pos + 2)).toNat / 64 == 2)) = true ∧ (decide (pos + 3 < s.size) && ((s.get! (pos + 3)).toNat / 64 == 2)) = true)) := fun q hq => by
    subst hq
    clear h1 h2 h3 h4 ha h
    simp only [Utf8.decode]
    repeat' split
    all_goals simp_all
  rcases hp _ rfl with e | ⟨e, c⟩ | ⟨e, c, d⟩ | ⟨e, c, d, f⟩ <;> rw [e]
  · exact h1
  · exact h2 c
  · exact h3 c d
  · exact h4 c d f

/-- The iterator over s stands at pos, in the block behind w's. -/
structure ItAt (w wr : World) (s : ByteArray) (pos : Nat) : Prop where
  low : Below w.heap.size w wr
  cell : wr.heap[w.heap.size]? = some (.stringIter s pos)
theorem ItAt.new (w : World) (s : ByteArray) : ItAt w (w.iter s 0) s 0 := ⟨(Below.refl _ _).alloc (Nat.le_refl _) _, World.iter_heap w s 0⟩
theorem ItAt.step {w wr : World} {s : ByteArray} {pos : Nat} (h : ItAt w wr s pos) (p : Nat) : ItAt w (wr.iterAt w.heap.size s p) s p :=
  ⟨⟨h.low.os, h.low.tape, h.low.output, by rw [Lib.iterAt_size]; exact h.low.size, fun b hb => (Lib.iterAt_other _ _ _ _ _ (by omega)).trans (h.low.block b hb)⟩, Lib.iterAt_heap _ _ _ _ _ h.cell⟩
theorem ItAt.below {w wr w2 : World} {s : ByteArray} {pos : Nat} (h : ItAt w wr s pos) (hb : Below wr.heap.size wr w2) : ItAt w w2 s pos :=
  ⟨h.low.trans (hb.mono h.low.size), (hb.block _ (Array.getElem?_eq_some_iff.1 h.cell).1).trans h.cell⟩
theorem ItAt.pos {w wr : World} {s : ByteArray} {pos : Nat} (h : ItAt w wr s pos) : wr.iterPos w.heap.size = pos := by simp [World.iterPos, h.cell]
theorem has_any (c : UInt8) : ([40, 44, 41] : List UInt8).contains c = decide (0 ≤ Lib.indexByte [40, 44, 41] c) := Lib.contains_iff_indexByte [40, 44, 41] c

set_option maxHeartbeats 2000000 in
set_option maxRecDepth 100000 in
theorem impl_anyShort (s : ByteArray) (h8 : s.size ≤ 8) (w : World) :
    Calls Tryd.prog 44 #[.string s, .string ⟨#[40, 44, 41]⟩] w fun e w' => e = .returned (.int .i64 (Lib.indexAny s.data.toList [40, 44, 41])) ∧ Below w.heap.size w w' := by
  have HU := Tryd.strings_shouldUseASCIISet (s.size : Int) w
  have h8z : decide ((8 : Int) < (s.size : Int)) = false := decide_eq_false (by omega)
  rw [h8z] at HU
  have hlen : s.data.toList.length = s.size := rfl
  go_enter Tryd.func44, Tryd.ntmps44
  go_wp2_with fail
  refine HU.mono ?_
  rintro e w1 ⟨rfl, rfl⟩
  clear HU
  go_wp2
  go_loopw [9, 10] (fun _ _ wr => ∃ pos : Nat, pos ≤ s.size ∧ Hid (ItAt w1 wr s pos) ∧ Hid (Lib.NoAny s.data.toList [40, 44, 41] pos)) (fun _ _ wr => s.size - wr.iterPos w1.heap.size)
  case atStart => exact ⟨0, Nat.zero_le _, ItAt.new _ _, Lib.NoAny.zero _ _⟩
  case round =>
    obtain ⟨pos, hp, HIt, hw⟩ := hrel
    have hcell := HIt.out.cell
    by_cases hlt : pos < s.size
    · have hnx : ∀ ty, (Instr.next (.pointer (some ⟨w1.heap.size, 0, none⟩)) true ty).run Tryd.prog wr = _ := fun ty => Lib.run_next_any_at wr w1.heap.size s pos ty hcell hlt
      clear hcell
      have hxl : s.data.toList[pos]? = some s[pos] := Lib.data_getElem? s pos hlt
      by_cases ha : s[pos].toNat < 128
      · have hd := decode_ascii s pos hlt ha
        rw [hd] at hnx
        obtain ⟨x, hx⟩ : ∃ x : UInt8, s[pos]'hlt = x := ⟨_, rfl⟩
        rw [hx] at hnx hxl ha
        have HI := fun W => Tryd.strings_IndexRune_ascii ⟨#[40, 44, 41]⟩ (x.toNat : Int) W (by omega) (by omega)
        have hback : ((x.toNat : Int)).toNat.toUInt8 = x := by simp
        rw [hback] at HI
        have hcon := has_any x
        have HX := Lib.hid hxl
        cases hin : ([40, 44, 41] : List UInt8).contains x with
        | false =>
          rw [hin] at hcon
          have hge : decide ((0 : Int) ≤ Lib.indexByte (⟨#[40, 44, 41]⟩ : ByteArray).data.toList x) = false := hcon.symm
          have HN : Hid (Lib.NoAny s.data.toList [40, 44, 41] (pos + 1)) := hw.out.succ hxl hin
          generalize Lib.indexByte (⟨#[40, 44, 41]⟩ : ByteArray).data.toList x = ix at *
          clear hd hx hw ha hxl hcon hin hback
          go_wp2_with fail
          refine (HI _).mono ?_
          rintro e w2 ⟨rfl, rfl⟩
          clear HI hnx
          go_wp2
          go_roundw
          case rel => exact ⟨pos + 1, by omega, HIt.out.step _, HN⟩
          case measure => rw [(HIt.out.step _).pos, HIt.out.pos]; omega
        | true =>
          rw [hin] at hcon
          have hge : decide ((0 : Int) ≤ Lib.indexByte (⟨#[40, 44, 41]⟩ : ByteArray).data.toList x) = true := hcon.symm
          have HE : Hid (Lib.indexAny s.data.toList [40, 44, 41] = pos) := Lib.indexAny_hit hw.out hxl hin
          generalize Lib.indexByte (⟨#[40, 44, 41]⟩ : ByteArray).data.toList x = ix at *
          clear hd hx hw ha hxl hcon hin hback
          go_wp2_with fail
          refine (HI _).mono ?_
          rintro e w2 ⟨rfl, rfl⟩
          clear HI hnx
          go_wp2
          go_ret
          exact ⟨by rw [HE.out]; rfl, (HIt.out.step (pos + 1)).low⟩
      · have hd := decode_high s pos hlt (by omega)
        have hle := decode_le s pos
        obtain ⟨hs1, hs2⟩ := decode_span s pos hlt (by omega)
        have HN : Hid (Lib.NoAny s.data.toList [40, 44, 41] (pos + (Utf8.decode s pos).2)) := fun j b hj hb => by
          by_cases h : j < pos
          · exact hw.out j b h hb
          · have hjs : j < s.size := by omega
            have := hs2 j hjs (by omega) hj
            rw [Lib.data_getElem? s j hjs] at hb
            injection hb with hb
            rw [hb] at this
            simp
            refine ⟨?_, ?_, ?_⟩ <;> (intro e; rw [e] at this; exact absurd this (by decide))
        have HI := fun W => impl_runeHigh ((Utf8.decode s pos).1 : Int) (by omega) W
        generalize hrn : (Utf8.decode s pos).1 = rn at *
        generalize hst : (Utf8.decode s pos).2 = st at *
        clear hw ha hxl hrn hst hs2 hle
        go_wp2_with fail
        refine (HI _).mono ?_
        rintro e w2 ⟨rfl, hb2⟩
        have HI2 : Hid (ItAt w1 w2 s (pos + st)) := (HIt.out.step _).below hb2
        clear hb2 HI hnx
        go_wp2
        go_roundw
        case rel => exact ⟨pos + st, by omega, HI2, HN⟩
        case measure => rw [HI2.out.pos, HIt.out.pos]; omega
    · have hnx : ∀ ty, (Instr.next (.pointer (some ⟨w1.heap.size, 0, none⟩)) true ty).run Tryd.prog wr = _ := fun ty => Lib.run_next_end_at wr w1.heap.size s pos ty hcell hlt
      clear hcell
      have HE : Hid (Lib.indexAny s.data.toList [40, 44, 41] = -1) := Lib.indexAny_none (by rw [hlen]; obtain rfl : pos = s.size := by omega
                                                                                            exact hw.out)
      clear hw
      go_wp2
      go_ret
      exact ⟨by rw [HE.out]; rfl, HIt.out.low⟩
end Go.Proofs.YtijbaienhaiamaaDoor
end

/- What is proved here: the program's readWord reads up to a parenthesis or comma. Condition: the text has at most 2^20 bytes. -/
section
namespace Go.Proofs.YtijbaienhaiamaaDoor.Va
open Go.RowKit

theorem impl_IndexAny (s : ByteArray) (hs : s.size ≤ 1048576) (w : World) :
    Calls Tryd.prog 44 #[.string s, .string ⟨#[40, 44, 41]⟩] w fun e w' => e = .returned (.int .i64 (Lib.indexAny s.data.toList [40, 44, 41])) ∧ Below w.heap.size w w' := by
  by_cases h8 : s.size ≤ 8
  · exact impl_anyShort s h8 w
  · have hset : (Tryd.prog.info? 78).map (fun i => (i.zero, i.size)) = some (some (.agg (Array.replicate 256 (.bool false))), 256) := by kernel_rfl
    refine (Tryd.strings_IndexAny_long (zero_of_info hset).1 s ⟨#[40, 44, 41]⟩ w (by decide) (by omega) (by omega) (by decide) ?_).mono ?_
    · intro j b hb
      have : b ∈ ([40, 44, 41] : List UInt8) := List.mem_of_getElem? hb
      simp at this
      rcases this with rfl | rfl | rfl <;> decide
    · rintro e w' ⟨rfl, rfl⟩
      exact ⟨rfl, ((Below.refl _ _).alloc (Nat.le_refl _) _).alloc (by simp) _⟩
def isCut (c : UInt8) : Bool := ([40, 44, 41] : List UInt8).contains c
/-- The word at the start, as the program reads it. -/
def leadV (s : List UInt8) : List UInt8 := s.takeWhile (fun c => !isCut c)
theorem leadV_index (s : List UInt8) : (Lib.indexAny s [40, 44, 41] = -1 ∧ leadV s = s) ∨ ∃ i : Nat, Lib.indexAny s [40, 44, 41] = (i : Int) ∧ i ≤ s.length ∧ leadV s = s.take i := by
  induction s with
  | nil => exact .inl ⟨rfl, rfl⟩
  | cons b l ih =>
    unfold leadV at ih ⊢
    rw [Lib.indexAny, List.takeWhile_cons]
    cases hc : isCut b with
    | true =>
      have hc' : ([40, 44, 41] : List UInt8).contains b = true := hc
      rw [if_pos hc']
      exact .inr ⟨0, rfl, by simp, by simp⟩
    | false =>
      have hc' : ¬ ([40, 44, 41] : List UInt8).contains b = true := by rw [show ([40, 44, 41] : List UInt8).contains b = false from hc]; simp
      rw [if_neg hc']
      rcases ih with ⟨h1, h2⟩ | ⟨i, h1, h2, h3⟩
      · rw [h1, h2]; exact .inl ⟨rfl, rfl⟩
      · refine .inr ⟨i + 1, ?_, by simpa using h2, by simp [h3]⟩
        rw [h1, if_neg (by simp)]
        push_cast
        rfl
theorem leadV_drop (s : List UInt8) : s = leadV s ++ s.drop (leadV s).length := by
  have h := List.takeWhile_prefix (l := s) (fun c => !isCut c)
  obtain ⟨t, ht⟩ := h
  have e : leadV s ++ t = s := ht
  conv => lhs; rw [← e]
  congr 1
  conv => rhs; arg 2; rw [← e]
  rw [List.drop_left]
theorem leadV_all {x y : List UInt8} (hx : ∀ c ∈ x, isCut c = false) (hy : EndsW y) : leadV (x ++ y) = x := by
  unfold leadV
  induction x with
  | nil =>
    rcases hy with rfl | ⟨r, rfl | rfl | rfl⟩ <;> rfl
  | cons c x ih => rw [List.cons_append, List.takeWhile_cons, hx c (by simp), ih (fun c hc => hx c (by simp [hc]))]; rfl
theorem wb_cut {c : UInt8} (h : isWB c = true) : isCut c = false := by
  cases hc : isCut c with
  | false => rfl
  | true =>
    unfold isCut at hc
    simp at hc
    rcases hc with rfl | rfl | rfl <;> exact absurd h (by decide)
/-- The word at the start is the word. -/
theorem at_word {s : List UInt8} (h34 : ∀ x, s ≠ 34 :: x) : AtWord s (leadV s) (s.drop (leadV s).length) := by
  refine ⟨leadV_drop s, fun x y hx hy e => ?_, h34⟩
  rw [e]
  refine leadV_all (fun c hc => wb_cut ?_) hy
  rcases hx with ⟨n, rfl⟩ | ⟨t, hw, rfl⟩
  · obtain ⟨_, _, _, _, h⟩ := itoa_head n
    exact h c hc
  · exact word_bytes hw (.inr ⟨rfl, rfl⟩) c hc
theorem str_take (s : List UInt8) (i : Nat) : (str s).extract 0 i = str (s.take i) := by
  apply ByteArray.ext
  apply Array.ext'
  simp [str, ByteArray.data_extract]
theorem str_drop (s : List UInt8) (i j : Nat) (hj : j = s.length) : (str s).extract i j = str (s.drop i) := by
  subst hj
  apply ByteArray.ext
  apply Array.ext'
  simp [str, ByteArray.data_extract]
  rw [List.take_of_length_le (by simp)]

set_option maxHeartbeats 1000000 in
set_option maxRecDepth 100000 in
theorem impl_readWord (w : World) (b : Nat) (s : List UInt8) (m N D : Nat) (h : RdAt w b 39 s m N D) (hl : s.length ≤ 1048576) :
    Calls Tryd.prog 28 #[.pointer (some ⟨b, 0, none⟩)] w fun e w' => e = .returned (.string (str (leadV s))) ∧ RdAt w' b 39 (s.drop (leadV s).length) m N D ∧ Only (Just b) w w' := by
  obtain ⟨c0, c1, c2, c3, f0, f1, f2, f3⟩ := four_cells h
  have HC := impl_IndexAny (str s) (by rw [str_size]; exact hl) w
  have e1 : (str s).data.toList = s := by simp [str]
  have e2 : (str s).size = s.length := str_size s
  rw [e1] at HC
  have HS : Hid (∀ W, Below w.heap.size w W → ∀ x, W.cell? ⟨b, 0, none⟩ = some (.string (str s)) ∧ W.frozen? ⟨b, 0, none⟩ = false ∧ RdAt (W.setCell ⟨b, 0, none⟩ (.string (str x))) b 39 x m N D ∧ Only (Just b) w (W.setCell ⟨b, 0, none⟩ (.string (str x)))) := fun W hB x => by
    have hW := h.below hB
    exact ⟨(four_cells hW).1, (four_cells hW).2.2.2.2.1, (four_set hW (.string (str x))).1, (just_below hB).trans (Only.setCell (F := Just b) (p := ⟨b, 0, none⟩) rfl _)⟩
  rcases leadV_index s with ⟨i1, i2⟩ | ⟨i, i1, i2, i3⟩
  · rw [i1] at HC
    rw [i2]
    have E1 : (str s).extract 0 (str s).size = str s := by rw [str_take, e2, List.take_length]
    have E2 : (str s).extract (str s).size (str s).size = str [] := by rw [str_drop _ _ _ e2, e2, List.drop_length]
    rw [List.drop_length]
    clear h e1 i1 i2
    generalize str s = us at *
    clear e2 hl
    go_enter Tryd.func28, Tryd.ntmps28
    go_wp2_with fail
    refine HC.mono ?_
    rintro e w1 ⟨rfl, hb⟩
    obtain ⟨g0, g1, g2, g3⟩ := HS.out w1 hb []
    have HR : Hid (RdAt (w1.setCell ⟨b, 0, none⟩ (.string (str []))) b 39 [] m N D ∧ Only (Just b) w (w1.setCell ⟨b, 0, none⟩ (.string (str [])))) := ⟨g2, g3⟩
    clear HC HS hb g2 g3 c0 c1 c2 c3 f0 f1 f2 f3
    go_wp2
    go_ret
    exact ⟨rfl, HR.out⟩
  · rw [i1] at HC
    rw [i3]
    have hil : (s.take i).length = i := by simp; omega
    rw [hil]
    have E1 : (str s).extract 0 i = str (s.take i) := str_take s i
    have E2 : (str s).extract i (str s).size = str (s.drop i) := str_drop _ _ _ e2
    have hlt : i ≤ (str s).size := by omega
    have hns : (str s).size ≤ 1048576 := by omega
    clear h e1 i1 i3 hil
    generalize s.drop i = r at *
    generalize s.take i = q at *
    generalize str s = us at *
    clear e2 hl i2
    go_enter Tryd.func28, Tryd.ntmps28
    go_wp2_with fail
    refine HC.mono ?_
    rintro e w1 ⟨rfl, hb⟩
    obtain ⟨g0, g1, g2, g3⟩ := HS.out w1 hb r
    have HR : Hid (RdAt (w1.setCell ⟨b, 0, none⟩ (.string (str r))) b 39 r m N D ∧ Only (Just b) w (w1.setCell ⟨b, 0, none⟩ (.string (str r)))) := ⟨g2, g3⟩
    clear HC HS hb g2 g3 c0 c1 c2 c3 f0 f1 f2 f3
    go_wp2
    go_ret
    exact ⟨rfl, HR.out⟩
end Go.Proofs.YtijbaienhaiamaaDoor.Va
end

/- What is proved here: the program's read of a value. Condition: read answers as said at the next depth. -/
section
namespace Go.Proofs.YtijbaienhaiamaaDoor.Va
open Go.RowKit

set_option maxHeartbeats 4000000 in
set_option maxRecDepth 100000 in
theorem impl_read (b d : Nat) (HR : d ≤ 12 → ReadOk b (d + 1)) : ReadOk b d := fun w s m h hm hl hk => by
  have hlt := h.lt
  obtain ⟨w1, hw1⟩ : ∃ w1, w1 = w.alloc zeroBox := ⟨_, rfl⟩
  have hb1 : PBox w1 w.heap.size 0 0 ⟨#[]⟩ (.slice none 0 0) := by rw [hw1]; exact heap_at_new w _
  have hB1 : Only (Just b) w w1 := by rw [hw1]; exact (Only.refl _ _).more _
  have hR1 : RdAt w1 b TR s m 40 12 := by rw [hw1]; exact h.below ((Below.refl _ _).alloc (Nat.le_refl _) _)
  have hs1 : w1.heap.size = w.heap.size + 1 := by rw [hw1]; exact Array.size_push _
  have HS := impl_begin w1 b TR s m 40 12 d hR1 (by omega)
  have HW1 := Lib.hid hw1
  have H1 : Hid (PBox w1 w.heap.size 0 0 ⟨#[]⟩ (.slice none 0 0) ∧ Only (Just b) w w1 ∧ w1.heap.size = w.heap.size + 1 ∧ b < w.heap.size ∧ Keeps b w ∧ s.length ≤ 1048576) := ⟨hb1, hB1, hs1, hlt, hk, hl⟩
  have HRR := Lib.hid HR
  clear h hl hk HR hR1 hb1 hB1 hs1 hlt hw1
  by_cases hbeg : m + 1 ≤ 40 ∧ d ≤ 12
  rotate_left
  · have e0 : decide (m + 1 ≤ 40 ∧ d ≤ 12) = false := decide_eq_false hbeg
    rw [e0] at HS
    have HNO : Hid (NoneP 40 s m d) := none_begin hbeg
    clear hbeg e0 HRR
    go_enter Tryd.func13, Tryd.ntmps13
    go_wp2_with fail
    rw [← HW1.out]
    refine HS.mono ?_
    rintro e w2 ⟨rfl, hR2, hO2⟩
    have H2 : Hid (PBox w2 w.heap.size 0 0 ⟨#[]⟩ (.slice none 0 0) ∧ Only (Just b) w w2) := ⟨(hO2.block _ (Array.getElem?_eq_some_iff.1 H1.out.1).1 (by have := H1.out.2.2.2.1; show ¬ (w.heap.size = b); omega)).trans H1.out.1, H1.out.2.1.trans hO2⟩
    have HR2 := Lib.hid hR2
    obtain ⟨x0, x1, x2, x3, f0, f1, f2, f3⟩ := four_cells H2.out.1
    clear hR2 hO2 HS
    go_wp2
    refine bodyPost_ret (results_row_tmp rfl _ _ w.heap.size _ _ _ _ rfl (set4_box H2.out.1 _ _ _ _) Tryd.underlying24 rfl (by kernel_rfl)) rfl ?_
    have q2 := H1.out.2.2.2.1
    exact ans_none rfl HR2.out HNO.out H2.out.2 (Nat.le_refl _) (by omega)
  have e0 : decide (m + 1 ≤ 40 ∧ d ≤ 12) = true := decide_eq_true hbeg
  rw [e0] at HS
  obtain ⟨hm1, hd8⟩ := hbeg
  have hRO := HRR.out hd8
  clear e0 HRR hm
  go_enter Tryd.func13, Tryd.ntmps13
  go_wp2_with fail
  rw [← HW1.out]
  refine HS.mono ?_
  rintro e w2 ⟨rfl, hR2, hO2⟩
  have H2 : Hid (PBox w2 w.heap.size 0 0 ⟨#[]⟩ (.slice none 0 0) ∧ Only (Just b) w w2) := ⟨(hO2.block _ (Array.getElem?_eq_some_iff.1 H1.out.1).1 (by have := H1.out.2.2.2.1; show ¬ (w.heap.size = b); omega)).trans H1.out.1, H1.out.2.1.trans hO2⟩
  clear HS hO2 HW1
  have HS := impl_skip w2 b TR s [34] (m + 1) 40 12 hR2
  clear hR2
  rcases skip_cases s [34] with ⟨e1, e2, e3⟩ | ⟨e1, e2⟩
  rotate_left
  · -- a text
    rw [e1] at HS
    generalize skipped s [34] = r at *
    have e4 : s = 34 :: r := e2
    subst e4
    clear e1 e2
    have hrl : r.length ≤ 1048576 := by have := H1.out.2.2.2.2.2; simp only [List.length_cons] at this; omega
    have HTXT := fun w3 hO h3 => impl_readText w3 b TR r (m + 1) 40 12 h3 hrl ((H1.out.2.2.2.2.1.on hO).mx)
    clear hrl hRO
    go_wp2_with fail
    refine HS.mono ?_
    clear HS
    rintro e w3 ⟨rfl, hR3, hO3⟩
    have H3 : Hid (PBox w3 w.heap.size 0 0 ⟨#[]⟩ (.slice none 0 0) ∧ Only (Just b) w w3) := ⟨(hO3.block _ (Array.getElem?_eq_some_iff.1 H2.out.1).1 (by have := H1.out.2.2.2.1; show ¬ (w.heap.size = b); omega)).trans H2.out.1, H2.out.2.trans hO3⟩
    have HT := Lib.hid (HTXT w3 H3.out.2 hR3)
    clear hR3 hO3 HTXT
    go_wp2_with fail
    refine HT.out.mono ?_
    clear HT
    rintro e w4 ⟨hq, hO4⟩
    have hb4 : PBox w4 w.heap.size 0 0 ⟨#[]⟩ (.slice none 0 0) := (hO4.block _ (Array.getElem?_eq_some_iff.1 H3.out.1).1 (by have := H1.out.2.2.2.1; show ¬ (w.heap.size = b); omega)).trans H3.out.1
    have H4 : Hid (PBox w4 w.heap.size 0 0 ⟨#[]⟩ (.slice none 0 0) ∧ Only (Just b) w w4) := ⟨hb4, H3.out.2.trans hO4⟩
    obtain ⟨x0, x1, x2, x3, f0, f1, f2, f3⟩ := four_cells hb4
    clear hb4 hO4
    cases hQ : quoted r with
    | some p =>
      obtain ⟨a, z⟩ := p
      rw [hQ] at hq
      obtain ⟨rfl, hR4⟩ := hq
      clear x0 x1 x2 x3 f0 f1 f2 f3
      have H5a : Hid (RdAt w4 b TR z (m + 1) 40 12 ∧ OkP 40 12 (34 :: r) m d (leaf 2 0 (str a)) z (m + 1)) := ⟨hR4, text_step_ok hm1 hd8 hQ⟩
      have H4a := H4
      clear hR4 hQ H4
      go_wp2_with fail
      refine (textValue_value (str a) w4).mono ?_
      rintro e w5 ⟨rfl, hb5⟩
      have H4 : Hid (PBox w5 w.heap.size 0 0 ⟨#[]⟩ (.slice none 0 0) ∧ Only (Just b) w w5) := ⟨(hb5.block _ (Array.getElem?_eq_some_iff.1 H4a.out.1).1).trans H4a.out.1, H4a.out.2.trans (Only.of_below hb5)⟩
      have H5 : Hid (RdAt w5 b TR z (m + 1) 40 12 ∧ OkP 40 12 (34 :: r) m d (leaf 2 0 (str a)) z (m + 1)) := ⟨H5a.out.1.below hb5, H5a.out.2⟩
      obtain ⟨x0, x1, x2, x3, f0, f1, f2, f3⟩ := four_cells H4.out.1
      clear hb5 H4a H5a
      go_wp2
      refine bodyPost_ret (results_row_tmp rfl _ _ w.heap.size _ _ _ _ rfl (set4_box H4.out.1 _ _ _ _) Tryd.underlying24 rfl (by kernel_rfl)) rfl ?_
      exact ans_leaf rfl H5.out.1 H5.out.2 H4.out.2 (Nat.le_refl _) (by have := H1.out.2.2.2.1; omega)
    | none =>
      rw [hQ] at hq
      obtain ⟨rfl, hR4⟩ := hq
      have H5 : Hid (RdAt w4 b TR r (m + 1) 40 12 ∧ NoneP 40 (34 :: r) m d) := ⟨hR4, text_step_none hQ⟩
      clear hR4 hQ
      go_wp2
      refine bodyPost_ret (results_row_tmp rfl _ _ w.heap.size _ _ _ _ rfl (set4_box H4.out.1 _ _ _ _) Tryd.underlying24 rfl (by kernel_rfl)) rfl ?_
      exact ans_none rfl H5.out.1 H5.out.2 H4.out.2 (Nat.le_refl _) (by have := H1.out.2.2.2.1; omega)
  rw [e1, e3] at HS
  have HAW0 := Lib.hid (at_word (fun x => e2 x))
  clear e1 e2 e3
  go_wp2_with fail
  refine HS.mono ?_
  clear HS
  rintro e w3 ⟨rfl, hR3, hO3⟩
  have H3 : Hid (PBox w3 w.heap.size 0 0 ⟨#[]⟩ (.slice none 0 0) ∧ Only (Just b) w w3) := ⟨(hO3.block _ (Array.getElem?_eq_some_iff.1 H2.out.1).1 (by have := H1.out.2.2.2.1; show ¬ (w.heap.size = b); omega)).trans H2.out.1, H2.out.2.trans hO3⟩
  have HRW := impl_readWord w3 b s (m + 1) 40 12 hR3 H1.out.2.2.2.2.2
  have hwl : (leadV s).length ≤ 1048576 := by have h1 := congrArg List.length (leadV_drop s); rw [List.length_append] at h1; have := H1.out.2.2.2.2.2; omega
  have HAW : Hid (AtWord s (str (leadV s)).data.toList (s.drop (leadV s).length)) := by
    have e : (str (leadV s)).data.toList = leadV s := by simp [str]
    unfold Hid
    rw [e]
    exact HAW0.out
  have hts : (str (leadV s)).size ≤ 1048576 := by rw [str_size]; exact hwl
  generalize s.drop (leadV s).length = r at *
  generalize str (leadV s) = t at *
  clear hR3 hO3 H2 HAW0 hwl
  go_wp2_with fail
  refine HRW.mono ?_
  clear HRW
  rintro e w4 ⟨rfl, hR4, hO4⟩
  have H4 : Hid (PBox w4 w.heap.size 0 0 ⟨#[]⟩ (.slice none 0 0) ∧ Only (Just b) w w4 ∧ RdAt w4 b TR r (m + 1) 40 12) := ⟨(hO4.block _ (Array.getElem?_eq_some_iff.1 H3.out.1).1 (by have := H1.out.2.2.2.1; show ¬ (w.heap.size = b); omega)).trans H3.out.1, H3.out.2.trans hO4, hR4⟩
  clear hR4 hO4 H3
  have htm : t.size ≤ maxLen := by unfold maxLen; omega
  have HP := impl_ParseInt t hts w4 (H1.out.2.2.2.2.1.on H4.out.2.1).lib
  have HCn := fun w => impl_con t htm w
  have HCon : Hid (∀ w2, Only (Just b) w w2 → RdAt w2 b TR r (m + 1) 40 12 → Word 65 90 t → Calls Tryd.prog 32 #[.pointer (some ⟨b, 0, none⟩), .string t, .int .i64 (d : Int)] w2 fun e w' => Ans w2 b s m d e w' ∧ Only (Just b) w2 w') :=
    fun w2 hO hR2 hW => impl_readCon b d hRO w2 s r t m HAW.out hW hm1 hd8 hR2 H1.out.2.2.2.2.2 (H1.out.2.2.2.2.1.on hO)
  have hin : ∀ n, (-999999999999 ≤ n ∧ n ≤ 999999999999) ↔ inInt n = true := fun n => by simp [inInt]
  clear hRO hts htm
  cases hRd : readOf (-999999999999) 999999999999 t.data.toList with
  | some n =>
    rw [hRd] at HP
    obtain ⟨i1, i2, i3⟩ := (readOf_iff (by omega) (by omega)).1 hRd
    have HI : Hid (OkP 40 12 s m d (leaf 1 n ⟨#[]⟩) r (m + 1)) := int_ok HAW.out hm1 hd8 ((hin n).1 ⟨i1, i2⟩) i3
    clear hRd i1 i2 i3 hin HCn HCon
    go_wp2_with fail
    refine HP.mono ?_
    rintro e w5 ⟨he, hb5⟩
    obtain rfl : e = .returned (.tuple #[.int .i64 n, .bool true]) := he
    clear HP
    have H5 : Hid (PBox w5 w.heap.size 0 0 ⟨#[]⟩ (.slice none 0 0) ∧ Only (Just b) w w5 ∧ RdAt w5 b TR r (m + 1) 40 12) := ⟨(hb5.block _ (Array.getElem?_eq_some_iff.1 H4.out.1).1).trans H4.out.1, H4.out.2.1.trans (Only.of_below hb5), H4.out.2.2.below hb5⟩
    clear hb5 H4
    go_wp2_with fail
    refine (intValue_value n w5).mono ?_
    rintro e w6 ⟨rfl, hb6⟩
    have H6 : Hid (PBox w6 w.heap.size 0 0 ⟨#[]⟩ (.slice none 0 0) ∧ Only (Just b) w w6 ∧ RdAt w6 b TR r (m + 1) 40 12) := ⟨(hb6.block _ (Array.getElem?_eq_some_iff.1 H5.out.1).1).trans H5.out.1, H5.out.2.1.trans (Only.of_below hb6), H5.out.2.2.below hb6⟩
    clear hb6 H5
    obtain ⟨x0, x1, x2, x3, f0, f1, f2, f3⟩ := four_cells H6.out.1
    go_wp2
    refine bodyPost_ret (results_row_tmp rfl _ _ w.heap.size _ _ _ _ rfl (set4_box H6.out.1 _ _ _ _) Tryd.underlying24 rfl (by kernel_rfl)) rfl ?_
    exact ans_leaf rfl H6.out.2.2 HI.out H6.out.2.1 (Nat.le_refl _) (by have := H1.out.2.2.2.1; omega)
  | none =>
    rw [hRd] at HP
    have HNI : Hid (∀ n, inInt n = true → Lib.itoa n ≠ t.data.toList) := fun n hn he => by
      have := (readOf_iff (by omega) (by omega)).2 ⟨((hin n).2 hn).1, ((hin n).2 hn).2, he⟩
      rw [hRd] at this
      cases this
    clear hRd hin
    by_cases hW : Word 65 90 t
    · rw [bl_true hW] at HCn
      have HC2 : Hid (∀ w2, Only (Just b) w w2 → RdAt w2 b TR r (m + 1) 40 12 → Calls Tryd.prog 32 #[.pointer (some ⟨b, 0, none⟩), .string t, .int .i64 (d : Int)] w2 fun e w' => Ans w2 b s m d e w' ∧ Only (Just b) w2 w') := fun w2 hO hR2 => HCon.out w2 hO hR2 hW
      clear HCon hW
      go_wp2_with fail
      refine HP.mono ?_
      rintro e w5 ⟨he, hb5⟩
      obtain rfl : e = .returned (.tuple #[.int .i64 0, .bool false]) := he
      clear HP
      have H5 : Hid (PBox w5 w.heap.size 0 0 ⟨#[]⟩ (.slice none 0 0) ∧ Only (Just b) w w5 ∧ RdAt w5 b TR r (m + 1) 40 12) := ⟨(hb5.block _ (Array.getElem?_eq_some_iff.1 H4.out.1).1).trans H4.out.1, H4.out.2.1.trans (Only.of_below hb5), H4.out.2.2.below hb5⟩
      clear hb5 H4
      go_wp2_with fail
      refine (HCn _).mono ?_
      rintro e w6 ⟨rfl, hb6⟩
      have H6 : Hid (PBox w6 w.heap.size 0 0 ⟨#[]⟩ (.slice none 0 0) ∧ Only (Just b) w w6 ∧ RdAt w6 b TR r (m + 1) 40 12) := ⟨(hb6.block _ (Array.getElem?_eq_some_iff.1 H5.out.1).1).trans H5.out.1, H5.out.2.1.trans (Only.of_below hb6), H5.out.2.2.below hb6⟩
      clear hb6 H5 HCn
      go_wp2_with fail
      refine (HC2.out w6 H6.out.2.1 H6.out.2.2).mono ?_
      rintro e w7 ⟨hAns, hO7⟩
      have hb7 : PBox w7 w.heap.size 0 0 ⟨#[]⟩ (.slice none 0 0) := (hO7.block _ (Array.getElem?_eq_some_iff.1 H6.out.1).1 (by have := H1.out.2.2.2.1; show ¬ (w.heap.size = b); omega)).trans H6.out.1
      have hs6 : w.heap.size + 1 ≤ w6.heap.size := (Array.getElem?_eq_some_iff.1 H6.out.1).1
      have H7 : Hid (PBox w7 w.heap.size 0 0 ⟨#[]⟩ (.slice none 0 0) ∧ Only (Just b) w w7 ∧ w.heap.size + 1 ≤ w6.heap.size) := ⟨hb7, H6.out.2.1.trans hO7, hs6⟩
      obtain ⟨x0, x1, x2, x3, f0, f1, f2, f3⟩ := four_cells hb7
      clear hb7 hO7 hs6 HC2
      rcases hAns with ⟨p, s2, m2, v, bs, rfl, ho, hnd, hbs, hR2, hP⟩ | ⟨s2, m2, rfl, hR2, hP⟩
      · obtain ⟨p2, cap2, rfl, _, _⟩ := ho.reads
        have H8 : Hid (OwnV w7 (.slice p2 p.F.length cap2) p.F bs ∧ bs.Nodup ∧ (∀ c ∈ bs, w6.heap.size ≤ c ∧ c < w7.heap.size) ∧ RdAt w7 b TR s2 m2 40 12 ∧ OkP 40 12 s m d p s2 m2) := ⟨ho, hnd, hbs, hR2, hP⟩
        clear ho hnd hbs hR2 hP
        go_wp2
        refine bodyPost_ret (results_row_tmp rfl _ _ w.heap.size _ _ _ _ rfl (set4_box H7.out.1 _ _ _ _) Tryd.underlying24 rfl (by kernel_rfl)) rfl ?_
        obtain ⟨k1, k2, k3, k4, k5⟩ := H8.out
        have q1 := H7.out.2.2
        have q2 := H1.out.2.2.2.1
        exact ans_some (p := p) rfl k1 k2 (fun c hc => by have := k3 c hc; omega) (fun c hc => by have := k3 c hc; omega) k4 k5 H7.out.2.1 (Nat.le_refl _) (by omega)
      · have H8 : Hid (RdAt w7 b TR s2 m2 40 12 ∧ NoneP 40 s m d) := ⟨hR2, hP⟩
        clear hR2 hP
        go_wp2
        refine bodyPost_ret (results_row_tmp rfl _ _ w.heap.size _ _ _ _ rfl (set4_box H7.out.1 _ _ _ _) Tryd.underlying24 rfl (by kernel_rfl)) rfl ?_
        have q2 := H1.out.2.2.2.1
        exact ans_none rfl H8.out.1 H8.out.2 H7.out.2.1 (Nat.le_refl _) (by omega)
    · rw [bl_false hW] at HCn
      have HNO : Hid (NoneP 40 s m d) := word_none HAW.out (by rw [str_data]; exact hW) HNI.out
      clear HCon hW
      go_wp2_with fail
      refine HP.mono ?_
      rintro e w5 ⟨he, hb5⟩
      obtain rfl : e = .returned (.tuple #[.int .i64 0, .bool false]) := he
      clear HP
      have H5 : Hid (PBox w5 w.heap.size 0 0 ⟨#[]⟩ (.slice none 0 0) ∧ Only (Just b) w w5 ∧ RdAt w5 b TR r (m + 1) 40 12) := ⟨(hb5.block _ (Array.getElem?_eq_some_iff.1 H4.out.1).1).trans H4.out.1, H4.out.2.1.trans (Only.of_below hb5), H4.out.2.2.below hb5⟩
      clear hb5 H4
      go_wp2_with fail
      refine (HCn _).mono ?_
      rintro e w6 ⟨rfl, hb6⟩
      have H6 : Hid (PBox w6 w.heap.size 0 0 ⟨#[]⟩ (.slice none 0 0) ∧ Only (Just b) w w6 ∧ RdAt w6 b TR r (m + 1) 40 12) := ⟨(hb6.block _ (Array.getElem?_eq_some_iff.1 H5.out.1).1).trans H5.out.1, H5.out.2.1.trans (Only.of_below hb6), H5.out.2.2.below hb6⟩
      clear hb6 H5 HCn
      obtain ⟨x0, x1, x2, x3, f0, f1, f2, f3⟩ := four_cells H6.out.1
      go_wp2
      refine bodyPost_ret (results_row_tmp rfl _ _ w.heap.size _ _ _ _ rfl (set4_box H6.out.1 _ _ _ _) Tryd.underlying24 rfl (by kernel_rfl)) rfl ?_
      have q2 := H1.out.2.2.2.1
      exact ans_none rfl H6.out.2.2 HNO.out H6.out.2.1 (Nat.le_refl _) (by omega)

theorem read_ok (b : Nat) : ReadOk b 1 := by
  have h13 : ReadOk b 13 := impl_read b 13 (fun h => by omega)
  have h12 := impl_read b 12 (fun _ => h13)
  have h11 := impl_read b 11 (fun _ => h12)
  have h10 := impl_read b 10 (fun _ => h11)
  have h9 := impl_read b 9 (fun _ => h10)
  have h8 := impl_read b 8 (fun _ => h9)
  have h7 := impl_read b 7 (fun _ => h8)
  have h6 := impl_read b 6 (fun _ => h7)
  have h5 := impl_read b 5 (fun _ => h6)
  have h4 := impl_read b 4 (fun _ => h5)
  have h3 := impl_read b 3 (fun _ => h4)
  have h2 := impl_read b 2 (fun _ => h3)
  exact impl_read b 1 (fun _ => h2)
end Go.Proofs.YtijbaienhaiamaaDoor.Va
end

/- What is proved here: the program's ParsePat answers by the valid value whose text it is given, or false. Conditions: the text has at most 2^20 bytes; the library's variables read as laid. -/
section
namespace Go.Proofs.YtijbaienhaiamaaDoor.Va
open Go.RowKit

/-- What ParsePat ends as. -/
def ParsedP (w : World) (s : List UInt8) (e : Ending) (w' : World) : Prop :=
  (∃ p v bs, e = .returned (.tuple #[.agg #[.int .i64 (PatD.k p), .int .i64 p.n, .string p.t, v], .bool true]) ∧ OwnV w' v p.F bs ∧ bs.Nodup ∧ (∀ c ∈ bs, w.heap.size ≤ c ∧ c < w'.heap.size) ∧ good p ∧ text p = s ∧ Fits 40 12 0 1 p) ∨
  (e = .returned (.tuple #[.agg #[.int .i64 0, .int .i64 0, .string ⟨#[]⟩, .slice none 0 0], .bool false]) ∧ ∀ q : PatD, good q → Fits 40 12 0 1 q → text q ≠ s)

set_option maxHeartbeats 2000000 in
set_option maxRecDepth 100000 in
theorem impl_ParseValue (t : ByteArray) (ht : t.size ≤ 1048576) (w : World) (hL : LibVars w) (hML : ∀ w', Below w.heap.size w w' → MaxLenVar w') :
    Calls Tryd.prog 5 #[.string t] w fun e w' => ParsedP w t.data.toList e w' ∧ Below w.heap.size w w' := by
  obtain ⟨w1, hw1⟩ : ∃ w1, w1 = (w.alloc zeroBox).alloc (.cells #[.string t, .int .i64 0, .int .i64 40, .int .i64 12] TR) := ⟨_, rfl⟩
  obtain ⟨n1, n2, n3, n4⟩ := two_new w zeroBox (.cells #[.string t, .int .i64 0, .int .i64 40, .int .i64 12] TR)
  rw [← hw1] at n1 n2 n3 n4
  have hlen : t.data.toList.length = t.size := rfl
  have hR1 : RdAt w1 (w.heap.size + 1) TR t.data.toList 0 40 12 := by unfold RdAt; rw [str_data]; exact n2
  have hlow : ∀ w', Only (Just (w.heap.size + 1)) w1 w' → Below w.heap.size w w' := fun w' h => n4.trans (h.below (fun b hb => by have : b = w.heap.size + 1 := hb; omega) (by omega))
  have hk : Keeps (w.heap.size + 1) w1 := fun w' h => ⟨hL.stays (hlow w' h), hML w' (hlow w' h)⟩
  have HC : Calls Tryd.prog 13 #[.pointer (some ⟨w.heap.size + 1, 0, none⟩), .int .i64 1] w1 fun e w' => Ans w1 (w.heap.size + 1) t.data.toList 0 1 e w' ∧ Only (Just (w.heap.size + 1)) w1 w' := read_ok (w.heap.size + 1) w1 t.data.toList 0 hR1 (by omega) (by omega) hk
  have HW1 := Lib.hid hw1
  have H1 : Hid (PBox w1 w.heap.size 0 0 ⟨#[]⟩ (.slice none 0 0) ∧ w1.heap.size = w.heap.size + 2) := ⟨n1, n3⟩
  have HLow := Lib.hid hlow
  have HC1 := Lib.hid HC
  clear hw1 n1 n2 n3 n4 hR1 hlow hk HC hL hML ht hlen
  generalize hs : t.data.toList = s at *
  clear hs
  go_enter Tryd.func5, Tryd.ntmps5
  go_wp2_with fail
  rw [← HW1.out]
  refine HC1.out.mono ?_
  clear HC1
  rintro e w2 ⟨hAns, hO2⟩
  have q1 := H1.out.2
  have hb2 : PBox w2 w.heap.size 0 0 ⟨#[]⟩ (.slice none 0 0) := (hO2.block _ (by omega) (by show ¬ (w.heap.size = w.heap.size + 1); omega)).trans H1.out.1
  have H2 : Hid (PBox w2 w.heap.size 0 0 ⟨#[]⟩ (.slice none 0 0) ∧ Below w.heap.size w w2 ∧ w.heap.size + 2 ≤ w2.heap.size) := ⟨hb2, HLow.out w2 hO2, by have := hO2.size; omega⟩
  clear hO2 q1
  rcases hAns with ⟨p, s2, m2, v, bs, rfl, ho, hnd, hbs, hR2, hP⟩ | ⟨s2, m2, rfl, hR2, hP⟩
  rotate_left
  · have HNO : Hid (∀ q : PatD, good q → Fits 40 12 0 1 q → text q ≠ s) := fun q hq hf e => hP q [] hq (by rw [e, List.append_nil]) (.inl rfl) hf
    have hb3 : PBox (w2.alloc zeroBox) w.heap.size 0 0 ⟨#[]⟩ (.slice none 0 0) := (Below.heap_alloc _ _ _ (by have := H2.out.2.2; omega)).trans hb2
    have HB3 := Lib.hid hb3
    obtain ⟨x0, x1, x2, x3, f0, f1, f2, f3⟩ := four_cells hb3
    clear hb3 hb2 hP hR2
    go_wp2
    refine bodyPost_ret (results_row_tmp rfl _ _ w.heap.size _ _ _ _ rfl (set4_box HB3.out _ _ _ _) Tryd.underlying24 rfl (by kernel_rfl)) rfl ?_
    exact ⟨.inr ⟨rfl, HNO.out⟩, ((((H2.out.2.1.alloc H2.out.2.1.size _).setCell (Nat.le_refl _) _).setCell (Nat.le_refl _) _).setCell (Nat.le_refl _) _).setCell (Nat.le_refl _) _⟩
  obtain ⟨p2, cap2, rfl, _, _⟩ := ho.reads
  obtain ⟨w3, hw3⟩ : ∃ w3, w3 = w2.alloc (.cells #[.int .i64 p.k, .int .i64 p.n, .string p.t, .slice p2 p.F.length cap2] TP) := ⟨_, rfl⟩
  have hB3 : Below w2.heap.size w2 w3 := by rw [hw3]; exact (Below.refl _ _).alloc (Nat.le_refl _) _
  have hb3 : PBox w3 w.heap.size 0 0 ⟨#[]⟩ (.slice none 0 0) := (hB3.block _ (by have := H2.out.2.2; omega)).trans hb2
  have hR3 := hR2.below hB3
  have hn3 := heap_at_new w2 (.cells #[.int .i64 p.k, .int .i64 p.n, .string p.t, .slice p2 p.F.length cap2] TP)
  have hb3' := hb3
  have hR3' := hR3
  unfold RdAt at hR3'
  rw [hw3] at hb3' hR3'
  obtain ⟨y0, y1, y2, y3, _, _, _, _⟩ := four_cells hn3
  obtain ⟨z0, _, _, _, _, _, _, _⟩ := four_cells hR3'
  obtain ⟨x0, x1, x2, x3, f0, f1, f2, f3⟩ := four_cells hb3'
  have HB3 : Hid (PBox (w2.alloc (.cells #[.int .i64 p.k, .int .i64 p.n, .string p.t, .slice p2 p.F.length cap2] TP)) w.heap.size 0 0 ⟨#[]⟩ (.slice none 0 0) ∧ Below w2.heap.size w2 (w2.alloc (.cells #[.int .i64 p.k, .int .i64 p.n, .string p.t, .slice p2 p.F.length cap2] TP))) := by rw [← hw3]; exact ⟨hb3, hB3⟩
  have H4 : Hid (OwnV w2 (.slice p2 p.F.length cap2) p.F bs ∧ bs.Nodup ∧ (∀ c ∈ bs, w1.heap.size ≤ c ∧ c < w2.heap.size) ∧ OkP 40 12 s 0 1 p s2 m2) := ⟨ho, hnd, hbs, hP⟩
  clear ho hnd hbs hP hB3 hb3 hR3 hn3 hb3' hR3' hw3 hR2 hb2
  by_cases he : s2 = []
  · subst he
    have h0 : str [] = ⟨#[]⟩ := rfl
    rw [h0] at z0
    clear h0
    go_wp2
    refine bodyPost_ret (results_row_tmp rfl _ _ w.heap.size _ _ _ _ rfl (set4_box HB3.out.1 _ _ _ _) Tryd.underlying24 rfl (by kernel_rfl)) rfl ?_
    obtain ⟨k1, k2, k3, k4⟩ := H4.out
    have q1 := H1.out.2
    have hB := H2.out.2.1.trans (HB3.out.2.mono H2.out.2.1.size)
    refine ⟨.inl ⟨p, _, bs, rfl, k1.keep (fun c hc => (set4_other _ _ _ _ (by have := k3 c hc; omega)).trans (HB3.out.2.block c (k3 c hc).2)), k2, fun c hc => ⟨by have := k3 c hc; omega, Nat.lt_of_lt_of_le (k3 c hc).2 (Nat.le_trans HB3.out.2.size (Nat.le_of_eq (set4_size _ _ _ _ _ _).symm))⟩, k4.good, ?_, k4.fits⟩, (((hB.setCell (Nat.le_refl _) _).setCell (Nat.le_refl _) _).setCell (Nat.le_refl _) _).setCell (Nat.le_refl _) _⟩
    rw [k4.text, List.append_nil]
  · have HNO : Hid (∀ q : PatD, good q → Fits 40 12 0 1 q → text q ≠ s) := fun q hq hf e => he ((H4.out.2.2.2.uniq q [] hq (by rw [e, List.append_nil]) (.inl rfl) hf).2.symm)
    have h0 : ((str s2).toList == []) = false := by rw [ByteArray.toList_eq]; simpa [str] using he
    clear he
    generalize str s2 = us at *
    go_wp2
    refine bodyPost_ret (results_row_tmp rfl _ _ w.heap.size _ _ _ _ rfl (set4_box HB3.out.1 _ _ _ _) Tryd.underlying24 rfl (by kernel_rfl)) rfl ?_
    have hB := H2.out.2.1.trans (HB3.out.2.mono H2.out.2.1.size)
    exact ⟨.inr ⟨rfl, HNO.out⟩, (((hB.setCell (Nat.le_refl _) _).setCell (Nat.le_refl _) _).setCell (Nat.le_refl _) _).setCell (Nat.le_refl _) _⟩
end Go.Proofs.YtijbaienhaiamaaDoor.Va
end
