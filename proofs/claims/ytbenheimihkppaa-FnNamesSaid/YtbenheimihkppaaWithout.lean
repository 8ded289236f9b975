/- What is proved here: Without, of the program and of the model, gives the texts that are not to be removed, in order, in a block of its own. Condition: at most 1048576 texts in each list, each of them a text that came in. -/
import Derived.Test.YtbenheimihkppaaSpecSort
namespace Go.Proofs.Ytbenheimihkppaa
open Go.RowKit

/-- What is left. -/
noncomputable def kept (xs rm : List ByteArray) : List ByteArray := xs.filter fun x => !bl (x ∈ rm)
theorem kept_len (xs rm : List ByteArray) : (kept xs rm).length ≤ xs.length := List.length_filter_le _ _
theorem kept_zero (xs rm : List ByteArray) : kept (xs.take 0) rm = [] := rfl
theorem kept_in {xs rm : List ByteArray} {k : Nat} (hk : k < xs.length) (h : ¬ xs[k] ∈ rm) : kept (xs.take (k + 1)) rm = kept (xs.take k) rm ++ [xs[k]] := by
  unfold kept
  rw [List.take_succ_eq_append_getElem hk, List.filter_append]
  congr 1
  simp [bl_false h]
theorem kept_out {xs rm : List ByteArray} {k : Nat} (hk : k < xs.length) (h : xs[k] ∈ rm) : kept (xs.take (k + 1)) rm = kept (xs.take k) rm := by
  unfold kept
  rw [List.take_succ_eq_append_getElem hk, List.filter_append]
  simp [bl_true h]
theorem kept_take_len (xs rm : List ByteArray) (k : Nat) : (kept (xs.take k) rm).length ≤ k := by
  have h1 := kept_len (xs.take k) rm
  rw [List.length_take] at h1
  omega

set_option maxHeartbeats 2000000 in
set_option maxRecDepth 100000 in
theorem spec_without (w : World) (a b : Option Addr) (cap cap2 : Nat) (xs rm : List ByteArray) (hx : Reads w a xs) (hr : Reads w b rm) (hm : xs.length ≤ 1048576) (hm2 : rm.length ≤ maxLen) :
    Calls Try.prog 33 #[.slice a xs.length cap, .slice b rm.length cap2] w (OutTexts w (kept xs rm)) := by
  have hi : (Try.prog.info? 9).map (fun i => (i.zero, i.size, i.bytes)) = some (some (.string ⟨#[]⟩), 1, 16) := by kernel_rfl
  obtain ⟨i0, hi, hz0, hz1, hz2⟩ := info_parts hi
  have HX := Lib.hid hx
  have HR := Lib.hid hr
  have HM2 := Lib.hid hm2
  clear hx hr hm2
  generalize hn : xs.length = n at *
  have HN := Lib.hid hn
  clear hn
  go_enter Try.func33, Try.ntmps33
  go_wp2
  go_loopw [5, 6] (fun v i wr => ∃ (k g c : Nat), k ≤ n ∧ i = .int .i64 k ∧ v = .slice (some ⟨g, 0, none⟩) (kept (xs.take k) rm).length c ∧ wr.ownsRow w.heap.size 9 1 (.slice (some ⟨g, 0, none⟩) (kept (xs.take k) rm).length c) (kept (xs.take k) rm).length ((kept (xs.take k) rm).map Value.string) ∧ Below w.heap.size w wr) (fun _ i _ => n - (intOf i).toNat)
  case atStart =>
    refine ⟨0, w.heap.size, 0, Nat.zero_le _, rfl, rfl, ?_, (Below.refl _ _).alloc (Nat.le_refl _) _⟩
    exact World.ownsRow_lit w #[] 0 (Nat.le_refl _) (by unfold maxLen; omega) rfl
  case round =>
    obtain ⟨k, g, c, hk, rfl, rfl, hown, hB⟩ := hrel
    have hkl := kept_take_len xs rm k
    by_cases hlt : k < n
    · have hk' : k < xs.length := by rw [HN.out]; exact hlt
      obtain ⟨y, rfl, hc⟩ := reads_below HX.out hB k hk'
      obtain ⟨x, hxe⟩ : ∃ x, xs[k] = x := ⟨_, rfl⟩
      rw [hxe] at hc
      have hin := kept_in (rm := rm) hk'
      have hout := kept_out (rm := rm) hk'
      rw [hxe] at hin hout
      have hix := idx_mem rm x
      have H := spec_index wr b cap2 rm x (reads_below HR.out hB) HM2.out
      have HI := Lib.hid hin
      have HU := Lib.hid hout
      have HO := Lib.hid hown
      clear hxe hin hout hown
      generalize kept (xs.take k) rm = ys at *
      by_cases hmem : x ∈ rm
      · have hnn : ¬ Lib.idxOfS rm x < 0 := fun h => (hix.1 h) hmem
        generalize Lib.idxOfS rm x = z at H hnn
        have HE := Lib.hid (HU.out hmem)
        clear hmem hix HI HU
        go_wp2_with fail
        refine H.mono ?_
        rintro e w1 ⟨rfl, rfl⟩
        go_wp2
        go_roundw
        case rel =>
          refine ⟨k + 1, g, c, by omega, by go_num, ?_, ?_, hB⟩
          · rw [HE.out]
          · rw [HE.out]; exact HO.out
        case measure => simp [intOf]; omega
      · have hnn : Lib.idxOfS rm x < 0 := hix.2 hmem
        generalize Lib.idxOfS rm x = z at H hnn
        have HE := Lib.hid (HI.out hmem)
        clear hmem hix HI HU
        go_wp2_with fail
        refine H.mono ?_
        rintro e w1 ⟨rfl, rfl⟩
        have hown := HO.out
        go_wp2_with (at_builtin; refine wpList_append_own _ rfl _ _ 24 rfl w.heap.size 9 i0 (.string ⟨#[]⟩) 1 16 Try.underlying24 hi hz0 hz1 hz2 rfl (by decide) _ _ _ rfl (hown.alloc _) ⟨w1.heap.size, 0, none⟩ 1 1 [.string x] rfl rfl ?d1 ?d2 ?d3 ?d4 ?d5 ?_)
        case d1 =>
          intro j u hj
          match j, hj with
          | 0, hj => simp at hj; subst hj; simp [Addr.add, World.cell?_alloc_new]
        case d2 => intro u hu; simp at hu; subst hu; rfl
        case d3 => unfold maxLen; omega
        case d4 => omega
        case d5 => have := hB.size; simp; omega
        intro v2 w2 hown2 hg2 hnil2
        have hB2 : Below w.heap.size w w2 := (hB.alloc (by have := hB.size; omega) _).grown hg2 (by have := hB.size; simp; omega) (fun j hj => (hown.lt j hj).1)
        have hv2 : v2 ≠ .slice none 0 0 := by first | exact hnil2 | (intro h; have := hnil2.1 h; simp at this)
        have hown3 : w2.ownsRow w.heap.size 9 1 v2 (kept (xs.take (k + 1)) rm).length ((kept (xs.take (k + 1)) rm).map Value.string) := by
          rw [HE.out, List.length_append, List.map_append]
          exact hown2
        obtain ⟨g2, c2, rfl⟩ := owned_shape hown3 hv2
        have HO3 := Lib.hid hown3
        have HL : Hid (ys.length + 1 = (kept (xs.take (k + 1)) rm).length) := by unfold Hid; rw [HE.out]; simp
        clear hown hown2 hown3 hg2 hnil2 hv2
        go_wp2
        go_roundw
        case rel => exact ⟨k + 1, g2, c2, by omega, by go_num, rfl, HO3.out, hB2⟩
        case measure => simp [intOf]; omega
    · obtain rfl : k = n := by omega
      have e : xs.take k = xs := List.take_of_length_le (by have := HN.out; omega)
      rw [e] at hown ⊢
      obtain ⟨g', c', rest, hv, hg, hb, _⟩ := block_of_owned hown (by simp)
      cases hv
      have HBL := Lib.hid hb
      clear hown hb e
      generalize kept xs rm = ys at *
      go_wp2
      go_ret
      exact ⟨g, c, rest, hg, rfl, HBL.out, hB⟩

theorem make_set (W : World) (n : Nat) : (Instr.makeMap 39 (some (.int .i64 (n : Int)))).run Try.prog W = .ok (.map (some W.heap.size)) (W.alloc (.map #[] 0)) := by
  simp [Instr.makeMap, run_underlying Try.underlying39, asInt, asIntOf, Result.andThen]

set_option maxHeartbeats 2000000 in
set_option maxRecDepth 100000 in
theorem impl_without (w : World) (a b : Option Addr) (cap cap2 : Nat) (xs rm : List ByteArray) (hx : Reads w a xs) (hr : Reads w b rm) (hm : xs.length ≤ 1048576) (hm2 : rm.length ≤ 1048576) (hs : ∀ x ∈ xs, x.size ≤ maxLen) (hs2 : ∀ x ∈ rm, x.size ≤ maxLen) :
    Calls Try.prog 24 #[.slice a xs.length cap, .slice b rm.length cap2] w (OutTexts w (kept xs rm)) := by
  have hi : (Try.prog.info? 9).map (fun i => (i.zero, i.size, i.bytes)) = some (some (.string ⟨#[]⟩), 1, 16) := by kernel_rfl
  obtain ⟨i0, hi, hz0, hz1, hz2⟩ := info_parts hi
  have HX := Lib.hid hx
  have HR := Lib.hid hr
  have HS := Lib.hid hs
  have HS2 := Lib.hid hs2
  clear hx hr hs hs2
  generalize hn : xs.length = n at *
  have HN := Lib.hid hn
  clear hn
  generalize hm' : rm.length = m at *
  have HM := Lib.hid hm'
  clear hm'
  have hmk := make_set w m
  have hset0 := isSet_made w
  have hb0 : Below w.heap.size w (w.alloc (.map #[] 0)) := (Below.refl _ _).alloc (Nat.le_refl _) _
  go_enter Try.func24, Try.ntmps24
  go_wp2
  generalize w.alloc (.map #[] 0) = w0 at hset0 hb0 ⊢
  clear hmk
  go_loopw [16] (fun i wr => ∃ k : Nat, k ≤ m ∧ i = .int .i64 k ∧ IsSet wr w.heap.size k (rm.take k) ∧ Below w.heap.size w wr) (fun i _ => m - (intOf i).toNat)
  case atStart => exact ⟨0, Nat.zero_le _, rfl, hset0, hb0⟩
  case round =>
    obtain ⟨k, hk, rfl, hset, hB⟩ := hrel
    by_cases hlt : k < m
    · have hk' : k < rm.length := by rw [HM.out]; exact hlt
      obtain ⟨y, rfl, hc⟩ := reads_below HR.out hB k hk'
      have hsn := List.take_succ_eq_append_getElem hk'
      have hxs := HS2.out _ (List.getElem_mem hk')
      generalize rm[k] = x at hc hsn hxs
      obtain ⟨w1, hrun, hset1, hg1⟩ := hset.put (by unfold maxLen; omega) x hxs
      rw [← hsn] at hset1
      have HS1 := Lib.hid hset1
      have hB1 : Below w.heap.size w w1 := hB.grown hg1 hB.size (fun j e => by injection e with e; omega)
      clear hset hset1 hsn hg1
      go_wp2
      go_roundw
      case rel => exact ⟨k + 1, by omega, by go_num, HS1.out, hB1⟩
      case measure => simp [intOf]; omega
    · obtain rfl : k = m := by omega
      have e : rm.take k = rm := List.take_of_length_le (by have := HM.out; omega)
      rw [e] at hset
      have hlts := hset.lt
      obtain ⟨w1, hrun, hown0, hg0⟩ := run_make_own (P := Try.prog) wr (w.heap.size + 1) 24 9 i0 (.string ⟨#[]⟩) 1 Try.underlying24 hi hz0 hz1 .i64 .i64 n (by rw [hz2]; omega) (by unfold maxLen; omega) (by omega)
      have hset1 := hset.kept hg0 (by simp)
      have hB1 : Below w.heap.size w w1 := hB.grown hg0 hB.size (fun j e => by cases e)
      have HS1 := Lib.hid hset1
      have HO1 := Lib.hid hown0
      clear hset hset1 hown0 hg0 e
      go_wp2
      go_loopw [8, 28] (fun v i wq => ∃ (j g c : Nat), j ≤ n ∧ i = .int .i64 j ∧ v = .slice (some ⟨g, 0, none⟩) (kept (xs.take j) rm).length c ∧ wq.ownsRow (w.heap.size + 1) 9 1 (.slice (some ⟨g, 0, none⟩) (kept (xs.take j) rm).length c) (kept (xs.take j) rm).length ((kept (xs.take j) rm).map Value.string) ∧ IsSet wq w.heap.size k rm ∧ Below w.heap.size w wq) (fun _ i _ => n - (intOf i).toNat)
      case atStart => exact ⟨0, wr.heap.size, n, Nat.zero_le _, rfl, rfl, HO1.out, HS1.out, hB1⟩
      case round =>
        obtain ⟨j, g, c, hj, rfl, rfl, hown, hset, hBq⟩ := hrel
        have hkl := kept_take_len xs rm j
        by_cases hlt2 : j < n
        · have hj' : j < xs.length := by rw [HN.out]; exact hlt2
          obtain ⟨y, rfl, hc⟩ := reads_below HX.out hBq j hj'
          have hxs := HS.out _ (List.getElem_mem hj')
          obtain ⟨x, hxe⟩ : ∃ x, xs[j] = x := ⟨_, rfl⟩
          rw [hxe] at hc hxs
          have hin := kept_in (rm := rm) hj'
          have hout := kept_out (rm := rm) hj'
          rw [hxe] at hin hout
          have hlook := hset.look x hxs
          have HI := Lib.hid hin
          have HU := Lib.hid hout
          have HO := Lib.hid hown
          have HT := Lib.hid hset
          clear hxe hin hout hown hset
          generalize kept (xs.take j) rm = ys at *
          by_cases hmem : x ∈ rm
          · rw [bl_true hmem] at hlook
            have HE := Lib.hid (HU.out hmem)
            clear hmem HI HU
            go_wp2
            go_roundw
            case rel =>
              refine ⟨j + 1, g, c, by omega, by go_num, ?_, ?_, HT.out, hBq⟩
              · rw [HE.out]
              · rw [HE.out]; exact HO.out
            case measure => simp [intOf]; omega
          · rw [bl_false hmem] at hlook
            have HE := Lib.hid (HI.out hmem)
            clear hmem HI HU
            have hown := HO.out
            have hltq := HT.out.lt
            go_wp2_with (at_builtin; refine wpList_append_own _ rfl _ _ 24 rfl (w.heap.size + 1) 9 i0 (.string ⟨#[]⟩) 1 16 Try.underlying24 hi hz0 hz1 hz2 rfl (by decide) _ _ _ rfl (hown.alloc _) ⟨wr.heap.size, 0, none⟩ 1 1 [.string x] rfl rfl ?d1 ?d2 ?d3 ?d4 ?d5 ?_)
            case d1 =>
              intro j u hj
              match j, hj with
              | 0, hj => simp at hj; subst hj; simp [Addr.add, World.cell?_alloc_new]
            case d2 => intro u hu; simp at hu; subst hu; rfl
            case d3 => unfold maxLen; omega
            case d4 => omega
            case d5 => simp; omega
            intro v2 w2 hown2 hg2 hnil2
            have hB2 : Below w.heap.size w w2 := (hBq.alloc (by have := hBq.size; omega) _).grown hg2 (by have := hBq.size; simp; omega) (fun j hj => by have := (hown.lt j hj).1; omega)
            have hset2 : IsSet w2 w.heap.size k rm := (HT.out.kept (World.grownBy_alloc wr _ none) (by simp)).kept hg2 (by intro e; have := (hown.lt _ e.symm).1; omega)
            have hv2 : v2 ≠ .slice none 0 0 := by first | exact hnil2 | (intro h; have := hnil2.1 h; simp at this)
            have hown3 : w2.ownsRow (w.heap.size + 1) 9 1 v2 (kept (xs.take (j + 1)) rm).length ((kept (xs.take (j + 1)) rm).map Value.string) := by
              rw [HE.out, List.length_append, List.map_append]
              exact hown2
            obtain ⟨g2, c2, rfl⟩ := owned_shape hown3 hv2
            have HO3 := Lib.hid hown3
            have HT2 := Lib.hid hset2
            clear hown hown2 hown3 hg2 hnil2 hv2 hset2
            go_wp2
            go_roundw
            case rel => exact ⟨j + 1, g2, c2, by omega, by go_num, rfl, HO3.out, HT2.out, hB2⟩
            case measure => simp [intOf]; omega
        · obtain rfl : j = n := by omega
          have e : xs.take j = xs := List.take_of_length_le (by have := HN.out; omega)
          rw [e] at hown ⊢
          obtain ⟨g', c', rest, hv, hg, hb, _⟩ := block_of_owned hown (by simp)
          cases hv
          have HBL := Lib.hid hb
          clear hown hb e hset
          generalize kept xs rm = ys at *
          go_wp2
          go_ret
          exact ⟨g, c, rest, by omega, rfl, HBL.out, hBq⟩
end Go.Proofs.Ytbenheimihkppaa
