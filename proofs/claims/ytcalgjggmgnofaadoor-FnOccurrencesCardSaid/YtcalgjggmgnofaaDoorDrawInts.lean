/- What is proved here: drawn lists of numbers (package spec, l5Draw). Condition: the cursor's block holds a cursor. -/
import Derived.Test.YtcalgjggmgnofaaDoorDrawBent
import Derived.Test.YtcalgjggmgnofaaDoorInts
namespace Go.Proofs.YtcalgjggmgnofaaDoor
open Go.RowKit

def occInts : List Int := [0, 1, 0, 1, 2, -1]
theorem occInts_small : ∀ x ∈ occInts, -1 ≤ x ∧ x ≤ 2 := by decide
/-- A drawn list of numbers. -/
def DrawnInts (N : Nat) (w : World) (e : Ending) (w' : World) : Prop :=
  ∃ g cap zs, e = .returned (.slice (some ⟨g, 0, none⟩) (List.length zs) cap) ∧ w.heap.size ≤ g ∧ g < w'.heap.size ∧ zs.length ≤ cap ∧ cap ≤ maxLen ∧ zs.length ≤ 4 ∧ (∀ z ∈ zs, -1 ≤ z ∧ z ≤ 2) ∧ ReadsI w' (some ⟨g, 0, none⟩) zs ∧ CurStep N w w'

theorem ints_of_own {w : World} {B g cap : Nat} {T : TypeId} {zs : List Int} (h : w.ownsRow B T 1 (.slice (some ⟨g, 0, none⟩) zs.length cap) zs.length (zs.map (Value.int .i64))) : ReadsI w (some ⟨g, 0, none⟩) zs := by
  intro j hj
  have ha : (⟨g, 0, none⟩ : Addr).add j = ⟨g, j, none⟩ := by simp [Addr.add]; intro h; omega
  refine ⟨_, rfl, ?_⟩
  rw [ha, h.cellAt j (by omega)]
  simp [hj]

set_option maxHeartbeats 4000000 in
set_option maxRecDepth 100000 in
theorem l5Draw_any (N : Nat) (w : World) (hc : Cur N w) : Calls Tryd.prog 38 #[.pointer (some ⟨N, 0, none⟩)] w (DrawnInts N w) := by
  have hi : (Tryd.prog.info? 3).map (fun i => (i.zero, i.size, i.bytes)) = some (some (.int .i64 0), 1, 8) := by kernel_rfl
  obtain ⟨i0, hi, hz0, hz1, hz2⟩ := info_parts hi
  have hNw := hc.lt
  have hs3 := CurStep.alloc hc (.cells #[] 3)
  have hown := World.ownsRow_lit (base := w.heap.size) (e := 3) (size := 1) w #[] 0 (Nat.le_refl _) (by unfold maxLen; omega) rfl
  have HBL := Lib.hid (below_any N 4 (by omega) (by omega) _ hs3.1)
  have HS3 := Lib.hid hs3
  clear hs3 hown hc
  go_enter Tryd.func38, Tryd.ntmps38
  go_wp2_with fail
  refine HBL.out.mono ?_
  rintro e w4 ⟨n, n0, n1, rfl, hs4⟩
  obtain ⟨n, rfl⟩ : ∃ m : Nat, n = m := ⟨n.toNat, by omega⟩
  have hst := HS3.out.trans hs4
  have hz3 : (w.alloc (.cells #[] 3)).heap.size = w.heap.size + 1 := Array.size_push _
  have HM : Hid (CurStep N w w4 ∧ ∀ z ∈ ([] : List Int), -1 ≤ z ∧ z ≤ 2) := ⟨hst, by simp⟩
  have HO4 : Hid (w4.ownsRow w.heap.size 3 1 (.slice (some ⟨w.heap.size, 0, none⟩) 0 0) 0 (([] : List Int).map (Value.int .i64))) := by
    refine ⟨rfl, .inr ⟨w.heap.size, 0, #[], rfl, Nat.le_refl _, ?_, Nat.le_refl _, by unfold maxLen; omega, rfl, rfl⟩⟩
    rw [hs4.2.block _ (by omega) (fun e => by injection e with e; omega)]
    exact heap_at_new w _
  clear HBL HS3 hs4 hst hz3 n0
  go_wp2
  go_loopw [3, 5] (fun lv i wr => ∃ (j g c : Nat) (zs : List Int), i = .int .i64 j ∧ j ≤ n ∧ zs.length = j ∧ lv = .slice (some ⟨g, 0, none⟩) j c ∧ Hid (wr.ownsRow w.heap.size 3 1 (.slice (some ⟨g, 0, none⟩) j c) j (zs.map (Value.int .i64))) ∧ Hid (CurStep N w wr ∧ ∀ z ∈ zs, -1 ≤ z ∧ z ≤ 2)) (fun _ i _ => n - (intOf i).toNat)
  case atStart => exact ⟨0, w.heap.size, 0, [], rfl, Nat.zero_le _, rfl, rfl, HO4, HM⟩
  case round =>
    obtain ⟨j, g, c, zs, rfl, hj, hlj, rfl, hO, hM⟩ := hrel
    have HLJ := Lib.hid hlj
    clear hlj
    by_cases hlt : j < n
    · have hs5 := CurStep.alloc hM.out.1.1 (.cells (occInts.map (Value.int .i64)).toArray 3)
      have HK := Lib.hid (pick_int N wr.heap.size occInts 6 3 _ hs5.1 (heap_new wr _) (by have := hM.out.1.size; omega) (by decide) (by decide))
      have HS5 := Lib.hid hs5
      clear hs5
      go_wp2_with fail
      refine HK.out.mono ?_
      rintro e w5 ⟨x, hx, rfl, hs6⟩
      have hst := HS5.out.trans hs6
      have hO5 : w5.ownsRow w.heap.size 3 1 (.slice (some ⟨g, 0, none⟩) j c) j (zs.map (Value.int .i64)) := by
        refine ⟨hO.out.1, hO.out.2.imp id ?_⟩
        rintro ⟨g', c', cur, e1, hb, hg, r⟩
        exact ⟨g', c', cur, e1, hb, (hst.2.block g' (Array.getElem?_eq_some_iff.1 hg).1 (fun e => by injection e with e; omega)).trans hg, r⟩
      have HM5 : Hid (CurStep N w w5 ∧ ∀ z ∈ zs ++ [x], -1 ≤ z ∧ z ≤ 2) := ⟨hM.out.1.trans hst, fun z hz => by rcases List.mem_append.1 hz with h | h; exact hM.out.2 z h; rw [List.mem_singleton.1 h]; exact occInts_small x hx⟩
      have HO6 : Hid ((w5.alloc (.cells #[.int .i64 x] 3)).ownsRow w.heap.size 3 1 (.slice (some ⟨g, 0, none⟩) j c) j (zs.map (Value.int .i64))) := hO5.alloc _
      have HN6 := Lib.hid (World.news_of_block (heap_at_new w5 (.cells #[.int .i64 x] 3)))
      have HN7 : Hid (∀ u ∈ [Value.int .i64 x], u.oneCell' = true) := by intro u hu; simp at hu; rcases hu with rfl; rfl
      clear hs6 hst hO5 hM hO HK HS5 hx
      go_wp2_with (at_builtin; refine wpList_append_lies _ rfl _ _ 27 rfl w.heap.size 3 i0 (.int .i64 0) 1 8 Tryd.underlying27 hi hz0 hz1 hz2 rfl (by decide) _ _ _ rfl HO6.out ⟨w5.heap.size, 0, none⟩ 1 1 [.int .i64 x] rfl rfl HN6.out HN7.out (by decide) (by unfold maxLen; omega) (by omega) (by have := HM5.out.1.size; simp; omega) (w5.heap.size + 1) (by simp) ?_)
      intro g9 cap9 w9 hown hgrow hat hlt9
      have hfar : ∀ b, (Value.slice (some ⟨g, 0, none⟩) j c).ownBlock = some b → w.heap.size ≤ b := fun b e => (HO6.out.lt b e).1
      have hs6 := CurStep.alloc HM5.out.1.1 (.cells #[.int .i64 x] 3)
      have hM6 := HM5.out.1.trans hs6
      have HM9 : Hid (CurStep N w w9 ∧ ∀ z ∈ zs ++ [x], -1 ≤ z ∧ z ≤ 2) := ⟨⟨hM6.1.later hgrow (fun g e => by have := hfar g e; omega), grown_join hM6.2 hgrow (fun g e => .inr (hfar g e))⟩, HM5.out.2⟩
      have HO9 : Hid (w9.ownsRow w.heap.size 3 1 (.slice (some ⟨g9, 0, none⟩) (j + 1) cap9) (j + 1) ((zs ++ [x]).map (Value.int .i64))) := by unfold Hid; rw [List.map_append]; exact hown
      have HLJ9 : (zs ++ [x]).length = j + 1 := by simp [HLJ.out]
      have HL9 := Lib.hid HLJ9
      clear hown hgrow hat hlt9 hfar hs6 hM6 HM5 HO6 HN6 HN7 HLJ9
      go_wp2
      go_roundw
      case rel => exact ⟨j + 1, g9, cap9, zs ++ [x], by go_num, hlt, HL9.out, rfl, HO9, HM9⟩
      case measure => simp [intOf]; omega
    · obtain rfl : j = n := by omega
      have hO5 := hO.out
      have hcap : j ≤ c ∧ c ≤ maxLen ∧ w.heap.size ≤ g ∧ g < wr.heap.size := by
        rcases hO5.2 with ⟨h, _⟩ | ⟨g', c', cur, h, hb, hg, h1, h2, _⟩
        · cases h
        · injection h with h4 _ h3
          injection h4 with h4
          injection h4 with h4
          subst h3 h4
          exact ⟨h1, h2, hb, (Array.getElem?_eq_some_iff.1 hg).1⟩
      have hka : ReadsI wr (some ⟨g, 0, none⟩) zs := ints_of_own (B := w.heap.size) (T := 3) (cap := c) (by rw [HLJ.out]; exact hO5)
      have HKA := Lib.hid hka
      have HCAP := Lib.hid hcap
      clear hO5 hka hcap hO
      go_wp2
      go_ret
      exact ⟨g, c, zs, by rw [HLJ.out]; rfl, HCAP.out.2.2.1, HCAP.out.2.2.2, by rw [HLJ.out]; exact HCAP.out.1, HCAP.out.2.1, by rw [HLJ.out]; omega, hM.out.2, HKA.out, hM.out.1⟩
end Go.Proofs.YtcalgjggmgnofaaDoor
