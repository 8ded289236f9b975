/- What is proved here: the text of FnSplit returns true for every code. Condition: the library's variable bytealg.MaxLen holds an integer. -/
import Derived.Test.YtcidmanlijeomaaDoorBig
import Derived.Test.YtcidmanlijeomaaDoorDrawNum
import Derived.Test.YtcidmanlijeomaaDoorImplSplit
import Derived.Test.YtcidmanlijeomaaDoorJoined
namespace Go.Proofs.YtcidmanlijeomaaDoor
open Go.RowKit

def splitTexts : List ByteArray := [⟨#[]⟩, ⟨#[97]⟩, ⟨#[97, 44, 98]⟩, ⟨#[44]⟩, ⟨#[97, 44, 44, 98, 44]⟩, ⟨#[97, 10, 98, 10]⟩]
theorem splitTexts_short : ∀ s ∈ splitTexts, s.size ≤ 100 := by
  intro s hs
  simp [splitTexts] at hs
  rcases hs with rfl | rfl | rfl | rfl | rfl | rfl <;> decide
def splitBytes : List Int := [44, 10]

/-- A short text and a byte come back, and nothing that was there has changed. -/
def DrawnSplit (w : World) (e : Ending) (w' : World) : Prop := ∃ (s : ByteArray) (c : UInt8), s.size ≤ 100 ∧ e = .returned (.tuple #[.string s, .int .u8 (c.toNat : Int)]) ∧ Below w.heap.size w w'

set_option maxHeartbeats 1000000 in
set_option maxRecDepth 100000 in
theorem drawSplit_any (w : World) (a : Option Addr) (len cap : Nat) (zs : List Int) (hr : IsRow .u8 w a len cap zs) (hlen : len ≤ 1048576) :
    Calls Tryd.prog 17 #[.slice a len cap] w (DrawnSplit w) := by
  have HR := Lib.hid hr
  clear hr
  go_enter Tryd.func17, Tryd.ntmps17
  go_wp2_with fail
  refine (new_any w a len cap zs HR.out hlen).mono ?_
  rintro e w1 ⟨N, hN, rfl, hc, hb1⟩
  go_wp2_with fail
  have hs2 := CurStep.alloc hc (.cells (splitTexts.map Value.string).toArray 9)
  have hM := heap_new w1 (.cells (splitTexts.map Value.string).toArray 9)
  refine (pick_any N w1.heap.size splitTexts 6 9 _ hs2.1 hM (by have := hc.lt; omega) (by decide) (by decide)).mono ?_
  rintro e w2 ⟨s, hs, rfl, hs3⟩
  have HS := splitTexts_short s hs
  have hst2 := hs2.trans hs3
  have HB := Lib.hid hst2
  clear hs hs2 hs3 hM hst2
  go_wp2_with fail
  have hs4 := CurStep.alloc HB.out.1 (.cells (splitBytes.map (Value.int .i64)).toArray 3)
  have hM := heap_new w2 (.cells (splitBytes.map (Value.int .i64)).toArray 3)
  refine (pick_int N w2.heap.size splitBytes 2 3 _ hs4.1 hM (by have := HB.out.1.lt; omega) (by decide) (by decide)).mono ?_
  rintro e w3 ⟨b, hb, rfl, hs5⟩
  have hB3 := ((HB.out.trans hs4).trans hs5).below hb1 hb1.size hN
  obtain ⟨c, rfl⟩ : ∃ c : UInt8, b = (c.toNat : Int) := by
    simp [splitBytes] at hb
    rcases hb with rfl | rfl
    · exact ⟨44, rfl⟩
    · exact ⟨10, rfl⟩
  have hcl := c.toNat_lt
  clear hb hs4 hs5 hM
  go_wp2
  go_ret2
  exact ⟨s, c, HS, rfl, hB3⟩

set_option maxHeartbeats 2000000 in
set_option maxRecDepth 100000 in
theorem fnSplit_walk (a : Option Addr) (len cap : Nat) (zs : List Int) (w : World) (hr : IsRow .u8 w a len cap zs) (hv : MaxLenVar w) :
    Calls Tryd.prog 4 #[.slice a len cap] w fun e w' => e = .returned (.bool true) ∧ Below w.heap.size w w' := by
  have hlen := row_len hr
  have HR := Lib.hid hr
  clear hr
  by_cases hbig : 1048576 < len
  · go_enter Tryd.func4, Tryd.ntmps4
    go_wp2_with fail
    refine (big_any a len cap hlen _).mono ?_
    rintro e w1 ⟨rfl, rfl⟩
    rw [decide_eq_true hbig]
    go_wp2
    go_ret
    exact ⟨rfl, Below.refl _ _⟩
  · go_enter Tryd.func4, Tryd.ntmps4
    go_wp2_with fail
    refine (big_any a len cap hlen _).mono ?_
    rintro e w1 ⟨rfl, rfl⟩
    rw [decide_eq_false hbig]
    go_wp2_with fail
    refine (drawSplit_any w a len cap zs HR.out (by omega)).mono ?_
    rintro e w1 ⟨s, c, hs, rfl, hb1⟩
    -- the pieces, as texts
    obtain ⟨ys, hy⟩ : ∃ ys : List ByteArray, ys.map (·.data.toList) = pieces c s.data.toList := ⟨(pieces c s.data.toList).map fun l => ⟨l.toArray⟩, by rw [List.map_map]; exact (List.map_congr_left (fun l _ => rfl)).trans (List.map_id _)⟩
    have hyl : ys.length ≤ 101 := by
      have h1 := pieces_len c s.data.toList
      rw [← hy] at h1
      have h2 : s.data.toList.length = s.size := rfl
      simp only [List.length_map] at h1
      omega
    have hjo : joined ys ⟨#[c]⟩ = s.data.toList := by
      show Lib.join (ys.map (·.data.toList)) [c] = _
      rw [hy, join_pieces]
    have hys : ∀ j (h : j < ys.length), ys[j].size ≤ 100 ∧ pieces c ys[j].data.toList = [ys[j].data.toList] := by
      intro j h
      have hm : ys[j].data.toList ∈ pieces c s.data.toList := by rw [← hy]; exact List.mem_map.2 ⟨ys[j], List.getElem_mem h, rfl⟩
      refine ⟨?_, pieces_none c _ (pieces_free c _ _ hm)⟩
      have := piece_short ys ⟨#[c]⟩ j h
      rw [hjo] at this
      have h2 : s.data.toList.length = s.size := rfl
      have h3 : ys[j].data.toList.length = ys[j].size := rfl
      omega
    have HY := Lib.hid hy
    have HJ := Lib.hid hjo
    have HYS := Lib.hid hys
    clear hy hjo hys
    go_wp2_with fail
    refine (impl_split s c (by omega) w1 (hv.stays hb1 (Nat.le_refl _)) ys HY.out).mono ?_
    rintro e w2 ⟨g, hg, rfl, hc2, hb2⟩
    have hb2' : Below w.heap.size w w2 := hb1.trans (hb2.mono hb1.size)
    have hcv := conv_sep c w2
    have hw3 : Below w2.heap.size w2 (w2.alloc (.cells #[.int .u8 (c.toNat : Int)] 5)) := (Below.refl _ _).alloc (Nat.le_refl _) _
    have hlt2 : g < w2.heap.size := by
      rcases Nat.lt_or_ge g w2.heap.size with h | h
      · exact h
      · rw [Array.getElem?_eq_none h] at hc2
        cases hc2
    have hc3 : (w2.alloc (.cells #[.int .u8 (c.toNat : Int)] 5)).heap[g]? = some (.cells (ys.map Value.string).toArray 9 (0, 0)) := by rw [hw3.block g hlt2]; exact hc2
    have HC2 := Lib.hid hc2
    have HC3 := Lib.hid hc3
    clear hc2 hc3
    go_wp2_with fail
    clear hcv
    refine (impl_join _ g ys ⟨#[c]⟩ HC3.out (by omega) (by rw [HJ.out]; have h2 : s.data.toList.length = s.size := rfl; omega)).mono ?_
    rintro e w4 ⟨rfl, hb4⟩
    have hb3' : Below w.heap.size w _ := hb2'.trans (hw3.mono hb2'.size)
    have hb4' : Below w.heap.size w w4 := hb3'.trans (hb4.mono hb3'.size)
    have hr4 : Reads w4 (some ⟨g, 0, none⟩) ys := reads_below (reads_new HC3.out) hb4
    rw [show ByteArray.mk (joined ys ⟨#[c]⟩).toArray = s by rw [HJ.out]]
    go_wp2_with fail
    refine (spec_split s c (by omega) w4).mono ?_
    rintro e w5 ⟨zs', hz, a5, c5, rfl, hr5, hb5⟩
    have hzl : zs'.length = ys.length := by
      have := congrArg List.length (hz.trans HY.out.symm)
      simpa using this
    have hb5' : Below w.heap.size w w5 := hb4'.trans (hb5.mono hb4'.size)
    have HR5 := Lib.hid (reads_below hr4 hb5)
    clear hr4 hz hr5
    rw [hzl]
    have HZ := Lib.hid hzl
    clear hzl
    go_wp2
    go_loopw [6] (fun i wr => ∃ k : Nat, k ≤ ys.length ∧ i = .int .i64 k ∧ Reads wr (some ⟨g, 0, none⟩) ys ∧ Below w.heap.size w wr) (fun i _ => ys.length - (intOf i).toNat)
    case atStart => exact ⟨0, Nat.zero_le _, rfl, HR5.out, hb5'⟩
    case round =>
      obtain ⟨k, hk, rfl, hrd, hB⟩ := hrel
      by_cases hlt : k < ys.length
      · have hk2 : k < ys.length := hlt
        obtain ⟨y, hye, hc⟩ := hrd k hk2
        injection hye with hye
        subst hye
        have e1 : (⟨g, 0, none⟩ : Addr).add k = ⟨g, k, none⟩ := by simp [Addr.add]; intro h; omega
        rw [e1] at hc
        have hp := HYS.out k hk2
        obtain ⟨x, hx⟩ : ∃ x, ys[k] = x := ⟨_, rfl⟩
        rw [hx] at hc hp
        have HP := Lib.hid hp
        have HRD := Lib.hid hrd
        clear hp hrd hx
        go_wp2_with fail
        refine (impl_split x c (by have := HP.out.1; omega) wr (hv.stays hB (Nat.le_refl _)) [x] (by rw [HP.out.2]; rfl)).mono ?_
        rintro e w6 ⟨g6, hg6, rfl, hc6, hb6⟩
        have hb6' : Below w.heap.size w w6 := hB.trans (hb6.mono hB.size)
        have HR6 := Lib.hid (reads_below HRD.out hb6)
        clear hc6
        go_wp2
        go_roundw
        case rel => exact ⟨k + 1, by omega, by go_num, HR6.out, hb6'⟩
        case measure => simp [intOf]; omega
      · go_wp2
        go_ret
        exact ⟨rfl, hB⟩
end Go.Proofs.YtcidmanlijeomaaDoor
