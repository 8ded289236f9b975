/- What is proved here: the program's KeyOf. Condition: none. -/
import Derived.Test.YtcalgjggmgnofaaDoorKeys
namespace Go.Proofs.YtcalgjggmgnofaaDoor
open Go.RowKit

set_option maxHeartbeats 2000000 in
set_option maxRecDepth 100000 in
theorem impl_keyOf (w : World) (k n : Int) (t : ByteArray) (p : Option Addr) (l c : Nat) :
    Calls Tryd.prog 20 #[.agg #[.int .i64 k, .int .i64 n, .string t, .slice p l c]] w fun e w' => e = .returned (keyOfV k n t) ∧ Below w.heap.size w w' := by
  obtain ⟨hp0, hB0⟩ := two_above w (.cells #[.int .i64 k, .int .i64 n, .string t, .slice p l c] 26) (.cells #[.int .i64 0, .int .i64 0, .string ⟨#[]⟩] 40)
  have hs0 : ((w.alloc (.cells #[.int .i64 k, .int .i64 n, .string t, .slice p l c] 26)).alloc (.cells #[.int .i64 0, .int .i64 0, .string ⟨#[]⟩] 40)).heap.size = w.heap.size + 2 := by simp
  have hK := impl_kind ((w.alloc (.cells #[.int .i64 k, .int .i64 n, .string t, .slice p l c] 26)).alloc (.cells #[.int .i64 0, .int .i64 0, .string ⟨#[]⟩] 40)) k n t p l c
  generalize hw0 : (w.alloc (.cells #[.int .i64 k, .int .i64 n, .string t, .slice p l c] 26)).alloc (.cells #[.int .i64 0, .int .i64 0, .string ⟨#[]⟩] 40) = w0 at *
  have HW0 := Lib.hid hw0
  have HB0 := Lib.hid hB0
  have HP0 := Lib.hid hp0
  have HS0 := Lib.hid hs0
  have y1 := assert_yes (P := Tryd.prog) (X := 66) Tryd.underlying69
  have y2 := assert_yes (P := Tryd.prog) (X := 66) Tryd.underlying71
  have y3 := assert_yes (P := Tryd.prog) (X := 66) Tryd.underlying73
  have n21 := assert_no (P := Tryd.prog) (X := 66) (T2 := 71) Tryd.underlying69 zero_int (by decide)
  have n31 := assert_no (P := Tryd.prog) (X := 66) (T2 := 73) Tryd.underlying69 zero_int (by decide)
  have n32 := assert_no (P := Tryd.prog) (X := 66) (T2 := 73) Tryd.underlying71 zero_text (by decide)
  have n1 := assert_nil (P := Tryd.prog) (X := 66) Tryd.underlying69 zero_int
  have n2 := assert_nil (P := Tryd.prog) (X := 66) Tryd.underlying71 zero_text
  have n3 := assert_nil (P := Tryd.prog) (X := 66) Tryd.underlying73 zero_con
  clear hw0 hB0 hp0 hs0
  by_cases h1 : k = 1
  · subst h1
    have HK : Hid (keyOfV 1 n t = keyV 1 n ⟨#[]⟩) := by unfold Hid keyOfV; rw [if_pos rfl]
    change Calls _ _ _ _ (fun e w' => e = .returned (.iface 69 (.agg #[.int .i64 n])) ∧ _) at hK
    go_enter Tryd.func20, Tryd.ntmps20
    go_wp2_with fail
    rw [HW0.out]
    refine hK.mono ?_
    rintro e w1 ⟨rfl, hb1⟩
    have hg := hb1.size
    have hs := HS0.out
    have hp1 := (hb1.block (w.heap.size + 1) (by omega)).trans HP0.out
    have hB1 : Below w.heap.size w w1 := HB0.out.trans (hb1.mono HB0.out.size)
    obtain ⟨hp2, hB2⟩ : (w1.alloc (.cells #[.int .i64 n] 69)).heap[w.heap.size + 1]? = some (.cells #[.int .i64 0, .int .i64 0, .string ⟨#[]⟩] 40 (0, 0)) ∧ Below w.heap.size w (w1.alloc (.cells #[.int .i64 n] 69)) := by
      refine ⟨?_, ?_⟩
      · rw [Below.heap_alloc _ _ _ (by omega)]; exact hp1
      · exact hB1.alloc (by omega) _
    have HP2 := Lib.hid hp2
    have HB2 := Lib.hid hB2
    obtain ⟨c0, c1, c2, f0, f1, f2⟩ := three_cells hp2
    clear hb1 hK hp1 hp2 hB1 hB2 hg hs
    go_wp2
    refine bodyPost_ret (results_cell_row rfl _ _ (w.heap.size + 1) _ _ _ _ rfl (three_set (three_set (three_set HP2.out _).1 _).2.1 _).2.2 Tryd.underlying40 rfl (by kernel_rfl)) rfl ?_
    exact ⟨by rw [HK.out]; rfl, ((HB2.out.setCell (by show _ ≤ w.heap.size + 1; omega) _).setCell (by show _ ≤ w.heap.size + 1; omega) _).setCell (by show _ ≤ w.heap.size + 1; omega) _⟩
  · have e1 : (k == 1) = false := by simpa using h1
    by_cases h2 : k = 2
    · subst h2
      have HK : Hid (keyOfV 2 n t = keyV 2 0 t) := by unfold Hid keyOfV; rw [if_neg (by decide), if_pos rfl]
      change Calls _ _ _ _ (fun e w' => e = .returned (.iface 71 (.agg #[.string t])) ∧ _) at hK
      go_enter Tryd.func20, Tryd.ntmps20
      go_wp2_with fail
      rw [HW0.out]
      refine hK.mono ?_
      rintro e w1 ⟨rfl, hb1⟩
      have hg := hb1.size
      have hs := HS0.out
      have hp1 := (hb1.block (w.heap.size + 1) (by omega)).trans HP0.out
      have hB1 : Below w.heap.size w w1 := HB0.out.trans (hb1.mono HB0.out.size)
      obtain ⟨hp2, hB2⟩ : (w1.alloc (.cells #[.string t] 71)).heap[w.heap.size + 1]? = some (.cells #[.int .i64 0, .int .i64 0, .string ⟨#[]⟩] 40 (0, 0)) ∧ Below w.heap.size w (w1.alloc (.cells #[.string t] 71)) := by
        refine ⟨?_, ?_⟩
        · rw [Below.heap_alloc _ _ _ (by omega)]; exact hp1
        · exact hB1.alloc (by omega) _
      have HP2 := Lib.hid hp2
      have HB2 := Lib.hid hB2
      obtain ⟨c0, c1, c2, f0, f1, f2⟩ := three_cells hp2
      clear hb1 hK hp1 hp2 hB1 hB2 hg hs
      go_wp2
      refine bodyPost_ret (results_cell_row rfl _ _ (w.heap.size + 1) _ _ _ _ rfl (three_set (three_set (three_set HP2.out _).1 _).2.1 _).2.2 Tryd.underlying40 rfl (by kernel_rfl)) rfl ?_
      exact ⟨by rw [HK.out]; rfl, ((HB2.out.setCell (by show _ ≤ w.heap.size + 1; omega) _).setCell (by show _ ≤ w.heap.size + 1; omega) _).setCell (by show _ ≤ w.heap.size + 1; omega) _⟩
    · have e2 : (k == 2) = false := by simpa using h2
      by_cases h3 : k = 3
      · subst h3
        have HK : Hid (keyOfV 3 n t = keyV 3 0 t) := by unfold Hid keyOfV; rw [if_neg (by decide), if_neg (by decide), if_pos rfl]
        change Calls _ _ _ _ (fun e w' => e = .returned (.iface 73 (.agg #[.string t, .slice p l c])) ∧ _) at hK
        go_enter Tryd.func20, Tryd.ntmps20
        go_wp2_with fail
        rw [HW0.out]
        refine hK.mono ?_
        rintro e w1 ⟨rfl, hb1⟩
        have hg := hb1.size
        have hs := HS0.out
        have hp1 := (hb1.block (w.heap.size + 1) (by omega)).trans HP0.out
        have hB1 : Below w.heap.size w w1 := HB0.out.trans (hb1.mono HB0.out.size)
        obtain ⟨hp2, hB2⟩ : (w1.alloc (.cells #[.string t, .slice p l c] 73)).heap[w.heap.size + 1]? = some (.cells #[.int .i64 0, .int .i64 0, .string ⟨#[]⟩] 40 (0, 0)) ∧ Below w.heap.size w (w1.alloc (.cells #[.string t, .slice p l c] 73)) := by
          refine ⟨?_, ?_⟩
          · rw [Below.heap_alloc _ _ _ (by omega)]; exact hp1
          · exact hB1.alloc (by omega) _
        have HP2 := Lib.hid hp2
        have HB2 := Lib.hid hB2
        obtain ⟨c0, c1, c2, f0, f1, f2⟩ := three_cells hp2
        clear hb1 hK hp1 hp2 hB1 hB2 hg hs
        go_wp2
        refine bodyPost_ret (results_cell_row rfl _ _ (w.heap.size + 1) _ _ _ _ rfl (three_set (three_set (three_set HP2.out _).1 _).2.1 _).2.2 Tryd.underlying40 rfl (by kernel_rfl)) rfl ?_
        exact ⟨by rw [HK.out]; rfl, ((HB2.out.setCell (by show _ ≤ w.heap.size + 1; omega) _).setCell (by show _ ≤ w.heap.size + 1; omega) _).setCell (by show _ ≤ w.heap.size + 1; omega) _⟩
      · have e3 : (k == 3) = false := by simpa using h3
        have HKV : Hid (kindV k n t p l c = .nilIface) := by unfold Hid kindV; rw [if_neg h1, if_neg h2, if_neg h3]
        have HK : Hid (keyOfV k n t = keyV 0 0 ⟨#[]⟩) := by unfold Hid keyOfV; rw [if_neg h1, if_neg h2, if_neg h3]
        clear h1 h2 h3
        rw [HKV.out] at hK
        go_enter Tryd.func20, Tryd.ntmps20
        go_wp2_with fail
        rw [HW0.out]
        refine hK.mono ?_
        rintro e w1 ⟨rfl, hb1⟩
        have hg := hb1.size
        have hs := HS0.out
        have hp1 := (hb1.block (w.heap.size + 1) (by omega)).trans HP0.out
        have hB1 : Below w.heap.size w w1 := HB0.out.trans (hb1.mono HB0.out.size)
        obtain ⟨hp2, hB2⟩ : (w1).heap[w.heap.size + 1]? = some (.cells #[.int .i64 0, .int .i64 0, .string ⟨#[]⟩] 40 (0, 0)) ∧ Below w.heap.size w (w1) := by
          refine ⟨?_, ?_⟩
          · exact hp1
          · exact hB1
        have HP2 := Lib.hid hp2
        have HB2 := Lib.hid hB2
        obtain ⟨c0, c1, c2, f0, f1, f2⟩ := three_cells hp2
        clear hb1 hK hp1 hp2 hB1 hB2 hg hs
        go_wp2
        refine bodyPost_ret (results_cell_row rfl _ _ (w.heap.size + 1) _ _ _ _ rfl (three_set (three_set (three_set HP2.out _).1 _).2.1 _).2.2 Tryd.underlying40 rfl (by kernel_rfl)) rfl ?_
        exact ⟨by rw [HK.out]; rfl, ((HB2.out.setCell (by show _ ≤ w.heap.size + 1; omega) _).setCell (by show _ ≤ w.heap.size + 1; omega) _).setCell (by show _ ≤ w.heap.size + 1; omega) _⟩
end Go.Proofs.YtcalgjggmgnofaaDoor
