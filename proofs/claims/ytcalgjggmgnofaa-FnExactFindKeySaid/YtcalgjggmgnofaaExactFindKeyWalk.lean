/- What is proved here: the text of FnExactFindKey returns true for every list of keys and key. Condition: none. -/
import Derived.Test.YtcalgjggmgnofaaFindKey
namespace Go.Proofs.Ytcalgjggmgnofaa
open Go.RowKit

set_option maxHeartbeats 4000000 in
set_option maxRecDepth 100000 in
theorem fnExactFindKey_walk (a : Option Addr) (cap : Nat) (l : List KeyD) (k n : Int) (t : ByteArray) (w : World) (hx : KeysAt w a l) (hm : l.length ≤ maxLen) (hs : ∀ x ∈ l, x.2.2.size ≤ maxLen) (ht : t.size ≤ maxLen) :
    Calls Try.prog 6 #[.slice a l.length cap, .agg #[.int .i64 k, .int .i64 n, .string t]] w fun e w' => e = .returned (.bool true) ∧ Below w.heap.size w w' := by
  have hB0 : Below w.heap.size w (w.alloc (.cells #[.int .i64 k, .int .i64 n, .string t] 46)) := (Below.refl _ _).alloc (Nat.le_refl _) _
  have hv0 : KeyAt _ _ k n t 46 := heap_at_new w (.cells #[.int .i64 k, .int .i64 n, .string t] 46)
  have H0 := szKeyS_any (w.alloc (.cells #[.int .i64 k, .int .i64 n, .string t] 46)) a cap l (hx.below hB0) hm hs
  generalize hw0 : w.alloc (.cells #[.int .i64 k, .int .i64 n, .string t] 46) = w0 at *
  have HW0 := Lib.hid hw0
  have HB0 := Lib.hid hB0
  have HX := Lib.hid (hx.below hB0)
  have HV0 := Lib.hid hv0
  obtain ⟨v0, v1, v2⟩ := hv0.cells
  clear hw0 hB0 hx hv0
  by_cases hsz : l.length + inK l ≤ 1048576
  · rw [left_yes hsz] at H0
    have hL1 : 1048576 - (l.length + inK l) ≤ 1048576 := by omega
    have hl : l.length ≤ 1048576 := by omega
    generalize 1048576 - (l.length + inK l) = L1 at *
    have H1 := fun w' => szKey_any L1 hL1 w' k n t ht
    by_cases hsz2 : t.size ≤ L1
    · rw [left_yes hsz2] at H1
      have hL2 : L1 - t.size ≤ 1048576 := by omega
      generalize L1 - t.size = L2 at *
      have HT := Lib.hid (fun w' (hb : Below w0.heap.size w0 w') => toKeyS_any w' a cap l (HX.out.below hb) hl)
      have HK := Lib.hid (fun w' => toKey_any w' k n t)
      have HS := fun w' p (hx : KeysAt w' p l) => spec_findKey w' p l.length l (k, n, t) hx hm
      have HI := fun w' p (hx : KeysAt w' p l) => impl_findKey w' p l.length l (k, n, t) hx hm
      have HE := Lib.hid (fun w' p q (hx : KeysAt w' p l) (hy : KeysAt w' q l) => eqKeyS_same w' p q l.length l.length l hx hy hm)
      generalize idxK (k, n, t) l 0 = z at HS HI
      have HHS := Lib.hid HS
      have HHI := Lib.hid HI
      have HH1 := Lib.hid H1
      clear hsz hsz2 hm hs ht HS HI H1
      go_enter Try.func6, Try.ntmps6
      go_wp2_with fail
      rw [HW0.out]
      refine H0.mono ?_
      rintro e w1 ⟨rfl, hb1⟩
      have HB1 := Lib.hid hb1
      have HV1 := Lib.hid (HV0.out.below hb1)
      clear v0 v1 v2 hb1 H0
      obtain ⟨v0, v1, v2⟩ := HV1.out.cells
      go_wp2_with fail
      refine (HH1.out w1).mono ?_
      rintro e w2 ⟨rfl, hb2⟩
      have HB2 : Hid (Below w0.heap.size w0 w2) := HB1.out.trans (hb2.mono HB1.out.size)
      have HV2 := Lib.hid (HV1.out.below hb2)
      clear v0 v1 v2 hb2 HH1
      obtain ⟨v0, v1, v2⟩ := HV2.out.cells
      go_wp2
      have HV2d : Hid (KeyAt w2.drew w.heap.size k n t 46) := HV2
      have HB2d : Hid (Below w0.heap.size w0 w2.drew) := HB2.out.drew
      go_region_held3 (fun w' => w'.cell? ⟨w.heap.size, 0, none⟩ = some (.int .i64 k) ∧ w'.cell? ⟨w.heap.size, 1, none⟩ = some (.int .i64 n) ∧ w'.cell? ⟨w.heap.size, 2, none⟩ = some (.string t))
        (first
          | go_keep
          | exact HV4.out.cells
          | exact HV3.out.cells
          | exact HVa.out.cells
          | exact HVb.out.cells)
        (first
          | (go_at_call 25; first
            | (refine (HT.out wb HBb.out).mono ?_; rintro e w3 ⟨⟨p3, rfl, hp3⟩, hb3⟩; have HP3 := Lib.hid hp3; have HB3 : Hid (Below w0.heap.size w0 w3) := HBb.out.trans (hb3.mono HBb.out.size); have HV3 := Lib.hid (HVb.out.below hb3); clear hp3 hb3)
            | (refine (HT.out w2.drew HB2d.out).mono ?_; rintro e wa ⟨⟨p3, rfl, hp3⟩, hb3⟩; have HPa := Lib.hid hp3; have HBa : Hid (Below w0.heap.size w0 wa) := HB2d.out.trans (hb3.mono HB2d.out.size); have HVa := Lib.hid (HV2d.out.below hb3); clear hp3 hb3))
          | (go_at_call 26; first
            | (refine (HK.out wa).mono ?_; rintro e w3 ⟨rfl, hb3⟩; have HP3 := Lib.hid (HPa.out.below hb3); have HB3 : Hid (Below w0.heap.size w0 w3) := HBa.out.trans (hb3.mono HBa.out.size); have HV3 := Lib.hid (HVa.out.below hb3); clear hb3)
            | (refine (HK.out w2.drew).mono ?_; rintro e wb ⟨rfl, hb3⟩; have HBb : Hid (Below w0.heap.size w0 wb) := HB2d.out.trans (hb3.mono HB2d.out.size); have HVb := Lib.hid (HV2d.out.below hb3); clear hb3))
          | (go_at_call 24; refine (HHS.out w3 p3 HP3.out).mono ?_; rintro e w4 ⟨rfl, hb4⟩; have HB4 : Hid (Below w0.heap.size w0 w4) := HB3.out.trans (hb4.mono HB3.out.size); have HV4 := Lib.hid (HV3.out.below hb4); clear hb4))
      all_goals
        clear v0 v1 v2 HV2 HB2 HV3 HB3 HP3 HV2d HB2d HHS
        obtain ⟨v0, v1, v2⟩ := HV4.out.cells
        go_wp2_with fail
        refine (HT.out w4 HB4.out).mono ?_
        rintro e w5 ⟨⟨p5, rfl, hp5⟩, hb5⟩
        have HP5 := Lib.hid hp5
        have HB5 : Hid (Below w0.heap.size w0 w5) := HB4.out.trans (hb5.mono HB4.out.size)
        have HV5 := Lib.hid (HV4.out.below hb5)
        clear v0 v1 v2 hp5 hb5
        obtain ⟨v0, v1, v2⟩ := HV5.out.cells
        go_wp2_with fail
        refine (HK.out w5).mono ?_
        rintro e w6 ⟨rfl, hb6⟩
        have HP6 := Lib.hid (HP5.out.below hb6)
        have HB6 : Hid (Below w0.heap.size w0 w6) := HB5.out.trans (hb6.mono HB5.out.size)
        clear v0 v1 v2 hb6
        go_wp2_with fail
        refine (HHI.out w6 p5 HP6.out).mono ?_
        rintro e w7 ⟨rfl, hb7⟩
        have HP7 := Lib.hid (HP6.out.below hb7)
        have HB7 : Hid (Below w0.heap.size w0 w7) := HB6.out.trans (hb7.mono HB6.out.size)
        clear hb7
        go_wp2_with fail
        refine (HT.out w7 HB7.out).mono ?_
        rintro e w8 ⟨⟨p8, rfl, hp8⟩, hb8⟩
        have HP8 := Lib.hid hp8
        have HQ8 := Lib.hid (HP7.out.below hb8)
        have HB8 : Hid (Below w0.heap.size w0 w8) := HB7.out.trans (hb8.mono HB7.out.size)
        clear hp8 hb8
        go_wp2_with fail
        refine (HE.out w8 p5 p8 HQ8.out HP8.out).mono ?_
        rintro e w9 ⟨rfl, hb9⟩
        have HB9 : Hid (Below w0.heap.size w0 w9) := HB8.out.trans (hb9.mono HB8.out.size)
        clear hb9
        go_wp2
        go_ret
        exact ⟨rfl, HB0.out.trans (HB9.out.mono HB0.out.size)⟩
    · rw [left_no hsz2] at H1
      have HH1 := Lib.hid H1
      clear hsz hsz2 hm hs ht H1
      go_enter Try.func6, Try.ntmps6
      go_wp2_with fail
      rw [HW0.out]
      refine H0.mono ?_
      rintro e w1 ⟨rfl, hb1⟩
      have HB1 := Lib.hid hb1
      have HV1 := Lib.hid (HV0.out.below hb1)
      clear v0 v1 v2 hb1 H0
      obtain ⟨v0, v1, v2⟩ := HV1.out.cells
      go_wp2_with fail
      refine (HH1.out w1).mono ?_
      rintro e w2 ⟨rfl, hb2⟩
      have HB2 : Hid (Below w0.heap.size w0 w2) := HB1.out.trans (hb2.mono HB1.out.size)
      clear v0 v1 v2 hb2 HH1
      go_wp2
      go_ret
      exact ⟨rfl, HB0.out.trans (HB2.out.mono HB0.out.size)⟩
  · rw [left_no hsz] at H0
    clear hsz hm hs ht v0 v1 v2
    go_enter Try.func6, Try.ntmps6
    go_wp2_with fail
    rw [HW0.out]
    refine H0.mono ?_
    rintro e w1 ⟨rfl, hb1⟩
    have HB1 := Lib.hid hb1
    clear hb1 H0
    go_wp2
    go_ret
    exact ⟨rfl, HB0.out.trans (HB1.out.mono HB0.out.size)⟩
end Go.Proofs.Ytcalgjggmgnofaa
