/- What is proved here: the text of FnNumbers returns true for every code. Condition: the listed variables of Go's library are as listed. -/
import Derived.Test.YtcidmanlijeomaaDoorDrawNum
import Derived.Test.YtcidmanlijeomaaDoorSpecParse
import Derived.Test.YtcidmanlijeomaaDoorImplParse
namespace Go.Proofs.YtcidmanlijeomaaDoor
open Go.RowKit

theorem big_any (a : Option Addr) (len cap : Nat) (hc : len ≤ 9223372036854775807) (w : World) :
    Calls Tryd.prog 9 #[.slice a len cap] w fun e w' => e = .returned (.bool (decide (1048576 < len))) ∧ w = w' := by
  by_cases h : 1048576 < len
  · rw [decide_eq_true h]
    have e : decide (1048576 < (len : Int)) = true := by simp; omega
    go_enter Tryd.func9, Tryd.ntmps9
    go_wp2
    go_ret
    exact ⟨rfl, rfl⟩
  · rw [decide_eq_false h]
    have e : decide (1048576 < (len : Int)) = false := by simp; omega
    go_enter Tryd.func9, Tryd.ntmps9
    go_wp2
    go_ret
    exact ⟨rfl, rfl⟩

theorem row_len {k : IntKind} {w : World} {a : Option Addr} {len cap : Nat} {zs : List Int} (h : IsRow k w a len cap zs) : len ≤ 9223372036854775807 := by
  rcases h with ⟨_, h, _⟩ | ⟨x, _, h1, h2, _⟩
  · omega
  · unfold maxLen at h2
    omega

theorem row_below {k : IntKind} {w w' : World} {a : Option Addr} {len cap : Nat} {zs : List Int} (h : IsRow k w a len cap zs) (hb : Below w.heap.size w w') : IsRow k w' a len cap zs :=
  row_stays (row := none) h ⟨hb.os, hb.tape, hb.output, hb.size, fun k hk _ => hb.block k hk⟩ (fun _ _ _ => by simp)

set_option maxHeartbeats 2000000 in
set_option maxRecDepth 100000 in
theorem fnNumbers_walk (a : Option Addr) (len cap : Nat) (zs : List Int) (w : World) (hr : IsRow .u8 w a len cap zs) (hL : LibVars w) :
    Calls Tryd.prog 3 #[.slice a len cap] w fun e w' => e = .returned (.bool true) ∧ Below w.heap.size w w' := by
  have hlen := row_len hr
  have HR := Lib.hid hr
  clear hr
  by_cases hbig : 1048576 < len
  · go_enter Tryd.func3, Tryd.ntmps3
    go_wp2_with fail
    refine (big_any a len cap hlen _).mono ?_
    rintro e w1 ⟨rfl, rfl⟩
    rw [decide_eq_true hbig]
    go_wp2
    go_ret
    exact ⟨rfl, Below.refl _ _⟩
  · go_enter Tryd.func3, Tryd.ntmps3
    go_wp2_with fail
    refine (big_any a len cap hlen _).mono ?_
    rintro e w1 ⟨rfl, rfl⟩
    rw [decide_eq_false hbig]
    go_wp2_with fail
    refine (drawFormatInt_any w a len cap zs HR.out (by omega)).mono ?_
    rintro e w1 ⟨n, n0, n1, rfl, hb1⟩
    go_wp2_with fail
    refine (impl_format n n0 n1 _ (hL.stays hb1).tab).mono ?_
    rintro e w2 ⟨rfl, hb2⟩
    have hb2' : Below w.heap.size w w2 := hb1.trans (hb2.mono hb1.size)
    have hS : ∃ S : ByteArray, ByteArray.mk (Lib.itoa n).toArray = S ∧ S.data.toList = Lib.itoa n ∧ S.size = (Lib.itoa n).length := ⟨_, rfl, rfl, by show (Lib.itoa n).toArray.size = _; simp⟩
    obtain ⟨S, hS1, hS2, hS3⟩ := hS
    rw [hS1]
    go_wp2_with fail
    refine (impl_ParseInt S (by have := Lib.itoa_length_le n n0 n1; omega) _ (hL.stays hb2')).mono ?_
    rintro e w3 ⟨he, hb3⟩
    have hb3' : Below w.heap.size w w3 := hb2'.trans (hb3.mono hb2'.size)
    rw [hS2] at he
    have key : ∃ (ok : Bool) (x : Int), e = .returned (.tuple #[.int .i64 x, .bool ok]) ∧ ((ok = true ∧ x = n ∧ 0 ≤ n ∧ S.size ≤ 12) ∨ (ok = false ∧ 0 ≤ n ∧ 12 < S.size) ∨ (ok = true ∧ x = n ∧ n < 0 ∧ S.size ≤ 12) ∨ (ok = true ∧ x = n ∧ n < 0 ∧ 12 < S.size ∧ S.size ≤ 13) ∨ (ok = false ∧ n < 0 ∧ 13 < S.size)) := by
      by_cases hin : -999999999999 ≤ n ∧ n ≤ 999999999999
      · have hok : readOf (-999999999999) 999999999999 (Lib.itoa n) = some n := (readOf_iff (by omega) (by omega)).2 ⟨hin.1, hin.2, rfl⟩
        rw [hok] at he
        refine ⟨true, n, he, ?_⟩
        by_cases hn : n < 0
        · have := itoa_len_neg hn hin.1
          by_cases h12 : S.size ≤ 12
          · exact .inr (.inr (.inl ⟨rfl, rfl, hn, h12⟩))
          · exact .inr (.inr (.inr (.inl ⟨rfl, rfl, hn, by omega, by omega⟩)))
        · have := itoa_len_pos (n := n) (by omega) hin.2
          exact .inl ⟨rfl, rfl, by omega, by omega⟩
      · have hok : readOf (-999999999999) 999999999999 (Lib.itoa n) = none := readOf_none (fun m hm => by
          have h1 := atoi_itoa n n0 n1
          have h2 := atoi_itoa m (by omega) (by omega)
          rw [hm.2.2, h1] at h2
          injection h2 with e
          omega) (by omega) (by omega)
        rw [hok] at he
        refine ⟨false, 0, he, ?_⟩
        by_cases hn : n < 0
        · have := itoa_len_low (n := n) (by omega)
          exact .inr (.inr (.inr (.inr ⟨rfl, hn, by omega⟩)))
        · have := itoa_len_big (n := n) (by omega)
          exact .inr (.inl ⟨rfl, by omega, by omega⟩)
    obtain ⟨ok, x, rfl, key⟩ := key
    clear he
    have HS1 := Lib.hid hS1
    have HS2 := Lib.hid hS2
    have HS3 := Lib.hid hS3
    clear hS1 hS2 hS3
    rcases key with ⟨rfl, rfl, k0, k1⟩ | ⟨rfl, k0, k1⟩ | ⟨rfl, rfl, k0, k1⟩ | ⟨rfl, rfl, k0, k1, k2⟩ | ⟨rfl, k0, k1⟩
    · go_wp2_with fail
      refine (spec_format _ n0 n1 _).mono ?_
      rintro e w4 ⟨rfl, hb4⟩
      rw [HS1.out]
      have hb4' : Below w.heap.size w w4 := hb3'.trans (hb4.mono hb3'.size)
      have s0 : decide ((S.size : Int) ≤ 12) = true := by simp; omega
      go_wp2_with fail
      refine (drawParseNumber_any w4 a len cap zs (row_below HR.out hb4') (by omega)).mono ?_
      rintro e w5 ⟨t, ht, rfl, hb5⟩
      have hb5' : Below w.heap.size w w5 := hb4'.trans (hb5.mono hb4'.size)
      go_wp2_with fail
      refine (impl_ParseNumber t (by omega) _ (hL.stays hb5')).mono ?_
      rintro e w6 ⟨he, hb6⟩
      have hb6' : Below w.heap.size w w6 := hb5'.trans (hb6.mono hb5'.size)
      cases hR : readOf 0 999999 t.data.toList with
      | some m =>
        obtain ⟨m0, m1, hm⟩ := (readOf_iff (by omega) (by omega)).1 hR
        rw [hR] at he
        obtain rfl : e = .returned (.tuple #[.int .i64 m, .bool true]) := he
        have HRR := Lib.hid hR
        have HM := Lib.hid hm
        clear hR hm
        go_wp2_with fail
        refine (spec_ParseNumber t (by omega) _).mono ?_
        rintro e w7 ⟨he, hb7⟩
        have hb7' : Below w.heap.size w w7 := hb6'.trans (hb7.mono hb6'.size)
        rw [HRR.out] at he
        obtain rfl : e = .returned (.tuple #[.int .i64 m, .bool true]) := he
        go_wp2_with fail
        refine (impl_format m (by omega) (by omega) _ (hL.stays hb7').tab).mono ?_
        rintro e w8 ⟨rfl, hb8⟩
        have hb8' : Below w.heap.size w w8 := hb7'.trans (hb8.mono hb7'.size)
        rw [show ByteArray.mk (Lib.itoa m).toArray = t by rw [HM.out]]
        go_wp2
        go_ret
        exact ⟨rfl, hb8'⟩
      | none =>
        rw [hR] at he
        obtain rfl : e = .returned (.tuple #[.int .i64 0, .bool false]) := he
        have HRR := Lib.hid hR
        clear hR
        go_wp2_with fail
        refine (spec_ParseNumber t (by omega) _).mono ?_
        rintro e w7 ⟨he, hb7⟩
        have hb7' : Below w.heap.size w w7 := hb6'.trans (hb7.mono hb6'.size)
        rw [HRR.out] at he
        obtain rfl : e = .returned (.tuple #[.int .i64 0, .bool false]) := he
        go_wp2
        go_ret
        exact ⟨rfl, hb7'⟩
    · go_wp2_with fail
      refine (spec_format _ n0 n1 _).mono ?_
      rintro e w4 ⟨rfl, hb4⟩
      rw [HS1.out]
      have hb4' : Below w.heap.size w w4 := hb3'.trans (hb4.mono hb3'.size)
      have s0 : decide ((S.size : Int) ≤ 12) = false := by simp; omega
      go_wp2_with fail
      refine (drawParseNumber_any w4 a len cap zs (row_below HR.out hb4') (by omega)).mono ?_
      rintro e w5 ⟨t, ht, rfl, hb5⟩
      have hb5' : Below w.heap.size w w5 := hb4'.trans (hb5.mono hb4'.size)
      go_wp2_with fail
      refine (impl_ParseNumber t (by omega) _ (hL.stays hb5')).mono ?_
      rintro e w6 ⟨he, hb6⟩
      have hb6' : Below w.heap.size w w6 := hb5'.trans (hb6.mono hb5'.size)
      cases hR : readOf 0 999999 t.data.toList with
      | some m =>
        obtain ⟨m0, m1, hm⟩ := (readOf_iff (by omega) (by omega)).1 hR
        rw [hR] at he
        obtain rfl : e = .returned (.tuple #[.int .i64 m, .bool true]) := he
        have HRR := Lib.hid hR
        have HM := Lib.hid hm
        clear hR hm
        go_wp2_with fail
        refine (spec_ParseNumber t (by omega) _).mono ?_
        rintro e w7 ⟨he, hb7⟩
        have hb7' : Below w.heap.size w w7 := hb6'.trans (hb7.mono hb6'.size)
        rw [HRR.out] at he
        obtain rfl : e = .returned (.tuple #[.int .i64 m, .bool true]) := he
        go_wp2_with fail
        refine (impl_format m (by omega) (by omega) _ (hL.stays hb7').tab).mono ?_
        rintro e w8 ⟨rfl, hb8⟩
        have hb8' : Below w.heap.size w w8 := hb7'.trans (hb8.mono hb7'.size)
        rw [show ByteArray.mk (Lib.itoa m).toArray = t by rw [HM.out]]
        go_wp2
        go_ret
        exact ⟨rfl, hb8'⟩
      | none =>
        rw [hR] at he
        obtain rfl : e = .returned (.tuple #[.int .i64 0, .bool false]) := he
        have HRR := Lib.hid hR
        clear hR
        go_wp2_with fail
        refine (spec_ParseNumber t (by omega) _).mono ?_
        rintro e w7 ⟨he, hb7⟩
        have hb7' : Below w.heap.size w w7 := hb6'.trans (hb7.mono hb6'.size)
        rw [HRR.out] at he
        obtain rfl : e = .returned (.tuple #[.int .i64 0, .bool false]) := he
        go_wp2
        go_ret
        exact ⟨rfl, hb7'⟩
    · go_wp2_with fail
      refine (spec_format _ n0 n1 _).mono ?_
      rintro e w4 ⟨rfl, hb4⟩
      rw [HS1.out]
      have hb4' : Below w.heap.size w w4 := hb3'.trans (hb4.mono hb3'.size)
      have s0 : decide ((S.size : Int) ≤ 12) = true := by simp; omega
      go_wp2_with fail
      refine (drawParseNumber_any w4 a len cap zs (row_below HR.out hb4') (by omega)).mono ?_
      rintro e w5 ⟨t, ht, rfl, hb5⟩
      have hb5' : Below w.heap.size w w5 := hb4'.trans (hb5.mono hb4'.size)
      go_wp2_with fail
      refine (impl_ParseNumber t (by omega) _ (hL.stays hb5')).mono ?_
      rintro e w6 ⟨he, hb6⟩
      have hb6' : Below w.heap.size w w6 := hb5'.trans (hb6.mono hb5'.size)
      cases hR : readOf 0 999999 t.data.toList with
      | some m =>
        obtain ⟨m0, m1, hm⟩ := (readOf_iff (by omega) (by omega)).1 hR
        rw [hR] at he
        obtain rfl : e = .returned (.tuple #[.int .i64 m, .bool true]) := he
        have HRR := Lib.hid hR
        have HM := Lib.hid hm
        clear hR hm
        go_wp2_with fail
        refine (spec_ParseNumber t (by omega) _).mono ?_
        rintro e w7 ⟨he, hb7⟩
        have hb7' : Below w.heap.size w w7 := hb6'.trans (hb7.mono hb6'.size)
        rw [HRR.out] at he
        obtain rfl : e = .returned (.tuple #[.int .i64 m, .bool true]) := he
        go_wp2_with fail
        refine (impl_format m (by omega) (by omega) _ (hL.stays hb7').tab).mono ?_
        rintro e w8 ⟨rfl, hb8⟩
        have hb8' : Below w.heap.size w w8 := hb7'.trans (hb8.mono hb7'.size)
        rw [show ByteArray.mk (Lib.itoa m).toArray = t by rw [HM.out]]
        go_wp2
        go_ret
        exact ⟨rfl, hb8'⟩
      | none =>
        rw [hR] at he
        obtain rfl : e = .returned (.tuple #[.int .i64 0, .bool false]) := he
        have HRR := Lib.hid hR
        clear hR
        go_wp2_with fail
        refine (spec_ParseNumber t (by omega) _).mono ?_
        rintro e w7 ⟨he, hb7⟩
        have hb7' : Below w.heap.size w w7 := hb6'.trans (hb7.mono hb6'.size)
        rw [HRR.out] at he
        obtain rfl : e = .returned (.tuple #[.int .i64 0, .bool false]) := he
        go_wp2
        go_ret
        exact ⟨rfl, hb7'⟩
    · go_wp2_with fail
      refine (spec_format _ n0 n1 _).mono ?_
      rintro e w4 ⟨rfl, hb4⟩
      rw [HS1.out]
      have hb4' : Below w.heap.size w w4 := hb3'.trans (hb4.mono hb3'.size)
      have s0 : decide ((S.size : Int) ≤ 12) = false := by simp; omega
      have s1 : decide ((S.size : Int) ≤ 13) = true := by simp; omega
      go_wp2_with fail
      refine (drawParseNumber_any w4 a len cap zs (row_below HR.out hb4') (by omega)).mono ?_
      rintro e w5 ⟨t, ht, rfl, hb5⟩
      have hb5' : Below w.heap.size w w5 := hb4'.trans (hb5.mono hb4'.size)
      go_wp2_with fail
      refine (impl_ParseNumber t (by omega) _ (hL.stays hb5')).mono ?_
      rintro e w6 ⟨he, hb6⟩
      have hb6' : Below w.heap.size w w6 := hb5'.trans (hb6.mono hb5'.size)
      cases hR : readOf 0 999999 t.data.toList with
      | some m =>
        obtain ⟨m0, m1, hm⟩ := (readOf_iff (by omega) (by omega)).1 hR
        rw [hR] at he
        obtain rfl : e = .returned (.tuple #[.int .i64 m, .bool true]) := he
        have HRR := Lib.hid hR
        have HM := Lib.hid hm
        clear hR hm
        go_wp2_with fail
        refine (spec_ParseNumber t (by omega) _).mono ?_
        rintro e w7 ⟨he, hb7⟩
        have hb7' : Below w.heap.size w w7 := hb6'.trans (hb7.mono hb6'.size)
        rw [HRR.out] at he
        obtain rfl : e = .returned (.tuple #[.int .i64 m, .bool true]) := he
        go_wp2_with fail
        refine (impl_format m (by omega) (by omega) _ (hL.stays hb7').tab).mono ?_
        rintro e w8 ⟨rfl, hb8⟩
        have hb8' : Below w.heap.size w w8 := hb7'.trans (hb8.mono hb7'.size)
        rw [show ByteArray.mk (Lib.itoa m).toArray = t by rw [HM.out]]
        go_wp2
        go_ret
        exact ⟨rfl, hb8'⟩
      | none =>
        rw [hR] at he
        obtain rfl : e = .returned (.tuple #[.int .i64 0, .bool false]) := he
        have HRR := Lib.hid hR
        clear hR
        go_wp2_with fail
        refine (spec_ParseNumber t (by omega) _).mono ?_
        rintro e w7 ⟨he, hb7⟩
        have hb7' : Below w.heap.size w w7 := hb6'.trans (hb7.mono hb6'.size)
        rw [HRR.out] at he
        obtain rfl : e = .returned (.tuple #[.int .i64 0, .bool false]) := he
        go_wp2
        go_ret
        exact ⟨rfl, hb7'⟩
    · go_wp2_with fail
      refine (spec_format _ n0 n1 _).mono ?_
      rintro e w4 ⟨rfl, hb4⟩
      rw [HS1.out]
      have hb4' : Below w.heap.size w w4 := hb3'.trans (hb4.mono hb3'.size)
      have s0 : decide ((S.size : Int) ≤ 12) = false := by simp; omega
      have s1 : decide ((S.size : Int) ≤ 13) = false := by simp; omega
      go_wp2_with fail
      refine (drawParseNumber_any w4 a len cap zs (row_below HR.out hb4') (by omega)).mono ?_
      rintro e w5 ⟨t, ht, rfl, hb5⟩
      have hb5' : Below w.heap.size w w5 := hb4'.trans (hb5.mono hb4'.size)
      go_wp2_with fail
      refine (impl_ParseNumber t (by omega) _ (hL.stays hb5')).mono ?_
      rintro e w6 ⟨he, hb6⟩
      have hb6' : Below w.heap.size w w6 := hb5'.trans (hb6.mono hb5'.size)
      cases hR : readOf 0 999999 t.data.toList with
      | some m =>
        obtain ⟨m0, m1, hm⟩ := (readOf_iff (by omega) (by omega)).1 hR
        rw [hR] at he
        obtain rfl : e = .returned (.tuple #[.int .i64 m, .bool true]) := he
        have HRR := Lib.hid hR
        have HM := Lib.hid hm
        clear hR hm
        go_wp2_with fail
        refine (spec_ParseNumber t (by omega) _).mono ?_
        rintro e w7 ⟨he, hb7⟩
        have hb7' : Below w.heap.size w w7 := hb6'.trans (hb7.mono hb6'.size)
        rw [HRR.out] at he
        obtain rfl : e = .returned (.tuple #[.int .i64 m, .bool true]) := he
        go_wp2_with fail
        refine (impl_format m (by omega) (by omega) _ (hL.stays hb7').tab).mono ?_
        rintro e w8 ⟨rfl, hb8⟩
        have hb8' : Below w.heap.size w w8 := hb7'.trans (hb8.mono hb7'.size)
        rw [show ByteArray.mk (Lib.itoa m).toArray = t by rw [HM.out]]
        go_wp2
        go_ret
        exact ⟨rfl, hb8'⟩
      | none =>
        rw [hR] at he
        obtain rfl : e = .returned (.tuple #[.int .i64 0, .bool false]) := he
        have HRR := Lib.hid hR
        clear hR
        go_wp2_with fail
        refine (spec_ParseNumber t (by omega) _).mono ?_
        rintro e w7 ⟨he, hb7⟩
        have hb7' : Below w.heap.size w w7 := hb6'.trans (hb7.mono hb6'.size)
        rw [HRR.out] at he
        obtain rfl : e = .returned (.tuple #[.int .i64 0, .bool false]) := he
        go_wp2
        go_ret
        exact ⟨rfl, hb7'⟩
end Go.Proofs.YtcidmanlijeomaaDoor
