/- What is proved here: the model's and the program's comparison of two occurrences. Condition: the slices read as the lists, whose numbers a machine can have. -/
import Derived.Test.YtcalgjggmgnofaaDoorInts
namespace Go.Proofs.YtcalgjggmgnofaaDoor
open Go.RowKit

/-- Lists element by element; a proper prefix precedes. -/
def cmpI : List Int → List Int → Int
  | [], [] => 0
  | [], _ :: _ => -1
  | _ :: _, [] => 1
  | x :: xs, y :: ys => if x < y then -1 else if y < x then 1 else cmpI xs ys

theorem cmpI_drop (xs ys : List Int) (k : Nat) (h : k < xs.length) (h2 : k < ys.length) : cmpI (xs.drop k) (ys.drop k) = if xs[k] < ys[k] then -1 else if ys[k] < xs[k] then 1 else cmpI (xs.drop (k + 1)) (ys.drop (k + 1)) := by
  rw [List.drop_eq_getElem_cons h, List.drop_eq_getElem_cons h2]
  rfl
theorem cmpI_left (xs ys : List Int) (h : xs.length < ys.length) : cmpI (xs.drop xs.length) (ys.drop xs.length) = -1 := by
  rw [List.drop_length, List.drop_eq_getElem_cons h]
  rfl
theorem cmpI_right (xs ys : List Int) (h : ys.length < xs.length) : cmpI (xs.drop ys.length) (ys.drop ys.length) = 1 := by
  rw [List.drop_length, List.drop_eq_getElem_cons h]
  rfl
theorem cmpI_both (xs ys : List Int) (h : xs.length = ys.length) : cmpI (xs.drop xs.length) (ys.drop xs.length) = 0 := by
  rw [List.drop_length, h, List.drop_length]
  rfl

set_option maxHeartbeats 2000000 in
set_option maxRecDepth 100000 in
theorem spec_compareI (w : World) (a b : Option Addr) (c d : Nat) (xs ys : List Int) (hx : ReadsI w a xs) (hy : ReadsI w b ys) (hm : xs.length ≤ maxLen) (_hm2 : ys.length ≤ maxLen) :
    Calls Tryd.prog 17 #[.slice a xs.length c, .slice b ys.length d] w fun e w' => e = .returned (.int .i64 (cmpI xs ys)) ∧ Below w.heap.size w w' := by
  unfold maxLen at hm _hm2
  have HX := Lib.hid hx
  have HY := Lib.hid hy
  clear hx hy
  generalize hn : xs.length = n at *
  generalize hn2 : ys.length = m at *
  have HN := Lib.hid hn
  have HN2 := Lib.hid hn2
  have HC0 : Hid (cmpI (xs.drop 0) (ys.drop 0) = cmpI xs ys) := rfl
  generalize cmpI xs ys = q at *
  clear hn hn2
  go_enter Tryd.func17, Tryd.ntmps17
  go_wp2
  go_loopw [5] (fun i wr => ∃ (k p : Nat), k ≤ n ∧ k ≤ m ∧ i = .int .i64 k ∧ wr = w.drewN p ∧ Hid (cmpI (xs.drop k) (ys.drop k) = q)) (fun i _ => n - (intOf i).toNat)
  case atStart => exact ⟨0, 0, Nat.zero_le _, Nat.zero_le _, rfl, rfl, HC0⟩
  case round =>
    obtain ⟨k, p, hk, hk2, rfl, rfl, hC⟩ := hrel
    by_cases hlt : k < n
    · by_cases hlt2 : k < m
      · obtain ⟨y, rfl, hc⟩ := HX.out k (by rw [HN.out]; exact hlt)
        obtain ⟨z, rfl, hd⟩ := HY.out k (by rw [HN2.out]; exact hlt2)
        have hcm := cmpI_drop xs ys k (by rw [HN.out]; exact hlt) (by rw [HN2.out]; exact hlt2)
        rw [hC.out] at hcm
        generalize xs[k]'(by rw [HN.out]; exact hlt) = x at hc hcm
        generalize ys[k]'(by rw [HN2.out]; exact hlt2) = v at hd hcm
        by_cases h1 : x < v
        · rw [if_pos h1] at hcm
          clear hC
          subst hcm
          go_wp2
          go_quiet (fail)
          go_wp2
          go_ret
          exact ⟨rfl, by repeat first | exact Below.refl _ _ | apply below_drewN⟩
        · rw [if_neg h1] at hcm
          by_cases h2 : v < x
          · rw [if_pos h2] at hcm
            clear hC
            subst hcm
            go_wp2
            go_quiet (fail)
            go_wp2
            go_quiet (fail)
            go_wp2
            go_ret
            exact ⟨rfl, by repeat first | exact Below.refl _ _ | apply below_drewN⟩
          · rw [if_neg h2] at hcm
            have HCM := Lib.hid hcm.symm
            clear hC hcm
            go_wp2
            go_quiet (fail)
            go_wp2
            go_quiet (fail)
            go_wp2
            go_roundw
            case rel => exact ⟨k + 1, _, by omega, by omega, by go_num, rfl, HCM⟩
            case measure => simp [intOf]; omega
      · have e : k = m := by omega
        have hcm := cmpI_right xs ys (by rw [HN.out, HN2.out]; omega)
        rw [HN2.out, ← e, hC.out] at hcm
        subst hcm
        clear hC
        go_wp2
        go_ret
        exact ⟨rfl, below_drewN (Below.refl _ _) p⟩
    · have e : k = n := by omega
      by_cases hlt2 : k < m
      · have hcm := cmpI_left xs ys (by rw [HN.out, HN2.out]; omega)
        rw [HN.out, ← e, hC.out] at hcm
        subst hcm
        clear hC
        go_wp2
        go_ret
        exact ⟨rfl, below_drewN (Below.refl _ _) p⟩
      · have hcm := cmpI_both xs ys (by rw [HN.out, HN2.out]; omega)
        rw [HN.out, ← e, hC.out] at hcm
        subst hcm
        clear hC
        go_wp2
        go_ret
        exact ⟨rfl, below_drewN (Below.refl _ _) p⟩

set_option maxHeartbeats 1000000 in
set_option maxRecDepth 100000 in
theorem nan_int (w : World) (x : Int) :
    Calls Tryd.prog 86 #[.int .i64 x] w fun e w' => e = .returned (.bool false) ∧ w = w' := by
  go_enter Tryd.func86, Tryd.ntmps86
  go_wp2
  go_ret
  exact ⟨by simp, rfl⟩

set_option maxHeartbeats 1000000 in
set_option maxRecDepth 100000 in
theorem compare_int (w : World) (x y : Int) :
    Calls Tryd.prog 64 #[.int .i64 x, .int .i64 y] w fun e w' => e = .returned (.int .i64 (if x < y then -1 else if y < x then 1 else 0)) ∧ w = w' := by
  have H1 := Lib.hid (nan_int w x)
  have H2 := Lib.hid (nan_int w y)
  generalize hq : (if x < y then (-1 : Int) else if y < x then 1 else 0) = q
  have HQ := Lib.hid hq
  clear hq
  go_enter Tryd.func64, Tryd.ntmps64
  go_wp2_with fail
  refine H1.out.mono ?_
  rintro e w1 ⟨rfl, rfl⟩
  go_wp2_with fail
  refine H2.out.mono ?_
  rintro e w1 ⟨rfl, rfl⟩
  clear H1 H2
  have hq := HQ.out
  clear HQ
  by_cases h1 : x < y
  · rw [if_pos h1] at hq
    subst hq
    go_wp2
    go_ret
    exact ⟨rfl, rfl⟩
  · rw [if_neg h1] at hq
    by_cases h2 : y < x
    · rw [if_pos h2] at hq
      subst hq
      go_wp2
      go_ret
      exact ⟨rfl, rfl⟩
    · rw [if_neg h2] at hq
      subst hq
      go_wp2
      go_ret
      exact ⟨rfl, rfl⟩

set_option maxHeartbeats 2000000 in
set_option maxRecDepth 100000 in
theorem lib_compareI (w : World) (a b : Option Addr) (c d : Nat) (xs ys : List Int) (hx : ReadsI w a xs) (hy : ReadsI w b ys) (hm : xs.length ≤ maxLen) (hm2 : ys.length ≤ maxLen) :
    Calls Tryd.prog 45 #[.slice a xs.length c, .slice b ys.length d] w fun e w' => e = .returned (.int .i64 (cmpI xs ys)) ∧ w = w' := by
  unfold maxLen at hm hm2
  have HX := Lib.hid hx
  have HY := Lib.hid hy
  clear hx hy
  generalize hn : xs.length = n at *
  generalize hn2 : ys.length = m at *
  have HN := Lib.hid hn
  have HN2 := Lib.hid hn2
  have HC0 : Hid (cmpI (xs.drop 0) (ys.drop 0) = cmpI xs ys) := rfl
  generalize cmpI xs ys = q at *
  clear hn hn2
  go_enter Tryd.func45, Tryd.ntmps45
  go_wp2
  go_loop [11] (fun i => ∃ k : Nat, k ≤ n ∧ k ≤ m ∧ i = .int .i64 k ∧ Hid (cmpI (xs.drop k) (ys.drop k) = q)) (fun i => n - (intOf i).toNat)
  case atStart => exact ⟨0, Nat.zero_le _, Nat.zero_le _, rfl, HC0⟩
  case round =>
    obtain ⟨k, hk, hk2, rfl, hC⟩ := hrel
    by_cases hlt : k < n
    · by_cases hlt2 : k < m
      · obtain ⟨y, rfl, hc⟩ := HX.out k (by rw [HN.out]; exact hlt)
        obtain ⟨z, rfl, hd⟩ := HY.out k (by rw [HN2.out]; exact hlt2)
        have hcm := cmpI_drop xs ys k (by rw [HN.out]; exact hlt) (by rw [HN2.out]; exact hlt2)
        rw [hC.out] at hcm
        generalize xs[k]'(by rw [HN.out]; exact hlt) = x at hc hcm
        generalize ys[k]'(by rw [HN2.out]; exact hlt2) = v at hd hcm
        have H := Lib.hid (compare_int w x v)
        by_cases h1 : x < v
        · rw [if_pos h1] at hcm H
          clear hC
          subst hcm
          go_wp2_with fail
          refine H.out.mono ?_
          rintro e w1 ⟨rfl, rfl⟩
          clear H
          go_wp2
          go_ret
          exact ⟨rfl, rfl⟩
        · rw [if_neg h1] at hcm H
          by_cases h2 : v < x
          · rw [if_pos h2] at hcm H
            clear hC
            subst hcm
            go_wp2_with fail
            refine H.out.mono ?_
            rintro e w1 ⟨rfl, rfl⟩
            clear H
            go_wp2
            go_ret
            exact ⟨rfl, rfl⟩
          · rw [if_neg h2] at hcm H
            have HCM := Lib.hid hcm.symm
            clear hC hcm
            go_wp2_with fail
            refine H.out.mono ?_
            rintro e w1 ⟨rfl, rfl⟩
            clear H
            go_wp2
            go_round
            case rel => exact ⟨k + 1, by omega, by omega, by go_num, HCM⟩
            case measure => simp [intOf]; omega
      · obtain rfl : k = m := by omega
        obtain ⟨y, rfl, hc⟩ := HX.out k (by rw [HN.out]; exact hlt)
        generalize xs[k]'(by rw [HN.out]; exact hlt) = x at hc
        have hcm := cmpI_right xs ys (by rw [HN.out, HN2.out]; omega)
        rw [HN2.out, hC.out] at hcm
        subst hcm
        clear hC
        go_wp2
        go_ret
        exact ⟨rfl, rfl⟩
    · have e : k = n := by omega
      by_cases hlt2 : k < m
      · have hcm := cmpI_left xs ys (by rw [HN.out, HN2.out]; omega)
        rw [HN.out, ← e, hC.out] at hcm
        subst hcm
        clear hC
        go_wp2
        go_ret
        exact ⟨rfl, rfl⟩
      · have hcm := cmpI_both xs ys (by rw [HN.out, HN2.out]; omega)
        rw [HN.out, ← e, hC.out] at hcm
        subst hcm
        clear hC
        go_wp2
        go_ret
        exact ⟨rfl, rfl⟩

set_option maxHeartbeats 1000000 in
set_option maxRecDepth 100000 in
theorem impl_compareI (w : World) (a b : Option Addr) (c d : Nat) (xs ys : List Int) (hx : ReadsI w a xs) (hy : ReadsI w b ys) (hm : xs.length ≤ maxLen) (hm2 : ys.length ≤ maxLen) :
    Calls Tryd.prog 16 #[.slice a xs.length c, .slice b ys.length d] w fun e w' => e = .returned (.int .i64 (cmpI xs ys)) ∧ w = w' := by
  have H := Lib.hid (lib_compareI w a b c d xs ys hx hy hm hm2)
  generalize cmpI xs ys = q at *
  clear hx hy hm hm2
  go_enter Tryd.func16, Tryd.ntmps16
  go_wp2_with fail
  refine H.out.mono ?_
  rintro e w1 ⟨rfl, rfl⟩
  go_wp2
  go_ret
  exact ⟨rfl, rfl⟩
end Go.Proofs.YtcalgjggmgnofaaDoor
