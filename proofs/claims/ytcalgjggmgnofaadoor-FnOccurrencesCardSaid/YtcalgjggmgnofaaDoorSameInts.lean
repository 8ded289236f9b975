/- What is proved here: lists of numbers compared (package laws, sameInts), and the order turned round. Condition: the slices read as the lists. -/
import Derived.Test.YtcalgjggmgnofaaDoorCompareInts
namespace Go.Proofs.YtcalgjggmgnofaaDoor
open Go.RowKit

theorem cmp_three (xs : List Int) : ∀ ys, (cmpI xs ys = -1 ∧ cmpI ys xs = 1 ∧ xs ≠ ys) ∨ (cmpI xs ys = 0 ∧ cmpI ys xs = 0 ∧ xs = ys) ∨ (cmpI xs ys = 1 ∧ cmpI ys xs = -1 ∧ xs ≠ ys) := by
  induction xs with
  | nil => intro ys; cases ys with
    | nil => exact .inr (.inl ⟨rfl, rfl, rfl⟩)
    | cons y ys => exact .inl ⟨rfl, rfl, by simp⟩
  | cons x xs ih => intro ys; cases ys with
    | nil => exact .inr (.inr ⟨rfl, rfl, by simp⟩)
    | cons y ys =>
      simp only [cmpI]
      by_cases h1 : x < y
      · have h2 : ¬ y < x := by omega
        exact .inl ⟨by simp [h1], by simp [h1, h2], by intro e; injection e with e; omega⟩
      · by_cases h2 : y < x
        · exact .inr (.inr ⟨by simp [h1, h2], by simp [h2], by intro e; injection e with e; omega⟩)
        · have e : x = y := by omega
          subst e
          simp only [h1, if_false, List.cons.injEq, true_and, ne_eq]
          exact ih ys

theorem same_step (xs ys : List Int) (k : Nat) (h : k < xs.length) (h2 : k < ys.length) : decide (xs.drop k = ys.drop k) = (decide (xs[k] = ys[k]) && decide (xs.drop (k + 1) = ys.drop (k + 1))) := by
  rw [Bool.eq_iff_iff]
  simp only [decide_eq_true_eq, Bool.and_eq_true]
  rw [List.drop_eq_getElem_cons h, List.drop_eq_getElem_cons h2, List.cons.injEq]

set_option maxHeartbeats 1000000 in
set_option maxRecDepth 100000 in
theorem same_ints (w : World) (a b : Option Addr) (c d : Nat) (xs ys : List Int) (hx : ReadsI w a xs) (hy : ReadsI w b ys) (hm : xs.length ≤ maxLen) :
    Calls Tryd.prog 18 #[.slice a xs.length c, .slice b ys.length d] w fun e w' => e = .returned (.bool (decide (xs = ys))) ∧ Below w.heap.size w w' := by
  unfold maxLen at hm
  by_cases hl : xs.length = ys.length
  · have HX := Lib.hid hx
    have HY := Lib.hid hy
    clear hx hy
    rw [← hl]
    have he : decide (xs.drop xs.length = ys.drop xs.length) = true := by rw [List.drop_length, hl, List.drop_length]; rfl
    have HE := Lib.hid he
    have HI : Hid (decide (xs.drop 0 = ys.drop 0) = decide (xs = ys)) := rfl
    generalize decide (xs = ys) = q at *
    generalize hn : xs.length = n at *
    have HN := Lib.hid hn
    have HN2 := Lib.hid hl
    clear hn hl he
    go_enter Tryd.func18, Tryd.ntmps18
    go_wp2
    go_loopw [5] (fun i wr => ∃ (k p : Nat), k ≤ n ∧ i = .int .i64 k ∧ wr = w.drewN p ∧ Hid (decide (xs.drop k = ys.drop k) = q)) (fun i _ => n - (intOf i).toNat)
    case atStart => exact ⟨0, 0, Nat.zero_le _, rfl, rfl, HI⟩
    case round =>
      obtain ⟨k, p, hk, rfl, rfl, hC⟩ := hrel
      by_cases hlt : k < n
      · obtain ⟨y, rfl, hc⟩ := HX.out k (by rw [HN.out]; exact hlt)
        obtain ⟨z, rfl, hd⟩ := HY.out k (by rw [← HN2.out]; exact hlt)
        have hcm := same_step xs ys k (by rw [HN.out]; exact hlt) (by rw [← HN2.out]; exact hlt)
        rw [hC.out] at hcm
        generalize xs[k]'(by rw [HN.out]; exact hlt) = x at hc hcm
        generalize ys[k]'(by rw [← HN2.out]; exact hlt) = v at hd hcm
        by_cases h1 : x = v
        · subst h1
          have HCM : Hid (decide (xs.drop (k + 1) = ys.drop (k + 1)) = q) := by unfold Hid; rw [hcm]; simp
          clear hC hcm
          go_wp2
          go_quiet (fail)
          go_wp2
          go_roundw
          case rel => exact ⟨k + 1, _, by omega, by go_num, rfl, HCM⟩
          case measure => simp [intOf]; omega
        · rw [decide_eq_false h1, Bool.false_and] at hcm
          clear hC
          subst hcm
          go_wp2
          go_quiet (fail)
          go_wp2
          go_ret
          exact ⟨rfl, by repeat first | exact Below.refl _ _ | apply below_drewN⟩
      · have e : k = n := by omega
        have hq := HE.out
        rw [← e, hC.out] at hq
        subst hq
        clear hC
        go_wp2
        go_ret
        exact ⟨rfl, below_drewN (Below.refl _ _) p⟩
  · have hq : decide (xs = ys) = false := decide_eq_false (fun e => hl (by rw [e]))
    rw [hq]
    generalize xs.length = n at *
    generalize ys.length = m at *
    clear hx hy hq
    go_enter Tryd.func18, Tryd.ntmps18
    go_wp2
    go_ret
    exact ⟨rfl, Below.refl _ _⟩
end Go.Proofs.YtcalgjggmgnofaaDoor
