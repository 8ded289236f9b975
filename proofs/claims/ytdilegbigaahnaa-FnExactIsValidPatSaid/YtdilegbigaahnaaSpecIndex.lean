/- What is proved here: the model's IndexOf (package spec) gives the first index. Condition: the slice reads as the list. -/
import Derived.Test.YtdilegbigaahnaaReads
import Derived.Test.YtdilegbigaahnaaBl
import Derived.Lib.SlicesS
namespace Go.Proofs.Ytdilegbigaahnaa
open Go.RowKit

theorem getD_at (xs : List ByteArray) (k : Nat) (h : k < xs.length) : xs.getD k ByteArray.empty = xs[k] := by
  rw [List.getD_eq_getElem?_getD, List.getElem?_eq_getElem h]; rfl
theorem idx_hit (xs : List ByteArray) (k : Nat) (x : ByteArray) (hk : k < xs.length) (h : xs[k] = x) (hne : ∀ j (hj : j < xs.length), j < k → xs[j] ≠ x) : Lib.idxOfS xs x = k := by
  have := Lib.idxOfS_hit xs xs.length k x hk (Nat.le_refl _) (by rw [getD_at _ _ hk]; exact h) (fun j hj => by rw [getD_at _ _ (by omega)]; exact hne j (by omega) hj)
  rwa [List.take_length] at this
theorem idx_miss (xs : List ByteArray) (x : ByteArray) (hne : ∀ j (hj : j < xs.length), xs[j] ≠ x) : Lib.idxOfS xs x = -1 := by
  have := Lib.idxOfS_miss xs xs.length x (fun j hj => by rw [getD_at _ _ hj]; exact hne j hj)
  rwa [List.take_length] at this
theorem idx_lo (xs : List ByteArray) (x : ByteArray) : -1 ≤ Lib.idxOfS xs x ∧ Lib.idxOfS xs x < (xs.length : Int) ∨ Lib.idxOfS xs x = -1 := by
  by_cases h : x ∈ xs
  · obtain ⟨k, hk, hx, hmin⟩ : ∃ k, ∃ hk : k < xs.length, xs[k] = x ∧ ∀ j (hj : j < xs.length), j < k → xs[j] ≠ x := by
      have hex : ∃ k, ∃ hk : k < xs.length, xs[k] = x := by
        obtain ⟨k, hk, e⟩ := List.mem_iff_getElem.1 h
        exact ⟨k, hk, e⟩
      have key : ∀ n k, k ≤ n → (∃ hk : k < xs.length, xs[k] = x) → ∃ k, ∃ hk : k < xs.length, xs[k] = x ∧ ∀ j (hj : j < xs.length), j < k → xs[j] ≠ x := by
        intro n
        induction n with
        | zero =>
          intro k hk ⟨h1, h2⟩
          exact ⟨k, h1, h2, fun j hj h3 => by omega⟩
        | succ n ih =>
          intro k hk ⟨h1, h2⟩
          by_cases hex : ∃ j, ∃ hj : j < xs.length, j < k ∧ xs[j] = x
          · obtain ⟨j, hj, h3, h4⟩ := hex
            exact ih j (by omega) ⟨hj, h4⟩
          · exact ⟨k, h1, h2, fun j hj h3 h4 => hex ⟨j, hj, h3, h4⟩⟩
      obtain ⟨k, hk⟩ := hex
      exact key k k (Nat.le_refl _) hk
    rw [idx_hit xs k x hk hx hmin]
    left
    omega
  · right
    exact idx_miss xs x (fun j hj e => h (e ▸ List.getElem_mem hj))
theorem idx_mem (xs : List ByteArray) (x : ByteArray) : Lib.idxOfS xs x < 0 ↔ ¬ x ∈ xs := by
  rw [← Lib.idxOfS_nonneg_iff]
  omega

set_option maxHeartbeats 1000000 in
set_option maxRecDepth 100000 in
theorem spec_index (w : World) (a : Option Addr) (cap : Nat) (xs : List ByteArray) (s : ByteArray) (hx : Reads w a xs) (hm : xs.length ≤ maxLen) :
    Calls Try.prog 71 #[.slice a xs.length cap, .string s] w fun e w' => e = .returned (.int .i64 (Lib.idxOfS xs s)) ∧ w' = w := by
  unfold maxLen at hm
  have HX := Lib.hid hx
  clear hx
  generalize hn : xs.length = n at *
  have HN := Lib.hid hn
  clear hn
  go_enter Try.func71, Try.ntmps71
  go_wp2
  go_loop [5] (fun i => ∃ (k : Nat), k ≤ n ∧ i = .int .i64 k ∧ ∀ j (hj : j < xs.length), j < k → xs[j] ≠ s) (fun i => n - (intOf i).toNat)
  case atStart => exact ⟨0, Nat.zero_le _, rfl, fun j _ h => by omega⟩
  case round =>
    obtain ⟨k, hk, rfl, hne⟩ := hrel
    have HNE := Lib.hid hne
    clear hne
    by_cases hlt : k < n
    · have hk' : k < xs.length := by rw [HN.out]; exact hlt
      obtain ⟨y, rfl, hc⟩ := HX.out k hk'
      obtain ⟨x, hxe⟩ : ∃ x, xs[k] = x := ⟨_, rfl⟩
      rw [hxe] at hc
      have HXE := Lib.hid hxe
      clear hxe
      by_cases he : x = s
      · subst he
        have hb : (x.toList == x.toList) = true := by simp
        go_wp2
        go_ret
        refine ⟨?_, rfl⟩
        rw [idx_hit xs k x hk' HXE.out HNE.out]
        rfl
      · have hb : (x.toList == s.toList) = false := (Lib.bytes_beq_false_iff _ _).2 he
        have HE := Lib.hid he
        clear he
        go_wp2
        go_round
        case rel =>
          refine ⟨k + 1, by omega, by go_num, fun j hj h => ?_⟩
          rcases Nat.lt_or_ge j k with h3 | h3
          · exact HNE.out j hj h3
          · obtain rfl : j = k := by omega
            rw [HXE.out]
            exact HE.out
        case measure => simp [intOf]; omega
    · go_wp2
      go_ret
      refine ⟨?_, rfl⟩
      rw [idx_miss xs s (fun j hj => HNE.out j hj (by have := HN.out; omega))]
      rfl

end Go.Proofs.Ytdilegbigaahnaa
