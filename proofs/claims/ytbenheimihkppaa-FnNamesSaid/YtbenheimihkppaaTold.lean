/- What is proved here: the laws' helpers sameTexts and rising return true on slices that read alike, on a slice that reads as a strictly ascending list. Condition: the slices read as the lists. -/
import Derived.Test.YtbenheimihkppaaSpecSort
namespace Go.Proofs.Ytbenheimihkppaa
open Go.RowKit

set_option maxHeartbeats 1000000 in
set_option maxRecDepth 100000 in
theorem same_texts (w : World) (a b : Option Addr) (c d : Nat) (xs : List ByteArray) (hx : Reads w a xs) (hy : Reads w b xs) (hm : xs.length ≤ maxLen) :
    Calls Try.prog 14 #[.slice a xs.length c, .slice b xs.length d] w fun e w' => e = .returned (.bool true) ∧ ∃ n, w' = w.drewN n := by
  unfold maxLen at hm
  have HX := Lib.hid hx
  have HY := Lib.hid hy
  clear hx hy
  generalize hn : xs.length = n at *
  have HN := Lib.hid hn
  clear hn
  go_enter Try.func14, Try.ntmps14
  go_wp2
  go_loopw [5] (fun i wr => ∃ (k q : Nat), k ≤ n ∧ i = .int .i64 k ∧ wr = w.drewN q) (fun i _ => n - (intOf i).toNat)
  case atStart => exact ⟨0, 0, Nat.zero_le _, rfl, rfl⟩
  case round =>
    obtain ⟨k, q, hk, rfl, rfl⟩ := hrel
    by_cases hlt : k < n
    · obtain ⟨y, rfl, hc⟩ := HX.out k (by rw [HN.out]; exact hlt)
      obtain ⟨z, rfl, hd⟩ := HY.out k (by rw [HN.out]; exact hlt)
      generalize xs[k]'(by rw [HN.out]; exact hlt) = x at hc hd
      go_wp2
      go_quiet (fail)
      go_wp2
      go_roundw
      case rel => exact ⟨k + 1, _, by omega, by go_num, rfl⟩
      case measure => simp [intOf]; omega
    · go_wp2
      go_ret
      exact ⟨rfl, q, rfl⟩

theorem reads_cell {w : World} {g : Nat} {xs : List ByteArray} (hx : Reads w (some ⟨g, 0, none⟩) xs) (j : Nat) (h : j < xs.length) : w.cell? ⟨g, j, none⟩ = some (.string xs[j]) := by
  obtain ⟨y, hy, hc⟩ := hx j h
  injection hy with hy
  subst hy
  have e1 : (⟨g, 0, none⟩ : Addr).add j = ⟨g, j, none⟩ := by simp [Addr.add]; intro h; omega
  rwa [e1] at hc

set_option maxHeartbeats 1000000 in
set_option maxRecDepth 100000 in
theorem rising_any (w : World) (g c : Nat) (xs : List ByteArray) (hx : Reads w (some ⟨g, 0, none⟩) xs) (hr : Rising xs) (hm : xs.length ≤ maxLen) :
    Calls Try.prog 16 #[.slice (some ⟨g, 0, none⟩) xs.length c] w fun e w' => e = .returned (.bool true) ∧ ∃ n, w' = w.drewN n := by
  unfold maxLen at hm
  have HX := Lib.hid hx
  have HR := Lib.hid hr
  clear hx hr
  generalize hn : xs.length = n at *
  have HN := Lib.hid hn
  clear hn
  go_enter Try.func16, Try.ntmps16
  go_wp2
  go_loopw [3] (fun i wr => ∃ (k q : Nat), i = .int .i64 ((k : Int) + 1) ∧ (k = 0 ∨ k < n) ∧ wr = w.drewN q) (fun i _ => n - (intOf i).toNat)
  case atStart => exact ⟨0, 0, rfl, .inl rfl, rfl⟩
  case round =>
    obtain ⟨k, q, rfl, hk, rfl⟩ := hrel
    by_cases hlt : k + 1 < n
    · have h1 : k < xs.length := by rw [HN.out]; omega
      have h2 : k + 1 < xs.length := by rw [HN.out]; omega
      have hc := reads_cell HX.out k h1
      have hd := reads_cell HX.out (k + 1) h2
      have hrs := (List.pairwise_iff_getElem.1 HR.out) k (k + 1) h1 h2 (by omega)
      generalize xs[k] = x at hc hrs
      generalize xs[k + 1] = y at hd hrs
      have hb : Op.bytesLess x.toList y.toList = true := by rw [less_key]; exact decide_eq_true hrs
      clear hrs hk
      go_wp2
      go_quiet (fail)
      go_wp2
      go_roundw
      case rel => exact ⟨k + 1, _, by go_num, .inr (by omega), rfl⟩
      case measure => simp [intOf]; omega
    · clear hk
      go_wp2
      go_ret
      exact ⟨rfl, q, rfl⟩
end Go.Proofs.Ytbenheimihkppaa
