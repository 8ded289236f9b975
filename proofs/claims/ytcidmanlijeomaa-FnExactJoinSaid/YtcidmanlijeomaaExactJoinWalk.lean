/- What is proved here: the text of FnExactJoin returns true for every list and separator. Condition: none. -/
import Derived.Test.YtcidmanlijeomaaJoin
namespace Go.Proofs.Ytcidmanlijeomaa
open Go.RowKit

set_option maxHeartbeats 1000000 in
set_option maxRecDepth 100000 in
theorem fnExactJoin_walk (a : Option Addr) (cap : Nat) (xs : List ByteArray) (b : ByteArray) (hbs : b.size ≤ maxLen) (w : World) (hx : Reads w a xs) (hm : xs.length ≤ maxLen) (hs : ∀ x ∈ xs, x.size ≤ maxLen) :
    Calls Try.prog 3 #[.slice a xs.length cap, .string b] w fun e w' => e = .returned (.bool true) ∧ Below w.heap.size w w' := by
  have H0 := sz_any w a cap xs hx hm hs
  unfold maxLen at hbs
  by_cases hbig : 1048576 < b.size
  · go_enter Try.func3, Try.ntmps3
    go_wp2
    go_ret
    exact ⟨rfl, Below.refl _ _⟩
  · by_cases hsz : xs.length + total xs ≤ 1048576
    · have hj : (joined xs b).length ≤ 70368744177664 := by
        have h1 := joined_len xs b
        have h2 : xs.length * b.size ≤ 1048576 * 1048576 := Nat.mul_le_mul (by omega) (by omega)
        omega
      have he : szEnd xs = 1048576 - (xs.length : Int) - (total xs : Int) := if_pos hsz
      have hn : ¬ szEnd xs < 0 := by omega
      have hn2 : xs.length ≤ 1048576 := by omega
      have HX := Lib.hid hx
      have HJ := Lib.hid hj
      clear hx hj hs he
      generalize szEnd xs = q at *
      go_enter Try.func3, Try.ntmps3
      go_wp2_with fail
      refine H0.mono ?_
      rintro e w0 ⟨rfl, rfl⟩
      go_wp2_with fail
      refine (toS_any w a cap xs HX.out hn2).mono ?_
      rintro e w1 ⟨g1, hg1, rfl, hc1, hb1⟩
      have R1 := reads_new hc1
      go_wp2_with fail
      refine (spec_join w1 _ _ xs b R1 hn2 HJ.out).mono ?_
      rintro e w2 ⟨rfl, hb2⟩
      have hb2' : Below w.heap.size w w2 := hb1.trans (hb2.mono hb1.size)
      go_wp2_with fail
      refine (toS_any w2 a cap xs (reads_below HX.out hb2') hn2).mono ?_
      rintro e w3 ⟨g3, hg3, rfl, hc3, hb3⟩
      have hb3' : Below w.heap.size w w3 := hb2'.trans (hb3.mono hb2'.size)
      go_wp2_with fail
      refine (impl_join w3 g3 xs b hc3 hn2 HJ.out).mono ?_
      rintro e w4 ⟨rfl, hb4⟩
      have hb4' : Below w.heap.size w w4 := hb3'.trans (hb4.mono hb3'.size)
      go_wp2_with fail
      refine (toS_any w4 a cap xs (reads_below HX.out hb4') hn2).mono ?_
      rintro e w5 ⟨g5, hg5, rfl, hc5, hb5⟩
      have hb5' : Below w.heap.size w w5 := hb4'.trans (hb5.mono hb4'.size)
      have R3 := reads_below (reads_below (reads_new hc3) hb4) hb5
      have R5 := reads_new hc5
      go_wp2_with fail
      refine (eqS_same w5 _ _ _ _ xs R3 R5 hm).mono ?_
      rintro e w6 ⟨rfl, q6, rfl⟩
      go_wp2
      go_ret
      exact ⟨rfl, hb5'.trans (below_drewN (Below.refl _ _) q6)⟩
    · have he : szEnd xs = -1 := if_neg hsz
      rw [he] at H0
      clear hx hs he
      go_enter Try.func3, Try.ntmps3
      go_wp2_with fail
      refine H0.mono ?_
      rintro e w0 ⟨rfl, rfl⟩
      go_wp2
      go_ret
      exact ⟨rfl, Below.refl _ _⟩
end Go.Proofs.Ytcidmanlijeomaa
