/- What is proved here: the text of FnExactIndexOf returns true for every list and text. Condition: none. -/
import Derived.Test.YtbenheimihkppaaIndex
namespace Go.Proofs.Ytbenheimihkppaa
open Go.RowKit

set_option maxHeartbeats 1000000 in
set_option maxRecDepth 100000 in
theorem fnExactIndexOf_walk (a : Option Addr) (cap : Nat) (xs : List ByteArray) (s : ByteArray) (hbs : s.size ≤ maxLen) (w : World) (hx : Reads w a xs) (hm : xs.length ≤ maxLen) (hs : ∀ x ∈ xs, x.size ≤ maxLen) :
    Calls Try.prog 7 #[.slice a xs.length cap, .string s] w fun e w' => e = .returned (.bool true) ∧ Below w.heap.size w w' := by
  have H0 := sz_any w a cap xs hx hm hs
  unfold maxLen at hbs
  by_cases hbig : 1048576 < s.size
  · go_enter Try.func7, Try.ntmps7
    go_wp2
    go_ret
    exact ⟨rfl, Below.refl _ _⟩
  · by_cases hsz : xs.length + total xs ≤ 1048576
    · have he : szEnd xs = 1048576 - (xs.length : Int) - (total xs : Int) := if_pos hsz
      have hn : ¬ szEnd xs < 0 := by omega
      have hn2 : xs.length ≤ 1048576 := by omega
      have HX := Lib.hid hx
      have HM := Lib.hid hm
      have hS := fun w a cap hr => spec_index w a cap xs s hr HM.out
      have hI := fun w g cap hr => impl_index w g cap xs s hr hn2
      clear hx hs he
      generalize szEnd xs = q at *
      generalize Lib.idxOfS xs s = z at hS hI
      go_enter Try.func7, Try.ntmps7
      go_wp2_with fail
      refine H0.mono ?_
      rintro e w0 ⟨rfl, rfl⟩
      go_wp2_with fail
      refine (toS_any w a cap xs HX.out hn2).mono ?_
      rintro e w1 ⟨g1, hg1, rfl, hc1, hb1⟩
      have HR1 := Lib.hid (reads_new hc1)
      clear hc1
      go_wp2_with fail
      refine (hS w1 _ _ HR1.out).mono ?_
      rintro e w2 ⟨rfl, rfl⟩
      go_wp2_with fail
      refine (toS_any w2 a cap xs (reads_below HX.out hb1) hn2).mono ?_
      rintro e w3 ⟨g3, hg3, rfl, hc3, hb3⟩
      have hb3' : Below w.heap.size w w3 := hb1.trans (hb3.mono hb1.size)
      have HR3 := Lib.hid (reads_new hc3)
      clear hc3
      go_wp2_with fail
      refine (hI w3 _ _ HR3.out).mono ?_
      rintro e w4 ⟨rfl, rfl⟩
      go_wp2_with fail
      refine (toS_any w4 a cap xs (reads_below HX.out hb3') hn2).mono ?_
      rintro e w5 ⟨g5, hg5, rfl, hc5, hb5⟩
      have hb5' : Below w.heap.size w w5 := hb3'.trans (hb5.mono hb3'.size)
      have R3 := reads_below HR3.out hb5
      have R5 := reads_new hc5
      clear hc5
      go_wp2_with fail
      refine (eqS_same w5 _ _ _ _ xs R3 R5 HM.out).mono ?_
      rintro e w6 ⟨rfl, q6, rfl⟩
      go_wp2
      go_ret
      exact ⟨rfl, hb5'.trans (below_drewN (Below.refl _ _) q6)⟩
    · have he : szEnd xs = -1 := if_neg hsz
      rw [he] at H0
      clear hx hs he
      go_enter Try.func7, Try.ntmps7
      go_wp2_with fail
      refine H0.mono ?_
      rintro e w0 ⟨rfl, rfl⟩
      go_wp2
      go_ret
      exact ⟨rfl, Below.refl _ _⟩
end Go.Proofs.Ytbenheimihkppaa
