/- Plain facts on decimal numerals: the numeral of u is that of u / 10 with the last digit behind it. No condition. -/
import Derived.Lib.ItoaNum
import Derived.Lib.ItoaMem
namespace Go.Proofs.YtdifefgigcjgeaaDoor
open Go.Lib

/-- The digits of u, none for 0. -/
def digitsOf (u : Nat) : List UInt8 := if u = 0 then [] else decDigits u

theorem digitsOf_zero : digitsOf 0 = [] := if_pos rfl
theorem digitsOf_pos {u : Nat} (h : u ≠ 0) : digitsOf u = decDigits u := if_neg h
theorem digitsOf_step {u : Nat} (h : u ≠ 0) : digitsOf u = digitsOf (u / 10) ++ [UInt8.ofNat (48 + u % 10)] := by
  rw [digitsOf_pos h, decDigits]
  by_cases h1 : u < 10
  · rw [dif_pos h1, show u / 10 = 0 by omega, digitsOf_zero, show u % 10 = u by omega]; rfl
  · rw [dif_neg h1, digitsOf_pos (by omega)]
theorem digitsOf_le (u : Nat) : (digitsOf u).length ≤ nDigits u := by
  by_cases h : u = 0
  · rw [h, digitsOf_zero]; simp
  · rw [digitsOf_pos h, decDigits_length]; exact Nat.le_refl _

end Go.Proofs.YtdifefgigcjgeaaDoor
