/- What is proved here: an argument of type Key is a number, a number and a text. No condition. -/
import Derived.Test.YtcalgjggmgnofaaDoorKeySmall
import Derived.Test.YtcalgjggmgnofaaDoorBase
import Derived.ChangeArms
import Derived.ChangeSame
import Derived.Deep.Slices
namespace Go.Proofs.YtcalgjggmgnofaaDoor
open Go.RowKit Go.ChangeShapes Go.WideShapes Go.Deep

section
variable {H : Type} {enc : TypeId × Value → H} {w : World} {base : Nat} {spare : Nat → Bool} {held : Bool}

set_option maxRecDepth 100000 in
theorem open_key_cells {n : Nat} {cs : List Value} {x : DataW H × List MemPlace} (h : DataW.trod enc Tryd.prog w base spare held n 52 cs = some x) :
    ∃ k nu t, cs = [.int .i64 k, .int .i64 nu, .string t] ∧ (-9223372036854775808 ≤ k ∧ k ≤ 9223372036854775807) ∧ (-9223372036854775808 ≤ nu ∧ nu ≤ 9223372036854775807) ∧ t.size ≤ maxLen := by
  obtain ⟨xs, m, rfl, _, hl, hlen, hf⟩ := DataW.trod_struct Tryd.underlying52 h
  have hC : Tryd.prog.cellsOf 52 = 3 := by kernel_rfl
  have c0 : Tryd.prog.cellsOf 3 = 1 := by kernel_rfl
  have c2 : Tryd.prog.cellsOf 9 = 1 := by kernel_rfl
  match cs, hl.trans hC with
  | [v0, v1, v2], _ =>
    match xs, hlen with
    | [y0, y1, y2], _ =>
      have g0 := hf 0 _ rfl
      have g1 := hf 1 _ rfl
      have g2 := hf 2 _ rfl
      simp [c0, c2] at g0 g1 g2
      obtain ⟨k, e0, _, k0⟩ := DataW.trod_int Tryd.underlying3 g0
      obtain ⟨nu, e1, _, k1⟩ := DataW.trod_int Tryd.underlying3 g1
      obtain ⟨t, e2, _, k2⟩ := DataW.trod_string Tryd.underlying9 g2
      simp at e0 e1 e2
      subst e0 e1 e2
      exact ⟨k, nu, t, rfl, wf_i64 k0, wf_i64 k1, k2⟩

set_option maxRecDepth 100000 in
theorem open_key {r : Reach} {b0 : Nat} {v : Value} {d : DataW H} {p : List MemPlace} (hv : Value.okWide Tryd.prog w r b0 52 v) (h : DataW.Trod enc Tryd.prog w base spare held 52 v d p) :
    ∃ k n t, v = .agg #[.int .i64 k, .int .i64 n, .string t] ∧ (-9223372036854775808 ≤ k ∧ k ≤ 9223372036854775807) ∧ (-9223372036854775808 ≤ n ∧ n ≤ 9223372036854775807) ∧ t.size ≤ maxLen := by
  obtain ⟨cs, rfl, _⟩ := okWide_struct Tryd.underlying52 hv
  obtain ⟨fuel, hf⟩ := h
  obtain ⟨k, n, t, e, h1, h2, h3⟩ := open_key_cells hf
  obtain ⟨l⟩ := cs
  simp only [Value.cells] at e
  subst e
  exact ⟨k, n, t, rfl, h1, h2, h3⟩
end
end Go.Proofs.YtcalgjggmgnofaaDoor
