/- What is proved here: an argument of type Key is a number, a number and a text; an argument of type []Key reads as a list of keys. No condition. -/
import Derived.Test.YtcalgjggmgnofaaKeyList
import Derived.Test.YtcalgjggmgnofaaBase
import Derived.ChangeArms
import Derived.ChangeSame
import Derived.Deep.Slices
namespace Go.Proofs.Ytcalgjggmgnofaa
open Go.RowKit Go.ChangeShapes Go.WideShapes Go.Deep

section
variable {H : Type} {enc : TypeId × Value → H} {w : World} {base : Nat} {spare : Nat → Bool} {held : Bool}

theorem key_add (y : Addr) (i j : Nat) (hj : 0 < j) : keyField y i j = y.add (i * 3 + j) := by
  unfold keyField Addr.add
  rw [if_neg (show ¬ i * 3 + j = 0 by omega)]
  by_cases h : i * 3 = 0
  · rw [if_pos h, h]; simp
  · rw [if_neg h]; simp [Nat.add_assoc]

set_option maxRecDepth 100000 in
theorem open_key_cells {n : Nat} {cs : List Value} {x : DataW H × List MemPlace} (h : DataW.trod enc Try.prog w base spare held n 46 cs = some x) :
    ∃ k nu t, cs = [.int .i64 k, .int .i64 nu, .string t] ∧ (-9223372036854775808 ≤ k ∧ k ≤ 9223372036854775807) ∧ (-9223372036854775808 ≤ nu ∧ nu ≤ 9223372036854775807) ∧ t.size ≤ maxLen := by
  obtain ⟨xs, m, rfl, _, hl, hlen, hf⟩ := DataW.trod_struct Try.underlying46 h
  have hC : Try.prog.cellsOf 46 = 3 := by kernel_rfl
  have c0 : Try.prog.cellsOf 3 = 1 := by kernel_rfl
  have c2 : Try.prog.cellsOf 9 = 1 := by kernel_rfl
  match cs, hl.trans hC with
  | [v0, v1, v2], _ =>
    match xs, hlen with
    | [y0, y1, y2], _ =>
      have g0 := hf 0 _ rfl
      have g1 := hf 1 _ rfl
      have g2 := hf 2 _ rfl
      simp [c0, c2] at g0 g1 g2
      obtain ⟨k, e0, _, k0⟩ := DataW.trod_int Try.underlying3 g0
      obtain ⟨nu, e1, _, k1⟩ := DataW.trod_int Try.underlying3 g1
      obtain ⟨t, e2, _, k2⟩ := DataW.trod_string Try.underlying9 g2
      simp at e0 e1 e2
      subst e0 e1 e2
      exact ⟨k, nu, t, rfl, wf_i64 k0, wf_i64 k1, k2⟩

theorem addr_add_add (a : Addr) (i j : Nat) : (a.add i).add j = a.add (i + j) := by
  unfold Addr.add
  by_cases h1 : i = 0
  · subst h1; simp
  · by_cases h2 : j = 0
    · subst h2; simp
    · simp [h1, h2, Nat.add_assoc]

set_option maxRecDepth 100000 in
theorem open_keys {n : Nat} {v : Value} {x : DataW H × List MemPlace} (h : DataW.trod enc Try.prog w base spare held n 45 [v] = some x) :
    ∃ a cap l, v = .slice a (List.length l) cap ∧ KeysAt w a l ∧ l.length ≤ maxLen ∧ ∀ x ∈ l, x.2.2.size ≤ maxLen := by
  rcases DataW.trod_slice Try.underlying45 h with ⟨hcs, _⟩ | ⟨a, len, cap, elems, rest, m, hnm, hcs, _, hba, hlc, hcm, hel, hat, _⟩
  · simp at hcs
    subst hcs
    exact ⟨none, 0, [], rfl, fun j hj => absurd hj (by simp), by simp, by simp⟩
  · simp at hcs
    subst hcs
    have hC : Try.prog.cellsOf 46 = 3 := by kernel_rfl
    have each : ∀ j, j ≤ len → ∃ l : List KeyD, l.length = j ∧ (∀ i (h : i < l.length), w.cell? (a.add (i * 3)) = some (.int .i64 l[i].1) ∧ w.cell? (keyField a i 1) = some (.int .i64 l[i].2.1) ∧ w.cell? (keyField a i 2) = some (.string l[i].2.2)) ∧ ∀ x ∈ l, x.2.2.size ≤ maxLen := by
      intro j
      induction j with
      | zero => intro _; exact ⟨[], rfl, fun i hi => absurd hi (by simp), by simp⟩
      | succ j ihj =>
        intro hj
        obtain ⟨l, h1, h2, h3⟩ := ihj (by omega)
        have hi := hat j (by omega)
        rw [List.getElem?_eq_getElem (by omega), hC] at hi
        obtain ⟨cs, hc1, hc2⟩ := Option.bind_eq_some_iff.1 hi
        obtain ⟨k, nu, t, rfl, _, _, g3⟩ := open_key_cells hc2
        obtain ⟨_, _, hcell⟩ := World.cells?_some hc1
        have e0 := hcell 0 (by omega)
        have e1 := hcell 1 (by omega)
        have e2 := hcell 2 (by omega)
        rw [addr_add_add] at e0 e1 e2
        refine ⟨l ++ [(k, nu, t)], by simp [h1], fun i hi => ?_, fun x hx => ?_⟩
        · rcases Nat.lt_or_ge i l.length with h4 | h4
          · rw [List.getElem_append_left h4]
            exact h2 i h4
          · have h5 : i = l.length := by simp at hi; omega
            subst h5
            have e : (l ++ [(k, nu, t)])[l.length] = (k, nu, t) := by simp
            rw [e, key_add _ _ _ (by omega), key_add _ _ _ (by omega), h1]
            exact ⟨by simpa using e0, by simpa using e1, by simpa using e2⟩
        · rcases List.mem_append.1 hx with h4 | h4
          · exact h3 x h4
          · simp at h4
            subst h4
            exact g3
    obtain ⟨l, h1, h2, h3⟩ := each len (Nat.le_refl _)
    exact ⟨some a, cap, l, by rw [h1], fun j hj => ⟨a, rfl, h2 j hj⟩, by omega, h3⟩

set_option maxRecDepth 100000 in
theorem open_key {r : Reach} {b0 : Nat} {v : Value} {d : DataW H} {p : List MemPlace} (hv : Value.okWide Try.prog w r b0 46 v) (h : DataW.Trod enc Try.prog w base spare held 46 v d p) :
    ∃ k n t, v = .agg #[.int .i64 k, .int .i64 n, .string t] ∧ (-9223372036854775808 ≤ k ∧ k ≤ 9223372036854775807) ∧ (-9223372036854775808 ≤ n ∧ n ≤ 9223372036854775807) ∧ t.size ≤ maxLen := by
  obtain ⟨cs, rfl, _⟩ := okWide_struct Try.underlying46 hv
  obtain ⟨fuel, hf⟩ := h
  obtain ⟨k, n, t, e, h1, h2, h3⟩ := open_key_cells hf
  obtain ⟨l⟩ := cs
  simp only [Value.cells] at e
  subst e
  exact ⟨k, n, t, rfl, h1, h2, h3⟩
end
end Go.Proofs.Ytcalgjggmgnofaa
