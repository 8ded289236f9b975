/- What is proved here: an argument of type Value is a node with rows of nodes below it in memory, whose numbers and lengths a machine can have. No condition. -/
import Derived.Test.YtcimdhmmgneljaaTrees
import Derived.Test.YtcimdhmmgneljaaBase
import Derived.ChangeArms
import Derived.ChangeSame
import Derived.Deep.Slices
namespace Go.Proofs.Ytcimdhmmgneljaa.Ex
open Go.RowKit Go.ChangeShapes Go.WideShapes Go.Deep

section
variable {H : Type} {enc : TypeId × Value → H} {w : World} {base : Nat} {spare : Nat → Bool} {held : Bool}

theorem field_add (y : Addr) (i j : Nat) (hj : 0 < j) : fieldAt y i j = y.add (i * 4 + j) := by
  unfold fieldAt Addr.add
  rw [if_neg (show ¬ i * 4 + j = 0 by omega)]
  by_cases h : i * 4 = 0
  · rw [if_pos h, h]; simp
  · rw [if_neg h]; simp [Nat.add_assoc]

set_option maxRecDepth 100000 in
/-- One node's cells. -/
theorem open_node {n : Nat} {cs : List Value} {x : DataW H × List MemPlace} (h : DataW.trod enc Try.prog w base spare held n 53 cs = some x)
    (ih : ∀ m, m < n → ∀ (v : Value) (x : DataW H × List MemPlace), DataW.trod enc Try.prog w base spare held m 51 [v] = some x → ∃ a cap F, v = .slice a F.length cap ∧ F.length ≤ cap ∧ TreesAt w F a 0 ∧ F.fits ∧ F.length ≤ maxLen) :
    ∃ k nu t p cap F, cs = [.int .i64 k, .int .i64 nu, .string t, .slice p F.length cap] ∧ F.length ≤ cap ∧ TreesAt w F p 0 ∧ F.fits ∧ F.length ≤ maxLen ∧ (-9223372036854775808 ≤ k ∧ k ≤ 9223372036854775807) ∧ (-9223372036854775808 ≤ nu ∧ nu ≤ 9223372036854775807) ∧ t.size ≤ maxLen := by
  obtain ⟨xs, m, rfl, _, hl, hlen, hf⟩ := DataW.trod_struct Try.underlying53 h
  have hC : Try.prog.cellsOf 53 = 4 := by kernel_rfl
  have c0 : Try.prog.cellsOf 3 = 1 := by kernel_rfl
  have c2 : Try.prog.cellsOf 9 = 1 := by kernel_rfl
  have c3 : Try.prog.cellsOf 51 = 1 := by kernel_rfl
  match cs, hl.trans hC with
  | [v0, v1, v2, v3], _ =>
    match xs, hlen with
    | [y0, y1, y2, y3], _ =>
      have g0 := hf 0 _ rfl
      have g1 := hf 1 _ rfl
      have g2 := hf 2 _ rfl
      have g3 := hf 3 _ rfl
      simp [c0, c2, c3] at g0 g1 g2 g3
      obtain ⟨k, e0, _, k0⟩ := DataW.trod_int Try.underlying3 g0
      obtain ⟨nu, e1, _, k1⟩ := DataW.trod_int Try.underlying3 g1
      obtain ⟨t, e2, _, k2⟩ := DataW.trod_string Try.underlying9 g2
      obtain ⟨p, cap, F, e3, hl3, h1, h2, h3⟩ := ih m (by omega) v3 y3 g3
      simp at e0 e1 e2
      subst e0 e1 e2 e3
      exact ⟨k, nu, t, p, cap, F, rfl, hl3, h1, h2, h3, wf_i64 k0, wf_i64 k1, k2⟩

set_option maxRecDepth 100000 in
theorem open_nodes : ∀ (n : Nat) (v : Value) (x : DataW H × List MemPlace), DataW.trod enc Try.prog w base spare held n 51 [v] = some x → ∃ a cap F, v = .slice a F.length cap ∧ F.length ≤ cap ∧ TreesAt w F a 0 ∧ F.fits ∧ F.length ≤ maxLen := by
  intro n
  induction n using Nat.strongRecOn with
  | ind n ih =>
    intro v x h
    rcases DataW.trod_slice Try.underlying51 h with ⟨hcs, _⟩ | ⟨a, len, cap, elems, rest, m, hnm, hcs, _, hba, hlc, hcm, hel, hat, _⟩
    · simp at hcs
      subst hcs
      exact ⟨none, 0, .nil, rfl, Nat.zero_le _, trivial, trivial, Nat.zero_le _⟩
    · simp at hcs
      subst hcs
      have hC : Try.prog.cellsOf 53 = 4 := by kernel_rfl
      have each : ∀ j, j ≤ len → ∃ F : Trees, F.length = j ∧ TreesAt w F (some a) (len - j) ∧ F.fits := by
        intro j
        induction j with
        | zero => intro _; exact ⟨.nil, rfl, trivial, trivial⟩
        | succ j ihj =>
          intro hj
          obtain ⟨F, hF1, hF2, hF3⟩ := ihj (by omega)
          have hi := hat (len - (j + 1)) (by omega)
          rw [List.getElem?_eq_getElem (by omega), hC] at hi
          obtain ⟨cs, hc1, hc2⟩ := Option.bind_eq_some_iff.1 hi
          obtain ⟨k, nu, t, p, cp, G, rfl, gl, g1, g2, g3, g4, g5, g6⟩ := open_node hc2 (fun m' hm' => ih m' (by omega))
          obtain ⟨_, _, hcell⟩ := World.cells?_some hc1
          have e0 := hcell 0 (by omega)
          have e1 := hcell 1 (by omega)
          have e2 := hcell 2 (by omega)
          have e3 := hcell 3 (by omega)
          rw [add_add] at e0 e1 e2 e3
          refine ⟨.cons k nu t G F, by simp only [Trees.length]; omega, ⟨⟨a, p, cp, rfl, by simpa using e0, ?_, ?_, ?_, gl, g1⟩, ?_⟩, g4, g5, g6, g3, g2, hF3⟩
          · rw [field_add _ _ _ (by omega)]; simpa using e1
          · rw [field_add _ _ _ (by omega)]; simpa using e2
          · rw [field_add _ _ _ (by omega)]; simpa using e3
          · rw [show len - (j + 1) + 1 = len - j by omega]; exact hF2
      obtain ⟨F, hF1, hF2, hF3⟩ := each len (Nat.le_refl _)
      refine ⟨some a, cap, F, by rw [hF1], by omega, by simpa using hF2, hF3, by omega⟩

set_option maxRecDepth 100000
theorem open_value {r : Reach} {b0 : Nat} {v : Value} {d : DataW H} {p : List MemPlace} (hv : Value.okWide Try.prog w r b0 53 v) (h : DataW.Trod enc Try.prog w base spare held 53 v d p) :
    ∃ k n t a cap F, v = .agg #[.int .i64 k, .int .i64 n, .string t, .slice a F.length cap] ∧ TreesAt w F a 0 ∧ F.fits ∧ F.length ≤ maxLen ∧ (-9223372036854775808 ≤ k ∧ k ≤ 9223372036854775807) ∧ (-9223372036854775808 ≤ n ∧ n ≤ 9223372036854775807) ∧ t.size ≤ maxLen := by
  obtain ⟨cs, rfl, _⟩ := okWide_struct Try.underlying53 hv
  obtain ⟨fuel, hf⟩ := h
  obtain ⟨k, n, t, a, cap, F, e, _, h1, h2, h3, h4, h5, h6⟩ := open_node hf (fun m _ => open_nodes m)
  obtain ⟨l⟩ := cs
  simp only [Value.cells] at e
  subst e
  exact ⟨k, n, t, a, cap, F, rfl, h1, h2, h3, h4, h5, h6⟩
end
end Go.Proofs.Ytcimdhmmgneljaa.Ex
