/- What is proved here: an argument of type []Binding reads as a list of bindings. No condition. -/
import Derived.Test.YtdifefgigcjgeaaBinds
import Derived.Test.YtdifefgigcjgeaaTreeOpen
namespace Go.Proofs.Ytdifefgigcjgeaa
open Go.RowKit Go.ChangeShapes Go.WideShapes Go.Deep

section
variable {H : Type} {enc : TypeId × Value → H} {w : World} {base : Nat} {spare : Nat → Bool} {held : Bool}

theorem bind_add (y : Addr) (i j : Nat) (hj : 0 < j) : bindAt y i j = y.add (i * 5 + j) := by
  unfold bindAt Addr.add
  rw [if_neg (show ¬ i * 5 + j = 0 by omega)]
  by_cases h : i * 5 = 0
  · rw [if_pos h, h]; simp
  · rw [if_neg h]; simp [Nat.add_assoc]
theorem bind_add_add (a : Addr) (i j : Nat) : (a.add i).add j = a.add (i + j) := by
  unfold Addr.add
  by_cases h1 : i = 0
  · subst h1; simp
  · by_cases h2 : j = 0
    · subst h2; simp
    · simp [h1, h2, Nat.add_assoc]

set_option maxRecDepth 100000 in
/-- One binding's cells. -/
theorem open_bind {n : Nat} {cs : List Value} {x : DataW H × List MemPlace} (h : DataW.trod enc Try.prog w base spare held n 83 cs = some x) :
    ∃ (b : BindD) (p : Option Addr) (cap : Nat), cs = [.string b.nm, .int .i64 b.k, .int .i64 b.n, .string b.t, .slice p b.F.length cap] ∧ b.F.length ≤ cap ∧ TreesAt w b.F p 0 ∧ b.fits := by
  obtain ⟨xs, m, rfl, _, hl, hlen, hf⟩ := DataW.trod_struct Try.underlying83 h
  have hC : Try.prog.cellsOf 83 = 5 := by kernel_rfl
  have c2 : Try.prog.cellsOf 9 = 1 := by kernel_rfl
  have c4 : Try.prog.cellsOf 81 = 4 := by kernel_rfl
  match cs, hl.trans hC with
  | [v0, v1, v2, v3, v4], _ =>
    match xs, hlen with
    | [y0, y1], _ =>
      have g0 := hf 0 _ rfl
      have g1 := hf 1 _ rfl
      simp [c2, c4] at g0 g1
      obtain ⟨nm, e0, _, k0⟩ := DataW.trod_string Try.underlying9 g0
      obtain ⟨k, nu, t, p, cap, F, e1, gl, h1, h2, h3, h4, h5, h6⟩ := open_node g1 (fun m' _ => open_nodes m')
      simp at e0 e1
      obtain ⟨rfl, rfl, rfl, rfl⟩ := e1
      subst e0
      exact ⟨⟨nm, k, nu, t, F⟩, p, cap, rfl, gl, h1, k0, h4, h5, h6, h3, h2⟩

set_option maxRecDepth 100000 in
theorem open_binds {n : Nat} {v : Value} {x : DataW H × List MemPlace} (h : DataW.trod enc Try.prog w base spare held n 50 [v] = some x) :
    ∃ a cap l, v = .slice a (List.length l) cap ∧ BindsAt w l a 0 ∧ l.length ≤ maxLen ∧ ∀ x ∈ l, BindD.fits x := by
  rcases DataW.trod_slice Try.underlying50 h with ⟨hcs, _⟩ | ⟨a, len, cap, elems, rest, m, hnm, hcs, _, hba, hlc, hcm, hel, hat, _⟩
  · simp at hcs
    subst hcs
    exact ⟨none, 0, [], rfl, trivial, by simp, by simp⟩
  · simp at hcs
    subst hcs
    have hC : Try.prog.cellsOf 83 = 5 := by kernel_rfl
    have each : ∀ j, j ≤ len → ∃ l : List BindD, l.length = j ∧ BindsAt w l (some a) (len - j) ∧ ∀ x ∈ l, BindD.fits x := by
      intro j
      induction j with
      | zero => intro _; exact ⟨[], rfl, trivial, by simp⟩
      | succ j ihj =>
        intro hj
        obtain ⟨l, hF1, hF2, hF3⟩ := ihj (by omega)
        have hi := hat (len - (j + 1)) (by omega)
        rw [List.getElem?_eq_getElem (by omega), hC] at hi
        obtain ⟨cs, hc1, hc2⟩ := Option.bind_eq_some_iff.1 hi
        obtain ⟨b, p, cp, rfl, gl, g1, g2⟩ := open_bind hc2
        obtain ⟨_, _, hcell⟩ := World.cells?_some hc1
        have e0 := hcell 0 (by omega)
        have e1 := hcell 1 (by omega)
        have e2 := hcell 2 (by omega)
        have e3 := hcell 3 (by omega)
        have e4 := hcell 4 (by omega)
        rw [bind_add_add] at e0 e1 e2 e3 e4
        refine ⟨b :: l, by simp [hF1], ⟨⟨a, p, cp, rfl, by simpa using e0, ?_, ?_, ?_, ?_, gl, g1⟩, ?_⟩, fun x hx => ?_⟩
        · rw [bind_add _ _ _ (by omega)]; simpa using e1
        · rw [bind_add _ _ _ (by omega)]; simpa using e2
        · rw [bind_add _ _ _ (by omega)]; simpa using e3
        · rw [bind_add _ _ _ (by omega)]; simpa using e4
        · rw [show len - (j + 1) + 1 = len - j by omega]; exact hF2
        · rcases List.mem_cons.1 hx with rfl | hx
          · exact g2
          · exact hF3 x hx
    obtain ⟨l, hF1, hF2, hF3⟩ := each len (Nat.le_refl _)
    exact ⟨some a, cap, l, by rw [hF1], by simpa using hF2, by omega, hF3⟩
end
end Go.Proofs.Ytdifefgigcjgeaa
