/- What is proved here: an argument of type []Clause reads as a list of clauses, one of type Match as its type and its clauses. No condition. -/
import Derived.Test.YtcimdhmmgneljaaClauses
import Derived.Test.YtcimdhmmgneljaaPtTreeOpen
import Derived.Test.YtcimdhmmgneljaaExTreeOpen
namespace Go.Proofs.Ytcimdhmmgneljaa
open Go.RowKit Go.ChangeShapes Go.WideShapes Go.Deep

section
variable {H : Type} {enc : TypeId × Value → H} {w : World} {base : Nat} {spare : Nat → Bool} {held : Bool}

theorem cl_add (y : Addr) (i j : Nat) (hj : 0 < j) : clAt y i j = y.add (i * 9 + j) := by
  unfold clAt Addr.add
  rw [if_neg (show ¬ i * 9 + j = 0 by omega)]
  by_cases h : i * 9 = 0
  · rw [if_pos h, h]; simp
  · rw [if_neg h]; simp [Nat.add_assoc]
theorem cl_add_add (a : Addr) (i j : Nat) : (a.add i).add j = a.add (i + j) := by
  unfold Addr.add
  by_cases h1 : i = 0
  · subst h1; simp
  · by_cases h2 : j = 0
    · subst h2; simp
    · simp [h1, h2, Nat.add_assoc]

set_option maxRecDepth 100000 in
/-- One clause's cells. -/
theorem open_clause {n : Nat} {cs : List Value} {x : DataW H × List MemPlace} (h : DataW.trod enc Try.prog w base spare held n 55 cs = some x) :
    ∃ (b : ClauseD) (p : Option Addr) (cap : Nat) (q : Option Addr) (cap2 : Nat), cs = [.int .i64 b.pk, .int .i64 b.pn, .string b.pt, .slice p b.pF.length cap, .bool b.gd, .int .i64 b.ek, .int .i64 b.en, .string b.et, .slice q b.eF.length cap2] ∧ b.pF.length ≤ cap ∧ b.eF.length ≤ cap2 ∧ TreesAt w b.pF p 0 ∧ TreesAt w b.eF q 0 ∧ b.fits := by
  obtain ⟨xs, m, rfl, _, hl, hlen, hf⟩ := DataW.trod_struct Try.underlying55 h
  have hC : Try.prog.cellsOf 55 = 9 := by kernel_rfl
  have c2 : Try.prog.cellsOf 4 = 1 := by kernel_rfl
  have c4 : Try.prog.cellsOf 50 = 4 := by kernel_rfl
  have c5 : Try.prog.cellsOf 53 = 4 := by kernel_rfl
  match cs, hl.trans hC with
  | [v0, v1, v2, v3, v4, v5, v6, v7, v8], _ =>
    match xs, hlen with
    | [y0, y1, y2], _ =>
      have g0 := hf 0 _ rfl
      have g1 := hf 1 _ rfl
      have g2 := hf 2 _ rfl
      simp [c2, c4, c5] at g0 g1 g2
      obtain ⟨pk, pn, pt, p, cap, pF, e0, gl, h1, h2, h3, h4, h5, h6⟩ := Pt.open_node g0 (fun m' _ => Pt.open_nodes m')
      obtain ⟨gd, e1, _⟩ := DataW.trod_bool Try.underlying4 g1
      obtain ⟨ek, en, et, q, cap2, eF, e2, gl2, k1, k2, k3, k4, k5, k6⟩ := Ex.open_node g2 (fun m' _ => Ex.open_nodes m')
      simp at e0 e1 e2
      obtain ⟨rfl, rfl, rfl, rfl⟩ := e0
      obtain ⟨rfl, rfl, rfl, rfl⟩ := e2
      subst e1
      exact ⟨⟨pk, pn, pt, pF, gd, ek, en, et, eF⟩, p, cap, q, cap2, rfl, gl, gl2, h1, k1, ⟨h4, h5, h6, h3, h2⟩, k4, k5, k6, k3, k2⟩

set_option maxRecDepth 100000 in
theorem open_clauses {n : Nat} {v : Value} {x : DataW H × List MemPlace} (h : DataW.trod enc Try.prog w base spare held n 22 [v] = some x) :
    ∃ a cap l, v = .slice a (List.length l) cap ∧ ClausesAt w l a 0 ∧ l.length ≤ maxLen ∧ ∀ x ∈ l, ClauseD.fits x := by
  rcases DataW.trod_slice Try.underlying22 h with ⟨hcs, _⟩ | ⟨a, len, cap, elems, rest, m, hnm, hcs, _, hba, hlc, hcm, hel, hat, _⟩
  · simp at hcs
    subst hcs
    exact ⟨none, 0, [], rfl, trivial, by simp, by simp⟩
  · simp at hcs
    subst hcs
    have hC : Try.prog.cellsOf 55 = 9 := by kernel_rfl
    have each : ∀ j, j ≤ len → ∃ l : List ClauseD, l.length = j ∧ ClausesAt w l (some a) (len - j) ∧ ∀ x ∈ l, ClauseD.fits x := by
      intro j
      induction j with
      | zero => intro _; exact ⟨[], rfl, trivial, by simp⟩
      | succ j ihj =>
        intro hj
        obtain ⟨l, hF1, hF2, hF3⟩ := ihj (by omega)
        have hi := hat (len - (j + 1)) (by omega)
        rw [List.getElem?_eq_getElem (by omega), hC] at hi
        obtain ⟨cs, hc1, hc2⟩ := Option.bind_eq_some_iff.1 hi
        obtain ⟨b, p, cp, q, cq, rfl, gl, gl2, g1, g1b, g2⟩ := open_clause hc2
        obtain ⟨_, _, hcell⟩ := World.cells?_some hc1
        have e0 := hcell 0 (by omega)
        have e1 := hcell 1 (by omega)
        have e2 := hcell 2 (by omega)
        have e3 := hcell 3 (by omega)
        have e4 := hcell 4 (by omega)
        have e5 := hcell 5 (by omega)
        have e6 := hcell 6 (by omega)
        have e7 := hcell 7 (by omega)
        have e8 := hcell 8 (by omega)
        rw [cl_add_add] at e0 e1 e2 e3 e4 e5 e6 e7 e8
        refine ⟨b :: l, by simp [hF1], ⟨⟨a, p, cp, q, cq, rfl, ⟨by simpa using e0, ?_, ?_, ?_, ?_, ?_, ?_, ?_, ?_⟩, gl, gl2, g1, g1b⟩, ?_⟩, fun x hx => ?_⟩
        · rw [cl_add _ _ _ (by omega)]; simpa using e1
        · rw [cl_add _ _ _ (by omega)]; simpa using e2
        · rw [cl_add _ _ _ (by omega)]; simpa using e3
        · rw [cl_add _ _ _ (by omega)]; simpa using e4
        · rw [cl_add _ _ _ (by omega)]; simpa using e5
        · rw [cl_add _ _ _ (by omega)]; simpa using e6
        · rw [cl_add _ _ _ (by omega)]; simpa using e7
        · rw [cl_add _ _ _ (by omega)]; simpa using e8
        · rw [show len - (j + 1) + 1 = len - j by omega]; exact hF2
        · rcases List.mem_cons.1 hx with rfl | hx
          · exact g2
          · exact hF3 x hx
    obtain ⟨l, hF1, hF2, hF3⟩ := each len (Nat.le_refl _)
    exact ⟨some a, cap, l, by rw [hF1], by simpa using hF2, by omega, hF3⟩

set_option maxRecDepth 100000
theorem open_match {r : Reach} {b0 : Nat} {v : Value} {d : DataW H} {p : List MemPlace} (hv : Value.okWide Try.prog w r b0 24 v) (h : DataW.Trod enc Try.prog w base spare held 24 v d p) :
    ∃ ty a cap l, v = .agg #[.string ty, .slice a (List.length l) cap] ∧ ClausesAt w l a 0 ∧ l.length ≤ maxLen ∧ (∀ x ∈ l, ClauseD.fits x) ∧ ty.size ≤ maxLen := by
  obtain ⟨cs, rfl, _⟩ := okWide_struct Try.underlying24 hv
  obtain ⟨fuel, hf⟩ := h
  obtain ⟨xs, m, _, _, hl, hlen, hf⟩ := DataW.trod_struct Try.underlying24 hf
  have hC : Try.prog.cellsOf 24 = 2 := by kernel_rfl
  have c2 : Try.prog.cellsOf 9 = 1 := by kernel_rfl
  have c4 : Try.prog.cellsOf 22 = 1 := by kernel_rfl
  obtain ⟨cl⟩ := cs
  simp only [Value.cells] at hl hf
  match cl, hl.trans hC with
  | [v0, v1], _ =>
    match xs, hlen with
    | [y0, y1], _ =>
      have g0 := hf 0 _ rfl
      have g1 := hf 1 _ rfl
      simp [c2, c4] at g0 g1
      obtain ⟨ty, e0, _, k0⟩ := DataW.trod_string Try.underlying9 g0
      obtain ⟨a, cap, l, e1, h1, h2, h3⟩ := open_clauses g1
      simp at e0 e1
      subst e0 e1
      exact ⟨ty, a, cap, l, rfl, h1, h2, h3, k0⟩
end
end Go.Proofs.Ytcimdhmmgneljaa
