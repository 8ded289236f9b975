/- What is proved here: a piece of the proof of YtdilegbigaahnaaGreatExactIsValueOf (TreeOpen, ExactIsValueOf). Condition: none beyond what each part says. -/
import Derived.Test.YtdilegbigaahnaaGreatVo02
import Derived.Test.YtdilegbigaahnaaGreatVo01
import Derived.ChangeArms
import Derived.ChangeSame
import Derived.Deep.Slices
import Derived.Test.YtdilegbigaahnaaGreatRows
import Derived.Test.YtdilegbigaahnaaGreatVo17
import Derived.ProofKit
import Derived.OpenShut
import Derived.ShutString
import Derived.ChangeOld
import Derived.Carry
import Derived.Below

/- What is proved here: an argument of type Value is a node with rows of nodes below it in memory, whose numbers and lengths a machine can have. No condition. -/
section
namespace Go.Proofs.YtdilegbigaahnaaGreat
open Go.RowKit Go.ChangeShapes Go.WideShapes Go.Deep

section
variable {H : Type} {enc : TypeId × Value → H} {w : World} {base : Nat} {spare : Nat → Bool} {held : Bool}

theorem field_add (y : Addr) (i j : Nat) (hj : 0 < j) : fieldAt y i j = y.add (i * 4 + j) := by
  unfold fieldAt Addr.add
  rw [if_neg (show ¬ i * 4 + j = 0 by omega)]
  by_cases h : i * 4 = 0
  · rw [if_pos h, h]; simp
  · rw [if_neg h]; simp [Nat.add_assoc]

set_option maxRecDepth 100000 in
/-- One node's cells. -/
theorem open_node {n : Nat} {cs : List Value} {x : DataW H × List MemPlace} (h : DataW.trod enc Tryz.prog w base spare held n 27 cs = some x)
    (ih : ∀ m, m < n → ∀ (v : Value) (x : DataW H × List MemPlace), DataW.trod enc Tryz.prog w base spare held m 25 [v] = some x → ∃ a cap F, v = .slice a F.length cap ∧ F.length ≤ cap ∧ TreesAt w F a 0 ∧ F.fits ∧ F.length ≤ maxLen) :
    ∃ k nu t p cap F, cs = [.int .i64 k, .int .i64 nu, .string t, .slice p F.length cap] ∧ F.length ≤ cap ∧ TreesAt w F p 0 ∧ F.fits ∧ F.length ≤ maxLen ∧ (-9223372036854775808 ≤ k ∧ k ≤ 9223372036854775807) ∧ (-9223372036854775808 ≤ nu ∧ nu ≤ 9223372036854775807) ∧ t.size ≤ maxLen := by
  obtain ⟨xs, m, rfl, _, hl, hlen, hf⟩ := DataW.trod_struct Tryz.underlying27 h
  have hC : Tryz.prog.cellsOf 27 = 4 := by kernel_rfl
  have c0 : Tryz.prog.cellsOf 3 = 1 := by kernel_rfl
  have c2 : Tryz.prog.cellsOf 9 = 1 := by kernel_rfl
  have c3 : Tryz.prog.cellsOf 25 = 1 := by kernel_rfl
  match cs, hl.trans hC with
  | [v0, v1, v2, v3], _ =>
    match xs, hlen with
    | [y0, y1, y2, y3], _ =>
      have g0 := hf 0 _ rfl
      have g1 := hf 1 _ rfl
      have g2 := hf 2 _ rfl
      have g3 := hf 3 _ rfl
      simp [c0, c2, c3] at g0 g1 g2 g3
      obtain ⟨k, e0, _, k0⟩ := DataW.trod_int Tryz.underlying3 g0
      obtain ⟨nu, e1, _, k1⟩ := DataW.trod_int Tryz.underlying3 g1
      obtain ⟨t, e2, _, k2⟩ := DataW.trod_string Tryz.underlying9 g2
      obtain ⟨p, cap, F, e3, hl3, h1, h2, h3⟩ := ih m (by omega) v3 y3 g3
      simp at e0 e1 e2
      subst e0 e1 e2 e3
      exact ⟨k, nu, t, p, cap, F, rfl, hl3, h1, h2, h3, wf_i64 k0, wf_i64 k1, k2⟩

set_option maxRecDepth 100000 in
theorem open_nodes : ∀ (n : Nat) (v : Value) (x : DataW H × List MemPlace), DataW.trod enc Tryz.prog w base spare held n 25 [v] = some x → ∃ a cap F, v = .slice a F.length cap ∧ F.length ≤ cap ∧ TreesAt w F a 0 ∧ F.fits ∧ F.length ≤ maxLen := by
  intro n
  induction n using Nat.strongRecOn with
  | ind n ih =>
    intro v x h
    rcases DataW.trod_slice Tryz.underlying25 h with ⟨hcs, _⟩ | ⟨a, len, cap, elems, rest, m, hnm, hcs, _, hba, hlc, hcm, hel, hat, _⟩
    · simp at hcs
      subst hcs
      exact ⟨none, 0, .nil, rfl, Nat.zero_le _, trivial, trivial, Nat.zero_le _⟩
    · simp at hcs
      subst hcs
      have hC : Tryz.prog.cellsOf 27 = 4 := by kernel_rfl
      have each : ∀ j, j ≤ len → ∃ F : Trees, F.length = j ∧ TreesAt w F (some a) (len - j) ∧ F.fits := by
        intro j
        induction j with
        | zero => intro _; exact ⟨.nil, rfl, trivial, trivial⟩
        | succ j ihj =>
          intro hj
          obtain ⟨F, hF1, hF2, hF3⟩ := ihj (by omega)
          have hi := hat (len - (j + 1)) (by omega)
          rw [List.getElem?_eq_getElem (by omega), hC] at hi
          obtain ⟨cs, hc1, hc2⟩ := Option.bind_eq_some_iff.1 hi
          obtain ⟨k, nu, t, p, cp, G, rfl, gl, g1, g2, g3, g4, g5, g6⟩ := open_node hc2 (fun m' hm' => ih m' (by omega))
          obtain ⟨_, _, hcell⟩ := World.cells?_some hc1
          have e0 := hcell 0 (by omega)
          have e1 := hcell 1 (by omega)
          have e2 := hcell 2 (by omega)
          have e3 := hcell 3 (by omega)
          rw [add_add] at e0 e1 e2 e3
          refine ⟨.cons k nu t G F, by simp only [Trees.length]; omega, ⟨⟨a, p, cp, rfl, by simpa using e0, ?_, ?_, ?_, gl, g1⟩, ?_⟩, g4, g5, g6, g3, g2, hF3⟩
          · rw [field_add _ _ _ (by omega)]; simpa using e1
          · rw [field_add _ _ _ (by omega)]; simpa using e2
          · rw [field_add _ _ _ (by omega)]; simpa using e3
          · rw [show len - (j + 1) + 1 = len - j by omega]; exact hF2
      obtain ⟨F, hF1, hF2, hF3⟩ := each len (Nat.le_refl _)
      refine ⟨some a, cap, F, by rw [hF1], by omega, by simpa using hF2, hF3, by omega⟩

set_option maxRecDepth 100000
theorem open_value {r : Reach} {b0 : Nat} {v : Value} {d : DataW H} {p : List MemPlace} (hv : Value.okWide Tryz.prog w r b0 27 v) (h : DataW.Trod enc Tryz.prog w base spare held 27 v d p) :
    ∃ k n t a cap F, v = .agg #[.int .i64 k, .int .i64 n, .string t, .slice a F.length cap] ∧ TreesAt w F a 0 ∧ F.fits ∧ F.length ≤ maxLen ∧ (-9223372036854775808 ≤ k ∧ k ≤ 9223372036854775807) ∧ (-9223372036854775808 ≤ n ∧ n ≤ 9223372036854775807) ∧ t.size ≤ maxLen := by
  obtain ⟨cs, rfl, _⟩ := okWide_struct Tryz.underlying27 hv
  obtain ⟨fuel, hf⟩ := h
  obtain ⟨k, n, t, a, cap, F, e, _, h1, h2, h3, h4, h5, h6⟩ := open_node hf (fun m _ => open_nodes m)
  obtain ⟨l⟩ := cs
  simp only [Value.cells] at e
  subst e
  exact ⟨k, n, t, a, cap, F, rfl, h1, h2, h3, h4, h5, h6⟩
end
end Go.Proofs.YtdilegbigaahnaaGreat
end

/- What is proved here: FnExactIsValueOf holds for every argument (the frame round its walk). Condition: none beyond the statement's own. -/
section
namespace Go.Proofs.YtdilegbigaahnaaGreat
open Go.ChangeShapes Go.WideShapes Go.ChangeAt Go.RowKit
open Go.ChangeMaps (open_string shut_string)
set_option maxRecDepth 100000 in
theorem fnExactIsValueOf_lifted (os : Os) (started : os.Started) (H : Type) (enc : TypeId × Value → H) :
    ReturnsInHanded {} Tryz.checked os 3 .any (Rows.fnExactIsValueOfSpec.pre6 enc Tryz.prog Tryz.f3 Rows.fnExactIsValueOfRow.domain false) (Rows.fnExactIsValueOfSpec.post enc Tryz.prog Tryz.f3 false true false false) := by
  refine returnsInHanded_of_change (C := Tryz.checked) own started (by kernel_rfl) Tryz.func3
    (ChangeSpec.witness6 (enc := enc) (C := Tryz.checked) false ⟨#[], #[.agg #[.slice none 0 0], .agg #[.int .i64 0, .int .i64 0, .string ⟨#[]⟩, .slice none 0 0], .string ⟨#[]⟩], []⟩ 8 (by kernel_rfl) (by kernel_rfl) (by kernel_rfl) (by kernel_rfl)) ?_
  intro W base args ds gs before hval0 hW hcnd hsz
  have hval : ∀ (j : Nat) t v, Tryz.f3.params[j]? = some t → args[j]? = some v → Value.okWide Tryz.prog W .any base t v := hval0
  have hW' := hW
  obtain ⟨p, q, hA0, hV, rfl, hfz, hnd⟩ := hW
  have hA : DataW.TrodAll enc Tryz.prog W 0 (fun _ => true) true Tryz.f3.params.toList args.toList ds p := hA0
  rw [Tryz.params3] at hA hval
  obtain ⟨v0, vs0, d0, ds0, p0, q0, hargs, rfl, rfl, h0, r0⟩ := trodAll_cons hA
  obtain ⟨v1, vs1, d1, ds1, p1, q1, rfl, rfl, rfl, h1, r1⟩ := trodAll_cons r0
  obtain ⟨v2, vs2, d2, ds2, p2, q2, rfl, rfl, rfl, h2, r2⟩ := trodAll_cons r1
  obtain ⟨rfl, rfl, rfl⟩ := trodAll_nil r2
  obtain rfl : args = #[v0, v1, v2] := by cases args; simp_all
  obtain ⟨rfl, rfl⟩ := trodVars_none hV
  have k0 := h0
  have lt0 : ∀ x ∈ p0, x.block < W.heap.size := by obtain ⟨m, hm⟩ := k0; exact DataW.trod_lt m _ _ _ hm
  obtain ⟨a0, cap0, s0, rfl, w0, f0⟩ := open_sig (hval 0 24 v0 rfl rfl) h0
  have k1 := h1
  have lt1 : ∀ x ∈ p1, x.block < W.heap.size := by obtain ⟨m, hm⟩ := k1; exact DataW.trod_lt m _ _ _ hm
  obtain ⟨k_1, n_1, t_1, a1, cap1, f_1, rfl, w1, f1, m1, b1, c1, s1⟩ := open_value (hval 1 27 v1 rfl rfl) h1
  obtain ⟨a2, rfl, rfl, rfl, w2⟩ := open_string Tryz.underlying9 (hval 2 9 v2 rfl rfl) h2
  clear hA0 hval0
  simp only [List.append_nil] at hW'
  refine (fnExactIsValueOf_walk a0 cap0 s0 k_1 n_1 t_1 f_1 a1 cap1 a2 w2 W w0 f0 w1 f1 m1 b1 c1 s1).mono fun e W' ⟨he, bel⟩ => ?_
  subst he
  exact ⟨_, rfl, _, _, _, [], _, [], hW', trodAll_mk1 (shut_bool Tryz.underlying4 _), (trodAll_cons_mk (Below.trod laidOut (by kernel_rfl) (of_decide_eq_true (by kernel_rfl)) k0 bel lt0) (trodAll_cons_mk (Below.trod laidOut (by kernel_rfl) (of_decide_eq_true (by kernel_rfl)) k1 bel lt1) (trodAll_cons_mk (shut_string Tryz.underlying9 w2) trodAll_mk0))), rfl, bel.frame _, fun h => by cases h⟩

theorem fnExactIsValueOf_holds : Rows.FnExactIsValueOfSaid :=
  OpenClaim.holds_of_wide 3 Tryz.f3 rfl rfl rfl rfl rfl rfl rfl ⟨rfl, rfl, rfl, rfl, rfl⟩ rfl rfl rfl rfl rfl (by kernel_rfl) Tryz.func3 (by kernel_rfl)
    (of_decide_eq_true (by kernel_rfl)) (by unfold Func.isWrapper; first | (rw [if_pos (by decide +kernel)]; kernel_rfl) | (rw [if_neg (by decide +kernel)]; exact ⟨rfl, rfl⟩))
    (fun os started H enc _ => fnExactIsValueOf_lifted os started H enc)
end Go.Proofs.YtdilegbigaahnaaGreat
end
