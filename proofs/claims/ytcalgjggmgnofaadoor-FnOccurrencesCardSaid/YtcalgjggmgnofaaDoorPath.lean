/- What is proved here: a part of a value at an occurrence, and how it lies in memory. No condition. -/
import Derived.Test.YtcalgjggmgnofaaDoorTrees
namespace Go.Proofs.YtcalgjggmgnofaaDoor
open Go.RowKit

/-- A node with what is below it. -/
structure NodeD where
  k : Int
  n : Int
  t : ByteArray
  args : Trees
/-- The j-th node of a row. -/
def Trees.pick : Trees → Nat → Option NodeD
  | .nil, _ => none
  | .cons k n t ar _, 0 => some ⟨k, n, t, ar⟩
  | .cons _ _ _ _ r, j + 1 => r.pick j
theorem Trees.pick_some (F : Trees) : ∀ j, j < F.length → ∃ d, F.pick j = some d := by
  induction F with
  | nil => intro j h; simp [Trees.length] at h
  | cons k n t ar r _ ih =>
    intro j h
    cases j with
    | zero => exact ⟨_, rfl⟩
    | succ j => exact ih j (by simp only [Trees.length] at h; omega)
theorem Trees.pick_count {F : Trees} : ∀ {j : Nat} {d : NodeD}, F.pick j = some d → d.args.count ≤ F.count := by
  induction F with
  | nil => intro j d h; cases h
  | cons k n t ar r _ ih =>
    intro j d h
    simp only [Trees.count]
    cases j with
    | zero => cases h; show ar.count ≤ _; omega
    | succ j => have := ih h; omega
theorem Trees.pick_fits {F : Trees} (hf : F.fits) : ∀ {j : Nat} {d : NodeD}, F.pick j = some d → d.args.fits ∧ d.args.length ≤ maxLen := by
  induction F with
  | nil => intro j d h; cases h
  | cons k n t ar r _ ih =>
    intro j d h
    obtain ⟨_, _, _, h4, h5, h6⟩ := hf
    cases j with
    | zero => cases h; exact ⟨h5, h4⟩
    | succ j => exact ih h6 h
theorem Trees.pick_size {F : Trees} : ∀ {j : Nat} {d : NodeD}, F.pick j = some d → d.args.size ≤ F.size := by
  induction F with
  | nil => intro j d h; cases h
  | cons k n t ar r _ ih =>
    intro j d h
    simp only [Trees.size]
    cases j with
    | zero => cases h; show ar.size ≤ _; omega
    | succ j => have := ih h; omega
/-- The part at an occurrence. -/
def NodeD.at : NodeD → List Int → Option NodeD
  | d, [] => some d
  | d, z :: zs => if 0 ≤ z ∧ z < (d.args.length : Int) then (match d.args.pick z.toNat with | some e => e.at zs | none => none) else none
theorem at_end (d : NodeD) (zs : List Int) (k : Nat) (h : zs.length ≤ k) : d.at (zs.drop k) = some d := by
  rw [List.drop_of_length_le h]
  rfl
theorem at_step (d e : NodeD) (zs : List Int) (k : Nat) (h : k < zs.length) (h1 : 0 ≤ zs[k]) (h2 : zs[k] < (d.args.length : Int)) (he : d.args.pick (zs[k]).toNat = some e) : d.at (zs.drop k) = e.at (zs.drop (k + 1)) := by
  rw [List.drop_eq_getElem_cons h]
  simp [NodeD.at, h1, h2, he]
theorem at_none (d : NodeD) (zs : List Int) (k : Nat) (h : k < zs.length) (h1 : ¬ (0 ≤ zs[k] ∧ zs[k] < (d.args.length : Int))) : d.at (zs.drop k) = none := by
  rw [List.drop_eq_getElem_cons h]
  exact if_neg h1
/-- What is read of the j-th node. -/
theorem TreesAt.pick {w : World} {d : NodeD} : ∀ {F : Trees} {a : Option Addr} {i j : Nat}, TreesAt w F a i → F.pick j = some d → ∃ y p cap, a = some y ∧ w.cell? (y.add ((i + j) * 4)) = some (.int .i64 d.k) ∧ w.cell? (fieldAt y (i + j) 1) = some (.int .i64 d.n) ∧ w.cell? (fieldAt y (i + j) 2) = some (.string d.t) ∧ w.cell? (fieldAt y (i + j) 3) = some (.slice p d.args.length cap) ∧ d.args.length ≤ cap ∧ TreesAt w d.args p 0 := by
  intro F
  induction F with
  | nil => intro a i j _ h; cases h
  | cons k n t ar r _ ih =>
    intro a i j hx h
    obtain ⟨⟨y, p, cap, h1, h2, h3, h4, h5, hl, h6⟩, h7⟩ := hx
    cases j with
    | zero => cases h; exact ⟨y, p, cap, h1, h2, h3, h4, h5, hl, h6⟩
    | succ j =>
      have := ih (i := i + 1) (j := j) h7 h
      rw [show i + 1 + j = i + (j + 1) by omega] at this
      exact this
theorem TreesAt.pick0 {w : World} {d : NodeD} {F : Trees} {a : Option Addr} {j : Nat} (hx : TreesAt w F a 0) (h : F.pick j = some d) : ∃ y p cap, a = some y ∧ w.cell? (y.add (j * 4)) = some (.int .i64 d.k) ∧ w.cell? (fieldAt y j 1) = some (.int .i64 d.n) ∧ w.cell? (fieldAt y j 2) = some (.string d.t) ∧ w.cell? (fieldAt y j 3) = some (.slice p d.args.length cap) ∧ d.args.length ≤ cap ∧ TreesAt w d.args p 0 := by
  have := hx.pick h
  rwa [Nat.zero_add] at this
end Go.Proofs.YtcalgjggmgnofaaDoor
