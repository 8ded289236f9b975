/- What is proved here: pure: when two clauses, two matches are the same. No condition. -/
import Derived.Test.YtcimdhmmgneljaaClauses
import Derived.Test.YtcimdhmmgneljaaEqualFields
namespace Go.Proofs.Ytcimdhmmgneljaa
open Go.RowKit

def ClauseD.samePat (x y : ClauseD) : Bool := headEq x.pk x.pn x.pt x.pF.length y.pk y.pn y.pt y.pF.length && x.pF.same y.pF
def ClauseD.sameExpr (x y : ClauseD) : Bool := headEq x.ek x.en x.et x.eF.length y.ek y.en y.et y.eF.length && x.eF.same y.eF
def ClauseD.same (x y : ClauseD) : Bool := (x.gd == y.gd) && (x.samePat y && x.sameExpr y)
def sameClauses : List ClauseD → List ClauseD → Bool
  | [], [] => true
  | x :: r, y :: s => x.same y && sameClauses r s
  | _, _ => false
theorem sameClauses_length : ∀ l m : List ClauseD, sameClauses l m = true → l.length = m.length
  | [], [], _ => rfl
  | [], _ :: _, h => by simp [sameClauses] at h
  | _ :: _, [], h => by simp [sameClauses] at h
  | x :: r, y :: s, h => by
    simp only [sameClauses, Bool.and_eq_true] at h
    simp [sameClauses_length r s h.2]
def sameMatch (t : ByteArray) (l : List ClauseD) (t2 : ByteArray) (m : List ClauseD) : Bool := (t.toList == t2.toList) && sameClauses l m
theorem same_refl (x : ClauseD) : x.same x = true := by
  have h1 : ∀ (k n : Int) (t : ByteArray) (F : Trees), (headEq k n t F.length k n t F.length && F.same F) = true := fun k n t F => by
    rw [Bool.and_eq_true, Trees.same_iff, headEq_iff]
    exact ⟨⟨rfl, rfl, rfl, rfl⟩, rfl⟩
  unfold ClauseD.same ClauseD.samePat ClauseD.sameExpr
  rw [h1, h1]
  cases x.gd <;> rfl
theorem sameClauses_refl (l : List ClauseD) : sameClauses l l = true := by
  induction l with
  | nil => rfl
  | cons x r ih => simp [sameClauses, same_refl, ih]
/-- What the walks ask of a clause. -/
def ClauseD.small (x : ClauseD) : Prop := x.pF.size ≤ 1048576 ∧ x.eF.size ≤ 1048576
end Go.Proofs.Ytcimdhmmgneljaa
