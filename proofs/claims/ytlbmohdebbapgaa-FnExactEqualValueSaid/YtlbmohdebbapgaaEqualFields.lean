/- What is proved here: when two rows of nodes are the same; the program's haveEqualFields and slices.EqualFunc over it. Condition: the rows lie in memory as said. -/
import Derived.Test.YtlbmohdebbapgaaTrees
import Derived.Test.YtlbmohdebbapgaaTreeCells
namespace Go.Proofs.Ytlbmohdebbapgaa
open Go.RowKit

/-- Two nodes agree but for what is below them. -/
def headEq (k n : Int) (t : ByteArray) (a : Nat) (k2 n2 : Int) (t2 : ByteArray) (a2 : Nat) : Bool := (k == k2) && ((n == n2) && ((t.toList == t2.toList) && ((a : Int) == (a2 : Int))))
/-- Two rows agree node by node, but for what is below. -/
def Trees.flat : Trees → Trees → Bool
  | .nil, .nil => true
  | .cons k n t a r, .cons k2 n2 t2 a2 r2 => headEq k n t a.length k2 n2 t2 a2.length && r.flat r2
  | _, _ => false
def Trees.same : Trees → Trees → Bool
  | .nil, .nil => true
  | .cons k n t a r, .cons k2 n2 t2 a2 r2 => headEq k n t a.length k2 n2 t2 a2.length && a.same a2 && r.same r2
  | _, _ => false
/-- What is below, pair by pair. -/
def Trees.pairs : Trees → Trees → List (Trees × Trees)
  | .cons _ _ _ a r, .cons _ _ _ a2 r2 => (a, a2) :: r.pairs r2
  | _, _ => []
theorem Trees.same_flat (F : Trees) : ∀ G : Trees, F.same G = (F.flat G && (F.pairs G).all fun p => p.1.same p.2) := by
  induction F with
  | nil => intro G; cases G <;> rfl
  | cons k n t a r _ ih =>
    intro G
    cases G with
    | nil => rfl
    | cons k2 n2 t2 a2 r2 =>
      simp only [Trees.same, Trees.flat, Trees.pairs, List.all_cons, ih r2]
      cases headEq k n t a.length k2 n2 t2 a2.length <;> cases a.same a2 <;> cases r.flat r2 <;> simp
theorem Trees.flat_length (F : Trees) : ∀ G : Trees, F.flat G = true → F.length = G.length := by
  induction F with
  | nil => intro G h; cases G with | nil => rfl | cons _ _ _ _ _ => cases h
  | cons k n t a r _ ih =>
    intro G h
    cases G with
    | nil => cases h
    | cons k2 n2 t2 a2 r2 =>
      simp only [Trees.flat, Bool.and_eq_true] at h
      simp only [Trees.length, ih r2 h.2]
theorem Trees.same_length (F G : Trees) (h : F.same G = true) : F.length = G.length := by
  rw [Trees.same_flat] at h
  simp only [Bool.and_eq_true] at h
  exact Trees.flat_length F G h.1
theorem headEq_iff (k n : Int) (t : ByteArray) (a : Nat) (k2 n2 : Int) (t2 : ByteArray) (a2 : Nat) : headEq k n t a k2 n2 t2 a2 = true ↔ k = k2 ∧ n = n2 ∧ t = t2 ∧ a = a2 := by
  unfold headEq
  simp only [Bool.and_eq_true, beq_iff_eq]
  constructor
  · rintro ⟨h1, h2, h3, h4⟩
    exact ⟨h1, h2, by cases t; cases t2; simpa [ByteArray.toList_eq] using h3, by omega⟩
  · rintro ⟨rfl, rfl, rfl, rfl⟩
    exact ⟨rfl, rfl, rfl, rfl⟩
theorem Trees.same_iff (F : Trees) : ∀ G : Trees, F.same G = true ↔ F = G := by
  induction F with
  | nil => intro G; cases G <;> simp [Trees.same]
  | cons k n t a r ih1 ih2 =>
    intro G
    cases G with
    | nil => simp [Trees.same]
    | cons k2 n2 t2 a2 r2 =>
      simp only [Trees.same, Bool.and_eq_true, ih1, ih2, headEq_iff]
      constructor
      · rintro ⟨⟨⟨rfl, rfl, rfl, _⟩, rfl⟩, rfl⟩; rfl
      · intro h; cases h; exact ⟨⟨⟨rfl, rfl, rfl, rfl⟩, rfl⟩, rfl⟩

theorem alloc2 (w : World) (o0 o1 : Obj) : Below w.heap.size w ((w.alloc o0).alloc o1) := ((Below.refl _ _).alloc (Nat.le_refl _) _).alloc (by simp) _

set_option maxHeartbeats 1000000 in
set_option maxRecDepth 100000 in
theorem impl_fields (w : World) (k n : Int) (t : ByteArray) (p : Option Addr) (a c : Nat) (k2 n2 : Int) (t2 : ByteArray) (p2 : Option Addr) (a2 c2 : Nat) :
    Calls Try.prog 24 #[.agg #[.int .i64 k, .int .i64 n, .string t, .slice p a c], .agg #[.int .i64 k2, .int .i64 n2, .string t2, .slice p2 a2 c2]] w fun e w' => e = .returned (.bool (headEq k n t a k2 n2 t2 a2)) ∧ Below w.heap.size w w' := by
  have HB := Lib.hid (alloc2 w (.cells #[.int .i64 k, .int .i64 n, .string t, .slice p a c] 29) (.cells #[.int .i64 k2, .int .i64 n2, .string t2, .slice p2 a2 c2] 29))
  have HE : Hid (headEq k n t a k2 n2 t2 a2 = ((k == k2) && ((n == n2) && ((t.toList == t2.toList) && ((a : Int) == (a2 : Int)))))) := rfl
  generalize headEq k n t a k2 n2 t2 a2 = z at *
  generalize h1 : (k == k2) = b1 at *
  generalize h2 : (n == n2) = b2 at *
  generalize h3 : (t.toList == t2.toList) = b3 at *
  generalize h4 : ((a : Int) == (a2 : Int)) = b4 at *
  cases b1 with
  | false =>
    have HZ : Hid (z = false) := by unfold Hid; rw [HE.out]; rfl
    go_enter Try.func24, Try.ntmps24
    go_wp2
    go_ret
    exact ⟨by rw [HZ.out]; rfl, HB.out⟩
  | true =>
    cases b2 with
    | false =>
      have HZ : Hid (z = false) := by unfold Hid; rw [HE.out]; rfl
      go_enter Try.func24, Try.ntmps24
      go_wp2
      go_ret
      exact ⟨by rw [HZ.out]; rfl, HB.out⟩
    | true =>
      cases b3 with
      | false =>
        have HZ : Hid (z = false) := by unfold Hid; rw [HE.out]; rfl
        go_enter Try.func24, Try.ntmps24
        go_wp2
        go_ret
        exact ⟨by rw [HZ.out]; rfl, HB.out⟩
      | true =>
        have HZ : Hid (z = b4) := by unfold Hid; rw [HE.out]; rfl
        go_enter Try.func24, Try.ntmps24
        go_wp2
        go_ret
        exact ⟨by rw [HZ.out]; rfl, HB.out⟩
end Go.Proofs.Ytlbmohdebbapgaa
