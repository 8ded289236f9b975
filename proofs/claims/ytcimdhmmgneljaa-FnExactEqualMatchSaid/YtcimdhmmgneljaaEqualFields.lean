/- What is proved here: when two rows of nodes are the same; the program's haveEqualFields and slices.EqualFunc over it. Condition: the rows lie in memory as said. -/
import Derived.Test.YtcimdhmmgneljaaTrees
import Derived.Test.YtcimdhmmgneljaaTreeCells
namespace Go.Proofs.Ytcimdhmmgneljaa
open Go.RowKit

/-- Two nodes agree but for what is below them. -/
def headEq (k n : Int) (t : ByteArray) (a : Nat) (k2 n2 : Int) (t2 : ByteArray) (a2 : Nat) : Bool := (k == k2) && ((n == n2) && ((t.toList == t2.toList) && ((a : Int) == (a2 : Int))))
/-- Two rows agree node by node, but for what is below. -/
def Trees.flat : Trees → Trees → Bool
  | .nil, .nil => true
  | .cons k n t a r, .cons k2 n2 t2 a2 r2 => headEq k n t a.length k2 n2 t2 a2.length && r.flat r2
  | _, _ => false
def Trees.same : Trees → Trees → Bool
  | .nil, .nil => true
  | .cons k n t a r, .cons k2 n2 t2 a2 r2 => headEq k n t a.length k2 n2 t2 a2.length && a.same a2 && r.same r2
  | _, _ => false
/-- What is below, pair by pair. -/
def Trees.pairs : Trees → Trees → List (Trees × Trees)
  | .cons _ _ _ a r, .cons _ _ _ a2 r2 => (a, a2) :: r.pairs r2
  | _, _ => []
theorem Trees.same_flat (F : Trees) : ∀ G : Trees, F.same G = (F.flat G && (F.pairs G).all fun p => p.1.same p.2) := by
  induction F with
  | nil => intro G; cases G <;> rfl
  | cons k n t a r _ ih =>
    intro G
    cases G with
    | nil => rfl
    | cons k2 n2 t2 a2 r2 =>
      simp only [Trees.same, Trees.flat, Trees.pairs, List.all_cons, ih r2]
      cases headEq k n t a.length k2 n2 t2 a2.length <;> cases a.same a2 <;> cases r.flat r2 <;> simp
theorem Trees.flat_length (F : Trees) : ∀ G : Trees, F.flat G = true → F.length = G.length := by
  induction F with
  | nil => intro G h; cases G with | nil => rfl | cons _ _ _ _ _ => cases h
  | cons k n t a r _ ih =>
    intro G h
    cases G with
    | nil => cases h
    | cons k2 n2 t2 a2 r2 =>
      simp only [Trees.flat, Bool.and_eq_true] at h
      simp only [Trees.length, ih r2 h.2]
theorem Trees.same_length (F G : Trees) (h : F.same G = true) : F.length = G.length := by
  rw [Trees.same_flat] at h
  simp only [Bool.and_eq_true] at h
  exact Trees.flat_length F G h.1
theorem headEq_iff (k n : Int) (t : ByteArray) (a : Nat) (k2 n2 : Int) (t2 : ByteArray) (a2 : Nat) : headEq k n t a k2 n2 t2 a2 = true ↔ k = k2 ∧ n = n2 ∧ t = t2 ∧ a = a2 := by
  unfold headEq
  simp only [Bool.and_eq_true, beq_iff_eq]
  constructor
  · rintro ⟨h1, h2, h3, h4⟩
    exact ⟨h1, h2, by cases t; cases t2; simpa [ByteArray.toList_eq] using h3, by omega⟩
  · rintro ⟨rfl, rfl, rfl, rfl⟩
    exact ⟨rfl, rfl, rfl, rfl⟩
theorem Trees.same_iff (F : Trees) : ∀ G : Trees, F.same G = true ↔ F = G := by
  induction F with
  | nil => intro G; cases G <;> simp [Trees.same]
  | cons k n t a r ih1 ih2 =>
    intro G
    cases G with
    | nil => simp [Trees.same]
    | cons k2 n2 t2 a2 r2 =>
      simp only [Trees.same, Bool.and_eq_true, ih1, ih2, headEq_iff]
      constructor
      · rintro ⟨⟨⟨rfl, rfl, rfl, _⟩, rfl⟩, rfl⟩; rfl
      · intro h; cases h; exact ⟨⟨⟨rfl, rfl, rfl, rfl⟩, rfl⟩, rfl⟩

/-! The same by another test of two nodes. -/
def Trees.flatBy (hd : Int → Int → ByteArray → Nat → Int → Int → ByteArray → Nat → Bool) : Trees → Trees → Bool
  | .nil, .nil => true
  | .cons k n t a r, .cons k2 n2 t2 a2 r2 => hd k n t a.length k2 n2 t2 a2.length && r.flatBy hd r2
  | _, _ => false
def Trees.sameBy (hd : Int → Int → ByteArray → Nat → Int → Int → ByteArray → Nat → Bool) : Trees → Trees → Bool
  | .nil, .nil => true
  | .cons k n t a r, .cons k2 n2 t2 a2 r2 => hd k n t a.length k2 n2 t2 a2.length && a.sameBy hd a2 && r.sameBy hd r2
  | _, _ => false
theorem Trees.sameBy_flat (hd : Int → Int → ByteArray → Nat → Int → Int → ByteArray → Nat → Bool) (F : Trees) : ∀ G : Trees, F.sameBy hd G = (F.flatBy hd G && (F.pairs G).all fun p => p.1.sameBy hd p.2) := by
  induction F with
  | nil => intro G; cases G <;> rfl
  | cons k n t a r _ ih =>
    intro G
    cases G with
    | nil => rfl
    | cons k2 n2 t2 a2 r2 =>
      simp only [Trees.sameBy, Trees.flatBy, Trees.pairs, List.all_cons, ih r2]
      cases hd k n t a.length k2 n2 t2 a2.length <;> cases a.sameBy hd a2 <;> cases r.flatBy hd r2 <;> simp
theorem Trees.flatBy_length (hd : Int → Int → ByteArray → Nat → Int → Int → ByteArray → Nat → Bool) (F : Trees) : ∀ G : Trees, F.flatBy hd G = true → F.length = G.length := by
  induction F with
  | nil => intro G h; cases G with | nil => rfl | cons _ _ _ _ _ => cases h
  | cons k n t a r _ ih =>
    intro G h
    cases G with
    | nil => cases h
    | cons k2 n2 t2 a2 r2 =>
      simp only [Trees.flatBy, Bool.and_eq_true] at h
      simp only [Trees.length, ih r2 h.2]
theorem Trees.sameBy_iff (hd : Int → Int → ByteArray → Nat → Int → Int → ByteArray → Nat → Bool) (h1 : ∀ k n t a k2 n2 t2 a2, hd k n t a k2 n2 t2 a2 = true → k = k2 ∧ n = n2 ∧ t = t2) (h2 : ∀ k n t a, hd k n t a k n t a = true) (F : Trees) : ∀ G : Trees, F.sameBy hd G = true ↔ F = G := by
  induction F with
  | nil => intro G; cases G <;> simp [Trees.sameBy]
  | cons k n t a r ih1 ih2 =>
    intro G
    cases G with
    | nil => simp [Trees.sameBy]
    | cons k2 n2 t2 a2 r2 =>
      simp only [Trees.sameBy, Bool.and_eq_true, ih1, ih2]
      constructor
      · rintro ⟨⟨h, rfl⟩, rfl⟩
        obtain ⟨rfl, rfl, rfl⟩ := h1 _ _ _ _ _ _ _ _ h
        rfl
      · intro h; cases h; exact ⟨⟨h2 _ _ _ _, rfl⟩, rfl⟩
/-- A node and its row are the same, by either test. -/
theorem sameBy_node (hd : Int → Int → ByteArray → Nat → Int → Int → ByteArray → Nat → Bool) (h1 : ∀ k n t a k2 n2 t2 a2, hd k n t a k2 n2 t2 a2 = true → k = k2 ∧ n = n2 ∧ t = t2) (h2 : ∀ k n t a, hd k n t a k n t a = true) (k n : Int) (t : ByteArray) (F : Trees) (k2 n2 : Int) (t2 : ByteArray) (G : Trees) :
    (hd k n t F.length k2 n2 t2 G.length && F.sameBy hd G) = (headEq k n t F.length k2 n2 t2 G.length && F.same G) := by
  rw [Bool.eq_iff_iff]
  simp only [Bool.and_eq_true, Trees.sameBy_iff hd h1 h2, Trees.same_iff, headEq_iff]
  constructor
  · rintro ⟨h, rfl⟩
    obtain ⟨rfl, rfl, rfl⟩ := h1 _ _ _ _ _ _ _ _ h
    exact ⟨⟨rfl, rfl, rfl, rfl⟩, rfl⟩
  · rintro ⟨⟨rfl, rfl, rfl, _⟩, rfl⟩
    exact ⟨h2 _ _ _ _, rfl⟩

theorem alloc2 (w : World) (o0 o1 : Obj) : Below w.heap.size w ((w.alloc o0).alloc o1) := ((Below.refl _ _).alloc (Nat.le_refl _) _).alloc (by simp) _

end Go.Proofs.Ytcimdhmmgneljaa
