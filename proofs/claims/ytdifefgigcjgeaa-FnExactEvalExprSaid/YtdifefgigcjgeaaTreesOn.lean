/- What is proved here: rows of nodes that lie in certain blocks; the order in which a walk over all nodes meets them, and its stack. No condition. -/
import Derived.Test.YtdifefgigcjgeaaTrees
namespace Go.Proofs.Ytdifefgigcjgeaa
open Go.RowKit

/-- The row reads as said, and lies in blocks of S. -/
def TreesOn (S : Nat → Prop) (w : World) : Trees → Option Addr → Nat → Prop
  | .nil, _, _ => True
  | .cons k n t ar r, a, i => (∃ y p cap, a = some y ∧ S y.block ∧ w.cell? (y.add (i * 4)) = some (.int .i64 k) ∧ w.cell? (fieldAt y i 1) = some (.int .i64 n) ∧ w.cell? (fieldAt y i 2) = some (.string t) ∧ w.cell? (fieldAt y i 3) = some (.slice p ar.length cap) ∧ ar.length ≤ cap ∧ TreesOn S w ar p 0) ∧ TreesOn S w r a (i + 1)
theorem TreesOn.at {S : Nat → Prop} {w : World} : ∀ (F : Trees) (a : Option Addr) (i : Nat), TreesOn S w F a i → TreesAt w F a i := by
  intro F
  induction F with
  | nil => intro _ _ _; trivial
  | cons k n t ar r ih1 ih2 =>
    rintro a i ⟨⟨y, p, cap, h1, _, h2, h3, h4, h5, hl, h6⟩, h7⟩
    exact ⟨⟨y, p, cap, h1, h2, h3, h4, h5, hl, ih1 _ _ h6⟩, ih2 _ _ h7⟩
theorem TreesOn.of {w : World} : ∀ (F : Trees) (a : Option Addr) (i : Nat), TreesAt w F a i → TreesOn (fun b => b < w.heap.size) w F a i := by
  intro F
  induction F with
  | nil => intro _ _ _; trivial
  | cons k n t ar r ih1 ih2 =>
    rintro a i ⟨⟨y, p, cap, h1, h2, h3, h4, h5, hl, h6⟩, h7⟩
    have hlt := World.block_lt_of_cell? w _ h2
    rw [addr_block] at hlt
    exact ⟨⟨y, p, cap, h1, hlt, h2, h3, h4, h5, hl, ih1 _ _ h6⟩, ih2 _ _ h7⟩
theorem TreesOn.keep {S : Nat → Prop} {w w' : World} (hk : ∀ b, S b → w'.heap[b]? = w.heap[b]?) : ∀ (F : Trees) (a : Option Addr) (i : Nat), TreesOn S w F a i → TreesOn S w' F a i := by
  intro F
  induction F with
  | nil => intro _ _ _; trivial
  | cons k n t ar r ih1 ih2 =>
    rintro a i ⟨⟨y, p, cap, h1, hs, h2, h3, h4, h5, hl, h6⟩, h7⟩
    have e : ∀ q : Addr, q.block = y.block → w'.cell? q = w.cell? q := fun q hq => World.cell?_of_block (by rw [hq]; exact hk _ hs)
    refine ⟨⟨y, p, cap, h1, hs, ?_, ?_, ?_, ?_, hl, ih1 _ _ h6⟩, ih2 _ _ h7⟩
    · rw [e _ (addr_block _ _)]; exact h2
    · exact (e (fieldAt y i _) (addr_block y _)).trans h3
    · exact (e (fieldAt y i _) (addr_block y _)).trans h4
    · exact (e (fieldAt y i _) (addr_block y _)).trans h5
theorem TreesOn.wider {S S' : Nat → Prop} {w : World} (hs : ∀ b, S b → S' b) : ∀ (F : Trees) (a : Option Addr) (i : Nat), TreesOn S w F a i → TreesOn S' w F a i := by
  intro F
  induction F with
  | nil => intro _ _ _; trivial
  | cons k n t ar r ih1 ih2 =>
    rintro a i ⟨⟨y, p, cap, h1, h0, h2, h3, h4, h5, hl, h6⟩, h7⟩
    exact ⟨⟨y, p, cap, h1, hs _ h0, h2, h3, h4, h5, hl, ih1 _ _ h6⟩, ih2 _ _ h7⟩
theorem TreesOn.shift {S : Nat → Prop} {w : World} (y : Addr) (c : Nat) : ∀ (F : Trees) (i : Nat), TreesOn S w F (some y) (i + c) → 0 < c → TreesOn S w F (some (y.add (c * 4))) i := by
  intro F
  induction F with
  | nil => intro _ _ _; trivial
  | cons k n t ar r _ ih2 =>
    rintro i ⟨⟨z, p, cap, h1, h0, h2, h3, h4, h5, hl, h6⟩, h7⟩ hc
    cases h1
    have e2 : (y.add (c * 4)).add (i * 4) = y.add ((i + c) * 4) := by
      unfold Addr.add
      rw [if_neg (show ¬ c * 4 = 0 by omega), if_neg (show ¬ (i + c) * 4 = 0 by omega)]
      by_cases hi : i * 4 = 0
      · rw [if_pos hi]
        simp only [Addr.mk.injEq, true_and, and_true]
        omega
      · rw [if_neg hi]
        simp only [Addr.mk.injEq, true_and, and_true]
        omega
    refine ⟨⟨_, p, cap, rfl, by rw [addr_block]; exact h0, ?_, ?_, ?_, ?_, hl, h6⟩, ?_⟩
    · rw [e2]; exact h2
    · unfold fieldAt; rw [e2]; exact h3
    · unfold fieldAt; rw [e2]; exact h4
    · unfold fieldAt; rw [e2]; exact h5
    · exact ih2 (i + 1) (by rw [show i + 1 + c = i + c + 1 by omega]; exact h7) hc

/-- What is told of a node: its depth, its fields, how many are below. -/
abbrev Part := Nat × Int × Int × ByteArray × Nat
/-- A node as a walk over all nodes yields it. -/
structure PartX where
  d : Nat
  k : Int
  n : Int
  t : ByteArray
  p : Option Addr
  l : Nat
  c : Nat
def PartX.val (x : PartX) : Value := .agg #[.int .i64 x.k, .int .i64 x.n, .string x.t, .slice x.p x.l x.c]
def PartX.key (x : PartX) : Part := (x.d, x.k, x.n, x.t, x.l)
/-! The nodes, each before those below it. -/
def Trees.pre : Trees → Nat → List Part
  | .nil, _ => []
  | .cons k n t ar r, d => (d, k, n, t, ar.length) :: (ar.pre (d + 1) ++ r.pre d)
theorem Trees.pre_length (F : Trees) : ∀ d, (F.pre d).length = F.count := by
  induction F with
  | nil => intro d; rfl
  | cons k n t ar r ih1 ih2 => intro d; simp [Trees.pre, Trees.count, ih1, ih2]; omega
/-- What a stack of rows (the last first) has still to give. -/
def rem : List Trees → List Part
  | [] => []
  | F :: st => F.pre (st.length + 1) ++ rem st
def work : List Trees → Nat
  | [] => 0
  | F :: st => 2 * F.count + 1 + work st
theorem length_le_work (st : List Trees) : st.length ≤ work st := by
  induction st with
  | nil => exact Nat.le_refl _
  | cons F st ih => simp [work]; omega
theorem rem_node (k n : Int) (t : ByteArray) (ar r : Trees) (st : List Trees) : rem (.cons k n t ar r :: st) = (st.length + 1, k, n, t, ar.length) :: rem (ar :: r :: st) := by
  simp [rem, Trees.pre]
theorem work_node (k n : Int) (t : ByteArray) (ar r : Trees) (st : List Trees) : work (ar :: r :: st) + 1 = work (.cons k n t ar r :: st) := by
  simp [work, Trees.count]; omega
/-- The rows of a stack, as slices. -/
def StackOn (S : Nat → Prop) (w : World) : List Trees → List Value → Prop
  | [], vs => vs = []
  | F :: st, vs => ∃ p cap us, vs = .slice p F.length cap :: us ∧ F.length ≤ cap ∧ TreesOn S w F p 0 ∧ StackOn S w st us
theorem StackOn.keep {S : Nat → Prop} {w w' : World} (hk : ∀ b, S b → w'.heap[b]? = w.heap[b]?) : ∀ (st : List Trees) (vs : List Value), StackOn S w st vs → StackOn S w' st vs := by
  intro st
  induction st with
  | nil => intro vs h; exact h
  | cons F st ih =>
    rintro vs ⟨p, cap, us, h1, hl, h2, h3⟩
    exact ⟨p, cap, us, h1, hl, TreesOn.keep hk _ _ _ h2, ih _ h3⟩
theorem StackOn.length {S : Nat → Prop} {w : World} : ∀ (st : List Trees) (vs : List Value), StackOn S w st vs → vs.length = st.length := by
  intro st
  induction st with
  | nil => rintro vs rfl; rfl
  | cons F st ih =>
    rintro vs ⟨p, cap, us, rfl, _, _, h3⟩
    simp [ih _ h3]
end Go.Proofs.Ytdifefgigcjgeaa
