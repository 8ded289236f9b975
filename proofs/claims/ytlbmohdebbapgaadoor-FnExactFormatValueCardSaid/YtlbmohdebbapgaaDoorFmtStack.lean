/- What is proved here: a stack of rows beside bytes in memory of the call's own: what an append to the bytes leaves alone. No condition. -/
import Derived.Test.YtlbmohdebbapgaaDoorBytes
import Derived.Test.YtlbmohdebbapgaaDoorTreesOn
namespace Go.Proofs.YtlbmohdebbapgaaDoor
open Go.RowKit

/-- Only blocks of bytes from B on have changed (and new ones have come). -/
structure OnlyBytes (B : Nat) (w w' : World) : Prop where
  os : w'.os = w.os
  tape : w'.tape = w.tape
  output : w'.output = w.output
  size : w.heap.size ≤ w'.heap.size
  block : ∀ b, b < w.heap.size → (b < B ∨ ∀ cs fz, w.heap[b]? ≠ some (.cells cs 5 fz)) → w'.heap[b]? = w.heap[b]?
theorem OnlyBytes.refl (B : Nat) (w : World) : OnlyBytes B w w := ⟨rfl, rfl, rfl, Nat.le_refl _, fun _ _ _ => rfl⟩
theorem OnlyBytes.trans {B : Nat} {a b c : World} (h : OnlyBytes B a b) (k : OnlyBytes B b c) : OnlyBytes B a c :=
  ⟨k.os.trans h.os, k.tape.trans h.tape, k.output.trans h.output, Nat.le_trans h.size k.size, fun x hx hc => by
    have e := h.block x hx hc
    rw [k.block x (Nat.lt_of_lt_of_le hx h.size) (by rw [e]; exact hc)]
    exact e⟩
theorem OnlyBytes.of_grown {B : Nat} {w w' : World} {v : Value} {l : List UInt8} (hv : Bytes B w v l) (hg : w.grownBy w' v.ownBlock) : OnlyBytes B w w' :=
  ⟨hg.os, hg.tape, hg.output, hg.size, fun b hb hc => hg.block b hb (fun e => by
    have h1 := (hv.lt b e.symm).1
    rcases hv.2 with ⟨rfl, _⟩ | ⟨g, c, cur, rfl, _, h2, _⟩
    · cases e
    · cases e
      rcases hc with h | h
      · omega
      · exact h _ _ h2)⟩
theorem OnlyBytes.of_below {B : Nat} {w w' : World} (h : Below w.heap.size w w') : OnlyBytes B w w' := ⟨h.os, h.tape, h.output, h.size, fun b hb _ => h.block b hb⟩
theorem OnlyBytes.below {B : Nat} {w w' : World} (h : OnlyBytes B w w') (hB : B ≤ w.heap.size) : Below B w w' := ⟨h.os, h.tape, h.output, h.size, fun b hb => h.block b (by omega) (.inl hb)⟩
theorem OnlyBytes.row {B B' : Nat} {w w' : World} {e : TypeId} {s : Nat} {v : Value} {n : Nat} {xs : List Value} (h : OnlyBytes B w w') (hv : w.ownsRow B' e s v n xs) (hne : e ≠ 5) : w'.ownsRow B' e s v n xs := by
  refine ⟨hv.1, ?_⟩
  have hlt := hv.lt
  rcases hv.2 with h' | ⟨g, cap, cur, rfl, hb, hh, h1, h2, h3, h4⟩
  · exact .inl h'
  · refine .inr ⟨g, cap, cur, rfl, hb, ?_, h1, h2, h3, h4⟩
    rw [h.block g (hlt g rfl).2 (.inr fun cs fz e => ?_)]
    · exact hh
    · rw [hh] at e
      cases e
      exact hne rfl
/-- The rows of a stack (the last first), as slices. -/
def StackT (w : World) : List Trees → List Value → Prop
  | [], vs => vs = []
  | F :: st, vs => ∃ p cap us, vs = .slice p F.length cap :: us ∧ F.length ≤ cap ∧ F.length ≤ 1048576 ∧ F.fits ∧ F.size ≤ 1048577 ∧ TreesOn (fun b => b < w.heap.size) w F p 0 ∧ StackT w st us
theorem StackT.length {w : World} : ∀ (st : List Trees) (vs : List Value), StackT w st vs → vs.length = st.length := by
  intro st
  induction st with
  | nil => rintro vs rfl; rfl
  | cons F st ih =>
    rintro vs ⟨p, cap, us, rfl, _, _, _, _, _, h⟩
    simp [ih _ h]
end Go.Proofs.YtlbmohdebbapgaaDoor
