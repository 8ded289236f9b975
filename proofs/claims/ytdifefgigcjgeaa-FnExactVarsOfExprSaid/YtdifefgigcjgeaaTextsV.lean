/- What is proved here: a slice of texts that came back, nil or in a block of the call's own: read, marked. Conditions: small numbers. -/
import Derived.Test.YtdifefgigcjgeaaVars
import Derived.Test.YtdifefgigcjgeaaHeldS
import Derived.Test.YtdifefgigcjgeaaOnly
namespace Go.Proofs.Ytdifefgigcjgeaa
open Go.RowKit

/-- v is a slice of the texts ys: nil, or in the block o. -/
def TextsV (w : World) (v : Value) (ys : List ByteArray) (o : Option Nat) : Prop :=
  (o = none ∧ v = .slice none 0 0 ∧ ys = []) ∨ ∃ g cap rest, o = some g ∧ v = .slice (some ⟨g, 0, none⟩) ys.length cap ∧ Block w g ys rest
theorem TextsV.keep {w w' : World} {v : Value} {ys : List ByteArray} {o : Option Nat} (h : TextsV w v ys o) (hk : ∀ g, o = some g → w'.heap[g]? = w.heap[g]?) : TextsV w' v ys o := by
  rcases h with h | ⟨g, cap, rest, h1, h2, h3⟩
  · exact .inl h
  · exact .inr ⟨g, cap, rest, h1, h2, (hk g h1).trans h3⟩
theorem TextsV.lt {w : World} {v : Value} {ys : List ByteArray} {o : Option Nat} (h : TextsV w v ys o) (g : Nat) (hg : o = some g) : g < w.heap.size := by
  rcases h with ⟨h, _⟩ | ⟨g', cap, rest, h1, h2, h3⟩
  · rw [h] at hg; cases hg
  · rw [h1] at hg; cases hg; exact h3.lt
theorem TextsV.below {w w' : World} {v : Value} {ys : List ByteArray} {o : Option Nat} (h : TextsV w v ys o) (hb : Below w.heap.size w w') : TextsV w' v ys o := h.keep (fun g hg => hb.block g (h.lt g hg))
theorem TextsV.reads {w : World} {v : Value} {ys : List ByteArray} {o : Option Nat} (h : TextsV w v ys o) : ∃ a cap, v = .slice a ys.length cap ∧ Reads w a ys := by
  rcases h with ⟨_, h1, h2⟩ | ⟨g', cap, rest, h1, h2, h3⟩
  · exact ⟨none, 0, by rw [h1, h2]; rfl, by rw [h2]; exact fun j hj => absurd hj (by simp)⟩
  · exact ⟨_, cap, h2, h3.reads⟩
theorem outT_texts {w w' : World} {ys : List ByteArray} {e : Ending} (h : OutT w ys e w') : (∃ v o, e = .returned v ∧ TextsV w' v ys o ∧ ∀ g, o = some g → w.heap.size ≤ g) ∧ Below w.heap.size w w' := by
  rcases h with ⟨g, cap, rest, h1, h2, h3, h4⟩ | ⟨h1, h2, h3⟩
  · exact ⟨⟨_, some g, h2, .inr ⟨g, cap, rest, rfl, rfl, h3⟩, fun g' hg => by cases hg; exact h1⟩, h4⟩
  · exact ⟨⟨_, none, h2, .inl ⟨rfl, rfl, h1⟩, fun g' hg => by cases hg⟩, h3⟩

set_option maxHeartbeats 1000000 in
set_option maxRecDepth 100000 in
theorem markV_any (w : World) (v : Value) (ys : List ByteArray) (o : Option Nat) (k : Nat) (h : TextsV w v ys o) (hm : ys.length ≤ 1048577) (hk : 1 ≤ k) (hk2 : k ≤ 4194304) :
    Calls Try.prog 22 #[v, .int .i64 (k : Int)] w fun e w' =>
      e = .returned (.int .i64 ((k + ys.length : Nat) : Int)) ∧ TextsV w' v (marks k ys.length) o ∧ w.grownBy w' o := by
  rcases h with ⟨rfl, rfl, rfl⟩ | ⟨g, cap, rest, rfl, rfl, h3⟩
  · show Calls Try.prog 22 #[.slice none 0 0, .int .i64 (k : Int)] w _
    go_enter Try.func22, Try.ntmps22
    go_wp2
    go_loopw [1, 5] (fun q i wr => q = .int .i64 k ∧ i = .int .i64 0 ∧ wr = w) (fun _ _ _ => 0)
    case atStart => exact ⟨rfl, rfl, rfl⟩
    case round =>
      obtain ⟨rfl, rfl, rfl⟩ := hrel
      go_wp2
      go_ret
      exact ⟨rfl, .inl ⟨rfl, rfl, rfl⟩, World.grownBy.refl _ _⟩
  · refine (markB_any w g cap k ys rest h3 hm hk hk2).mono ?_
    rintro e w' ⟨rfl, h1, h2⟩
    exact ⟨rfl, .inr ⟨g, cap, rest, rfl, by rw [marks_length], h1⟩, h2⟩
end Go.Proofs.Ytdifefgigcjgeaa
