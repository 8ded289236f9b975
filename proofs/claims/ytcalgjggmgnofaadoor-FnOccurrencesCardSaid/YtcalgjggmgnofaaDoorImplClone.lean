/- What is proved here: slices.Clone of a row of nodes: the nodes in a block of the call's own, what is below them where it lay. Condition: the row lies in memory as said. -/
import Derived.Test.YtcalgjggmgnofaaDoorCopyRow
import Derived.Deep.AppendLies
import Derived.Laws.OwnMore
import Derived.Lib.SliceRun
namespace Go.Proofs.YtcalgjggmgnofaaDoor
open Go.RowKit

/-- A new slice of the nodes comes back. -/
def Cloned (w0 w : World) (F : Trees) (e : Ending) (w' : World) : Prop :=
  (∃ a cap, e = .returned (.slice a F.length cap) ∧ Pend w0 w' (.slice a F.length cap, F) ∧ ∀ b ∈ EntV.blocks (.slice a F.length cap, F), w.heap.size ≤ b ∧ NodeBlock w' b) ∧ Below w.heap.size w w'

set_option maxHeartbeats 2000000 in
set_option maxRecDepth 100000 in
theorem impl_clone (w0 w : World) (F : Trees) (p : Option Addr) (c : Nat) (hb : Below w0.heap.size w0 w) (hx : TreesAt w0 F p 0) (hl : F.length ≤ 1048576) :
    Calls Tryd.prog 61 #[.slice p F.length c] w (Cloned w0 w F) := by
  have hi : (Tryd.prog.info? 26).map (fun i => (i.zero, i.size, i.bytes)) = some (some (.agg #[.int .i64 0, .int .i64 0, .string ⟨#[]⟩, .slice none 0 0]), 4, 56) := by kernel_rfl
  obtain ⟨i0, hi, hz0, hz1, hz2⟩ := info_parts hi
  have hB1 := (Below.refl w.heap.size w).alloc (Nat.le_refl _) (.cells #[] 26)
  have how := World.ownsRow_lit (base := w.heap.size) (e := 26) (size := 4) w #[] 0 (Nat.le_refl _) (by unfold maxLen; omega) rfl
  have HB1 := Lib.hid hB1
  have HOW := Lib.hid how
  cases F with
  | nil =>
    clear hx hl hb hB1 how
    cases p with
    | none =>
      have he := fun w => Lib.run_eql_slice_nil (P := Tryd.prog) w 24 26 none 0 c 0 0 Tryd.underlying24
      change Calls _ _ #[.slice none 0 c] _ _
      go_enter Tryd.func61, Tryd.ntmps61
      go_wp2
      go_ret
      exact ⟨⟨none, 0, rfl, ⟨none, 0, rfl, Nat.le_refl _, .inl rfl⟩, by simp [EntV.blocks]⟩, Below.refl _ _⟩
    | some y =>
      have he := fun w => Lib.run_eql_slice_nil (P := Tryd.prog) w 24 26 (some y) 0 c 0 0 Tryd.underlying24
      change Calls _ _ #[.slice (some y) 0 c] _ _
      go_enter Tryd.func61, Tryd.ntmps61
      go_wp2_with (at_builtin; refine wpList_append_own _ rfl _ _ 24 rfl w.heap.size 26 i0 (.agg #[.int .i64 0, .int .i64 0, .string ⟨#[]⟩, .slice none 0 0]) 4 56 Tryd.underlying24 hi hz0 hz1 hz2 rfl (by decide) _ _ _ rfl HOW.out y 0 c [] rfl rfl ?d1 ?d2 ?d3 ?d4 ?d5 ?_)
      intro v1 w1 hown hgrow _
      have HB2 : Hid (Below w.heap.size w w1) := HB1.out.grown hgrow HB1.out.size (fun b e => by cases e; exact Nat.le_refl _)
      obtain ⟨a, cap, rfl⟩ : ∃ a cap, v1 = .slice a 0 cap := by
        rcases hown.2 with ⟨h1, _⟩ | ⟨g, cap, cur, h1, _⟩
        · exact ⟨none, 0, h1⟩
        · exact ⟨_, cap, h1⟩
      clear hown hgrow
      go_wp2
      go_ret
      exact ⟨⟨a, cap, rfl, ⟨a, cap, rfl, Nat.zero_le _, .inl rfl⟩, by simp [EntV.blocks]⟩, HB2.out⟩
  | cons k n t ar r =>
    obtain ⟨⟨y, _, _, rfl, _⟩, _⟩ := id hx
    obtain ⟨xs, hs, hcl⟩ := src_of _ 0 hx
    have hxl := SrcV.length _ _ hs
    have hone := SrcV.one _ _ hs
    generalize hF : (Trees.cons k n t ar r) = F at *
    have hpos : 0 < F.length := by rw [← hF]; simp [Trees.length]
    have HS := Lib.hid hs
    have HN1 : Hid (∀ j u, xs[j]? = some u → (w.alloc (.cells #[] 26)).cell? (y.add j) = some u) := fun j u hj => by
      have hjl : j < xs.length := by
        rcases Nat.lt_or_ge j xs.length with h | h
        · exact h
        · rw [List.getElem?_eq_none h] at hj; cases hj
      have := hcl j hjl
      rw [Nat.zero_mul, Nat.zero_add, hj] at this
      have h2 : w.cell? (y.add j) = some u := by
        rw [← this]
        have hlt : (y.add j).block < w0.heap.size := by
          rcases Nat.lt_or_ge (y.add j).block w0.heap.size with h | h
          · exact h
          · simp [World.cell?, Array.getElem?_eq_none h] at this
        exact World.cell?_of_block (hb.block _ hlt)
      rw [← h2]
      have hlt : (y.add j).block < w.heap.size := by
        rcases Nat.lt_or_ge (y.add j).block w.heap.size with h | h
        · exact h
        · simp [World.cell?, Array.getElem?_eq_none h] at h2
      exact World.cell?_of_block (Below.heap_alloc _ _ _ hlt)
    have HONE := Lib.hid hone
    have HXL := Lib.hid hxl
    have HFN : Hid (F ≠ .nil) := by unfold Hid; rw [← hF]; simp
    have he := fun w => Lib.run_eql_slice_nil (P := Tryd.prog) w 24 26 (some y) F.length c 0 0 Tryd.underlying24
    clear hx hs hcl hone hxl hF hb hB1 how
    go_enter Tryd.func61, Tryd.ntmps61
    go_wp2_with (at_builtin; refine wpList_append_lies _ rfl _ _ 24 rfl w.heap.size 26 i0 (.agg #[.int .i64 0, .int .i64 0, .string ⟨#[]⟩, .slice none 0 0]) 4 56 Tryd.underlying24 hi hz0 hz1 hz2 rfl (by decide) _ _ _ rfl HOW.out y F.length c xs rfl HXL.out HN1.out HONE.out hpos ?e1 ?e2 ?e3 _ rfl ?_)
    case e1 => unfold maxLen; omega
    case e2 => omega
    intro g cap w1 hown hgrow hat hlt
    have HB2 : Hid (Below w.heap.size w w1) := HB1.out.grown hgrow HB1.out.size (fun b e => by cases e; exact Nat.le_refl _)
    have HOWN := Lib.hid hown
    have hcap : F.length ≤ cap := by
      rcases hown.2 with ⟨h1, _⟩ | ⟨g2, c2, cur, h1, _, _, h2, _⟩
      · cases h1
      · injection h1 with _ _ h3; omega
    have hgg : w.heap.size ≤ g ∧ NodeBlock w1 g := by
      rcases hown.2 with ⟨h1, _⟩ | ⟨g2, c2, cur, h1, h2, h3, _⟩
      · cases h1
      · injection h1 with h4
        injection h4 with h4
        injection h4 with h4
        subst h4
        exact ⟨h2, _, h3⟩
    have HSH : Hid (Shallow w0 w1 F g 0) := Shallow.of F xs 0 HS.out (fun o ho => by
      rw [Nat.zero_mul, Nat.zero_add]
      exact hown.cellAt o (by have := hown.1; omega))
    have HGG := Lib.hid hgg
    have HCAP := Lib.hid hcap
    clear hown hgrow hat hcap hgg
    go_wp2
    go_ret
    refine ⟨⟨some ⟨g, 0, none⟩, cap, rfl, ⟨_, cap, rfl, HCAP.out, .inr ⟨g, rfl, HSH.out⟩⟩, fun b hb => ?_⟩, HB2.out⟩
    have e : b = g := by
      cases F with
      | nil => simp [EntV.blocks] at hb
      | cons _ _ _ _ _ => simpa [EntV.blocks, Value.ownBlock] using hb
    subst e
    exact HGG.out
end Go.Proofs.YtcalgjggmgnofaaDoor
