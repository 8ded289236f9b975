/- What is proved here: a copy with a stack in the midst of a row: the first nodes have got rows of their own. No condition. -/
import Derived.Test.YtcalgjggmgnofaaDoorCopyRow
import Derived.Test.YtcalgjggmgnofaaDoorTreeMark
namespace Go.Proofs.YtcalgjggmgnofaaDoor
open Go.RowKit

structure Midway (w0 : World) (V : Value) (F0 : Trees) (g cap : Nat) (F : Trees) (D : List Nat) (st : List EntV) (wr : World) (pre r : Trees) (cs : List EntV) : Prop where
  old : ∃ wo, Owing w0 V F0 wo D ((.slice (some ⟨g, 0, none⟩) F.length cap, F) :: st) ∧ ∀ b ∈ D ++ stBlocks st, wr.heap[b]? = wo.heap[b]?
  ne : F ≠ .nil
  room : F.length ≤ cap
  whole : pre.append r = F
  block : NodeBlock wr g
  left : Shallow w0 wr r g pre.length
  half : HalfRow wr g pre cs 0
  pend : ∀ e ∈ cs, Pend w0 wr e
  nodup : (D ++ (g :: (stBlocks cs ++ stBlocks st))).Nodup
  near : ∀ b ∈ D ++ (g :: (stBlocks cs ++ stBlocks st)), w0.heap.size ≤ b ∧ NodeBlock wr b

theorem Midway.start {w0 : World} {V : Value} {F0 : Trees} {g cap : Nat} {F : Trees} {D : List Nat} {st : List EntV} {wr : World} (h : Owing w0 V F0 wr D ((.slice (some ⟨g, 0, none⟩) F.length cap, F) :: st)) (hF : F ≠ .nil) : Midway w0 V F0 g cap F D st wr .nil F [] := by
  have hB : EntV.blocks (.slice (some ⟨g, 0, none⟩) F.length cap, F) = [g] := by
    cases F with
    | nil => exact absurd rfl hF
    | cons _ _ _ _ _ => simp [EntV.blocks, Value.ownBlock]
  have hS : stBlocks ((.slice (some ⟨g, 0, none⟩) F.length cap, F) :: st) = g :: stBlocks st := by
    simp only [stBlocks, List.flatMap_cons, hB]
    rfl
  have hn := h.nodup
  have hb := h.near
  rw [hS] at hn hb
  obtain ⟨a, cap2, e1, e2, e3⟩ := h.pend _ (List.mem_cons_self ..)
  simp only at e1 e2 e3
  injection e1 with e4 _ e5
  subst e5
  rcases e3 with e3 | ⟨g2, e3, e6⟩
  · exact absurd e3 hF
  · rw [e3] at e4
    injection e4 with e4
    injection e4 with e4
    subst e4
    exact ⟨⟨wr, h, fun _ _ => rfl⟩, hF, e2, rfl, (hb g (List.mem_append_right _ (List.mem_cons_self ..))).2, e6, rfl, by simp, by simpa [stBlocks] using hn, fun b hb2 => hb b (by simpa [stBlocks] using hb2)⟩

theorem Midway.keep {w0 : World} {V : Value} {F0 : Trees} {g cap : Nat} {F : Trees} {D : List Nat} {st : List EntV} {wr w1 : World} {pre r : Trees} {cs : List EntV} (h : Midway w0 V F0 g cap F D st wr pre r cs) (hk : ∀ b ∈ D ++ (g :: (stBlocks cs ++ stBlocks st)), w1.heap[b]? = wr.heap[b]?) : Midway w0 V F0 g cap F D st w1 pre r cs := by
  obtain ⟨wo, ho, hko⟩ := h.old
  have hg := hk g (List.mem_append_right _ (List.mem_cons_self ..))
  refine ⟨⟨wo, ho, fun b hb => (hk b ?_).trans (hko b hb)⟩, h.ne, h.room, h.whole, h.block.same hg, h.left.keep _ _ (fun o _ => World.cell?_of_block hg), h.half.keep _ _ _ (fun o _ => World.cell?_of_block hg), fun e he => (h.pend e he).keep (fun b hb => hk b ?_), h.nodup, fun b hb => ⟨(h.near b hb).1, (h.near b hb).2.same (hk b hb)⟩⟩
  · rcases List.mem_append.1 hb with h1 | h1
    · exact List.mem_append_left _ h1
    · exact List.mem_append_right _ (List.mem_cons_of_mem _ (List.mem_append_right _ h1))
  · exact List.mem_append_right _ (List.mem_cons_of_mem _ (List.mem_append_left _ (List.mem_flatMap.2 ⟨e, he, hb⟩)))

theorem Midway.below {w0 : World} {V : Value} {F0 : Trees} {g cap : Nat} {F : Trees} {D : List Nat} {st : List EntV} {wr w1 : World} {pre r : Trees} {cs : List EntV} (h : Midway w0 V F0 g cap F D st wr pre r cs) (hb : Below wr.heap.size wr w1) : Midway w0 V F0 g cap F D st w1 pre r cs :=
  h.keep (fun b hb2 => hb.block b (h.near b hb2).2.lt)

/-- One node more has got a row of its own. -/
theorem Midway.step {w0 : World} {V : Value} {F0 : Trees} {g cap : Nat} {F : Trees} {D : List Nat} {st : List EntV} {wr w1 : World} {pre ar r : Trees} {kd nu : Int} {tx : ByteArray} {cs : List EntV} {v : Value}
    (h : Midway w0 V F0 g cap F D st wr pre (.cons kd nu tx ar r) cs) (hb : Below wr.heap.size wr w1) (hw : w0.heap.size ≤ wr.heap.size) (hp : Pend w0 w1 (v, ar)) (hf : ∀ b ∈ EntV.blocks (v, ar), wr.heap.size ≤ b ∧ NodeBlock w1 b) :
    Midway w0 V F0 g cap F D st (w1.setCell ⟨g, pre.length * 4 + 3, none⟩ v) (pre.snoc kd nu tx ar) r (cs ++ [(v, ar)]) := by
  have hgl := h.block.lt
  have hbn : EntV.blocks (v, ar) = [] ∨ ∃ b, EntV.blocks (v, ar) = [b] := by
    cases ar with
    | nil => exact .inl rfl
    | cons _ _ _ _ _ =>
      cases hv : v.ownBlock with
      | none => exact .inl (by simp [EntV.blocks, hv])
      | some b => exact .inr ⟨b, by simp [EntV.blocks, hv]⟩
  have hS : stBlocks (cs ++ [(v, ar)]) = stBlocks cs ++ EntV.blocks (v, ar) := by simp [stBlocks]
  have hne : ∀ b, b ≠ g → (w1.setCell ⟨g, pre.length * 4 + 3, none⟩ v).heap[b]? = w1.heap[b]? := fun b hb => Below.heap_setCell _ _ _ _ hb
  have hgn : ∀ b ∈ D ++ (stBlocks cs ++ stBlocks st), b ≠ g := fun b hb2 e => by
    subst e
    have hn := (List.perm_middle.nodup_iff).1 h.nodup
    exact (List.nodup_cons.1 hn).1 hb2
  have hold : ∀ b ∈ D ++ (stBlocks cs ++ stBlocks st), b < wr.heap.size := fun b hb2 => (h.near b (by
    rcases List.mem_append.1 hb2 with h1 | h1
    · exact List.mem_append_left _ h1
    · exact List.mem_append_right _ (List.mem_cons_of_mem _ h1))).2.lt
  have hsame : ∀ b ∈ D ++ (stBlocks cs ++ stBlocks st), (w1.setCell ⟨g, pre.length * 4 + 3, none⟩ v).heap[b]? = wr.heap[b]? := fun b hb2 => (hne b (hgn b hb2)).trans (hb.block b (hold b hb2))
  obtain ⟨⟨p, c, c1, c2, c3, c4, c5, c6⟩, hl⟩ := h.left
  have hcg : ∀ o, o ≠ pre.length * 4 + 3 → (w1.setCell ⟨g, pre.length * 4 + 3, none⟩ v).cell? ⟨g, o, none⟩ = wr.cell? ⟨g, o, none⟩ := fun o ho => by
    rw [cell_other _ _ _ _ _ (Ne.symm ho)]
    exact World.cell?_of_block (hb.block g hgl)
  have hcv : (w1.setCell ⟨g, pre.length * 4 + 3, none⟩ v).cell? ⟨g, pre.length * 4 + 3, none⟩ = some v := by
    rw [World.cell?_setCell_same' _ _ _ (by
      rw [show w1.cell? ⟨g, pre.length * 4 + 3, none⟩ = wr.cell? ⟨g, pre.length * 4 + 3, none⟩ from World.cell?_of_block (hb.block g hgl), c4]; rfl)]
  obtain ⟨wo, ho, hko⟩ := h.old
  have hvg : ∀ b ∈ EntV.blocks (v, ar), b ≠ g := fun b hb2 e => by have := (hf b hb2).1; omega
  refine ⟨⟨wo, ho, fun b hb2 => (hsame b ?_).trans (hko b hb2)⟩, h.ne, h.room, ?_, ?_, ?_, ?_, ?_, ?_, ?_⟩
  · rcases List.mem_append.1 hb2 with h1 | h1
    · exact List.mem_append_left _ h1
    · exact List.mem_append_right _ (List.mem_append_right _ h1)
  · rw [Trees.snoc_append]; exact h.whole
  · exact (h.block.same (hb.block g hgl)).set _ _
  · rw [Trees.snoc_length]
    exact hl.keep _ _ (fun o ho => hcg o (by omega))
  · refine (h.half.keep _ _ _ (fun o ho => hcg o (by omega))).snoc _ _ _ ?_ ?_ ?_ ?_
    · rw [Nat.zero_add, hcg _ (by omega)]; exact c1
    · rw [Nat.zero_add, hcg _ (by omega)]; exact c2
    · rw [Nat.zero_add, hcg _ (by omega)]; exact c3
    · rw [Nat.zero_add]; exact hcv
  · intro e he
    rcases List.mem_append.1 he with h1 | h1
    · exact (h.pend e h1).keep (fun b hb2 => hsame b (List.mem_append_right _ (List.mem_append_left _ (List.mem_flatMap.2 ⟨e, h1, hb2⟩))))
    · obtain rfl := List.mem_singleton.1 h1
      exact hp.keep (fun b hb2 => hne b (hvg b hb2))
  · rw [hS]
    have hn := h.nodup
    rcases hbn with hz | ⟨b, hz⟩
    · rw [hz, List.append_nil]; exact hn
    · rw [hz]
      have hpm : (D ++ (g :: ((stBlocks cs ++ [b]) ++ stBlocks st))).Perm (b :: (D ++ (g :: (stBlocks cs ++ stBlocks st)))) := by
        rw [List.append_assoc, List.singleton_append, show D ++ (g :: (stBlocks cs ++ (b :: stBlocks st))) = (D ++ (g :: stBlocks cs)) ++ (b :: stBlocks st) by simp, show b :: (D ++ (g :: (stBlocks cs ++ stBlocks st))) = b :: ((D ++ (g :: stBlocks cs)) ++ stBlocks st) by simp]
        exact List.perm_middle
      refine hpm.nodup_iff.2 (List.nodup_cons.2 ⟨fun hm => ?_, hn⟩)
      have h1 := (h.near b hm).2.lt
      have h2 := (hf b (by rw [hz]; simp)).1
      omega
  · intro b hb2
    rw [hS] at hb2
    by_cases hbg : b = g
    · subst hbg
      exact ⟨(h.near b (List.mem_append_right _ (List.mem_cons_self ..))).1, (h.block.same (hb.block b hgl)).set _ _⟩
    · by_cases hm : b ∈ D ++ (g :: (stBlocks cs ++ stBlocks st))
      · have h1 := h.near b hm
        exact ⟨h1.1, h1.2.same ((hne b hbg).trans (hb.block b h1.2.lt))⟩
      · have hv : b ∈ EntV.blocks (v, ar) := by
          simp only [List.mem_append, List.mem_cons] at hb2 hm
          rcases hb2 with h1 | h1 | (h1 | h1) | h1
          · exact absurd (.inl h1) hm
          · exact absurd h1 hbg
          · exact absurd (.inr (.inr (.inl h1))) hm
          · exact h1
          · exact absurd (.inr (.inr (.inr h1))) hm
        have h1 := hf b hv
        exact ⟨by omega, h1.2.same (hne b hbg)⟩

theorem Midway.done {w0 : World} {V : Value} {F0 : Trees} {g cap : Nat} {F : Trees} {D : List Nat} {st : List EntV} {wr : World} {pre : Trees} {cs : List EntV} (h : Midway w0 V F0 g cap F D st wr pre .nil cs) : Owing w0 V F0 wr (D ++ [g]) (cs.reverse ++ st) := by
  obtain ⟨wo, ho, hko⟩ := h.old
  have hw := h.whole
  rw [Trees.append_nil] at hw
  have hh := h.half
  rw [hw] at hh
  exact ho.next h.ne h.room hko h.block hh h.pend h.nodup (fun b hb => h.near b (List.mem_append_right _ (List.mem_cons_of_mem _ (List.mem_append_left _ hb))))
/-- What is read of the next node. -/
theorem Midway.open {w0 : World} {V : Value} {F0 : Trees} {g cap : Nat} {F : Trees} {D : List Nat} {st : List EntV} {wr : World} {pre ar r : Trees} {kd nu : Int} {tx : ByteArray} {cs : List EntV} (h : Midway w0 V F0 g cap F D st wr pre (.cons kd nu tx ar r) cs) :
    ∃ p c, wr.cell? ⟨g, pre.length * 4 + 3, none⟩ = some (.slice p ar.length c) ∧ TreesAt w0 ar p 0 ∧ g < wr.heap.size ∧ wr.frozen? ⟨g, pre.length * 4 + 3, none⟩ = false := by
  obtain ⟨⟨p, c, _, _, _, h4, _, h6⟩, _⟩ := h.left
  exact ⟨p, c, h4, h6, h.block.lt, h.block.free _⟩
end Go.Proofs.YtcalgjggmgnofaaDoor
