/- What is proved here: rows of nodes whose lower rows still lie elsewhere (as slices.Clone leaves them), and what a copy with a stack still owes. No condition. -/
import Derived.Test.YtcalgjggmgnofaaDoorTreeOwn
import Derived.Test.YtcalgjggmgnofaaDoorTreeCells
namespace Go.Proofs.YtcalgjggmgnofaaDoor
open Go.RowKit

/-- The cells of a row of nodes as they are to be copied; what is below them lies in w0. -/
def SrcV (w0 : World) : Trees → List Value → Prop
  | .nil, xs => xs = []
  | .cons k n t ar r, xs => ∃ p cap ys, xs = .int .i64 k :: .int .i64 n :: .string t :: .slice p ar.length cap :: ys ∧ ar.length ≤ cap ∧ TreesAt w0 ar p 0 ∧ SrcV w0 r ys
theorem SrcV.length {w0 : World} : ∀ (F : Trees) (xs : List Value), SrcV w0 F xs → xs.length = F.length * 4 := by
  intro F
  induction F with
  | nil => rintro xs rfl; rfl
  | cons k n t ar r _ ih =>
    rintro xs ⟨p, cap, ys, rfl, _, _, h⟩
    have := ih ys h
    simp [Trees.length]
    omega
theorem SrcV.one {w0 : World} : ∀ (F : Trees) (xs : List Value), SrcV w0 F xs → ∀ u ∈ xs, u.oneCell' = true := by
  intro F
  induction F with
  | nil => rintro xs rfl u hu; simp at hu
  | cons k n t ar r _ ih =>
    rintro xs ⟨p, cap, ys, rfl, _, _, h⟩ u hu
    simp only [List.mem_cons] at hu
    rcases hu with rfl | rfl | rfl | rfl | hu
    · rfl
    · rfl
    · rfl
    · rfl
    · exact ih ys h u hu
theorem src_add (y : Addr) (i j : Nat) (hj : 0 < j) : fieldAt y i j = y.add (i * 4 + j) := by
  unfold fieldAt Addr.add
  rw [if_neg (show ¬ i * 4 + j = 0 by omega)]
  by_cases h : i * 4 = 0
  · rw [if_pos h, h]; simp
  · rw [if_neg h]; simp [Nat.add_assoc]
theorem src_of {w0 : World} {y : Addr} : ∀ (F : Trees) (i : Nat), TreesAt w0 F (some y) i → ∃ xs, SrcV w0 F xs ∧ ∀ o, o < xs.length → w0.cell? (y.add (i * 4 + o)) = xs[o]? := by
  intro F
  induction F with
  | nil => intro i _; exact ⟨[], rfl, fun o ho => absurd ho (by simp)⟩
  | cons k n t ar r _ ih =>
    rintro i ⟨⟨y', p, cap, hy, h1, h2, h3, h4, h5, h6⟩, h7⟩
    cases hy
    obtain ⟨ys, hs, hc⟩ := ih (i + 1) h7
    refine ⟨_, ⟨p, cap, ys, rfl, h5, h6, hs⟩, fun o ho => ?_⟩
    rw [src_add _ _ _ (by omega)] at h2 h3 h4
    match o, ho with
    | 0, _ => simpa using h1
    | 1, _ => simpa using h2
    | 2, _ => simpa using h3
    | 3, _ => simpa using h4
    | o + 4, ho =>
      have := hc o (by simp at ho; omega)
      rw [show i * 4 + (o + 4) = (i + 1) * 4 + o by omega, this]
      rfl

/-- Block g holds the nodes of F from the i-th on; what is below them lies in w0. -/
def Shallow (w0 w : World) : Trees → Nat → Nat → Prop
  | .nil, _, _ => True
  | .cons k n t ar r, g, i => (∃ p cap, w.cell? ⟨g, i * 4, none⟩ = some (.int .i64 k) ∧ w.cell? ⟨g, i * 4 + 1, none⟩ = some (.int .i64 n) ∧ w.cell? ⟨g, i * 4 + 2, none⟩ = some (.string t) ∧ w.cell? ⟨g, i * 4 + 3, none⟩ = some (.slice p ar.length cap) ∧ ar.length ≤ cap ∧ TreesAt w0 ar p 0) ∧ Shallow w0 w r g (i + 1)
theorem Shallow.of {w0 w : World} {g : Nat} : ∀ (F : Trees) (xs : List Value) (i : Nat), SrcV w0 F xs → (∀ o, o < xs.length → w.cell? ⟨g, i * 4 + o, none⟩ = xs[o]?) → Shallow w0 w F g i := by
  intro F
  induction F with
  | nil => intro _ _ _ _; trivial
  | cons k n t ar r _ ih =>
    rintro xs i ⟨p, cap, ys, rfl, h1, h2, h3⟩ hc
    refine ⟨⟨p, cap, ?_, ?_, ?_, ?_, h1, h2⟩, ih ys (i + 1) h3 (fun o ho => ?_)⟩
    · have := hc 0 (by simp); simpa using this
    · have := hc 1 (by simp); simpa using this
    · have := hc 2 (by simp); simpa using this
    · have := hc 3 (by simp); simpa using this
    · have := hc (o + 4) (by simp; omega)
      rw [show (i + 1) * 4 + o = i * 4 + (o + 4) by omega, this]
      rfl
theorem Shallow.keep {w0 w w' : World} {g : Nat} : ∀ (F : Trees) (i : Nat), Shallow w0 w F g i → (∀ o, i * 4 ≤ o → w'.cell? ⟨g, o, none⟩ = w.cell? ⟨g, o, none⟩) → Shallow w0 w' F g i := by
  intro F
  induction F with
  | nil => intro _ _ _; trivial
  | cons k n t ar r _ ih =>
    rintro i ⟨⟨p, cap, h1, h2, h3, h4, h5, h6⟩, h7⟩ hk
    exact ⟨⟨p, cap, by rw [hk _ (by omega)]; exact h1, by rw [hk _ (by omega)]; exact h2, by rw [hk _ (by omega)]; exact h3, by rw [hk _ (by omega)]; exact h4, h5, h6⟩, ih (i + 1) h7 (fun o ho => hk o (by omega))⟩

/-- An entry of the stack: a slice, and the row that it reads as. -/
abbrev EntV := Value × Trees
def EntV.blocks : EntV → List Nat
  | (_, .nil) => []
  | (v, .cons _ _ _ _ _) => v.ownBlock.toList
/-- The entry's nodes lie in a block of their own; what is below them lies in w0. -/
def Pend (w0 w : World) (e : EntV) : Prop :=
  ∃ a cap, e.1 = .slice a e.2.length cap ∧ e.2.length ≤ cap ∧ (e.2 = .nil ∨ ∃ g, a = some ⟨g, 0, none⟩ ∧ Shallow w0 w e.2 g 0)
theorem Pend.keep {w0 w w' : World} {e : EntV} (h : Pend w0 w e) (hk : ∀ b ∈ e.blocks, w'.heap[b]? = w.heap[b]?) : Pend w0 w' e := by
  obtain ⟨v, F⟩ := e
  obtain ⟨a, cap, h1, h2, h3⟩ := h
  refine ⟨a, cap, h1, h2, ?_⟩
  cases F with
  | nil => exact .inl rfl
  | cons k n t ar r =>
    rcases h3 with h3 | ⟨g, rfl, h3⟩
    · cases h3
    · simp only at h1
      subst h1
      exact .inr ⟨g, rfl, h3.keep _ _ (fun o _ => World.cell?_of_block (hk g (by simp [EntV.blocks, Value.ownBlock])))⟩
/-- Each entry reads as its row in memory of its own. -/
def Owned2 (w : World) : List EntV → List (List Nat) → Prop
  | [], bss => bss = []
  | e :: st, bss => ∃ b r, bss = b :: r ∧ OwnV w e.1 e.2 b ∧ Owned2 w st r
theorem Owned2.append {w : World} : ∀ (a b : List EntV) (bss : List (List Nat)), Owned2 w (a ++ b) bss → ∃ x y, bss = x ++ y ∧ Owned2 w a x ∧ Owned2 w b y := by
  intro a
  induction a with
  | nil => intro b bss h; exact ⟨[], bss, rfl, rfl, h⟩
  | cons e a ih =>
    rintro b bss ⟨c, r, rfl, h1, h2⟩
    obtain ⟨x, y, rfl, h3, h4⟩ := ih b r h2
    exact ⟨c :: x, y, rfl, ⟨c, x, rfl, h1, h3⟩, h4⟩
theorem Owned2.join {w : World} : ∀ (a b : List EntV) (x y : List (List Nat)), Owned2 w a x → Owned2 w b y → Owned2 w (a ++ b) (x ++ y) := by
  intro a
  induction a with
  | nil => rintro b x y rfl h; exact h
  | cons e a ih =>
    rintro b x y ⟨c, r, rfl, h1, h2⟩ h
    exact ⟨c, r ++ y, rfl, h1, ih b r y h2 h⟩
theorem Owned2.reverse {w : World} : ∀ (a : List EntV) (x : List (List Nat)), Owned2 w a.reverse x → Owned2 w a x.reverse := by
  intro a
  induction a with
  | nil => rintro x rfl; rfl
  | cons e a ih =>
    intro x h
    rw [List.reverse_cons] at h
    obtain ⟨y, z, rfl, h1, h2⟩ := Owned2.append _ _ _ h
    obtain ⟨b, r, rfl, h3, h4⟩ := h2
    have h4' : r = [] := h4
    subst h4'
    rw [List.reverse_append]
    exact ⟨b, y.reverse, rfl, h3, ih y h1⟩
/-- Block g holds the first nodes; cs: what is below them, as slices. -/
def HalfRow (w : World) (g : Nat) : Trees → List EntV → Nat → Prop
  | .nil, cs, _ => cs = []
  | .cons k n t ar r, cs, i => ∃ v ds, cs = (v, ar) :: ds ∧ w.cell? ⟨g, i * 4, none⟩ = some (.int .i64 k) ∧ w.cell? ⟨g, i * 4 + 1, none⟩ = some (.int .i64 n) ∧ w.cell? ⟨g, i * 4 + 2, none⟩ = some (.string t) ∧ w.cell? ⟨g, i * 4 + 3, none⟩ = some v ∧ HalfRow w g r ds (i + 1)
theorem HalfRow.keep {w w' : World} {g : Nat} : ∀ (F : Trees) (cs : List EntV) (i : Nat), HalfRow w g F cs i → (∀ o, o < (i + F.length) * 4 → w'.cell? ⟨g, o, none⟩ = w.cell? ⟨g, o, none⟩) → HalfRow w' g F cs i := by
  intro F
  induction F with
  | nil => intro cs i h _; exact h
  | cons k n t ar r _ ih =>
    rintro cs i ⟨v, ds, rfl, h1, h2, h3, h4, h5⟩ hk
    simp only [Trees.length] at hk
    exact ⟨v, ds, rfl, by rw [hk _ (by omega)]; exact h1, by rw [hk _ (by omega)]; exact h2, by rw [hk _ (by omega)]; exact h3, by rw [hk _ (by omega)]; exact h4, ih ds (i + 1) h5 (fun o ho => hk o (by omega))⟩
theorem HalfRow.snoc {w : World} {g : Nat} {k n : Int} {t : ByteArray} {ar : Trees} {v : Value} : ∀ (F : Trees) (cs : List EntV) (i : Nat), HalfRow w g F cs i → w.cell? ⟨g, (i + F.length) * 4, none⟩ = some (.int .i64 k) → w.cell? ⟨g, (i + F.length) * 4 + 1, none⟩ = some (.int .i64 n) → w.cell? ⟨g, (i + F.length) * 4 + 2, none⟩ = some (.string t) → w.cell? ⟨g, (i + F.length) * 4 + 3, none⟩ = some v → HalfRow w g (F.snoc k n t ar) (cs ++ [(v, ar)]) i := by
  intro F
  induction F with
  | nil =>
    rintro cs i rfl h1 h2 h3 h4
    exact ⟨v, [], rfl, h1, h2, h3, h4, rfl⟩
  | cons k2 n2 t2 ar2 r _ ih =>
    rintro cs i ⟨v2, ds, rfl, h1, h2, h3, h4, h5⟩ g1 g2 g3 g4
    simp only [Trees.length] at g1 g2 g3 g4
    rw [show i + (r.length + 1) = i + 1 + r.length by omega] at g1 g2 g3 g4
    exact ⟨v2, ds ++ [(v, ar)], rfl, h1, h2, h3, h4, ih ds (i + 1) h5 g1 g2 g3 g4⟩
theorem HalfRow.row {w : World} {g : Nat} : ∀ (F : Trees) (cs : List EntV) (i : Nat) (y : List (List Nat)), HalfRow w g F cs i → Owned2 w cs y → RowIn w F g i y.flatten := by
  intro F
  induction F with
  | nil =>
    rintro cs i y rfl h
    have h' : y = [] := h
    subst h'
    rfl
  | cons k n t ar r _ ih =>
    rintro cs i y ⟨v, ds, rfl, h1, h2, h3, h4, h5⟩ ⟨b, z, rfl, h6, h7⟩
    exact ⟨v, b, z.flatten, rfl, h1, h2, h3, h4, h6, ih ds (i + 1) z h5 h7⟩

def stBlocks (st : List EntV) : List Nat := st.flatMap EntV.blocks
/-- What a copy with a stack has still to do: the blocks D are done, the entries of the stack are pending. -/
structure Owing (w0 : World) (V : Value) (F0 : Trees) (w : World) (D : List Nat) (st : List EntV) : Prop where
  pend : ∀ e ∈ st, Pend w0 w e
  nodup : (D ++ stBlocks st).Nodup
  near : ∀ b ∈ D ++ stBlocks st, w0.heap.size ≤ b ∧ NodeBlock w b
  wand : ∀ (w' : World) (bss : List (List Nat)), (∀ b ∈ D, w'.heap[b]? = w.heap[b]?) → Owned2 w' st bss → ∃ bs, OwnV w' V F0 bs ∧ bs.Perm (D ++ bss.flatten)
/-- In a world whose done and pending blocks lie as they lay. -/
theorem Owing.keep {w0 w w1 : World} {V : Value} {F0 : Trees} {D : List Nat} {st : List EntV} (h : Owing w0 V F0 w D st) (hk : ∀ b ∈ D ++ stBlocks st, w1.heap[b]? = w.heap[b]?) : Owing w0 V F0 w1 D st := by
  refine ⟨fun e he => (h.pend e he).keep (fun b hb => hk b (List.mem_append_right _ (List.mem_flatMap.2 ⟨e, he, hb⟩))), h.nodup, fun b hb => ⟨(h.near b hb).1, ?_⟩, fun w' bss hD hO => h.wand w' bss (fun b hb => (hD b hb).trans (hk b (List.mem_append_left _ hb))) hO⟩
  obtain ⟨cs, hcs⟩ := (h.near b hb).2
  exact ⟨cs, (hk b hb).trans hcs⟩
/-- All is done. -/
theorem Owing.done {w0 w : World} {V : Value} {F0 : Trees} {D : List Nat} (h : Owing w0 V F0 w D []) : ∃ bs, OwnV w V F0 bs ∧ bs.Nodup ∧ ∀ b ∈ bs, w0.heap.size ≤ b ∧ b < w.heap.size := by
  obtain ⟨bs, ho, hp⟩ := h.wand w [] (fun _ _ => rfl) rfl
  have hn := h.nodup
  simp only [List.flatten_nil, List.append_nil] at hp
  simp only [stBlocks, List.flatMap_nil, List.append_nil] at hn
  refine ⟨bs, ho, hp.nodup_iff.2 hn, fun b hb => ?_⟩
  have := h.near b (List.mem_append_left _ (hp.mem_iff.1 hb))
  exact ⟨this.1, this.2.lt⟩
/-- The top entry has no nodes. -/
theorem Owing.skip {w0 w : World} {V : Value} {F0 : Trees} {D : List Nat} {v : Value} {st : List EntV} (h : Owing w0 V F0 w D ((v, .nil) :: st)) : Owing w0 V F0 w D st := by
  refine ⟨fun e he => h.pend e (List.mem_cons_of_mem _ he), by simpa [stBlocks, EntV.blocks] using h.nodup, fun b hb => h.near b (by simpa [stBlocks, EntV.blocks] using hb), fun w' bss hD hO => ?_⟩
  obtain ⟨a, cap, hv, _⟩ := h.pend (v, .nil) (List.mem_cons_self ..)
  obtain ⟨bs, ho, hp⟩ := h.wand w' ([] :: bss) hD ⟨[], bss, rfl, .inl ⟨a, cap, hv, rfl, rfl⟩, hO⟩
  exact ⟨bs, ho, by simpa using hp⟩
/-- The top entry's nodes have got rows of their own: these are pending in its place. -/
theorem Owing.next {w0 w w1 : World} {V : Value} {F0 F : Trees} {D : List Nat} {g cap : Nat} {st cs : List EntV} (h : Owing w0 V F0 w D ((.slice (some ⟨g, 0, none⟩) F.length cap, F) :: st)) (hF : F ≠ .nil) (hcap : F.length ≤ cap)
    (hk : ∀ b ∈ D ++ stBlocks st, w1.heap[b]? = w.heap[b]?) (hN : NodeBlock w1 g) (hr : HalfRow w1 g F cs 0) (hp : ∀ e ∈ cs, Pend w0 w1 e)
    (hn : (D ++ (g :: (stBlocks cs ++ stBlocks st))).Nodup) (hb : ∀ b ∈ stBlocks cs, w0.heap.size ≤ b ∧ NodeBlock w1 b) : Owing w0 V F0 w1 (D ++ [g]) (cs.reverse ++ st) := by
  have hB : EntV.blocks (.slice (some ⟨g, 0, none⟩) F.length cap, F) = [g] := by
    cases F with
    | nil => exact absurd rfl hF
    | cons _ _ _ _ _ => simp [EntV.blocks, Value.ownBlock]
  have hS : stBlocks ((.slice (some ⟨g, 0, none⟩) F.length cap, F) :: st) = g :: stBlocks st := by
    simp only [stBlocks, List.flatMap_cons, hB]
    rfl
  have hrev : (stBlocks (cs.reverse ++ st)).Perm (stBlocks cs ++ stBlocks st) := by
    unfold stBlocks
    rw [List.flatMap_append]
    exact List.Perm.append_right _ (List.Perm.flatMap_right _ cs.reverse_perm)
  have hperm : ((D ++ [g]) ++ stBlocks (cs.reverse ++ st)).Perm (D ++ (g :: (stBlocks cs ++ stBlocks st))) := by
    rw [List.append_assoc]
    exact List.Perm.append_left _ (List.Perm.append_left _ hrev)
  refine ⟨fun e he => ?_, hperm.nodup_iff.2 hn, fun b hb1 => ?_, fun w' bss hD hO => ?_⟩
  · rcases List.mem_append.1 he with h1 | h1
    · exact hp e (List.mem_reverse.1 h1)
    · exact (h.pend e (List.mem_cons_of_mem _ h1)).keep (fun b hb2 => hk b (List.mem_append_right _ (List.mem_flatMap.2 ⟨e, h1, hb2⟩)))
  · have hm := hperm.mem_iff.1 hb1
    have old : ∀ b ∈ D ++ stBlocks st, w0.heap.size ≤ b ∧ NodeBlock w1 b := fun b hb2 => by
      have h1 := h.near b (by rw [hS]; rcases List.mem_append.1 hb2 with h1 | h1; exact List.mem_append_left _ h1; exact List.mem_append_right _ (List.mem_cons_of_mem _ h1))
      obtain ⟨c, hc⟩ := h1.2
      exact ⟨h1.1, c, (hk b hb2).trans hc⟩
    rcases List.mem_append.1 hm with h1 | h1
    · exact old b (List.mem_append_left _ h1)
    · rcases List.mem_cons.1 h1 with rfl | h1
      · exact ⟨(h.near b (by rw [hS]; exact List.mem_append_right _ (List.mem_cons_self ..))).1, hN⟩
      · rcases List.mem_append.1 h1 with h1 | h1
        · exact hb b h1
        · exact old b (List.mem_append_right _ h1)
  · obtain ⟨x, y, rfl, h1, h2⟩ := Owned2.append _ _ _ hO
    have h3 := Owned2.reverse cs x h1
    have hg' : w'.heap[g]? = w1.heap[g]? := hD g (List.mem_append_right _ (List.mem_singleton.2 rfl))
    have hr' : HalfRow w' g F cs 0 := hr.keep F cs 0 (fun o _ => World.cell?_of_block hg')
    have hrow := HalfRow.row F cs 0 x.reverse hr' h3
    obtain ⟨c, hc⟩ := hN
    obtain ⟨bs, ho, hpm⟩ := h.wand w' ((g :: x.reverse.flatten) :: y) (fun b hb1 => (hD b (List.mem_append_left _ hb1)).trans (hk b (List.mem_append_left _ hb1))) ⟨_, y, rfl, .inr ⟨g, cap, _, rfl, hcap, rfl, ⟨c, hg'.trans hc⟩, hrow⟩, h2⟩
    refine ⟨bs, ho, hpm.trans ?_⟩
    rw [List.append_assoc, List.flatten_cons, List.flatten_append]
    refine List.Perm.append_left _ ?_
    show (g :: (x.reverse.flatten ++ y.flatten)).Perm (g :: (x.flatten ++ y.flatten))
    exact List.Perm.cons _ (List.Perm.append_right _ (List.Perm.flatten x.reverse_perm))
end Go.Proofs.YtcalgjggmgnofaaDoor
