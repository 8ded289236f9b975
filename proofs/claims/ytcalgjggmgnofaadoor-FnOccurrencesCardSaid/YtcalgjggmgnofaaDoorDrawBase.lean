/- What is proved here: the signature of the draws (package spec, l3Base), as it lies in memory. No condition. -/
import Derived.Test.YtcalgjggmgnofaaDoorSpecFind
namespace Go.Proofs.YtcalgjggmgnofaaDoor
open Go.RowKit

def nmInt : ByteArray := ⟨#[105, 110, 116]⟩
def nmText : ByteArray := ⟨#[116, 101, 120, 116]⟩
def nmList : ByteArray := ⟨#[108, 105, 115, 116]⟩
def nmHue : ByteArray := ⟨#[104, 117, 101]⟩
def nmPair : ByteArray := ⟨#[112, 97, 105, 114]⟩
def listD : TypeD := ⟨nmList, [⟨⟨#[78, 105, 108]⟩, []⟩, ⟨⟨#[67, 111, 110, 115]⟩, [nmInt, nmList]⟩]⟩
def hueD : TypeD := ⟨nmHue, [⟨⟨#[82, 101, 100]⟩, []⟩, ⟨⟨#[66, 108, 117, 101]⟩, []⟩, ⟨⟨#[77, 105, 120]⟩, [nmHue, nmHue]⟩]⟩
def pairD : TypeD := ⟨nmPair, [⟨⟨#[80, 97, 105, 114]⟩, [nmHue, nmList]⟩, ⟨⟨#[84, 97, 103]⟩, [nmText, nmInt]⟩]⟩
def baseSig : List TypeD := [listD, hueD, pairD]

/-- Blocks that are made one after the other. -/
def allocs (w : World) : List Obj → World
  | [] => w
  | o :: os => allocs (w.alloc o) os
theorem allocs_below : ∀ (os : List Obj) (w : World), Below w.heap.size w (allocs w os) := by
  intro os
  induction os with
  | nil => intro w; exact Below.refl _ _
  | cons o os ih =>
    intro w
    have h1 : Below w.heap.size w (w.alloc o) := (Below.refl _ _).alloc (Nat.le_refl _) _
    exact h1.trans ((ih (w.alloc o)).mono h1.size)
theorem allocs_at : ∀ (os : List Obj) (w : World) (i : Nat) (o : Obj), os[i]? = some o → (allocs w os).heap[w.heap.size + i]? = some o := by
  intro os
  induction os with
  | nil => intro w i o h; simp at h
  | cons p os ih =>
    intro w i o h
    have hs : (w.alloc p).heap.size = w.heap.size + 1 := Array.size_push _
    cases i with
    | zero =>
      simp at h
      subst h
      show (allocs (w.alloc p) os).heap[w.heap.size + 0]? = _
      rw [Nat.add_zero, (allocs_below os (w.alloc p)).block w.heap.size (by omega)]
      exact heap_at_new w p
    | succ i =>
      have := ih (w.alloc p) i o (by simpa using h)
      rw [hs] at this
      rw [show w.heap.size + (i + 1) = w.heap.size + 1 + i by omega]
      exact this
theorem row2_of {α : Type} {R : World → α → Value → Value → Prop} {w : World} {g : Nat} {T : TypeId} {l : List α} {ps : List (Value × Value)} (h : w.heap[g]? = some (.cells (flat ps).toArray T (0, 0))) (hl : ps.length = l.length) (hR : ∀ (j : Nat) (x : α) (p : Value × Value), l[j]? = some x → ps[j]? = some p → R w x p.1 p.2) : Row2 R w (some ⟨g, 0, none⟩) l := by
  intro j hj
  obtain ⟨p, hp⟩ : ∃ p, ps[j]? = some p := ⟨ps[j]'(by omega), List.getElem?_eq_getElem (by omega)⟩
  have hr := hR j l[j] p (List.getElem?_eq_getElem hj) hp
  have hf := flat_at ps [] j p hp
  rw [List.append_nil] at hf
  have e : (⟨g, 0, none⟩ : Addr).add (j * 2) = ⟨g, j * 2, none⟩ := by simp [Addr.add]; intro h; omega
  refine ⟨_, p.1, p.2, rfl, ?_, ?_, hr⟩
  · rw [e]; simp [World.cell?, h, hf.1]
  · rw [e]; simp [World.cell?, h, hf.2]
theorem con_none (w : World) (nm : ByteArray) : ConAt w ⟨nm, []⟩ (.string nm) (.slice none 0 0) := ⟨none, 0, rfl, rfl, fun j hj => absurd hj (by simp)⟩

/-- The blocks that l3Base makes, the first one block b. -/
def baseObjs (b : Nat) : List Obj := [.cells #[.slice (some ⟨b + 8, 0, none⟩) 3 3] 113, .cells #[.string ⟨#[105, 110, 116]⟩, .string ⟨#[108, 105, 115, 116]⟩] 9, .cells #[.string ⟨#[78, 105, 108]⟩, .slice none 0 0, .string ⟨#[67, 111, 110, 115]⟩, .slice (some ⟨b + 1, 0, none⟩) 2 2] 116, .cells #[.string ⟨#[104, 117, 101]⟩, .string ⟨#[104, 117, 101]⟩] 9, .cells #[.string ⟨#[82, 101, 100]⟩, .slice none 0 0, .string ⟨#[66, 108, 117, 101]⟩, .slice none 0 0, .string ⟨#[77, 105, 120]⟩, .slice (some ⟨b + 3, 0, none⟩) 2 2] 116, .cells #[.string ⟨#[104, 117, 101]⟩, .string ⟨#[108, 105, 115, 116]⟩] 9, .cells #[.string ⟨#[116, 101, 120, 116]⟩, .string ⟨#[105, 110, 116]⟩] 9, .cells #[.string ⟨#[80, 97, 105, 114]⟩, .slice (some ⟨b + 5, 0, none⟩) 2 2, .string ⟨#[84, 97, 103]⟩, .slice (some ⟨b + 6, 0, none⟩) 2 2] 116, .cells #[.string ⟨#[108, 105, 115, 116]⟩, .slice (some ⟨b + 2, 0, none⟩) 2 2, .string ⟨#[104, 117, 101]⟩, .slice (some ⟨b + 4, 0, none⟩) 3 3, .string ⟨#[112, 97, 105, 114]⟩, .slice (some ⟨b + 7, 0, none⟩) 2 2] 108]

theorem base_reads (w : World) : Row2 TypeAt (allocs w (baseObjs w.heap.size)) (some ⟨w.heap.size + 8, 0, none⟩) baseSig := by
  have at_ := fun i o h => allocs_at (baseObjs w.heap.size) w i o h
  generalize allocs w (baseObjs w.heap.size) = w1 at at_
  have t1 := reads_new (xs := [nmInt, nmList]) (at_ 1 _ rfl)
  have t3 := reads_new (xs := [nmHue, nmHue]) (at_ 3 _ rfl)
  have t5 := reads_new (xs := [nmHue, nmList]) (at_ 5 _ rfl)
  have t6 := reads_new (xs := [nmText, nmInt]) (at_ 6 _ rfl)
  have c2 : Row2 ConAt w1 (some ⟨w.heap.size + 2, 0, none⟩) listD.cons := row2_of (ps := [(.string ⟨#[78, 105, 108]⟩, .slice none 0 0), (.string ⟨#[67, 111, 110, 115]⟩, .slice (some ⟨w.heap.size + 1, 0, none⟩) 2 2)]) (at_ 2 _ rfl) rfl (fun j x p hj hp => by
    match j, hj, hp with
    | 0, hj, hp => cases hj; cases hp; exact con_none _ _
    | 1, hj, hp => cases hj; cases hp; exact ⟨_, 2, rfl, rfl, t1⟩)
  have c4 : Row2 ConAt w1 (some ⟨w.heap.size + 4, 0, none⟩) hueD.cons := row2_of (ps := [(.string ⟨#[82, 101, 100]⟩, .slice none 0 0), (.string ⟨#[66, 108, 117, 101]⟩, .slice none 0 0), (.string ⟨#[77, 105, 120]⟩, .slice (some ⟨w.heap.size + 3, 0, none⟩) 2 2)]) (at_ 4 _ rfl) rfl (fun j x p hj hp => by
    match j, hj, hp with
    | 0, hj, hp => cases hj; cases hp; exact con_none _ _
    | 1, hj, hp => cases hj; cases hp; exact con_none _ _
    | 2, hj, hp => cases hj; cases hp; exact ⟨_, 2, rfl, rfl, t3⟩)
  have c7 : Row2 ConAt w1 (some ⟨w.heap.size + 7, 0, none⟩) pairD.cons := row2_of (ps := [(.string ⟨#[80, 97, 105, 114]⟩, .slice (some ⟨w.heap.size + 5, 0, none⟩) 2 2), (.string ⟨#[84, 97, 103]⟩, .slice (some ⟨w.heap.size + 6, 0, none⟩) 2 2)]) (at_ 7 _ rfl) rfl (fun j x p hj hp => by
    match j, hj, hp with
    | 0, hj, hp => cases hj; cases hp; exact ⟨_, 2, rfl, rfl, t5⟩
    | 1, hj, hp => cases hj; cases hp; exact ⟨_, 2, rfl, rfl, t6⟩)
  exact row2_of (ps := [(.string ⟨#[108, 105, 115, 116]⟩, .slice (some ⟨w.heap.size + 2, 0, none⟩) 2 2), (.string ⟨#[104, 117, 101]⟩, .slice (some ⟨w.heap.size + 4, 0, none⟩) 3 3), (.string ⟨#[112, 97, 105, 114]⟩, .slice (some ⟨w.heap.size + 7, 0, none⟩) 2 2)]) (at_ 8 _ rfl) rfl (fun j x p hj hp => by
    match j, hj, hp with
    | 0, hj, hp => cases hj; cases hp; exact ⟨_, 2, rfl, rfl, c2⟩
    | 1, hj, hp => cases hj; cases hp; exact ⟨_, 3, rfl, rfl, c4⟩
    | 2, hj, hp => cases hj; cases hp; exact ⟨_, 2, rfl, rfl, c7⟩)

set_option maxHeartbeats 1000000 in
set_option maxRecDepth 100000 in
theorem l3Base_any (w : World) : Calls Tryd.prog 81 #[] w fun e w' => (∃ a, e = .returned (.agg #[.slice (some a) 3 3]) ∧ Row2 TypeAt w' (some a) baseSig) ∧ Below w.heap.size w w' := by
  have HR := Lib.hid (base_reads w)
  have HB := Lib.hid (allocs_below (baseObjs w.heap.size) w)
  have H0 := Lib.hid (allocs_at (baseObjs w.heap.size) w 0 _ rfl)
  go_enter Tryd.func81, Tryd.ntmps81
  go_wp2
  refine bodyPost_ret (results_cell_row rfl _ _ w.heap.size _ _ _ _ rfl H0.out Tryd.underlying113 rfl (by kernel_rfl)) rfl ?_
  exact ⟨⟨_, rfl, HR.out⟩, HB.out⟩
end Go.Proofs.YtcalgjggmgnofaaDoor
