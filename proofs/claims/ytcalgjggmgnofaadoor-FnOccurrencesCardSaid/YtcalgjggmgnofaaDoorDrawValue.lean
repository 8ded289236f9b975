/- What is proved here: drawn values of the types of the draws' signature (package spec, l4Draw, l4Type). Condition: the cursor's block holds a cursor. -/
import Derived.Test.YtcalgjggmgnofaaDoorDrawCon
namespace Go.Proofs.YtcalgjggmgnofaaDoor
open Go.RowKit

theorem Drawn.more {N C C' : Nat} {w : World} {e : Ending} {w' : World} (h : Drawn N C w e w') (hC : C ≤ C') : Drawn N C' w e w' := by
  obtain ⟨k, n, t, v, F, bs, xs, h1, h2, h3, h4⟩ := h
  exact ⟨k, n, t, v, F, bs, xs, h1, h2, Nat.le_trans h3 hC, h4⟩
/-- The names of the draws' types. -/
def Five (nm : ByteArray) : Prop := nm = nmInt ∨ nm = nmText ∨ nm = nmList ∨ nm = nmHue ∨ nm = nmPair
/-- The most nodes below a value that is drawn at a depth. -/
def drawMost : Nat → Nat
  | 0 => 0
  | m + 1 => 2 * (1 + drawMost m)
theorem drawMost_small : ∀ m, m ≤ 6 → drawMost m ≤ 200 := by decide

set_option maxRecDepth 100000 in
theorem draw_any (N : Nat) : ∀ m : Nat, m ≤ 6 → ∀ d : Int, -3 ≤ d → d ≤ (m : Int) + 1 → ∀ nm, Five nm → ∀ w, Cur N w → Calls Tryd.prog 57 #[.pointer (some ⟨N, 0, none⟩), .string nm, .int .i64 d] w (Drawn N (drawMost (m + 1)) w) := by
  intro m
  induction m with
  | zero =>
    intro _ d hd0 hd1 nm hnm w hc
    have leafI := fun w hc => (draw_int N (d - 1) w hc)
    have leafT := fun w hc => (draw_text N (d - 1) w hc)
    rcases hnm with rfl | rfl | rfl | rfl | rfl
    · exact (draw_int N d w hc).mono fun e w' h => h.more (Nat.zero_le _)
    · exact (draw_text N d w hc).mono fun e w' h => h.more (Nat.zero_le _)
    · refine draw_con N 0 (by omega) nmList listD find_list false (by simp [nmList, ByteArray.toList_eq]) (by simp [nmList, ByteArray.toList_eq]) (by simp [nmList, ByteArray.toList_eq]) d (by omega) (by decide) (fun k c hck hf => ?_) w hc
      have hk := hf (by omega)
      subst hk
      cases hck
      exact ⟨by decide, by decide, fun x hx => absurd hx (by simp)⟩
    · refine draw_con N 0 (by omega) nmHue hueD find_hue false (by simp [nmHue, ByteArray.toList_eq]) (by simp [nmHue, ByteArray.toList_eq]) (by simp [nmHue, ByteArray.toList_eq]) d (by omega) (by decide) (fun k c hck hf => ?_) w hc
      have hk := hf (by omega)
      subst hk
      cases hck
      exact ⟨by decide, by decide, fun x hx => absurd hx (by simp)⟩
    · refine draw_con N 0 (by omega) nmPair pairD find_pair true (by simp [nmPair, ByteArray.toList_eq]) (by simp [nmPair, ByteArray.toList_eq]) (by simp [nmPair, ByteArray.toList_eq]) d (by omega) (by decide) (fun k c hck hf => ?_) w hc
      have hk := hf (by omega)
      subst hk
      cases hck
      refine ⟨by decide, by decide, fun x hx w hc => ?_⟩
      simp only [List.mem_cons, List.mem_nil_iff, or_false] at hx
      rcases hx with rfl | rfl
      · exact leafT w hc
      · exact leafI w hc
  | succ m ih =>
    intro hm d hd0 hd1 nm hnm w hc
    have hC : drawMost (m + 1) ≤ 1000 := by have := drawMost_small (m + 1) (by omega); omega
    have sub : ∀ x, Five x → (d < 2 → x = nmInt ∨ x = nmText) → ∀ w, Cur N w → Calls Tryd.prog 57 #[.pointer (some ⟨N, 0, none⟩), .string x, .int .i64 (d - 1)] w (Drawn N (drawMost (m + 1)) w) := fun x hx hlow w hc => by
      by_cases h2 : d < 2
      · rcases hlow h2 with rfl | rfl
        · exact (draw_int N (d - 1) w hc).mono fun e w' h => h.more (Nat.zero_le _)
        · exact (draw_text N (d - 1) w hc).mono fun e w' h => h.more (Nat.zero_le _)
      · exact ih (by omega) (d - 1) (by omega) (by omega) x hx w hc
    rcases hnm with rfl | rfl | rfl | rfl | rfl
    · exact (draw_int N d w hc).mono fun e w' h => h.more (Nat.zero_le _)
    · exact (draw_text N d w hc).mono fun e w' h => h.more (Nat.zero_le _)
    · refine draw_con N _ hC nmList listD find_list false (by simp [nmList, ByteArray.toList_eq]) (by simp [nmList, ByteArray.toList_eq]) (by simp [nmList, ByteArray.toList_eq]) d (by omega) (by decide) (fun k c hck hf => ?_) w hc
      match k, hck with
      | 0, hck => cases hck; exact ⟨by decide, by decide, fun x hx => absurd hx (by simp)⟩
      | 1, hck =>
        cases hck
        refine ⟨by decide, by decide, fun x hx => ?_⟩
        simp only [List.mem_cons, List.mem_nil_iff, or_false] at hx
        rcases hx with rfl | rfl
        · exact sub _ (.inl rfl) (fun h => absurd (hf h) (by simp))
        · exact sub _ (.inr (.inr (.inl rfl))) (fun h => absurd (hf h) (by simp))
    · refine draw_con N _ hC nmHue hueD find_hue false (by simp [nmHue, ByteArray.toList_eq]) (by simp [nmHue, ByteArray.toList_eq]) (by simp [nmHue, ByteArray.toList_eq]) d (by omega) (by decide) (fun k c hck hf => ?_) w hc
      match k, hck with
      | 0, hck => cases hck; exact ⟨by decide, by decide, fun x hx => absurd hx (by simp)⟩
      | 1, hck => cases hck; exact ⟨by decide, by decide, fun x hx => absurd hx (by simp)⟩
      | 2, hck =>
        cases hck
        refine ⟨by decide, by decide, fun x hx => ?_⟩
        simp only [List.mem_cons, List.mem_nil_iff, or_false] at hx
        rcases hx with rfl | rfl
        · exact sub _ (.inr (.inr (.inr (.inl rfl)))) (fun h => absurd (hf h) (by simp))
        · exact sub _ (.inr (.inr (.inr (.inl rfl)))) (fun h => absurd (hf h) (by simp))
    · refine draw_con N _ hC nmPair pairD find_pair true (by simp [nmPair, ByteArray.toList_eq]) (by simp [nmPair, ByteArray.toList_eq]) (by simp [nmPair, ByteArray.toList_eq]) d (by omega) (by decide) (fun k c hck hf => ?_) w hc
      match k, hck with
      | 0, hck =>
        cases hck
        refine ⟨by decide, by decide, fun x hx => ?_⟩
        simp only [List.mem_cons, List.mem_nil_iff, or_false] at hx
        rcases hx with rfl | rfl
        · exact sub _ (.inr (.inr (.inr (.inl rfl)))) (fun h => absurd (hf h) (by simp))
        · exact sub _ (.inr (.inr (.inl rfl))) (fun h => absurd (hf h) (by simp))
      | 1, hck =>
        cases hck
        refine ⟨by decide, by decide, fun x hx => ?_⟩
        simp only [List.mem_cons, List.mem_nil_iff, or_false] at hx
        rcases hx with rfl | rfl
        · exact sub _ (.inr (.inl rfl)) (fun _ => .inr rfl)
        · exact sub _ (.inl rfl) (fun _ => .inl rfl)

def drawTypes : List ByteArray := [nmList, nmList, nmHue, nmPair, nmPair, nmInt, nmText]
theorem drawTypes_five : ∀ x ∈ drawTypes, Five x := by
  intro x hx
  simp only [drawTypes, List.mem_cons, List.mem_nil_iff, or_false] at hx
  unfold Five
  rcases hx with rfl | rfl | rfl | rfl | rfl | rfl | rfl <;> simp

set_option maxHeartbeats 1000000 in
set_option maxRecDepth 100000 in
theorem l4Type_any (N : Nat) (w : World) (hc : Cur N w) : Calls Tryd.prog 58 #[.pointer (some ⟨N, 0, none⟩)] w fun e w' => ∃ nm, Five nm ∧ e = .returned (.string nm) ∧ CurStep N w w' := by
  have hNw := hc.lt
  have hs1 := CurStep.alloc hc (.cells (drawTypes.map Value.string).toArray 9)
  have H := Lib.hid (pick_any N w.heap.size drawTypes 7 9 _ hs1.1 (heap_new w _) (by omega) (by decide) (by decide))
  have HS := Lib.hid hs1
  clear hs1
  go_enter Tryd.func58, Tryd.ntmps58
  go_wp2_with fail
  refine H.out.mono ?_
  rintro e w2 ⟨s, hs, rfl, hs2⟩
  have h5 := Lib.hid (drawTypes_five s hs)
  have HS2 := Lib.hid (HS.out.trans hs2)
  clear hs hs2 H
  go_wp2
  go_ret
  exact ⟨s, h5.out, rfl, HS2.out⟩
end Go.Proofs.YtcalgjggmgnofaaDoor
