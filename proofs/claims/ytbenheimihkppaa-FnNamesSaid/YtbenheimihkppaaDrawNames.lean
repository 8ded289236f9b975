/- What is proved here: package spec's l2Any, l2List and DrawSortNames return, the one a short text, the others a list of at most 5 short texts in a block of its own. Condition: at most 1048576 bytes of code. -/
import Derived.Test.YtbenheimihkppaaPick
import Derived.Test.YtbenheimihkppaaSpecSort
namespace Go.Proofs.Ytbenheimihkppaa
open Go.RowKit

theorem Cur.kept {N g : Nat} {w w' : World} (h : Cur N w) (hg : w.grownBy w' (some g)) (hN : N < g) : Cur N w' := by
  have hlt := h.lt
  obtain ⟨a, len, cap, zs, i, h', hc⟩ := h
  exact ⟨a, len, cap, zs, i, h', ⟨by rw [hg.block N hlt (fun e => by injection e with e; omega)]; exact hc.block,
    row_stays hc.row hg (fun x hx h0 => by have := hc.far x hx h0; intro e; injection e with e; omega), hc.at_le, hc.far, hc.lo, hc.hi⟩⟩
theorem owns_grown {w w' : World} {B N n : Nat} {T : TypeId} {v : Value} {l : List Value} (h : w.ownsRow B T 1 v n l) (hg : w.grownBy w' (some N)) (hN : N < B) : w'.ownsRow B T 1 v n l := by
  refine ⟨h.1, h.2.imp id ?_⟩
  rintro ⟨g, cap, cur, hv, hb, hh, r⟩
  have hlt : g < w.heap.size := by
    rcases Nat.lt_or_ge g w.heap.size with h | h
    · exact h
    · rw [Array.getElem?_eq_none h] at hh
      cases hh
  exact ⟨g, cap, cur, hv, hb, by rw [hg.block g hlt (fun e => by injection e with e; omega)]; exact hh, r⟩

def anyTexts : List ByteArray := [⟨#[97]⟩, ⟨#[102]⟩, ⟨#[120, 49]⟩, ⟨#[88]⟩, ⟨#[89, 121]⟩, ⟨#[88, 50]⟩, ⟨#[]⟩, ⟨#[49, 97]⟩, ⟨#[97, 66]⟩, ⟨#[97, 98, 99, 100, 101, 102, 103, 104]⟩, ⟨#[97, 98, 99, 100, 101, 102, 103, 104, 105]⟩, ⟨#[65, 95]⟩, ⟨#[105, 110, 116]⟩, ⟨#[99, 97, 115, 101]⟩, ⟨#[90]⟩]
theorem anyTexts_short : ∀ s ∈ anyTexts, s.size ≤ 100 := by
  intro s hs
  simp only [anyTexts, List.mem_cons, List.mem_nil_iff, or_false] at hs
  rcases hs with rfl | rfl | rfl | rfl | rfl | rfl | rfl | rfl | rfl | rfl | rfl | rfl | rfl | rfl | rfl <;> decide

/-- A short text comes back, and the cursor's step is done. -/
def SomeText (N : Nat) (w : World) (e : Ending) (w' : World) : Prop := ∃ s : ByteArray, s.size ≤ 100 ∧ e = .returned (.string s) ∧ CurStep N w w'

set_option maxHeartbeats 1000000 in
set_option maxRecDepth 100000 in
theorem any_text (N : Nat) (w : World) (hc : Cur N w) : Calls Try.prog 45 #[.pointer (some ⟨N, 0, none⟩)] w (SomeText N w) := by
  have hs2 := CurStep.alloc hc (.cells (anyTexts.map Value.string).toArray 9)
  have hM := heap_new w (.cells (anyTexts.map Value.string).toArray 9)
  have H := pick_any N w.heap.size anyTexts 15 9 _ hs2.1 hM (by have := hc.lt; omega) (by decide) (by decide)
  have HS := Lib.hid hs2
  clear hs2 hM
  go_enter Try.func45, Try.ntmps45
  go_wp2_with fail
  refine H.mono ?_
  rintro e w2 ⟨s, hs, rfl, hs3⟩
  have hshort := anyTexts_short s hs
  have hst := HS.out.trans hs3
  clear hs hs3 H
  go_wp2
  go_ret
  exact ⟨s, hshort, rfl, hst⟩

/-- A list of at most 5 short texts comes back, in a block above B; below B nothing has changed. -/
def DrawnList (B : Nat) (w : World) (e : Ending) (w' : World) : Prop :=
  ∃ g cap xs rest, B ≤ g ∧ e = .returned (.slice (some ⟨g, 0, none⟩) xs.length cap) ∧ Block w' g xs rest ∧ xs.length ≤ 5 ∧ (∀ x ∈ xs, x.size ≤ 100) ∧ Below B w w'

set_option maxHeartbeats 2000000 in
set_option maxRecDepth 100000 in
theorem list_any (N : Nat) (w : World) (hc : Cur N w) : Calls Try.prog 34 #[.pointer (some ⟨N, 0, none⟩)] w (DrawnList N w) := by
  have hi : (Try.prog.info? 9).map (fun i => (i.zero, i.size, i.bytes)) = some (some (.string ⟨#[]⟩), 1, 16) := by kernel_rfl
  obtain ⟨i0, hi, hz0, hz1, hz2⟩ := info_parts hi
  have hNw := hc.lt
  have hs0 := CurStep.alloc hc (.cells #[] 9)
  have hown0 := World.ownsRow_lit (base := N + 1) (e := 9) (size := 1) w #[] 0 (by omega) (by unfold maxLen; omega) rfl
  have H := below_any N 6 (by omega) (by omega) _ hs0.1
  have HS0 := Lib.hid hs0
  have HO0 := Lib.hid hown0
  clear hs0 hown0 hc
  go_enter Try.func34, Try.ntmps34
  go_wp2_with fail
  refine H.mono ?_
  rintro e w1 ⟨n, n0, n1, rfl, hs1⟩
  obtain ⟨n, rfl⟩ : ∃ m : Nat, n = m := ⟨n.toNat, by omega⟩
  have hB1 : Below N w w1 := ((Below.refl N w).alloc (by omega) _).grown hs1.2 (by simp; omega) (fun k e => by injection e with e; omega)
  have hown1 := owns_grown HO0.out hs1.2 (by omega)
  have HC1 := Lib.hid hs1.1
  have HO1 := Lib.hid hown1
  clear H hs1 hown1
  go_wp2
  go_loopw [3, 5] (fun v i wr => ∃ (k g c : Nat) (xs : List ByteArray), k ≤ n ∧ i = .int .i64 k ∧ v = .slice (some ⟨g, 0, none⟩) k c ∧ xs.length = k ∧ (∀ x ∈ xs, x.size ≤ 100) ∧ wr.ownsRow (N + 1) 9 1 (.slice (some ⟨g, 0, none⟩) k c) k (xs.map Value.string) ∧ Cur N wr ∧ Below N w wr) (fun _ i _ => n - (intOf i).toNat)
  case atStart => exact ⟨0, w.heap.size, 0, [], Nat.zero_le _, rfl, rfl, rfl, by simp, HO1.out, HC1.out, hB1⟩
  case round =>
    obtain ⟨k, g, c, xs, hk, rfl, rfl, hxl, hsh, hown, hcur, hB⟩ := hrel
    have HXL := Lib.hid hxl
    have HSH := Lib.hid hsh
    have HO := Lib.hid hown
    have HC := Lib.hid hcur
    clear hxl hsh hown hcur
    by_cases hlt : k < n
    · go_wp2_with fail
      refine (any_text N wr HC.out).mono ?_
      rintro e w2 ⟨s, hs, rfl, hst⟩
      have hsz := hst.size
      have hwr := HC.out.lt
      have hB2 : Below N w w2 := hB.grown hst.2 (by omega) (fun k e => by injection e with e; omega)
      have hown2 := owns_grown HO.out hst.2 (by omega)
      have HC2 := Lib.hid hst.1
      clear hst
      go_wp2_with (at_builtin; refine wpList_append_own _ rfl _ _ 24 rfl (N + 1) 9 i0 (.string ⟨#[]⟩) 1 16 Try.underlying24 hi hz0 hz1 hz2 rfl (by decide) _ _ _ rfl (hown2.alloc _) ⟨w2.heap.size, 0, none⟩ 1 1 [.string s] rfl rfl ?d1 ?d2 ?d3 ?d4 ?d5 ?_)
      case d1 =>
        intro j u hj
        match j, hj with
        | 0, hj => simp at hj; subst hj; simp [Addr.add, World.cell?_alloc_new]
      case d2 => intro u hu; simp at hu; subst hu; rfl
      case d3 => unfold maxLen; omega
      case d4 => omega
      case d5 => simp; omega
      intro v3 w3 hown3 hg3 hnil3
      have hB3 : Below N w w3 := (hB2.alloc (by have := hB2.size; omega) _).grown hg3 (by have := hB2.size; simp; omega) (fun j hj => by have := (hown2.lt j hj).1; omega)
      obtain ⟨ho1, ho2, _⟩ := owned_facts hown2
      have hcur3 : Cur N w3 := ((CurStep.alloc HC2.out (.cells #[.string s] 9)).1).kept hg3 (show N < g by omega)
      have hv3 : v3 ≠ .slice none 0 0 := by first | exact hnil3 | (intro h; have := hnil3.1 h; simp at this)
      have hown4 : w3.ownsRow (N + 1) 9 1 v3 (k + 1) ((xs ++ [s]).map Value.string) := by
        rw [List.map_append]
        exact hown3
      obtain ⟨g3, c3, rfl⟩ := owned_shape hown4 hv3
      have HO4 := Lib.hid hown4
      have HC3 := Lib.hid hcur3
      clear hown2 hown3 hown4 hg3 hnil3 hv3 hcur3 HC2
      go_wp2
      go_roundw
      case rel =>
        refine ⟨k + 1, g3, c3, xs ++ [s], by omega, by go_num, rfl, by simp [HXL.out], ?_, HO4.out, HC3.out, hB3⟩
        intro x hx
        rcases List.mem_append.1 hx with h | h
        · exact HSH.out x h
        · simp at h
          rw [h]
          exact hs
      case measure => simp [intOf]; omega
    · obtain rfl : k = n := by omega
      obtain ⟨g', c', rest, hv, hg, hb, _⟩ := block_of_owned HO.out (by simp)
      cases hv
      have HBL := Lib.hid hb
      clear hb
      go_wp2
      go_ret
      exact ⟨g, c, xs, rest, by omega, rfl, HBL.out, by omega, HSH.out, hB⟩

set_option maxRecDepth 100000 in
theorem draw_names (w : World) (a : Option Addr) (len cap : Nat) (zs : List Int) (hr : IsRow .u8 w a len cap zs) (hlen : len ≤ 1048576) :
    Calls Try.prog 12 #[.slice a len cap] w (DrawnList w.heap.size w) := by
  have H := new_any w a len cap zs hr hlen
  clear hr
  go_enter Try.func12, Try.ntmps12
  go_wp2_with fail
  refine H.mono ?_
  rintro e w1 ⟨N, hN, rfl, hc, hb1⟩
  go_wp2_with fail
  refine (list_any N w1 hc).mono ?_
  rintro e w2 ⟨g, c, xs, rest, hg, rfl, hbl, hl, hsh, hb2⟩
  have HB := Lib.hid hbl
  have HS := Lib.hid hsh
  have hB : Below w.heap.size w w2 := hb1.trans (hb2.mono hN)
  clear hbl hsh H
  go_wp2
  go_ret
  exact ⟨g, c, xs, rest, by omega, rfl, HB.out, hl, HS.out, hB⟩
end Go.Proofs.Ytbenheimihkppaa
