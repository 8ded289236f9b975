/- What is proved here: a piece of the proof of YtcalgjggmgnofaaDoorOccsLaw (ImplCopyV, ImplValueAt, EqualFields, SpecEqual, TreeText, Format, Shelf, ItoaLaid, FormatKey, Joined, StepOwn, Bytes, FormatOcc). Condition: none beyond what each part says. -/
import Derived.Test.YtcalgjggmgnofaaDoorImplClone
import Derived.Test.YtcalgjggmgnofaaDoorMidway
import Derived.Test.YtcalgjggmgnofaaDoorSpecCopy
import Derived.WalkSmall
import Derived.Deep.LoopGhost
import Derived.Test.YtcalgjggmgnofaaDoorSpecValueAt
import Derived.Test.YtcalgjggmgnofaaDoorTrees
import Derived.Test.YtcalgjggmgnofaaDoorTreeCells
import Derived.Deep.RegionHeld3
import Derived.Lib.ItoaMem
import Derived.Lib.ItoaLen
import Derived.Test.YtcalgjggmgnofaaDoorProg
import Derived.Test.YtcalgjggmgnofaaDoorNum
import Derived.WalkKit
import Derived.ProofKit
import Derived.Lib.Walk
import Derived.Lib.Hide
import Derived.WalkLawsBesides
import Derived.WalkSpells
import Derived.Outline
import Derived.Laws.IdiomStrings
import Derived.Laws.Concat
import Derived.Shelf.Strings.Builder1
import Derived.Shelf.Strings.Builder2
import Derived.Shelf.Strings.OnBuilder
import Derived.Shelf.Small.Utf8
import Derived.Shelf.Small.Strs
import Derived.Shelf.Small.Wraps
import Derived.Shelf.Strconv.Atoi
import Derived.Shelf.Strconv.Itoa0
import Derived.Shelf.Strconv.Itoa1
import Derived.Shelf.LaysM
import Derived.Shelf.Strconv.Itoa2
import Derived.Shelf.Strconv.Itoa3
import Derived.Shelf.Strconv.AtoiErrFast
import Derived.Shelf.Strconv.ParseIntEmpty
import Derived.Shelf.Strconv.AtoiFail
import Derived.Shelf.Strconv.Clone
import Derived.Shelf.Strconv.SyntaxError
import Derived.Shelf.LaysC
import Derived.Shelf.Strconv.ToError
import Derived.Shelf.Strconv.Lower
import Derived.Shelf.Strconv.ParseUint10
import Derived.Shelf.Strconv.ParseUint10Empty
import Derived.Shelf.Strconv.ParseUint10Any
import Derived.Shelf.Strconv.ParseInt10
import Derived.Shelf.Strconv.AtoiLong
import Derived.Shelf.Strconv.AtoiInnerAll
import Derived.Shelf.Strconv.RangeError
import Derived.Shelf.Strconv.ToErrorRange
import Derived.Shelf.Strconv.AtoiAll
import Derived.Shelf.Strconv.ErrVarAll
import Derived.Shelf.Strings.Search1
import Derived.Shelf.Strings.Search2
import Derived.Shelf.Strings.Cut
import Derived.Shelf.Strings.Shaped
import Derived.Shelf.Strings.Prefix
import Derived.Shelf.Strings.Runes
import Derived.Shelf.Strings.IndexAny
import Derived.Shelf.Strings.AsciiSet
import Derived.Shelf.Strings.IndexAnyAll
import Derived.Ground.Names2Prog
import Derived.Shelf.Slices.SearchI
import Derived.Lib.AppendIntMem
import Derived.Lib.SmallJoins
import Derived.Test.YtcalgjggmgnofaaDoorReads
import Derived.Lib.AppendStr
import Derived.Lib.Join
import Derived.Deep.RegionLaw
import Derived.Laws.AppendOwn
import Derived.Below
import Derived.Test.YtcalgjggmgnofaaDoorInts
import Derived.Test.YtcalgjggmgnofaaDoorBlock

/- What is proved here: the program's copy of a value (copyValue). Condition: the value lies in memory as said, and is small. -/
section
namespace Go.Proofs.YtcalgjggmgnofaaDoor
open Go.RowKit

def workE : List EntV → Nat
  | [] => 0
  | e :: st => 1 + e.2.count + workE st
theorem length_le_workE (st : List EntV) : st.length ≤ workE st := by
  induction st with
  | nil => exact Nat.le_refl _
  | cons e st ih => simp [workE]; omega
theorem workE_append (a b : List EntV) : workE (a ++ b) = workE a + workE b := by
  induction a with
  | nil => simp [workE]
  | cons e a ih => simp [workE, ih]; omega
theorem workE_reverse (a : List EntV) : workE a.reverse = workE a := by
  induction a with
  | nil => rfl
  | cons e a ih => rw [List.reverse_cons, workE_append, ih]; simp [workE]; omega
/-- The slices of a stack (the last first), as they lie. -/
def slicesOf (st : List EntV) : List Value := (st.map (fun e => e.1)).reverse
theorem slicesOf_cons (e : EntV) (st : List EntV) : slicesOf (e :: st) = slicesOf st ++ [e.1] := by simp [slicesOf]
theorem slicesOf_length (st : List EntV) : (slicesOf st).length = st.length := by simp [slicesOf]
/-- A row of slices lies apart from every block of nodes. -/
theorem apart_of {w : World} {B : Nat} {v : Value} {n : Nat} {xs : List Value} (h : w.ownsRow B 24 1 v n xs) {b : Nat} (hb : NodeBlock w b) : v.ownBlock ≠ some b := by
  intro e
  obtain ⟨cs, hcs⟩ := hb
  rcases h.2 with ⟨h1, _⟩ | ⟨g, cap, cur, rfl, _, h2, _⟩
  · subst h1; cases e
  · cases e
    rw [hcs] at h2
    injection h2 with h2
    injection h2 with _ h3
    exact absurd h3 (by decide)
theorem own_block_keep {w w' : World} {base : Nat} {e : TypeId} {size : Nat} {v : Value} {n : Nat} {xs : List Value} (h : w.ownsRow base e size v n xs) (hk : ∀ g, v.ownBlock = some g → w'.heap[g]? = w.heap[g]?) : w'.ownsRow base e size v n xs := by
  refine ⟨h.1, ?_⟩
  rcases h.2 with h | ⟨g, cap, cur, rfl, hb, hg, h1, h2, h3, h4⟩
  · exact .inl h
  · exact .inr ⟨g, cap, cur, rfl, hb, by rw [hk g rfl]; exact hg, h1, h2, h3, h4⟩

theorem owing_start (w0 w4 : World) (g : Nat) (k n : Int) (t : ByteArray) (F : Trees) (p : Option Addr) (c : Nat) (hg : w0.heap.size ≤ g) (hb : w4.heap[g]? = some (.cells #[.int .i64 k, .int .i64 n, .string t, .slice p F.length c] 26 (0, 0))) (hx : TreesAt w0 F p 0) (hc : F.length ≤ c) :
    Owing w0 (.slice (some ⟨g, 0, none⟩) 1 1) (.cons k n t F .nil) w4 [] [(.slice (some ⟨g, 0, none⟩) 1 1, .cons k n t F .nil)] := by
  obtain ⟨c0, c1, c2, c3, _⟩ := four_cells hb
  refine ⟨fun e he => ?_, by simp [stBlocks, EntV.blocks, Value.ownBlock], fun b hb2 => ?_, fun w' bss _ hO => ?_⟩
  · obtain rfl := List.mem_singleton.1 he
    exact ⟨_, 1, rfl, Nat.le_refl _, .inr ⟨g, rfl, ⟨p, c, c0, c1, c2, c3, hc, hx⟩, trivial⟩⟩
  · have e : b = g := by simpa [stBlocks, EntV.blocks, Value.ownBlock] using hb2
    subst e
    exact ⟨hg, _, hb⟩
  · obtain ⟨b, r, rfl, h1, h2⟩ := hO
    have h2' : r = [] := h2
    subst h2'
    exact ⟨b, h1, by simp⟩

set_option maxHeartbeats 8000000 in
set_option maxRecDepth 100000 in
theorem impl_copy (w : World) (k n : Int) (t : ByteArray) (F : Trees) (p : Option Addr) (c : Nat) (hx : TreesAt w F p 0) (hsz : F.count ≤ 1048576) (hc : F.length ≤ c) :
    Calls Tryd.prog 39 #[.agg #[.int .i64 k, .int .i64 n, .string t, .slice p F.length c]] w (NewValue w k n t F) := by
  have hi : (Tryd.prog.info? 24).map (fun i => (i.zero, i.size, i.bytes)) = some (some (.slice none 0 0), 1, 24) := by kernel_rfl
  obtain ⟨i0, hi, hz0, hz1, hz2⟩ := info_parts hi
  obtain ⟨w4, hw4⟩ : ∃ w4, w4 = (((w.alloc (.cells #[.int .i64 k, .int .i64 n, .string t, .slice p F.length c] 26)).alloc (.cells #[.int .i64 0, .int .i64 0, .string ⟨#[]⟩, .slice none 0 0] 26)).alloc (.cells #[.int .i64 k, .int .i64 n, .string t, .slice p F.length c] 26)).alloc (.cells #[.slice (some ⟨w.heap.size + 1 + 1, 0, none⟩) 1 1] 24) := ⟨_, rfl⟩
  have HW4 := Lib.hid hw4
  have hmain : ∃ w0, Below w.heap.size w w0 ∧ w0.heap.size = w.heap.size + 2 ∧ w0.heap[w.heap.size + 1]? = some (.cells #[.int .i64 0, .int .i64 0, .string ⟨#[]⟩, .slice none 0 0] 26 (0, 0)) ∧ Below w0.heap.size w0 w4 ∧ Owing w0 (.slice (some ⟨w.heap.size + 1 + 1, 0, none⟩) 1 1) (.cons k n t F .nil) w4 [] [(.slice (some ⟨w.heap.size + 1 + 1, 0, none⟩) 1 1, .cons k n t F .nil)] ∧ w4.ownsRow w0.heap.size 24 1 (.slice (some ⟨w.heap.size + 1 + 1 + 1, 0, none⟩) 1 1) 1 [.slice (some ⟨w.heap.size + 1 + 1, 0, none⟩) 1 1] := by
    obtain ⟨w0, hw0⟩ : ∃ w0, w0 = (w.alloc (.cells #[.int .i64 k, .int .i64 n, .string t, .slice p F.length c] 26)).alloc (.cells #[.int .i64 0, .int .i64 0, .string ⟨#[]⟩, .slice none 0 0] 26) := ⟨_, rfl⟩
    have hb0 : Below w.heap.size w w0 := by rw [hw0]; exact ((Below.refl _ _).alloc (Nat.le_refl _) _).alloc (by simp) _
    have hs0 : w0.heap.size = w.heap.size + 2 := by rw [hw0]; simp
    have hr0 : w0.heap[w.heap.size + 1]? = some (.cells #[.int .i64 0, .int .i64 0, .string ⟨#[]⟩, .slice none 0 0] 26 (0, 0)) := by
      have s1 : (w.alloc (.cells #[.int .i64 k, .int .i64 n, .string t, .slice p F.length c] 26)).heap.size = w.heap.size + 1 := Array.size_push _
      have := heap_at_new (w.alloc (.cells #[.int .i64 k, .int .i64 n, .string t, .slice p F.length c] 26)) (.cells #[.int .i64 0, .int .i64 0, .string ⟨#[]⟩, .slice none 0 0] 26)
      rw [s1] at this
      rw [hw0]
      exact this
    rw [← hw0] at hw4
    obtain ⟨w1, hw1⟩ : ∃ w1, w1 = w0.alloc (.cells #[.int .i64 k, .int .i64 n, .string t, .slice p F.length c] 26) := ⟨_, rfl⟩
    have hg1 : w1.heap[w.heap.size + 1 + 1]? = some (.cells #[.int .i64 k, .int .i64 n, .string t, .slice p F.length c] 26 (0, 0)) := by
      have := heap_at_new w0 (.cells #[.int .i64 k, .int .i64 n, .string t, .slice p F.length c] 26)
      rw [hs0] at this
      rw [hw1]
      exact this
    have hs1 : w1.heap.size = w.heap.size + 1 + 1 + 1 := by rw [hw1]; simp [hs0]
    rw [← hw1] at hw4
    have hown := World.ownsRow_lit (base := w0.heap.size) (e := 24) (size := 1) w1 #[.slice (some ⟨w.heap.size + 1 + 1, 0, none⟩) 1 1] 1 (by omega) (by unfold maxLen; omega) rfl
    rw [← hw4, hs1] at hown
    refine ⟨w0, hb0, hs0, hr0, ?_, owing_start w0 w4 (w.heap.size + 1 + 1) k n t F p c (by omega) ?_ (hx.below hb0) hc, hown⟩
    · rw [hw4]
      have h1 : Below w0.heap.size w0 w1 := by rw [hw1]; exact (Below.refl _ _).alloc (Nat.le_refl _) _
      exact h1.alloc h1.size _
    · rw [hw4, Below.heap_alloc _ _ _ (by omega)]
      exact hg1
  obtain ⟨w0, hB0, hs0, hr0, hB4, hOW, hown⟩ := hmain
  have HB0 := Lib.hid hB0
  have HS0 := Lib.hid hs0
  have HR0 := Lib.hid hr0
  have HB4 := Lib.hid hB4
  have HOW := Lib.hid hOW
  have HOWN := Lib.hid hown
  have HHI := Lib.hid hi
  have hwk : workE [((.slice (some ⟨w.heap.size + 1 + 1, 0, none⟩) 1 1, .cons k n t F .nil) : EntV)] ≤ 1048578 := by simp [workE, Trees.count]; omega
  have HWK := Lib.hid hwk
  clear hx hsz hc hw4 hB0 hs0 hr0 hB4 hOW hown hwk
  go_enter Tryd.func39, Tryd.ntmps39
  go_wp2
  rw [← HW4.out]
  clear HW4
  go_loopg [4] 1048578 (fun gg rv wr => ∃ (D : List Nat) (st : List EntV) (s cp : Nat), rv = .slice (some ⟨s, 0, none⟩) st.length cp ∧ Aside (wr.ownsRow w0.heap.size 24 1 rv st.length (slicesOf st)) ∧ Aside (Owing w0 (.slice (some ⟨w.heap.size + 1 + 1, 0, none⟩) 1 1) (.cons k n t F .nil) wr D st) ∧ Aside (Below w0.heap.size w0 wr) ∧ Aside (workE st ≤ gg) ∧ gg ≤ 1048578)
  case atStart => exact ⟨[], [(.slice (some ⟨w.heap.size + 1 + 1, 0, none⟩) 1 1, .cons k n t F .nil)], _, 1, rfl, HOWN.out, HOW.out, HB4.out, HWK.out, Nat.le_refl _⟩
  case round =>
    obtain ⟨D, st, s, cp, rfl, hown, hOW, hB, hwk, hgk⟩ := hrel
    have hsl := length_le_workE st
    have hwk' := hwk.out
    have hslt := (hown.out.lt s rfl).2
    cases st with
    | nil =>
      obtain ⟨bs, ho, hnd, hfr⟩ := hOW.out.done
      obtain ⟨g', cap', b', e1, _, hbs, hN, hrow⟩ : ∃ g cap b', (Value.slice (some ⟨w.heap.size + 1 + 1, 0, none⟩) 1 1) = .slice (some ⟨g, 0, none⟩) 1 cap ∧ 1 ≤ cap ∧ bs = g :: b' ∧ NodeBlock wr g ∧ RowIn wr (.cons k n t F .nil) g 0 b' := by
        rcases ho with ⟨_, _, _, h, _⟩ | ⟨g, cap, b', h1, h2, h3, h4, h5⟩
        · cases h
        · exact ⟨g, cap, b', h1, h2, h3, h4, h5⟩
      injection e1 with e1 _ ec
      subst ec
      injection e1 with e1
      injection e1 with e1
      subst e1
      obtain ⟨v, b1, b2, hb12, c0, c1, c2, c3, hov, hnil⟩ := hrow
      have hov2 : OwnV wr v F b1 := hov
      have hb2 : b2 = [] := hnil
      subst hb2
      rw [List.append_nil] at hb12
      subst hb12
      subst hbs
      have HNDB : Hid (b'.Nodup ∧ ∀ b ∈ b', w.heap.size + 2 ≤ b ∧ b < wr.heap.size) := ⟨(List.nodup_cons.1 hnd).2, fun b hb => by have := hfr b (List.mem_cons_of_mem _ hb); have := HS0.out; omega⟩
      obtain ⟨p2, cap2, rfl, _, _⟩ := hov2.reads
      have HOV := Lib.hid hov2
      have hr1 : wr.heap[w.heap.size + 1]? = some (.cells #[.int .i64 0, .int .i64 0, .string ⟨#[]⟩, .slice none 0 0] 26 (0, 0)) := (hB.out.block _ (by have := HS0.out; omega)).trans HR0.out
      have HR1 := Lib.hid hr1
      obtain ⟨x0, x1, x2, x3, f0, f1, f2, f3⟩ := four_cells hr1
      have HB2 : Hid (Below w.heap.size w wr) := HB0.out.trans (hB.out.mono HB0.out.size)
      rw [Nat.zero_mul] at c0
      rw [Nat.zero_mul, Nat.zero_add] at c1 c2 c3
      clear hown hOW hB hwk hsl hwk' hslt ho hnd hfr hN hov hov2 hr1 hnil
      go_wp2
      refine bodyPost_ret (results_cell_row rfl _ _ (w.heap.size + 1) _ _ _ _ rfl (four_set (four_set (four_set (four_set HR1.out _).1 _).2.1 _).2.2.1 _).2.2.2 Tryd.underlying26 rfl (by kernel_rfl)) rfl ?_
      refine ⟨⟨_, b', rfl, HOV.out.keep (fun b hb => ?_), HNDB.out.1, fun b hb => ?_⟩, (((HB2.out.setCell (by show _ ≤ w.heap.size + 1; omega) _).setCell (by show _ ≤ w.heap.size + 1; omega) _).setCell (by show _ ≤ w.heap.size + 1; omega) _).setCell (by show _ ≤ w.heap.size + 1; omega) _⟩
      · have := HNDB.out.2 b hb
        rw [Below.heap_setCell _ _ _ _ (by show b ≠ w.heap.size + 1; omega), Below.heap_setCell _ _ _ _ (by show b ≠ w.heap.size + 1; omega), Below.heap_setCell _ _ _ _ (by show b ≠ w.heap.size + 1; omega), Below.heap_setCell _ _ _ _ (by show b ≠ w.heap.size + 1; omega)]
      · have := HNDB.out.2 b hb
        exact ⟨by omega, by simpa [World.setCell] using this.2⟩
    | cons e st =>
      obtain ⟨v, G⟩ := e
      obtain ⟨a, ca, hv, hlc, _⟩ := hOW.out.pend _ (List.mem_cons_self ..)
      simp only at hv hlc
      subst hv
      have hso : slicesOf ((.slice a G.length ca, G) :: st) = slicesOf st ++ [.slice a G.length ca] := slicesOf_cons _ _
      have hsle := slicesOf_length st
      have hown2 := hown.out
      rw [hso] at hown2
      simp only [List.length_cons] at *
      have hc0 : wr.cell? ⟨s, st.length, none⟩ = some (.slice a G.length ca) := by
        rw [hown2.cellAt st.length (by omega), List.getElem?_append_right (by omega), hsle, Nat.sub_self]
        rfl
      have hcap : st.length + 1 ≤ cp := by
        rcases hown2.2 with ⟨h, _⟩ | ⟨g', cap', cur, h, _, _, h1, _⟩
        · cases h
        · cases h; exact h1
      have hpop := ownsRow_pop (n := st.length) (by omega) hown2
      simp only [workE] at hwk' hsl
      have hgl := G.length_le_count
      have hml : st.length ≤ 1048578 := by omega
      have HPOP := Lib.hid hpop
      have HOW2 := Lib.hid hOW.out
      have HB := Lib.hid hB.out
      have HWK2 := Lib.hid hwk'
      clear hown hOW hB hwk hso hsle hown2 hpop hlc
      cases G with
      | nil =>
        have HOW3 := Lib.hid HOW2.out.skip
        have hz : Trees.length .nil = 0 := rfl
        rw [hz] at hc0
        clear HOW2 hgl hz hsl hwk'
        go_wp2
        go_loopw [4, 27] (fun rv i wq => rv = .slice (some ⟨s, 0, none⟩) st.length cp ∧ i = .int .i64 0 ∧ wq = wr) (fun _ _ _ => 0)
        case atStart => exact ⟨rfl, rfl, rfl⟩
        case round =>
          obtain ⟨rfl, rfl, rfl⟩ := hrel
          go_wp2
          go_roundg (gk - 1)
          case rel => exact ⟨D, st, s, cp, rfl, HPOP.out, HOW3.out, HB.out, (by have := HWK2.out; simp only [Trees.count] at this; show _ ≤ _; omega), by omega⟩
          case measure => have := HWK2.out; omega
      | cons kk nn2 tt aa rr =>
        have hne : (Trees.cons kk nn2 tt aa rr) ≠ .nil := by simp
        have hpos : 0 < (Trees.cons kk nn2 tt aa rr).length := by simp [Trees.length]
        generalize (Trees.cons kk nn2 tt aa rr) = G at *
        obtain ⟨g, rfl⟩ : ∃ g, a = some ⟨g, 0, none⟩ := by
          obtain ⟨a2, c2, h1, _, h2⟩ := HOW2.out.pend _ (List.mem_cons_self ..)
          simp only at h1 h2
          injection h1 with h1 _ _
          rcases h2 with h2 | ⟨g, h2, _⟩
          · exact absurd h2 hne
          · exact ⟨g, h1.trans h2⟩
        have HM := Lib.hid (Midway.start HOW2.out hne)
        generalize hn : G.length = nn at *
        have HN := Lib.hid hn
        have hnb : nn ≤ 1048578 := by omega
        clear HOW2 hne hn hsl hwk'
        go_wp2
        generalize hwq : wr = wq at *
        clear hwq
        go_loopw [4, 27] (fun rv i wr => ∃ (j : Nat) (pre r : Trees) (cs : List EntV) (s cp : Nat), i = .int .i64 j ∧ j + r.length = nn ∧ rv = .slice (some ⟨s, 0, none⟩) (cs.length + st.length) cp ∧ Hid (pre.length = j) ∧ Hid (Midway w0 (.slice (some ⟨w.heap.size + 1 + 1, 0, none⟩) 1 1) (.cons k n t F .nil) g ca G D st wr pre r cs) ∧ Hid (wr.ownsRow w0.heap.size 24 1 rv (cs.length + st.length) (slicesOf (cs.reverse ++ st))) ∧ Hid (Below w0.heap.size w0 wr) ∧ Hid (workE cs + r.count + workE st + 1 ≤ gk)) (fun _ i _ => nn - (intOf i).toNat)
        case atStart => exact ⟨0, .nil, G, [], s, cp, rfl, by rw [HN.out]; omega, by simp, rfl, HM, by unfold Hid; simpa using HPOP.out, HB.out, by unfold Hid; have := HWK2.out; simp only [workE]; omega⟩
        case round =>
          obtain ⟨j, pre, r, cs, s, cp, rfl, hjn, rfl, hpj, hM, hO, hB, hW⟩ := hrel
          cases r with
          | nil =>
            obtain rfl : j = nn := by simp only [Trees.length] at hjn; omega
            have HD := Lib.hid hM.out.done
            have hle : (cs.reverse ++ st).length = cs.length + st.length := by simp
            clear hM hpj
            go_wp2
            go_roundg (gk - 1)
            case rel => exact ⟨D ++ [g], cs.reverse ++ st, s, cp, by rw [hle], by rw [hle]; exact hO.out, HD.out, hB.out, (by have := hW.out; rw [workE_append, workE_reverse]; simp only [Trees.count] at this; show _ ≤ _; omega), by omega⟩
            case measure => have := hW.out; omega
          | cons kd nu tx ar r =>
            have hjl : j < nn := by simp only [Trees.length] at hjn; omega
            have hjn2 : j + 1 + r.length = nn := by simp only [Trees.length] at hjn; omega
            have hW2 := hW.out
            simp only [Trees.count] at hW2
            have hal := ar.length_le_count
            obtain ⟨q, cq, hcell, hx, hgl2, hfz⟩ := hM.out.open
            rw [hpj.out] at hcell hfz
            have hcl := impl_clone w0 wr ar q cq hB.out hx (by omega)
            have HCL := Lib.hid hcl
            have hcsl : cs.length + st.length ≤ 1048578 := by have h1 := length_le_workE cs; have h2 := length_le_workE st; omega
            have HW3 : Hid (∀ v, workE (cs ++ [(v, ar)]) + r.count + workE st + 1 ≤ gk) := by intro v; rw [workE_append]; simp only [workE]; omega
            have HGL := Lib.hid hgl2
            clear hcl hx hW hW2 hal hgl2 hjn
            go_wp2_with fail
            refine HCL.out.mono ?_
            rintro e w1 ⟨⟨a1, c1, rfl, hp1, hf1⟩, hb1⟩
            have hM1 := hM.out.below hb1
            have hB1 : Below w0.heap.size w0 w1 := hB.out.trans (hb1.mono hB.out.size)
            have hcell1 := cell_below hcell hb1
            have hfz1 := hM1.block.free (j * 4 + 3)
            have hsh := hM.out.step hb1 hB.out.size hp1 hf1
            rw [hpj.out] at hsh
            have hO1 : w1.ownsRow w0.heap.size 24 1 (.slice (some ⟨s, 0, none⟩) (cs.length + st.length) cp) (cs.length + st.length) (slicesOf (cs.reverse ++ st)) := own_block_keep hO.out (fun b hb => hb1.block b (hO.out.lt b hb).2)
            have hO2 : (w1.setCell ⟨g, j * 4 + 3, none⟩ (.slice a1 ar.length c1)).ownsRow w0.heap.size 24 1 (.slice (some ⟨s, 0, none⟩) (cs.length + st.length) cp) (cs.length + st.length) (slicesOf (cs.reverse ++ st)) := own_block_keep hO1 (fun b hb => Below.heap_setCell _ _ _ _ (by
              intro e
              exact apart_of hO1 hM1.block (by rw [hb]; exact congrArg some e)))
            have hgg : w0.heap.size ≤ g := (hM1.near g (List.mem_append_right _ (List.mem_cons_self ..))).1
            have hB2 : Below w0.heap.size w0 (w1.setCell ⟨g, j * 4 + 3, none⟩ (.slice a1 ar.length c1)) := hB1.setCell hgg _
            have hcell2 : (w1.setCell ⟨g, j * 4 + 3, none⟩ (.slice a1 ar.length c1)).cell? ⟨g, j * 4 + 3, none⟩ = some (.slice a1 ar.length c1) := World.cell?_setCell_same' _ _ _ (by rw [hcell1]; rfl)
            have hz2 : (w1.setCell ⟨g, j * 4 + 3, none⟩ (.slice a1 ar.length c1)).heap.size = w1.heap.size := by simp [World.setCell]
            have HSH := Lib.hid hsh
            have HO2 := Lib.hid hO2
            have HB2 := Lib.hid hB2
            have HO3 : Hid (((w1.setCell ⟨g, j * 4 + 3, none⟩ (.slice a1 ar.length c1)).alloc (.cells #[.slice a1 ar.length c1] 24)).ownsRow w0.heap.size 24 1 (.slice (some ⟨s, 0, none⟩) (cs.length + st.length) cp) (cs.length + st.length) (slicesOf (cs.reverse ++ st))) := hO2.alloc _
            have HN3 : Hid (∀ i u, [Value.slice a1 ar.length c1][i]? = some u → ((w1.setCell ⟨g, j * 4 + 3, none⟩ (.slice a1 ar.length c1)).alloc (.cells #[.slice a1 ar.length c1] 24)).cell? ((⟨w1.heap.size, 0, none⟩ : Addr).add i) = some u) := by
              have := World.news_of_block (heap_at_new (w1.setCell ⟨g, j * 4 + 3, none⟩ (.slice a1 ar.length c1)) (.cells #[.slice a1 ar.length c1] 24))
              rw [hz2] at this
              exact this
            have HZ3 : Hid (w0.heap.size ≤ ((w1.setCell ⟨g, j * 4 + 3, none⟩ (.slice a1 ar.length c1)).alloc (.cells #[.slice a1 ar.length c1] 24)).heap.size) := by have := hB2.size; unfold Hid; simp only [World.alloc, Array.size_push]; omega
            have HZ2 := Lib.hid hz2
            have HN2 : Hid (∀ u ∈ [Value.slice a1 ar.length c1], u.oneCell' = true) := by intro u hu; simp at hu; subst hu; rfl
            clear hM1 hB1 hsh hO1 hO2 hB2 hgg hb1 hp1 hf1 HCL hcell hfz hz2
            go_wp2_with (at_builtin; refine wpList_append_lies _ rfl _ _ 93 rfl w0.heap.size 24 i0 (.slice none 0 0) 1 24 Tryd.underlying93 hi hz0 hz1 hz2 rfl (by decide) _ _ _ rfl HO3.out ⟨w1.heap.size, 0, none⟩ 1 1 [.slice a1 ar.length c1] rfl rfl HN3.out HN2.out (by decide) (by unfold maxLen; omega) (by omega) HZ3.out (w1.heap.size + 1) (by simp) ?_)
            intro s4 cp4 w4 hown4 hgrow4 hat4 hlt4
            have hal3 : Below (w1.setCell ⟨g, j * 4 + 3, none⟩ (.slice a1 ar.length c1)).heap.size (w1.setCell ⟨g, j * 4 + 3, none⟩ (.slice a1 ar.length c1)) ((w1.setCell ⟨g, j * 4 + 3, none⟩ (.slice a1 ar.length c1)).alloc (.cells #[.slice a1 ar.length c1] 24)) := (Below.refl _ _).alloc (Nat.le_refl _) _
            have hM3 := HSH.out.below hal3
            have hM4 := hM3.keep (w1 := w4) (fun b hb => hgrow4.block b (hM3.near b hb).2.lt (fun e => apart_of HO3.out (hM3.near b hb).2 e.symm))
            have HM4 := Lib.hid hM4
            have hB4 : Below w0.heap.size w0 w4 := (HB2.out.trans (hal3.mono HB2.out.size)).grown hgrow4 HZ3.out (fun b hb => (HO3.out.lt b hb).1)
            have HB4 := Lib.hid hB4
            have hso : slicesOf ((cs ++ [((Value.slice a1 ar.length c1, ar) : EntV)]).reverse ++ st) = slicesOf (cs.reverse ++ st) ++ [.slice a1 ar.length c1] := by
              rw [List.reverse_append, List.reverse_singleton, List.singleton_append, List.cons_append, slicesOf_cons]
            rw [← hso] at hown4
            have hcl : (cs ++ [((Value.slice a1 ar.length c1, ar) : EntV)]).length + st.length = cs.length + st.length + 1 := by simp; omega
            have HCL := Lib.hid hcl
            have HOWN4 := Lib.hid hown4
            have HPL : Hid ((pre.snoc kd nu tx ar).length = j + 1) := by unfold Hid; rw [Trees.snoc_length, hpj.out]
            clear hal3 hM3 hM4 hB4 hso hown4 hgrow4 hat4 hlt4 hcl hO hB hM HO3 HO2 HB2 HSH
            go_wp2
            go_roundw
            case rel => exact ⟨j + 1, pre.snoc kd nu tx ar, r, cs ++ [((Value.slice a1 ar.length c1, ar) : EntV)], s4, cp4, by go_num, hjn2, by rw [HCL.out], HPL, HM4, by unfold Hid; rw [HCL.out]; exact HOWN4.out, HB4, HW3.out _⟩
            case measure => simp [intOf]; omega
end Go.Proofs.YtcalgjggmgnofaaDoor
end

/- What is proved here: the program's ValueAt returns a copy of the part at an occurrence. Condition: the value lies in memory as said, and is small; the list reads as said. -/
section
namespace Go.Proofs.YtcalgjggmgnofaaDoor
open Go.RowKit

set_option maxHeartbeats 4000000 in
set_option maxRecDepth 100000 in
theorem impl_valueAt (w : World) (d : NodeD) (p : Option Addr) (cap : Nat) (hx : TreesAt w d.args p 0) (hc : d.args.count ≤ 1048576) (hcap : d.args.length ≤ cap) (a : Option Addr) (cap2 : Nat) (zs : List Int) (hz : ReadsI w a zs) (hm : zs.length ≤ 1048576) :
    Calls Tryd.prog 10 #[.agg #[.int .i64 d.k, .int .i64 d.n, .string d.t, .slice p d.args.length cap], .slice a zs.length cap2] w (AtEnd w (d.at zs)) := by
  have h2 := two_boxes w (.cells #[.int .i64 d.k, .int .i64 d.n, .string d.t, .slice p d.args.length cap] 26) (.cells #[.int .i64 0, .int .i64 0, .string ⟨#[]⟩, .slice none 0 0] 26)
  obtain ⟨w2, hw2⟩ : ∃ w2, w2 = (w.alloc (.cells #[.int .i64 d.k, .int .i64 d.n, .string d.t, .slice p d.args.length cap] 26)).alloc (.cells #[.int .i64 0, .int .i64 0, .string ⟨#[]⟩, .slice none 0 0] 26) := ⟨_, rfl⟩
  rw [← hw2] at h2
  obtain ⟨ha, hb, hs, hB⟩ := h2
  have HW2 := Lib.hid hw2
  have HZ := Lib.hid hz
  have HI : Hid (BoxAt w2 w.heap.size d.k d.n d.t p d.args.length cap 26 ∧ BoxAt w2 (w.heap.size + 1) 0 0 ⟨#[]⟩ none 0 0 26 ∧ Below w.heap.size w w2 ∧ TreesAt w d.args p 0 ∧ d.args.count ≤ 1048576 ∧ d.args.length ≤ cap) := ⟨ha, hb, hB, hx, hc, hcap⟩
  have HD : Hid (d.at (zs.drop 0) = d.at zs) := rfl
  generalize d.at zs = q at *
  clear hx hz hc hcap ha hb hs hB hw2
  generalize hn : zs.length = m at *
  have HN := Lib.hid hn
  clear hn
  go_enter Tryd.func10, Tryd.ntmps10
  go_wp2
  rw [← HW2.out]
  clear HW2
  go_loopw [10] (fun i wr => ∃ (j : Nat) (f : NodeD) (p2 : Option Addr) (c2 : Nat), i = .int .i64 j ∧ j ≤ m ∧ Hid (f.at (zs.drop j) = q) ∧ Hid (BoxAt wr w.heap.size f.k f.n f.t p2 f.args.length c2 26 ∧ BoxAt wr (w.heap.size + 1) 0 0 ⟨#[]⟩ none 0 0 26 ∧ Below w.heap.size w wr ∧ TreesAt w f.args p2 0 ∧ f.args.count ≤ 1048576 ∧ f.args.length ≤ c2)) (fun i _ => m - (intOf i).toNat)
  case atStart => exact ⟨0, d, p, cap, rfl, Nat.zero_le _, HD, HI⟩
  case round =>
    obtain ⟨j, f, p2, c2, rfl, hj, hD, hI⟩ := hrel
    obtain ⟨v0, v1, v2, v3, g0, g1, g2, g3⟩ := four_cells hI.out.1
    obtain ⟨x0, x1, x2, x3, f0, f1, f2, f3⟩ := four_cells hI.out.2.1
    by_cases hlt : j < m
    · obtain ⟨y, rfl, hcz⟩ := (readsI_below HZ.out hI.out.2.2.1) j (by rw [HN.out]; exact hlt)
      have hst := fun e h1 h2 he => at_step f e zs j (by rw [HN.out]; exact hlt) h1 h2 he
      have hno := at_none f zs j (by rw [HN.out]; exact hlt)
      rw [hD.out] at hst hno
      generalize zs[j]'(by rw [HN.out]; exact hlt) = z at hcz hst hno
      have hal := f.args.length_le_count
      have hal2 := hI.out.2.2.2.2.1
      have hlen : f.args.length ≤ 1048576 := by omega
      clear hal
      by_cases hin : 0 ≤ z ∧ z < (f.args.length : Int)
      · obtain ⟨e, he⟩ := f.args.pick_some z.toNat (by omega)
        have HST := Lib.hid (hst e hin.1 hin.2 he).symm
        obtain ⟨y2, q2, cq, hy2, h1, h2, h3, h4, hl5, hx5⟩ := hI.out.2.2.2.1.pick0 he
        subst hy2
        have hcnt : e.args.count ≤ 1048576 := by have := Trees.pick_count he; omega
        obtain ⟨zn, rfl⟩ : ∃ zn : Nat, z = zn := ⟨z.toNat, by omega⟩
        rw [Int.toNat_natCast] at h1 h2 h3 h4
        have hzl : zn < f.args.length := by omega
        have hb1 := hI.out.2.2.1
        have k1 := cell_below h1 hb1
        have k2 := cell_below h2 hb1
        have k3 := cell_below h3 hb1
        have k4 := cell_below h4 hb1
        have HX5 := Lib.hid hx5
        have HL5 := Lib.hid hl5
        have HCN := Lib.hid hcnt
        have hcp := hI.out.2.2.2.2.2
        clear hst hno hin he h1 h2 h3 h4 hx5 hl5 hcnt hb1 hal2
        clear x0 x1 x2 x3 f0 f1 f2 f3
        go_wp2
        go_roundw
        case rel =>
          refine ⟨j + 1, e, q2, cq, by go_num, by omega, HST, (four_set (four_set (four_set (four_set hI.out.1 _).1 _).2.1 _).2.2.1 _).2.2.2, ?_, (((hI.out.2.2.1.setCell (Nat.le_refl _) _).setCell (Nat.le_refl _) _).setCell (Nat.le_refl _) _).setCell (Nat.le_refl _) _, HX5.out, HCN.out, HL5.out⟩
          exact (far_box wr w.heap.size (w.heap.size + 1) _ _ _ _ (by omega)).trans hI.out.2.1
        case measure => simp [intOf]; omega
      · have hq := hno hin
        subst hq
        by_cases hz0 : z < 0
        · clear hst hno hin hal2 hD
          go_wp2
          refine bodyPost_ret (results_row_one rfl _ _ (w.heap.size + 1) _ _ _ _ rfl (four_set (four_set (four_set (four_set hI.out.2.1 _).1 _).2.1 _).2.2.1 _).2.2.2 Tryd.underlying26 rfl (by kernel_rfl)) rfl ?_
          exact AtEnd.zero rfl ((((hI.out.2.2.1.setCell (by show _ ≤ w.heap.size + 1; omega) _).setCell (by show _ ≤ w.heap.size + 1; omega) _).setCell (by show _ ≤ w.heap.size + 1; omega) _).setCell (by show _ ≤ w.heap.size + 1; omega) _)
        · have hz1 : ((f.args.length : Int) ≤ z) := by omega
          clear hst hno hin hal2 hD
          go_wp2
          refine bodyPost_ret (results_row_one rfl _ _ (w.heap.size + 1) _ _ _ _ rfl (four_set (four_set (four_set (four_set hI.out.2.1 _).1 _).2.1 _).2.2.1 _).2.2.2 Tryd.underlying26 rfl (by kernel_rfl)) rfl ?_
          exact AtEnd.zero rfl ((((hI.out.2.2.1.setCell (by show _ ≤ w.heap.size + 1; omega) _).setCell (by show _ ≤ w.heap.size + 1; omega) _).setCell (by show _ ≤ w.heap.size + 1; omega) _).setCell (by show _ ≤ w.heap.size + 1; omega) _)
    · obtain rfl : j = m := by omega
      have hq := hD.out
      rw [at_end f zs j (by rw [HN.out]; exact Nat.le_refl _)] at hq
      have HQ := Lib.hid hq
      have HC := Lib.hid (impl_copy wr f.k f.n f.t f.args p2 c2 (hI.out.2.2.2.1.below hI.out.2.2.1) hI.out.2.2.2.2.1 hI.out.2.2.2.2.2)
      clear hD hq
      go_wp2_with fail
      refine HC.out.mono ?_
      rintro e w1 ⟨⟨v, bs, rfl, ho, hnd, hfr⟩, hb1⟩
      obtain ⟨p3, c3, rfl, _, _⟩ := ho.reads
      have hr1 := hI.out.2.1.below hb1
      have HR1 := Lib.hid hr1
      have HO := Lib.hid ho
      have HND := Lib.hid hnd
      have HFR := Lib.hid hfr
      have hws := hI.out.2.2.1.size
      have hlt2 : w.heap.size + 1 < wr.heap.size := (Array.getElem?_eq_some_iff.1 hI.out.2.1).1
      have HLT := Lib.hid hlt2
      have HB1 : Hid (Below w.heap.size w w1) := hI.out.2.2.1.trans (hb1.mono hI.out.2.2.1.size)
      clear v0 v1 v2 v3 g0 g1 g2 g3 x0 x1 x2 x3 f0 f1 f2 f3 ho hnd hfr hb1 HC hws hlt2
      obtain ⟨x0, x1, x2, x3, f0, f1, f2, f3⟩ := four_cells hr1
      clear hr1
      go_wp2
      refine bodyPost_ret (results_row_one rfl _ _ (w.heap.size + 1) _ _ _ _ rfl (four_set (four_set (four_set (four_set HR1.out _).1 _).2.1 _).2.2.1 _).2.2.2 Tryd.underlying26 rfl (by kernel_rfl)) rfl ?_
      rw [← HQ.out]
      refine ⟨⟨_, bs, rfl, HO.out.keep (fun b hb => ?_), HND.out, fun b hb => ?_⟩, (((HB1.out.setCell (by show _ ≤ w.heap.size + 1; omega) _).setCell (by show _ ≤ w.heap.size + 1; omega) _).setCell (by show _ ≤ w.heap.size + 1; omega) _).setCell (by show _ ≤ w.heap.size + 1; omega) _⟩
      · have := HFR.out b hb
        have := HLT.out
        rw [Below.heap_setCell _ _ _ _ (by show b ≠ w.heap.size + 1; omega), Below.heap_setCell _ _ _ _ (by show b ≠ w.heap.size + 1; omega), Below.heap_setCell _ _ _ _ (by show b ≠ w.heap.size + 1; omega), Below.heap_setCell _ _ _ _ (by show b ≠ w.heap.size + 1; omega)]
      · have := HFR.out b hb
        have := HLT.out
        exact ⟨by omega, by simpa [World.setCell] using (HFR.out b hb).2⟩
end Go.Proofs.YtcalgjggmgnofaaDoor
end

/- What is proved here: when two rows of nodes are the same; the program's haveEqualFields and slices.EqualFunc over it. Condition: the rows lie in memory as said. -/
section
namespace Go.Proofs.YtcalgjggmgnofaaDoor
open Go.RowKit

/-- Two nodes agree but for what is below them. -/
def headEq (k n : Int) (t : ByteArray) (a : Nat) (k2 n2 : Int) (t2 : ByteArray) (a2 : Nat) : Bool := (k == k2) && ((n == n2) && ((t.toList == t2.toList) && ((a : Int) == (a2 : Int))))
/-- Two rows agree node by node, but for what is below. -/
def Trees.flat : Trees → Trees → Bool
  | .nil, .nil => true
  | .cons k n t a r, .cons k2 n2 t2 a2 r2 => headEq k n t a.length k2 n2 t2 a2.length && r.flat r2
  | _, _ => false
def Trees.same : Trees → Trees → Bool
  | .nil, .nil => true
  | .cons k n t a r, .cons k2 n2 t2 a2 r2 => headEq k n t a.length k2 n2 t2 a2.length && a.same a2 && r.same r2
  | _, _ => false
/-- What is below, pair by pair. -/
def Trees.pairs : Trees → Trees → List (Trees × Trees)
  | .cons _ _ _ a r, .cons _ _ _ a2 r2 => (a, a2) :: r.pairs r2
  | _, _ => []
theorem Trees.same_flat (F : Trees) : ∀ G : Trees, F.same G = (F.flat G && (F.pairs G).all fun p => p.1.same p.2) := by
  induction F with
  | nil => intro G; cases G <;> rfl
  | cons k n t a r _ ih =>
    intro G
    cases G with
    | nil => rfl
    | cons k2 n2 t2 a2 r2 =>
      simp only [Trees.same, Trees.flat, Trees.pairs, List.all_cons, ih r2]
      cases headEq k n t a.length k2 n2 t2 a2.length <;> cases a.same a2 <;> cases r.flat r2 <;> simp
theorem Trees.flat_length (F : Trees) : ∀ G : Trees, F.flat G = true → F.length = G.length := by
  induction F with
  | nil => intro G h; cases G with | nil => rfl | cons _ _ _ _ _ => cases h
  | cons k n t a r _ ih =>
    intro G h
    cases G with
    | nil => cases h
    | cons k2 n2 t2 a2 r2 =>
      simp only [Trees.flat, Bool.and_eq_true] at h
      simp only [Trees.length, ih r2 h.2]
theorem Trees.same_length (F G : Trees) (h : F.same G = true) : F.length = G.length := by
  rw [Trees.same_flat] at h
  simp only [Bool.and_eq_true] at h
  exact Trees.flat_length F G h.1
theorem headEq_iff (k n : Int) (t : ByteArray) (a : Nat) (k2 n2 : Int) (t2 : ByteArray) (a2 : Nat) : headEq k n t a k2 n2 t2 a2 = true ↔ k = k2 ∧ n = n2 ∧ t = t2 ∧ a = a2 := by
  unfold headEq
  simp only [Bool.and_eq_true, beq_iff_eq]
  constructor
  · rintro ⟨h1, h2, h3, h4⟩
    exact ⟨h1, h2, by cases t; cases t2; simpa [ByteArray.toList_eq] using h3, by omega⟩
  · rintro ⟨rfl, rfl, rfl, rfl⟩
    exact ⟨rfl, rfl, rfl, rfl⟩
theorem Trees.same_iff (F : Trees) : ∀ G : Trees, F.same G = true ↔ F = G := by
  induction F with
  | nil => intro G; cases G <;> simp [Trees.same]
  | cons k n t a r ih1 ih2 =>
    intro G
    cases G with
    | nil => simp [Trees.same]
    | cons k2 n2 t2 a2 r2 =>
      simp only [Trees.same, Bool.and_eq_true, ih1, ih2, headEq_iff]
      constructor
      · rintro ⟨⟨⟨rfl, rfl, rfl, _⟩, rfl⟩, rfl⟩; rfl
      · intro h; cases h; exact ⟨⟨⟨rfl, rfl, rfl, rfl⟩, rfl⟩, rfl⟩

theorem alloc2 (w : World) (o0 o1 : Obj) : Below w.heap.size w ((w.alloc o0).alloc o1) := ((Below.refl _ _).alloc (Nat.le_refl _) _).alloc (by simp) _

end Go.Proofs.YtcalgjggmgnofaaDoor
end

/- What is proved here: the model's EqualValue says whether two values are the same. Condition: they lie in memory as said, and are small. -/
section
namespace Go.Proofs.YtcalgjggmgnofaaDoor
open Go.RowKit

set_option maxHeartbeats 2000000 in
set_option maxRecDepth 100000 in
theorem spec_equal : ∀ F : Trees, F.length ≤ 1048576 → F.size ≤ 1048576 → ∀ (G : Trees) (w : World) (k n : Int) (t : ByteArray) (p : Option Addr) (c : Nat) (k2 n2 : Int) (t2 : ByteArray) (p2 : Option Addr) (c2 : Nat), TreesAt w F p 0 → TreesAt w G p2 0 →
    Calls Tryd.prog 12 #[.agg #[.int .i64 k, .int .i64 n, .string t, .slice p F.length c], .agg #[.int .i64 k2, .int .i64 n2, .string t2, .slice p2 G.length c2]] w fun e w' => e = .returned (.bool (headEq k n t F.length k2 n2 t2 G.length && F.same G)) ∧ Below w.heap.size w w' := by
  refine Trees.ind fun F hall hm hs G w k n t p c k2 n2 t2 p2 c2 hx hy => ?_
  have hB0 := alloc2 w (.cells #[.int .i64 k, .int .i64 n, .string t, .slice p F.length c] 26) (.cells #[.int .i64 k2, .int .i64 n2, .string t2, .slice p2 G.length c2] 26)
  have HX := Lib.hid (hx.below hB0)
  have HY := Lib.hid (hy.below hB0)
  have HALL := Lib.hid hall
  have HSZ := Lib.hid hs
  have hv1 := heap_at_new (w.alloc (.cells #[.int .i64 k, .int .i64 n, .string t, .slice p F.length c] 26)) (.cells #[.int .i64 k2, .int .i64 n2, .string t2, .slice p2 G.length c2] 26)
  have hs1 : (w.alloc (.cells #[.int .i64 k, .int .i64 n, .string t, .slice p F.length c] 26)).heap.size = w.heap.size + 1 := Array.size_push _
  rw [hs1] at hv1
  have hv0 := (Below.heap_alloc (w.alloc (.cells #[.int .i64 k, .int .i64 n, .string t, .slice p F.length c] 26)) (.cells #[.int .i64 k2, .int .i64 n2, .string t2, .slice p2 G.length c2] 26) w.heap.size (by omega)).trans (heap_at_new w _)
  have hc0 := (four_cells hv0).2.2.2.1
  have hc1 := (four_cells hv1).2.2.2.1
  clear hv0 hv1 hs1 hx hy hall hs
  have HE : Hid (headEq k n t F.length k2 n2 t2 G.length = ((k == k2) && ((n == n2) && ((t.toList == t2.toList) && ((F.length : Int) == (G.length : Int)))))) := rfl
  generalize hz : (headEq k n t F.length k2 n2 t2 G.length && F.same G) = z
  have HZ0 := Lib.hid hz
  clear hz
  generalize headEq k n t F.length k2 n2 t2 G.length = he at *
  generalize h1 : (k == k2) = b1 at *
  generalize h2 : (n == n2) = b2 at *
  generalize h3 : (t.toList == t2.toList) = b3 at *
  generalize h4 : ((F.length : Int) == (G.length : Int)) = b4 at *
  have HB0 := Lib.hid hB0
  clear hB0
  cases b1 with
  | false =>
    have HZ : Hid (z = false) := by unfold Hid; rw [← HZ0.out, HE.out]; rfl
    have e1 : (k != k2) = true := by simp [bne, h1]
    clear hc0 hc1
    go_enter Tryd.func12, Tryd.ntmps12
    go_wp2
    go_ret
    exact ⟨by rw [HZ.out]; rfl, HB0.out⟩
  | true =>
    have e1 : (k != k2) = false := by simp [bne, h1]
    cases b2 with
    | false =>
      have HZ : Hid (z = false) := by unfold Hid; rw [← HZ0.out, HE.out]; rfl
      have e2 : (n != n2) = true := by simp [bne, h2]
      clear hc0 hc1
      go_enter Tryd.func12, Tryd.ntmps12
      go_wp2
      go_ret
      exact ⟨by rw [HZ.out]; rfl, HB0.out⟩
    | true =>
      have e2 : (n != n2) = false := by simp [bne, h2]
      cases b3 with
      | false =>
        have HZ : Hid (z = false) := by unfold Hid; rw [← HZ0.out, HE.out]; rfl
        have e3 : (t.toList != t2.toList) = true := by simp [bne, h3]
        clear hc0 hc1
        go_enter Tryd.func12, Tryd.ntmps12
        go_wp2
        go_ret
        exact ⟨by rw [HZ.out]; rfl, HB0.out⟩
      | true =>
        have e3 : (t.toList != t2.toList) = false := by simp [bne, h3]
        cases b4 with
        | false =>
          have HZ : Hid (z = false) := by unfold Hid; rw [← HZ0.out, HE.out]; rfl
          have e4 : ((F.length : Int) != (G.length : Int)) = true := by simp [bne, h4]
          clear hc0 hc1
          go_enter Tryd.func12, Tryd.ntmps12
          go_wp2
          go_ret
          exact ⟨by rw [HZ.out]; rfl, HB0.out⟩
        | true =>
          have HZ : Hid (F.same G = z) := by unfold Hid; rw [← HZ0.out, HE.out]; rfl
          have hlen : F.length = G.length := by have := eq_of_beq h4; omega
          have HL := Lib.hid hlen
          rw [← hlen] at hc0 hc1 HX HY HB0
          rw [← hlen]
          clear h4 hlen HZ0 HE
          generalize hn : F.length = nn at *
          have HN := Lib.hid hn
          clear hn
          go_enter Tryd.func12, Tryd.ntmps12
          go_wp2
          generalize (w.alloc (.cells #[.int .i64 k, .int .i64 n, .string t, .slice p nn c] 26)).alloc (.cells #[.int .i64 k2, .int .i64 n2, .string t2, .slice p2 nn c2] 26) = w0 at *
          have HC0 := Lib.hid hc0
          have HC1 := Lib.hid hc1
          clear hc0 hc1
          go_loopw [5] (fun i wr => ∃ (j : Nat) (r s : Trees), i = .int .i64 j ∧ j + r.length = nn ∧ Hid (r.length = s.length) ∧ Hid (r.same s = z) ∧ Hid (TreesAt w0 r p j) ∧ Hid (TreesAt w0 s p2 j) ∧ Hid (r.size ≤ 1048576) ∧ Hid (r.All (fun F => F.length ≤ 1048576 → F.size ≤ 1048576 → ∀ (G : Trees) (w : World) (k n : Int) (t : ByteArray) (p : Option Addr) (c : Nat) (k2 n2 : Int) (t2 : ByteArray) (p2 : Option Addr) (c2 : Nat), TreesAt w F p 0 → TreesAt w G p2 0 →
    Calls Tryd.prog 12 #[.agg #[.int .i64 k, .int .i64 n, .string t, .slice p F.length c], .agg #[.int .i64 k2, .int .i64 n2, .string t2, .slice p2 G.length c2]] w fun e w' => e = .returned (.bool (headEq k n t F.length k2 n2 t2 G.length && F.same G)) ∧ Below w.heap.size w w')) ∧ Hid (Below w0.heap.size w0 wr)) (fun i _ => nn - (intOf i).toNat)
          case atStart => exact ⟨0, F, G, rfl, by rw [HN.out]; omega, by unfold Hid; rw [HN.out]; exact HL.out, HZ, HX, HY, HSZ, HALL, Below.refl _ _⟩
          case round =>
            obtain ⟨j, r, s, rfl, hjn, hrs, hz, hxr, hyr, hsr, hall, hB⟩ := hrel
            have hc0 := cell_below HC0.out hB.out
            have hc1 := cell_below HC1.out hB.out
            cases r with
            | nil =>
              obtain rfl : j = nn := by simp only [Trees.length] at hjn; omega
              cases s with
              | cons _ _ _ _ _ => have := hrs.out; simp [Trees.length] at this
              | nil =>
                obtain rfl : true = z := hz.out
                clear hxr hyr hall
                go_wp2
                go_ret
                exact ⟨rfl, HB0.out.trans (hB.out.mono HB0.out.size)⟩
            | cons k3 n3 t3 a3 r =>
              cases s with
              | nil => have := hrs.out; simp [Trees.length] at this
              | cons k4 n4 t4 a4 s =>
                have hjl : j < nn := by simp only [Trees.length] at hjn; omega
                have hjn2 : j + 1 + r.length = nn := by simp only [Trees.length] at hjn; omega
                have HRS : Hid (r.length = s.length) := by have := hrs.out; simp only [Trees.length] at this; unfold Hid; omega
                obtain ⟨y, q, cq, rfl, g1, g2, g3, g4, hs3, _⟩ := (hxr.out.below hB.out).open
                obtain ⟨y2, q2, cq2, rfl, j1, j2, j3, j4, hs4, _⟩ := (hyr.out.below hB.out).open
                have hxr2 : Hid (TreesAt w0 r (some y) (j + 1)) := hxr.out.2
                have hyr2 : Hid (TreesAt w0 s (some y2) (j + 1)) := hyr.out.2
                have hsr2 := hsr.out
                simp only [Trees.size] at hsr2
                have hal := a3.length_le_size
                have H := fun (w' : World) (hb : Below wr.heap.size wr w') => hall.out.1 (by omega) (by omega) a4 w' k3 n3 t3 q cq k4 n4 t4 q2 cq2 (hs3.below hb) (hs4.below hb)
                have HA2 := Lib.hid hall.out.2
                have HSR : Hid (r.size ≤ 1048576) := by unfold Hid; omega
                have hz2 := hz.out
                simp only [Trees.same] at hz2
                generalize (headEq k3 n3 t3 a3.length k4 n4 t4 a4.length && a3.same a4) = hb at *
                have HH := Lib.hid H
                clear hxr hyr hz hrs hjn hs3 hs4 hall hsr hsr2 hal H
                cases hb with
                | false =>
                  obtain rfl : false = z := by simpa using hz2
                  clear hz2
                  go_wp2
                  go_region_held3 (fun w' => (w'.cell? ⟨w.heap.size, 3, none⟩ = some (.slice (some y) nn c) ∧ w'.cell? ⟨w.heap.size + 1, 3, none⟩ = some (.slice (some y2) nn c2)) ∧ (w'.cell? (y.add (j * 4)) = some (.int .i64 k3) ∧ w'.cell? (fieldAt y j 1) = some (.int .i64 n3) ∧ w'.cell? (fieldAt y j 2) = some (.string t3) ∧ w'.cell? (fieldAt y j 3) = some (.slice q a3.length cq)) ∧ w'.cell? (y2.add (j * 4)) = some (.int .i64 k4) ∧ w'.cell? (fieldAt y2 j 1) = some (.int .i64 n4) ∧ w'.cell? (fieldAt y2 j 2) = some (.string t4) ∧ w'.cell? (fieldAt y2 j 3) = some (.slice q2 a4.length cq2))
                    (first
                      | go_keep
                      | (refine ⟨⟨cell_below ?_ hbl, cell_below ?_ hbl⟩, ⟨cell_below ?_ hbl, cell_below ?_ hbl, cell_below ?_ hbl, cell_below ?_ hbl⟩, cell_below ?_ hbl, cell_below ?_ hbl, cell_below ?_ hbl, cell_below ?_ hbl⟩ <;> assumption))
                    (first
                      | (go_at_call 12; refine (HH.out _ ((Below.refl _ _).drew)).mono ?_; rintro e w1 ⟨rfl, hbl⟩))
                  have HB1 : Hid (Below w0.heap.size w0 w1) := hB.out.trans ((below_of_drew hbl).mono hB.out.size)
                  clear hbl HH
                  go_wp2
                  go_ret
                  exact ⟨rfl, HB0.out.trans (HB1.out.mono HB0.out.size)⟩
                | true =>
                  have HZ2 : Hid (r.same s = z) := by unfold Hid; simpa using hz2
                  clear hz2
                  go_wp2
                  go_region_held3 (fun w' => (w'.cell? ⟨w.heap.size, 3, none⟩ = some (.slice (some y) nn c) ∧ w'.cell? ⟨w.heap.size + 1, 3, none⟩ = some (.slice (some y2) nn c2)) ∧ (w'.cell? (y.add (j * 4)) = some (.int .i64 k3) ∧ w'.cell? (fieldAt y j 1) = some (.int .i64 n3) ∧ w'.cell? (fieldAt y j 2) = some (.string t3) ∧ w'.cell? (fieldAt y j 3) = some (.slice q a3.length cq)) ∧ w'.cell? (y2.add (j * 4)) = some (.int .i64 k4) ∧ w'.cell? (fieldAt y2 j 1) = some (.int .i64 n4) ∧ w'.cell? (fieldAt y2 j 2) = some (.string t4) ∧ w'.cell? (fieldAt y2 j 3) = some (.slice q2 a4.length cq2))
                    (first
                      | go_keep
                      | (refine ⟨⟨cell_below ?_ hbl, cell_below ?_ hbl⟩, ⟨cell_below ?_ hbl, cell_below ?_ hbl, cell_below ?_ hbl, cell_below ?_ hbl⟩, cell_below ?_ hbl, cell_below ?_ hbl, cell_below ?_ hbl, cell_below ?_ hbl⟩ <;> assumption))
                    (first
                      | (go_at_call 12; refine (HH.out _ ((Below.refl _ _).drew)).mono ?_; rintro e w1 ⟨rfl, hbl⟩))
                  have HB1 : Hid (Below w0.heap.size w0 w1) := hB.out.trans ((below_of_drew hbl).mono hB.out.size)
                  clear hbl HH
                  go_wp2
                  go_roundw
                  case rel => exact ⟨j + 1, r, s, by go_num, hjn2, HRS, HZ2, hxr2, hyr2, HSR, HA2, HB1⟩
                  case measure => simp [intOf]; omega
end Go.Proofs.YtcalgjggmgnofaaDoor
end

/- What is proved here: the representation of a value as bytes, and what a walk with a stack has still to write of it. No condition. -/
section
namespace Go.Proofs.YtcalgjggmgnofaaDoor
open Go.RowKit

/-- A text of these bytes. -/
def str (l : List UInt8) : ByteArray := ⟨l.toArray⟩
theorem str_size (l : List UInt8) : (str l).size = l.length := by show l.toArray.size = _; simp
theorem str_data (t : ByteArray) : str t.data.toList = t := by
  cases t
  simp [str]
theorem str_append (a b : List UInt8) : str a ++ str b = str (a ++ b) := by
  apply ByteArray.ext
  show (str a ++ str b).data = _
  rw [ByteArray.data_append]
  simp [str]
theorem str_inj {a b : List UInt8} (h : str a = str b) : a = b := by
  have : (str a).data.toList = (str b).data.toList := by rw [h]
  simpa [str] using this

/-- A node without what is below it. -/
def headText (k n : Int) (t : ByteArray) : List UInt8 :=
  if k = 1 then Lib.itoa n else if k = 2 then 34 :: (t.data.toList ++ [34]) else if k = 3 then t.data.toList else [63]
def Trees.close : Trees → List UInt8
  | .nil => []
  | .cons _ _ _ _ _ => [41]
/-- The nodes of a row, each behind a separator; the first one behind a parenthesis (b). -/
def Trees.tail : Trees → Bool → List UInt8
  | .nil, _ => []
  | .cons k n t ar r, b => (if b then [40] else [44, 32]) ++ (headText k n t ++ (if k = 3 then ar.tail true ++ ar.close else [])) ++ r.tail false
/-- The representation of a node. -/
def nodeText (k n : Int) (t : ByteArray) (ar : Trees) : List UInt8 := headText k n t ++ (if k = 3 then ar.tail true ++ ar.close else [])
theorem tail_cons (k n : Int) (t : ByteArray) (ar r : Trees) (b : Bool) : (Trees.cons k n t ar r).tail b = (if b then [40] else [44, 32]) ++ nodeText k n t ar ++ r.tail false := rfl
/-- The row without the first separator. -/
def Trees.first : Trees → List UInt8
  | .nil => []
  | .cons k n t ar r => nodeText k n t ar ++ r.tail false
theorem tail_first (F : Trees) (b : Bool) (h : F ≠ .nil) : F.tail b = (if b then [40] else [44, 32]) ++ F.first := by
  cases F with
  | nil => exact absurd rfl h
  | cons k n t ar r => rw [tail_cons, List.append_assoc]; rfl
/-- What is to be written behind the rest of a row, where the rows st (the last first) are open. -/
def after : List Trees → List UInt8
  | [] => []
  | G :: st => [41] ++ G.tail false ++ after st
/-- What a stack has still to write, where its last row has still to begin. -/
def fin : List Trees → List UInt8
  | [] => []
  | F :: st => F.first ++ after st
/-- The marks between a node and the next one of the stack; the stack that is left. -/
def marks2 : List Trees → List UInt8 × List Trees
  | [] => ([], [])
  | .cons k n t ar r :: st => ([44, 32], .cons k n t ar r :: st)
  | .nil :: st => (if st = [] then marks2 st else (41 :: (marks2 st).1, (marks2 st).2))
theorem marks2_fin (st : List Trees) : ∀ F : Trees, F.tail false ++ after st = (marks2 (F :: st)).1 ++ fin (marks2 (F :: st)).2 := by
  induction st with
  | nil =>
    intro F
    cases F with
    | nil => rfl
    | cons k n t ar r => simp [marks2, fin, after, tail_first _ false (by simp : Trees.cons k n t ar r ≠ .nil)]
  | cons G st ih =>
    intro F
    cases F with
    | nil =>
      have h := ih G
      simp only [Trees.tail, marks2, after, List.nil_append]
      rw [if_neg (by simp)]
      simp only [List.cons_append, List.nil_append]
      rw [h]
    | cons k n t ar r => simp [marks2, fin, tail_first _ false (by simp : Trees.cons k n t ar r ≠ .nil)]
/-- A node without a row below: its text, then the marks. -/
theorem fin_leaf (k n : Int) (t : ByteArray) (ar r : Trees) (st : List Trees) (h : k ≠ 3 ∨ ar = .nil) : fin (.cons k n t ar r :: st) = headText k n t ++ (marks2 (r :: st)).1 ++ fin (marks2 (r :: st)).2 := by
  have e : nodeText k n t ar = headText k n t := by
    unfold nodeText
    rcases h with h | rfl
    · rw [if_neg h, List.append_nil]
    · split <;> simp [Trees.tail, Trees.close]
  rw [List.append_assoc, ← marks2_fin]
  simp only [fin, Trees.first, e, List.append_assoc]
/-- A constructor with a row below. -/
theorem fin_node (n : Int) (t : ByteArray) (ar r : Trees) (st : List Trees) (h : ar ≠ .nil) : fin (.cons 3 n t ar r :: st) = headText 3 n t ++ [40] ++ fin (ar :: r :: st) := by
  have e : ar.close = [41] := by
    cases ar with
    | nil => exact absurd rfl h
    | cons _ _ _ _ _ => rfl
  simp only [fin, Trees.first, nodeText, if_true, after, tail_first ar true h, e, List.append_assoc]
theorem fin_one (k n : Int) (t : ByteArray) (ar : Trees) : fin [.cons k n t ar .nil] = nodeText k n t ar := by
  simp [fin, Trees.first, after, Trees.tail]
/-- The stack that the marks leave: what had begun is nowhere empty on top. -/
theorem marks2_top (st : List Trees) : (marks2 st).2 = [] ∨ ∃ k n t ar r st2, (marks2 st).2 = .cons k n t ar r :: st2 := by
  induction st with
  | nil => exact .inl rfl
  | cons F st ih =>
    cases F with
    | cons k n t ar r => exact .inr ⟨k, n, t, ar, r, st, rfl⟩
    | nil =>
      simp only [marks2]
      split
      · exact ih
      · exact ih

/-! Lengths. -/
theorem itoa_len (n : Int) (h0 : -9223372036854775808 ≤ n) (h1 : n ≤ 9223372036854775807) : (Lib.itoa n).length ≤ 21 := Lib.itoa_length_le n h0 h1
theorem headText_len (k n : Int) (t : ByteArray) (hn : -9223372036854775808 ≤ n ∧ n ≤ 9223372036854775807) : (headText k n t).length ≤ 21 + t.size := by
  have h := itoa_len n hn.1 hn.2
  have e : t.data.toList.length = t.size := rfl
  unfold headText
  split
  · omega
  · split
    · simp only [List.length_cons, List.length_append, e]; simp; omega
    · split
      · omega
      · simp; omega
theorem tail_len (F : Trees) (hf : F.fits) : ∀ b, (F.tail b).length ≤ 24 * F.size := by
  induction F with
  | nil => intro b; simp [Trees.tail]
  | cons k n t ar r ih1 ih2 =>
    intro b
    obtain ⟨_, hn, _, _, h4, h5⟩ := hf
    have h := headText_len k n t hn
    have hc : ar.close.length ≤ 1 := by cases ar <;> simp [Trees.close]
    have a1 := ih1 h4 true
    have a2 := ih2 h5 false
    have e : ((if k = 3 then ar.tail true ++ ar.close else []) : List UInt8).length ≤ 24 * ar.size + 1 := by
      split
      · rw [List.length_append]; omega
      · simp
    have e2 : ((if b then [40] else [44, 32]) : List UInt8).length ≤ 2 := by cases b <;> simp
    simp only [Trees.tail, List.length_append, Trees.size]
    omega
theorem nodeText_len (k n : Int) (t : ByteArray) (ar : Trees) (hn : -9223372036854775808 ≤ n ∧ n ≤ 9223372036854775807) (hf : ar.fits) : (nodeText k n t ar).length ≤ 24 * (t.size + ar.size) + 22 := by
  have h := headText_len k n t hn
  have a1 := tail_len ar hf true
  have hc : ar.close.length ≤ 1 := by cases ar <;> simp [Trees.close]
  unfold nodeText
  rw [List.length_append]
  split
  · rw [List.length_append]; omega
  · simp; omega
end Go.Proofs.YtcalgjggmgnofaaDoor
end

/- What is proved here: the model's FormatInt (package spec) returns the decimal numeral of every int. Condition: the argument is an int. -/
section
namespace Go.Proofs.YtcalgjggmgnofaaDoor
open Go.RowKit
open Go.Lib (decDigits nDigits)

/-- 'string([]byte{byte(48 + d)})' off a new block. -/
theorem conv_one (d : Nat) (hd : d < 10) (w : World) :
    (convert 22 9 (.slice (some ⟨w.heap.size, 0, none⟩) 1 1)).run Tryd.prog (w.alloc (.cells #[.int .u8 (48 + (d : Int))] 5)) = .ok (.string ⟨#[UInt8.ofNat (48 + d)]⟩) (w.alloc (.cells #[.int .u8 (48 + (d : Int))] 5)) := by
  have h := run_convert_bytes_back (P := Tryd.prog) (w.alloc (.cells #[.int .u8 (48 + (d : Int))] 5)) 22 9 5 ⟨w.heap.size, 0, none⟩ 1 [UInt8.ofNat (48 + d)] Tryd.underlying22 Tryd.underlying5 Tryd.underlying9 (fun j hj => by
    have hj0 : j = 0 := by simpa using hj
    subst hj0
    have e : ((UInt8.ofNat (48 + d)).toNat : Int) = 48 + (d : Int) := by simp; omega
    rw [Lib.add_plain]
    simp only [List.getElem_cons_zero]
    rw [e]
    simp [World.cell?_alloc_new])
  simpa using h

theorem cat_one (c : UInt8) (L : List UInt8) (h : L.length ≤ 100) (w : World) : (Op.stringOp .add ⟨#[c]⟩ ⟨L.toArray⟩).run Tryd.prog w = .ok (.string ⟨(c :: L).toArray⟩) w := by
  have e1 : (ByteArray.mk #[c]).size = 1 := rfl
  have e2 : (ByteArray.mk L.toArray).size = L.length := by show L.toArray.size = _; simp
  rw [run_string_add_sum w _ _ (by rw [e1, e2]; omega)]
  rfl

set_option maxHeartbeats 400000 in
set_option maxRecDepth 100000 in
theorem spec_format_pos (n : Nat) (h1 : n ≤ 9223372036854775807) (hp : n ≠ 0) (w : World) :
    Calls Tryd.prog 44 #[.int .i64 (n : Int)] w fun e w' => e = .returned (.string ⟨(decDigits n).toArray⟩) ∧ Below w.heap.size w w' := by
  have hn20 : (decDigits n).length ≤ 20 := by rw [Lib.decDigits_length]; exact Lib.nDigits_le20 n (by omega)
  have HN := Lib.hid hn20
  clear hn20
  go_enter Tryd.func44, Tryd.ntmps44
  go_wp2
  go_loopw [0, 4] (fun a o wr => ∃ (u : Nat) (L : List UInt8), a = .int .i64 u ∧ u ≤ n ∧ o = .string ⟨L.toArray⟩ ∧ L.length ≤ 20 ∧ digitsOf u ++ L = decDigits n ∧ Below w.heap.size w wr) (fun a _ _ => (intOf a).toNat)
  case atStart => exact ⟨n, [], rfl, Nat.le_refl _, rfl, by simp, by simp [digitsOf_pos hp], Below.refl _ _⟩
  case round =>
    obtain ⟨u, L, rfl, hu, rfl, hL, hD, hb⟩ := hrel
    by_cases h0 : u = 0
    · subst h0
      go_wp2
      go_ret
      rw [digitsOf_zero] at hD
      simp at hD
      subst hD
      exact ⟨rfl, hb⟩
    · have hD' := Lib.hid hD
      clear hD
      have hcv := conv_one (u % 10) (by omega) wr
      have hct := cat_one (UInt8.ofNat (48 + u % 10)) L (by omega)
      simp only [Int.natCast_emod, Int.cast_ofNat_Int] at hcv
      go_wp2
      go_roundw
      case rel => 
        refine ⟨u / 10, _, by go_num, by omega, rfl, ?_, ?_, ?_⟩
        · have := hD'.out
          rw [digitsOf_step h0] at this
          have h2 := congrArg List.length this
          have h3 := HN.out
          simp at h2 ⊢
          omega
        · have := hD'.out
          rw [digitsOf_step h0] at this
          simpa using this
        · exact hb.alloc (by have := hb.size; omega) _
      case measure => simp [intOf]; omega

set_option maxHeartbeats 400000 in
set_option maxRecDepth 100000 in
theorem spec_format_neg (n : Nat) (h1 : n ≤ 9223372036854775808) (hp : n ≠ 0) (w : World) :
    Calls Tryd.prog 44 #[.int .i64 (-(n : Int))] w fun e w' => e = .returned (.string ⟨(45 :: decDigits n).toArray⟩) ∧ Below w.heap.size w w' := by
  have hn20 : (decDigits n).length ≤ 20 := by rw [Lib.decDigits_length]; exact Lib.nDigits_le20 n (by omega)
  have hct0 := cat_one 45 (decDigits n) (by omega)
  have HN := Lib.hid hn20
  clear hn20
  have hz : (-(n : Int) == 0) = false := by simp; omega
  have hl : decide (-(n : Int) < 0) = true := by simp; omega
  go_enter Tryd.func44, Tryd.ntmps44
  go_wp2
  go_loopw [0, 4] (fun a o wr => ∃ (u : Nat) (L : List UInt8), a = .int .i64 (-(u : Int)) ∧ u ≤ n ∧ o = .string ⟨L.toArray⟩ ∧ L.length ≤ 20 ∧ digitsOf u ++ L = decDigits n ∧ Below w.heap.size w wr) (fun a _ _ => (intOf a).natAbs)
  case atStart => exact ⟨n, [], rfl, Nat.le_refl _, rfl, by simp, by simp [digitsOf_pos hp], Below.refl _ _⟩
  case round =>
    obtain ⟨u, L, rfl, hu, rfl, hL, hD, hb⟩ := hrel
    by_cases h0 : u = 0
    · subst h0
      rw [digitsOf_zero] at hD
      simp at hD
      subst hD
      go_wp2
      go_ret
      exact ⟨rfl, hb⟩
    · have hD' := Lib.hid hD
      clear hD
      have hcv := conv_one (u % 10) (by omega) wr
      have hct := cat_one (UInt8.ofNat (48 + u % 10)) L (by omega)
      simp only [Int.natCast_emod, Int.cast_ofNat_Int] at hcv
      have hcv2 := hcv
      by_cases hd : u % 10 = 0
      · rw [show 48 + ((u : Int) % 10) = 48 + -((u : Int) % 10) by omega] at hcv2
        clear hcv
        have HD := Lib.hid hd
        have hd1 : ¬ ((u : Int) % 10 < 0) := by omega
        have hd2 : ¬ (0 < (u : Int) % 10) := by omega
        clear hd
        go_wp2
        go_roundw
        case rel =>
          refine ⟨u / 10, _, by go_num, by omega, rfl, ?_, ?_, ?_⟩
          · have := hD'.out
            rw [digitsOf_step h0] at this
            have h2 := congrArg List.length this
            have h3 := HN.out
            simp at h2 ⊢
            omega
          · have := hD'.out
            rw [digitsOf_step h0] at this
            simpa using this
          · exact hb.alloc (by have := hb.size; omega) _
        case measure => simp [intOf]; omega
      · clear hcv2
        go_wp2
        go_roundw
        case rel =>
          refine ⟨u / 10, _, by go_num, by omega, rfl, ?_, ?_, ?_⟩
          · have := hD'.out
            rw [digitsOf_step h0] at this
            have h2 := congrArg List.length this
            have h3 := HN.out
            simp at h2 ⊢
            omega
          · have := hD'.out
            rw [digitsOf_step h0] at this
            simpa using this
          · exact hb.alloc (by have := hb.size; omega) _
        case measure => simp [intOf]; omega

theorem spec_format_zero (w : World) :
    Calls Tryd.prog 44 #[.int .i64 0] w fun e w' => e = .returned (.string ⟨(decDigits 0).toArray⟩) ∧ Below w.heap.size w w' := by
  have e : decDigits 0 = [48] := by rw [Lib.decDigits_one (by omega)]; rfl
  rw [e]
  go_enter Tryd.func44, Tryd.ntmps44
  go_wp2
  go_ret
  exact ⟨rfl, Below.refl _ _⟩

/-- spec.FormatInt: the decimal numeral of every int. -/
theorem spec_format (n : Int) (h0 : -9223372036854775808 ≤ n) (h1 : n ≤ 9223372036854775807) (w : World) :
    Calls Tryd.prog 44 #[.int .i64 n] w fun e w' => e = .returned (.string ⟨(Lib.itoa n).toArray⟩) ∧ Below w.heap.size w w' := by
  by_cases hn : n < 0
  · obtain ⟨u, rfl⟩ : ∃ u : Nat, n = -(u : Int) := ⟨n.natAbs, by omega⟩
    rw [Lib.itoa_neg u (by omega)]
    exact spec_format_neg u (by omega) (by omega) w
  · obtain ⟨u, rfl⟩ : ∃ u : Nat, n = (u : Int) := ⟨n.toNat, by omega⟩
    rw [Lib.itoa_nonneg]
    by_cases hu : u = 0
    · subst hu
      exact spec_format_zero w
    · exact spec_format_pos u (by omega) hu w

end Go.Proofs.YtcalgjggmgnofaaDoor
end

/- What is proved here: contracts of Go's library, laid at this program's numbers; each is one application of a theorem of the kit. Its own premises are its conditions. -/
section
namespace Go.Proofs
open Go.Shelf
def Tryd.lays156_ren : Go.Shelf.Ren := ⟨fun | 156 => 63 | 165 => 83 | 166 => 84 | 169 => 85 | 240 => 105 | 241 => 106 | 276 => 120 | 277 => 121 | n => n, fun | 31 => 62 | 9 => 9 | 3 => 3 | 4 => 4 | 0 => 0 | 20 => 20 | 72 => 119 | 76 => 123 | 70 => 117 | 37 => 22 | 75 => 122 | 127 => 138 | 164 => 151 | 5 => 5 | 80 => 103 | n => n, fun | n => n⟩
theorem Tryd.lays156 : Go.Proofs.Lays.n156 Tryd.prog Tryd.lays156_ren := {
  mixed := by kernel_rfl
  f156 := Tryd.func63.trans (congrArg some (by kernel_rfl))
  f165 := Tryd.func83.trans (congrArg some (by kernel_rfl))
  f166 := Tryd.func84.trans (congrArg some (by kernel_rfl))
  f169 := Tryd.func85.trans (congrArg some (by kernel_rfl))
  f240 := Tryd.func105.trans (congrArg some (by kernel_rfl))
  f241 := Tryd.func106.trans (congrArg some (by kernel_rfl))
  f276 := Tryd.func120.trans (congrArg some (by kernel_rfl))
  f277 := Tryd.func121.trans (congrArg some (by kernel_rfl))
  t0 := Tryd.underlying0
  a0 := Tryd.isAgg0
  z0 := Tryd.sizeOf0
  v0 := Tryd.zeroValue0
  t3 := Tryd.underlying3
  a3 := Tryd.isAgg3
  z3 := Tryd.sizeOf3
  v3 := Tryd.zeroValue3
  t4 := Tryd.underlying4
  a4 := Tryd.isAgg4
  z4 := Tryd.sizeOf4
  v4 := Tryd.zeroValue4
  t9 := Tryd.underlying9
  a9 := Tryd.isAgg9
  z9 := Tryd.sizeOf9
  v9 := Tryd.zeroValue9
  t20 := Tryd.underlying20
  a20 := Tryd.isAgg20
  z20 := Tryd.sizeOf20
  v20 := Tryd.zeroValue20
  t31 := Tryd.underlying62
  a31 := Tryd.isAgg62
  z31 := Tryd.sizeOf62
  v31 := Tryd.zeroValue62
  t37 := Tryd.underlying22
  a37 := Tryd.isAgg22
  z37 := Tryd.sizeOf22
  v37 := Tryd.zeroValue22
  t70 := Tryd.underlying117
  a70 := Tryd.isAgg117
  z70 := Tryd.sizeOf117
  v70 := Tryd.zeroValue117
  t72 := Tryd.underlying119
  a72 := Tryd.isAgg119
  z72 := Tryd.sizeOf119
  v72 := Tryd.zeroValue119
  t75 := Tryd.underlying122
  a75 := Tryd.isAgg122
  z75 := Tryd.sizeOf122
  v75 := Tryd.zeroValue122
  t76 := Tryd.underlying123
  a76 := Tryd.isAgg123
  z76 := Tryd.sizeOf123
  v76 := Tryd.zeroValue123
  t127 := Tryd.underlying138
  a127 := Tryd.isAgg138
  z127 := Tryd.sizeOf138
  v127 := Tryd.zeroValue138
  t164 := Tryd.underlying151
  a164 := Tryd.isAgg151
  z164 := Tryd.sizeOf151
  v164 := Tryd.zeroValue151 }
theorem Tryd.Builder_Extra_156 : Builder.Extra Tryd.prog Tryd.lays156_ren := {
  sizeBuilder := by kernel_rfl
  liesBuilder := by kernel_rfl
  t5 := Tryd.underlying5
  a5 := Tryd.isAgg5
  z5 := Tryd.sizeOf5
  v5 := Tryd.zeroValue5
  infoByte := by kernel_rfl
  cellsByte := by kernel_rfl
  sizeByte := by kernel_rfl
  neB5 := by decide }
open Go.RowKit in
theorem Tryd.strings_Join (bk o c : Nat) (xs : List ByteArray) (sep : ByteArray) (w : World) (hcells : ∀ (j : Nat) x, xs[j]? = some x → w.cell? ⟨bk, o + j, none⟩ = some (.string x)) (hbk : bk < w.heap.size) (hN : xs.length ≤ 140737488355328) (hcap : xs.length ≤ c) (hlen : (Lib.join (xs.map (·.data.toList)) sep.data.toList).length ≤ 140737488355328) :
    Calls Tryd.prog 63 #[.slice (some ⟨bk, o, none⟩) xs.length c, .string sep] w fun e w' => e = .returned (.string ⟨(Lib.join (xs.map (·.data.toList)) sep.data.toList).toArray⟩) ∧ Below w.heap.size w w' := Any.strings_Join Tryd.lays156 Tryd.Builder_Extra_156 bk o c xs sep w hcells hbk hN hcap hlen
def Tryd.lays103_ren : Go.Shelf.Ren := ⟨fun | 103 => 94 | 210 => 107 | 206 => 122 | n => n, fun | 9 => 9 | 4 => 4 | 24 => 129 | 3 => 3 | n => n, fun | n => n⟩
theorem Tryd.lays103 : Go.Proofs.Lays.n103 Tryd.prog Tryd.lays103_ren := {
  mixed := by kernel_rfl
  f103 := Tryd.func94.trans (congrArg some (by kernel_rfl))
  f206 := Tryd.func122.trans (congrArg some (by kernel_rfl))
  f210 := Tryd.func107.trans (congrArg some (by kernel_rfl))
  t3 := Tryd.underlying3
  a3 := Tryd.isAgg3
  z3 := Tryd.sizeOf3
  v3 := Tryd.zeroValue3
  t4 := Tryd.underlying4
  a4 := Tryd.isAgg4
  z4 := Tryd.sizeOf4
  v4 := Tryd.zeroValue4
  t9 := Tryd.underlying9
  a9 := Tryd.isAgg9
  z9 := Tryd.sizeOf9
  v9 := Tryd.zeroValue9
  t24 := Tryd.underlying129
  a24 := Tryd.isAgg129
  z24 := Tryd.sizeOf129
  v24 := Tryd.zeroValue129 }
open Go.RowKit in
theorem Tryd.strings_CutPrefix (s p : ByteArray) (w : World) :
    Calls Tryd.prog 94 #[.string s, .string p] w fun e w' => e = .returned (.tuple #[.string ⟨(Lib.trimPrefix s.data.toList p.data.toList).toArray⟩, .bool (Lib.hasPrefix s.data.toList p.data.toList)]) ∧ w' = w := Any.strings_CutPrefix Tryd.lays103 s p w
def Tryd.laysM171_ren : Go.Shelf.Ren := ⟨fun | 171 => 62 | 243 => 82 | 246 => 104 | 283 => 116 | 284 => 117 | 285 => 118 | 286 => 119 | 129 => 131 | 317 => 130 | 318 => 132 | 319 => 133 | 320 => 134 | 337 => 142 | 338 => 143 | n => n, fun | 3 => 3 | 9 => 9 | 2 => 2 | 4 => 4 | 171 => 145 | 0 => 0 | 53 => 146 | 37 => 22 | 5 => 5 | 173 => 149 | 212 => 161 | 51 => 162 | 20 => 20 | 213 => 163 | 46 => 126 | 232 => 180 | 233 => 181 | n => n, fun | 17 => 0 | 18 => 4 | 19 => 5 | n => n⟩
theorem Tryd.laysM171 : Go.Proofs.LaysM.n171 Tryd.prog Tryd.laysM171_ren := {
  mixed := by kernel_rfl
  f129 := Tryd.func131.trans (congrArg some (by kernel_rfl))
  f171 := Tryd.func62.trans (congrArg some (by kernel_rfl))
  f243 := Tryd.func82.trans (congrArg some (by kernel_rfl))
  f246 := Tryd.func104.trans (congrArg some (by kernel_rfl))
  f283 := Tryd.func116.trans (congrArg some (by kernel_rfl))
  f284 := Tryd.func117.trans (congrArg some (by kernel_rfl))
  f285 := Tryd.func118.trans (congrArg some (by kernel_rfl))
  f286 := Tryd.func119.trans (congrArg some (by kernel_rfl))
  f317 := Tryd.func130.trans (congrArg some (by kernel_rfl))
  f318 := Tryd.func132.trans (congrArg some (by kernel_rfl))
  f319 := Tryd.func133.trans (congrArg some (by kernel_rfl))
  f320 := Tryd.func134.trans (congrArg some (by kernel_rfl))
  f337 := Tryd.func142.trans (congrArg some (by kernel_rfl))
  f338 := Tryd.func143.trans (congrArg some (by kernel_rfl))
  t0 := Tryd.underlying0
  a0 := Tryd.isAgg0
  z0 := Tryd.sizeOf0
  v0 := Tryd.zeroValue0
  t2 := Tryd.underlying2
  a2 := Tryd.isAgg2
  z2 := Tryd.sizeOf2
  v2 := Tryd.zeroValue2
  t3 := Tryd.underlying3
  a3 := Tryd.isAgg3
  z3 := Tryd.sizeOf3
  v3 := Tryd.zeroValue3
  t4 := Tryd.underlying4
  a4 := Tryd.isAgg4
  z4 := Tryd.sizeOf4
  v4 := Tryd.zeroValue4
  t5 := Tryd.underlying5
  a5 := Tryd.isAgg5
  z5 := Tryd.sizeOf5
  v5 := Tryd.zeroValue5
  t9 := Tryd.underlying9
  a9 := Tryd.isAgg9
  z9 := Tryd.sizeOf9
  v9 := Tryd.zeroValue9
  t20 := Tryd.underlying20
  a20 := Tryd.isAgg20
  z20 := Tryd.sizeOf20
  v20 := Tryd.zeroValue20
  t37 := Tryd.underlying22
  a37 := Tryd.isAgg22
  z37 := Tryd.sizeOf22
  v37 := Tryd.zeroValue22
  t46 := Tryd.underlying126
  a46 := Tryd.isAgg126
  z46 := Tryd.sizeOf126
  v46 := Tryd.zeroValue126
  t51 := Tryd.underlying162
  a51 := Tryd.isAgg162
  z51 := Tryd.sizeOf162
  v51 := Tryd.zeroValue162
  t53 := Tryd.underlying146
  a53 := Tryd.isAgg146
  z53 := Tryd.sizeOf146
  v53 := Tryd.zeroValue146
  t171 := Tryd.underlying145
  a171 := Tryd.isAgg145
  z171 := Tryd.sizeOf145
  v171 := Tryd.zeroValue145
  t173 := Tryd.underlying149
  a173 := Tryd.isAgg149
  z173 := Tryd.sizeOf149
  v173 := Tryd.zeroValue149
  t212 := Tryd.underlying161
  a212 := Tryd.isAgg161
  z212 := Tryd.sizeOf161
  v212 := Tryd.zeroValue161
  t213 := Tryd.underlying163
  a213 := Tryd.isAgg163
  z213 := Tryd.sizeOf163
  t232 := Tryd.underlying180
  a232 := Tryd.isAgg180
  z232 := Tryd.sizeOf180
  v232 := Tryd.zeroValue180
  t233 := Tryd.underlying181
  a233 := Tryd.isAgg181
  z233 := Tryd.sizeOf181
  v233 := Tryd.zeroValue181
  g17 := by kernel_rfl
  g18 := by kernel_rfl
  g19 := by kernel_rfl
  i0 := by kernel_rfl
  i2 := by kernel_rfl
  i3 := by kernel_rfl
  i4 := by kernel_rfl
  i5 := by kernel_rfl
  i9 := by kernel_rfl
  i20 := by kernel_rfl
  i37 := by kernel_rfl
  i46 := by kernel_rfl
  i51 := by kernel_rfl
  i53 := by kernel_rfl
  i171 := by kernel_rfl
  i173 := by kernel_rfl
  i212 := by kernel_rfl
  i232 := by kernel_rfl
  i233 := by kernel_rfl
  m17 := by kernel_rfl
  m18 := by kernel_rfl
  m19 := by kernel_rfl }
open Go.RowKit Go.Sort Go.Lib in
theorem Tryd.strconv_Itoa (n : Int) (h0 : -9223372036854775808 ≤ n) (h1 : n ≤ 9223372036854775807) (w : World) (htab : Lib.TabIs Tryd.prog w "internal/strconv.uint64pow10" .u64 Lib.pow10Tab) :
    Calls Tryd.prog 62 #[.int .i64 n] w fun e w' => e = .returned (.string ⟨(Lib.itoa n).toArray⟩) ∧ ∃ k os, w' = grow (w.drewN k) os := Any.strconv_Itoa Tryd.laysM171 n h0 h1 w htab
def Tryd.lays145_ren : Go.Shelf.Ren := ⟨fun | 145 => 95 | 220 => 108 | 219 => 123 | 217 => 135 | 225 => 127 | 224 => 126 | 267 => 136 | 266 => 144 | 314 => 145 | n => n, fun | 9 => 9 | 4 => 4 | 59 => 131 | 3 => 3 | 5 => 5 | 46 => 126 | 146 => 172 | 51 => 162 | n => n, fun | 1 => 1 | n => n⟩
theorem Tryd.lays145 : Go.Proofs.Lays.n145 Tryd.prog Tryd.lays145_ren := {
  mixed := by kernel_rfl
  f145 := Tryd.func95.trans (congrArg some (by kernel_rfl))
  f217 := Tryd.func135.trans (congrArg some (by kernel_rfl))
  f219 := Tryd.func123.trans (congrArg some (by kernel_rfl))
  f220 := Tryd.func108.trans (congrArg some (by kernel_rfl))
  f224 := Tryd.func126.trans (congrArg some (by kernel_rfl))
  f225 := Tryd.func127.trans (congrArg some (by kernel_rfl))
  f266 := Tryd.func144.trans (congrArg some (by kernel_rfl))
  f267 := Tryd.func136.trans (congrArg some (by kernel_rfl))
  f314 := Tryd.func145.trans (congrArg some (by kernel_rfl))
  t3 := Tryd.underlying3
  a3 := Tryd.isAgg3
  z3 := Tryd.sizeOf3
  v3 := Tryd.zeroValue3
  t4 := Tryd.underlying4
  a4 := Tryd.isAgg4
  z4 := Tryd.sizeOf4
  v4 := Tryd.zeroValue4
  t5 := Tryd.underlying5
  a5 := Tryd.isAgg5
  z5 := Tryd.sizeOf5
  v5 := Tryd.zeroValue5
  t9 := Tryd.underlying9
  a9 := Tryd.isAgg9
  z9 := Tryd.sizeOf9
  v9 := Tryd.zeroValue9
  t46 := Tryd.underlying126
  a46 := Tryd.isAgg126
  z46 := Tryd.sizeOf126
  v46 := Tryd.zeroValue126
  t51 := Tryd.underlying162
  a51 := Tryd.isAgg162
  z51 := Tryd.sizeOf162
  v51 := Tryd.zeroValue162
  t59 := Tryd.underlying131
  a59 := Tryd.isAgg131
  z59 := Tryd.sizeOf131
  v59 := Tryd.zeroValue131
  t146 := Tryd.underlying172
  a146 := Tryd.isAgg172
  z146 := Tryd.sizeOf172
  v146 := Tryd.zeroValue172
  g1 := by kernel_rfl }
open Go.RowKit Go.Lib in
theorem Tryd.strings_Cut (s sep : ByteArray) (m : Int) (w : World) (hs : s.size < 4294967281) (hm : w.cell? ⟨1, 0, none⟩ = some (.int .i64 m)) :
    Calls Tryd.prog 95 #[.string s, .string sep] w fun e w' => e = .returned (.tuple #[.string ⟨(Lib.cut s.data.toList sep.data.toList).1.toArray⟩, .string ⟨(Lib.cut s.data.toList sep.data.toList).2.1.toArray⟩, .bool (Lib.cut s.data.toList sep.data.toList).2.2]) ∧ ∃ n, w' = w.drewN n := Any.strings_Cut Tryd.lays145 s sep m w hs hm
def Tryd.lays153_ren : Go.Shelf.Ren := ⟨fun | 153 => 98 | 152 => 109 | 226 => 110 | 227 => 111 | 228 => 112 | 137 => 124 | 119 => 125 | 224 => 126 | 225 => 127 | 217 => 135 | 266 => 144 | n => n, fun | 9 => 9 | 3 => 3 | 4 => 4 | 5 => 5 | 21 => 21 | 117 => 142 | 116 => 141 | 0 => 0 | 46 => 126 | 124 => 158 | n => n, fun | n => n⟩
theorem Tryd.lays153 : Go.Proofs.Lays.n153 Tryd.prog Tryd.lays153_ren := {
  mixed := by kernel_rfl
  f119 := Tryd.func125.trans (congrArg some (by kernel_rfl))
  f137 := Tryd.func124.trans (congrArg some (by kernel_rfl))
  f152 := Tryd.func109.trans (congrArg some (by kernel_rfl))
  f153 := Tryd.func98.trans (congrArg some (by kernel_rfl))
  f217 := Tryd.func135.trans (congrArg some (by kernel_rfl))
  f224 := Tryd.func126.trans (congrArg some (by kernel_rfl))
  f225 := Tryd.func127.trans (congrArg some (by kernel_rfl))
  f226 := Tryd.func110.trans (congrArg some (by kernel_rfl))
  f227 := Tryd.func111.trans (congrArg some (by kernel_rfl))
  f228 := Tryd.func112.trans (congrArg some (by kernel_rfl))
  f266 := Tryd.func144.trans (congrArg some (by kernel_rfl))
  t0 := Tryd.underlying0
  a0 := Tryd.isAgg0
  z0 := Tryd.sizeOf0
  v0 := Tryd.zeroValue0
  t3 := Tryd.underlying3
  a3 := Tryd.isAgg3
  z3 := Tryd.sizeOf3
  v3 := Tryd.zeroValue3
  t4 := Tryd.underlying4
  a4 := Tryd.isAgg4
  z4 := Tryd.sizeOf4
  v4 := Tryd.zeroValue4
  t5 := Tryd.underlying5
  a5 := Tryd.isAgg5
  z5 := Tryd.sizeOf5
  v5 := Tryd.zeroValue5
  t9 := Tryd.underlying9
  a9 := Tryd.isAgg9
  z9 := Tryd.sizeOf9
  v9 := Tryd.zeroValue9
  t21 := Tryd.underlying21
  a21 := Tryd.isAgg21
  z21 := Tryd.sizeOf21
  v21 := Tryd.zeroValue21
  t46 := Tryd.underlying126
  a46 := Tryd.isAgg126
  z46 := Tryd.sizeOf126
  v46 := Tryd.zeroValue126
  t116 := Tryd.underlying141
  a116 := Tryd.isAgg141
  z116 := Tryd.sizeOf141
  t117 := Tryd.underlying142
  a117 := Tryd.isAgg142
  z117 := Tryd.sizeOf142
  v117 := Tryd.zeroValue142
  t124 := Tryd.underlying158
  a124 := Tryd.isAgg158
  z124 := Tryd.sizeOf158
  v124 := Tryd.zeroValue158 }
open Go.RowKit Go.Lib in
theorem Tryd.strings_IndexAny_none (s chars : ByteArray) (w : World) (h0 : chars.size = 0) :
    Calls Tryd.prog 98 #[.string s, .string chars] w fun e w' => e = .returned (.int .i64 (Lib.indexAny s.data.toList chars.data.toList)) ∧ w' = w := Any.strings_IndexAny_none Tryd.lays153 s chars w h0
open Go.RowKit Go.Lib in
theorem Tryd.strings_IndexAny (hv116 : ∀ w, (zeroValue 141).run Tryd.prog w = .ok (.agg (Array.replicate 256 (.bool false))) w) (s chars : ByteArray) (w : World) (hs : s.size < 4294967281) (hcs : chars.size < 4294967281) (has : ∀ (j : Nat) b, s.data.toList[j]? = some b → b.toNat < 128) (hac : ∀ (j : Nat) b, chars.data.toList[j]? = some b → b.toNat < 128) :
    Calls Tryd.prog 98 #[.string s, .string chars] w fun e w' => e = .returned (.int .i64 (Lib.indexAny s.data.toList chars.data.toList)) ∧ Below w.heap.size w w' := Any.strings_IndexAny Tryd.lays153 hv116 (by kernel_rfl) s chars w hs hcs has hac
end Go.Proofs
end

/- What is proved here: impl.FormatInt returns the decimal numeral of every int. Condition: the table internal/strconv.uint64pow10 holds the powers of ten. -/
section
namespace Go.Proofs.YtcalgjggmgnofaaDoor
open Go.RowKit

set_option maxHeartbeats 400000 in
theorem impl_format (n : Int) (h0 : -9223372036854775808 ≤ n) (h1 : n ≤ 9223372036854775807) (w : World) (htab : Lib.TabIs Tryd.prog w "internal/strconv.uint64pow10" .u64 Lib.pow10Tab) :
    Calls Tryd.prog 42 #[.int .i64 n] w fun e w' => e = .returned (.string ⟨(Lib.itoa n).toArray⟩) ∧ Below w.heap.size w w' := by
  go_enter Tryd.func42, Tryd.ntmps42
  go_wp2_with fail
  refine (Tryd.strconv_Itoa n h0 h1 _ htab).mono ?_
  rintro e w' ⟨rfl, k, os, rfl⟩
  go_wp2
  go_ret
  exact ⟨rfl, Lib.below_grow _ _ (Nat.le_refl _) k os⟩

end Go.Proofs.YtcalgjggmgnofaaDoor
end

/- What is proved here: the model's and the program's FormatKey. Condition: the number is an int, the text small; the table of the powers of ten is as listed. -/
section
namespace Go.Proofs.YtcalgjggmgnofaaDoor
open Go.RowKit

theorem catK (a b : List UInt8) (h : a.length + b.length ≤ 1099511627776) (w : World) : (Op.stringOp .add (str a) (str b)).run Tryd.prog w = .ok (.string (str (a ++ b))) w := by
  rw [run_string_add_sum w _ _ (by rw [str_size, str_size]; omega), str_append]

set_option maxHeartbeats 1000000 in
set_option maxRecDepth 100000 in
theorem spec_formatKey (w : World) (k n : Int) (t : ByteArray) (hn : -9223372036854775808 ≤ n ∧ n ≤ 9223372036854775807) (ht : t.size ≤ 1048576) :
    Calls Tryd.prog 25 #[.agg #[.int .i64 k, .int .i64 n, .string t]] w fun e w' => e = .returned (.string (str (headText k n t))) ∧ Below w.heap.size w w' := by
  have HB0 := Lib.hid ((Below.refl w.heap.size w).alloc (Nat.le_refl _) (.cells #[.int .i64 k, .int .i64 n, .string t] 40))
  by_cases h1 : k = 1
  · subst h1
    have e : headText 1 n t = Lib.itoa n := by simp [headText]
    rw [e]
    have HF := spec_format n hn.1 hn.2
    clear hn e
    go_enter Tryd.func25, Tryd.ntmps25
    go_wp2_with fail
    refine (HF _).mono ?_
    rintro e w1 ⟨rfl, hb1⟩
    have HB1 := Lib.hid hb1
    clear hb1 HF
    go_wp2
    go_ret
    exact ⟨rfl, HB0.out.trans (HB1.out.mono HB0.out.size)⟩
  · have e1 : (k == 1) = false := by simpa using h1
    by_cases h2 : k = 2
    · subst h2
      have e : headText 2 n t = [34] ++ t.data.toList ++ [34] := by simp [headText]
      rw [e]
      have htl : t.data.toList.length = t.size := rfl
      have hc1 := fun w => catK [34] t.data.toList (by rw [htl]; simp; omega) w
      rw [str_data] at hc1
      have hc2 := fun w => catK ([34] ++ t.data.toList) [34] (by rw [List.length_append, htl]; simp; omega) w
      change ∀ w, (Op.stringOp .add ⟨#[34]⟩ t).run Tryd.prog w = _ at hc1
      change ∀ w, (Op.stringOp .add (str ([34] ++ t.data.toList)) ⟨#[34]⟩).run Tryd.prog w = _ at hc2
      generalize hs1 : str ([34] ++ t.data.toList) = s1 at *
      generalize hs2 : str ([34] ++ t.data.toList ++ [34]) = s2 at *
      clear hn e htl hs1 hs2
      go_enter Tryd.func25, Tryd.ntmps25
      go_wp2
      go_ret
      exact ⟨rfl, HB0.out⟩
    · have e2 : (k == 2) = false := by simpa using h2
      by_cases h3 : k = 3
      · subst h3
        have e : headText 3 n t = t.data.toList := by simp [headText]
        rw [e, str_data]
        clear hn e
        go_enter Tryd.func25, Tryd.ntmps25
        go_wp2
        go_ret
        exact ⟨rfl, HB0.out⟩
      · have e3 : (k == 3) = false := by simpa using h3
        have e : headText k n t = [63] := by simp [headText, h1, h2, h3]
        rw [e]
        clear hn e h1 h2 h3
        go_enter Tryd.func25, Tryd.ntmps25
        go_wp2
        go_ret
        exact ⟨rfl, HB0.out⟩

set_option maxHeartbeats 1000000 in
set_option maxRecDepth 100000 in
theorem impl_formatKey (w : World) (k n : Int) (t : ByteArray) (hn : -9223372036854775808 ≤ n ∧ n ≤ 9223372036854775807) (ht : t.size ≤ 1048576) (htab : Lib.TabIs Tryd.prog w "internal/strconv.uint64pow10" .u64 Lib.pow10Tab) :
    Calls Tryd.prog 24 #[.agg #[.int .i64 k, .int .i64 n, .string t]] w fun e w' => e = .returned (.string (str (headText k n t))) ∧ Below w.heap.size w w' := by
  have hB0 := (Below.refl w.heap.size w).alloc (Nat.le_refl _) (.cells #[.int .i64 k, .int .i64 n, .string t] 40)
  have HT := Lib.hid (Go.Joins.tab_stays (g := 0) (by kernel_rfl) htab hB0 (Nat.le_refl _))
  have HB0 := Lib.hid hB0
  clear hB0 htab
  by_cases h1 : k = 1
  · subst h1
    have e : headText 1 n t = Lib.itoa n := by simp [headText]
    rw [e]
    have HF := Lib.hid (impl_format n hn.1 hn.2 _ HT.out)
    clear hn e HT
    go_enter Tryd.func24, Tryd.ntmps24
    go_wp2_with fail
    refine HF.out.mono ?_
    rintro e w1 ⟨rfl, hb1⟩
    have HB1 := Lib.hid hb1
    clear hb1 HF
    go_wp2
    go_ret
    exact ⟨rfl, HB0.out.trans (HB1.out.mono HB0.out.size)⟩
  · have e1 : (k == 1) = false := by simpa using h1
    clear HT
    by_cases h2 : k = 2
    · subst h2
      have e : headText 2 n t = [34] ++ t.data.toList ++ [34] := by simp [headText]
      rw [e]
      have htl : t.data.toList.length = t.size := rfl
      have hc1 := fun w => catK [34] t.data.toList (by rw [htl]; simp; omega) w
      rw [str_data] at hc1
      have hc2 := fun w => catK ([34] ++ t.data.toList) [34] (by rw [List.length_append, htl]; simp; omega) w
      change ∀ w, (Op.stringOp .add ⟨#[34]⟩ t).run Tryd.prog w = _ at hc1
      change ∀ w, (Op.stringOp .add (str ([34] ++ t.data.toList)) ⟨#[34]⟩).run Tryd.prog w = _ at hc2
      generalize hs1 : str ([34] ++ t.data.toList) = s1 at *
      generalize hs2 : str ([34] ++ t.data.toList ++ [34]) = s2 at *
      clear hn e htl hs1 hs2
      go_enter Tryd.func24, Tryd.ntmps24
      go_wp2
      go_ret
      exact ⟨rfl, HB0.out⟩
    · have e2 : (k == 2) = false := by simpa using h2
      by_cases h3 : k = 3
      · subst h3
        have e : headText 3 n t = t.data.toList := by simp [headText]
        rw [e, str_data]
        clear hn e
        go_enter Tryd.func24, Tryd.ntmps24
        go_wp2
        go_ret
        exact ⟨rfl, HB0.out⟩
      · have e3 : (k == 3) = false := by simpa using h3
        have e : headText k n t = [63] := by simp [headText, h1, h2, h3]
        rw [e]
        clear hn e h1 h2 h3
        go_enter Tryd.func24, Tryd.ntmps24
        go_wp2
        go_ret
        exact ⟨rfl, HB0.out⟩
end Go.Proofs.YtcalgjggmgnofaaDoor
end

/- What is proved here: impl.Join returns the texts with the separator between them. Conditions: the slice reads as the list; the result is not greater than 2^46 bytes. -/
section
namespace Go.Proofs.YtcalgjggmgnofaaDoor
open Go.RowKit

/-- The texts with the separator between them, as bytes. -/
def joined (xs : List ByteArray) (by' : ByteArray) : List UInt8 := Lib.join (xs.map (·.data.toList)) by'.data.toList
theorem joined_snoc (xs : List ByteArray) (b : ByteArray) (k : Nat) (h : k < xs.length) : joined (xs.take (k + 1)) b = joined (xs.take k) b ++ (if k = 0 then [] else b.data.toList) ++ xs[k].data.toList := by
  unfold joined
  rw [List.take_succ_eq_append_getElem h, List.map_append]
  cases k with
  | zero => simp [Lib.join, List.intercalate]
  | succ k =>
    cases xs with
    | nil => simp at h
    | cons x r =>
      simp only [List.take_succ_cons, List.map_cons, List.cons_append, Lib.join_cons]
      simp [Lib.joinTail]
theorem joined_zero (xs : List ByteArray) (b : ByteArray) : joined (xs.take 0) b = [] := rfl
theorem joined_le (xs : List ByteArray) (b : ByteArray) (k : Nat) : (joined (xs.take k) b).length ≤ (joined xs b).length := by
  by_cases h : k < xs.length
  · have e : ∀ m, k ≤ m → m ≤ xs.length → (joined (xs.take k) b).length ≤ (joined (xs.take m) b).length := by
      intro m
      induction m with
      | zero => intro h1 _; rw [show k = 0 by omega]; exact Nat.le_refl _
      | succ m ih =>
        intro h1 h2
        by_cases e : k = m + 1
        · rw [e]; exact Nat.le_refl _
        · have := ih (by omega) (by omega)
          rw [joined_snoc xs b m (by omega)]
          simp
          omega
    have := e xs.length (by omega) (Nat.le_refl _)
    rwa [List.take_length] at this
  · rw [List.take_of_length_le (by omega)]; exact Nat.le_refl _

/-- No text is longer than what it is joined into. -/
theorem piece_short (xs : List ByteArray) (b : ByteArray) (j : Nat) (h : j < xs.length) : xs[j].data.toList.length ≤ (joined xs b).length := by
  have h1 := joined_snoc xs b j h
  have h2 := joined_le xs b (j + 1)
  rw [h1] at h2
  simp only [List.length_append] at h2
  omega
theorem joined_len (xs : List ByteArray) (b : ByteArray) : (joined xs b).length ≤ total xs + xs.length * b.size := by
  have all : ∀ k, k ≤ xs.length → (joined (xs.take k) b).length ≤ total (xs.take k) + k * b.size := by
    intro k
    induction k with
    | zero => intro _; rw [joined_zero]; simp
    | succ k ih =>
      intro hk
      have := ih (by omega)
      rw [joined_snoc xs b k (by omega), total_take xs k (by omega), Nat.succ_mul]
      have e1 : xs[k].data.toList.length = xs[k].size := rfl
      have e2 : (if k = 0 then [] else b.data.toList).length ≤ b.size := by
        split
        · simp
        · exact Nat.le_refl _
      simp only [List.length_append]
      omega
  have := all xs.length (Nat.le_refl _)
  rwa [List.take_length] at this

set_option maxRecDepth 100000 in
theorem impl_join (w : World) (g : Nat) (xs : List ByteArray) (b : ByteArray) (hg : w.heap[g]? = some (.cells (xs.map Value.string).toArray 9 (0, 0))) (hm : xs.length ≤ 1048576) (hj : (joined xs b).length ≤ 70368744177664) :
    Calls Tryd.prog 43 #[.slice (some ⟨g, 0, none⟩) xs.length xs.length, .string b] w fun e w' => e = .returned (.string ⟨(joined xs b).toArray⟩) ∧ Below w.heap.size w w' := by
  have hlt : g < w.heap.size := by
    rcases Nat.lt_or_ge g w.heap.size with h | h
    · exact h
    · rw [Array.getElem?_eq_none h] at hg
      cases hg
  have H := Tryd.strings_Join g 0 xs.length xs b w (fun j x hx => by
    have hj2 : j < xs.length := by
      rcases Nat.lt_or_ge j xs.length with h | h
      · exact h
      · rw [List.getElem?_eq_none h] at hx
        cases hx
    rw [List.getElem?_eq_getElem hj2] at hx
    injection hx with hx
    simp [World.cell?, hg, hj2, hx]) hlt (by omega) (Nat.le_refl _) (Nat.le_trans hj (by omega))
  have HG := Lib.hid hg
  clear hg
  go_enter Tryd.func43, Tryd.ntmps43
  go_wp2_with fail
  refine H.mono ?_
  rintro e w' ⟨rfl, hb⟩
  go_wp2
  go_ret
  exact ⟨rfl, hb⟩
end Go.Proofs.YtcalgjggmgnofaaDoor
end

/- What is proved here: an append to a slice that the call owns, as one step of a statement whose order of evaluation is open. Condition: bounds on lengths. -/
section
namespace Go.Proofs.YtcalgjggmgnofaaDoor
open Go.RowKit

theorem step_append_own {P : Program} {ops : Array Oper} {o : Oper} {a : Act} {w : World} {K : Act → World → Prop} {Q : Exit → Act → World → Prop} {E : Prop}
    (hg : o.guard = none) (s x : Operand) (t : TypeId) (hop : o.op = Op.call { callee := Callee.builtin Builtin.append, args := #[s, x], argTypes := #[t, t] })
    (base : Nat) (e : TypeId) (i : TypeInfo) (z : Value) (size bytes : Nat) (h1 : P.underlying t = some (.slice e)) (h2 : P.info? e = some i) (h3 : i.zero = some z) (h4 : i.size = size) (h5 : i.bytes = bytes) (h6 : z.cells.size = size) (h7 : 0 < size)
    (v : Value) (k : Nat) (xs : List Value) (hs : a.eval s = v) (hown : w.ownsRow base e size v k xs)
    (ad : Addr) (m c : Nat) (news : List Value) (hx : a.eval x = .slice (some ad) m c) (hn : news.length = m * size) (hc : ∀ j u, news[j]? = some u → w.cell? (ad.add j) = some u) (h1c : ∀ u ∈ news, u.oneCell' = true)
    (b1 : k + m ≤ maxLen) (b2 : (k + m) * bytes ≤ 140737488355328) (b3 : base ≤ w.heap.size)
    (hK : ∀ v' w', w'.ownsRow base e size v' (k + m) (xs ++ news) → w.grownBy w' v.ownBlock → K (a.put o.dst v') w') :
    if Region.wanted o (yielded ops a.tmps) = true then Oper.wp P o a w K Q else E := by
  have hw : Region.wanted o (yielded ops a.tmps) = true := by simp [Region.wanted, hg]
  rw [if_pos hw]
  obtain ⟨v', w', hrun, r1, r2, _⟩ := run_append_own (P := P) w base t o.type e i z size bytes h1 h2 h3 h4 h5 h6 h7 v k xs hown ad m c news hn hc h1c b1 b2 b3
  unfold Oper.wp
  simp [execOp, hop, resolve, invoke, builtin, hs, hx, hrun, Result.andThen]
  exact hK v' w' r1 r2
end Go.Proofs.YtcalgjggmgnofaaDoor
end

/- What is proved here: bytes in memory of the call's own, and appends to them. Condition: bounds on lengths. -/
section
namespace Go.Proofs.YtcalgjggmgnofaaDoor
open Go.RowKit

def bytesV (l : List UInt8) : List Value := l.map fun b => Value.int .u8 b.toNat
theorem bytesV_append (l r : List UInt8) : bytesV (l ++ r) = bytesV l ++ bytesV r := by simp [bytesV]
theorem bytesV_length (l : List UInt8) : (bytesV l).length = l.length := by simp [bytesV]
/-- The slice v holds the bytes l, in a block of the call's own. -/
def Bytes (B : Nat) (w : World) (v : Value) (l : List UInt8) : Prop := w.ownsRow B 5 1 v l.length (bytesV l)
theorem Bytes.nil (B : Nat) (w : World) : Bytes B w (.slice none 0 0) [] := World.ownsRow_nil w B _ 1
theorem Bytes.of {B : Nat} {w : World} {v : Value} {l r : List UInt8} {m : Nat} (h : w.ownsRow B 5 1 v (l.length + m) (bytesV l ++ bytesV r)) (hm : r.length = m) : Bytes B w v (l ++ r) := by
  unfold Bytes
  rw [bytesV_append, List.length_append, hm]
  exact h
theorem grown_refl (w : World) (row : Option Nat) : w.grownBy w row := ⟨rfl, rfl, rfl, Nat.le_refl _, fun _ _ _ => rfl⟩
theorem grown_trans {w w1 w2 : World} {row row1 row2 : Option Nat} (h : w.grownBy w1 row1) (k : w1.grownBy w2 row2) (h1 : ∀ b, row1 = some b → row = some b ∨ w.heap.size ≤ b) (h2 : ∀ b, row2 = some b → row = some b ∨ w.heap.size ≤ b) : w.grownBy w2 row := by
  refine ⟨k.os.trans h.os, k.tape.trans h.tape, k.output.trans h.output, Nat.le_trans h.size k.size, fun b hb hne => ?_⟩
  have hs := h.size
  rw [k.block b (by omega) (fun e => by rcases h2 b e.symm with h | h; exact hne h.symm; omega)]
  exact h.block b hb (fun e => by rcases h1 b e.symm with h | h; exact hne h.symm; omega)
theorem grown_below {w w1 : World} (h : Below w.heap.size w w1) (row : Option Nat) : w.grownBy w1 row := ⟨h.os, h.tape, h.output, h.size, fun b hb _ => h.block b hb⟩
theorem below_grown {B : Nat} {w w1 : World} {row : Option Nat} (h : w.grownBy w1 row) (hB : B ≤ w.heap.size) (hr : ∀ b, row = some b → B ≤ b) : Below B w w1 := (Below.refl B w).grown h hB hr
/-- Two rows of different elements lie apart. -/
theorem own_apart {w : World} {B B' : Nat} {e e' : TypeId} {s s' : Nat} {v v' : Value} {n n' : Nat} {xs xs' : List Value} (h : w.ownsRow B e s v n xs) (h' : w.ownsRow B' e' s' v' n' xs') (hne : e ≠ e') : ∀ b, v.ownBlock = some b → v'.ownBlock ≠ some b := by
  intro b hb hb'
  rcases h.2 with ⟨rfl, _⟩ | ⟨g, c, cur, rfl, _, h1, _⟩
  · cases hb
  · cases hb
    rcases h'.2 with ⟨rfl, _⟩ | ⟨g', c', cur', rfl, _, h1', _⟩
    · cases hb'
    · cases hb'
      rw [h1] at h1'
      cases h1'
      exact hne rfl
theorem own_stays {w w' : World} {B : Nat} {e : TypeId} {s : Nat} {v : Value} {n : Nat} {xs : List Value} (h : w.ownsRow B e s v n xs) {row : Option Nat} (hg : w.grownBy w' row) (hne : ∀ b, v.ownBlock = some b → row ≠ some b) : w'.ownsRow B e s v n xs := by
  refine ⟨h.1, ?_⟩
  have hlt := h.lt
  rcases h.2 with h | ⟨g, cap, cur, rfl, hb, hh, h1, h2, h3, h4⟩
  · exact .inl h
  · exact .inr ⟨g, cap, cur, rfl, hb, by rw [hg.block g (hlt g rfl).2 (fun e => hne g rfl e.symm)]; exact hh, h1, h2, h3, h4⟩

/-- An append of a text, as one step of a statement whose order of evaluation is open. -/
theorem step_append_str {P : Program} {ops : Array Oper} {o : Oper} {a : Act} {w : World} {K : Act → World → Prop} {Q : Exit → Act → World → Prop} {E : Prop}
    (hg : o.guard = none) (sl x : Operand) (t u : TypeId) (ho : o.op = .call { callee := .builtin .append, args := #[sl, x], argTypes := #[t, u] })
    (base : Nat) (e : TypeId) (i : TypeInfo) (ht : P.underlying t = some (.slice e)) (hu : P.underlying u = some .string) (hi : P.info? e = some i) (hz : i.zero = some (.int .u8 0)) (hsize : i.size = 1) (hby : i.bytes = 1)
    (v : Value) (n : Nat) (xs : List Value) (hs : a.eval sl = v) (hown : w.ownsRow base e 1 v n xs) (s : ByteArray) (hx : a.eval x = .string s)
    (h63 : n + s.size ≤ maxLen) (hbytes : n + s.size ≤ 140737488355328) (hbase : base ≤ w.heap.size)
    (h : ∀ v' w', w'.ownsRow base e 1 v' (n + s.size) (xs ++ Lib.strCells s) → w.grownBy w' v.ownBlock → K (a.put o.dst v') w') :
    if Region.wanted o (yielded ops a.tmps) = true then Oper.wp P o a w K Q else E := by
  have hw : Region.wanted o (yielded ops a.tmps) = true := by simp [Region.wanted, hg]
  rw [if_pos hw]
  obtain ⟨v', w', hr, h2, h3, _⟩ := Lib.run_append_own_string (P := P) w base t u o.type e i ht hu hi hz hsize hby v n xs hown s h63 hbytes hbase
  unfold Oper.wp execOp
  simp only [ho, resolve, invoke, builtin, Sem.run_bind, Sem.run_pure, Result.andThen_ok, List.map_toArray, List.map_cons, List.map_nil, hs, hx, hr]
  exact h v' w' h2 h3
end Go.Proofs.YtcalgjggmgnofaaDoor
end

/- What is proved here: the model's and the program's FormatOccurrence. Condition: the slice reads as the list, of at most 1048576 ints; the table of the powers of ten is as listed. -/
section
namespace Go.Proofs.YtcalgjggmgnofaaDoor
open Go.RowKit

/-- "v", and each index behind a point. -/
def occText : List Int → List UInt8 → List UInt8
  | [], acc => acc
  | z :: zs, acc => occText zs (acc ++ [46] ++ Lib.itoa z)
def occOf (zs : List Int) : List UInt8 := occText zs [118]
theorem occText_snoc (zs : List Int) (z : Int) : ∀ acc, occText (zs ++ [z]) acc = occText zs acc ++ [46] ++ Lib.itoa z := by
  induction zs with
  | nil => intro acc; rfl
  | cons x xs ih => intro acc; exact ih _
theorem occ_take (zs : List Int) (k : Nat) (h : k < zs.length) : occOf (zs.take (k + 1)) = occOf (zs.take k) ++ [46] ++ Lib.itoa zs[k] := by
  unfold occOf
  rw [List.take_succ_eq_append_getElem h, occText_snoc]
theorem occ_len (zs : List Int) (hf : fitsI zs) : (occOf zs).length ≤ 1 + 22 * zs.length := by
  have h : ∀ zs : List Int, fitsI zs → ∀ acc, (occText zs acc).length ≤ acc.length + 22 * zs.length := by
    intro zs
    induction zs with
    | nil => intro _ acc; simp [occText]
    | cons z zs ih =>
      intro hf acc
      have h1 := ih (fun x hx => hf x (List.mem_cons_of_mem _ hx)) (acc ++ [46] ++ Lib.itoa z)
      have h2 := hf z (List.mem_cons_self ..)
      have h3 := itoa_len z h2.1 h2.2
      simp only [occText, List.length_append, List.length_cons, List.length_nil] at h1 ⊢
      omega
  have := h zs hf [118]
  simpa [occOf, Nat.add_comm] using this
theorem occ_take_len (zs : List Int) (hf : fitsI zs) (k : Nat) : (occOf (zs.take k)).length ≤ 1 + 22 * zs.length := by
  have h1 := occ_len (zs.take k) (fun x hx => hf x (List.mem_of_mem_take hx))
  have h2 : (zs.take k).length ≤ zs.length := by rw [List.length_take]; omega
  omega

set_option maxHeartbeats 1000000 in
set_option maxRecDepth 100000 in
theorem spec_formatOcc (w : World) (a : Option Addr) (cap : Nat) (zs : List Int) (hx : ReadsI w a zs) (hf : fitsI zs) (hm : zs.length ≤ 1048576) :
    Calls Tryd.prog 14 #[.slice a zs.length cap] w fun e w' => e = .returned (.string (str (occOf zs))) ∧ Below w.heap.size w w' := by
  have HX := Lib.hid hx
  have HF := Lib.hid hf
  have HL := Lib.hid (fun k => occ_take_len zs hf k)
  clear hx hf
  generalize hn : zs.length = n at *
  have HN := Lib.hid hn
  clear hn
  go_enter Tryd.func14, Tryd.ntmps14
  go_wp2
  go_loopw [3, 4] (fun o i wr => ∃ (k : Nat) (s : ByteArray), k ≤ n ∧ i = .int .i64 k ∧ o = .string s ∧ Hid (s = str (occOf (zs.take k))) ∧ Hid (Below w.heap.size w wr)) (fun _ i _ => n - (intOf i).toNat)
  case atStart => exact ⟨0, _, Nat.zero_le _, rfl, rfl, rfl, Below.refl _ _⟩
  case round =>
    obtain ⟨k, s, hk, rfl, rfl, hS, hB⟩ := hrel
    by_cases hlt : k < n
    · have hk' : k < zs.length := by rw [HN.out]; exact hlt
      obtain ⟨y, rfl, hc⟩ := (readsI_below HX.out hB.out) k hk'
      have hb := HF.out _ (List.getElem_mem (l := zs) (n := k) hk')
      have hst := occ_take zs k hk'
      have hl0 := HL.out k
      have hl1 := HL.out (k + 1)
      rw [hst] at hl1
      generalize zs[k] = z at hc hb hst hl1
      have HFM := Lib.hid (fun w => spec_format z hb.1 hb.2 w)
      simp only [List.length_append, List.length_cons, List.length_nil] at hl1
      have hc1 := fun w => catK (occOf (zs.take k)) [46] (by simp; omega) w
      have hc2 := fun w => catK (occOf (zs.take k) ++ [46]) (Lib.itoa z) (by simp; omega) w
      rw [← hS.out] at hc1
      change ∀ w, (Op.stringOp .add s ⟨#[46]⟩).run Tryd.prog w = _ at hc1
      change ∀ w, (Op.stringOp .add (str (occOf (zs.take k) ++ [46])) ⟨(Lib.itoa z).toArray⟩).run Tryd.prog w = _ at hc2
      rw [← hst] at hc2
      generalize hs2 : str (occOf (zs.take (k + 1))) = s2 at *
      have HS2 : Hid (s2 = str (occOf (zs.take (k + 1)))) := hs2.symm
      generalize str (occOf (zs.take k) ++ [46]) = s1 at *
      generalize (⟨(Lib.itoa z).toArray⟩ : ByteArray) = s3 at *
      clear hb hst hl0 hl1 hs2 hS
      go_wp2_with fail
      refine (HFM.out wr).mono ?_
      rintro e w1 ⟨rfl, hb1⟩
      have HB1 : Hid (Below w.heap.size w w1) := hB.out.trans (hb1.mono hB.out.size)
      clear hb1 HFM
      go_wp2
      go_roundw
      case rel => exact ⟨k + 1, s2, by omega, by go_num, rfl, HS2, HB1⟩
      case measure => simp [intOf]; omega
    · obtain rfl : k = n := by omega
      have hs := hS.out
      rw [List.take_of_length_le (by have := HN.out; omega)] at hs
      subst hs
      clear hS
      go_wp2
      go_ret
      exact ⟨rfl, hB.out⟩

/-- The parts that the program joins. -/
def occParts (zs : List Int) : List ByteArray := str [118] :: zs.map fun z => str (Lib.itoa z)
theorem occ_join (zs : List Int) : joined (occParts zs) (str [46]) = occOf zs := by
  have h : ∀ zs : List Int, ∀ acc, occText zs acc = acc ++ Lib.joinTail [46] (zs.map Lib.itoa) := by
    intro zs
    induction zs with
    | nil => intro acc; simp [occText, Lib.joinTail]
    | cons z zs ih =>
      intro acc
      rw [occText, ih]
      simp [Lib.joinTail]
  unfold joined occParts occOf
  rw [h]
  have e : ((str [118] :: zs.map fun z => str (Lib.itoa z)).map fun x => x.data.toList) = [118] :: zs.map Lib.itoa := by simp [str]
  have e2 : (str [46]).data.toList = [46] := by simp [str]
  rw [e, e2, Lib.join_cons]
theorem occParts_take (zs : List Int) (k : Nat) (h : k < zs.length) : occParts (zs.take (k + 1)) = occParts (zs.take k) ++ [str (Lib.itoa zs[k])] := by
  unfold occParts
  rw [List.take_succ_eq_append_getElem h, List.map_append]
  rfl
theorem occParts_len (zs : List Int) : (occParts zs).length = zs.length + 1 := by simp [occParts]

theorem owned_at {w : World} {B n : Nat} {T : TypeId} {v : Value} {l : List Value} (h : w.ownsRow B T 1 v n l) (hv : v ≠ .slice none 0 0) : ∃ g cap, v = .slice (some ⟨g, 0, none⟩) n cap := by
  rcases h.2 with ⟨h1, _⟩ | ⟨g, cap, cur, h1, _⟩
  · exact absurd h1 hv
  · exact ⟨g, cap, h1⟩

set_option maxRecDepth 100000 in
/-- Join at a slice in a block of the call's own, with room behind it. -/
theorem impl_join_room (w : World) (g cap : Nat) (xs : List ByteArray) (rest : List Value) (b : ByteArray) (hg : Block w g xs rest) (hc : xs.length ≤ cap) (hm : xs.length ≤ 1048577) (hj : (joined xs b).length ≤ 70368744177664) :
    Calls Tryd.prog 43 #[.slice (some ⟨g, 0, none⟩) xs.length cap, .string b] w fun e w' => e = .returned (.string ⟨(joined xs b).toArray⟩) ∧ Below w.heap.size w w' := by
  have hr := hg.reads
  have H := Tryd.strings_Join g 0 cap xs b w (fun j x hx => by
    have hj2 : j < xs.length := by
      rcases Nat.lt_or_ge j xs.length with h | h
      · exact h
      · rw [List.getElem?_eq_none h] at hx
        cases hx
    obtain ⟨y, hy, hcell⟩ := hr j hj2
    rw [List.getElem?_eq_getElem hj2] at hx
    injection hx with hx
    injection hy with hy
    subst hy
    have e : (⟨g, 0, none⟩ : Addr).add j = ⟨g, 0 + j, none⟩ := by simp [Addr.add]; intro h; omega
    rw [e] at hcell
    rw [hcell, hx]) hg.lt (by omega) hc (Nat.le_trans hj (by omega))
  have HG := Lib.hid hg
  clear hg hr
  go_enter Tryd.func43, Tryd.ntmps43
  go_wp2_with fail
  refine H.mono ?_
  rintro e w' ⟨rfl, hb⟩
  go_wp2
  go_ret
  exact ⟨rfl, hb⟩

set_option maxHeartbeats 2000000 in
set_option maxRecDepth 100000 in
theorem impl_formatOcc (w : World) (a : Option Addr) (cap : Nat) (zs : List Int) (hx : ReadsI w a zs) (hf : fitsI zs) (hm : zs.length ≤ 1048576) (htab : Lib.TabIs Tryd.prog w "internal/strconv.uint64pow10" .u64 Lib.pow10Tab) :
    Calls Tryd.prog 13 #[.slice a zs.length cap] w fun e w' => e = .returned (.string (str (occOf zs))) ∧ Below w.heap.size w w' := by
  have hi : (Tryd.prog.info? 9).map (fun i => (i.zero, i.size, i.bytes)) = some (some (.string ⟨#[]⟩), 1, 16) := by kernel_rfl
  obtain ⟨i0, hi, hz0, hz1, hz2⟩ := info_parts hi
  have HX := Lib.hid hx
  have HF := Lib.hid hf
  have HT := Lib.hid (fun w' (hb : Below w.heap.size w w') => Go.Joins.tab_stays (g := 0) (by kernel_rfl) htab hb (Nat.le_refl _))
  have HJ : Hid ((joined (occParts zs) (str [46])).length ≤ 70368744177664) := by
    unfold Hid
    rw [occ_join]
    have := occ_len zs hf
    omega
  have HP := Lib.hid (occParts_len zs)
  clear hx hf htab
  generalize hn : zs.length = n at *
  have HN := Lib.hid hn
  have HPT := Lib.hid (fun k h => occParts_take zs k h)
  clear hn
  go_enter Tryd.func13, Tryd.ntmps13
  go_wp2
  go_loopw [3, 9] (fun v i wr => ∃ (k g c : Nat) (ys : List ByteArray), k ≤ n ∧ i = .int .i64 k ∧ v = .slice (some ⟨g, 0, none⟩) (k + 1) c ∧ Hid (ys = occParts (zs.take k)) ∧ ys.length = k + 1 ∧ Hid (wr.ownsRow w.heap.size 9 1 (.slice (some ⟨g, 0, none⟩) (k + 1) c) (k + 1) (ys.map Value.string)) ∧ Hid (Below w.heap.size w wr)) (fun _ i _ => n - (intOf i).toNat)
  case atStart =>
    refine ⟨0, w.heap.size, 1, [str [118]], Nat.zero_le _, rfl, rfl, rfl, rfl, ?_, (Below.refl _ _).alloc (Nat.le_refl _) _⟩
    exact World.ownsRow_lit w #[.string (str [118])] 1 (Nat.le_refl _) (by unfold maxLen; omega) rfl
  case round =>
    obtain ⟨k, g, c, ys, hk, rfl, rfl, hY, hyl, hO, hB⟩ := hrel
    by_cases hlt : k < n
    · obtain ⟨y, rfl, hc⟩ := (readsI_below HX.out hB.out) k (by rw [HN.out]; exact hlt)
      have hb := HF.out _ (List.getElem_mem (l := zs) (n := k) (by rw [HN.out]; exact hlt))
      have hst := HPT.out k (by rw [HN.out]; exact hlt)
      generalize zs[k]'(by rw [HN.out]; exact hlt) = z at hc hb hst
      have HFM := Lib.hid (impl_format z hb.1 hb.2 wr (HT.out wr hB.out))
      change Hid (Calls _ _ _ _ (fun e w' => e = .returned (.string (str (Lib.itoa z))) ∧ _)) at HFM
      rw [← hY.out] at hst
      generalize str (Lib.itoa z) = x at *
      have HST := Lib.hid hst
      clear hb hst
      go_wp2_with fail
      refine HFM.out.mono ?_
      rintro e w1 ⟨rfl, hb1⟩
      have hB1 : Below w.heap.size w w1 := hB.out.trans (hb1.mono hB.out.size)
      have hown : w1.ownsRow w.heap.size 9 1 (.slice (some ⟨g, 0, none⟩) (k + 1) c) (k + 1) (ys.map Value.string) := own_stays hO.out (grown_below hb1 none) (fun b _ => by simp)
      clear hb1 HFM
      go_wp2_with (at_builtin; refine wpList_append_own _ rfl _ _ 62 rfl w.heap.size 9 i0 (.string ⟨#[]⟩) 1 16 Tryd.underlying62 hi hz0 hz1 hz2 rfl (by decide) _ _ _ rfl (hown.alloc _) ⟨w1.heap.size, 0, none⟩ 1 1 [.string x] rfl rfl ?d1 ?d2 ?d3 ?d4 ?d5 ?_)
      case d1 =>
        intro j u hj
        match j, hj with
        | 0, hj => simp at hj; subst hj; simp [Addr.add, World.cell?_alloc_new]
      case d2 => intro u hu; simp at hu; subst hu; rfl
      case d3 => unfold maxLen; omega
      case d4 => omega
      case d5 => have := hB1.size; simp; omega
      intro v2 w2 hown2 hg2 hnil2
      have hB2 : Below w.heap.size w w2 := (hB1.alloc (by have := hB1.size; omega) _).grown hg2 (by have := hB1.size; simp; omega) (fun j hj => (hown.lt j hj).1)
      have hv2 : v2 ≠ .slice none 0 0 := by first | exact hnil2 | (intro h; have := hnil2.1 h; simp at this)
      have hown3 : w2.ownsRow w.heap.size 9 1 v2 (k + 1 + 1) ((ys ++ [x]).map Value.string) := by
        rw [List.map_append]
        exact hown2
      obtain ⟨g2, c2, rfl⟩ := owned_at hown3 hv2
      have HO3 := Lib.hid hown3
      have HB2 := Lib.hid hB2
      clear hown hown2 hown3 hg2 hnil2 hv2 hB2 hB1
      go_wp2
      go_roundw
      case rel => exact ⟨k + 1, g2, c2, ys ++ [x], by omega, by go_num, rfl, HST.out.symm, by simp [hyl], HO3, HB2⟩
      case measure => simp [intOf]; omega
    · obtain rfl : k = n := by omega
      have e : zs.take k = zs := List.take_of_length_le (by have := HN.out; omega)
      have hY2 := hY.out
      rw [e] at hY2
      have hown : wr.ownsRow w.heap.size 9 1 (.slice (some ⟨g, 0, none⟩) (k + 1) c) (k + 1) (ys.map Value.string) := hO.out
      obtain ⟨g', c', rest, hv, hg, hb, hnl⟩ := block_of_owned hown (by simp)
      obtain ⟨rfl, rfl⟩ : g' = g ∧ c' = c := by
        simp at hv
        exact ⟨hv.1.symm, hv.2.2.symm⟩
      have hcap : ys.length ≤ c' := by
        rcases hown.2 with ⟨h1, _⟩ | ⟨g2, c2, cur, h1, h2⟩
        · cases h1
        · obtain ⟨_, _, h3, _⟩ := h2
          injection h1 with _ _ h4
          omega
      have HJN := Lib.hid (impl_join_room wr g' c' ys rest (str [46]) hb hcap (by omega) (by rw [hY2]; exact HJ.out))
      rw [hY2, occ_join, ← hY2] at HJN
      change Hid (Calls _ _ _ _ (fun e w' => e = .returned (.string (str (occOf zs))) ∧ _)) at HJN
      change Hid (Calls _ _ #[_, .string ⟨#[46]⟩] _ _) at HJN
      rw [hyl] at HJN
      clear hown hb e hY hY2 hO hcap
      generalize hr : str (occOf zs) = r at HJN
      have HR := Lib.hid hr
      clear hyl hg hnl hv hr
      go_wp2_with fail
      refine HJN.out.mono ?_
      rintro e w1 ⟨rfl, hb1⟩
      have HB1 : Hid (Below w.heap.size w w1) := hB.out.trans (hb1.mono hB.out.size)
      clear hb1 HJN
      go_wp2
      go_ret
      exact ⟨by rw [HR.out]; rfl, HB1.out⟩
end Go.Proofs.YtcalgjggmgnofaaDoor
end
