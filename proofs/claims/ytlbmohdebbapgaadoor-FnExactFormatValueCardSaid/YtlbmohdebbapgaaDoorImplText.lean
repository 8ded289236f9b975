/- What is proved here: the program's FormatValue returns the representation of a value. Condition: the value lies in memory as said, and is small; the table of the powers of ten is as listed. -/
import Derived.Test.YtlbmohdebbapgaaDoorImplHead
import Derived.Test.YtlbmohdebbapgaaDoorImplMarks
import Derived.Test.YtlbmohdebbapgaaDoorTreeMake
import Derived.Laws.BytesArg
import Derived.Laws.IdiomStrings
namespace Go.Proofs.YtlbmohdebbapgaaDoor
open Go.RowKit

def nodes : List Trees → Nat
  | [] => 0
  | F :: st => F.count + nodes st
theorem nodes_marks (st : List Trees) : nodes (marks2 st).2 = nodes st := by
  induction st with
  | nil => rfl
  | cons F st ih =>
    cases F with
    | cons k n t ar r => rfl
    | nil =>
      simp only [marks2]
      split
      · rename_i h; subst h; rfl
      · simp [nodes, Trees.count, ih]
theorem form_succ {W : World} {base : Nat} {e : TypeId} {size : Nat} {v : Value} {k : Nat} {xs : List Value} (h : W.ownsRow base e size v (k + 1) xs) : ∃ g cap, v = .slice (some ⟨g, 0, none⟩) (k + 1) cap := by
  rcases h.2 with ⟨_, h0⟩ | ⟨g, cap, _, rfl, _⟩
  · omega
  · exact ⟨g, cap, rfl⟩
theorem marks_length (st : List Trees) : (marks2 st).2.length ≤ st.length := by
  induction st with
  | nil => exact Nat.le_refl _
  | cons F st ih =>
    cases F with
    | cons k n t ar r => exact Nat.le_refl _
    | nil =>
      simp only [marks2]
      split <;> simp only [List.length_cons] <;> omega
theorem bytes_conv {B : Nat} {w : World} {v : Value} {l : List UInt8} (h : Bytes B w v l) : (convert 40 9 v).run Tryd.prog w = .ok (.string (str l)) w := by
  rcases h.2 with ⟨rfl, h0⟩ | ⟨g, cap, cur, rfl, _, hh, _, _, _, htake⟩
  · have : l = [] := List.eq_nil_of_length_eq_zero h0
    subst this
    exact run_convert_bytes_nil w 40 5 Tryd.underlying40 Tryd.underlying5 0 0 9 Tryd.underlying9
  · refine run_convert_bytes_back (P := Tryd.prog) w 40 9 5 ⟨g, 0, none⟩ cap l Tryd.underlying40 Tryd.underlying5 Tryd.underlying9 (fun j hj => ?_)
    have e := World.ownsRow.cellAt h j (by omega)
    rw [Lib.add_plain, Nat.zero_add, e, bytesV, List.getElem?_map, List.getElem?_eq_getElem hj]
    rfl
/-- What holds between two rounds of the walk's own loop. -/
def FmtInv (w1 : World) (st : List Trees) (acc : List UInt8) (ov rv : Value) (w : World) : Prop :=
  ∃ (us : List Value) (g cap : Nat), rv = .slice (some ⟨g, 0, none⟩) st.length cap ∧ w.ownsRow w1.heap.size 27 1 rv st.length us.reverse ∧ StackT w1 st us ∧ Bytes w1.heap.size w ov acc ∧ Below w1.heap.size w1 w
/-- A stack whose last row has a node, if there is one. -/
def Topped (st : List Trees) : Prop := st = [] ∨ ∃ k n t ar r st2, st = .cons k n t ar r :: st2

set_option maxHeartbeats 4000000 in
set_option maxRecDepth 100000 in
theorem impl_format_value (w : World) (k n : Int) (t : ByteArray) (F : Trees) (p : Option Addr) (c : Nat) (hx : TreesAt w F p 0) (hf : F.fits) (hk : -9223372036854775808 ≤ k ∧ k ≤ 9223372036854775807) (hn : -9223372036854775808 ≤ n ∧ n ≤ 9223372036854775807) (hts : t.size + F.size ≤ 1048576) (hcap : F.length ≤ c) (htab : Lib.TabIs Tryd.prog w "internal/strconv.uint64pow10" .u64 Lib.pow10Tab) :
    Calls Tryd.prog 8 #[.agg #[.int .i64 k, .int .i64 n, .string t, .slice p F.length c]] w fun e w' => e = .returned (.string (str (nodeText k n t F))) ∧ Below w.heap.size w w' := by
  have hi : (Tryd.prog.info? 5).map (fun i => (i.zero, i.size, i.bytes)) = some (some (.int .u8 0), 1, 1) := by kernel_rfl
  obtain ⟨i0, hi, hz0, hz1, hz2⟩ := info_parts hi
  have hj : (Tryd.prog.info? 27).map (fun i => (i.zero, i.size, i.bytes)) = some (some (.slice none 0 0), 1, 24) := by kernel_rfl
  obtain ⟨j0, hj, jz0, jz1, jz2⟩ := info_parts hj
  obtain ⟨w1, hw1⟩ : ∃ w1, w1 = (w.alloc (.cells #[.int .i64 k, .int .i64 n, .string t, .slice p F.length c] 29)).alloc (.cells #[.int .i64 k, .int .i64 n, .string t, .slice p F.length c] 29) := ⟨_, rfl⟩
  have hs1 : w1.heap.size = w.heap.size + 1 + 1 := by rw [hw1]; simp
  have hB : Below w.heap.size w w1 := by rw [hw1]; exact ((Below.refl _ _).alloc (Nat.le_refl _) _).alloc (by simp) _
  have hl1 : w1.heap[w.heap.size + 1]? = some (.cells #[.int .i64 k, .int .i64 n, .string t, .slice p F.length c] 29 (0, 0)) := by
    have h := heap_at_new (w.alloc (.cells #[.int .i64 k, .int .i64 n, .string t, .slice p F.length c] 29)) (.cells #[.int .i64 k, .int .i64 n, .string t, .slice p F.length c] 29)
    rw [World.size_alloc, ← hw1] at h
    exact h
  have hI : FmtInv w1 [.cons k n t F .nil] [] (.slice none 0 0) (.slice (some ⟨w.heap.size + 1 + 1, 0, none⟩) 1 1) (w1.alloc (.cells #[.slice (some ⟨w.heap.size + 1, 0, none⟩) 1 1] 27)) := by
    obtain ⟨d0, d1, d2, d3, _⟩ := four_cells hl1
    have hx1 := hx.below hB
    refine ⟨[.slice (some ⟨w.heap.size + 1, 0, none⟩) 1 1], w1.heap.size, 1, by rw [hs1]; rfl, ?_, ⟨some ⟨w.heap.size + 1, 0, none⟩, 1, [], rfl, Nat.le_refl _, by simp [Trees.length], ⟨hk, hn, by unfold maxLen; omega, by have := F.length_le_size; unfold maxLen; omega, hf, trivial⟩, by simp [Trees.size]; omega, ?_, rfl⟩, Bytes.nil _ _, (Below.refl _ _).alloc (Nat.le_refl _) _⟩
    · rw [← hs1]
      exact World.ownsRow_lit (base := w1.heap.size) (e := 27) (size := 1) w1 #[.slice (some ⟨w.heap.size + 1, 0, none⟩) 1 1] 1 (Nat.le_refl _) (by unfold maxLen; omega) rfl
    · exact TreesOn.of _ _ _ ⟨⟨_, p, c, rfl, d0, d1, d2, d3, hcap, hx1⟩, trivial⟩
  have HI := Lib.hid hI
  have HB := Lib.hid hB
  have HW1 := Lib.hid hw1
  have HT : Hid (([] : List UInt8) ++ fin [.cons k n t F .nil] = nodeText k n t F) := by unfold Hid; rw [fin_one]; rfl
  have hTl := nodeText_len k n t F hn hf
  have hTb : (nodeText k n t F).length ≤ 33554432 := by omega
  have hnd : nodes [.cons k n t F .nil] ≤ 1048577 := by have := F.count_le_size; simp [nodes, Trees.count]; omega
  have HTOP : Hid (Topped [.cons k n t F .nil]) := .inr ⟨_, _, _, _, _, _, rfl⟩
  have HTAB := Lib.hid htab
  have hst0 : [Trees.cons k n t F .nil].length = 1 := rfl
  generalize nodeText k n t F = T at *
  generalize [Trees.cons k n t F .nil] = st0 at *
  clear hI hB hw1 hx hf hk hn hts hcap hl1 hTl htab
  go_enter Tryd.func8, Tryd.ntmps8
  go_wp2
  rw [← HW1.out]
  clear HW1
  go_loopg [3, 4] 1048577 (fun gg ov rv wr => ∃ (st : List Trees) (acc : List UInt8), Aside (FmtInv w1 st acc ov rv wr) ∧ Aside (acc ++ fin st = T) ∧ Aside (Topped st) ∧ Aside (nodes st ≤ gg) ∧ gg ≤ 1048577 ∧ Aside (st.length + gg ≤ 1048578))
  case atStart => exact ⟨st0, [], HI.out, HT.out, HTOP.out, hnd, Nat.le_refl _, (by show _ ≤ _; omega)⟩
  case round =>
    clear hs1
    obtain ⟨st, acc, hI, hT, htop, hnd, hgk, hsl⟩ := hrel
    obtain ⟨us, g, cp, rfl, hrow, hst, hby, hB1⟩ := hI.out
    have hsl' := hsl.out
    rcases htop.out with rfl | ⟨k1, n1, t1, a1, r, st, rfl⟩
    · -- all is written
      have hT' := hT.out
      simp only [fin, List.append_nil] at hT'
      subst hT'
      have HBW : Hid (Below w.heap.size w wr) := HB.out.trans (hB1.mono HB.out.size)
      have hcv := bytes_conv hby
      clear hI hT htop hnd hsl hsl' hrow hst hby hB1
      go_wp2
      go_ret
      exact ⟨rfl, HBW.out⟩
    · obtain ⟨p0, cq, us2, rfl, hlc, hll, hff, hfs, hTr, hus⟩ := hst
      obtain ⟨⟨y, p2, cp2, rfl, hS, h0, h1, h2, h3, hal, har⟩, hr⟩ := hTr
      obtain ⟨hfk, hfn, hft, hfl, hfa, hfr⟩ := hff
      have hul := hus.length
      have hnd' := hnd.out
      simp only [nodes, Trees.count] at hnd'
      simp only [Trees.size] at hfs
      have hrl : (Trees.cons k1 n1 t1 a1 r).length = r.length + 1 := rfl
      have hsll : (Trees.cons k1 n1 t1 a1 r :: st).length = st.length + 1 := rfl
      rw [hsll] at hsl' hrow ⊢
      rw [hrl] at hlc hll hrow
      have hkw : ∀ b, b < w1.heap.size → wr.heap[b]? = w1.heap[b]? := hB1.block
      have hg := hrow.lt g rfl
      have hyg : y.block ≠ g := by have := hS; omega
      have q0 := (World.cell?_of_block (w' := wr) (a := y) (hkw _ hS)).trans h0
      have q1 := (World.cell?_of_block (w' := wr) (a := { block := y.block, off := y.off + 1 }) (hkw _ hS)).trans h1
      have q2 := (World.cell?_of_block (w' := wr) (a := { block := y.block, off := y.off + 2 }) (hkw _ hS)).trans h2
      have q3 := (World.cell?_of_block (w' := wr) (a := { block := y.block, off := y.off + 3 }) (hkw _ hS)).trans h3
      have hc : wr.cell? ⟨g, st.length, none⟩ = some (.slice (some y) (r.length + 1) cq) := by
        rw [hrow.cellAt st.length (by omega), List.reverse_cons, List.getElem?_append_right (by simp [hul]), List.length_reverse, hul, Nat.sub_self]
        rfl
      have hcap : st.length + 1 ≤ cp := by
        rcases hrow.2 with ⟨h, _⟩ | ⟨g', cap', cur, h, _, _, h1, _⟩
        · cases h
        · cases h; exact h1
      -- the tail of the row
      obtain ⟨tq, htq, HTQ⟩ : ∃ tq : Option Addr, (if cq = 1 then some y else some { block := y.block, off := y.off + 4 }) = tq ∧ ∀ w', TreesOn (fun b => b < w1.heap.size) w' r (some y) 1 → TreesOn (fun b => b < w1.heap.size) w' r tq 0 := by
        refine ⟨_, rfl, fun w' h => ?_⟩
        by_cases hc1 : cq = 1
        · have : r.length = 0 := by omega
          cases r with
          | nil => trivial
          | cons _ _ _ _ _ => simp [Trees.length] at this
        · rw [if_neg hc1]
          exact TreesOn.shift y 1 r 0 h (by omega)
      have hT' := hT.out
      have hTlen : acc.length + (fin (.cons k1 n1 t1 a1 r :: st)).length ≤ 33554432 := by rw [← List.length_append, hT']; exact hTb
      have hhead := headText_len k1 n1 t1 hfn
      have HTR2 : Hid (TreesOn (fun b => b < w1.heap.size) w1 r (some y) 1) := hr
      have HAR : Hid (TreesOn (fun b => b < w1.heap.size) w1 a1 p2 0) := har
      have HTQ2 := Lib.hid (HTQ _ hr)
      have HUS := Lib.hid hus
      have HROW := Lib.hid hrow
      have HBY := Lib.hid hby
      have HB1 := Lib.hid hB1
      have HFA := Lib.hid hfa
      have HFR := Lib.hid hfr
      have HT2 := Lib.hid hT'
      have HTL := Lib.hid hTlen
      have HAL := Lib.hid hal
      have HLC := Lib.hid hlc
      have hml : st.length ≤ 1048577 := by omega
      have han : a1.length ≤ 1048576 := by have := a1.length_le_count; omega
      have hrn : r.length ≤ 1048576 := by omega
      have hgk1 : 1 ≤ gk := by omega
      clear hI hT htop hnd hsl hrow hst0 hby hB1 hus har hr HTQ hfl hfa hfr hT' hTlen hal hlc h0 h1 h2 h3 hul hrl hsll hkw
      generalize hanl : a1.length = an at *
      generalize hrnl : r.length = rn at *
      generalize hm : st.length = m at *
      have HAN := Lib.hid hanl
      have HRN := Lib.hid hrnl
      have HM := Lib.hid hm
      clear hanl hrnl hm
      have hcN := cell_below hc ((Below.refl wr.heap.size wr).alloc (Nat.le_refl _) (.cells #[.int .i64 k1, .int .i64 n1, .string t1, .slice p2 an cp2] 29))
      have hfN : (wr.alloc (.cells #[.int .i64 k1, .int .i64 n1, .string t1, .slice p2 an cp2] 29)).frozen? ⟨g, m, none⟩ = false := ((HROW.out).alloc (.cells #[.int .i64 k1, .int .i64 n1, .string t1, .slice p2 an cp2] 29)).frozenAt m
      obtain ⟨ws, hws⟩ : ∃ ws, ws = wr.setCell ⟨g, m, none⟩ (.slice tq rn (cq - 1)) := ⟨_, rfl⟩
      have hrow5 := (HROW.out).stored m (.slice tq rn (cq - 1))
      rw [← hws] at hrow5
      have hul := HUS.out.length
      have hset : ((Value.slice (some y) (rn + 1) cq :: us2).reverse).set m (.slice tq rn (cq - 1)) = ((.slice tq rn (cq - 1) : Value) :: us2).reverse := by
        rw [List.reverse_cons, List.reverse_cons, List.set_append_right _ _ (by rw [List.length_reverse, hul, HM.out]; exact Nat.le_refl _), List.length_reverse, hul, HM.out, Nat.sub_self]
        rfl
      rw [hset] at hrow5
      have hgr5 : wr.grownBy ws (some g) := hrow5.2
      have hss : ws.heap.size = wr.heap.size := by rw [hws]; simp
      have HSS := Lib.hid hss
      have HWS := Lib.hid hws
      have hnc := heap_at_new ws (.cells #[.int .i64 k1, .int .i64 n1, .string t1, .slice p2 an cp2] 29)
      rw [hss] at hnc
      obtain ⟨x0, x1, x2, x3, _⟩ := four_cells hnc
      rw [hws] at x0 x1 x2 x3
      obtain ⟨w5, hw5⟩ : ∃ w5, w5 = ws.alloc (.cells #[.int .i64 k1, .int .i64 n1, .string t1, .slice p2 an cp2] 29) := ⟨_, rfl⟩
      have HW5 : Hid (w5 = (wr.setCell ⟨g, m, none⟩ (.slice tq rn (cq - 1))).alloc (.cells #[.int .i64 k1, .int .i64 n1, .string t1, .slice p2 an cp2] 29)) := by rw [← hws]; exact hw5
      have HROW5 : Hid (w5.ownsRow w1.heap.size 27 1 (.slice (some ⟨g, 0, none⟩) (m + 1) cp) (m + 1) ((.slice tq rn (cq - 1) : Value) :: us2).reverse) := by rw [hw5]; exact World.ownsRow.alloc hrow5.1 _
      have HBY5 : Hid (Bytes w1.heap.size w5 u3 acc) := by
        rw [hw5]
        exact World.ownsRow.alloc (own_stays HBY.out hgr5 (fun b hb e => by
          have e2 := Option.some.inj e
          subst e2
          exact own_apart HROW.out HBY.out (by decide) g rfl hb)) _
      have HB5 : Hid (Below w1.heap.size w1 w5) := by
        have hb := HB1.out.trans ((Below.refl w1.heap.size wr).grown hgr5 HB1.out.size (fun b e => by cases e; exact hg.1))
        rw [hw5]
        exact hb.alloc hb.size _
      have HST5 : Hid (StackT w1 (r :: st) (.slice tq rn (cq - 1) :: us2)) := ⟨tq, cq - 1, us2, by rw [HRN.out], by rw [HRN.out]; have := HLC.out; omega, by rw [HRN.out]; exact hrn, HFR.out, by omega, HTQ2.out, HUS.out⟩
      have HBW5 : Hid (Below w.heap.size w w5) := HB.out.trans (HB5.out.mono HB.out.size)
      have HT5 := Lib.hid (Go.Joins.tab_stays (g := 1) (by kernel_rfl) HTAB.out HBW5.out (Nat.le_refl _))
      have hd5 : w1.heap.size ≤ w5.heap.size := HB5.out.size
      have hlt1 : acc.length ≤ 33554432 := by have := HTL.out; omega
      have hHD := impl_head w1.heap.size w5 u3 acc HBY5.out hd5 k1 n1 t1 p2 an cp2 hfn (by omega) (by omega) HT5.out
      clear hw5 hws hrow5 hset hgr5 hss hnc HTR2 HROW HBY HB1 HTQ2 HFR HLC HT5 hul
      by_cases hcase : k1 = 3 ∧ 0 < an
      · obtain ⟨rfl, hpos⟩ := hcase
        rw [if_pos rfl] at hHD
        have hne : a1 ≠ .nil := by intro e; subst e; have := HAN.out; simp [Trees.length] at this; omega
        have hT3 := HT2.out
        rw [fin_node n1 t1 a1 r st hne, ← List.append_assoc, ← List.append_assoc] at hT3
        have HT3 := Lib.hid hT3
        have hTL3 : (acc ++ headText 3 n1 t1).length + 1 ≤ 33554432 := by
          have h := congrArg List.length hT3
          rw [List.length_append, List.length_append] at h
          simp only [List.length_cons, List.length_nil] at h
          omega
        have HTOP2 : Hid (Topped (a1 :: r :: st)) := by
          cases a1 with
          | nil => exact absurd rfl hne
          | cons _ _ _ _ _ => exact .inr ⟨_, _, _, _, _, _, rfl⟩
        have HND2 : Hid (nodes (a1 :: r :: st) ≤ gk - 1) := by unfold Hid; simp only [nodes]; omega
        have HSA : Hid (a1.size ≤ 1048577) := by unfold Hid; omega
        clear hT3 hne HT2 HTL hhead hfk hfs hnd' hft hfn
        go_wp2_with fail
        rw [← HW5.out]
        refine hHD.mono ?_
        rintro e w6 ⟨⟨v6, rfl, hby6⟩, hg6⟩
        have hO6 := OnlyBytes.of_grown HBY5.out hg6
        have HROW6 := Lib.hid (hO6.row HROW5.out (by decide))
        have HB6 : Hid (Below w1.heap.size w1 w6) := HB5.out.trans (hO6.below hd5)
        have hB7 : Below w6.heap.size w6 (w6.alloc (.cells #[.int .u8 40] 5)) := (Below.refl _ _).alloc (Nat.le_refl _) _
        have HBY6 : Hid (Bytes w1.heap.size (w6.alloc (.cells #[.int .u8 40] 5)) v6 (acc ++ headText 3 n1 t1)) := World.ownsRow.alloc hby6 _
        have HO7 := Lib.hid (OnlyBytes.of_below (B := w1.heap.size) hB7)
        clear hHD hc hcN hfN x0 x1 x2 x3 q0 q1 q2 q3 hby6 hg6 hO6 hB7 HW5 HROW5 HBY5 HB5 HBW5 htq
        generalize acc ++ headText 3 n1 t1 = acc6 at *
        go_wp2_with (at_builtin; refine wpList_append_own _ rfl _ _ 40 rfl w1.heap.size 5 i0 (.int .u8 0) 1 1 Tryd.underlying40 hi hz0 hz1 hz2 rfl (by decide) _ _ _ rfl HBY6.out ⟨w6.heap.size, 0, none⟩ 1 1 [.int .u8 40] rfl rfl ?d1 ?d2 ?d3 ?d4 ?d5 ?_)
        case d1 => exact cell_one_new w6 (.int .u8 40) 5
        case d2 => intro u hu; simp at hu; subst hu; rfl
        case d3 => unfold maxLen; omega
        case d4 => omega
        case d5 => have := HB6.out.size; simp; omega
        intro v7 w7 hown7 hg7 _
        have hO7 : OnlyBytes w1.heap.size w6 w7 := HO7.out.trans (OnlyBytes.of_grown HBY6.out hg7)
        have HBY7 : Hid (Bytes w1.heap.size w7 v7 (acc6 ++ [40])) := Bytes.of (r := [40]) (m := 1) hown7 rfl
        have HROW7 : Hid ((w7.alloc (.cells #[.slice p2 an cp2] 27)).ownsRow w1.heap.size 27 1 (.slice (some ⟨g, 0, none⟩) (m + 1) cp) (m + 1) ((.slice tq rn (cq - 1) : Value) :: us2).reverse) := World.ownsRow.alloc (hO7.row HROW6.out (by decide)) _
        have HB7 : Hid (Below w1.heap.size w1 w7) := HB6.out.trans (hO7.below HB6.out.size)
        clear hown7 hg7 hO7 HBY6 HO7 HROW6 HB6
        go_wp2_with (at_builtin; refine wpList_append_own _ rfl _ _ 41 rfl w1.heap.size 27 j0 (.slice none 0 0) 1 24 Tryd.underlying41 hj jz0 jz1 jz2 rfl (by decide) _ _ _ rfl HROW7.out ⟨w7.heap.size, 0, none⟩ 1 1 [.slice p2 an cp2] rfl rfl ?d1 ?d2 ?d3 ?d4 ?d5 ?_)
        case d1 => exact cell_one_new w7 (.slice p2 an cp2) 27
        case d2 => intro u hu; simp at hu; subst hu; rfl
        case d3 => unfold maxLen; omega
        case d4 => omega
        case d5 => have := HB7.out.size; simp; omega
        intro v8 w8 hown8 hg8 _
        obtain ⟨g8, cp8, rfl⟩ := form_succ hown8
        have HI8 : Hid (FmtInv w1 (a1 :: r :: st) (acc6 ++ [40]) v7 (.slice (some ⟨g8, 0, none⟩) (m + 1 + 1) cp8) w8) := by
          refine ⟨.slice p2 an cp2 :: .slice tq rn (cq - 1) :: us2, g8, cp8, by rw [← HM.out]; rfl, ?_, ⟨p2, cp2, _, by rw [HAN.out], by rw [HAN.out]; exact HAL.out, by rw [HAN.out]; exact han, HFA.out, HSA.out, HAR.out, HST5.out⟩, own_stays (World.ownsRow.alloc HBY7.out _) hg8 (fun b hb e => ?_), ?_⟩
          · rw [List.reverse_cons, List.reverse_cons, List.append_assoc, show (a1 :: r :: st).length = m + 1 + 1 by simp [HM.out]]
            exact hown8
          · have e2 := Option.some.inj e
            subst e2
            exact own_apart HROW7.out (World.ownsRow.alloc HBY7.out _) (by decide) g rfl hb
          · exact (HB7.out.alloc HB7.out.size _).grown hg8 (by have := HB7.out.size; simp; omega) (fun b e => by cases e; exact hg.1)
        clear hown8 hg8 HROW7 HBY7 HB7
        go_wp2
        go_roundg (gk - 1)
        case rel => exact ⟨a1 :: r :: st, acc6 ++ [40], HI8.out, HT3.out, HTOP2.out, HND2.out, by omega, (by show _ ≤ _; rw [show (a1 :: r :: st).length = m + 1 + 1 by simp [HM.out]]; omega)⟩
        case measure => omega
      · obtain ⟨qa, ca, hqa⟩ : ∃ qa ca, (if k1 = 3 then Value.slice p2 an cp2 else .slice none 0 0) = .slice qa 0 ca := by
          by_cases h3 : k1 = 3
          · rw [if_pos h3]
            have : an = 0 := by omega
            exact ⟨p2, cp2, by rw [this]⟩
          · rw [if_neg h3]
            exact ⟨none, 0, rfl⟩
        rw [hqa] at hHD
        have hleaf : k1 ≠ 3 ∨ a1 = .nil := by
          by_cases h3 : k1 = 3
          · right
            have h0 : an = 0 := by omega
            have h1 := HAN.out
            rw [h0] at h1
            cases a1 with
            | nil => rfl
            | cons _ _ _ _ _ => simp [Trees.length] at h1
          · exact .inl h3
        have hT3 := HT2.out
        rw [fin_leaf k1 n1 t1 a1 r st hleaf, ← List.append_assoc, ← List.append_assoc] at hT3
        have HT3 := Lib.hid hT3
        have hTL3 : (acc ++ headText k1 n1 t1 ++ (marks2 (r :: st)).1).length ≤ 33554432 := by
          have h := congrArg List.length hT3
          rw [List.length_append] at h
          omega
        have HTOP2 : Hid (Topped (marks2 (r :: st)).2) := marks2_top (r :: st)
        have HND2 : Hid (nodes (marks2 (r :: st)).2 ≤ gk - 1) := by unfold Hid; rw [nodes_marks]; simp only [nodes]; omega
        have hml2 := marks_length (r :: st)
        rw [List.length_cons, HM.out] at hml2
        have HTL3 := Lib.hid hTL3
        have hlt6 : (acc ++ headText k1 n1 t1).length ≤ 33554432 := by rw [List.length_append] at hTL3; omega
        have HML2 := Lib.hid hml2
        clear hT3 hleaf HT2 HTL hhead hfk hfs hnd' hft hfn hqa hcase hTL3 hml2
        go_wp2_with fail
        rw [← HW5.out]
        refine hHD.mono ?_
        rintro e w6 ⟨⟨v6, rfl, hby6⟩, hg6⟩
        have hO6 := OnlyBytes.of_grown HBY5.out hg6
        have HROW6 : Hid (w6.ownsRow w1.heap.size 27 1 (.slice (some ⟨g, 0, none⟩) (r :: st).length cp) (r :: st).length ((.slice tq rn (cq - 1) : Value) :: us2).reverse) := by
          unfold Hid
          rw [List.length_cons, HM.out]
          exact hO6.row HROW5.out (by decide)
        have HB6 : Hid (Below w1.heap.size w1 w6) := HB5.out.trans (hO6.below hd5)
        have HBY6 := Lib.hid hby6
        clear hHD hc hcN hfN x0 x1 x2 x3 q0 q1 q2 q3 hby6 hg6 hO6 HW5 HROW5 HBY5 HB5 HBW5 htq
        generalize acc ++ headText k1 n1 t1 = acc6 at *
        have HMK := impl_marks w1.heap.size w1 w6 v6 acc6 HBY6.out HB6.out.size g cp (r :: st) _ HROW6.out HST5.out (by have := HTL3.out; omega) (by rw [List.length_cons, HM.out]; omega)
        rw [List.length_cons, HM.out] at HMK
        go_wp2_with fail
        refine HMK.mono ?_
        rintro e w7 ⟨⟨v7, us7, rfl, hby7, hrow7, hst7⟩, hO7⟩
        have HI7 : Hid (FmtInv w1 (marks2 (r :: st)).2 (acc6 ++ (marks2 (r :: st)).1) v7 (.slice (some ⟨g, 0, none⟩) (marks2 (r :: st)).2.length cp) w7) := ⟨us7, g, cp, rfl, hrow7, hst7, hby7, HB6.out.trans (hO7.below HB6.out.size)⟩
        clear HMK hby7 hrow7 hst7 hO7 HROW6 HBY6 HB6
        go_wp2
        go_roundg (gk - 1)
        case rel => exact ⟨(marks2 (r :: st)).2, acc6 ++ (marks2 (r :: st)).1, HI7.out, HT3.out, HTOP2.out, HND2.out, by omega, (by show _ ≤ _; have := HML2.out; omega)⟩
        case measure => omega
end Go.Proofs.YtlbmohdebbapgaaDoor
