/- What is proved here: the program's appendHead writes a value up to what is below it. Condition: the bytes so far are the call's own; the table of the powers of ten is as listed. -/
import Derived.Test.YtlbmohdebbapgaaDoorBytes
import Derived.Test.YtlbmohdebbapgaaDoorImplKind
import Derived.Test.YtlbmohdebbapgaaDoorItoaLaid
import Derived.Test.YtlbmohdebbapgaaDoorAssert
import Derived.Laws.Concat
namespace Go.Proofs.YtlbmohdebbapgaaDoor
open Go.RowKit

theorem zero_int (w : World) : (zeroValue 60).run Tryd.prog w = .ok (.agg #[.int .i64 0]) w := by kernel_rfl
theorem zero_text (w : World) : (zeroValue 62).run Tryd.prog w = .ok (.agg #[.string ⟨#[]⟩]) w := by kernel_rfl
theorem zero_con (w : World) : (zeroValue 64).run Tryd.prog w = .ok (.agg #[.string ⟨#[]⟩, .slice none 0 0]) w := by kernel_rfl

theorem grown_drew {w w' : World} {row : Option Nat} (h : w.drew.grownBy w' row) : w.grownBy w' row := ⟨h.os, h.tape, h.output, h.size, h.block⟩
theorem pair_cells {w : World} {b : Nat} {x y : Value} {T : TypeId} (h : w.heap[b]? = some (.cells #[x, y] T (0, 0))) : w.cell? ⟨b, 0, none⟩ = some x ∧ w.cell? ⟨b, 1, none⟩ = some y := by
  refine ⟨?_, ?_⟩ <;> simp [World.cell?, h]
theorem Bytes.str {B : Nat} {w : World} {v : Value} {l x : List UInt8} {s : ByteArray} (h : w.ownsRow B 5 1 v (l.length + s.size) (bytesV l ++ Lib.strCells s)) (hs : s = str x) : Bytes B w v (l ++ x) := by
  subst hs
  refine Bytes.of (m := (Go.Proofs.YtlbmohdebbapgaaDoor.str x).size) ?_ (str_size x).symm
  have e : Lib.strCells (Go.Proofs.YtlbmohdebbapgaaDoor.str x) = bytesV x := by simp [Lib.strCells, bytesV, Go.Proofs.YtlbmohdebbapgaaDoor.str]
  rw [← e]
  exact h
theorem catB (a b : List UInt8) (h : a.length + b.length ≤ 1099511627776) (w : World) : (Op.stringOp .add (str a) (str b)).run Tryd.prog w = .ok (.string (str (a ++ b))) w := by
  rw [run_string_add_sum w _ _ (by rw [str_size, str_size]; omega), str_append]

set_option maxHeartbeats 2000000 in
set_option maxRecDepth 100000 in
theorem impl_head (B : Nat) (w : World) (v : Value) (l : List UInt8) (hown : Bytes B w v l) (hB : B ≤ w.heap.size) (k n : Int) (t : ByteArray) (p : Option Addr) (m c : Nat) (hn : -9223372036854775808 ≤ n ∧ n ≤ 9223372036854775807) (ht : t.size ≤ 1048576) (hl : l.length ≤ 1073741824) (htab : Lib.TabIs Tryd.prog w "internal/strconv.uint64pow10" .u64 Lib.pow10Tab) :
    Calls Tryd.prog 17 #[v, .agg #[.int .i64 k, .int .i64 n, .string t, .slice p m c]] w fun e w' =>
      (∃ v', e = .returned (.tuple #[v', if k = 3 then .slice p m c else .slice none 0 0]) ∧ Bytes B w' v' (l ++ headText k n t)) ∧ w.grownBy w' v.ownBlock := by
  have hi : (Tryd.prog.info? 5).map (fun i => (i.zero, i.size, i.bytes)) = some (some (.int .u8 0), 1, 1) := by kernel_rfl
  obtain ⟨i0, hi, hz0, hz1, hz2⟩ := info_parts hi
  have HBX := (Below.refl w.heap.size w).alloc (Nat.le_refl _) (.cells #[.int .i64 k, .int .i64 n, .string t, .slice p m c] 29)
  have HB0 := Lib.hid HBX
  have HOWN := Lib.hid hown
  have hvl := hown.lt
  have HVL := Lib.hid hvl
  have hK := impl_kind (w.alloc (.cells #[.int .i64 k, .int .i64 n, .string t, .slice p m c] 29)) k n t p m c
  have y1 := assert_yes (P := Tryd.prog) (X := 57) Tryd.underlying60
  have y2 := assert_yes (P := Tryd.prog) (X := 57) Tryd.underlying62
  have y3 := assert_yes (P := Tryd.prog) (X := 57) Tryd.underlying64
  have n21 := assert_no (P := Tryd.prog) (X := 57) (T2 := 62) Tryd.underlying60 zero_int (by decide)
  have n31 := assert_no (P := Tryd.prog) (X := 57) (T2 := 64) Tryd.underlying60 zero_int (by decide)
  have n32 := assert_no (P := Tryd.prog) (X := 57) (T2 := 64) Tryd.underlying62 zero_text (by decide)
  have n1 := assert_nil (P := Tryd.prog) (X := 57) Tryd.underlying60 zero_int
  have n2 := assert_nil (P := Tryd.prog) (X := 57) Tryd.underlying62 zero_text
  have n3 := assert_nil (P := Tryd.prog) (X := 57) Tryd.underlying64 zero_con
  clear hown hvl HBX
  by_cases h1 : k = 1
  · subst h1
    have e : headText 1 n t = Lib.itoa n := by simp [headText]
    rw [e, if_neg (by decide)]
    have hlen := itoa_len n hn.1 hn.2
    have hz : (str (Lib.itoa n)).size = (Lib.itoa n).length := str_size _
    change Calls _ _ _ _ (fun e w' => e = .returned (.iface 60 (.agg #[.int .i64 n])) ∧ _) at hK
    go_enter Tryd.func17, Tryd.ntmps17
    go_wp2_with fail
    refine hK.mono ?_
    rintro e w1 ⟨rfl, hb1⟩
    have HB1 := Lib.hid hb1
    have hB2 : Below w.heap.size w (w1.alloc (.cells #[.int .i64 n] 60)) := (HB0.out.trans (hb1.mono HB0.out.size)).alloc (Nat.le_trans HB0.out.size hb1.size) _
    have HB2 := Lib.hid hB2
    have HT := Lib.hid (Go.Joins.tab_stays (g := 1) (by kernel_rfl) htab hB2 (Nat.le_refl _))
    clear hb1 hK hB2 htab
    go_wp2_with fail
    generalize w1.alloc (.cells #[.int .i64 n] 60) = w2 at *
    refine (impl_format n hn.1 hn.2 w2 HT.out).mono ?_
    rintro e w3 ⟨rfl, hb3⟩
    have HB3 : Hid (Below w.heap.size w w3) := HB2.out.trans (hb3.mono HB2.out.size)
    have HO3 : Hid (Bytes B w3 v l) := own_stays HOWN.out (grown_below HB3.out none) (fun b _ => by simp)
    clear hb3 HT
    generalize hS : (⟨(Lib.itoa n).toArray⟩ : ByteArray) = s at *
    have HS : Hid (s = str (Lib.itoa n)) := hS.symm
    have HSS : Hid (s.size = (Lib.itoa n).length) := by unfold Hid; rw [← hS]; exact hz
    go_wp2_with (at_builtin; refine Lib.wpList_append_own_string _ rfl _ _ 40 9 rfl B 5 i0 Tryd.underlying40 Tryd.underlying9 hi hz0 hz1 hz2 _ _ _ rfl HO3.out s rfl ?c3 ?c4 ?c5 ?_)
    case c3 => rw [HSS.out]; unfold maxLen; omega
    case c4 => rw [HSS.out]; omega
    case c5 => exact Nat.le_trans hB HB3.out.size
    intro v4 w4 hown4 hg4 _
    have HO4 : Hid (Bytes B w4 v4 (l ++ Lib.itoa n)) := Bytes.str hown4 HS.out
    have HG4 : Hid (w.grownBy w4 v.ownBlock) := grown_trans (grown_below HB3.out none) hg4 (fun b h => by cases h) (fun b h => .inl h)
    clear hown4 hg4
    go_wp2
    go_ret2
    exact ⟨⟨v4, rfl, HO4.out⟩, HG4.out⟩
  · have e1 : (k == 1) = false := by simpa using h1
    by_cases h2 : k = 2
    · subst h2
      have e : headText 2 n t = [34] ++ t.data.toList ++ [34] := by simp [headText]
      rw [e, if_neg (by decide)]
      have htl : t.data.toList.length = t.size := rfl
      have hc1 := fun w => catB [34] t.data.toList (by rw [htl]; simp; omega) w
      rw [str_data] at hc1
      have hc2 := fun w => catB ([34] ++ t.data.toList) [34] (by rw [List.length_append, htl]; simp; omega) w
      change ∀ w, (Op.stringOp .add ⟨#[34]⟩ t).run Tryd.prog w = _ at hc1
      change ∀ w, (Op.stringOp .add (str ([34] ++ t.data.toList)) ⟨#[34]⟩).run Tryd.prog w = _ at hc2
      have hz : (str ([34] ++ t.data.toList ++ [34])).size = t.size + 2 := by rw [str_size]; simp [htl]
      generalize str ([34] ++ t.data.toList) = s1 at *
      generalize hS : str ([34] ++ t.data.toList ++ [34]) = s at *
      have HS : Hid (s = str ([34] ++ t.data.toList ++ [34])) := hS.symm
      have HSS := Lib.hid hz
      clear hz hS htl e
      change Calls _ _ _ _ (fun e w' => e = .returned (.iface 62 (.agg #[.string t])) ∧ _) at hK
      go_enter Tryd.func17, Tryd.ntmps17
      go_wp2_with fail
      refine hK.mono ?_
      rintro e w1 ⟨rfl, hb1⟩
      have hB2 : Below w.heap.size w ((w1.alloc (.cells #[.int .i64 0] 60)).alloc (.cells #[.string t] 62)) := ((HB0.out.trans (hb1.mono HB0.out.size)).alloc (Nat.le_trans HB0.out.size hb1.size) _).alloc (Nat.le_trans (Nat.le_trans HB0.out.size hb1.size) (by simp)) _
      have hB1 : Below w.heap.size w (w1.alloc (.cells #[.string t] 62)) := (HB0.out.trans (hb1.mono HB0.out.size)).alloc (Nat.le_trans HB0.out.size hb1.size) _
      have HB1 := Lib.hid hB1
      have HO3 : Hid (Bytes B (w1.alloc (.cells #[.string t] 62)) v l) := own_stays HOWN.out (grown_below HB1.out none) (fun b _ => by simp)
      clear hb1 hK hB2 hB1
      go_wp2_with (at_builtin; refine Lib.wpList_append_own_string _ rfl _ _ 40 9 rfl B 5 i0 Tryd.underlying40 Tryd.underlying9 hi hz0 hz1 hz2 _ _ _ rfl HO3.out s rfl ?c3 ?c4 ?c5 ?_)
      case c3 => rw [HSS.out]; unfold maxLen; omega
      case c4 => rw [HSS.out]; omega
      case c5 => exact Nat.le_trans hB HB1.out.size
      intro v4 w4 hown4 hg4 _
      have HO4 : Hid (Bytes B w4 v4 (l ++ ([34] ++ t.data.toList ++ [34]))) := Bytes.str hown4 HS.out
      have HG4 : Hid (w.grownBy w4 v.ownBlock) := grown_trans (grown_below HB1.out none) hg4 (fun b h => by cases h) (fun b h => .inl h)
      clear hown4 hg4
      go_wp2
      go_ret2
      exact ⟨⟨v4, rfl, HO4.out⟩, HG4.out⟩
    · have e2 : (k == 2) = false := by simpa using h2
      by_cases h3 : k = 3
      · subst h3
        have e : headText 3 n t = t.data.toList := by simp [headText]
        rw [e, if_pos rfl]
        change Calls _ _ _ _ (fun e w' => e = .returned (.iface 64 (.agg #[.string t, .slice p m c])) ∧ _) at hK
        go_enter Tryd.func17, Tryd.ntmps17
        go_wp2_with fail
        refine hK.mono ?_
        rintro e w1 ⟨rfl, hb1⟩
        have hB1 : Below w.heap.size w (w1.alloc (.cells #[.string t, .slice p m c] 64)) := (HB0.out.trans (hb1.mono HB0.out.size)).alloc (Nat.le_trans HB0.out.size hb1.size) _
        have HB1 := Lib.hid hB1
        have HO3 : Hid (Bytes B (w1.alloc (.cells #[.string t, .slice p m c] 64)) v l) := own_stays HOWN.out (grown_below HB1.out none) (fun b _ => by simp)
        have HBB : Hid (w.heap.size ≤ w1.heap.size) := Nat.le_trans HB0.out.size hb1.size
        have hbx := heap_at_new w1 (.cells #[.string t, .slice p m c] 64)
        have HBXX := Lib.hid hbx
        obtain ⟨hx0, hx1⟩ := pair_cells hbx
        have HK3 : Hid (l.length + t.size ≤ maxLen) := by unfold Hid maxLen; omega
        have HK4 : Hid (l.length + t.size ≤ 140737488355328) := by unfold Hid; omega
        have HK5 : Hid (B ≤ (w1.alloc (.cells #[.string t, .slice p m c] 64)).heap.size) := Nat.le_trans hB HB1.out.size
        have HX4 : Hid (∀ w4, (w1.alloc (.cells #[.string t, .slice p m c] 64)).grownBy w4 v.ownBlock → w4.cell? ⟨w1.heap.size, 1, none⟩ = some (.slice p m c)) := fun w4 hg => hg.cell hx1 (fun e => by have := HVL.out _ e.symm; have := HBB.out; simp at *; omega)
        clear hb1 hK hB1 hbx
        go_wp2
        generalize w1.alloc (.cells #[.string t, .slice p m c] 64) = w2 at *
        go_region_law (first
          | (refine step_append_str rfl (.tmp 31) (.tmp 33) 40 9 rfl B 5 i0 Tryd.underlying40 Tryd.underlying9 hi hz0 hz1 hz2 _ _ _ (by simp [Act.eval]) HO3.out t (by simp [Act.eval]) HK3.out HK4.out HK5.out ?_; intro v4 w4 hown4 hg4; have hx4 := HX4.out w4 (grown_drew hg4)))
        all_goals
          have HO4 : Hid (Bytes B w4 v4 (l ++ t.data.toList)) := Bytes.str hown4 (str_data t).symm
          have HG4 : Hid (w.grownBy w4 v.ownBlock) := grown_trans (grown_below HB1.out none) (grown_drew hg4) (fun b h => by cases h) (fun b h => .inl h)
          clear hown4 hg4
          go_wp2
          go_ret2
          exact ⟨⟨v4, rfl, HO4.out⟩, HG4.out⟩
      · have e3 : (k == 3) = false := by simpa using h3
        have e : headText k n t = [63] := by simp [headText, h1, h2, h3]
        rw [e, if_neg h3]
        have hkk : kindV k n t p m c = .nilIface := by unfold kindV; rw [if_neg h1, if_neg h2, if_neg h3]
        rw [hkk] at hK
        clear h1 h2 h3 e hkk
        go_enter Tryd.func17, Tryd.ntmps17
        go_wp2_with fail
        refine hK.mono ?_
        rintro e w1 ⟨rfl, hb1⟩
        have hB1 : Below w.heap.size w (w1.alloc (.cells #[.int .u8 63] 5)) := (HB0.out.trans (hb1.mono HB0.out.size)).alloc (Nat.le_trans HB0.out.size hb1.size) _
        have HB1 := Lib.hid hB1
        have HO3 : Hid (Bytes B (w1.alloc (.cells #[.int .u8 63] 5)) v l) := own_stays HOWN.out (grown_below HB1.out none) (fun b _ => by simp)
        clear hb1 hK hB1
        go_wp2_with (at_builtin; refine wpList_append_own _ rfl _ _ 40 rfl B 5 i0 (.int .u8 0) 1 1 Tryd.underlying40 hi hz0 hz1 hz2 rfl (by decide) _ _ _ rfl HO3.out ⟨w1.heap.size, 0, none⟩ 1 1 [.int .u8 63] rfl rfl ?d1 ?d2 ?d3 ?d4 ?d5 ?_)
        case d1 => exact cell_one_new w1 (.int .u8 63) 5
        case d2 => intro u hu; simp at hu; subst hu; rfl
        case d3 => unfold maxLen; omega
        case d4 => omega
        case d5 => exact Nat.le_trans hB HB1.out.size
        intro v4 w4 hown4 hg4 _
        have HO4 : Hid (Bytes B w4 v4 (l ++ [63])) := Bytes.of (m := 1) hown4 rfl
        have HG4 : Hid (w.grownBy w4 v.ownBlock) := grown_trans (grown_below HB1.out none) hg4 (fun b h => by cases h) (fun b h => .inl h)
        clear hown4 hg4
        go_wp2
        go_ret2
        exact ⟨⟨v4, rfl, HO4.out⟩, HG4.out⟩
end Go.Proofs.YtlbmohdebbapgaaDoor
