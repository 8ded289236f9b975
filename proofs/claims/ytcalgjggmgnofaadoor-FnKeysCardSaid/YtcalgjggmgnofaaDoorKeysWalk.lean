/- What is proved here: the text of FnKeys returns true for every code. Condition: the table of the powers of ten is as listed. -/
import Derived.Test.YtcalgjggmgnofaaDoorBig
import Derived.Test.YtcalgjggmgnofaaDoorDrawTops
import Derived.Test.YtcalgjggmgnofaaDoorImplKey
import Derived.Test.YtcalgjggmgnofaaDoorFindKey
import Derived.Test.YtcalgjggmgnofaaDoorFormatKey
import Derived.Deep.RegionHeld3
namespace Go.Proofs.YtcalgjggmgnofaaDoor
open Go.RowKit

theorem keyOf_small (k n : Int) (t : ByteArray) : ∃ x : KeyD, keyOfV k n t = .agg #[.int .i64 x.1, .int .i64 x.2.1, .string x.2.2] ∧ (x.2.1 = n ∨ x.2.1 = 0) ∧ (x.2.2 = t ∨ x.2.2 = ⟨#[]⟩) := by
  unfold keyOfV keyV
  split
  · exact ⟨(1, n, ⟨#[]⟩), rfl, .inl rfl, .inr rfl⟩
  · split
    · exact ⟨(2, 0, t), rfl, .inr rfl, .inl rfl⟩
    · split
      · exact ⟨(3, 0, t), rfl, .inr rfl, .inl rfl⟩
      · exact ⟨(0, 0, ⟨#[]⟩), rfl, .inr rfl, .inr rfl⟩

/-- The least index: the element there is the key, and it is in no shorter list. -/
theorem idxK_found (x : KeyD) (l : List KeyD) (k : Nat) : idxK x l k = -1 ∨ ∃ (i : Nat) (h : i < l.length), idxK x l k = ((k + i : Nat) : Int) ∧ l[i] = x ∧ ∀ c, idxK x (l.take i) c = -1 := by
  induction l generalizing k with
  | nil => exact .inl rfl
  | cons y l ih =>
    by_cases h : y = x
    · exact .inr ⟨0, by simp, by simp [idxK, h], h, fun c => rfl⟩
    · rcases ih (k + 1) with e | ⟨i, hi, e, hx, hn⟩
      · left
        simp [idxK, h, e]
      · right
        refine ⟨i + 1, by simp; omega, ?_, by simpa using hx, fun c => ?_⟩
        · simp only [idxK, if_neg h, e]
          congr 1
          omega
        · simp [idxK, h, hn]

set_option maxRecDepth 100000 in
theorem neq_key (w : World) (x y : KeyD) : (binOp .neq 40 (.agg #[.int .i64 x.1, .int .i64 x.2.1, .string x.2.2]) (.agg #[.int .i64 y.1, .int .i64 y.2.1, .string y.2.2])).run Tryd.prog w = .ok (.bool (!decide (x = y))) w := by
  have ui := Tryd.underlying3
  have us := Tryd.underlying9
  have ai := Tryd.isAgg3
  have zi := Tryd.sizeOf3
  have sa := Tryd.isAgg9
  have sz := Tryd.sizeOf9
  have hS : Tryd.prog.underlying 40 = some (.struct (Tryd.prog.fieldsOf 40)) := by kernel_rfl
  have hp : Tryd.prog.stoodInHeld 40 = false := by kernel_rfl
  rw [run_neq_struct, show (10000 : Nat) = 9999 + 1 from rfl, run_equalIn_agg w 9999 40 _ _ hS hp]
  simp only [Program.fieldsOf, Tryd.underlying40]
  go_simp
  obtain ⟨x1, x2, x3⟩ := x
  obtain ⟨y1, y2, y3⟩ := y
  by_cases h1 : x1 = y1 <;> by_cases h2 : x2 = y2 <;> by_cases h3 : x3 = y3 <;> simp [h1, h2, h3, bytes_iff]
theorem guard_neq (w : World) (x y : Operand) (xs ys : Array Value) : (eqGuard .neq 40 x y (.agg xs) (.agg ys)).run Tryd.prog w = .ok () w :=
  run_eqGuard_agg w .neq _ x y xs ys (by kernel_rfl)

set_option maxHeartbeats 4000000 in
set_option maxRecDepth 100000 in
theorem fnKeys_walk (a : Option Addr) (len cap : Nat) (zs : List Int) (w : World) (hr : IsRow .u8 w a len cap zs) (htab : Lib.TabIs Tryd.prog w "internal/strconv.uint64pow10" .u64 Lib.pow10Tab) :
    Calls Tryd.prog 4 #[.slice a len cap] w fun e w' => e = .returned (.bool true) ∧ Below w.heap.size w w' := by
  have hlen := row_len hr
  have HR := Lib.hid hr
  have HT := Lib.hid (fun w' (hb : Below w.heap.size w w') => Go.Joins.tab_stays (g := 0) (by kernel_rfl) htab hb (Nat.le_refl _))
  clear hr htab
  by_cases hbig : 1048576 < len
  · go_enter Tryd.func4, Tryd.ntmps4
    go_wp2_with fail
    refine (big_any a len cap hlen _).mono ?_
    rintro e w1 ⟨rfl, rfl⟩
    rw [decide_eq_true hbig]
    go_wp2
    go_ret
    exact ⟨rfl, Below.refl _ _⟩
  · go_enter Tryd.func4, Tryd.ntmps4
    go_wp2_with fail
    refine (big_any a len cap hlen _).mono ?_
    rintro e w0 ⟨rfl, rfl⟩
    rw [decide_eq_false hbig]
    go_wp2_with fail
    refine (drawKeyOf_any w a len cap zs HR.out (by omega)).mono ?_
    rintro e w1 ⟨k, n, t, v, F, B, bs, xs, rfl, hB, hG, -, -, hk, hn, ht, hb1⟩
    obtain ⟨a1, c1, rfl⟩ := hG.form
    obtain ⟨x, hx, hxn, hxt⟩ := keyOf_small k n t
    have hxs : x.2.2.size ≤ 1048576 := by rcases hxt with e | e <;> rw [e] <;> first | omega | decide
    have hxb : -9223372036854775808 ≤ x.2.1 ∧ x.2.1 ≤ 9223372036854775807 := by omega
    have HI := Lib.hid (fun w' => impl_keyOf w' k n t a1 F.length c1)
    have HS := Lib.hid (fun w' => spec_keyOf w' k n t a1 F.length c1)
    rw [hx] at HI HS
    have HFI := fun w' (hb : Below w.heap.size w w') => impl_formatKey w' x.1 x.2.1 x.2.2 hxb hxs (HT.out w' hb)
    have HFS := fun w' => spec_formatKey w' x.1 x.2.1 x.2.2 hxb hxs
    generalize str (headText x.1 x.2.1 x.2.2) = s at HFI HFS
    have HFI := Lib.hid HFI
    have HFS := Lib.hid HFS
    have hb2 : Below w.heap.size w (w1.alloc (.cells #[.int .i64 k, .int .i64 n, .string t, .slice a1 F.length c1] 26)) := hb1.alloc hb1.size _
    have hv2 : BoxAt (w1.alloc (.cells #[.int .i64 k, .int .i64 n, .string t, .slice a1 F.length c1] 26)) w1.heap.size k n t a1 F.length c1 26 := heap_at_new w1 _
    have HB2 := Lib.hid hb2
    have HV2 := Lib.hid hv2
    obtain ⟨v0, v1, v2, v3, _⟩ := four_cells hv2
    clear hG hB hb1 hk hn ht hx hxn hxt hxs hxb hb2 hv2 HT
    go_wp2_with fail
    refine (HI.out _).mono ?_
    rintro e w2 ⟨rfl, hb3⟩
    have hb3' : Below w.heap.size w w2 := HB2.out.trans (hb3.mono HB2.out.size)
    have hv3 := HV2.out.below hb3
    have hb4 : Below w.heap.size w (w2.alloc (.cells #[.int .i64 x.1, .int .i64 x.2.1, .string x.2.2] 40)) := hb3'.alloc hb3'.size _
    have hv4 := hv3.below ((Below.refl w2.heap.size w2).alloc (Nat.le_refl _) (.cells #[.int .i64 x.1, .int .i64 x.2.1, .string x.2.2] 40))
    have hk4 : KeyAt _ w2.heap.size x.1 x.2.1 x.2.2 40 := heap_at_new w2 (.cells #[.int .i64 x.1, .int .i64 x.2.1, .string x.2.2] 40)
    have HB4 := Lib.hid hb4
    have HV4 := Lib.hid hv4
    have HK4 := Lib.hid hk4
    have HDR := Lib.hid (drawFindKey_any _ a len cap zs (row_below HR.out hb4) (by omega))
    clear v0 v1 v2 v3 hb3 hb3' hv3 hb4 hv4 hk4 HB2 HV2 HI HR
    go_wp2_with fail
    refine HDR.out.mono ?_
    rintro e w3 ⟨la, lc, l, y, rfl, hlc, hcm, hl4, hka, -, hb5⟩
    have hb5' : Below w.heap.size w w3 := HB4.out.trans (hb5.mono HB4.out.size)
    have hal := (Below.refl w3.heap.size w3).alloc (Nat.le_refl _) (.cells #[.int .i64 y.1, .int .i64 y.2.1, .string y.2.2] 40)
    have hb6 := hb5'.alloc hb5'.size (.cells #[.int .i64 y.1, .int .i64 y.2.1, .string y.2.2] 40)
    have HV6 := Lib.hid ((HV4.out.below hb5).below hal)
    have HK6 := Lib.hid ((HK4.out.below hb5).below hal)
    have hy6 : KeyAt _ w3.heap.size y.1 y.2.1 y.2.2 40 := heap_at_new w3 (.cells #[.int .i64 y.1, .int .i64 y.2.1, .string y.2.2] 40)
    have HX6 := Lib.hid (hka.below hal)
    have HB6 := Lib.hid hb6
    have HY6 := Lib.hid hy6
    have HL := Lib.hid (show l.length ≤ lc ∧ lc ≤ maxLen ∧ l.length ≤ 4 from ⟨hlc, hcm, hl4⟩)
    have hmm : l.length ≤ maxLen := by omega
    have HFK := fun w' (hb : KeysAt w' la l) => impl_findKey w' la lc l y hb hmm
    have HSK := fun w' (hb : KeysAt w' la l) => spec_findKey w' la lc l y hb hmm
    have HID := Lib.hid (idxK_found y l 0)
    generalize idxK y l 0 = z at HFK HSK HID
    have HFK := Lib.hid HFK
    have HSK := Lib.hid HSK
    obtain ⟨y0, y1, y2⟩ := hy6.cells
    clear hlc hcm hl4 hka hb5 hb5' hal hb6 hy6 hmm HV4 HK4 HB4 HDR
    go_wp2_with fail
    refine (HFK.out _ HX6.out).mono ?_
    rintro e w5 ⟨rfl, hb7⟩
    have HB7 : Hid (Below w.heap.size w w5) := HB6.out.trans (hb7.mono HB6.out.size)
    have HV7 := Lib.hid (HV6.out.below hb7)
    have HK7 := Lib.hid (HK6.out.below hb7)
    have HY7 := Lib.hid (HY6.out.below hb7)
    have HX7 := Lib.hid (HX6.out.below hb7)
    clear y0 y1 y2 hb7 HB6 HV6 HK6 HY6 HX6
    have HF : Hid (∀ w', Below w5.heap.size w5 w' → w'.cell? ⟨w1.heap.size, 0, none⟩ = some (.int .i64 k) ∧ w'.cell? ⟨w1.heap.size, 1, none⟩ = some (.int .i64 n) ∧ w'.cell? ⟨w1.heap.size, 2, none⟩ = some (.string t) ∧ w'.cell? ⟨w1.heap.size, 3, none⟩ = some (.slice a1 F.length c1) ∧ w'.cell? ⟨w2.heap.size, 0, none⟩ = some (.int .i64 x.1) ∧ w'.cell? ⟨w2.heap.size, 1, none⟩ = some (.int .i64 x.2.1) ∧ w'.cell? ⟨w2.heap.size, 2, none⟩ = some (.string x.2.2) ∧ w'.cell? ⟨w3.heap.size, 0, none⟩ = some (.int .i64 y.1) ∧ w'.cell? ⟨w3.heap.size, 1, none⟩ = some (.int .i64 y.2.1) ∧ w'.cell? ⟨w3.heap.size, 2, none⟩ = some (.string y.2.2)) := by
      intro w' hb
      obtain ⟨v0, v1, v2, v3, _⟩ := four_cells (HV7.out.below hb)
      obtain ⟨k0, k1, k2⟩ := (HK7.out.below hb).cells
      obtain ⟨y0, y1, y2⟩ := (HY7.out.below hb).cells
      exact ⟨v0, v1, v2, v3, k0, k1, k2, y0, y1, y2⟩
    have hq1 := fun w => neq_key w x x
    simp only [decide_true, Bool.not_true] at hq1
    have hg1 := guard_neq
    obtain ⟨v0, v1, v2, v3, k0, k1, k2, y0, y1, y2⟩ := HF.out w5 (Below.refl _ _)
    go_wp2
    have HB0 : Hid (Below w5.heap.size w5 w5.drew) := (Below.refl _ _).drew
    go_region_held3 (fun w' => w'.cell? ⟨w1.heap.size, 0, none⟩ = some (.int .i64 k) ∧ w'.cell? ⟨w1.heap.size, 1, none⟩ = some (.int .i64 n) ∧ w'.cell? ⟨w1.heap.size, 2, none⟩ = some (.string t) ∧ w'.cell? ⟨w1.heap.size, 3, none⟩ = some (.slice a1 F.length c1) ∧ w'.cell? ⟨w2.heap.size, 0, none⟩ = some (.int .i64 x.1) ∧ w'.cell? ⟨w2.heap.size, 1, none⟩ = some (.int .i64 x.2.1) ∧ w'.cell? ⟨w2.heap.size, 2, none⟩ = some (.string x.2.2) ∧ w'.cell? ⟨w3.heap.size, 0, none⟩ = some (.int .i64 y.1) ∧ w'.cell? ⟨w3.heap.size, 1, none⟩ = some (.int .i64 y.2.1) ∧ w'.cell? ⟨w3.heap.size, 2, none⟩ = some (.string y.2.2))
      (first
        | go_keep
        | exact HF.out _ HB9.out
        | exact HF.out _ HB8.out
        | exact HF.out _ HBb.out
        | exact HF.out _ HBc.out
        | exact HF.out _ HBa.out)
      (first
        | (go_at_call 23; refine (HS.out w5.drew).mono ?_; rintro e wa ⟨rfl, hb⟩; have HBa : Hid (Below w5.heap.size w5 wa) := HB0.out.trans (hb.mono HB0.out.size); clear hb)
        | (go_at_call 24; first
          | (refine (HFI.out wc (HB7.out.trans (HBc.out.mono HB7.out.size))).mono ?_; rintro e w8 ⟨rfl, hb⟩; have HB8 : Hid (Below w5.heap.size w5 w8) := HBc.out.trans (hb.mono HBc.out.size); clear hb)
          | (refine (HFI.out wa (HB7.out.trans (HBa.out.mono HB7.out.size))).mono ?_; rintro e wb ⟨rfl, hb⟩; have HBb : Hid (Below w5.heap.size w5 wb) := HBa.out.trans (hb.mono HBa.out.size); clear hb))
        | (go_at_call 25; first
          | (refine (HFS.out wb).mono ?_; rintro e w8 ⟨rfl, hb⟩; have HB8 : Hid (Below w5.heap.size w5 w8) := HBb.out.trans (hb.mono HBb.out.size); clear hb)
          | (refine (HFS.out wa).mono ?_; rintro e wc ⟨rfl, hb⟩; have HBc : Hid (Below w5.heap.size w5 wc) := HBa.out.trans (hb.mono HBa.out.size); clear hb))
        | (go_at_call 26; refine (HSK.out w8 (HX7.out.below HB8.out)).mono ?_; rintro e w9 ⟨rfl, hb⟩; have HB9 : Hid (Below w5.heap.size w5 w9) := HB8.out.trans (hb.mono HB8.out.size); clear hb))
    all_goals
      clear v0 v1 v2 v3 k0 k1 k2 y0 y1 y2 hq1 hg1 HS HFI HFS HSK HFK
      obtain ⟨-, -, -, -, -, -, -, y0, y1, y2⟩ := HF.out w9 HB9.out
      have HK9 := Lib.hid (HX7.out.below HB9.out)
      have HBW : Hid (Below w.heap.size w w9) := HB7.out.trans (HB9.out.mono HB7.out.size)
      clear HF HX7 HB9 HB8 HBa HB0 HV7 HK7 HY7 HB7
      rcases HID.out with rfl | ⟨i, hi, hz, hy, hn⟩
      · clear HID HK9
        go_wp2
        go_quiet (fail)
        go_wp2
        go_ret
        exact ⟨rfl, below_drewN HBW.out _⟩
      · rw [Nat.zero_add] at hz
        subst hz
        obtain ⟨p, rfl, h1, h2, h3⟩ := HK9.out i hi
        rw [hy] at h1 h2 h3
        have hlt : (l.take i).length = i := by simp; omega
        have hkt : ∀ w', KeysAt w' (some p) l → KeysAt w' (some p) (l.take i) := by
          intro w' h j hj
          have := h j (by simp at hj; omega)
          simpa using this
        have HP : Hid (∀ w', Below w9.heap.size w9 w' → w'.cell? ⟨w3.heap.size, 0, none⟩ = some (.int .i64 y.1) ∧ w'.cell? ⟨w3.heap.size, 1, none⟩ = some (.int .i64 y.2.1) ∧ w'.cell? ⟨w3.heap.size, 2, none⟩ = some (.string y.2.2) ∧ w'.cell? (p.add (i * 3)) = some (.int .i64 y.1) ∧ w'.cell? (keyField p i 1) = some (.int .i64 y.2.1) ∧ w'.cell? (keyField p i 2) = some (.string y.2.2)) :=
          fun w' hb => ⟨cell_below y0 hb, cell_below y1 hb, cell_below y2 hb, cell_below h1 hb, cell_below h2 hb, cell_below h3 hb⟩
        have HFP : Hid (∀ w', Below w9.heap.size w9 w' → Calls Tryd.prog 22 #[.slice (some p) i lc, .agg #[.int .i64 y.1, .int .i64 y.2.1, .string y.2.2]] w' fun e w'' => e = .returned (.int .i64 (-1)) ∧ Below w'.heap.size w' w'') := by
          intro w' hb
          have h := impl_findKey w' (some p) lc (l.take i) y (hkt w' (HK9.out.below hb)) (by have := HL.out; omega)
          rw [hlt, hn 0] at h
          exact h
        have hq1 := fun w => eql_key w y y
        simp only [decide_true] at hq1
        have hg1 := guard_key
        have hil : i ≤ lc := by have := HL.out; omega
        have HL2 := HL.out
        have hm4 := HL2.2.2
        clear HID HK9 hy hn hlt hkt HL2
        generalize l.length = m at *
        go_wp2
        have HB0 : Hid (Below w9.heap.size w9 w9.drew) := (Below.refl _ _).drew
        go_region_held3 (fun w' => w'.cell? ⟨w3.heap.size, 0, none⟩ = some (.int .i64 y.1) ∧ w'.cell? ⟨w3.heap.size, 1, none⟩ = some (.int .i64 y.2.1) ∧ w'.cell? ⟨w3.heap.size, 2, none⟩ = some (.string y.2.2) ∧ w'.cell? (p.add (i * 3)) = some (.int .i64 y.1) ∧ w'.cell? (keyField p i 1) = some (.int .i64 y.2.1) ∧ w'.cell? (keyField p i 2) = some (.string y.2.2))
          (first
            | go_keep
            | exact HP.out _ HBa.out)
          (first | (go_at_call 22; refine (HFP.out w9.drew HB0.out).mono ?_; rintro e wa ⟨rfl, hb⟩; have HBa : Hid (Below w9.heap.size w9 wa) := HB0.out.trans (hb.mono HB0.out.size); clear hb))
        all_goals
          go_wp2
          go_ret
          exact ⟨rfl, HBW.out.trans (HBa.out.mono HBW.out.size)⟩
end Go.Proofs.YtcalgjggmgnofaaDoor
