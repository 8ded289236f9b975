/- What is proved here: a piece of the proof of YtijbaienhaiamaaGreatDoorGuards (ExSpecFmt, DrawTurned, ExTops, Lead, FirstWord). Condition: none beyond what each part says. -/
import Derived.Test.YtijbaienhaiamaaGreatDoorGu09
import Derived.Test.YtijbaienhaiamaaGreatDoorGu03
import Derived.Test.YtijbaienhaiamaaGreatDoorGu08
import Derived.Deep.RegionWith
import Derived.Test.YtijbaienhaiamaaGreatDoorGu05
import Derived.Test.YtijbaienhaiamaaGreatDoorGu07
import Derived.Laws.RangeAny
import Derived.Laws.RangeString

/- What is proved here: the model's FormatExpr returns the representation of a valid pattern, and none of others. Condition: the pattern lies in memory as said, and is small. -/
section
namespace Go.Proofs.YtijbaienhaiamaaGreatDoor.Ex
open Go.RowKit

set_option maxHeartbeats 1000000 in
set_option maxRecDepth 100000 in
theorem spec_format_expr (w : World) (k n : Int) (t : ByteArray) (F : Trees) (p : Option Addr) (c : Nat) (hfv : F.fits) (hfc : F.count ≤ 1048576) (ht : t.size ≤ maxLen) (hx : TreesAt w F p 0) :
    Calls Tryz.prog 34 #[.agg #[.int .i64 k, .int .i64 n, .string t, .slice p F.length c]] w fun e w' => e = .returned (.string (exprFmt k n t F)) ∧ Below w.heap.size w w' := by
  have hB0 : Below w.heap.size w (w.alloc (.cells #[.int .i64 k, .int .i64 n, .string t, .slice p F.length c] 54)) := (Below.refl _ _).alloc (Nat.le_refl _) _
  obtain ⟨c0, c1, c2, c3, _⟩ := four_cells (heap_at_new w (.cells #[.int .i64 k, .int .i64 n, .string t, .slice p F.length c] 54))
  have HX := Lib.hid (hx.below hB0)
  obtain ⟨w0, hw0⟩ : ∃ w0, w0 = w.alloc (.cells #[.int .i64 k, .int .i64 n, .string t, .slice p F.length c] 54) := ⟨_, rfl⟩
  rw [← hw0] at HX hB0 c0 c1 c2 c3
  have HW0 := Lib.hid hw0
  have HB0 := Lib.hid hB0
  have HV := Lib.hid (spec_valid_expr w0 k n t F p c hfv hfc ht HX.out)
  have HP : Hid (validExpr k n t F = true → F.formedE = true ∧ exprForm k n t F.length = true) := fun h => by
    unfold validExpr at h
    simp only [Bool.and_eq_true] at h
    exact ⟨h.2.2, h.2.1⟩
  unfold exprFmt
  cases hv : validExpr k n t F with
  | false =>
    rw [hv] at HV
    rw [if_neg (by simp)]
    clear hw0 hB0 hx hfv hfc ht hv
    go_enter Tryz.func34, Tryz.ntmps34
    go_wp2_with fail
    rw [← HW0.out]
    refine HV.out.mono ?_
    rintro e w1 ⟨rfl, hb1⟩
    have HB1 := Lib.hid hb1
    clear hb1
    go_wp2
    go_ret
    exact ⟨rfl, HB0.out.trans (HB1.out.mono HB0.out.size)⟩
  | true =>
    obtain ⟨h1, h2⟩ := HP.out hv
    rw [hv] at HV
    rw [if_pos rfl]
    have HT := Lib.hid (fun W (hb : Below w0.heap.size w0 W) => spec_expr_text F h1 hfc W k n t p c h2 (HX.out.below hb))
    generalize str (nodeE k n t F.textsE) = u at *
    clear hw0 hB0 hx hfv hfc ht hv h1 h2 HP
    go_enter Tryz.func34, Tryz.ntmps34
    go_wp2_with fail
    rw [← HW0.out]
    refine HV.out.mono ?_
    rintro e w1 ⟨rfl, hb1⟩
    have HB1 := Lib.hid hb1
    have c0 := cell_below c0 hb1
    have c1 := cell_below c1 hb1
    have c2 := cell_below c2 hb1
    have c3 := cell_below c3 hb1
    clear hb1
    go_wp2_with fail
    refine (HT.out w1 HB1.out).mono ?_
    rintro e w2 ⟨rfl, hb2⟩
    have HB2 : Hid (Below w0.heap.size w0 w2) := HB1.out.trans (hb2.mono HB1.out.size)
    clear hb2
    go_wp2
    go_ret
    exact ⟨rfl, HB0.out.trans (HB2.out.mono HB0.out.size)⟩
end Go.Proofs.YtijbaienhaiamaaGreatDoor.Ex
end

/- What is proved here: a text that is cut or lengthened at a drawn place (package spec, l1Turned). Condition: the cursor's block holds a cursor; the texts to pick from lie in a block of their own. -/
section
namespace Go.Proofs.YtijbaienhaiamaaGreatDoor
open Go.RowKit

theorem cat_b (a b : ByteArray) (h : a.size + b.size ≤ 1099511627776) (w : World) : (Op.stringOp .add a b).run Tryz.prog w = .ok (.string (str (a.data.toList ++ b.data.toList))) w := by
  have := cat a.data.toList b.data.toList h w
  rwa [str_data, str_data] at this
theorem extract_sz (s : ByteArray) (a b : Nat) (h : b ≤ s.size) : (s.extract a b).size ≤ b - a := by
  rw [ByteArray.size_extract]
  omega

theorem turned_sz1 (a b : ByteArray) (n : Nat) (h : a.size + b.size ≤ n) : (str (a.data.toList ++ b.data.toList)).size ≤ n := by
  rw [str_size, List.length_append]
  exact h

set_option maxHeartbeats 1000000 in
set_option maxRecDepth 100000 in
theorem turned_any (N M : Nat) (L : List ByteArray) (cap : Nat) (T : TypeId) (s : ByteArray) (hs : s.size ≤ 1048576) (w : World) (hc : Cur N w) (hM : w.heap[M]? = some (.cells (L.map Value.string).toArray T (0, 0))) (hNM : M ≠ N) (hL : 0 < L.length) (hle : L.length ≤ 1000) (hLs : ∀ x ∈ L, x.size ≤ 16) :
    Calls Tryz.prog 62 #[.pointer (some ⟨N, 0, none⟩), .string s, .slice (some ⟨M, 0, none⟩) L.length cap] w fun e w' => ∃ t : ByteArray, t.size ≤ s.size + 16 ∧ e = .returned (.string t) ∧ CurStep N w w' := by
  have hMlt : M < w.heap.size := by
    rcases Nat.lt_or_ge M w.heap.size with h | h
    · exact h
    · rw [Array.getElem?_eq_none h] at hM
      cases hM
  have HP : Hid (∀ W, CurStep N w W → Calls Tryz.prog 99 #[.pointer (some ⟨N, 0, none⟩), .slice (some ⟨M, 0, none⟩) L.length cap] W fun e w' => ∃ s ∈ L, e = .returned (.string s) ∧ CurStep N W w') := fun W h => pick_any N M L cap T W h.1 (by rw [h.2.block M hMlt (fun e => hNM (by injection e))]; exact hM) hNM hL hle
  have HLS := Lib.hid hLs
  have HC := Lib.hid hc
  generalize L.length = n at *
  clear hM hMlt hLs hc hL hle
  go_enter Tryz.func62, Tryz.ntmps62
  go_wp2_with fail
  refine (below_any N ((s.size : Int) + 1) (by omega) (by omega) _ HC.out).mono ?_
  rintro e w1 ⟨x, x0, x1, rfl, hs1⟩
  obtain ⟨j, rfl⟩ : ∃ j : Nat, x = j := ⟨x.toNat, by omega⟩
  have hj : (j : Int) ≤ (s.size : Int) := by omega
  have HS1 := Lib.hid hs1
  clear hs1
  go_wp2_with fail
  refine (below_any N 6 (by omega) (by omega) w1 HS1.out.1).mono ?_
  rintro e w2 ⟨y, y0, y1, rfl, hs2⟩
  have HS2 := Lib.hid (HS1.out.trans hs2)
  have hjn : j ≤ s.size := by omega
  have hz1 := extract_sz s 0 j hjn
  have hz2 := extract_sz s j s.size (Nat.le_refl _)
  clear hs2 HS1
  by_cases h0 : y = 0
  · subst h0
    have HD : Hid (CurStep N w w2.drew) := HS2.out.trans (HS2.out.1.below (Below.refl _ _).drew rfl)
    go_wp2
    go_region_with (go_at_call 99; (with_reducible refine (HP.out w2.drew HD.out).mono ?_); rintro e w3 ⟨t, ht, rfl, hs3⟩; (have hts := HLS.out t ht); (have hc1 := fun w => cat_b (s.extract 0 j) t (by omega) w); (have hsz : (str ((s.extract 0 j).data.toList ++ t.data.toList)).size ≤ j + 16 := turned_sz1 _ _ _ (by omega)); generalize str ((s.extract 0 j).data.toList ++ t.data.toList) = u at *; (have hc2 := fun w => cat_b u (s.extract j s.size) (by omega) w); (have hsz2 : (str (u.data.toList ++ (s.extract j s.size).data.toList)).size ≤ s.size + 16 := turned_sz1 _ _ _ (by omega)); generalize str (u.data.toList ++ (s.extract j s.size).data.toList) = v at *; (have HS3 := Lib.hid (HD.out.trans hs3)); (have HZ := Lib.hid hsz2); clear hs3 ht hts hsz hsz2)
    all_goals
      go_wp2
      go_ret
      exact ⟨v, HZ.out, rfl, HS3.out⟩
  · by_cases h1 : y = 1
    · subst h1
      have HZ : Hid ((s.extract 0 j).size ≤ s.size + 16) := by unfold Hid; omega
      clear hz1 hz2 h0
      go_wp2
      go_ret
      exact ⟨_, HZ.out, rfl, HS2.out⟩
    · have e0 : (y == 0) = false := by simpa using h0
      have e1 : (y == 1) = false := by simpa using h1
      clear hz1 hz2 h0 h1
      go_wp2
      go_ret
      exact ⟨s, by omega, rfl, HS2.out⟩
end Go.Proofs.YtijbaienhaiamaaGreatDoor
end

/- What is proved here: drawn expressions, their texts and drawn bindings, from a code (package spec: DrawFormatExpr, DrawParseExpr, DrawEvalExpr). Condition: at most 1048576 bytes of code. -/
section
namespace Go.Proofs.YtijbaienhaiamaaGreatDoor.Ex
open Go.RowKit

/-- A drawn expression lies in memory: small. -/
def ETop (w' : World) (k n : Int) (t : ByteArray) (p : Option Addr) (c : Nat) (F : Trees) : Prop :=
  TreesAt w' F p 0 ∧ F.length ≤ c ∧ F.count ≤ 100 ∧ F.tame ∧ (0 ≤ k ∧ k ≤ 9) ∧ (-9223372036854775807 ≤ n ∧ n ≤ 9223372036854775807) ∧ t.size ≤ 16
def ETopR (w : World) (e : Ending) (w' : World) : Prop :=
  ∃ k n t p c F, e = .returned (.agg #[.int .i64 k, .int .i64 n, .string t, .slice p (Trees.length F) c]) ∧ ETop w' k n t p c F ∧ Below w.heap.size w w'
def TTop (w : World) (e : Ending) (w' : World) : Prop := ∃ s : ByteArray, s.size ≤ 1000 ∧ e = .returned (.string s) ∧ Below w.heap.size w w'
theorem exprFmt_size (k n : Int) (t : ByteArray) (F : Trees) : (exprFmt k n t F).size ≤ 252 := by
  unfold exprFmt
  by_cases h : validExpr k n t F = true
  · rw [if_pos h, str_size]
    unfold validExpr at h
    simp only [Bool.and_eq_true, decide_eq_true_eq] at h
    have := textE_len k n t F h.2.2 h.2.1
    omega
  · rw [if_neg h]; decide
theorem GrowV.top {w : World} {B : Nat} {v : Value} {F : Trees} {bs : List Nat} {xs : List Value} (h : GrowV w B v F bs xs) : ∃ p c, v = .slice p F.length c ∧ F.length ≤ c ∧ TreesAt w F p 0 := by
  obtain ⟨cs, ho, _⟩ := h.own
  exact ho.reads

set_option maxHeartbeats 2000000 in
set_option maxRecDepth 100000 in
theorem drawFormatExpr_any (w : World) (a : Option Addr) (len cap : Nat) (zs : List Int) (hr : IsRow .u8 w a len cap zs) (hlen : len ≤ 1048576) : Calls Tryz.prog 31 #[.slice a len cap] w (ETopR w) := by
  have hal : Below w.heap.size w (w.alloc (.cells #[.int .i64 0, .int .i64 0, .string ⟨#[]⟩, .slice none 0 0] 54)) := (Below.refl _ _).alloc (Nat.le_refl _) _
  have hr1 := heap_at_new w (.cells #[.int .i64 0, .int .i64 0, .string ⟨#[]⟩, .slice none 0 0] 54)
  have hz : (w.alloc (.cells #[.int .i64 0, .int .i64 0, .string ⟨#[]⟩, .slice none 0 0] 54)).heap.size = w.heap.size + 1 := Array.size_push _
  have HN := Lib.hid (new_any (w.alloc (.cells #[.int .i64 0, .int .i64 0, .string ⟨#[]⟩, .slice none 0 0] 54)) a len cap zs (row_stays (row := none) hr (grown_of_below hal) (fun _ _ _ => by simp)) hlen)
  have HB1 := Lib.hid hal
  have HR1 := Lib.hid hr1
  have HZ := Lib.hid hz
  clear hal hr1 hz hr hlen
  go_enter Tryz.func31, Tryz.ntmps31
  go_wp2_with fail
  refine HN.out.mono ?_
  rintro e w2 ⟨N, hN, rfl, hc, hb2⟩
  have HB2 : Hid (Below w.heap.size w w2) := HB1.out.trans (hb2.mono HB1.out.size)
  have HR2 : Hid (Go.Proofs.YtijbaienhaiamaaGreatDoor.BoxAt w2 w.heap.size 0 0 ⟨#[]⟩ none 0 0 54) := (hb2.block _ (by have := HZ.out; omega)).trans HR1.out
  have HNN : Hid (w.heap.size < N ∧ N < w2.heap.size) := ⟨by have := HZ.out; omega, hc.lt⟩
  have HBT := Lib.hid (bent_any N w2 hc)
  clear hN hc hb2 HN HB1 HR1 HZ
  go_wp2_with fail
  refine HBT.out.mono ?_
  rintro e w3 ⟨k, n, t, v, F, bs, xs, rfl, hG, hcn, htm, hk, hn, ht, hs⟩
  obtain ⟨a2, ca, rfl⟩ := hG.form
  have hr3 : Go.Proofs.YtijbaienhaiamaaGreatDoor.BoxAt w3 w.heap.size 0 0 ⟨#[]⟩ none 0 0 54 := (hs.2.block _ (by have := HNN.out; omega) (fun e => by injection e with e; have := HNN.out; omega)).trans HR2.out
  have HR3 := Lib.hid hr3
  have HG := Lib.hid hG
  have HP : Hid (F.count ≤ 100 ∧ F.tame ∧ (0 ≤ k ∧ k ≤ 9) ∧ (-9223372036854775807 ≤ n ∧ n ≤ 9223372036854775807) ∧ t.size ≤ 16) := ⟨hcn, htm, hk, hn, ht⟩
  have HB3 : Hid (Below w.heap.size w w3) := HB2.out.grown hs.2 HB2.out.size (fun k e => by injection e with e; have := HNN.out; omega)
  obtain ⟨x0, x1, x2, x3, f0, f1, f2, f3⟩ := four_cells hr3
  clear hr3 hG hcn htm hk hn ht hs HBT HR2
  go_wp2
  refine bodyPost_ret (results_cell_row rfl _ _ w.heap.size _ _ _ _ rfl (four_set (four_set (four_set (four_set HR3.out _).1 _).2.1 _).2.2.1 _).2.2.2 Tryz.underlying54 rfl (by kernel_rfl)) rfl ?_
  have hw2 : w.heap.size < w2.heap.size := by have := HNN.out; omega
  obtain ⟨p, c, he, hl, hx⟩ := ((((HG.out.aside w.heap.size 0 (.int .i64 k) hw2).aside w.heap.size 1 (.int .i64 n) hw2).aside w.heap.size 2 (.string t) hw2).aside w.heap.size 3 (.slice a2 F.length ca) hw2).top
  refine ⟨k, n, t, p, c, F, ?_, ⟨hx, hl, HP.out⟩, (((HB3.out.setCell (Nat.le_refl _) _).setCell (Nat.le_refl _) _).setCell (Nat.le_refl _) _).setCell (Nat.le_refl _) _⟩
  rw [← he]

def exTexts : List ByteArray := [⟨#[32]⟩, ⟨#[40]⟩, ⟨#[41]⟩, ⟨#[32, 43, 32]⟩, ⟨#[33]⟩, ⟨#[120]⟩, ⟨#[49]⟩]
theorem exTexts_small : ∀ x ∈ exTexts, x.size ≤ 16 := by
  intro s hs
  simp only [exTexts, List.mem_cons, List.mem_nil_iff, or_false] at hs
  rcases hs with rfl | rfl | rfl | rfl | rfl | rfl | rfl <;> decide

set_option maxHeartbeats 2000000 in
set_option maxRecDepth 100000 in
theorem drawParseExpr_any (w : World) (a : Option Addr) (len cap : Nat) (zs : List Int) (hr : IsRow .u8 w a len cap zs) (hlen : len ≤ 1048576) : Calls Tryz.prog 38 #[.slice a len cap] w (TTop w) := by
  have HN := Lib.hid (new_any w a len cap zs hr hlen)
  clear hr hlen
  go_enter Tryz.func38, Tryz.ntmps38
  go_wp2_with fail
  refine HN.out.mono ?_
  rintro e w2 ⟨N, hN, rfl, hc, hb2⟩
  have HB2 := Lib.hid hb2
  have HNN : Hid (w.heap.size ≤ N) := hN
  have HBT := Lib.hid (bent_any N w2 hc)
  clear hN hc hb2 HN
  go_wp2_with fail
  refine HBT.out.mono ?_
  rintro e w3 ⟨k, n, t, v, F, bs, xs, rfl, hG, hcn, htm, hk, hn, ht, hs⟩
  obtain ⟨p, c, rfl, hl, hx⟩ := hG.top
  have HS3 := Lib.hid hs
  have HF := Lib.hid (spec_format_expr w3 k n t F p c (F.tame_fits htm (by unfold maxLen; omega)) (by omega) (by unfold maxLen; omega) hx)
  clear hG hcn htm hk hn ht hs HBT hl hx
  go_wp2_with fail
  refine HF.out.mono ?_
  rintro e w4 ⟨rfl, hb4⟩
  have hsz := exprFmt_size k n t F
  generalize exprFmt k n t F = s at *
  have hc4 : CurStep N w3 w4 := HS3.out.1.below hb4 rfl
  have hc5 := hc4.trans (CurStep.alloc hc4.1 (.cells (exTexts.map Value.string).toArray 9))
  have HT := Lib.hid (turned_any N w4.heap.size exTexts 7 9 s (by omega) _ hc5.1 (heap_new w4 _) (by have := hc4.1.lt; omega) (by decide) (by decide) exTexts_small)
  have HC5 := Lib.hid hc5
  have HSZ := Lib.hid hsz
  clear hc4 hc5 hsz hb4 HF
  go_wp2_with fail
  refine HT.out.mono ?_
  rintro e w6 ⟨u, hu, rfl, hs6⟩
  have HE : Hid (u.size ≤ 1000 ∧ Below w.heap.size w w6) := ⟨by have := HSZ.out; omega, (((HB2.out.grown HS3.out.2 HB2.out.size (fun k e => by injection e with e; have := HNN.out; omega)).grown HC5.out.2 (Nat.le_trans HB2.out.size HS3.out.size) (fun k e => by injection e with e; have := HNN.out; omega))).grown hs6.2 (Nat.le_trans HB2.out.size (Nat.le_trans HS3.out.size HC5.out.size)) (fun k e => by injection e with e; have := HNN.out; omega)⟩
  clear hu hs6 HT
  go_wp2
  go_ret
  exact ⟨u, HE.out.1, rfl, HE.out.2⟩

/-- A drawn expression and drawn bindings come back. -/
def EvTop (w : World) (e : Ending) (w' : World) : Prop :=
  ∃ k n t p c F a2 c2 env, e = .returned (.tuple #[.agg #[.int .i64 k, .int .i64 n, .string t, .slice p (Trees.length F) c], .slice a2 (List.length env) c2]) ∧ ETop w' k n t p c F ∧ BindsAt w' env a2 0 ∧ env.length ≤ 3 ∧ (∀ x ∈ env, SmallB x) ∧ Below w.heap.size w w'

set_option maxHeartbeats 2000000 in
set_option maxRecDepth 100000 in
theorem drawEvalExpr_any (w : World) (a : Option Addr) (len cap : Nat) (zs : List Int) (hr : IsRow .u8 w a len cap zs) (hlen : len ≤ 1048576) : Calls Tryz.prog 40 #[.slice a len cap] w (EvTop w) := by
  have hal : Below w.heap.size w (w.alloc (.cells #[.int .i64 0, .int .i64 0, .string ⟨#[]⟩, .slice none 0 0] 54)) := (Below.refl _ _).alloc (Nat.le_refl _) _
  have hr1 := heap_at_new w (.cells #[.int .i64 0, .int .i64 0, .string ⟨#[]⟩, .slice none 0 0] 54)
  have hz : (w.alloc (.cells #[.int .i64 0, .int .i64 0, .string ⟨#[]⟩, .slice none 0 0] 54)).heap.size = w.heap.size + 1 := Array.size_push _
  have HN := Lib.hid (new_any (w.alloc (.cells #[.int .i64 0, .int .i64 0, .string ⟨#[]⟩, .slice none 0 0] 54)) a len cap zs (row_stays (row := none) hr (grown_of_below hal) (fun _ _ _ => by simp)) hlen)
  have HB1 := Lib.hid hal
  have HR1 := Lib.hid hr1
  have HZ := Lib.hid hz
  clear hal hr1 hz hr hlen
  go_enter Tryz.func40, Tryz.ntmps40
  go_wp2_with fail
  refine HN.out.mono ?_
  rintro e w2 ⟨N, hN, rfl, hc, hb2⟩
  have HB2 : Hid (Below w.heap.size w w2) := HB1.out.trans (hb2.mono HB1.out.size)
  have HR2 : Hid (Go.Proofs.YtijbaienhaiamaaGreatDoor.BoxAt w2 w.heap.size 0 0 ⟨#[]⟩ none 0 0 54) := (hb2.block _ (by have := HZ.out; omega)).trans HR1.out
  have HNN : Hid (w.heap.size < N ∧ N < w2.heap.size) := ⟨by have := HZ.out; omega, hc.lt⟩
  have HBT := Lib.hid (bent_any N w2 hc)
  clear hN hc hb2 HN HB1 HR1 HZ
  go_wp2_with fail
  refine HBT.out.mono ?_
  rintro e w3 ⟨k, n, t, v, F, bs, xs, rfl, hG, hcn, htm, hk, hn, ht, hs⟩
  obtain ⟨a2, ca, rfl⟩ := hG.form
  have HS3 := Lib.hid hs
  have HG := Lib.hid hG
  have HP : Hid (F.count ≤ 100 ∧ F.tame ∧ (0 ≤ k ∧ k ≤ 9) ∧ (-9223372036854775807 ≤ n ∧ n ≤ 9223372036854775807) ∧ t.size ≤ 16) := ⟨hcn, htm, hk, hn, ht⟩
  have HEV := Lib.hid (env_any N w3 hs.1)
  clear hG hcn htm hk hn ht hs HBT
  go_wp2_with fail
  refine HEV.out.mono ?_
  rintro e w4 ⟨v4, env, ys, rfl, hGB, hlen, hsm, hs4⟩
  obtain ⟨a4, c4, rfl⟩ := hGB.form
  have hr4 : Go.Proofs.YtijbaienhaiamaaGreatDoor.BoxAt w4 w.heap.size 0 0 ⟨#[]⟩ none 0 0 54 := (hs4.2.block _ (by have := HNN.out; have := HS3.out.size; omega) (fun e => by injection e with e; have := HNN.out; omega)).trans ((HS3.out.2.block _ (by have := HNN.out; omega) (fun e => by injection e with e; have := HNN.out; omega)).trans HR2.out)
  have HR3 := Lib.hid hr4
  have HG4 : Hid (GrowV w4 w2.heap.size (.slice a2 F.length ca) F bs xs) := HG.out.grown hs4.2 HNN.out.2
  have HGB := Lib.hid hGB
  have HE : Hid (env.length ≤ 3 ∧ ∀ x ∈ env, SmallB x) := ⟨hlen, hsm⟩
  have HB4 : Hid (Below w.heap.size w w4) := (HB2.out.grown HS3.out.2 HB2.out.size (fun k e => by injection e with e; have := HNN.out; omega)).grown hs4.2 (Nat.le_trans HB2.out.size HS3.out.size) (fun k e => by injection e with e; have := HNN.out; omega)
  have HW3 : Hid (w.heap.size < w3.heap.size) := by have := HNN.out; have := HS3.out.size; unfold Hid; omega
  obtain ⟨x0, x1, x2, x3, f0, f1, f2, f3⟩ := four_cells hr4
  clear hr4 hGB hlen hsm hs4 HEV HR2 HG
  go_wp2
  refine bodyPost_ret (results_row_tmp rfl _ _ w.heap.size _ _ _ _ rfl (four_set (four_set (four_set (four_set HR3.out _).1 _).2.1 _).2.2.1 _).2.2.2 Tryz.underlying54 rfl (by kernel_rfl)) rfl ?_
  have hw2 : w.heap.size < w2.heap.size := by have := HNN.out; omega
  obtain ⟨p, c, he, hl, hx⟩ := ((((HG4.out.aside w.heap.size 0 (.int .i64 k) hw2).aside w.heap.size 1 (.int .i64 n) hw2).aside w.heap.size 2 (.string t) hw2).aside w.heap.size 3 (.slice a2 F.length ca) hw2).top
  have kb : ∀ b, w3.heap.size ≤ b → b < w4.heap.size → ((((w4.setCell ⟨w.heap.size, 0, none⟩ (.int .i64 k)).setCell ⟨w.heap.size, 1, none⟩ (.int .i64 n)).setCell ⟨w.heap.size, 2, none⟩ (.string t)).setCell ⟨w.heap.size, 3, none⟩ (.slice a2 F.length ca)).heap[b]? = w4.heap[b]? := fun b hb _ => by
    have := HW3.out
    rw [Below.heap_setCell _ _ _ _ (by show b ≠ w.heap.size; omega), Below.heap_setCell _ _ _ _ (by show b ≠ w.heap.size; omega), Below.heap_setCell _ _ _ _ (by show b ≠ w.heap.size; omega), Below.heap_setCell _ _ _ _ (by show b ≠ w.heap.size; omega)]
  obtain ⟨p4, cp4, he4, hx4⟩ := (HGB.out.keep kb).reads
  refine ⟨k, n, t, p, c, F, p4, cp4, env, ?_, ⟨hx, hl, HP.out⟩, hx4, HE.out.1, HE.out.2, (((HB4.out.setCell (Nat.le_refl _) _).setCell (Nat.le_refl _) _).setCell (Nat.le_refl _) _).setCell (Nat.le_refl _) _⟩
  rw [← he, ← he4]
  rfl
end Go.Proofs.YtijbaienhaiamaaGreatDoor.Ex
end

/- What is proved here: the word that a text begins with (pure). No condition. -/
section
namespace Go.Proofs.YtijbaienhaiamaaGreatDoor
open Go.RowKit

/-- A byte (or rune) that can stand in an integer, in a name or for a wildcard. -/
def isWZ (c : Int) : Bool := decide ((97 ≤ c ∧ c ≤ 122) ∨ (65 ≤ c ∧ c ≤ 90) ∨ (48 ≤ c ∧ c ≤ 57) ∨ c = 45 ∨ c = 95)
def isWB (c : UInt8) : Bool := isWZ (c.toNat : Int)
/-- The word at the start. -/
def lead (s : List UInt8) : List UInt8 := s.takeWhile isWB
theorem lead_all (a r : List UInt8) (ha : ∀ c ∈ a, isWB c = true) (hr : ∀ c t, r = c :: t → isWB c = false) : lead (a ++ r) = a := by
  unfold lead
  induction a with
  | nil =>
    cases r with
    | nil => rfl
    | cons c t => rw [List.nil_append, List.takeWhile_cons, hr c t rfl]; rfl
  | cons c a ih =>
    rw [List.cons_append, List.takeWhile_cons, ha c (by simp), if_pos rfl, ih (fun x hx => ha x (by simp [hx]))]
theorem lead_prefix (s : List UInt8) : (lead s).isPrefixOf s = true := by
  rw [List.isPrefixOf_iff_prefix]
  exact List.takeWhile_prefix _
theorem lead_take (s : List UInt8) : s.take (lead s).length = lead s := by
  have h := List.isPrefixOf_iff_prefix.1 (lead_prefix s)
  exact (List.prefix_iff_eq_take.1 h).symm
theorem lead_word (s : List UInt8) : ∀ c ∈ lead s, isWB c = true := by
  unfold lead
  induction s with
  | nil => intro c hc; cases hc
  | cons x r ih =>
    intro c hc
    rw [List.takeWhile_cons] at hc
    cases hx : isWB x with
    | false => rw [hx] at hc; cases hc
    | true =>
      rw [hx] at hc
      rcases List.mem_cons.1 hc with rfl | hc
      · exact hx
      · exact ih c hc
theorem lead_stop (s : List UInt8) (k : Nat) (hk : k < s.length) (h : ∀ j (hj : j < s.length), j < k → isWB s[j] = true) (hn : isWB s[k] = false) : lead s = s.take k := by
  have e : s = s.take k ++ s.drop k := (List.take_append_drop k s).symm
  have h1 := lead_all (s.take k) (s.drop k) (fun c hc => by
    obtain ⟨j, hj, rfl⟩ := List.mem_iff_getElem.1 hc
    rw [List.getElem_take]
    rw [List.length_take] at hj
    exact h j (by omega) (by omega)) (fun c t hct => by
    rw [List.drop_eq_getElem_cons hk] at hct
    injection hct with h1 _
    rw [← h1]
    exact hn)
  rw [← e] at h1
  exact h1
theorem lead_full (s : List UInt8) (h : ∀ j (hj : j < s.length), isWB s[j] = true) : lead s = s := by
  have h1 := lead_all s [] (fun c hc => by
    obtain ⟨j, hj, rfl⟩ := List.mem_iff_getElem.1 hc
    exact h j hj) (fun c t hct => by cases hct)
  rwa [List.append_nil] at h1
end Go.Proofs.YtijbaienhaiamaaGreatDoor
end

/- What is proved here: the program's firstWord takes the bytes that can stand in a word. Condition: the text's length is a length. -/
section
namespace Go.Proofs.YtijbaienhaiamaaGreatDoor
open Go.RowKit

set_option maxHeartbeats 1000000 in
set_option maxRecDepth 100000 in
theorem impl_isWordRune (c : Int) (w : World) :
    Calls Tryz.prog 180 #[.int .i32 c] w fun e w' => e = .returned (.bool (isWZ c)) ∧ w' = w := by
  have h : c < 45 ∨ c = 45 ∨ (46 ≤ c ∧ c ≤ 47) ∨ (48 ≤ c ∧ c ≤ 57) ∨ (58 ≤ c ∧ c ≤ 64) ∨ (65 ≤ c ∧ c ≤ 90) ∨ (91 ≤ c ∧ c ≤ 94) ∨ c = 95 ∨ c = 96 ∨ (97 ≤ c ∧ c ≤ 122) ∨ 123 ≤ c := by omega
  rcases h with h | h | h | h | h | h | h | h | h | h | h
  ·
    have hq : isWZ c = false := by unfold isWZ; simp; omega
    have e0 : decide (97 ≤ c) = false := by simp; omega
    have e1 : decide (c ≤ 122) = true := by simp; omega
    have e2 : decide (65 ≤ c) = false := by simp; omega
    have e3 : decide (c ≤ 90) = true := by simp; omega
    have e4 : decide (48 ≤ c) = false := by simp; omega
    have e5 : decide (c ≤ 57) = true := by simp; omega
    have e6 : (c == 45) = false := by simp; omega
    have e7 : (c == 95) = false := by simp; omega
    rw [hq]
    clear h hq
    go_enter Tryz.func180, Tryz.ntmps180
    go_wp2
    go_ret
    exact ⟨rfl, rfl⟩
  ·
    have hq : isWZ c = true := by unfold isWZ; simp; omega
    have e0 : decide (97 ≤ c) = false := by simp; omega
    have e1 : decide (c ≤ 122) = true := by simp; omega
    have e2 : decide (65 ≤ c) = false := by simp; omega
    have e3 : decide (c ≤ 90) = true := by simp; omega
    have e4 : decide (48 ≤ c) = false := by simp; omega
    have e5 : decide (c ≤ 57) = true := by simp; omega
    have e6 : (c == 45) = true := by simp; omega
    have e7 : (c == 95) = false := by simp; omega
    rw [hq]
    clear h hq
    go_enter Tryz.func180, Tryz.ntmps180
    go_wp2
    go_ret
    exact ⟨rfl, rfl⟩
  ·
    have hq : isWZ c = false := by unfold isWZ; simp; omega
    have e0 : decide (97 ≤ c) = false := by simp; omega
    have e1 : decide (c ≤ 122) = true := by simp; omega
    have e2 : decide (65 ≤ c) = false := by simp; omega
    have e3 : decide (c ≤ 90) = true := by simp; omega
    have e4 : decide (48 ≤ c) = false := by simp; omega
    have e5 : decide (c ≤ 57) = true := by simp; omega
    have e6 : (c == 45) = false := by simp; omega
    have e7 : (c == 95) = false := by simp; omega
    rw [hq]
    clear h hq
    go_enter Tryz.func180, Tryz.ntmps180
    go_wp2
    go_ret
    exact ⟨rfl, rfl⟩
  ·
    have hq : isWZ c = true := by unfold isWZ; simp; omega
    have e0 : decide (97 ≤ c) = false := by simp; omega
    have e1 : decide (c ≤ 122) = true := by simp; omega
    have e2 : decide (65 ≤ c) = false := by simp; omega
    have e3 : decide (c ≤ 90) = true := by simp; omega
    have e4 : decide (48 ≤ c) = true := by simp; omega
    have e5 : decide (c ≤ 57) = true := by simp; omega
    have e6 : (c == 45) = false := by simp; omega
    have e7 : (c == 95) = false := by simp; omega
    rw [hq]
    clear h hq
    go_enter Tryz.func180, Tryz.ntmps180
    go_wp2
    go_ret
    exact ⟨rfl, rfl⟩
  ·
    have hq : isWZ c = false := by unfold isWZ; simp; omega
    have e0 : decide (97 ≤ c) = false := by simp; omega
    have e1 : decide (c ≤ 122) = true := by simp; omega
    have e2 : decide (65 ≤ c) = false := by simp; omega
    have e3 : decide (c ≤ 90) = true := by simp; omega
    have e4 : decide (48 ≤ c) = true := by simp; omega
    have e5 : decide (c ≤ 57) = false := by simp; omega
    have e6 : (c == 45) = false := by simp; omega
    have e7 : (c == 95) = false := by simp; omega
    rw [hq]
    clear h hq
    go_enter Tryz.func180, Tryz.ntmps180
    go_wp2
    go_ret
    exact ⟨rfl, rfl⟩
  ·
    have hq : isWZ c = true := by unfold isWZ; simp; omega
    have e0 : decide (97 ≤ c) = false := by simp; omega
    have e1 : decide (c ≤ 122) = true := by simp; omega
    have e2 : decide (65 ≤ c) = true := by simp; omega
    have e3 : decide (c ≤ 90) = true := by simp; omega
    have e4 : decide (48 ≤ c) = true := by simp; omega
    have e5 : decide (c ≤ 57) = false := by simp; omega
    have e6 : (c == 45) = false := by simp; omega
    have e7 : (c == 95) = false := by simp; omega
    rw [hq]
    clear h hq
    go_enter Tryz.func180, Tryz.ntmps180
    go_wp2
    go_ret
    exact ⟨rfl, rfl⟩
  ·
    have hq : isWZ c = false := by unfold isWZ; simp; omega
    have e0 : decide (97 ≤ c) = false := by simp; omega
    have e1 : decide (c ≤ 122) = true := by simp; omega
    have e2 : decide (65 ≤ c) = true := by simp; omega
    have e3 : decide (c ≤ 90) = false := by simp; omega
    have e4 : decide (48 ≤ c) = true := by simp; omega
    have e5 : decide (c ≤ 57) = false := by simp; omega
    have e6 : (c == 45) = false := by simp; omega
    have e7 : (c == 95) = false := by simp; omega
    rw [hq]
    clear h hq
    go_enter Tryz.func180, Tryz.ntmps180
    go_wp2
    go_ret
    exact ⟨rfl, rfl⟩
  ·
    have hq : isWZ c = true := by unfold isWZ; simp; omega
    have e0 : decide (97 ≤ c) = false := by simp; omega
    have e1 : decide (c ≤ 122) = true := by simp; omega
    have e2 : decide (65 ≤ c) = true := by simp; omega
    have e3 : decide (c ≤ 90) = false := by simp; omega
    have e4 : decide (48 ≤ c) = true := by simp; omega
    have e5 : decide (c ≤ 57) = false := by simp; omega
    have e6 : (c == 45) = false := by simp; omega
    have e7 : (c == 95) = true := by simp; omega
    rw [hq]
    clear h hq
    go_enter Tryz.func180, Tryz.ntmps180
    go_wp2
    go_ret
    exact ⟨rfl, rfl⟩
  ·
    have hq : isWZ c = false := by unfold isWZ; simp; omega
    have e0 : decide (97 ≤ c) = false := by simp; omega
    have e1 : decide (c ≤ 122) = true := by simp; omega
    have e2 : decide (65 ≤ c) = true := by simp; omega
    have e3 : decide (c ≤ 90) = false := by simp; omega
    have e4 : decide (48 ≤ c) = true := by simp; omega
    have e5 : decide (c ≤ 57) = false := by simp; omega
    have e6 : (c == 45) = false := by simp; omega
    have e7 : (c == 95) = false := by simp; omega
    rw [hq]
    clear h hq
    go_enter Tryz.func180, Tryz.ntmps180
    go_wp2
    go_ret
    exact ⟨rfl, rfl⟩
  ·
    have hq : isWZ c = true := by unfold isWZ; simp; omega
    have e0 : decide (97 ≤ c) = true := by simp; omega
    have e1 : decide (c ≤ 122) = true := by simp; omega
    have e2 : decide (65 ≤ c) = true := by simp; omega
    have e3 : decide (c ≤ 90) = false := by simp; omega
    have e4 : decide (48 ≤ c) = true := by simp; omega
    have e5 : decide (c ≤ 57) = false := by simp; omega
    have e6 : (c == 45) = false := by simp; omega
    have e7 : (c == 95) = false := by simp; omega
    rw [hq]
    clear h hq
    go_enter Tryz.func180, Tryz.ntmps180
    go_wp2
    go_ret
    exact ⟨rfl, rfl⟩
  ·
    have hq : isWZ c = false := by unfold isWZ; simp; omega
    have e0 : decide (97 ≤ c) = true := by simp; omega
    have e1 : decide (c ≤ 122) = false := by simp; omega
    have e2 : decide (65 ≤ c) = true := by simp; omega
    have e3 : decide (c ≤ 90) = false := by simp; omega
    have e4 : decide (48 ≤ c) = true := by simp; omega
    have e5 : decide (c ≤ 57) = false := by simp; omega
    have e6 : (c == 45) = false := by simp; omega
    have e7 : (c == 95) = false := by simp; omega
    rw [hq]
    clear h hq
    go_enter Tryz.func180, Tryz.ntmps180
    go_wp2
    go_ret
    exact ⟨rfl, rfl⟩

theorem iter_below (w : World) (s : ByteArray) (p : Nat) : Below w.heap.size w (w.iter s p) := (Below.refl _ _).alloc (Nat.le_refl _) _

set_option maxHeartbeats 1000000 in
set_option maxRecDepth 100000 in
theorem impl_firstWord (s : ByteArray) (w : World) :
    Calls Tryz.prog 129 #[.string s] w fun e w' => e = .returned (.string (str (lead s.data.toList))) ∧ Below w.heap.size w w' := by
  have hl : s.data.toList.length = s.size := rfl
  go_enter Tryz.func129, Tryz.ntmps129
  go_wp2
  go_loopw [3] (fun i wr => ∃ pos : Nat, pos ≤ s.size ∧ wr = w.iter s pos ∧ Hid (∀ j (hj : j < s.size), j < pos → isWB s[j] = true)) (fun _ wr => s.size - wr.iterPos w.heap.size)
  case atStart => exact ⟨0, Nat.zero_le _, rfl, fun j hj h => by omega⟩
  case round =>
    obtain ⟨pos, hp, rfl, hw⟩ := hrel
    by_cases hlt : pos < s.size
    · have hnx : ∀ ty, (Instr.next (.pointer (some ⟨w.heap.size, 0, none⟩)) true ty).run Tryz.prog (w.iter s pos) = _ := fun ty => run_next_any w s pos ty hlt
      have HI := fun W => impl_isWordRune (Utf8.decode s pos).1 W
      by_cases ha : s[pos].toNat < 128
      · have hd := decode_ascii s pos hlt ha
        rw [hd] at hnx HI
        have hq : isWZ (s[pos].toNat : Int) = isWB s[pos] := rfl
        simp only [hq] at HI
        cases hb : isWB s[pos] with
        | true =>
          rw [hb] at HI
          have HW : Hid (∀ j (hj : j < s.size), j < pos + 1 → isWB s[j] = true) := fun j hj h => by
            rcases Nat.lt_or_ge j pos with h1 | h1
            · exact hw.out j hj h1
            · obtain rfl : j = pos := by omega
              exact hb
          clear hd hq hb hw ha
          go_wp2_with fail
          refine (HI _).mono ?_
          rintro e w1 ⟨rfl, rfl⟩
          clear HI hnx
          go_wp2
          go_roundw
          case rel => exact ⟨pos + 1, by omega, rfl, HW⟩
          case measure => simp; omega
        | false =>
          rw [hb] at HI
          have HE : Hid (s.extract 0 pos = str (lead s.data.toList)) := by
            unfold Hid
            rw [lead_stop s.data.toList pos (by omega) (fun j hj h => hw.out j (by omega) h) hb]
            apply ByteArray.ext
            apply Array.ext'
            simp [str, ByteArray.data_extract]
          clear hd hq hb hw ha
          go_wp2_with fail
          refine (HI _).mono ?_
          rintro e w1 ⟨rfl, rfl⟩
          clear HI hnx
          go_wp2
          go_ret
          exact ⟨by rw [← HE.out]; rfl, iter_below _ _ _⟩
      · have hd := decode_high s pos hlt (by omega)
        have hq : isWZ ((Utf8.decode s pos).1 : Int) = false := by unfold isWZ; simp; omega
        have hb : isWB s[pos] = false := by unfold isWB isWZ; simp; omega
        have HE : Hid (s.extract 0 pos = str (lead s.data.toList)) := by
          unfold Hid
          rw [lead_stop s.data.toList pos (by omega) (fun j hj h => hw.out j (by omega) h) hb]
          apply ByteArray.ext
          apply Array.ext'
          simp [str, ByteArray.data_extract]
        simp only [hq] at HI
        clear hd hq hb hw ha
        generalize (Utf8.decode s pos).1 = rn at *
        go_wp2_with fail
        refine (HI _).mono ?_
        rintro e w1 ⟨rfl, rfl⟩
        clear HI hnx
        go_wp2
        go_ret
        exact ⟨by rw [← HE.out]; rfl, iter_below _ _ _⟩
    · have hnx : ∀ ty, (Instr.next (.pointer (some ⟨w.heap.size, 0, none⟩)) true ty).run Tryz.prog (w.iter s pos) = _ := fun ty => run_next_end w s pos ty hlt
      have HE : Hid (str (lead s.data.toList) = s) := by
        unfold Hid
        rw [lead_full s.data.toList (fun j hj => hw.out j hj (by omega)), str_data]
      clear hw
      go_wp2
      go_ret
      exact ⟨by rw [HE.out]; rfl, iter_below _ _ _⟩
end Go.Proofs.YtijbaienhaiamaaGreatDoor
end
