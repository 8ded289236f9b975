/- What is proved here: drawn values and drawn lists of keys (package spec, DrawKeyOf, DrawFindKey). Condition: at most 1048576 bytes of code. -/
import Derived.Test.YtcalgjggmgnofaaDoorDrawBent
import Derived.Test.YtcalgjggmgnofaaDoorDrawKeys
namespace Go.Proofs.YtcalgjggmgnofaaDoor
open Go.RowKit

/-- A drawn value: small, in memory of the call's own. -/
def DrawnTop (w : World) (e : Ending) (w' : World) : Prop :=
  ∃ k n t v F B bs xs, e = .returned (.agg #[.int .i64 k, .int .i64 n, .string t, v]) ∧ w.heap.size ≤ B ∧ GrowV w' B v F bs xs ∧ F.count ≤ 100 ∧ F.tame ∧ (0 ≤ k ∧ k ≤ 9) ∧ (-1000000000000 ≤ n ∧ n ≤ 1000000000000) ∧ t.size ≤ 16 ∧ Below w.heap.size w w'

set_option maxHeartbeats 2000000 in
set_option maxRecDepth 100000 in
theorem drawKeyOf_any (w : World) (a : Option Addr) (len cap : Nat) (zs : List Int) (hr : IsRow .u8 w a len cap zs) (hlen : len ≤ 1048576) : Calls Tryd.prog 19 #[.slice a len cap] w (DrawnTop w) := by
  have hal : Below w.heap.size w (w.alloc (.cells #[.int .i64 0, .int .i64 0, .string ⟨#[]⟩, .slice none 0 0] 26)) := (Below.refl _ _).alloc (Nat.le_refl _) _
  have hr1 := heap_at_new w (.cells #[.int .i64 0, .int .i64 0, .string ⟨#[]⟩, .slice none 0 0] 26)
  have hz : (w.alloc (.cells #[.int .i64 0, .int .i64 0, .string ⟨#[]⟩, .slice none 0 0] 26)).heap.size = w.heap.size + 1 := Array.size_push _
  have HN := Lib.hid (new_any (w.alloc (.cells #[.int .i64 0, .int .i64 0, .string ⟨#[]⟩, .slice none 0 0] 26)) a len cap zs (row_stays (row := none) hr (grown_of_below hal) (fun _ _ _ => by simp)) hlen)
  have HB1 := Lib.hid hal
  have HR1 := Lib.hid hr1
  have HZ := Lib.hid hz
  clear hal hr1 hz hr hlen
  go_enter Tryd.func19, Tryd.ntmps19
  go_wp2_with fail
  refine HN.out.mono ?_
  rintro e w2 ⟨N, hN, rfl, hc, hb2⟩
  have HB2 : Hid (Below w.heap.size w w2) := HB1.out.trans (hb2.mono HB1.out.size)
  have HR2 : Hid (BoxAt w2 w.heap.size 0 0 ⟨#[]⟩ none 0 0 26) := (hb2.block _ (by have := HZ.out; omega)).trans HR1.out
  have HNN : Hid (w.heap.size < N ∧ N < w2.heap.size) := ⟨by have := HZ.out; omega, hc.lt⟩
  have HBT := Lib.hid (l4Bent_any N w2 hc)
  clear hN hc hb2 HN HB1 HR1 HZ
  go_wp2_with fail
  refine HBT.out.mono ?_
  rintro e w3 ⟨k, n, t, v, F, bs, xs, rfl, hG, hcn, htm, hk, hn, ht, hs⟩
  obtain ⟨a2, ca, rfl⟩ := hG.form
  have hr3 : BoxAt w3 w.heap.size 0 0 ⟨#[]⟩ none 0 0 26 := (hs.2.block _ (by have := HNN.out; omega) (fun e => by injection e with e; have := HNN.out; omega)).trans HR2.out
  have HR3 := Lib.hid hr3
  have HG := Lib.hid hG
  have HP : Hid (F.count ≤ 100 ∧ F.tame ∧ (0 ≤ k ∧ k ≤ 9) ∧ (-1000000000000 ≤ n ∧ n ≤ 1000000000000) ∧ t.size ≤ 16) := ⟨hcn, htm, hk, hn, ht⟩
  have HB3 : Hid (Below w.heap.size w w3) := HB2.out.grown hs.2 HB2.out.size (fun k e => by injection e with e; have := HNN.out; omega)
  obtain ⟨x0, x1, x2, x3, f0, f1, f2, f3⟩ := four_cells hr3
  clear hr3 hG hcn htm hk hn ht hs HBT HR2
  go_wp2
  refine bodyPost_ret (results_cell_row rfl _ _ w.heap.size _ _ _ _ rfl (four_set (four_set (four_set (four_set HR3.out _).1 _).2.1 _).2.2.1 _).2.2.2 Tryd.underlying26 rfl (by kernel_rfl)) rfl ?_
  have hw2 : w.heap.size < w2.heap.size := by have := HNN.out; omega
  exact ⟨k, n, t, _, F, w2.heap.size, bs, xs, rfl, by omega, (((HG.out.aside _ _ _ hw2).aside _ _ _ hw2).aside _ _ _ hw2).aside _ _ _ hw2, HP.out.1, HP.out.2.1, HP.out.2.2.1, HP.out.2.2.2.1, HP.out.2.2.2.2, (((HB3.out.setCell (Nat.le_refl _) _).setCell (Nat.le_refl _) _).setCell (Nat.le_refl _) _).setCell (Nat.le_refl _) _⟩

theorem results_tmp_row {P : Program} {fn : Func} {p u : Tmp} {ty : TypeId} (h : fn.results = #[.tmp u, .cell p ty]) (tmps : Array Value) (w : World) (g : Nat) (t : TypeId) (cs : Array Value) (fr : Nat × Nat) (d : TypeDesc)
    (hp : tmps.getD p undef = .pointer (some ⟨g, 0, none⟩)) (hg : w.heap[g]? = some (.cells cs t fr))
    (hu : P.underlying ty = some d) (hd : (match d with | .struct _ | .array _ _ => true | _ => false) = true) (hi : (P.info? ty).map (·.size) = some cs.size) :
    (results fn tmps).run P w = .ok (.tuple #[tmps.getD u undef, .agg cs]) w := by
  have hp' : tmps[p]?.getD undef = .pointer (some ⟨g, 0, none⟩) := by simpa using hp
  simp [results, h, hp', asAddr, run_loadVar_row w g t ty cs fr d hg hu hd hi]

/-- A drawn list of keys and a key. -/
def DrawnKeys (w : World) (e : Ending) (w' : World) : Prop :=
  ∃ a cap l x, e = .returned (.tuple #[.slice a (List.length l) cap, .agg #[.int .i64 x.1, .int .i64 x.2.1, .string x.2.2]]) ∧ l.length ≤ cap ∧ cap ≤ maxLen ∧ l.length ≤ 4 ∧ KeysAt w' a l ∧ SmallKey x ∧ Below w.heap.size w w'

set_option maxHeartbeats 4000000 in
set_option maxRecDepth 100000 in
theorem drawFindKey_any (w : World) (a : Option Addr) (len cap : Nat) (zs : List Int) (hr : IsRow .u8 w a len cap zs) (hlen : len ≤ 1048576) : Calls Tryd.prog 21 #[.slice a len cap] w (DrawnKeys w) := by
  have hi : (Tryd.prog.info? 40).map (fun i => (i.zero, i.size, i.bytes)) = some (some (.agg #[.int .i64 0, .int .i64 0, .string ⟨#[]⟩]), 3, 32) := by kernel_rfl
  obtain ⟨i0, hi, hz0, hz1, hz2⟩ := info_parts hi
  have hal : Below w.heap.size w (w.alloc (.cells #[.int .i64 0, .int .i64 0, .string ⟨#[]⟩] 40)) := (Below.refl _ _).alloc (Nat.le_refl _) _
  have hr1 := heap_at_new w (.cells #[.int .i64 0, .int .i64 0, .string ⟨#[]⟩] 40)
  have hz : (w.alloc (.cells #[.int .i64 0, .int .i64 0, .string ⟨#[]⟩] 40)).heap.size = w.heap.size + 1 := Array.size_push _
  have HN := Lib.hid (new_any (w.alloc (.cells #[.int .i64 0, .int .i64 0, .string ⟨#[]⟩] 40)) a len cap zs (row_stays (row := none) hr (grown_of_below hal) (fun _ _ _ => by simp)) hlen)
  have HB1 := Lib.hid hal
  have HR1 := Lib.hid hr1
  have HZ := Lib.hid hz
  clear hal hr1 hz hr hlen
  go_enter Tryd.func21, Tryd.ntmps21
  go_wp2_with fail
  refine HN.out.mono ?_
  rintro e w2 ⟨N, hN, rfl, hc, hb2⟩
  have HB2 : Hid (Below w.heap.size w w2) := HB1.out.trans (hb2.mono HB1.out.size)
  have HR2 : Hid (w2.heap[w.heap.size]? = some (.cells #[.int .i64 0, .int .i64 0, .string ⟨#[]⟩] 40 (0, 0))) := (hb2.block _ (by have := HZ.out; omega)).trans HR1.out
  have HNN : Hid (w.heap.size < N ∧ N < w2.heap.size) := ⟨by have := HZ.out; omega, hc.lt⟩
  have hs3 := CurStep.alloc hc (.cells #[] 40)
  have hown := World.ownsRow_lit (base := w2.heap.size) (e := 40) (size := 3) w2 #[] 0 (Nat.le_refl _) (by unfold maxLen; omega) rfl
  have HBL := Lib.hid (below_any N 4 (by omega) (by omega) _ hs3.1)
  have HS3 := Lib.hid hs3
  have HO3 := Lib.hid hown
  clear hN hc hb2 HN HB1 HR1 HZ hs3 hown
  go_wp2_with fail
  refine HBL.out.mono ?_
  rintro e w4 ⟨n, n0, n1, rfl, hs4⟩
  obtain ⟨n, rfl⟩ : ∃ m : Nat, n = m := ⟨n.toNat, by omega⟩
  have hst := HS3.out.trans hs4
  have hz3 : (w2.alloc (.cells #[] 40)).heap.size = w2.heap.size + 1 := Array.size_push _
  have HM : Hid (w4.heap[w.heap.size]? = some (.cells #[.int .i64 0, .int .i64 0, .string ⟨#[]⟩] 40 (0, 0)) ∧ Cur N w4 ∧ Below w.heap.size w w4 ∧ w2.heap.size ≤ w4.heap.size) :=
    ⟨(hst.2.block _ (by have := HNN.out; omega) (fun e => by injection e with e; have := HNN.out; omega)).trans HR2.out, hst.1, HB2.out.grown hst.2 HB2.out.size (fun k e => by injection e with e; have := HNN.out; omega), hst.size⟩
  have HO4 : Hid (w4.ownsRow w2.heap.size 40 3 (.slice (some ⟨w2.heap.size, 0, none⟩) 0 0) 0 []) := by
    refine ⟨rfl, .inr ⟨w2.heap.size, 0, #[], rfl, Nat.le_refl _, ?_, Nat.le_refl _, by unfold maxLen; omega, rfl, rfl⟩⟩
    rw [hs4.2.block _ (by omega) (fun e => by injection e with e; have := HNN.out; omega)]
    exact heap_at_new w2 _
  clear HBL HS3 HO3 hs4 hst hz3 HB2 HR2 n0
  go_wp2
  go_loopw [5, 7] (fun lv i wr => ∃ (j g c : Nat) (l : List KeyD), i = .int .i64 j ∧ j ≤ n ∧ l.length = j ∧ lv = .slice (some ⟨g, 0, none⟩) j c ∧ Hid (wr.ownsRow w2.heap.size 40 3 (.slice (some ⟨g, 0, none⟩) j c) j (keyCells l)) ∧ Hid (wr.heap[w.heap.size]? = some (.cells #[.int .i64 0, .int .i64 0, .string ⟨#[]⟩] 40 (0, 0)) ∧ Cur N wr ∧ Below w.heap.size w wr ∧ w2.heap.size ≤ wr.heap.size)) (fun _ i _ => n - (intOf i).toNat)
  case atStart => exact ⟨0, w2.heap.size, 0, [], rfl, Nat.zero_le _, rfl, rfl, HO4, HM⟩
  case round =>
    obtain ⟨j, g, c, l, rfl, hj, hlj, rfl, hO, hM⟩ := hrel
    have HLJ := Lib.hid hlj
    clear hlj
    by_cases hlt : j < n
    · have HK := Lib.hid (l5Key_any N wr hM.out.2.1)
      go_wp2_with fail
      refine HK.out.mono ?_
      rintro e w5 ⟨x, hx, rfl, hs5⟩
      have hO5 : w5.ownsRow w2.heap.size 40 3 (.slice (some ⟨g, 0, none⟩) j c) j (keyCells l) := by
        refine ⟨hO.out.1, hO.out.2.imp id ?_⟩
        rintro ⟨g', c', cur, e1, hb, hg, r⟩
        exact ⟨g', c', cur, e1, hb, (hs5.2.block g' (Array.getElem?_eq_some_iff.1 hg).1 (fun e => by injection e with e; have := HNN.out; omega)).trans hg, r⟩
      have hM5 : w5.heap[w.heap.size]? = some (.cells #[.int .i64 0, .int .i64 0, .string ⟨#[]⟩] 40 (0, 0)) ∧ Cur N w5 ∧ Below w.heap.size w w5 ∧ w2.heap.size ≤ w5.heap.size :=
        ⟨(hs5.2.block _ (by have := HNN.out; have := hM.out.2.2.2; omega) (fun e => by injection e with e; have := HNN.out; omega)).trans hM.out.1, hs5.1, hM.out.2.2.1.grown hs5.2 hM.out.2.2.1.size (fun k e => by injection e with e; have := HNN.out; omega), Nat.le_trans hM.out.2.2.2 hs5.size⟩
      have HM5 := Lib.hid hM5
      have HO6 : Hid ((w5.alloc (.cells #[.int .i64 x.1, .int .i64 x.2.1, .string x.2.2] 40)).ownsRow w2.heap.size 40 3 (.slice (some ⟨g, 0, none⟩) j c) j (keyCells l)) := hO5.alloc _
      have HN6 := Lib.hid (World.news_of_block (heap_at_new w5 (.cells #[.int .i64 x.1, .int .i64 x.2.1, .string x.2.2] 40)))
      have HN7 : Hid (∀ u ∈ [Value.int .i64 x.1, .int .i64 x.2.1, .string x.2.2], u.oneCell' = true) := by intro u hu; simp at hu; rcases hu with rfl | rfl | rfl <;> rfl
      clear hs5 hO5 hM5 hM hO HK
      go_wp2_with (at_builtin; refine wpList_append_lies _ rfl _ _ 42 rfl w2.heap.size 40 i0 (.agg #[.int .i64 0, .int .i64 0, .string ⟨#[]⟩]) 3 32 Tryd.underlying42 hi hz0 hz1 hz2 rfl (by decide) _ _ _ rfl HO6.out ⟨w5.heap.size, 0, none⟩ 1 1 [.int .i64 x.1, .int .i64 x.2.1, .string x.2.2] rfl rfl HN6.out HN7.out (by decide) (by unfold maxLen; omega) (by omega) (by have := HM5.out.2.2.2; simp; omega) (w5.heap.size + 1) (by simp) ?_)
      intro g9 cap9 w9 hown hgrow hat hlt9
      have hfar : ∀ b, (Value.slice (some ⟨g, 0, none⟩) j c).ownBlock = some b → w2.heap.size ≤ b := fun b e => (HO6.out.lt b e).1
      have hal6 : Below w5.heap.size w5 (w5.alloc (.cells #[.int .i64 x.1, .int .i64 x.2.1, .string x.2.2] 40)) := (Below.refl _ _).alloc (Nat.le_refl _) _
      have HM9 : Hid (w9.heap[w.heap.size]? = some (.cells #[.int .i64 0, .int .i64 0, .string ⟨#[]⟩] 40 (0, 0)) ∧ Cur N w9 ∧ Below w.heap.size w w9 ∧ w2.heap.size ≤ w9.heap.size) := by
        have h1 := HM5.out
        have h2 := HNN.out
        have h3 := hal6.size
        have h4 := hgrow.size
        refine ⟨?_, (h1.2.1.later (grown_of_below hal6) (fun g e => by cases e)).later hgrow (fun g e => by have := hfar g e; omega), (h1.2.2.1.trans (hal6.mono h1.2.2.1.size)).grown hgrow (by have := h1.2.2.1.size; omega) (fun b e => by have := hfar b e; omega), by omega⟩
        rw [hgrow.block _ (by omega) (fun e => by have := hfar _ e.symm; omega), hal6.block _ (by omega)]
        exact h1.1
      have hkc := keyCells_snoc l x
      have HO9 : Hid (w9.ownsRow w2.heap.size 40 3 (.slice (some ⟨g9, 0, none⟩) (j + 1) cap9) (j + 1) (keyCells (l ++ [x]))) := by unfold Hid; rw [hkc]; exact hown
      have HLJ9 : (l ++ [x]).length = j + 1 := by simp [HLJ.out]
      have HL9 := Lib.hid HLJ9
      clear hown hgrow hat hlt9 hfar hal6 HM5 HO6 HN6 HN7 hkc HLJ9
      go_wp2
      go_roundw
      case rel => exact ⟨j + 1, g9, cap9, l ++ [x], by go_num, hlt, HL9.out, rfl, HO9, HM9⟩
      case measure => simp [intOf]; omega
    · obtain rfl : j = n := by omega
      have HK := Lib.hid (l5Key_any N wr hM.out.2.1)
      go_wp2_with fail
      refine HK.out.mono ?_
      rintro e w5 ⟨x, hx, rfl, hs5⟩
      have hO5 : w5.ownsRow w2.heap.size 40 3 (.slice (some ⟨g, 0, none⟩) j c) j (keyCells l) := by
        refine ⟨hO.out.1, hO.out.2.imp id ?_⟩
        rintro ⟨g', c', cur, e1, hb, hg, r⟩
        exact ⟨g', c', cur, e1, hb, (hs5.2.block g' (Array.getElem?_eq_some_iff.1 hg).1 (fun e => by injection e with e; have := HNN.out; omega)).trans hg, r⟩
      have hr5 : w5.heap[w.heap.size]? = some (.cells #[.int .i64 0, .int .i64 0, .string ⟨#[]⟩] 40 (0, 0)) := (hs5.2.block _ (by have := HNN.out; have := hM.out.2.2.2; omega) (fun e => by injection e with e; have := HNN.out; omega)).trans hM.out.1
      have HB5 : Hid (Below w.heap.size w w5) := hM.out.2.2.1.grown hs5.2 hM.out.2.2.1.size (fun k e => by injection e with e; have := HNN.out; omega)
      have hcap : j ≤ c ∧ c ≤ maxLen := by
        rcases hO5.2 with ⟨h, _⟩ | ⟨g', c', cur, h, _, _, h1, h2, _⟩
        · cases h
        · injection h with _ _ h3
          subst h3
          exact ⟨h1, h2⟩
      have hgb : w2.heap.size ≤ g := (hO5.lt g rfl).1
      have hka : KeysAt w5 (some ⟨g, 0, none⟩) l := keys_of_own (B := w2.heap.size) (cap := c) (by rw [HLJ.out]; exact hO5)
      have HKA := Lib.hid hka
      have HCAP := Lib.hid hcap
      have HGB := Lib.hid hgb
      have HX := Lib.hid hx
      have HR5 := Lib.hid hr5
      obtain ⟨c0, c1, c2, f0, f1, f2⟩ := three_cells hr5
      clear hs5 hO5 hr5 hka hx hcap hgb hO hM HK
      go_wp2
      refine bodyPost_ret (results_tmp_row rfl _ _ w.heap.size _ _ _ _ rfl (three_set (three_set (three_set HR5.out _).1 _).2.1 _).2.2 Tryd.underlying40 rfl (by kernel_rfl)) rfl ?_
      have hne : ∀ (W : World) (o : Nat) (u : Value) (q : Addr), q.block = g → (W.setCell ⟨w.heap.size, o, none⟩ u).cell? q = W.cell? q := fun W o u q hq => World.cell?_of_block (Below.heap_setCell _ _ _ _ (by show q.block ≠ w.heap.size; have := HGB.out; have := HNN.out; omega))
      refine ⟨_, c, l, x, by rw [HLJ.out]; rfl, by rw [HLJ.out]; exact HCAP.out.1, HCAP.out.2, by rw [HLJ.out]; omega, fun i hi2 => ?_, HX.out, ((HB5.out.setCell (Nat.le_refl _) _).setCell (Nat.le_refl _) _).setCell (Nat.le_refl _) _⟩
      obtain ⟨y, hy, k1, k2, k3⟩ := HKA.out i hi2
      cases hy
      have hb0 : ∀ i, ((⟨g, 0, none⟩ : Addr).add i).block = g := fun i => by unfold Addr.add; split <;> rfl
      refine ⟨_, rfl, ?_, ?_, ?_⟩
      · rw [hne _ _ _ _ (hb0 _), hne _ _ _ _ (hb0 _), hne _ _ _ _ (hb0 _)]; exact k1
      · have hb : (keyField ⟨g, 0, none⟩ i 1).block = g := hb0 _
        exact ((hne _ _ _ _ hb).trans ((hne _ _ _ _ hb).trans (hne _ _ _ _ hb))).trans k2
      · have hb : (keyField ⟨g, 0, none⟩ i 2).block = g := hb0 _
        exact ((hne _ _ _ _ hb).trans ((hne _ _ _ _ hb).trans (hne _ _ _ _ hb))).trans k3
end Go.Proofs.YtcalgjggmgnofaaDoor
