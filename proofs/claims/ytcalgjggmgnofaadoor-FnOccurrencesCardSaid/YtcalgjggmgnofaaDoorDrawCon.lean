/- What is proved here: drawn constructors (package spec, l4Draw at a declared type). Condition: the cursor's block holds a cursor; what is below is drawn as said. -/
import Derived.Test.YtcalgjggmgnofaaDoorDrawLeaf
import Derived.Test.YtcalgjggmgnofaaDoorBoxAt
namespace Go.Proofs.YtcalgjggmgnofaaDoor
open Go.RowKit

/-- A constructor of a row of constructors, as it lies in the blocks S. -/
structure ConF (S : Nat → Prop) (w : World) (g k : Nat) (q : Option Addr) (cq : Nat) (c : ConD) : Prop where
  mine : S g
  name : w.cell? ⟨g, k * 2, none⟩ = some (.string c.name)
  args : w.cell? ⟨g, k * 2 + 1, none⟩ = some (.slice q c.args.length cq)
  each : ∀ j (h : j < c.args.length), ∃ b, q = some ⟨b, 0, none⟩ ∧ S b ∧ w.cell? ⟨b, j, none⟩ = some (.string c.args[j])
theorem ConF.keep {S : Nat → Prop} {w w' : World} {g k : Nat} {q : Option Addr} {cq : Nat} {c : ConD} (h : ConF S w g k q cq c) (hk : ∀ b, S b → w'.heap[b]? = w.heap[b]?) : ConF S w' g k q cq c :=
  ⟨h.mine, (World.cell?_of_block (hk g h.mine)).trans h.name, (World.cell?_of_block (hk g h.mine)).trans h.args, fun j hj => by
    obtain ⟨b, e, hb, hc⟩ := h.each j hj
    exact ⟨b, e, hb, (World.cell?_of_block (hk b hb)).trans hc⟩⟩
theorem con_open {S : Nat → Prop} {w : World} {T : TypeD} {u v : Value} (h : OwnType S w T u v) {k : Nat} {c : ConD} (hc : T.cons[k]? = some c) : ∃ g cap q cq, v = .slice (some ⟨g, 0, none⟩) T.cons.length cap ∧ ConF S w g k q cq c := by
  obtain ⟨_, a, cap, rfl, h0 | ⟨g, ps, rest, G, rfl, hg, hl, hp, h1, _, h2⟩⟩ := h
  · rw [h0] at hc; simp at hc
  · have hk : k < T.cons.length := by
      rcases Nat.lt_or_ge k T.cons.length with h | h
      · exact h
      · rw [List.getElem?_eq_none h] at hc; cases hc
    obtain ⟨p, hpk⟩ : ∃ p, ps[k]? = some p := ⟨ps[k]'(by omega), List.getElem?_eq_getElem (by omega)⟩
    obtain ⟨e1, a2, cap2, e2, h3⟩ := h2 k c p hk hc hpk
    have hf := flat_at ps rest k p hpk
    unfold Pairs at hp
    refine ⟨g, cap, a2, cap2, rfl, hg, ?_, ?_, fun j hj => ?_⟩
    · simp [World.cell?, hp, hf.1, e1]
    · simp [World.cell?, hp, hf.2, e2]
    · rcases h3 with h3 | ⟨g', rest', e3, hg', hb⟩
      · rw [h3] at hj; simp at hj
      · subst e3
        obtain ⟨y, hy, hcell⟩ := hb.reads j hj
        cases hy
        have e : (⟨g', 0, none⟩ : Addr).add j = ⟨g', j, none⟩ := by simp [Addr.add]; intro h; omega
        rw [e] at hcell
        exact ⟨g', rfl, (h1 k hk g' hg').1, hcell⟩

/-- What lies in memory while a constructor's arguments are drawn. -/
structure DrawMem (N : Nat) (w w0 : World) (S : Nat → Prop) (T : TypeD) (g m cap k : Nat) (q : Option Addr) (cq : Nat) (c : ConD) (bt bv : Nat) (a : Option Addr) (j ca : Nat) (wr : World) : Prop where
  res : BoxAt wr w.heap.size 0 0 ⟨#[]⟩ none 0 0 26
  tbox : wr.heap[bt]? = some (.cells #[.string T.name, .slice (some ⟨g, 0, none⟩) m cap] 108 (0, 0))
  vbox : BoxAt wr bv 3 0 c.name a j ca 26
  con : ConF S wr g k q cq c
  cur : Cur N wr
  grown : w.grownBy wr (some N)
  size : w0.heap.size ≤ wr.heap.size
theorem DrawMem.keep {N : Nat} {w w0 : World} {S : Nat → Prop} {T : TypeD} {g m cap k : Nat} {q : Option Addr} {cq : Nat} {c : ConD} {bt bv : Nat} {a : Option Addr} {j ca : Nat} {wr w1 : World} {row : Option Nat}
    (h : DrawMem N w w0 S T g m cap k q cq c bt bv a j ca wr) (hc : Cur N w1) (hg : wr.grownBy w1 row) (hr : ∀ b, row = some b → b = N ∨ w0.heap.size ≤ b) (hN : N < w.heap.size) (hbt : w.heap.size < bt ∧ bt < w0.heap.size) (hbv : w.heap.size < bv ∧ bv < w0.heap.size) (hS : ∀ b, S b → N < b ∧ b < w0.heap.size) :
    DrawMem N w w0 S T g m cap k q cq c bt bv a j ca w1 := by
  have hs := h.size
  have hb : ∀ b, N < b → b < w0.heap.size → w1.heap[b]? = wr.heap[b]? := fun b h1 h2 => hg.block b (by omega) (fun e => by rcases hr b e.symm with h3 | h3 <;> omega)
  have hlt : w.heap.size < w0.heap.size := by omega
  exact ⟨(hb _ (by omega) (by omega)).trans h.res, (hb _ (by omega) (by omega)).trans h.tbox, (hb _ (by omega) (by omega)).trans h.vbox, h.con.keep (fun b hb' => hb b (hS b hb').1 (hS b hb').2), hc, grown_join h.grown hg (fun b e => by rcases hr b e with h3 | h3; exact .inl h3; exact .inr (by omega)), Nat.le_trans hs hg.size⟩

set_option maxHeartbeats 8000000 in
set_option maxRecDepth 100000 in
theorem draw_con (N C : Nat) (_hC : C ≤ 1000) (nm : ByteArray) (T : TypeD) (hfind : theType baseSig nm = some T) (isp : Bool) (e1 : (nm.toList == [105, 110, 116]) = false) (e2 : (nm.toList == [116, 101, 120, 116]) = false) (e3 : (nm.toList == [112, 97, 105, 114]) = isp) (d : Int) (hd : -5 ≤ d ∧ d ≤ 100)
    (hl : 0 < T.cons.length ∧ T.cons.length ≤ 5 ∧ (isp = true → 1 < T.cons.length))
    (hk : ∀ (k : Nat) (c : ConD), T.cons[k]? = some c → (d < 2 → k = if isp then 1 else 0) → c.name.size ≤ 16 ∧ c.args.length ≤ 2 ∧ ∀ x ∈ c.args, ∀ w, Cur N w → Calls Tryd.prog 57 #[.pointer (some ⟨N, 0, none⟩), .string x, .int .i64 (d - 1)] w (Drawn N C w))
    (w : World) (hc : Cur N w) : Calls Tryd.prog 57 #[.pointer (some ⟨N, 0, none⟩), .string nm, .int .i64 d] w (Drawn N (2 * (1 + C)) w) := by
  have hi : (Tryd.prog.info? 26).map (fun i => (i.zero, i.size, i.bytes)) = some (some (.agg #[.int .i64 0, .int .i64 0, .string ⟨#[]⟩, .slice none 0 0]), 4, 56) := by kernel_rfl
  obtain ⟨i0, hi, hz0, hz1, hz2⟩ := info_parts hi
  have hNw := hc.lt
  have hb1 : Below w.heap.size w (w.alloc (.cells #[.int .i64 0, .int .i64 0, .string ⟨#[]⟩, .slice none 0 0] 26)) := (Below.refl _ _).alloc (Nat.le_refl _) _
  have hr1 := heap_at_new w (.cells #[.int .i64 0, .int .i64 0, .string ⟨#[]⟩, .slice none 0 0] 26)
  have HB := Lib.hid (l3Base_any (w.alloc (.cells #[.int .i64 0, .int .i64 0, .string ⟨#[]⟩, .slice none 0 0] 26)))
  have HB1 := Lib.hid hb1
  have HR1 := Lib.hid hr1
  have HC0 := Lib.hid hc
  have HFD := Lib.hid hfind
  have HK := Lib.hid hk
  have HL := Lib.hid hl
  have hz1s : (w.alloc (.cells #[.int .i64 0, .int .i64 0, .string ⟨#[]⟩, .slice none 0 0] 26)).heap.size = w.heap.size + 1 := Array.size_push _
  have HZ1 := Lib.hid hz1s
  have HNW := Lib.hid hNw
  clear hb1 hr1 hc hfind hk hl hz1s hNw
  go_enter Tryd.func57, Tryd.ntmps57
  go_wp2_with fail
  refine HB.out.mono ?_
  rintro e w2 ⟨⟨a, rfl, hrow⟩, hb2⟩
  have HF := Lib.hid (spec_findType w2 (some a) 3 baseSig nm hrow (by decide) (by intro c hc; simp only [baseSig, List.mem_cons, List.mem_nil_iff, or_false] at hc; rcases hc with rfl | rfl | rfl <;> exact ⟨by decide, by decide⟩))
  have HB2 : Hid (Below w.heap.size w w2) := HB1.out.trans (hb2.mono HB1.out.size)
  have HR2 : Hid (w2.heap[w.heap.size]? = _) := (hb2.block w.heap.size (by have := HZ1.out; omega)).trans HR1.out
  have HZ2 : Hid (w.heap.size < w2.heap.size) := by unfold Hid; have := HZ1.out; have := hb2.size; omega
  clear hb2 hrow HB HB1 HR1 HZ1
  go_wp2_with fail
  refine HF.out.mono ?_
  rintro e w3 ⟨hb3, hres⟩
  obtain ⟨u, v, rfl, hown⟩ : ∃ u v, e = .returned (.tuple #[.agg #[u, v], .bool true]) ∧ OwnType (Came w2 w3) w3 T u v := by
    rcases hres with ⟨x, u, v, hx, he, ho⟩ | ⟨hx, _⟩
    · rw [HFD.out] at hx
      injection hx with hx
      subst hx
      exact ⟨u, v, he, ho⟩
    · rw [HFD.out] at hx
      cases hx
  -- BEGIN GENERATED
  obtain ⟨c0, hc0⟩ : ∃ c, T.cons[0]? = some c := ⟨_, List.getElem?_eq_getElem HL.out.1⟩
  obtain ⟨g, cap, _, _, hv, hcf0⟩ := con_open hown hc0
  subst hv
  have hu := hown.1
  subst hu
  have HCON : Hid (∀ (k : Nat) (c : ConD), T.cons[k]? = some c → ∃ q cq, ConF (Came w2 w3) w3 g k q cq c) := fun k c hk => by
    obtain ⟨g', cap', q, cq, hv, hf⟩ := con_open hown hk
    injection hv with hv
    injection hv with hv
    injection hv with hv
    subst hv
    exact ⟨q, cq, hf⟩
  have hal : Below w3.heap.size w3 (w3.alloc (.cells #[.string T.name, .slice (some ⟨g, 0, none⟩) T.cons.length cap] 108)) := (Below.refl _ _).alloc (Nat.le_refl _) _
  have htb := heap_at_new w3 (.cells #[.string T.name, .slice (some ⟨g, 0, none⟩) T.cons.length cap] 108)
  have hs4 : (w3.alloc (.cells #[.string T.name, .slice (some ⟨g, 0, none⟩) T.cons.length cap] 108)).heap.size = w3.heap.size + 1 := Array.size_push _
  obtain ⟨w4, hw4⟩ : ∃ w4, w4 = w3.alloc (.cells #[.string T.name, .slice (some ⟨g, 0, none⟩) T.cons.length cap] 108) := ⟨_, rfl⟩
  have HB3 : Hid (Below w.heap.size w w3) := HB2.out.trans (hb3.mono HB2.out.size)
  rw [← hw4] at hal htb hs4
  have HB4 : Hid (Below w.heap.size w w4) := HB3.out.trans (hal.mono HB3.out.size)
  have hc4 : Cur N w4 := HC0.out.later (grown_of_below HB4.out) (fun g e => by cases e)
  have HR4 : Hid (BoxAt w4 w.heap.size 0 0 ⟨#[]⟩ none 0 0 26) := (hal.block _ (by have := HZ2.out; have := hb3.size; omega)).trans ((hb3.block _ HZ2.out).trans HR2.out)
  have HZ3 : Hid (w2.heap.size ≤ w3.heap.size) := hb3.size
  have HCON4 : Hid (∀ (k : Nat) (c : ConD), T.cons[k]? = some c → ∃ q cq, ConF (Came w2 w3) w4 g k q cq c) := fun k c hk => by
    obtain ⟨q, cq, hf⟩ := HCON.out k c hk
    exact ⟨q, cq, hf.keep (fun b hb => hal.block b hb.2)⟩
  have HW4 := Lib.hid hw4
  have HTB := Lib.hid htb
  have HS4 := Lib.hid hs4
  obtain ⟨tb0, tb1, _⟩ := two_cells htb
  rw [hw4] at tb0 tb1
  generalize hm : T.cons.length = m at *
  have HM := Lib.hid hm
  have hm0 : 0 < m := HL.out.1
  have hm5 : m ≤ 5 := HL.out.2.1
  have HBL := Lib.hid (below_any N (m : Int) (by omega) (by omega) w4 hc4)
  clear hal htb hs4 hw4 hb3 hcf0 hown hres HF hc0 hc4 HCON hm
  go_wp2_with fail
  rw [← HW4.out]
  refine HBL.out.mono ?_
  rintro e w5 ⟨x, x0, x1, rfl, hs5⟩
  obtain ⟨xk, rfl⟩ : ∃ xk : Nat, x = xk := ⟨x.toNat, by omega⟩
  have hxk : xk < m := by omega
  have hz5 := hs5.size
  have hN5 := hs5.2
  have HZ5 : Hid (w3.heap.size + 1 ≤ w5.heap.size) := by unfold Hid; have := HS4.out; omega
  have htb5 : w5.heap[w3.heap.size]? = some (.cells #[.string T.name, .slice (some ⟨g, 0, none⟩) m cap] 108 (0, 0)) := (hN5.block _ (by have := HS4.out; omega) (fun e => by injection e with e; have := HZ3.out; have := HZ2.out; have := HNW.out; omega)).trans HTB.out
  have HR5 : Hid (BoxAt w5 w.heap.size 0 0 ⟨#[]⟩ none 0 0 26) := (hN5.block _ (by have := HB4.out.size; have := HZ2.out; have := HZ3.out; have := HS4.out; omega) (fun e => by injection e with e; have := HNW.out; omega)).trans HR4.out
  have HCON5 : Hid (∀ (k : Nat) (c : ConD), T.cons[k]? = some c → ∃ q cq, ConF (Came w2 w3) w5 g k q cq c) := fun k c hk => by
    obtain ⟨q, cq, hf⟩ := HCON4.out k c hk
    exact ⟨q, cq, hf.keep (fun b hb => hN5.block b (by have := hb.2; have := HS4.out; omega) (fun e => by injection e with e; have := hb.1; have := HZ2.out; have := HNW.out; omega))⟩
  have HC5 : Hid (Cur N w5) := hs5.1
  have HG5 : Hid (w.grownBy w5 (some N)) := grown_join (grown_wide (grown_of_below HB4.out)) hN5 (fun g e => by injection e with e; exact .inl e.symm)
  have HTB5 := Lib.hid htb5
  obtain ⟨tb0, tb1, _⟩ := two_cells htb5
  clear HBL hs5 hz5 hN5 htb5 HB4 HB3 HB2 HR2 HR4 HCON4 HTB HW4 x0 x1
  obtain ⟨hdl, hdh⟩ := hd
  by_cases hd2 : d < 2
  · cases isp
    · have hdz : d < 2 := hd2
      have hkk : 0 < m := by omega
      have hkz : (0 : Int) < (m : Int) := by omega
      obtain ⟨c, hck⟩ : ∃ c, T.cons[0]? = some c := ⟨_, List.getElem?_eq_getElem (by rw [HM.out]; exact hkk)⟩
      obtain ⟨q, cq, hcf⟩ := HCON5.out 0 c hck
      obtain ⟨hcn, hca, hdraw⟩ := HK.out 0 c hck (fun _ => rfl)
      have HDR := Lib.hid hdraw
      have hn5 : w5.cell? ⟨g, 0, none⟩ = some (.string c.name) := hcf.name
      have hal : Below w5.heap.size w5 (w5.alloc (.cells #[.int .i64 3, .int .i64 0, .string c.name, .slice none 0 0] 26)) := (Below.refl _ _).alloc (Nat.le_refl _) _
      have hvb := heap_at_new w5 (.cells #[.int .i64 3, .int .i64 0, .string c.name, .slice none 0 0] 26)
      have hs6 : (w5.alloc (.cells #[.int .i64 3, .int .i64 0, .string c.name, .slice none 0 0] 26)).heap.size = w5.heap.size + 1 := Array.size_push _
      obtain ⟨w6, hw6⟩ : ∃ w6, w6 = w5.alloc (.cells #[.int .i64 3, .int .i64 0, .string c.name, .slice none 0 0] 26) := ⟨_, rfl⟩
      rw [← hw6] at hal hvb hs6
      have hbt : w.heap.size < w3.heap.size ∧ w3.heap.size < w6.heap.size := by have := HZ2.out; have := HZ3.out; have := HZ5.out; omega
      have hbv : w.heap.size < w5.heap.size ∧ w5.heap.size < w6.heap.size := by have := HZ2.out; have := HZ3.out; have := HZ5.out; omega
      have hS : ∀ b, Came w2 w3 b → N < b ∧ b < w6.heap.size := fun b hb => by have := hb.1; have := hb.2; have := HNW.out; have := HZ2.out; have := HZ5.out; omega
      have HMEM : Hid (DrawMem N w w6 (Came w2 w3) T g m cap 0 q cq c w3.heap.size w5.heap.size none 0 0 w6) :=
        ⟨HR5.out.below hal, (hal.block _ (by have := HZ5.out; omega)).trans HTB5.out, hvb, hcf.keep (fun b hb => hal.block b (by have := hb.2; have := HZ5.out; omega)), HC5.out.later (grown_of_below hal) (fun g e => by cases e), grown_join HG5.out (grown_of_below hal) (fun g e => by cases e), Nat.le_refl _⟩
      have HBT := Lib.hid hbt
      have HBV := Lib.hid hbv
      have HSS := Lib.hid hS
      have HW6 := Lib.hid hw6
      have HCN := Lib.hid hcn
      generalize hcl : c.args.length = nl at *
      have HCA := Lib.hid hca
      have hnl2 : nl ≤ 2 := hca
      have HCL := Lib.hid hcl
      clear hal hvb hs6 hw6 hbt hbv hS hcf hck hdraw HCON5 hcn hcl HC5 HG5 HR5 HTB5
      go_wp2
      rw [← HW6.out]
      clear HW6 hn5 tb0 tb1
      go_loopw [11] (fun i wr => ∃ (j : Nat) (pre : Trees) (a : Option Addr) (ca : Nat) (bs : List Nat) (xs : List Value), i = .int .i64 j ∧ j ≤ nl ∧ Hid (pre.length = j ∧ pre.tame ∧ pre.count ≤ j * (1 + C)) ∧ Hid (GrowV wr w6.heap.size (.slice a j ca) pre bs xs) ∧ Hid (DrawMem N w w6 (Came w2 w3) T g m cap 0 q cq c w3.heap.size w5.heap.size a j ca wr)) (fun i _ => nl - (intOf i).toNat)
      case atStart => exact ⟨0, .nil, none, 0, [], [], rfl, Nat.zero_le _, ⟨rfl, trivial, Nat.zero_le _⟩, GrowV.nil _ _, HMEM⟩
      case round =>
        obtain ⟨j, pre, a, ca, bs, xs, rfl, hj, hP, hG, hM⟩ := hrel
        obtain ⟨tb0, tb1, _⟩ := two_cells hM.out.tbox
        have ha0 : wr.cell? ⟨g, 1, none⟩ = some (.slice q c.args.length cq) := hM.out.con.args
        rw [HCL.out] at ha0
        by_cases hlt : j < nl
        · have hj2 : j < c.args.length := by rw [HCL.out]; exact hlt
          obtain ⟨b, hqb, hSb, hcb⟩ := hM.out.con.each j hj2
          subst hqb
          have hx := List.getElem_mem hj2
          generalize hxe : c.args[j] = x at hcb hx
          have hcall := HDR.out x hx wr.drew (hM.out.cur.later ⟨rfl, rfl, rfl, Nat.le_refl _, fun _ _ _ => rfl⟩ (fun g (e : none = some g) => by cases e))
          have hwp : IntKind.i64.wrap (d - 1) = d - 1 := by rw [IntKind.wrap_i64]; omega
          rw [← hwp] at hcall
          have HCALL := Lib.hid hcall
          clear hcall hwp
          obtain ⟨v0, v1, v2, v3, f0, f1, f2, f3⟩ := four_cells hM.out.vbox
          have hbS := HSS.out b hSb
          have hgS := HSS.out g hM.out.con.mine
          have HBS := Lib.hid hbS
          have HGS := Lib.hid hgS
          clear hSb hx hxe hbS hgS v0 v1 v2 f0 f1 f2 hj2
          go_wp2
          go_region_law (first
            | (go_simp; go_at_call 57; with_reducible refine HCALL.out.mono ?_
               rintro e w7 ⟨kk7, nn7, tt7, v7, F7, bs7, xs7, rfl, hg7, hcn7, htm7, hk7, hnn7, htt7, hs7⟩
               obtain ⟨a7, ca7, rfl⟩ := hg7.form
               have hgr : wr.grownBy w7 (some N) := ⟨hs7.2.os, hs7.2.tape, hs7.2.output, hs7.2.size, hs7.2.block⟩
               have hM7 := hM.out.keep hs7.1 hgr (fun b e => by injection e with e; exact .inl e.symm) HNW.out HBT.out HBV.out HSS.out
               have HM7 := Lib.hid hM7
               have hal7 : Below w7.heap.size w7 (w7.alloc (.cells #[.int .i64 kk7, .int .i64 nn7, .string tt7, .slice a7 F7.length ca7] 26)) := (Below.refl _ _).alloc (Nat.le_refl _) _
               have hM8 := hM7.keep (hs7.1.later (grown_of_below hal7) (fun g e => by cases e)) (grown_of_below hal7) (fun b e => by cases e) HNW.out HBT.out HBV.out HSS.out
               have HM8 := Lib.hid hM8
               have hNw6 : N < w6.heap.size := by have := HNW.out; have := HBT.out; omega
               have HG7 := Lib.hid ((hG.out.grown hgr hNw6).below hal7).owns
               have HX7 : Hid (GrowV w7 wr.heap.size (.slice a7 F7.length ca7) F7 bs7 xs7 ∧ F7.count ≤ C ∧ F7.tame ∧ (0 ≤ kk7 ∧ kk7 ≤ 9) ∧ (-1000000000000 ≤ nn7 ∧ nn7 ≤ 1000000000000) ∧ tt7.size ≤ 16 ∧ wr.grownBy w7 (some N)) := ⟨hg7, hcn7, htm7, hk7, hnn7, htt7, hgr⟩
               obtain ⟨_, _, _, z7, _, _, _, y7⟩ := four_cells hM7.vbox
               obtain ⟨_, _, _, z8, _, _, _, y8⟩ := four_cells hM8.vbox
               obtain ⟨s7, r7, _⟩ := two_cells hM7.tbox
               obtain ⟨s8, r8, _⟩ := two_cells hM8.tbox
               have q7 : w7.cell? ⟨g, 1, none⟩ = some (.slice (some ⟨b, 0, none⟩) c.args.length cq) := hM7.con.args
               have q8 : (w7.alloc (.cells #[.int .i64 kk7, .int .i64 nn7, .string tt7, .slice a7 F7.length ca7] 26)).cell? ⟨g, 1, none⟩ = some (.slice (some ⟨b, 0, none⟩) c.args.length cq) := hM8.con.args
               rw [HCL.out] at q7 q8
               have HAL := Lib.hid hal7
               clear hgr hM7 hM8 hal7 hg7 hcn7 htm7 hk7 hnn7 htt7 hs7 hNw6)
            | (refine step_append_lies _ rfl (.tmp 63) (.tmp 77) 24 rfl w6.heap.size 26 i0 (.agg #[.int .i64 0, .int .i64 0, .string ⟨#[]⟩, .slice none 0 0]) 4 56 Tryd.underlying24 hi hz0 hz1 hz2 rfl (by decide) (.slice a j ca) pre.length xs (by simp [Act.eval]) HG7.out ⟨w7.heap.size, 0, none⟩ 1 1 [.int .i64 kk7, .int .i64 nn7, .string tt7, .slice a7 F7.length ca7] (by simp [Act.eval]) rfl (grow_four _ _ _ _ _ _) (grow_one _ _ _ _ _ _) (by decide) (by rw [hP.out.1]; unfold maxLen; have := HCA.out; omega) (by rw [hP.out.1]; have := HCA.out; omega) (by have := HM8.out.size; exact this) (w7.heap.size + 1) (by simp) ?_
               intro g9 cap9 w9 hown hgrow hat hlt9
               obtain ⟨cs7, ho7, hnd7, hfr7⟩ := HX7.out.1.own
               have hNw6 : N < w6.heap.size := by have := HNW.out; have := HBT.out; omega
               have hGM := GrowV.moreN (w := wr) (w1 := w7) hG.out hM.out.size HX7.out.2.2.2.2.2.2 hNw6 ho7 hnd7 hfr7 HAL.out hown hgrow (by rcases hat with h | h; exact .inl h; exact .inr (by simp [h]))
               have hfar := hG.out.far
               have hfar' : ∀ b, (Value.slice a j ca).ownBlock = some b → b = N ∨ w6.heap.size ≤ b := fun b e => .inr (hfar b e)
               have hM9 := HM8.out.keep (HM8.out.cur.later hgrow (fun g e => by have := hfar g e; omega)) hgrow hfar' HNW.out HBT.out HBV.out HSS.out
               rw [hP.out.1] at hGM
               have HGM := Lib.hid hGM
               have HM9 := Lib.hid hM9
               obtain ⟨_, _, _, z9, _, _, _, y9⟩ := four_cells hM9.vbox
               obtain ⟨s9, r9, _⟩ := two_cells hM9.tbox
               have q9 : w9.cell? ⟨g, 1, none⟩ = some (.slice (some ⟨b, 0, none⟩) c.args.length cq) := hM9.con.args
               rw [HCL.out] at q9
               rw [hP.out.1]
               clear hGM hM9 hfar hfar' hown hgrow hat hlt9 ho7 hnd7 hfr7 hNw6))
          all_goals
            have HP9 : Hid ((pre.snoc kk7 nn7 tt7 F7).length = j + 1 ∧ (pre.snoc kk7 nn7 tt7 F7).tame ∧ (pre.snoc kk7 nn7 tt7 F7).count ≤ (j + 1) * (1 + C)) := by
              refine ⟨by rw [Trees.snoc_length, hP.out.1], Trees.tame_snoc HX7.out.2.2.2.1 HX7.out.2.2.2.2.1 HX7.out.2.2.2.2.2.1 HX7.out.2.2.1 pre hP.out.2.1, ?_⟩
              rw [Trees.snoc_count, Nat.add_mul, Nat.one_mul]
              have := hP.out.2.2
              have := HX7.out.2.1
              omega
            clear HG7 HX7 HAL HM7 HM8 hG hM hP HCALL
            go_wp2
            go_roundw
            case rel =>
              have hbv9 := HBV.out
              have hmem : DrawMem N w w6 (Came w2 w3) T g m cap 0 (some ⟨b, 0, none⟩) cq c w3.heap.size w5.heap.size (some ⟨g9, 0, none⟩) (j + 1) cap9 (w9.setCell ⟨w5.heap.size, 3, none⟩ (.slice (some ⟨g9, 0, none⟩) (j + 1) cap9)) := by
                have hne : ∀ b, b ≠ w5.heap.size → (w9.setCell ⟨w5.heap.size, 3, none⟩ (.slice (some ⟨g9, 0, none⟩) (j + 1) cap9)).heap[b]? = w9.heap[b]? := fun b hb => Below.heap_setCell _ _ _ _ hb
                have hgs : w9.grownBy (w9.setCell ⟨w5.heap.size, 3, none⟩ (.slice (some ⟨g9, 0, none⟩) (j + 1) cap9)) (some w5.heap.size) := ⟨rfl, rfl, rfl, by simp [World.setCell], fun b _ e => hne b (fun e2 => e (by rw [e2]))⟩
                exact ⟨(hne _ (by omega)).trans HM9.out.res, (hne _ (by have := HZ5.out; omega)).trans HM9.out.tbox, (four_set HM9.out.vbox _).2.2.2, HM9.out.con.keep (fun b hb => hne b (by have := hb.2; have := HZ5.out; omega)), HM9.out.cur.later hgs (fun g e => by injection e with e; have := HNW.out; omega), grown_join HM9.out.grown hgs (fun g e => by injection e with e; right; omega), by simpa [World.setCell] using HM9.out.size⟩
              exact ⟨j + 1, pre.snoc kk7 nn7 tt7 F7, some ⟨g9, 0, none⟩, cap9, _, _, by go_num, hlt, HP9, HGM.out.aside _ _ _ (by omega), hmem⟩
            case measure => simp [intOf]; omega
        · obtain rfl : j = nl := by omega
          obtain ⟨v0, v1, v2, v3⟩ := hM.out.vbox.cells
          obtain ⟨x0, x1, x2, x3, f0, f1, f2, f3⟩ := four_cells hM.out.res
          go_wp2
          refine bodyPost_ret (results_cell_row rfl _ _ w.heap.size _ _ _ _ rfl (four_set (four_set (four_set (four_set hM.out.res _).1 _).2.1 _).2.2.1 _).2.2.2 Tryd.underlying26 rfl (by kernel_rfl)) rfl ?_
          have hg : ∀ (W : World) (o : Nat) (u : Value), W.grownBy (W.setCell ⟨w.heap.size, o, none⟩ u) (some w.heap.size) := fun W o u => grown_set W w.heap.size o u
          have hl : ∀ g, some w.heap.size = some g → N < g := fun g e => by injection e with e; have := HNW.out; omega
          have hj : ∀ g, some w.heap.size = some g → g = N ∨ w.heap.size ≤ g := fun g e => by injection e with e; omega
          have hw6 : w.heap.size < w6.heap.size := by have := HBT.out; omega
          have hG4 := (((hG.out.aside w.heap.size 0 (.int .i64 3) hw6).aside w.heap.size 1 (.int .i64 0) hw6).aside w.heap.size 2 (.string c.name) hw6).aside w.heap.size 3 (.slice a j ca) hw6
          refine ⟨3, 0, c.name, _, pre, bs, xs, rfl, ⟨⟨hG4.owns.1, hG4.owns.2.imp id ?_⟩, hG4.row, hG4.nodup, fun b hb => ⟨by have := (hG4.near b hb).1; omega, (hG4.near b hb).2⟩⟩, ?_, hP.out.2.1, by decide, by decide, HCN.out,
            ((((hM.out.cur.later (hg _ _ _) hl).later (hg _ _ _) hl).later (hg _ _ _) hl).later (hg _ _ _) hl),
            grown_join (grown_join (grown_join (grown_join hM.out.grown (hg _ _ _) hj) (hg _ _ _) hj) (hg _ _ _) hj) (hg _ _ _) hj⟩
          · rintro ⟨g', cap', cur, e, hB, r⟩
            exact ⟨g', cap', cur, e, by omega, r⟩
          · have h1 := hP.out.2.2
            have h2 := HCA.out
            exact Nat.le_trans h1 (Nat.mul_le_mul_right _ h2)
    · have hdz : d < 2 := hd2
      have hkk : 1 < m := by have := HL.out.2.2 rfl; omega
      have hkz : (1 : Int) < (m : Int) := by omega
      obtain ⟨c, hck⟩ : ∃ c, T.cons[1]? = some c := ⟨_, List.getElem?_eq_getElem (by rw [HM.out]; exact hkk)⟩
      obtain ⟨q, cq, hcf⟩ := HCON5.out 1 c hck
      obtain ⟨hcn, hca, hdraw⟩ := HK.out 1 c hck (fun _ => rfl)
      have HDR := Lib.hid hdraw
      have hn5 : w5.cell? ⟨g, 2, none⟩ = some (.string c.name) := hcf.name
      have hal : Below w5.heap.size w5 (w5.alloc (.cells #[.int .i64 3, .int .i64 0, .string c.name, .slice none 0 0] 26)) := (Below.refl _ _).alloc (Nat.le_refl _) _
      have hvb := heap_at_new w5 (.cells #[.int .i64 3, .int .i64 0, .string c.name, .slice none 0 0] 26)
      have hs6 : (w5.alloc (.cells #[.int .i64 3, .int .i64 0, .string c.name, .slice none 0 0] 26)).heap.size = w5.heap.size + 1 := Array.size_push _
      obtain ⟨w6, hw6⟩ : ∃ w6, w6 = w5.alloc (.cells #[.int .i64 3, .int .i64 0, .string c.name, .slice none 0 0] 26) := ⟨_, rfl⟩
      rw [← hw6] at hal hvb hs6
      have hbt : w.heap.size < w3.heap.size ∧ w3.heap.size < w6.heap.size := by have := HZ2.out; have := HZ3.out; have := HZ5.out; omega
      have hbv : w.heap.size < w5.heap.size ∧ w5.heap.size < w6.heap.size := by have := HZ2.out; have := HZ3.out; have := HZ5.out; omega
      have hS : ∀ b, Came w2 w3 b → N < b ∧ b < w6.heap.size := fun b hb => by have := hb.1; have := hb.2; have := HNW.out; have := HZ2.out; have := HZ5.out; omega
      have HMEM : Hid (DrawMem N w w6 (Came w2 w3) T g m cap 1 q cq c w3.heap.size w5.heap.size none 0 0 w6) :=
        ⟨HR5.out.below hal, (hal.block _ (by have := HZ5.out; omega)).trans HTB5.out, hvb, hcf.keep (fun b hb => hal.block b (by have := hb.2; have := HZ5.out; omega)), HC5.out.later (grown_of_below hal) (fun g e => by cases e), grown_join HG5.out (grown_of_below hal) (fun g e => by cases e), Nat.le_refl _⟩
      have HBT := Lib.hid hbt
      have HBV := Lib.hid hbv
      have HSS := Lib.hid hS
      have HW6 := Lib.hid hw6
      have HCN := Lib.hid hcn
      generalize hcl : c.args.length = nl at *
      have HCA := Lib.hid hca
      have hnl2 : nl ≤ 2 := hca
      have HCL := Lib.hid hcl
      clear hal hvb hs6 hw6 hbt hbv hS hcf hck hdraw HCON5 hcn hcl HC5 HG5 HR5 HTB5
      go_wp2
      rw [← HW6.out]
      clear HW6 hn5 tb0 tb1
      go_loopw [11] (fun i wr => ∃ (j : Nat) (pre : Trees) (a : Option Addr) (ca : Nat) (bs : List Nat) (xs : List Value), i = .int .i64 j ∧ j ≤ nl ∧ Hid (pre.length = j ∧ pre.tame ∧ pre.count ≤ j * (1 + C)) ∧ Hid (GrowV wr w6.heap.size (.slice a j ca) pre bs xs) ∧ Hid (DrawMem N w w6 (Came w2 w3) T g m cap 1 q cq c w3.heap.size w5.heap.size a j ca wr)) (fun i _ => nl - (intOf i).toNat)
      case atStart => exact ⟨0, .nil, none, 0, [], [], rfl, Nat.zero_le _, ⟨rfl, trivial, Nat.zero_le _⟩, GrowV.nil _ _, HMEM⟩
      case round =>
        obtain ⟨j, pre, a, ca, bs, xs, rfl, hj, hP, hG, hM⟩ := hrel
        obtain ⟨tb0, tb1, _⟩ := two_cells hM.out.tbox
        have ha0 : wr.cell? ⟨g, 3, none⟩ = some (.slice q c.args.length cq) := hM.out.con.args
        rw [HCL.out] at ha0
        by_cases hlt : j < nl
        · have hj2 : j < c.args.length := by rw [HCL.out]; exact hlt
          obtain ⟨b, hqb, hSb, hcb⟩ := hM.out.con.each j hj2
          subst hqb
          have hx := List.getElem_mem hj2
          generalize hxe : c.args[j] = x at hcb hx
          have hcall := HDR.out x hx wr.drew (hM.out.cur.later ⟨rfl, rfl, rfl, Nat.le_refl _, fun _ _ _ => rfl⟩ (fun g (e : none = some g) => by cases e))
          have hwp : IntKind.i64.wrap (d - 1) = d - 1 := by rw [IntKind.wrap_i64]; omega
          rw [← hwp] at hcall
          have HCALL := Lib.hid hcall
          clear hcall hwp
          obtain ⟨v0, v1, v2, v3, f0, f1, f2, f3⟩ := four_cells hM.out.vbox
          have hbS := HSS.out b hSb
          have hgS := HSS.out g hM.out.con.mine
          have HBS := Lib.hid hbS
          have HGS := Lib.hid hgS
          clear hSb hx hxe hbS hgS v0 v1 v2 f0 f1 f2 hj2
          go_wp2
          go_region_law (first
            | (go_simp; go_at_call 57; with_reducible refine HCALL.out.mono ?_
               rintro e w7 ⟨kk7, nn7, tt7, v7, F7, bs7, xs7, rfl, hg7, hcn7, htm7, hk7, hnn7, htt7, hs7⟩
               obtain ⟨a7, ca7, rfl⟩ := hg7.form
               have hgr : wr.grownBy w7 (some N) := ⟨hs7.2.os, hs7.2.tape, hs7.2.output, hs7.2.size, hs7.2.block⟩
               have hM7 := hM.out.keep hs7.1 hgr (fun b e => by injection e with e; exact .inl e.symm) HNW.out HBT.out HBV.out HSS.out
               have HM7 := Lib.hid hM7
               have hal7 : Below w7.heap.size w7 (w7.alloc (.cells #[.int .i64 kk7, .int .i64 nn7, .string tt7, .slice a7 F7.length ca7] 26)) := (Below.refl _ _).alloc (Nat.le_refl _) _
               have hM8 := hM7.keep (hs7.1.later (grown_of_below hal7) (fun g e => by cases e)) (grown_of_below hal7) (fun b e => by cases e) HNW.out HBT.out HBV.out HSS.out
               have HM8 := Lib.hid hM8
               have hNw6 : N < w6.heap.size := by have := HNW.out; have := HBT.out; omega
               have HG7 := Lib.hid ((hG.out.grown hgr hNw6).below hal7).owns
               have HX7 : Hid (GrowV w7 wr.heap.size (.slice a7 F7.length ca7) F7 bs7 xs7 ∧ F7.count ≤ C ∧ F7.tame ∧ (0 ≤ kk7 ∧ kk7 ≤ 9) ∧ (-1000000000000 ≤ nn7 ∧ nn7 ≤ 1000000000000) ∧ tt7.size ≤ 16 ∧ wr.grownBy w7 (some N)) := ⟨hg7, hcn7, htm7, hk7, hnn7, htt7, hgr⟩
               obtain ⟨_, _, _, z7, _, _, _, y7⟩ := four_cells hM7.vbox
               obtain ⟨_, _, _, z8, _, _, _, y8⟩ := four_cells hM8.vbox
               obtain ⟨s7, r7, _⟩ := two_cells hM7.tbox
               obtain ⟨s8, r8, _⟩ := two_cells hM8.tbox
               have q7 : w7.cell? ⟨g, 3, none⟩ = some (.slice (some ⟨b, 0, none⟩) c.args.length cq) := hM7.con.args
               have q8 : (w7.alloc (.cells #[.int .i64 kk7, .int .i64 nn7, .string tt7, .slice a7 F7.length ca7] 26)).cell? ⟨g, 3, none⟩ = some (.slice (some ⟨b, 0, none⟩) c.args.length cq) := hM8.con.args
               rw [HCL.out] at q7 q8
               have HAL := Lib.hid hal7
               clear hgr hM7 hM8 hal7 hg7 hcn7 htm7 hk7 hnn7 htt7 hs7 hNw6)
            | (refine step_append_lies _ rfl (.tmp 63) (.tmp 77) 24 rfl w6.heap.size 26 i0 (.agg #[.int .i64 0, .int .i64 0, .string ⟨#[]⟩, .slice none 0 0]) 4 56 Tryd.underlying24 hi hz0 hz1 hz2 rfl (by decide) (.slice a j ca) pre.length xs (by simp [Act.eval]) HG7.out ⟨w7.heap.size, 0, none⟩ 1 1 [.int .i64 kk7, .int .i64 nn7, .string tt7, .slice a7 F7.length ca7] (by simp [Act.eval]) rfl (grow_four _ _ _ _ _ _) (grow_one _ _ _ _ _ _) (by decide) (by rw [hP.out.1]; unfold maxLen; have := HCA.out; omega) (by rw [hP.out.1]; have := HCA.out; omega) (by have := HM8.out.size; exact this) (w7.heap.size + 1) (by simp) ?_
               intro g9 cap9 w9 hown hgrow hat hlt9
               obtain ⟨cs7, ho7, hnd7, hfr7⟩ := HX7.out.1.own
               have hNw6 : N < w6.heap.size := by have := HNW.out; have := HBT.out; omega
               have hGM := GrowV.moreN (w := wr) (w1 := w7) hG.out hM.out.size HX7.out.2.2.2.2.2.2 hNw6 ho7 hnd7 hfr7 HAL.out hown hgrow (by rcases hat with h | h; exact .inl h; exact .inr (by simp [h]))
               have hfar := hG.out.far
               have hfar' : ∀ b, (Value.slice a j ca).ownBlock = some b → b = N ∨ w6.heap.size ≤ b := fun b e => .inr (hfar b e)
               have hM9 := HM8.out.keep (HM8.out.cur.later hgrow (fun g e => by have := hfar g e; omega)) hgrow hfar' HNW.out HBT.out HBV.out HSS.out
               rw [hP.out.1] at hGM
               have HGM := Lib.hid hGM
               have HM9 := Lib.hid hM9
               obtain ⟨_, _, _, z9, _, _, _, y9⟩ := four_cells hM9.vbox
               obtain ⟨s9, r9, _⟩ := two_cells hM9.tbox
               have q9 : w9.cell? ⟨g, 3, none⟩ = some (.slice (some ⟨b, 0, none⟩) c.args.length cq) := hM9.con.args
               rw [HCL.out] at q9
               rw [hP.out.1]
               clear hGM hM9 hfar hfar' hown hgrow hat hlt9 ho7 hnd7 hfr7 hNw6))
          all_goals
            have HP9 : Hid ((pre.snoc kk7 nn7 tt7 F7).length = j + 1 ∧ (pre.snoc kk7 nn7 tt7 F7).tame ∧ (pre.snoc kk7 nn7 tt7 F7).count ≤ (j + 1) * (1 + C)) := by
              refine ⟨by rw [Trees.snoc_length, hP.out.1], Trees.tame_snoc HX7.out.2.2.2.1 HX7.out.2.2.2.2.1 HX7.out.2.2.2.2.2.1 HX7.out.2.2.1 pre hP.out.2.1, ?_⟩
              rw [Trees.snoc_count, Nat.add_mul, Nat.one_mul]
              have := hP.out.2.2
              have := HX7.out.2.1
              omega
            clear HG7 HX7 HAL HM7 HM8 hG hM hP HCALL
            go_wp2
            go_roundw
            case rel =>
              have hbv9 := HBV.out
              have hmem : DrawMem N w w6 (Came w2 w3) T g m cap 1 (some ⟨b, 0, none⟩) cq c w3.heap.size w5.heap.size (some ⟨g9, 0, none⟩) (j + 1) cap9 (w9.setCell ⟨w5.heap.size, 3, none⟩ (.slice (some ⟨g9, 0, none⟩) (j + 1) cap9)) := by
                have hne : ∀ b, b ≠ w5.heap.size → (w9.setCell ⟨w5.heap.size, 3, none⟩ (.slice (some ⟨g9, 0, none⟩) (j + 1) cap9)).heap[b]? = w9.heap[b]? := fun b hb => Below.heap_setCell _ _ _ _ hb
                have hgs : w9.grownBy (w9.setCell ⟨w5.heap.size, 3, none⟩ (.slice (some ⟨g9, 0, none⟩) (j + 1) cap9)) (some w5.heap.size) := ⟨rfl, rfl, rfl, by simp [World.setCell], fun b _ e => hne b (fun e2 => e (by rw [e2]))⟩
                exact ⟨(hne _ (by omega)).trans HM9.out.res, (hne _ (by have := HZ5.out; omega)).trans HM9.out.tbox, (four_set HM9.out.vbox _).2.2.2, HM9.out.con.keep (fun b hb => hne b (by have := hb.2; have := HZ5.out; omega)), HM9.out.cur.later hgs (fun g e => by injection e with e; have := HNW.out; omega), grown_join HM9.out.grown hgs (fun g e => by injection e with e; right; omega), by simpa [World.setCell] using HM9.out.size⟩
              exact ⟨j + 1, pre.snoc kk7 nn7 tt7 F7, some ⟨g9, 0, none⟩, cap9, _, _, by go_num, hlt, HP9, HGM.out.aside _ _ _ (by omega), hmem⟩
            case measure => simp [intOf]; omega
        · obtain rfl : j = nl := by omega
          obtain ⟨v0, v1, v2, v3⟩ := hM.out.vbox.cells
          obtain ⟨x0, x1, x2, x3, f0, f1, f2, f3⟩ := four_cells hM.out.res
          go_wp2
          refine bodyPost_ret (results_cell_row rfl _ _ w.heap.size _ _ _ _ rfl (four_set (four_set (four_set (four_set hM.out.res _).1 _).2.1 _).2.2.1 _).2.2.2 Tryd.underlying26 rfl (by kernel_rfl)) rfl ?_
          have hg : ∀ (W : World) (o : Nat) (u : Value), W.grownBy (W.setCell ⟨w.heap.size, o, none⟩ u) (some w.heap.size) := fun W o u => grown_set W w.heap.size o u
          have hl : ∀ g, some w.heap.size = some g → N < g := fun g e => by injection e with e; have := HNW.out; omega
          have hj : ∀ g, some w.heap.size = some g → g = N ∨ w.heap.size ≤ g := fun g e => by injection e with e; omega
          have hw6 : w.heap.size < w6.heap.size := by have := HBT.out; omega
          have hG4 := (((hG.out.aside w.heap.size 0 (.int .i64 3) hw6).aside w.heap.size 1 (.int .i64 0) hw6).aside w.heap.size 2 (.string c.name) hw6).aside w.heap.size 3 (.slice a j ca) hw6
          refine ⟨3, 0, c.name, _, pre, bs, xs, rfl, ⟨⟨hG4.owns.1, hG4.owns.2.imp id ?_⟩, hG4.row, hG4.nodup, fun b hb => ⟨by have := (hG4.near b hb).1; omega, (hG4.near b hb).2⟩⟩, ?_, hP.out.2.1, by decide, by decide, HCN.out,
            ((((hM.out.cur.later (hg _ _ _) hl).later (hg _ _ _) hl).later (hg _ _ _) hl).later (hg _ _ _) hl),
            grown_join (grown_join (grown_join (grown_join hM.out.grown (hg _ _ _) hj) (hg _ _ _) hj) (hg _ _ _) hj) (hg _ _ _) hj⟩
          · rintro ⟨g', cap', cur, e, hB, r⟩
            exact ⟨g', cap', cur, e, by omega, r⟩
          · have h1 := hP.out.2.2
            have h2 := HCA.out
            exact Nat.le_trans h1 (Nat.mul_le_mul_right _ h2)
  · cases isp
    · have hdz : ¬ d < 2 := hd2
      have hkk : xk < m := hxk
      have hkz : ((xk : Int) : Int) < (m : Int) := by omega
      obtain ⟨c, hck⟩ : ∃ c, T.cons[xk]? = some c := ⟨_, List.getElem?_eq_getElem (by rw [HM.out]; exact hkk)⟩
      obtain ⟨q, cq, hcf⟩ := HCON5.out xk c hck
      obtain ⟨hcn, hca, hdraw⟩ := HK.out xk c hck (fun h => absurd h hd2)
      have HDR := Lib.hid hdraw
      have hn5 : w5.cell? ⟨g, xk * 2, none⟩ = some (.string c.name) := hcf.name
      have hal : Below w5.heap.size w5 (w5.alloc (.cells #[.int .i64 3, .int .i64 0, .string c.name, .slice none 0 0] 26)) := (Below.refl _ _).alloc (Nat.le_refl _) _
      have hvb := heap_at_new w5 (.cells #[.int .i64 3, .int .i64 0, .string c.name, .slice none 0 0] 26)
      have hs6 : (w5.alloc (.cells #[.int .i64 3, .int .i64 0, .string c.name, .slice none 0 0] 26)).heap.size = w5.heap.size + 1 := Array.size_push _
      obtain ⟨w6, hw6⟩ : ∃ w6, w6 = w5.alloc (.cells #[.int .i64 3, .int .i64 0, .string c.name, .slice none 0 0] 26) := ⟨_, rfl⟩
      rw [← hw6] at hal hvb hs6
      have hbt : w.heap.size < w3.heap.size ∧ w3.heap.size < w6.heap.size := by have := HZ2.out; have := HZ3.out; have := HZ5.out; omega
      have hbv : w.heap.size < w5.heap.size ∧ w5.heap.size < w6.heap.size := by have := HZ2.out; have := HZ3.out; have := HZ5.out; omega
      have hS : ∀ b, Came w2 w3 b → N < b ∧ b < w6.heap.size := fun b hb => by have := hb.1; have := hb.2; have := HNW.out; have := HZ2.out; have := HZ5.out; omega
      have HMEM : Hid (DrawMem N w w6 (Came w2 w3) T g m cap xk q cq c w3.heap.size w5.heap.size none 0 0 w6) :=
        ⟨HR5.out.below hal, (hal.block _ (by have := HZ5.out; omega)).trans HTB5.out, hvb, hcf.keep (fun b hb => hal.block b (by have := hb.2; have := HZ5.out; omega)), HC5.out.later (grown_of_below hal) (fun g e => by cases e), grown_join HG5.out (grown_of_below hal) (fun g e => by cases e), Nat.le_refl _⟩
      have HBT := Lib.hid hbt
      have HBV := Lib.hid hbv
      have HSS := Lib.hid hS
      have HW6 := Lib.hid hw6
      have HCN := Lib.hid hcn
      generalize hcl : c.args.length = nl at *
      have HCA := Lib.hid hca
      have hnl2 : nl ≤ 2 := hca
      have HCL := Lib.hid hcl
      clear hal hvb hs6 hw6 hbt hbv hS hcf hck hdraw HCON5 hcn hcl HC5 HG5 HR5 HTB5
      go_wp2
      rw [← HW6.out]
      clear HW6 hn5 tb0 tb1
      go_loopw [11] (fun i wr => ∃ (j : Nat) (pre : Trees) (a : Option Addr) (ca : Nat) (bs : List Nat) (xs : List Value), i = .int .i64 j ∧ j ≤ nl ∧ Hid (pre.length = j ∧ pre.tame ∧ pre.count ≤ j * (1 + C)) ∧ Hid (GrowV wr w6.heap.size (.slice a j ca) pre bs xs) ∧ Hid (DrawMem N w w6 (Came w2 w3) T g m cap xk q cq c w3.heap.size w5.heap.size a j ca wr)) (fun i _ => nl - (intOf i).toNat)
      case atStart => exact ⟨0, .nil, none, 0, [], [], rfl, Nat.zero_le _, ⟨rfl, trivial, Nat.zero_le _⟩, GrowV.nil _ _, HMEM⟩
      case round =>
        obtain ⟨j, pre, a, ca, bs, xs, rfl, hj, hP, hG, hM⟩ := hrel
        obtain ⟨tb0, tb1, _⟩ := two_cells hM.out.tbox
        have ha0 : wr.cell? ⟨g, xk * 2 + 1, none⟩ = some (.slice q c.args.length cq) := hM.out.con.args
        rw [HCL.out] at ha0
        by_cases hlt : j < nl
        · have hj2 : j < c.args.length := by rw [HCL.out]; exact hlt
          obtain ⟨b, hqb, hSb, hcb⟩ := hM.out.con.each j hj2
          subst hqb
          have hx := List.getElem_mem hj2
          generalize hxe : c.args[j] = x at hcb hx
          have hcall := HDR.out x hx wr.drew (hM.out.cur.later ⟨rfl, rfl, rfl, Nat.le_refl _, fun _ _ _ => rfl⟩ (fun g (e : none = some g) => by cases e))
          have hwp : IntKind.i64.wrap (d - 1) = d - 1 := by rw [IntKind.wrap_i64]; omega
          rw [← hwp] at hcall
          have HCALL := Lib.hid hcall
          clear hcall hwp
          obtain ⟨v0, v1, v2, v3, f0, f1, f2, f3⟩ := four_cells hM.out.vbox
          have hbS := HSS.out b hSb
          have hgS := HSS.out g hM.out.con.mine
          have HBS := Lib.hid hbS
          have HGS := Lib.hid hgS
          clear hSb hx hxe hbS hgS v0 v1 v2 f0 f1 f2 hj2
          go_wp2
          go_region_law (first
            | (go_simp; go_at_call 57; with_reducible refine HCALL.out.mono ?_
               rintro e w7 ⟨kk7, nn7, tt7, v7, F7, bs7, xs7, rfl, hg7, hcn7, htm7, hk7, hnn7, htt7, hs7⟩
               obtain ⟨a7, ca7, rfl⟩ := hg7.form
               have hgr : wr.grownBy w7 (some N) := ⟨hs7.2.os, hs7.2.tape, hs7.2.output, hs7.2.size, hs7.2.block⟩
               have hM7 := hM.out.keep hs7.1 hgr (fun b e => by injection e with e; exact .inl e.symm) HNW.out HBT.out HBV.out HSS.out
               have HM7 := Lib.hid hM7
               have hal7 : Below w7.heap.size w7 (w7.alloc (.cells #[.int .i64 kk7, .int .i64 nn7, .string tt7, .slice a7 F7.length ca7] 26)) := (Below.refl _ _).alloc (Nat.le_refl _) _
               have hM8 := hM7.keep (hs7.1.later (grown_of_below hal7) (fun g e => by cases e)) (grown_of_below hal7) (fun b e => by cases e) HNW.out HBT.out HBV.out HSS.out
               have HM8 := Lib.hid hM8
               have hNw6 : N < w6.heap.size := by have := HNW.out; have := HBT.out; omega
               have HG7 := Lib.hid ((hG.out.grown hgr hNw6).below hal7).owns
               have HX7 : Hid (GrowV w7 wr.heap.size (.slice a7 F7.length ca7) F7 bs7 xs7 ∧ F7.count ≤ C ∧ F7.tame ∧ (0 ≤ kk7 ∧ kk7 ≤ 9) ∧ (-1000000000000 ≤ nn7 ∧ nn7 ≤ 1000000000000) ∧ tt7.size ≤ 16 ∧ wr.grownBy w7 (some N)) := ⟨hg7, hcn7, htm7, hk7, hnn7, htt7, hgr⟩
               obtain ⟨_, _, _, z7, _, _, _, y7⟩ := four_cells hM7.vbox
               obtain ⟨_, _, _, z8, _, _, _, y8⟩ := four_cells hM8.vbox
               obtain ⟨s7, r7, _⟩ := two_cells hM7.tbox
               obtain ⟨s8, r8, _⟩ := two_cells hM8.tbox
               have q7 : w7.cell? ⟨g, xk * 2 + 1, none⟩ = some (.slice (some ⟨b, 0, none⟩) c.args.length cq) := hM7.con.args
               have q8 : (w7.alloc (.cells #[.int .i64 kk7, .int .i64 nn7, .string tt7, .slice a7 F7.length ca7] 26)).cell? ⟨g, xk * 2 + 1, none⟩ = some (.slice (some ⟨b, 0, none⟩) c.args.length cq) := hM8.con.args
               rw [HCL.out] at q7 q8
               have HAL := Lib.hid hal7
               clear hgr hM7 hM8 hal7 hg7 hcn7 htm7 hk7 hnn7 htt7 hs7 hNw6)
            | (refine step_append_lies _ rfl (.tmp 63) (.tmp 77) 24 rfl w6.heap.size 26 i0 (.agg #[.int .i64 0, .int .i64 0, .string ⟨#[]⟩, .slice none 0 0]) 4 56 Tryd.underlying24 hi hz0 hz1 hz2 rfl (by decide) (.slice a j ca) pre.length xs (by simp [Act.eval]) HG7.out ⟨w7.heap.size, 0, none⟩ 1 1 [.int .i64 kk7, .int .i64 nn7, .string tt7, .slice a7 F7.length ca7] (by simp [Act.eval]) rfl (grow_four _ _ _ _ _ _) (grow_one _ _ _ _ _ _) (by decide) (by rw [hP.out.1]; unfold maxLen; have := HCA.out; omega) (by rw [hP.out.1]; have := HCA.out; omega) (by have := HM8.out.size; exact this) (w7.heap.size + 1) (by simp) ?_
               intro g9 cap9 w9 hown hgrow hat hlt9
               obtain ⟨cs7, ho7, hnd7, hfr7⟩ := HX7.out.1.own
               have hNw6 : N < w6.heap.size := by have := HNW.out; have := HBT.out; omega
               have hGM := GrowV.moreN (w := wr) (w1 := w7) hG.out hM.out.size HX7.out.2.2.2.2.2.2 hNw6 ho7 hnd7 hfr7 HAL.out hown hgrow (by rcases hat with h | h; exact .inl h; exact .inr (by simp [h]))
               have hfar := hG.out.far
               have hfar' : ∀ b, (Value.slice a j ca).ownBlock = some b → b = N ∨ w6.heap.size ≤ b := fun b e => .inr (hfar b e)
               have hM9 := HM8.out.keep (HM8.out.cur.later hgrow (fun g e => by have := hfar g e; omega)) hgrow hfar' HNW.out HBT.out HBV.out HSS.out
               rw [hP.out.1] at hGM
               have HGM := Lib.hid hGM
               have HM9 := Lib.hid hM9
               obtain ⟨_, _, _, z9, _, _, _, y9⟩ := four_cells hM9.vbox
               obtain ⟨s9, r9, _⟩ := two_cells hM9.tbox
               have q9 : w9.cell? ⟨g, xk * 2 + 1, none⟩ = some (.slice (some ⟨b, 0, none⟩) c.args.length cq) := hM9.con.args
               rw [HCL.out] at q9
               rw [hP.out.1]
               clear hGM hM9 hfar hfar' hown hgrow hat hlt9 ho7 hnd7 hfr7 hNw6))
          all_goals
            have HP9 : Hid ((pre.snoc kk7 nn7 tt7 F7).length = j + 1 ∧ (pre.snoc kk7 nn7 tt7 F7).tame ∧ (pre.snoc kk7 nn7 tt7 F7).count ≤ (j + 1) * (1 + C)) := by
              refine ⟨by rw [Trees.snoc_length, hP.out.1], Trees.tame_snoc HX7.out.2.2.2.1 HX7.out.2.2.2.2.1 HX7.out.2.2.2.2.2.1 HX7.out.2.2.1 pre hP.out.2.1, ?_⟩
              rw [Trees.snoc_count, Nat.add_mul, Nat.one_mul]
              have := hP.out.2.2
              have := HX7.out.2.1
              omega
            clear HG7 HX7 HAL HM7 HM8 hG hM hP HCALL
            go_wp2
            go_roundw
            case rel =>
              have hbv9 := HBV.out
              have hmem : DrawMem N w w6 (Came w2 w3) T g m cap xk (some ⟨b, 0, none⟩) cq c w3.heap.size w5.heap.size (some ⟨g9, 0, none⟩) (j + 1) cap9 (w9.setCell ⟨w5.heap.size, 3, none⟩ (.slice (some ⟨g9, 0, none⟩) (j + 1) cap9)) := by
                have hne : ∀ b, b ≠ w5.heap.size → (w9.setCell ⟨w5.heap.size, 3, none⟩ (.slice (some ⟨g9, 0, none⟩) (j + 1) cap9)).heap[b]? = w9.heap[b]? := fun b hb => Below.heap_setCell _ _ _ _ hb
                have hgs : w9.grownBy (w9.setCell ⟨w5.heap.size, 3, none⟩ (.slice (some ⟨g9, 0, none⟩) (j + 1) cap9)) (some w5.heap.size) := ⟨rfl, rfl, rfl, by simp [World.setCell], fun b _ e => hne b (fun e2 => e (by rw [e2]))⟩
                exact ⟨(hne _ (by omega)).trans HM9.out.res, (hne _ (by have := HZ5.out; omega)).trans HM9.out.tbox, (four_set HM9.out.vbox _).2.2.2, HM9.out.con.keep (fun b hb => hne b (by have := hb.2; have := HZ5.out; omega)), HM9.out.cur.later hgs (fun g e => by injection e with e; have := HNW.out; omega), grown_join HM9.out.grown hgs (fun g e => by injection e with e; right; omega), by simpa [World.setCell] using HM9.out.size⟩
              exact ⟨j + 1, pre.snoc kk7 nn7 tt7 F7, some ⟨g9, 0, none⟩, cap9, _, _, by go_num, hlt, HP9, HGM.out.aside _ _ _ (by omega), hmem⟩
            case measure => simp [intOf]; omega
        · obtain rfl : j = nl := by omega
          obtain ⟨v0, v1, v2, v3⟩ := hM.out.vbox.cells
          obtain ⟨x0, x1, x2, x3, f0, f1, f2, f3⟩ := four_cells hM.out.res
          go_wp2
          refine bodyPost_ret (results_cell_row rfl _ _ w.heap.size _ _ _ _ rfl (four_set (four_set (four_set (four_set hM.out.res _).1 _).2.1 _).2.2.1 _).2.2.2 Tryd.underlying26 rfl (by kernel_rfl)) rfl ?_
          have hg : ∀ (W : World) (o : Nat) (u : Value), W.grownBy (W.setCell ⟨w.heap.size, o, none⟩ u) (some w.heap.size) := fun W o u => grown_set W w.heap.size o u
          have hl : ∀ g, some w.heap.size = some g → N < g := fun g e => by injection e with e; have := HNW.out; omega
          have hj : ∀ g, some w.heap.size = some g → g = N ∨ w.heap.size ≤ g := fun g e => by injection e with e; omega
          have hw6 : w.heap.size < w6.heap.size := by have := HBT.out; omega
          have hG4 := (((hG.out.aside w.heap.size 0 (.int .i64 3) hw6).aside w.heap.size 1 (.int .i64 0) hw6).aside w.heap.size 2 (.string c.name) hw6).aside w.heap.size 3 (.slice a j ca) hw6
          refine ⟨3, 0, c.name, _, pre, bs, xs, rfl, ⟨⟨hG4.owns.1, hG4.owns.2.imp id ?_⟩, hG4.row, hG4.nodup, fun b hb => ⟨by have := (hG4.near b hb).1; omega, (hG4.near b hb).2⟩⟩, ?_, hP.out.2.1, by decide, by decide, HCN.out,
            ((((hM.out.cur.later (hg _ _ _) hl).later (hg _ _ _) hl).later (hg _ _ _) hl).later (hg _ _ _) hl),
            grown_join (grown_join (grown_join (grown_join hM.out.grown (hg _ _ _) hj) (hg _ _ _) hj) (hg _ _ _) hj) (hg _ _ _) hj⟩
          · rintro ⟨g', cap', cur, e, hB, r⟩
            exact ⟨g', cap', cur, e, by omega, r⟩
          · have h1 := hP.out.2.2
            have h2 := HCA.out
            exact Nat.le_trans h1 (Nat.mul_le_mul_right _ h2)
    · have hdz : ¬ d < 2 := hd2
      have hkk : xk < m := hxk
      have hkz : ((xk : Int) : Int) < (m : Int) := by omega
      obtain ⟨c, hck⟩ : ∃ c, T.cons[xk]? = some c := ⟨_, List.getElem?_eq_getElem (by rw [HM.out]; exact hkk)⟩
      obtain ⟨q, cq, hcf⟩ := HCON5.out xk c hck
      obtain ⟨hcn, hca, hdraw⟩ := HK.out xk c hck (fun h => absurd h hd2)
      have HDR := Lib.hid hdraw
      have hn5 : w5.cell? ⟨g, xk * 2, none⟩ = some (.string c.name) := hcf.name
      have hal : Below w5.heap.size w5 (w5.alloc (.cells #[.int .i64 3, .int .i64 0, .string c.name, .slice none 0 0] 26)) := (Below.refl _ _).alloc (Nat.le_refl _) _
      have hvb := heap_at_new w5 (.cells #[.int .i64 3, .int .i64 0, .string c.name, .slice none 0 0] 26)
      have hs6 : (w5.alloc (.cells #[.int .i64 3, .int .i64 0, .string c.name, .slice none 0 0] 26)).heap.size = w5.heap.size + 1 := Array.size_push _
      obtain ⟨w6, hw6⟩ : ∃ w6, w6 = w5.alloc (.cells #[.int .i64 3, .int .i64 0, .string c.name, .slice none 0 0] 26) := ⟨_, rfl⟩
      rw [← hw6] at hal hvb hs6
      have hbt : w.heap.size < w3.heap.size ∧ w3.heap.size < w6.heap.size := by have := HZ2.out; have := HZ3.out; have := HZ5.out; omega
      have hbv : w.heap.size < w5.heap.size ∧ w5.heap.size < w6.heap.size := by have := HZ2.out; have := HZ3.out; have := HZ5.out; omega
      have hS : ∀ b, Came w2 w3 b → N < b ∧ b < w6.heap.size := fun b hb => by have := hb.1; have := hb.2; have := HNW.out; have := HZ2.out; have := HZ5.out; omega
      have HMEM : Hid (DrawMem N w w6 (Came w2 w3) T g m cap xk q cq c w3.heap.size w5.heap.size none 0 0 w6) :=
        ⟨HR5.out.below hal, (hal.block _ (by have := HZ5.out; omega)).trans HTB5.out, hvb, hcf.keep (fun b hb => hal.block b (by have := hb.2; have := HZ5.out; omega)), HC5.out.later (grown_of_below hal) (fun g e => by cases e), grown_join HG5.out (grown_of_below hal) (fun g e => by cases e), Nat.le_refl _⟩
      have HBT := Lib.hid hbt
      have HBV := Lib.hid hbv
      have HSS := Lib.hid hS
      have HW6 := Lib.hid hw6
      have HCN := Lib.hid hcn
      generalize hcl : c.args.length = nl at *
      have HCA := Lib.hid hca
      have hnl2 : nl ≤ 2 := hca
      have HCL := Lib.hid hcl
      clear hal hvb hs6 hw6 hbt hbv hS hcf hck hdraw HCON5 hcn hcl HC5 HG5 HR5 HTB5
      go_wp2
      rw [← HW6.out]
      clear HW6 hn5 tb0 tb1
      go_loopw [11] (fun i wr => ∃ (j : Nat) (pre : Trees) (a : Option Addr) (ca : Nat) (bs : List Nat) (xs : List Value), i = .int .i64 j ∧ j ≤ nl ∧ Hid (pre.length = j ∧ pre.tame ∧ pre.count ≤ j * (1 + C)) ∧ Hid (GrowV wr w6.heap.size (.slice a j ca) pre bs xs) ∧ Hid (DrawMem N w w6 (Came w2 w3) T g m cap xk q cq c w3.heap.size w5.heap.size a j ca wr)) (fun i _ => nl - (intOf i).toNat)
      case atStart => exact ⟨0, .nil, none, 0, [], [], rfl, Nat.zero_le _, ⟨rfl, trivial, Nat.zero_le _⟩, GrowV.nil _ _, HMEM⟩
      case round =>
        obtain ⟨j, pre, a, ca, bs, xs, rfl, hj, hP, hG, hM⟩ := hrel
        obtain ⟨tb0, tb1, _⟩ := two_cells hM.out.tbox
        have ha0 : wr.cell? ⟨g, xk * 2 + 1, none⟩ = some (.slice q c.args.length cq) := hM.out.con.args
        rw [HCL.out] at ha0
        by_cases hlt : j < nl
        · have hj2 : j < c.args.length := by rw [HCL.out]; exact hlt
          obtain ⟨b, hqb, hSb, hcb⟩ := hM.out.con.each j hj2
          subst hqb
          have hx := List.getElem_mem hj2
          generalize hxe : c.args[j] = x at hcb hx
          have hcall := HDR.out x hx wr.drew (hM.out.cur.later ⟨rfl, rfl, rfl, Nat.le_refl _, fun _ _ _ => rfl⟩ (fun g (e : none = some g) => by cases e))
          have hwp : IntKind.i64.wrap (d - 1) = d - 1 := by rw [IntKind.wrap_i64]; omega
          rw [← hwp] at hcall
          have HCALL := Lib.hid hcall
          clear hcall hwp
          obtain ⟨v0, v1, v2, v3, f0, f1, f2, f3⟩ := four_cells hM.out.vbox
          have hbS := HSS.out b hSb
          have hgS := HSS.out g hM.out.con.mine
          have HBS := Lib.hid hbS
          have HGS := Lib.hid hgS
          clear hSb hx hxe hbS hgS v0 v1 v2 f0 f1 f2 hj2
          go_wp2
          go_region_law (first
            | (go_simp; go_at_call 57; with_reducible refine HCALL.out.mono ?_
               rintro e w7 ⟨kk7, nn7, tt7, v7, F7, bs7, xs7, rfl, hg7, hcn7, htm7, hk7, hnn7, htt7, hs7⟩
               obtain ⟨a7, ca7, rfl⟩ := hg7.form
               have hgr : wr.grownBy w7 (some N) := ⟨hs7.2.os, hs7.2.tape, hs7.2.output, hs7.2.size, hs7.2.block⟩
               have hM7 := hM.out.keep hs7.1 hgr (fun b e => by injection e with e; exact .inl e.symm) HNW.out HBT.out HBV.out HSS.out
               have HM7 := Lib.hid hM7
               have hal7 : Below w7.heap.size w7 (w7.alloc (.cells #[.int .i64 kk7, .int .i64 nn7, .string tt7, .slice a7 F7.length ca7] 26)) := (Below.refl _ _).alloc (Nat.le_refl _) _
               have hM8 := hM7.keep (hs7.1.later (grown_of_below hal7) (fun g e => by cases e)) (grown_of_below hal7) (fun b e => by cases e) HNW.out HBT.out HBV.out HSS.out
               have HM8 := Lib.hid hM8
               have hNw6 : N < w6.heap.size := by have := HNW.out; have := HBT.out; omega
               have HG7 := Lib.hid ((hG.out.grown hgr hNw6).below hal7).owns
               have HX7 : Hid (GrowV w7 wr.heap.size (.slice a7 F7.length ca7) F7 bs7 xs7 ∧ F7.count ≤ C ∧ F7.tame ∧ (0 ≤ kk7 ∧ kk7 ≤ 9) ∧ (-1000000000000 ≤ nn7 ∧ nn7 ≤ 1000000000000) ∧ tt7.size ≤ 16 ∧ wr.grownBy w7 (some N)) := ⟨hg7, hcn7, htm7, hk7, hnn7, htt7, hgr⟩
               obtain ⟨_, _, _, z7, _, _, _, y7⟩ := four_cells hM7.vbox
               obtain ⟨_, _, _, z8, _, _, _, y8⟩ := four_cells hM8.vbox
               obtain ⟨s7, r7, _⟩ := two_cells hM7.tbox
               obtain ⟨s8, r8, _⟩ := two_cells hM8.tbox
               have q7 : w7.cell? ⟨g, xk * 2 + 1, none⟩ = some (.slice (some ⟨b, 0, none⟩) c.args.length cq) := hM7.con.args
               have q8 : (w7.alloc (.cells #[.int .i64 kk7, .int .i64 nn7, .string tt7, .slice a7 F7.length ca7] 26)).cell? ⟨g, xk * 2 + 1, none⟩ = some (.slice (some ⟨b, 0, none⟩) c.args.length cq) := hM8.con.args
               rw [HCL.out] at q7 q8
               have HAL := Lib.hid hal7
               clear hgr hM7 hM8 hal7 hg7 hcn7 htm7 hk7 hnn7 htt7 hs7 hNw6)
            | (refine step_append_lies _ rfl (.tmp 63) (.tmp 77) 24 rfl w6.heap.size 26 i0 (.agg #[.int .i64 0, .int .i64 0, .string ⟨#[]⟩, .slice none 0 0]) 4 56 Tryd.underlying24 hi hz0 hz1 hz2 rfl (by decide) (.slice a j ca) pre.length xs (by simp [Act.eval]) HG7.out ⟨w7.heap.size, 0, none⟩ 1 1 [.int .i64 kk7, .int .i64 nn7, .string tt7, .slice a7 F7.length ca7] (by simp [Act.eval]) rfl (grow_four _ _ _ _ _ _) (grow_one _ _ _ _ _ _) (by decide) (by rw [hP.out.1]; unfold maxLen; have := HCA.out; omega) (by rw [hP.out.1]; have := HCA.out; omega) (by have := HM8.out.size; exact this) (w7.heap.size + 1) (by simp) ?_
               intro g9 cap9 w9 hown hgrow hat hlt9
               obtain ⟨cs7, ho7, hnd7, hfr7⟩ := HX7.out.1.own
               have hNw6 : N < w6.heap.size := by have := HNW.out; have := HBT.out; omega
               have hGM := GrowV.moreN (w := wr) (w1 := w7) hG.out hM.out.size HX7.out.2.2.2.2.2.2 hNw6 ho7 hnd7 hfr7 HAL.out hown hgrow (by rcases hat with h | h; exact .inl h; exact .inr (by simp [h]))
               have hfar := hG.out.far
               have hfar' : ∀ b, (Value.slice a j ca).ownBlock = some b → b = N ∨ w6.heap.size ≤ b := fun b e => .inr (hfar b e)
               have hM9 := HM8.out.keep (HM8.out.cur.later hgrow (fun g e => by have := hfar g e; omega)) hgrow hfar' HNW.out HBT.out HBV.out HSS.out
               rw [hP.out.1] at hGM
               have HGM := Lib.hid hGM
               have HM9 := Lib.hid hM9
               obtain ⟨_, _, _, z9, _, _, _, y9⟩ := four_cells hM9.vbox
               obtain ⟨s9, r9, _⟩ := two_cells hM9.tbox
               have q9 : w9.cell? ⟨g, xk * 2 + 1, none⟩ = some (.slice (some ⟨b, 0, none⟩) c.args.length cq) := hM9.con.args
               rw [HCL.out] at q9
               rw [hP.out.1]
               clear hGM hM9 hfar hfar' hown hgrow hat hlt9 ho7 hnd7 hfr7 hNw6))
          all_goals
            have HP9 : Hid ((pre.snoc kk7 nn7 tt7 F7).length = j + 1 ∧ (pre.snoc kk7 nn7 tt7 F7).tame ∧ (pre.snoc kk7 nn7 tt7 F7).count ≤ (j + 1) * (1 + C)) := by
              refine ⟨by rw [Trees.snoc_length, hP.out.1], Trees.tame_snoc HX7.out.2.2.2.1 HX7.out.2.2.2.2.1 HX7.out.2.2.2.2.2.1 HX7.out.2.2.1 pre hP.out.2.1, ?_⟩
              rw [Trees.snoc_count, Nat.add_mul, Nat.one_mul]
              have := hP.out.2.2
              have := HX7.out.2.1
              omega
            clear HG7 HX7 HAL HM7 HM8 hG hM hP HCALL
            go_wp2
            go_roundw
            case rel =>
              have hbv9 := HBV.out
              have hmem : DrawMem N w w6 (Came w2 w3) T g m cap xk (some ⟨b, 0, none⟩) cq c w3.heap.size w5.heap.size (some ⟨g9, 0, none⟩) (j + 1) cap9 (w9.setCell ⟨w5.heap.size, 3, none⟩ (.slice (some ⟨g9, 0, none⟩) (j + 1) cap9)) := by
                have hne : ∀ b, b ≠ w5.heap.size → (w9.setCell ⟨w5.heap.size, 3, none⟩ (.slice (some ⟨g9, 0, none⟩) (j + 1) cap9)).heap[b]? = w9.heap[b]? := fun b hb => Below.heap_setCell _ _ _ _ hb
                have hgs : w9.grownBy (w9.setCell ⟨w5.heap.size, 3, none⟩ (.slice (some ⟨g9, 0, none⟩) (j + 1) cap9)) (some w5.heap.size) := ⟨rfl, rfl, rfl, by simp [World.setCell], fun b _ e => hne b (fun e2 => e (by rw [e2]))⟩
                exact ⟨(hne _ (by omega)).trans HM9.out.res, (hne _ (by have := HZ5.out; omega)).trans HM9.out.tbox, (four_set HM9.out.vbox _).2.2.2, HM9.out.con.keep (fun b hb => hne b (by have := hb.2; have := HZ5.out; omega)), HM9.out.cur.later hgs (fun g e => by injection e with e; have := HNW.out; omega), grown_join HM9.out.grown hgs (fun g e => by injection e with e; right; omega), by simpa [World.setCell] using HM9.out.size⟩
              exact ⟨j + 1, pre.snoc kk7 nn7 tt7 F7, some ⟨g9, 0, none⟩, cap9, _, _, by go_num, hlt, HP9, HGM.out.aside _ _ _ (by omega), hmem⟩
            case measure => simp [intOf]; omega
        · obtain rfl : j = nl := by omega
          obtain ⟨v0, v1, v2, v3⟩ := hM.out.vbox.cells
          obtain ⟨x0, x1, x2, x3, f0, f1, f2, f3⟩ := four_cells hM.out.res
          go_wp2
          refine bodyPost_ret (results_cell_row rfl _ _ w.heap.size _ _ _ _ rfl (four_set (four_set (four_set (four_set hM.out.res _).1 _).2.1 _).2.2.1 _).2.2.2 Tryd.underlying26 rfl (by kernel_rfl)) rfl ?_
          have hg : ∀ (W : World) (o : Nat) (u : Value), W.grownBy (W.setCell ⟨w.heap.size, o, none⟩ u) (some w.heap.size) := fun W o u => grown_set W w.heap.size o u
          have hl : ∀ g, some w.heap.size = some g → N < g := fun g e => by injection e with e; have := HNW.out; omega
          have hj : ∀ g, some w.heap.size = some g → g = N ∨ w.heap.size ≤ g := fun g e => by injection e with e; omega
          have hw6 : w.heap.size < w6.heap.size := by have := HBT.out; omega
          have hG4 := (((hG.out.aside w.heap.size 0 (.int .i64 3) hw6).aside w.heap.size 1 (.int .i64 0) hw6).aside w.heap.size 2 (.string c.name) hw6).aside w.heap.size 3 (.slice a j ca) hw6
          refine ⟨3, 0, c.name, _, pre, bs, xs, rfl, ⟨⟨hG4.owns.1, hG4.owns.2.imp id ?_⟩, hG4.row, hG4.nodup, fun b hb => ⟨by have := (hG4.near b hb).1; omega, (hG4.near b hb).2⟩⟩, ?_, hP.out.2.1, by decide, by decide, HCN.out,
            ((((hM.out.cur.later (hg _ _ _) hl).later (hg _ _ _) hl).later (hg _ _ _) hl).later (hg _ _ _) hl),
            grown_join (grown_join (grown_join (grown_join hM.out.grown (hg _ _ _) hj) (hg _ _ _) hj) (hg _ _ _) hj) (hg _ _ _) hj⟩
          · rintro ⟨g', cap', cur, e, hB, r⟩
            exact ⟨g', cap', cur, e, by omega, r⟩
          · have h1 := hP.out.2.2
            have h2 := HCA.out
            exact Nat.le_trans h1 (Nat.mul_le_mul_right _ h2)
theorem find_list : theType baseSig nmList = some listD := by simp [theType, baseSig, listD, TypeD.named, nmList, ByteArray.toList_eq]
theorem find_hue : theType baseSig nmHue = some hueD := by simp [theType, baseSig, listD, hueD, TypeD.named, nmList, nmHue, ByteArray.toList_eq]
theorem find_pair : theType baseSig nmPair = some pairD := by simp [theType, baseSig, listD, hueD, pairD, TypeD.named, nmList, nmHue, nmPair, ByteArray.toList_eq]
end Go.Proofs.YtcalgjggmgnofaaDoor
