/- What is proved here: a piece of the proof of YtijbaienhaiamaaGreatDoorGuards (ExParts, Three4, ExPartsOf, SeqGo2). Condition: none beyond what each part says. -/
import Derived.Test.YtijbaienhaiamaaGreatDoorGu08
import Derived.Test.YtijbaienhaiamaaGreatDoorGu02
import Derived.Test.YtijbaienhaiamaaGreatDoorGu19
import Derived.Maps.OwnIn
import Derived.OwnWalkIn
import Derived.TacticsInMore
import Derived.LoopNIn
import Derived.LoopIn
import Derived.Sort.LoopGhostIn
import Derived.WalkSmall
import Derived.RangeFuncBox
import Derived.Laws.Rows
import Derived.Shelf.Abstract

/- What is proved here: the program's walk over all expressions in a value (partsOf) yields each node with its depth, before those below it. Condition: the value lies in memory as said, and is small. -/
section
namespace Go.Proofs.YtijbaienhaiamaaGreatDoor.Ex
open Go.RowKit

attribute [local go_sem] Oper.semAt_some

theorem owns_same {w w' : World} {base : Nat} {e : TypeId} {size : Nat} {v : Value} {n : Nat} {xs : List Value} (h : w.ownsRow base e size v n xs) (hk : ∀ g, v.ownBlock = some g → w'.heap[g]? = w.heap[g]?) : w'.ownsRow base e size v n xs := by
  refine ⟨h.1, ?_⟩
  rcases h.2 with h | ⟨g, cap, cur, rfl, hb, hg, h1, h2, h3, h4⟩
  · exact .inl h
  · exact .inr ⟨g, cap, cur, rfl, hb, by rw [hk g rfl]; exact hg, h1, h2, h3, h4⟩
/-- What holds between two rounds of the walk's own loop: the stack (its last row first) is what is still to come. -/
def PartsInv (S : Nat → Prop) (J : Nat → (Nat → Prop) → World → Prop) (B : Nat) (seq : List Part) (gg : Nat) (rv : Value) (w : World) : Prop :=
  ∃ (st : List Trees) (vs : List Value) (i g cap : Nat), rv = .slice (some ⟨g, 0, none⟩) st.length cap ∧ w.ownsRow B 52 1 rv st.length vs.reverse ∧ StackOn S w st vs ∧ J i (fun b => b + 1 = B ∨ b = g) w ∧ i ≤ seq.length ∧ seq.drop i = rem st ∧ work st ≤ gg ∧ gg ≤ 4194304 ∧ B < w.heap.size
theorem first_cell {w : World} {y : Addr} {v : Value} (h : w.cell? (y.add (0 * 4)) = some v) : w.cell? y = some v := h
theorem field_cell {w : World} {y : Addr} {j : Nat} {v : Value} (h : w.cell? (fieldAt y 0 j) = some v) : w.cell? { block := y.block, off := y.off + j } = some v := h

/-- One round more: the row below the node lies on top of what is left of its own. -/
theorem parts_next {n₀ Z m i gk g cq cp2 : Nat} {J : Nat → (Nat → Prop) → World → Prop} {seq : List Part} {st : List Trees} {ar r : Trees} {us : List Value} {y : Addr} {p2 q2 : Option Addr} {wr W3 w5 : World} {old tl v' : Value} {o o1 : Obj}
    (hk : ∀ b, (b < n₀ ∨ b = Z) → W3.heap[b]? = wr.heap[b]?) (hus : StackOn (fun b => b < n₀ ∨ b = Z) wr st us) (har : TreesOn (fun b => b < n₀ ∨ b = Z) wr ar p2 0) (hal : ar.length ≤ cp2) (hr : TreesOn (fun b => b < n₀ ∨ b = Z) wr r (some y) 1)
    (htl : tl = .slice q2 r.length (cq - 1)) (h3 : ∀ w', TreesOn (fun b => b < n₀ ∨ b = Z) w' r (some y) 1 → TreesOn (fun b => b < n₀ ∨ b = Z) w' r q2 0) (hgl : r.length + 1 ≤ cq) (hm : st.length = m)
    (hown : w5.ownsRow (Z + 1) 52 1 v' (m + 1 + 1) ((us.reverse ++ [old]).set m tl ++ [.slice p2 ar.length cp2])) (hgrow : (((W3.setCell ⟨g, m, none⟩ tl).alloc o1).alloc o).grownBy w5 (some g))
    (hg : Z + 1 ≤ g) (hat : v'.ownBlock = some g ∨ v'.ownBlock = some (W3.heap.size + 2)) (hJ : ∀ k M M' A C, (∀ b, M b → Z ≤ b) → Z ≤ A.heap.size → J k M A → Off M A C → (∀ b, M' b → M b ∨ A.heap.size ≤ b) → J k M' C) (hJ3 : J (i + 1) (fun b => b + 1 = Z + 1 ∨ b = g) W3) (hn : n₀ ≤ Z) (hz : Z + 1 < W3.heap.size) (hdr : seq.drop (i + 1) = rem (ar :: r :: st)) (hil : i + 1 ≤ seq.length) (hw : work (ar :: r :: st) + 1 ≤ gk) (hgg : gk ≤ 4194304) :
    PartsInv (fun b => b < n₀ ∨ b = Z) J (Z + 1) seq (gk - 1) v' w5 := by
  have hb : Below (Z + 1) W3 w5 := ((((Below.refl _ _).setCell (p := ⟨g, m, none⟩) hg tl).alloc (by simp [World.setCell]; omega) o1).alloc (by simp [World.setCell]; omega) o).grown hgrow (by simp [World.setCell]; omega) (fun k e => by cases e; exact hg)
  have hk5 : ∀ b, (b < n₀ ∨ b = Z) → w5.heap[b]? = wr.heap[b]? := fun b hb' => by
    rw [hb.block b (by omega)]
    exact hk b hb'
  obtain ⟨g2, c2, rfl⟩ := ownsRow_succ hown
  have hoff : Off (fun b => b + 1 = Z + 1 ∨ b = g) W3 w5 := (((Off.setCell W3 ⟨g, m, none⟩ tl (.inr rfl)).trans (Off.alloc _ o1)).trans (Off.alloc _ o)).trans (Off.grown hgrow (.inr rfl))
  have hg2 : g2 = g ∨ g2 = W3.heap.size + 2 := hat.imp (fun h => by injection h) (fun h => by injection h)
  have hJ5 : J (i + 1) (fun b => b + 1 = Z + 1 ∨ b = g2) w5 := hJ _ _ _ _ _ (fun b hb => by omega) (by omega) hJ3 hoff (fun b hb => by omega)
  have hlen := hus.length
  have e : (us.reverse ++ [old]).set m tl ++ [.slice p2 ar.length cp2] = ((.slice p2 ar.length cp2 : Value) :: tl :: us).reverse := by
    rw [List.set_append_right _ _ (by rw [List.length_reverse]; omega), List.length_reverse]
    have : m - us.length = 0 := by omega
    rw [this]
    simp
  rw [e] at hown
  subst hm
  refine ⟨ar :: r :: st, .slice p2 ar.length cp2 :: tl :: us, i + 1, g2, c2, rfl, hown, ⟨p2, cp2, tl :: us, rfl, hal, TreesOn.keep hk5 _ _ _ har, q2, cq - 1, us, by rw [htl], by omega, ?_, StackOn.keep hk5 _ _ hus⟩, hJ5, hil, hdr, by omega, by omega, ?_⟩
  · exact h3 _ (TreesOn.keep hk5 _ _ _ hr)
  · have := hb.size
    omega

set_option maxHeartbeats 1000000 in
theorem args_of (n : Nat) (k nu : Int) (t : ByteArray) (p : Option Addr) (len cap : Nat) (w : World) :
    CallsIn Fence.wide n Tryz.prog 282 #[.agg #[.int .i64 k, .int .i64 nu, .string t, .slice p len cap]] w fun e w' =>
      e = .returned (.slice p len cap) ∧ w' = w.alloc (.cells #[.int .i64 k, .int .i64 nu, .string t, .slice p len cap] 54) := by
  have h := (four_cells (heap_at_new w (.cells #[.int .i64 k, .int .i64 nu, .string t, .slice p len cap] 54))).2.2.2.1
  refine callsIn_of_wp Tryz.func282 rfl trivial ?_ rfl
  simp only [Tryz.ntmps282, List.size_toArray, List.length_cons, List.length_nil, Nat.reduceAdd, Nat.reduceSub, Array.replicate_succ, Array.replicate_zero, List.push_toArray, List.append_toArray, List.nil_append, List.cons_append]
  gi_wp2
  go_ret
  exact ⟨rfl, rfl⟩

set_option maxHeartbeats 1000000 in
set_option maxRecDepth 100000 in
theorem parts_own (n : Nat) (kd nu : Int) (t : ByteArray) (F : Trees) (p : Option Addr) (cap bx n₀ : Nat) (w : World)
    (hb : w.heap[bx]? = some (.cells #[.int .i64 kd, .int .i64 nu, .string t, .slice p F.length cap] 54 (0, 0))) (hx : TreesOn (fun b => b < n₀) w F p 0) (hn : n₀ ≤ w.heap.size) (hsz : F.count ≤ 1048576) (hcap : F.length ≤ cap) :
    SeqOwn Fence.wide n Tryz.prog 154 #[.pointer (some ⟨bx, 0, none⟩)] (fun x : PartX => #[.int .i64 (x.d : Int), x.val]) PartX.key n₀ ((1, kd, nu, t, F.length) :: F.pre 2) w := by
  intro l J Jx W hW hJ hJx hY h0
  have hbl : bx < w.heap.size := (Array.getElem?_eq_some_iff.1 hb).1
  have hb1 := (hW.block bx hbl).trans hb
  obtain ⟨c0, c1, c2, c3, _⟩ := four_cells hb1
  have hws := hW.size
  have hmeth : ∀ (w : World) k n t p l c, (method 401 54 (.agg #[.int .i64 k, .int .i64 n, .string t, .slice p l c]) "loop.example/g00519/impl.args").run Tryz.prog w = .ok (282, .agg #[.int .i64 k, .int .i64 n, .string t, .slice p l c]) w := fun _ _ _ _ _ _ _ => by kernel_rfl
  have hi : (Tryz.prog.info? 52).map (fun i => (i.zero, i.size, i.bytes)) = some (some (.slice none 0 0), 1, 24) := by kernel_rfl
  obtain ⟨i0, hi, hz0, hz1, hz2⟩ := info_parts hi
  obtain ⟨W1, hW1⟩ : ∃ W1, W1 = (W.alloc (.cells #[.int .i64 kd, .int .i64 nu, .string t, .slice p F.length cap] 54)).alloc (.cells #[.slice (some ⟨W.heap.size, 0, none⟩) 1 1] 52) := ⟨_, rfl⟩
  have hI : PartsInv (fun b => b < n₀ ∨ b = W.heap.size) J (W.heap.size + 1) ((1, kd, nu, t, F.length) :: F.pre 2) (work [.cons kd nu t F .nil]) (.slice (some ⟨W.heap.size + 1, 0, none⟩) 1 1) W1 := by
    have hs1 : (W.alloc (.cells #[.int .i64 kd, .int .i64 nu, .string t, .slice p F.length cap] 54)).heap.size = W.heap.size + 1 := Array.size_push _
    have hbw : Below W.heap.size W W1 := by rw [hW1]; exact ((Below.refl _ _).alloc (Nat.le_refl _) _).alloc (by simp) _
    have hl1 : W1.heap[W.heap.size]? = some (.cells #[.int .i64 kd, .int .i64 nu, .string t, .slice p F.length cap] 54 (0, 0)) := by
      rw [hW1, Below.heap_alloc _ _ _ (by omega)]
      exact heap_at_new W _
    obtain ⟨d0, d1, d2, d3, _⟩ := four_cells hl1
    refine ⟨[.cons kd nu t F .nil], [.slice (some ⟨W.heap.size, 0, none⟩) 1 1], 0, W.heap.size + 1, 1, rfl, ?_, ⟨_, 1, [], rfl, Nat.le_refl _, ⟨⟨_, p, cap, rfl, .inr rfl, ?_, ?_, ?_, ?_, hcap, ?_⟩, trivial⟩, rfl⟩, hJ _ _ _ _ _ (fun b hb => hb.elim) (Nat.le_refl _) h0 (Off.of_below hbw) (fun b hb => .inr (by omega)), Nat.zero_le _, ?_, Nat.le_refl _, ?_, ?_⟩
    · have := World.ownsRow_lit (base := W.heap.size + 1) (e := 52) (size := 1) (W.alloc (.cells #[.int .i64 kd, .int .i64 nu, .string t, .slice p F.length cap] 54)) #[.slice (some ⟨W.heap.size, 0, none⟩) 1 1] 1 (by omega) (by unfold maxLen; omega) rfl
      rw [hs1] at this
      rw [hW1]
      exact this
    · exact d0
    · exact d1
    · exact d2
    · exact d3
    · refine TreesOn.wider (fun b hb => .inl hb) _ _ _ (TreesOn.keep (fun b hb => ?_) _ _ _ hx)
      rw [hbw.block b (by omega)]
      exact hW.block b (by omega)
    · simp [rem, Trees.pre]
    · simp [work, Trees.count]; omega
    · rw [hW1]; simp
  have HI := Lib.hid hI
  have HJ := Lib.hid hJ
  have hnW : n₀ ≤ W.heap.size := Nat.le_trans hn hws
  clear hI hb hx hJ h0 hW hsz
  refine callsIn_of_wp Tryz.func154 rfl trivial ?_ rfl
  simp only [Tryz.ntmps154, List.size_toArray, List.length_cons, List.length_nil, Nat.reduceAdd, Nat.reduceSub, Array.replicate_succ, Array.replicate_zero, List.push_toArray, List.append_toArray, List.nil_append, List.cons_append]
  gi_wp2
  rw [← hW1]
  clear hW1 hb1 c0 c1 c2 c3
  gi_loopg [3] (work [.cons kd nu t F .nil]) (fun gg rv wr => Hid (PartsInv (fun b => b < n₀ ∨ b = W.heap.size) J (W.heap.size + 1) ((1, kd, nu, t, F.length) :: F.pre 2) gg rv wr))
  case atStart => exact HI
  case round =>
    obtain ⟨st, vs, i, g, cp, rfl, hown, hst, hJi, hil, hdr, hwk, hgg, hBw⟩ := hrel
    generalize hseq : (1, kd, nu, t, F.length) :: F.pre 2 = seq at *
    have hgB0 : W.heap.size + 1 ≤ g := (hown.lt g rfl).1
    have HOWN := Lib.hid hown
    have HST := Lib.hid hst
    have HJI := Lib.hid hJi
    have HIL := Lib.hid hil
    have HDR := Lib.hid hdr
    have HWK := Lib.hid hwk
    have HGG := Lib.hid hgg
    have HBW := Lib.hid hBw
    have HSEQ := Lib.hid hseq
    have HY := Lib.hid hY
    have HJX := Lib.hid hJx
    have hsl := length_le_work st
    clear hst hJi hil hdr hBw hseq hY hJx HI hn
    cases st with
    | nil =>
      clear hown hwk hgg hsl
      have e0 : i = seq.length := by
        have h1 := HDR.out
        have h2 := HIL.out
        simp only [rem] at h1
        have h3 := congrArg List.length h1
        simp at h3
        omega
      subst e0
      gi_wp2
      go_end0
      have h := HJI.out
      rw [← HSEQ.out] at h
      exact ⟨⟨_, rfl⟩, .inl ⟨_, fun b hb => by have := hgB0; omega, h⟩⟩
    | cons G st =>
      obtain ⟨q, cq, us, rfl, hGl, hG, hus⟩ := HST.out
      have hc : wr.cell? ⟨g, st.length, none⟩ = some (.slice q G.length cq) := by
        rw [hown.cellAt st.length (by simp), List.reverse_cons, List.getElem?_append_right (by simp [hus.length]), List.length_reverse, hus.length, Nat.sub_self]
        rfl
      simp only [List.length_cons] at *
      have hml : st.length ≤ 4194304 := by omega
      have hcap : st.length + 1 ≤ cp := by
        rcases hown.2 with ⟨h, _⟩ | ⟨g', cap', cur, h, _, _, h1, _⟩
        · cases h
        · cases h; exact h1
      clear hown hwk hgg hsl
      cases G with
      | nil =>
        have HO2 : Hid (wr.ownsRow (W.heap.size + 1) 52 1 (.slice (some ⟨g, 0, none⟩) st.length cp) st.length us.reverse) := by
          unfold Hid
          have h := HOWN.out
          rw [List.reverse_cons] at h
          exact ownsRow_pop (by rw [List.length_reverse, hus.length]; omega) h
        have HUS := Lib.hid hus
        have hmc : st.length ≤ cp := by omega
        clear hG hus
        generalize hm : st.length = m at *
        have HM := Lib.hid hm
        clear hm
        gi_wp2
        gi_roundg (gk - 1)
        case rel => exact ⟨st, us, i, g, cp, by rw [HM.out], by rw [HM.out]; exact HO2.out, HUS.out, HJI.out, HIL.out, by rw [HDR.out]; simp [rem, Trees.pre], by have := HWK.out; simp only [work, Trees.count] at this; omega, by have := HGG.out; omega, HBW.out⟩
        case measure => have := HWK.out; simp only [work] at this; omega
      | cons kd2 nu2 t2 ar r =>
        obtain ⟨⟨y, p2, cp2, rfl, hS, h0, h1, h2, h3, hal, har⟩, hr⟩ := hG
        have g0 := first_cell h0
        have g1 := field_cell h1
        have g2 := field_cell h2
        have g3 := field_cell h3
        have hdr := HDR.out
        rw [rem_node] at hdr
        have hil2 : i < seq.length := by
          rcases Nat.lt_or_ge i seq.length with h | h
          · exact h
          · rw [List.drop_eq_nil_of_le h] at hdr; cases hdr
        have hsi : seq[i]? = some (st.length + 1, kd2, nu2, t2, ar.length) := by
          rw [List.drop_eq_getElem_cons hil2] at hdr
          rw [List.getElem?_eq_getElem hil2]
          injection hdr with h1 _
          rw [h1]
        have HDR2 : Hid (seq.drop (i + 1) = rem (ar :: r :: st)) := by
          unfold Hid
          rw [List.drop_eq_getElem_cons hil2] at hdr
          injection hdr
        have HIL2 : Hid (i + 1 ≤ seq.length) := hil2
        have hgB : W.heap.size + 1 ≤ g ∧ g < wr.heap.size := HOWN.out.lt g rfl
        obtain ⟨fn, tmps, assign, body, hy, hR⟩ := HY.out i ⟨st.length + 1, kd2, nu2, t2, p2, ar.length, cp2⟩ (fun b => b + 1 = W.heap.size + 1 ∨ b = g) wr hsi (fun b hb => by have := HBW.out; omega) (by have := HBW.out; omega) HJI.out
        dsimp only [PartX.val] at hy
        have hyg : y.block ≠ g := by rcases hS with h | h <;> omega
        -- what the round keeps
        have hkeep : ∀ W3, ApartI n₀ (fun b => b + 1 = W.heap.size + 1 ∨ b = g) wr W3 → Hid ((∀ b, (b < n₀ ∨ b = W.heap.size) → W3.heap[b]? = wr.heap[b]?) ∧ W3.heap[g]? = wr.heap[g]? ∧ wr.heap.size ≤ W3.heap.size) := fun W3 hA =>
          ⟨fun b hb => hA.block b (by have := HBW.out; omega) (by omega), hA.block g hgB.2 (.inr (.inr rfl)), hA.size⟩
        have HGL : Hid (r.length + 1 ≤ cq) := hGl
        have HUS := Lib.hid hus
        have HAR := Lib.hid har
        have HRR := Lib.hid hr
        have HS := Lib.hid hS
        have HKEEP := Lib.hid hkeep
        have HAL := Lib.hid hal
        have HOWN2 : Hid (wr.ownsRow (W.heap.size + 1) 52 1 (.slice (some ⟨g, 0, none⟩) (st.length + 1) cp) (st.length + 1) ((.slice (some y) (r.length + 1) cq :: us).reverse)) := HOWN
        have hrl : r.length + 1 = (Trees.cons kd2 nu2 t2 ar r).length := rfl
        rw [← hrl] at hc
        have HWK2 : Hid (work (ar :: r :: st) + 1 ≤ gk) := by unfold Hid; rw [work_node]; exact HWK.out
        have HG0 : Hid (wr.cell? y = some (.int .i64 kd2)) := g0
        have HG1 : Hid (wr.cell? { block := y.block, off := y.off + 1 } = some (.int .i64 nu2)) := g1
        have HG2 : Hid (wr.cell? { block := y.block, off := y.off + 2 } = some (.string t2)) := g2
        have HG3 : Hid (wr.cell? { block := y.block, off := y.off + 3 } = some (.slice p2 ar.length cp2)) := g3
        clear har hr hus hS hdr hil2 hsi hrl h0 h1 h2 h3 hkeep hal hGl HDR HIL HWK HST HOWN
        generalize hm : st.length = m at *
        generalize hrn : r.length = rn at *
        generalize han : ar.length = an at *
        have HM := Lib.hid hm
        have HRN := Lib.hid hrn
        have HAN := Lib.hid han
        clear hm hrn han
        push_cast at hy
        gi_wp2
        refine ⟨fun h => (by cases h), hR.mono ?_⟩
        rintro e W3 (⟨rfl, hJ3, hA3⟩ | ⟨rfl, hJx3⟩)
        · obtain ⟨hk1, hk2, hk3⟩ := HKEEP.out W3 hA3
          have hown3 : W3.ownsRow (W.heap.size + 1) 52 1 (.slice (some ⟨g, 0, none⟩) (m + 1) cp) (m + 1) ((.slice (some y) (rn + 1) cq :: us).reverse) := owns_same HOWN2.out (fun b hb => by cases hb; exact hk2)
          have hf3 := hown3.frozenAt m
          have hc3 : W3.cell? ⟨g, m, none⟩ = some (.slice (some y) (rn + 1) cq) := (World.cell?_of_block hk2).trans hc
          have hqq : ∀ (v : Value) (q : Addr) (u : Value), q.block = y.block → wr.cell? q = some u → (W3.setCell ⟨g, m, none⟩ v).cell? q = some u := fun v q u hqy hu =>
            (World.cell?_of_block (a := q) (Below.heap_setCell _ _ _ _ (by rw [hqy]; exact hyg))).trans ((World.cell?_of_block (a := q) (by rw [hqy]; exact hk1 _ HS.out)).trans hu)
          have hq0 : ∀ v, (W3.setCell ⟨g, m, none⟩ v).cell? y = some (.int .i64 kd2) := fun v => hqq v _ _ rfl HG0.out
          have hq1 : ∀ v, (W3.setCell ⟨g, m, none⟩ v).cell? { block := y.block, off := y.off + 1 } = some (.int .i64 nu2) := fun v => hqq v _ _ rfl HG1.out
          have hq2 : ∀ v, (W3.setCell ⟨g, m, none⟩ v).cell? { block := y.block, off := y.off + 2 } = some (.string t2) := fun v => hqq v _ _ rfl HG2.out
          have hq : ∀ v, (W3.setCell ⟨g, m, none⟩ v).cell? { block := y.block, off := y.off + 3 } = some (.slice p2 an cp2) := fun v => hqq v _ _ rfl HG3.out
          have HK1 := Lib.hid hk1
          have HK3 := Lib.hid hk3
          have HJ3 := Lib.hid hJ3
          have HO3 := Lib.hid hown3
          clear hk1 hk2 hk3 hJ3 hown3 hA3 hR hy hqq g0 g1 g2 g3
          by_cases hc1 : cq = 1
          · subst hc1
            have hr1 : rn = 0 := by have := HGL.out; omega
            have hr0 : r.length = 0 := by rw [HRN.out]; exact hr1
            subst hr1
            have hst := (HO3.out.stored m (.slice (some y) 0 0)).1
            have hsz : (W3.setCell ⟨g, m, none⟩ (.slice (some y) 0 0)).heap.size = W3.heap.size := by simp [World.setCell]
            have hD1 : Hid (∀ j u, [Value.slice p2 an cp2][j]? = some u → (((W3.setCell ⟨g, m, none⟩ (.slice (some y) 0 0)).alloc (.cells #[.int .i64 kd2, .int .i64 nu2, .string t2, .slice p2 an cp2] 54)).alloc (.cells #[.slice p2 an cp2] 52)).cell? ((⟨W3.heap.size + 1, 0, none⟩ : Addr).add j) = some u) := by
              have h := cell_one_new ((W3.setCell ⟨g, m, none⟩ (.slice (some y) 0 0)).alloc (.cells #[.int .i64 kd2, .int .i64 nu2, .string t2, .slice p2 an cp2] 54)) (.slice p2 an cp2) 52
              rwa [World.size_alloc, hsz] at h
            have HST3 := Lib.hid hst
            have HSZ := Lib.hid hsz
            clear hst hsz
            gi_wp2_with fail
            refine ⟨trivial, fun h => (by cases h), (args_of _ kd2 nu2 t2 p2 an cp2 _).mono ?_⟩
            rintro e w4 ⟨rfl, rfl⟩
            gi_wp2_with (gi_at_builtin; refine wpListIn_append_own_at _ rfl _ _ 190 rfl (W.heap.size + 1) 52 i0 (.slice none 0 0) 1 24 Tryz.underlying190 hi hz0 hz1 hz2 rfl (by decide) _ _ _ rfl ((HST3.out.alloc _).alloc _) ⟨W3.heap.size + 1, 0, none⟩ 1 1 [.slice p2 an cp2] rfl rfl ?d1 ?d2 ?d3 ?d4 ?d5 ?_)
            case d1 => exact hD1.out
            case d2 => intro u hu; simp at hu; subst hu; rfl
            case d3 => unfold maxLen; omega
            case d4 => omega
            case d5 => have := HBW.out; have := HK3.out; have := HSZ.out; simp; omega
            intro v2 w5 hown5 hgrow5 _ hat5
            have hnext := parts_next (q2 := some y) (cq := 1) (i := i) (gk := gk) (seq := seq) (J := J) (st := st) (ar := ar) (r := r) HK1.out HUS.out HAR.out (by rw [HAN.out]; exact HAL.out) HRR.out (by rw [HRN.out]) (fun w' _ => by cases r with | nil => trivial | cons _ _ _ _ _ => simp [Trees.length] at hr0) (by rw [HRN.out]; exact HGL.out) HM.out (by rw [HAN.out]; exact hown5) hgrow5 hgB.1 (hat5.imp (fun h => h) (fun h => h)) HJ.out HJ3.out hnW (by have := HBW.out; have := HK3.out; omega) HDR2.out HIL2.out HWK2.out HGG.out
            have HN := Lib.hid hnext
            clear hnext hown5 hgrow5 hat5 hD1 HST3 HSZ HO3 hq hf3 hc3
            gi_wp2
            gi_roundg (gk - 1)
            case rel => exact HN
            case measure => have := HWK2.out; omega
          · have hst := (HO3.out.stored m (.slice (some { block := y.block, off := y.off + 4 }) rn (cq - 1))).1
            have hsz : (W3.setCell ⟨g, m, none⟩ (.slice (some { block := y.block, off := y.off + 4 }) rn (cq - 1))).heap.size = W3.heap.size := by simp [World.setCell]
            have hD1 : Hid (∀ j u, [Value.slice p2 an cp2][j]? = some u → (((W3.setCell ⟨g, m, none⟩ (.slice (some { block := y.block, off := y.off + 4 }) rn (cq - 1))).alloc (.cells #[.int .i64 kd2, .int .i64 nu2, .string t2, .slice p2 an cp2] 54)).alloc (.cells #[.slice p2 an cp2] 52)).cell? ((⟨W3.heap.size + 1, 0, none⟩ : Addr).add j) = some u) := by
              have h := cell_one_new ((W3.setCell ⟨g, m, none⟩ (.slice (some { block := y.block, off := y.off + 4 }) rn (cq - 1))).alloc (.cells #[.int .i64 kd2, .int .i64 nu2, .string t2, .slice p2 an cp2] 54)) (.slice p2 an cp2) 52
              rwa [World.size_alloc, hsz] at h
            have HST3 := Lib.hid hst
            have HSZ := Lib.hid hsz
            clear hst hsz
            gi_wp2_with fail
            refine ⟨trivial, fun h => (by cases h), (args_of _ kd2 nu2 t2 p2 an cp2 _).mono ?_⟩
            rintro e w4 ⟨rfl, rfl⟩
            gi_wp2_with (gi_at_builtin; refine wpListIn_append_own_at _ rfl _ _ 190 rfl (W.heap.size + 1) 52 i0 (.slice none 0 0) 1 24 Tryz.underlying190 hi hz0 hz1 hz2 rfl (by decide) _ _ _ rfl ((HST3.out.alloc _).alloc _) ⟨W3.heap.size + 1, 0, none⟩ 1 1 [.slice p2 an cp2] rfl rfl ?d1 ?d2 ?d3 ?d4 ?d5 ?_)
            case d1 => exact hD1.out
            case d2 => intro u hu; simp at hu; subst hu; rfl
            case d3 => unfold maxLen; omega
            case d4 => omega
            case d5 => have := HBW.out; have := HK3.out; have := HSZ.out; simp; omega
            intro v2 w5 hown5 hgrow5 _ hat5
            have hnext := parts_next (q2 := some { block := y.block, off := y.off + 4 }) (cq := cq) (i := i) (gk := gk) (seq := seq) (J := J) (st := st) (ar := ar) (r := r) HK1.out HUS.out HAR.out (by rw [HAN.out]; exact HAL.out) HRR.out (by rw [HRN.out]) (fun w' h => TreesOn.shift y 1 r 0 h (by omega)) (by rw [HRN.out]; exact HGL.out) HM.out (by rw [HAN.out]; exact hown5) hgrow5 hgB.1 (hat5.imp (fun h => h) (fun h => h)) HJ.out HJ3.out hnW (by have := HBW.out; have := HK3.out; omega) HDR2.out HIL2.out HWK2.out HGG.out
            have HN := Lib.hid hnext
            clear hnext hown5 hgrow5 hat5 hD1 HST3 HSZ HO3 hq hf3 hc3
            gi_wp2
            gi_roundg (gk - 1)
            case rel => exact HN
            case measure => have := HWK2.out; omega
        · gi_wp2
          refine bodyPost_ret (results_none rfl _ _ _) rfl ?_
          exact ⟨⟨_, rfl⟩, .inr hJx3⟩

theorem parts_seq (n : Nat) (kd nu : Int) (t : ByteArray) (F : Trees) (p : Option Addr) (cap bx n₀ : Nat) (w : World)
    (hb : w.heap[bx]? = some (.cells #[.int .i64 kd, .int .i64 nu, .string t, .slice p F.length cap] 54 (0, 0))) (hx : TreesOn (fun b => b < n₀) w F p 0) (hn : n₀ ≤ w.heap.size) (hsz : F.count ≤ 1048576) (hcap : F.length ≤ cap) :
    SeqGo Fence.wide n Tryz.prog 154 #[.pointer (some ⟨bx, 0, none⟩)] (fun x : PartX => #[.int .i64 (x.d : Int), x.val]) PartX.key n₀ ((1, kd, nu, t, F.length) :: F.pre 2) w := (parts_own n kd nu t F p cap bx n₀ w hb hx hn hsz hcap).plain
end Go.Proofs.YtijbaienhaiamaaGreatDoor.Ex
end

/- What is proved here: three new blocks. No condition. -/
section
namespace Go.Proofs.YtijbaienhaiamaaGreatDoor
open Go.RowKit

theorem three4 (w : World) (o0 o1 o2 : Obj) : (((w.alloc o0).alloc o1).alloc o2).heap.size = w.heap.size + 3 ∧ (((w.alloc o0).alloc o1).alloc o2).heap[w.heap.size + 1]? = some o1 ∧ (((w.alloc o0).alloc o1).alloc o2).heap[w.heap.size + 1 + 1]? = some o2 ∧ Below w.heap.size w (((w.alloc o0).alloc o1).alloc o2) := by
  have s1 : (w.alloc o0).heap.size = w.heap.size + 1 := Array.size_push _
  have s2 : ((w.alloc o0).alloc o1).heap.size = (w.alloc o0).heap.size + 1 := Array.size_push _
  have s3 : (((w.alloc o0).alloc o1).alloc o2).heap.size = ((w.alloc o0).alloc o1).heap.size + 1 := Array.size_push _
  have e1 := heap_at_new (w.alloc o0) o1
  have e2 := heap_at_new ((w.alloc o0).alloc o1) o2
  rw [s1] at e1
  rw [s2, s1] at e2
  refine ⟨by omega, ?_, e2, (((Below.refl _ _).alloc (Nat.le_refl _) _).alloc (by omega) _).alloc (by omega) _⟩
  rw [Below.heap_alloc _ _ _ (by omega)]
  exact e1
end Go.Proofs.YtijbaienhaiamaaGreatDoor
end

/- What is proved here: the program's partsOf hands back its iterator. No condition. -/
section
namespace Go.Proofs.YtijbaienhaiamaaGreatDoor.Ex
open Go.RowKit Go.Shelf

attribute [local go_sem] Oper.semAt_some

set_option maxHeartbeats 1000000 in
theorem parts_of (n : Nat) (k nu : Int) (t : ByteArray) (p : Option Addr) (len cap : Nat) (w : World) :
    CallsIn Fence.wide n Tryz.prog 97 #[.agg #[.int .i64 k, .int .i64 nu, .string t, .slice p len cap]] w fun e w' =>
      e = .returned (.func (.func 154) #[] #[.pointer (some ⟨w.heap.size, 0, none⟩)]) ∧ w' = w.alloc (.cells #[.int .i64 k, .int .i64 nu, .string t, .slice p len cap] 54) := by
  refine callsIn_of_wp Tryz.func97 rfl trivial ?_ rfl
  simp only [Tryz.ntmps97, List.size_toArray, List.length_cons, List.length_nil, Nat.reduceAdd, Nat.reduceSub, Array.replicate_succ, Array.replicate_zero, List.push_toArray, List.append_toArray, List.nil_append, List.cons_append]
  gi_wp2
  go_ret
  exact ⟨rfl, rfl⟩

theorem one_cell4 {w : World} {b : Nat} {x : Value} {T : TypeId} (h : w.heap[b]? = some (.cells #[x] T (0, 0))) : w.cell? ⟨b, 0, none⟩ = some x ∧ w.frozen? ⟨b, 0, none⟩ = false := by
  refine ⟨?_, ?_⟩ <;> simp [World.cell?, World.frozen?, h]

end Go.Proofs.YtijbaienhaiamaaGreatDoor.Ex
end

/- What is proved here: the law for a loop over an iterator that keeps a state of its own (SeqGo), where the loop's variables lie in memory that each round makes. Condition: the iterator's contract as stated. -/
section
namespace Go.Proofs.YtijbaienhaiamaaGreatDoor
open Go.RowKit

theorem wpIn_rangeFunc_go2 {α κ : Type} {F : Fence} {n : Nat} {P : Program} {g : Operand} {ps : Array Tmp} {assign body : Code} {Q : Exit → Act → World → Prop} {a : Act} {w : World}
    (hro : F.round = none) (h1 : 1 ≤ n) {gf : Nat} {lb : Array Value} (hg : a.eval g = .func (.func gf) #[] lb) (hFg : F.fn gf) (eg : ∀ args w, (callFunc gf args).run P w = .ok (.enter gf args) w)
    {encs : α → Array Value} {key : α → κ} {n₀ : Nat} {seq : List κ} {w0 : World} (hseq : SeqGo F (n - 1) P gf lb encs key n₀ seq w0)
    (hb0 : Below w0.heap.size w0 w) (hn0 : n₀ ≤ w.heap.size) (hps : ∀ x, (encs x).size = ps.size)
    (I : Nat → World → Prop) (Ix : Code → World → Prop) (hI : ∀ k A C, I k A → Below w.heap.size A C → I k C) (hIx : ∀ c A C, Ix c A → Below w.heap.size A C → Ix c C) (h0 : I 0 w) (a₁ : α → Nat → Act) (mid : α → World → World) (hmid : ∀ x W, Below W.heap.size W (mid x W))
    (hassign : ∀ (l : Nat) (x : α) (W : World) (K : Act → World → Prop), K (a₁ x W.heap.size) (mid x W) →
      assign.wpIn (F.inRound l) (n - 1 - 1) P (Exit.then K (fun _ _ _ => False)) { tmps := (ps.zip (encs x)).foldl (fun t (p, v) => t.setIfInBounds p v) a.tmps, defers := [] } W)
    (hbody : ∀ (l k : Nat) (x : α) (W0 W : World), seq[k]? = some (key x) → I k W → w.heap.size + 1 < W0.heap.size → W.heap.size = (mid x W0).heap.size → (∀ b, W0.heap.size ≤ b → W.heap[b]? = (mid x W0).heap[b]?) → body.wpIn (F.inRound l) (n - 1 - 1) P (goPost n₀ w.heap.size I Ix (k + 1) W) (a₁ x W0.heap.size) W)
    (hdone : ∀ (D : Nat) (W : World), w.heap.size ≤ D → I seq.length W → W.heap[D]? = some (.deferred (some [])) → Q .normal { a with defers := { target := .collected D, args := #[] } :: a.defers } W)
    (hstop : ∀ (D : Nat) (c : Code) (W : World), w.heap.size ≤ D → Ix c W → W.heap[D]? = some (.deferred (some [])) → c.wpIn F n P Q { a with defers := { target := .collected D, args := #[] } :: a.defers } W) :
    (Code.rangeFunc g ps assign body).wpIn F n P Q a w := by
  refine wpIn_rangeFunc ?_
  intro fn hfn
  rw [hro]
  obtain ⟨rec, hrec⟩ : ∃ rec : LoopState → Option Code → Loop, rec = fun st pe => { state := st, pending := pe, fn, tmps := a.tmps, params := ps, assign, body, defers := w.heap.size } := ⟨_, rfl⟩
  obtain ⟨W1, hW1⟩ : ∃ W1, (w.alloc (.deferred (some []))).alloc (.loop (rec .ready none)) = W1 := ⟨_, rfl⟩
  have hL1 : W1.heap[w.heap.size + 1]? = some (.loop (rec .ready none)) := by
    rw [← hW1]; have := World.alloc_heap_new (w.alloc (.deferred (some []))) (.loop (rec .ready none)); rwa [World.size_alloc] at this
  have hK1 : W1.heap[w.heap.size]? = some (.deferred (some [])) := by
    rw [← hW1]; exact (Below.heap_alloc _ _ _ (by simp)).trans (World.alloc_heap_new w _)
  have hbw : Below w.heap.size w W1 := by
    rw [← hW1]; exact ((Below.refl _ w).alloc (Nat.le_refl _) _).alloc (by simp) _
  have hsz : W1.heap.size = w.heap.size + 2 := by rw [← hW1]; simp
  have hI1 : I 0 W1 := hI _ _ _ h0 hbw
  have hb1 : Below w0.heap.size w0 W1 := hb0.trans (hbw.mono hb0.size)
  have put : ∀ (W : World) (l : Nat) (o : Obj), w.heap.size ≤ l → Below w.heap.size W (W.putObj l o) := fun W l o h => ⟨rfl, rfl, rfl, by simp, fun k hk => World.putObj_heap_other (by omega)⟩
  refine ⟨w.heap.size + 1, [{ target := .collected w.heap.size, args := #[] }], W1, { target := .fn (.func gf) lb, args := #[.func (.yield (w.heap.size + 1)) #[] #[]] }, W1, gf,
    #[.func (.yield (w.heap.size + 1)) #[] #[]] ++ lb, W1, ?_, ?_, ?_, ?_, fun _ => h1, ?_⟩
  · rw [← hW1, hrec]; exact run_enterLoop_outer _ _ _ _ _
  · simp only [resolve, hg]
    simp [go_sem]
  · intro f' hf'; simp [Target.leads] at hf'; subst hf'; exact hFg
  · simp [invoke, go_sem, eg]
  · refine (hseq (w.heap.size + 1)
      (fun k W => I k W ∧ W.heap[w.heap.size + 1]? = some (.loop (rec .ready none)) ∧ W.heap[w.heap.size]? = some (.deferred (some [])) ∧ w.heap.size ≤ W.heap.size)
      (fun W => ∃ c, Ix c W ∧ W.heap[w.heap.size + 1]? = some (.loop (rec .done (some c))) ∧ W.heap[w.heap.size]? = some (.deferred (some [])))
      W1 hb1
      (fun k A C hs hbl => ⟨hI k A C hs.1 (hbl.mono (by omega)), (hbl.block _ (by omega)).trans hs.2.1, (hbl.block _ (by omega)).trans hs.2.2.1, Nat.le_trans hs.2.2.2 hbl.size⟩)
      (fun A C hs hbl => by
        obtain ⟨c, hc, hl, hk⟩ := hs
        exact ⟨c, hIx c A C hc (hbl.mono (by omega)), (hbl.block _ (by omega)).trans hl, (hbl.block _ (by omega)).trans hk⟩)
      ?_ ⟨hI1, hL1, hK1, by omega⟩).mono ?_
    · -- one round
      rintro k x W hx ⟨hi, hl, hk, hws⟩
      have hlt0 : w.heap.size + 1 < W.heap.size := (Array.getElem?_eq_some_iff.1 hl).1
      have hbm := hmid x W
      have hsm := hbm.size
      have hy := run_yield (P := P) (args := encs x) hl (by rw [hrec]; exact hps x)
      rw [hrec] at hy
      have hlm : (mid x W).heap[w.heap.size + 1]? = some (.loop (rec .ready none)) := (hbm.block _ hlt0).trans hl
      have hkm : (mid x W).heap[w.heap.size]? = some (.deferred (some [])) := (hbm.block _ (by omega)).trans hk
      have him : I k (mid x W) := hI _ _ _ hi (hbm.mono (by omega))
      refine ⟨fn, _, assign, body, hy, roundIn_of_wpIn hfn (hassign _ x W _ ⟨_, run_beginRound hlm (by rw [hrec]), ?_⟩)⟩
      obtain ⟨Wm, hWm⟩ : ∃ Wm, mid x W = Wm := ⟨_, rfl⟩
      rw [hWm] at hbm hsm hlm hkm him ⊢
      have hlt : w.heap.size + 1 < Wm.heap.size := by omega
      have hl2 : (Wm.putObj (w.heap.size + 1) (.loop { rec .ready none with state := .busy })).heap[w.heap.size + 1]? = some (.loop { rec .ready none with state := .busy }) := World.putObj_heap_same hlt
      have hk2 : (Wm.putObj (w.heap.size + 1) (.loop { rec .ready none with state := .busy })).heap[w.heap.size]? = some (.deferred (some [])) := (World.putObj_heap_other (by omega)).trans hkm
      refine wpIn_mono (hbody _ k x W _ hx (hI _ _ _ him (put Wm (w.heap.size + 1) _ (by omega))) hlt0 (by rw [hWm]; simp) (fun b hb => by rw [hWm]; exact World.putObj_heap_other (by omega))) ?_
      have fin : ∀ (jump : Option Code) (W3 : World), Apart n₀ w.heap.size (Wm.putObj (w.heap.size + 1) (.loop { rec .ready none with state := .busy })) W3 →
          (Instr.endRound (w.heap.size + 1) jump).run P W3 = .ok (.bool jump.isNone) (W3.putObj (w.heap.size + 1) (.loop (rec (if jump.isNone then .ready else .done) jump))) ∧
          (W3.putObj (w.heap.size + 1) (.loop (rec (if jump.isNone then .ready else .done) jump))).heap[w.heap.size + 1]? = some (.loop (rec (if jump.isNone then .ready else .done) jump)) ∧
          (W3.putObj (w.heap.size + 1) (.loop (rec (if jump.isNone then .ready else .done) jump))).heap[w.heap.size]? = some (.deferred (some [])) ∧ Wm.heap.size ≤ W3.heap.size := fun jump W3 hk3 => by
        have hs3 := hk3.size
        rw [World.putObj_size] at hs3
        have hl3 := (hk3.block (w.heap.size + 1) (by simp; omega) (.inr (by omega))).trans hl2
        have hkk := (hk3.block w.heap.size (by simp; omega) (.inr (by omega))).trans hk2
        have := run_endRound (P := P) jump hl3
        rw [hrec] at this ⊢
        exact ⟨this, World.putObj_heap_same (by omega), (World.putObj_heap_other (by omega)).trans hkk, hs3⟩
      rintro e a3 W3 hp
      cases e with
      | normal =>
        obtain ⟨hk3, hi3⟩ := hp
        obtain ⟨hr, hl4, hk4, hs3⟩ := fin none W3 hk3
        refine ⟨_, _, hr, .inl ⟨rfl, ⟨hI _ _ _ hi3 (put W3 (w.heap.size + 1) _ (by omega)), hl4, hk4, by simp; omega⟩, ?_⟩⟩
        exact (((Apart.of_below (Apart.refl _ _ W) hbm).trans (Apart.putObj Wm (w.heap.size + 1) _ (by omega) (by omega))).trans (hk3.later (by omega))).trans (Apart.putObj W3 (w.heap.size + 1) _ (by omega) (by omega))
      | ret =>
        obtain ⟨hk3, hi3⟩ := hp
        obtain ⟨hr, hl4, hk4, hs3⟩ := fin (some .ret) W3 hk3
        exact ⟨_, _, hr, .inr ⟨rfl, .ret, hIx _ _ _ hi3 (put W3 (w.heap.size + 1) _ (by omega)), hl4, hk4⟩⟩
      | exit id =>
        obtain ⟨hk3, hi3⟩ := hp
        obtain ⟨hr, hl4, hk4, hs3⟩ := fin (some (.exit id)) W3 hk3
        exact ⟨_, _, hr, .inr ⟨rfl, .exit id, hIx _ _ _ hi3 (put W3 (w.heap.size + 1) _ (by omega)), hl4, hk4⟩⟩
      | goto t =>
        obtain ⟨hk3, hi3⟩ := hp
        obtain ⟨hr, hl4, hk4, hs3⟩ := fin (some (.goto t)) W3 hk3
        exact ⟨_, _, hr, .inr ⟨rfl, .goto t, hIx _ _ _ hi3 (put W3 (w.heap.size + 1) _ (by omega)), hl4, hk4⟩⟩
      | panic ch => exact hp.elim
      | outgrown => exact hp.elim
    · -- behind the iterator
      rintro e W2 ⟨⟨v, rfl⟩, (⟨hi, hl, hk, hws⟩ | ⟨c, hi, hl, hk⟩)⟩
      · exact ⟨none, _, by have := run_endLoop (P := P) hl (by rw [hrec]; simp); rw [hrec] at this; exact this, hdone _ _ (Nat.le_refl _) (hI _ _ _ hi (put W2 (w.heap.size + 1) _ (by omega))) ((World.putObj_heap_other (by omega)).trans hk)⟩
      · exact ⟨some c, _, by have := run_endLoop (P := P) hl (by rw [hrec]; simp); rw [hrec] at this; exact this, hstop _ c _ (Nat.le_refl _) (hIx _ _ _ hi (put W2 (w.heap.size + 1) _ (by omega))) ((World.putObj_heap_other (by omega)).trans hk)⟩
end Go.Proofs.YtijbaienhaiamaaGreatDoor
end
