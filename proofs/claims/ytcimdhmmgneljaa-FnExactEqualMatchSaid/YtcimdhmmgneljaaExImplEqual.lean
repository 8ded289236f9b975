/- What is proved here: the program's EqualValue says whether two expressions are the same. Condition: they lie in memory as said, and are small. -/
import Derived.Test.YtcimdhmmgneljaaExEqualFunc
import Derived.Deep.RegionHeld3
import Derived.WalkSmall
import Derived.Deep.LoopGhost
import Derived.Test.YtcimdhmmgneljaaStepOwn
namespace Go.Proofs.Ytcimdhmmgneljaa.Ex
open Go.RowKit

/-- The cells of a row of pairs. -/
def cells2 (vs : List (Value × Value)) : List Value := vs.flatMap fun v => [v.1, v.2]
theorem cells2_snoc (vs : List (Value × Value)) (v : Value × Value) : cells2 (vs ++ [v]) = cells2 vs ++ [v.1, v.2] := by simp [cells2]
theorem cells2_length (vs : List (Value × Value)) : (cells2 vs).length = vs.length * 2 := by
  induction vs with
  | nil => rfl
  | cons v r ih => simp [cells2] at ih ⊢; omega
/-- A stack of pairs of rows (the last first), as pairs of slices. -/
def PairsAt (w : World) : List (Trees × Trees) → List (Value × Value) → Prop
  | [], vs => vs = []
  | P :: st, vs => ∃ a c b d us, vs = (.slice a P.1.length c, .slice b P.2.length d) :: us ∧ P.1.length ≤ 1048576 ∧ TreesAt w P.1 a 0 ∧ TreesAt w P.2 b 0 ∧ PairsAt w st us
theorem PairsAt.length {w : World} : ∀ (st : List (Trees × Trees)) (vs : List (Value × Value)), PairsAt w st vs → vs.length = st.length := by
  intro st
  induction st with
  | nil => rintro vs rfl; rfl
  | cons P st ih =>
    rintro vs ⟨a, c, b, d, us, rfl, _, _, _, h⟩
    simp [ih _ h]
def work2 : List (Trees × Trees) → Nat
  | [] => 0
  | P :: st => P.1.count + 1 + work2 st
theorem length_le_work2 (st : List (Trees × Trees)) : st.length ≤ work2 st := by
  induction st with
  | nil => exact Nat.le_refl _
  | cons F st ih => simp [work2]; omega
def allSame (st : List (Trees × Trees)) : Bool := st.all fun p => p.1.sameBy hd p.2
theorem two_new (w : World) (o0 o1 : Obj) : ((w.alloc o0).alloc o1).heap.size = w.heap.size + 1 + 1 ∧ ((w.alloc o0).alloc o1).heap[w.heap.size]? = some o0 ∧ ((w.alloc o0).alloc o1).heap[w.heap.size + 1]? = some o1 ∧ Below w.heap.size w ((w.alloc o0).alloc o1) := by
  have s1 : (w.alloc o0).heap.size = w.heap.size + 1 := Array.size_push _
  have e1 := heap_at_new (w.alloc o0) o1
  rw [s1] at e1
  refine ⟨by simp, ?_, e1, alloc2 w o0 o1⟩
  rw [Below.heap_alloc _ _ _ (by omega)]
  exact heap_at_new w o0
theorem owns_keep {w w' : World} {base : Nat} {e : TypeId} {size : Nat} {v : Value} {n : Nat} {xs : List Value} (h : w.ownsRow base e size v n xs) (hk : ∀ g, v.ownBlock = some g → w'.heap[g]? = w.heap[g]?) : w'.ownsRow base e size v n xs := by
  refine ⟨h.1, ?_⟩
  rcases h.2 with h | ⟨g, cap, cur, rfl, hb, hg, h1, h2, h3, h4⟩
  · exact .inl h
  · exact .inr ⟨g, cap, cur, rfl, hb, by rw [hk g rfl]; exact hg, h1, h2, h3, h4⟩
theorem cell_two_new (w : World) (x y : Value) (t : TypeId) : ∀ j u, [x, y][j]? = some u → (w.alloc (.cells #[x, y] t)).cell? ((⟨w.heap.size, 0, none⟩ : Addr).add j) = some u := by
  intro j u hj
  have h := heap_at_new w (.cells #[x, y] t)
  match j, hj with
  | 0, hj =>
    simp only [List.getElem?_cons_zero, Option.some.injEq] at hj
    subst hj
    simp only [Addr.add, World.cell?, if_true, h]
    rfl
  | 1, hj =>
    simp only [List.getElem?_cons_succ, List.getElem?_cons_zero, Option.some.injEq] at hj
    subst hj
    have e : (⟨w.heap.size, 0, none⟩ : Addr).add 1 = ⟨w.heap.size, 1, none⟩ := rfl
    rw [e]
    simp only [World.cell?, h]
    rfl
theorem own_form {W : World} {base : Nat} {e : TypeId} {size : Nat} {v : Value} {k : Nat} {xs : List Value} (h : W.ownsRow base e size v (k + 1) xs) : ∃ g cap, v = .slice (some ⟨g, 0, none⟩) (k + 1) cap := by
  rcases h.2 with ⟨_, h0⟩ | ⟨g, cap, _, rfl, _⟩
  · omega
  · exact ⟨g, cap, rfl⟩
/-- A row of one node. -/
theorem node_at {w : World} {b : Nat} {k n : Int} {t : ByteArray} {F : Trees} {p : Option Addr} {c : Nat} {T : TypeId} (h : w.heap[b]? = some (.cells #[.int .i64 k, .int .i64 n, .string t, .slice p F.length c] T (0, 0))) (hx : TreesAt w F p 0) (hc : F.length ≤ c) : TreesAt w (.cons k n t F .nil) (some ⟨b, 0, none⟩) 0 := by
  obtain ⟨d0, d1, d2, d3, _⟩ := four_cells h
  exact ⟨⟨_, p, c, rfl, d0, d1, d2, d3, hc, hx⟩, trivial⟩
/-- What holds between two rounds: the stack says what is still to be compared. -/
def EqInv (w1 : World) (st : List (Trees × Trees)) (rv : Value) (w : World) : Prop :=
  ∃ (vs : List (Value × Value)) (g cap : Nat), rv = .slice (some ⟨g, 0, none⟩) st.length cap ∧ w.ownsRow w1.heap.size 71 2 rv st.length (cells2 vs.reverse) ∧ PairsAt w1 st vs ∧ Below w1.heap.size w1 w

theorem EqInv.below {w1 : World} {st : List (Trees × Trees)} {rv : Value} {w : World} (h : EqInv w1 st rv w) : Below w1.heap.size w1 w := by
  obtain ⟨_, _, _, _, _, _, h⟩ := h
  exact h
theorem EqInv.start {w1 : World} {v0 v1 : Value} {st : Trees × Trees} (ha : ∃ a c, v0 = .slice a st.1.length c ∧ TreesAt w1 st.1 a 0) (hb : ∃ b d, v1 = .slice b st.2.length d ∧ TreesAt w1 st.2 b 0) (hl : st.1.length ≤ 1048576) :
    EqInv w1 [st] (.slice (some ⟨w1.heap.size, 0, none⟩) 1 1) (w1.alloc (.cells #[v0, v1] 71)) := by
  obtain ⟨a, c, rfl, ha⟩ := ha
  obtain ⟨b, d, rfl, hb⟩ := hb
  refine ⟨[(.slice a st.1.length c, .slice b st.2.length d)], w1.heap.size, 1, rfl, ?_, ⟨a, c, b, d, [], rfl, hl, ha, hb, rfl⟩, (Below.refl _ _).alloc (Nat.le_refl _) _⟩
  exact World.ownsRow_lit (base := w1.heap.size) (e := 71) (size := 2) w1 #[.slice a st.1.length c, .slice b st.2.length d] 1 (Nat.le_refl _) (by unfold maxLen; omega) rfl

set_option maxHeartbeats 1000000 in
theorem args_calls (k nu : Int) (t : ByteArray) (p : Option Addr) (len cap : Nat) (w : World) :
    Calls Try.prog 55 #[.agg #[.int .i64 k, .int .i64 nu, .string t, .slice p len cap]] w fun e w' => e = .returned (.slice p len cap) ∧ Below w.heap.size w w' := by
  have h := (four_cells (heap_at_new w (.cells #[.int .i64 k, .int .i64 nu, .string t, .slice p len cap] 38))).2.2.2.1
  go_enter Try.func55, Try.ntmps55
  go_wp2
  go_ret
  exact ⟨rfl, (Below.refl _ _).alloc (Nat.le_refl _) _⟩

set_option maxHeartbeats 2000000 in
set_option maxRecDepth 100000 in
theorem impl_equal_parts (w : World) (k n : Int) (t : ByteArray) (F : Trees) (p : Option Addr) (c : Nat) (k2 n2 : Int) (t2 : ByteArray) (G : Trees) (p2 : Option Addr) (c2 : Nat) (hx : TreesAt w F p 0) (hy : TreesAt w G p2 0) (hsz : F.count ≤ 1048576) (hcF : F.length ≤ c) (hcG : G.length ≤ c2) :
    Calls Try.prog 27 #[.agg #[.int .i64 k, .int .i64 n, .string t, .slice p F.length c], .agg #[.int .i64 k2, .int .i64 n2, .string t2, .slice p2 G.length c2], .func (.func 28) #[] #[]] w fun e w' => e = .returned (.bool (hd k n t F.length k2 n2 t2 G.length && F.sameBy hd G)) ∧ Below w.heap.size w w' := by
  have hmeth : ∀ (w : World) k n t p l c, (method 194 38 (.agg #[.int .i64 k, .int .i64 n, .string t, .slice p l c]) "loop.example/g00519/impl.args").run Try.prog w = .ok (55, .agg #[.int .i64 k, .int .i64 n, .string t, .slice p l c]) w := fun _ _ _ _ _ _ _ => by kernel_rfl
  have hi : (Try.prog.info? 71).map (fun i => (i.zero, i.size, i.bytes)) = some (some (.agg #[.slice none 0 0, .slice none 0 0]), 2, 48) := by kernel_rfl
  obtain ⟨i0, hi, hz0, hz1, hz2⟩ := info_parts hi
  obtain ⟨w1, hw1⟩ : ∃ w1, w1 = (((w.alloc (.cells #[.int .i64 k, .int .i64 n, .string t, .slice p F.length c] 38)).alloc (.cells #[.int .i64 k2, .int .i64 n2, .string t2, .slice p2 G.length c2] 38)).alloc (.cells #[.int .i64 k, .int .i64 n, .string t, .slice p F.length c] 38)).alloc (.cells #[.int .i64 k2, .int .i64 n2, .string t2, .slice p2 G.length c2] 38) := ⟨_, rfl⟩
  have hB2 := alloc2 w (.cells #[.int .i64 k, .int .i64 n, .string t, .slice p F.length c] 38) (.cells #[.int .i64 k2, .int .i64 n2, .string t2, .slice p2 G.length c2] 38)
  have hs2 : ((w.alloc (.cells #[.int .i64 k, .int .i64 n, .string t, .slice p F.length c] 38)).alloc (.cells #[.int .i64 k2, .int .i64 n2, .string t2, .slice p2 G.length c2] 38)).heap.size = w.heap.size + 1 + 1 := by simp
  have h2 := two_new ((w.alloc (.cells #[.int .i64 k, .int .i64 n, .string t, .slice p F.length c] 38)).alloc (.cells #[.int .i64 k2, .int .i64 n2, .string t2, .slice p2 G.length c2] 38)) (.cells #[.int .i64 k, .int .i64 n, .string t, .slice p F.length c] 38) (.cells #[.int .i64 k2, .int .i64 n2, .string t2, .slice p2 G.length c2] 38)
  rw [← hw1, hs2] at h2
  obtain ⟨hs1, hl0, hl1, hB4⟩ := h2
  have hB : Below w.heap.size w w1 := hB2.trans (hB4.mono (by omega))
  have hI : EqInv w1 [(.cons k n t F .nil, .cons k2 n2 t2 G .nil)] (.slice (some ⟨w.heap.size + 1 + 1 + 1 + 1, 0, none⟩) 1 1) (w1.alloc (.cells #[.slice (some ⟨w.heap.size + 1 + 1, 0, none⟩) 1 1, .slice (some ⟨w.heap.size + 1 + 1 + 1, 0, none⟩) 1 1] 71)) := by
    have h := EqInv.start (w1 := w1) (v0 := .slice (some ⟨w.heap.size + 1 + 1, 0, none⟩) 1 1) (v1 := .slice (some ⟨w.heap.size + 1 + 1 + 1, 0, none⟩) 1 1) (st := (.cons k n t F .nil, .cons k2 n2 t2 G .nil))
      ⟨_, 1, rfl, node_at hl0 (hx.below hB) hcF⟩ ⟨_, 1, rfl, node_at hl1 (hy.below hB) hcG⟩ (by simp [Trees.length])
    rw [hs1] at h
    exact h
  have HI := Lib.hid hI
  have HB := Lib.hid hB
  have HW1 := Lib.hid hw1
  have hz : allSame [((.cons k n t F .nil : Trees), (.cons k2 n2 t2 G .nil : Trees))] = (hd k n t F.length k2 n2 t2 G.length && F.sameBy hd G) := by simp [allSame, Trees.sameBy]
  have hwk : work2 [((.cons k n t F .nil : Trees), (.cons k2 n2 t2 G .nil : Trees))] ≤ 1048578 := by simp [work2, Trees.count]; omega
  have HZ := Lib.hid hz
  have HWK := Lib.hid hwk
  have HS1 := Lib.hid hs1
  have HHI := Lib.hid hi
  generalize [((.cons k n t F .nil : Trees), (.cons k2 n2 t2 G .nil : Trees))] = st0 at *
  clear hI hB hw1 hz hwk hB2 hB4 hl0 hl1 hx hy hsz hs2 hcF hcG hs1
  generalize (hd k n t F.length k2 n2 t2 G.length && F.sameBy hd G) = z at *
  go_enter Try.func27, Try.ntmps27
  go_wp2
  rw [← HW1.out]
  clear HW1
  go_loopg [7] 1048578 (fun gg rv wr => ∃ st : List (Trees × Trees), Aside (EqInv w1 st rv wr) ∧ Aside (allSame st = z) ∧ Aside (work2 st ≤ gg) ∧ gg ≤ 1048578)
  case atStart => exact ⟨st0, HI.out, HZ.out, HWK.out, Nat.le_refl _⟩
  case round =>
    obtain ⟨st, hI, hz, hwk, hgk⟩ := hrel
    obtain ⟨vs, g, cp, rfl, hown, hst, hB1⟩ := hI.out
    have hgB : w1.heap.size ≤ g ∧ g < wr.heap.size := hown.lt g rfl
    have hsl := length_le_work2 st
    have hwk' := hwk.out
    cases st with
    | nil =>
      obtain rfl : true = z := hz.out
      have HB1 : Hid (Below w.heap.size w wr) := HB.out.trans (hB1.mono HB.out.size)
      clear hown hst hB1 hI hz hsl hwk' hwk
      go_wp2
      go_ret
      exact ⟨rfl, HB1.out⟩
    | cons P st =>
      obtain ⟨A, B⟩ := P
      obtain ⟨a, ca, b, cb, us, rfl, hal, hA, hBt, hus⟩ := hst
      have hul := hus.length
      have hcx : (cells2 (((.slice a A.length ca, .slice b B.length cb) : Value × Value) :: us).reverse) = cells2 us.reverse ++ [.slice a A.length ca, .slice b B.length cb] := by rw [List.reverse_cons, cells2_snoc]
      have hlc : (cells2 us.reverse).length = st.length * 2 := by rw [cells2_length, List.length_reverse, hul]
      rw [hcx] at hown
      have hc0 : wr.cell? ⟨g, st.length * 2, none⟩ = some (.slice a A.length ca) := by
        rw [hown.cellAt (st.length * 2) (by simp only [List.length_cons]; omega), List.getElem?_append_right (by omega), hlc, Nat.sub_self]
        rfl
      have hc1 : wr.cell? ⟨g, st.length * 2 + 1, none⟩ = some (.slice b B.length cb) := by
        rw [hown.cellAt (st.length * 2 + 1) (by simp only [List.length_cons]; omega), List.getElem?_append_right (by omega), hlc, show st.length * 2 + 1 - st.length * 2 = 1 by omega]
        rfl
      have hcap : st.length + 1 ≤ cp := by
        rcases hown.2 with ⟨h, _⟩ | ⟨g', cap', cur, h, _, _, h1, _⟩
        · cases h
        · cases h; exact h1
      have hpop := ownsRow_pop (n := st.length) hlc hown
      have hz2 := hz.out
      rw [show allSame ((A, B) :: st) = (A.sameBy hd B && allSame st) from rfl, Trees.sameBy_flat] at hz2
      simp only [work2] at hwk' hsl
      simp only [List.length_cons] at *
      have hml : st.length ≤ 1048578 := by omega
      have HPOP := Lib.hid hpop
      have HUS := Lib.hid hus
      have HA := Lib.hid (hA.below hB1)
      have HBT := Lib.hid (hBt.below hB1)
      have HAT := Lib.hid hA
      have HBTT := Lib.hid hBt
      have HB1 := Lib.hid hB1
      have HZ2 := Lib.hid hz2
      have HWK2 := Lib.hid hwk'
      have H := fun w' (hb : Below wr.heap.size wr w') => impl_flat w' A B a b ca cb (HA.out.below hb) (HBT.out.below hb) hal
      have HH := Lib.hid H
      clear hown hul hus hcx hlc hpop hI hz hz2 hsl hwk' hwk hA hBt hB1 H
      generalize hm : st.length = m at *
      have HM := Lib.hid hm
      clear hm
      go_wp2
      go_quiet (fail)
      go_wp2_with fail
      refine (HH.out _ (below_drewN (Below.refl _ _) nq)).mono ?_
      rintro e w5 ⟨rfl, hb5⟩
      have hb5' : Below wr.heap.size wr w5 := ⟨hb5.os, hb5.tape, hb5.output, hb5.size, hb5.block⟩
      clear HH hb5 hc0 hc1
      cases hfl : A.flatBy hd B with
      | false =>
        obtain rfl : false = z := by have h := HZ2.out; rw [hfl] at h; exact h
        have HB5 : Hid (Below w.heap.size w w5) := HB.out.trans ((HB1.out.mono (Nat.le_refl _) |>.trans (hb5'.mono HB1.out.size)).mono HB.out.size)
        clear hb5' hfl
        go_wp2
        go_ret
        exact ⟨rfl, HB5.out⟩
      | true =>
        have hlen := Trees.flatBy_length hd A B hfl
        have HZ3 : Hid (((A.pairs B).all (fun p => p.1.sameBy hd p.2) && allSame st) = z) := by have h := HZ2.out; rw [hfl] at h; exact h
        have hI5 : EqInv w1 st (.slice (some ⟨g, 0, none⟩) m cp) w5 := ⟨us, g, cp, by rw [HM.out], owns_keep (by rw [HM.out]; exact HPOP.out) (fun b hb => by cases hb; exact hb5'.block g hgB.2), HUS.out, HB1.out.trans (hb5'.mono HB1.out.size)⟩
        have HI5 := Lib.hid hI5
        clear hI5 hb5' hfl hgB HPOP HUS
        generalize hn : A.length = nn at *
        have HN := Lib.hid hn
        have HL := Lib.hid hlen
        clear hn hlen
        go_wp2
        generalize hw5 : w5 = w6 at *
        clear hw5
        go_loopw [7, 44] (fun rv i wr => ∃ (j : Nat) (r s : Trees) (st2 : List (Trees × Trees)), i = .int .i64 j ∧ j + r.length = nn ∧ Hid (r.length = s.length) ∧ Hid (TreesAt w1 r a j) ∧ Hid (TreesAt w1 s b j) ∧ Hid (((r.pairs s).all (fun p => p.1.sameBy hd p.2) && allSame st2) = z) ∧ Hid (work2 st2 + r.count + 1 ≤ gk) ∧ Hid (EqInv w1 st2 rv wr)) (fun _ i _ => nn - (intOf i).toNat)
        case atStart => exact ⟨0, A, B, st, rfl, by rw [HN.out]; omega, by unfold Hid; rw [HN.out]; exact HL.out, HAT, HBTT, HZ3, by unfold Hid; have := HWK2.out; omega, HI5⟩
        case round =>
          obtain ⟨j, r, s, st2, rfl, hjn, hrs, hxr, hyr, hz4, hw4, hI⟩ := hrel
          cases r with
          | nil =>
            obtain rfl : j = nn := by simp only [Trees.length] at hjn; omega
            have hz5 : Aside (allSame st2 = z) := by
              have h := hz4.out
              cases s with
              | nil => exact h
              | cons _ _ _ _ _ => exact h
            clear hxr hyr
            go_wp2
            go_roundg (gk - 1)
            case rel => exact ⟨st2, hI.out, hz5, (by have := hw4.out; show _ ≤ _; omega), by omega⟩
            case measure => have := hw4.out; omega
          | cons k3 n3 t3 a3 r =>
            cases s with
            | nil => have := hrs.out; simp [Trees.length] at this
            | cons k4 n4 t4 a4 s =>
              have hjl : j < nn := by simp only [Trees.length] at hjn; omega
              have hjb : j < B.length := by rw [← HL.out]; exact hjl
              have hjn2 : j + 1 + r.length = nn := by simp only [Trees.length] at hjn; omega
              have HRS : Hid (r.length = s.length) := by have := hrs.out; simp only [Trees.length] at this; unfold Hid; omega
              obtain ⟨vs, g2, cp2, rfl, hown, hst, hB1⟩ := hI.out
              obtain ⟨y, q, cq, rfl, h1, h2, h3, h4, hs3, _⟩ := (hxr.out.below hB1).open
              obtain ⟨y2, q2, cq2, rfl, j1, j2, j3, j4, hs4, _⟩ := (hyr.out.below hB1).open
              obtain ⟨z1, q', cq', hz1', h1', h2', h3', h4', hs3', _⟩ := hxr.out.open
              obtain ⟨z2, q2', cq2', hz2', j1', j2', j3', j4', hs4', _⟩ := hyr.out.open
              cases hz1'
              cases hz2'
              have ea := (cell_below h4' hB1).symm.trans h4
              have eb := (cell_below j4' hB1).symm.trans j4
              cases ea
              cases eb
              have hxr2 : Hid (TreesAt w1 r (some y) (j + 1)) := hxr.out.2
              have hyr2 : Hid (TreesAt w1 s (some y2) (j + 1)) := hyr.out.2
              have hw5 := hw4.out
              simp only [Trees.count] at hw5
              have hal3 := a3.length_le_count
              have HZ5 : Hid (((r.pairs s).all (fun p => p.1.sameBy hd p.2) && allSame ((a3, a4) :: st2)) = z) := by
                have h := hz4.out
                unfold Hid
                rw [← h]
                show _ = (((a3.sameBy hd a4) && (r.pairs s).all (fun p => p.1.sameBy hd p.2)) && allSame st2)
                rw [show allSame ((a3, a4) :: st2) = (a3.sameBy hd a4 && allSame st2) from rfl]
                cases a3.sameBy hd a4 <;> cases (r.pairs s).all (fun p => p.1.sameBy hd p.2) <;> cases allSame st2 <;> rfl
              have HW5 : Hid (work2 ((a3, a4) :: st2) + r.count + 1 ≤ gk) := by unfold Hid; simp only [work2]; omega
              have HP5 : Hid (PairsAt w1 ((a3, a4) :: st2) ((.slice q a3.length cq, .slice q2 a4.length cq2) :: vs)) := ⟨q, cq, q2, cq2, vs, rfl, (by show a3.length ≤ _; omega), hs3', hs4', hst⟩
              have hs2l := length_le_work2 st2
              have hs2b : st2.length ≤ 1048578 := by omega
              have HB1 := Lib.hid hB1
              have HOWN := Lib.hid hown
              clear hxr hyr hz4 hw4 hI hst hB1 hs3 hs4 hs3' hs4' hw5 hal3 hs2l hrs hjn hown
              generalize hm2 : st2.length = m2 at *
              have HM2 := Lib.hid hm2
              clear hm2
              have hB1s := HB1.out.size
              have HF : Hid (∀ w', Below w1.heap.size w1 w' → (w'.cell? (y.add (j * 4)) = some (.int .i64 k3) ∧ w'.cell? (fieldAt y j 1) = some (.int .i64 n3) ∧ w'.cell? (fieldAt y j 2) = some (.string t3) ∧ w'.cell? (fieldAt y j 3) = some (.slice q a3.length cq)) ∧ w'.cell? (y2.add (j * 4)) = some (.int .i64 k4) ∧ w'.cell? (fieldAt y2 j 1) = some (.int .i64 n4) ∧ w'.cell? (fieldAt y2 j 2) = some (.string t4) ∧ w'.cell? (fieldAt y2 j 3) = some (.slice q2 a4.length cq2)) :=
                fun w' hb => ⟨⟨cell_below h1' hb, cell_below h2' hb, cell_below h3' hb, cell_below h4' hb⟩, cell_below j1' hb, cell_below j2' hb, cell_below j3' hb, cell_below j4' hb⟩
              have HD : Hid (Below wr.heap.size wr wr.drew) := (Below.refl _ _).drew
              have HA1 : Hid (∀ W, Calls Try.prog 55 #[.agg #[.int .i64 k3, .int .i64 n3, .string t3, .slice q a3.length cq]] W fun e w' => e = .returned (.slice q a3.length cq) ∧ Below W.heap.size W w') := fun W => args_calls k3 n3 t3 q a3.length cq W
              have HA2 : Hid (∀ W, Calls Try.prog 55 #[.agg #[.int .i64 k4, .int .i64 n4, .string t4, .slice q2 a4.length cq2]] W fun e w' => e = .returned (.slice q2 a4.length cq2) ∧ Below W.heap.size W w') := fun W => args_calls k4 n4 t4 q2 a4.length cq2 W
              have HN2 : Hid (∀ u ∈ [Value.slice q a3.length cq, .slice q2 a4.length cq2], u.oneCell' = true) := by intro u hu; simp at hu; rcases hu with rfl | rfl <;> rfl
              have HN3 : Hid (m2 + 1 ≤ maxLen) := by unfold Hid maxLen; omega
              have HN4 : Hid ((m2 + 1) * 48 ≤ 140737488355328) := by unfold Hid; omega
              have hgw := (HOWN.out.lt g2 rfl)
              have HAP : Hid (∀ W, Below wr.heap.size wr W → (W.alloc (.cells #[.slice q a3.length cq, .slice q2 a4.length cq2] 71)).ownsRow w1.heap.size 71 2 (.slice (some ⟨g2, 0, none⟩) m2 cp2) m2 (cells2 vs.reverse) ∧ (∀ i u, [Value.slice q a3.length cq, .slice q2 a4.length cq2][i]? = some u → (W.alloc (.cells #[.slice q a3.length cq, .slice q2 a4.length cq2] 71)).cell? ((⟨W.heap.size, 0, none⟩ : Addr).add i) = some u) ∧ w1.heap.size ≤ (W.alloc (.cells #[.slice q a3.length cq, .slice q2 a4.length cq2] 71)).heap.size ∧
                  ∀ g3 cp3 w3, w3.ownsRow w1.heap.size 71 2 (.slice (some ⟨g3, 0, none⟩) (m2 + 1) cp3) (m2 + 1) (cells2 vs.reverse ++ [Value.slice q a3.length cq, .slice q2 a4.length cq2]) → (W.alloc (.cells #[.slice q a3.length cq, .slice q2 a4.length cq2] 71)).grownBy w3 (some g2) → Hid (EqInv w1 ((a3, a4) :: st2) (.slice (some ⟨g3, 0, none⟩) (m2 + 1) cp3) w3)) := by
                intro W hb
                have hs := hb.size
                refine ⟨(owns_keep HOWN.out (fun b hb2 => by cases hb2; exact hb.block g2 hgw.2)).alloc _, cell_two_new W _ _ _, by simp; omega, fun g3 cp3 w3 ho3 hg3 => ?_⟩
                refine ⟨(.slice q a3.length cq, .slice q2 a4.length cq2) :: vs, g3, cp3, by rw [List.length_cons, HM2.out], ?_, HP5.out, (((HB1.out.trans (hb.mono hB1s)).alloc (by omega) (.cells #[.slice q a3.length cq, .slice q2 a4.length cq2] 71))).grown hg3 (by simp; omega) (fun b hb2 => by cases hb2; exact hgw.1)⟩
                rw [List.length_cons, HM2.out, List.reverse_cons, cells2_snoc]
                exact ho3
              clear HOWN hgw h1' h2' h3' h4' j1' j2' j3' j4'
              go_wp2
              go_region_held3 (fun w' => (w'.cell? (y.add (j * 4)) = some (.int .i64 k3) ∧ w'.cell? (fieldAt y j 1) = some (.int .i64 n3) ∧ w'.cell? (fieldAt y j 2) = some (.string t3) ∧ w'.cell? (fieldAt y j 3) = some (.slice q a3.length cq)) ∧ w'.cell? (y2.add (j * 4)) = some (.int .i64 k4) ∧ w'.cell? (fieldAt y2 j 1) = some (.int .i64 n4) ∧ w'.cell? (fieldAt y2 j 2) = some (.string t4) ∧ w'.cell? (fieldAt y2 j 3) = some (.slice q2 a4.length cq2))
                (first
                  | go_keep
                  | (have hkeep := HF.out _ HW3.out; exact hkeep)
                  | (have hkeep := HF.out _ (HB1.out.trans (HWB.out.mono HB1.out.size)); exact hkeep)
                  | (have hkeep := HF.out _ (HB1.out.trans (HWA.out.mono HB1.out.size)); exact hkeep)
                  | fail "no arm")
                (first
                  | (go_at_call 55; (with_reducible refine (HA1.out wr.drew).mono ?_); rintro e wa ⟨rfl, hba⟩; have HWA : Hid (Below wr.heap.size wr wa) := HD.out.trans (hba.mono HD.out.size); clear hba)
                  | (go_at_call 55; (with_reducible refine (HA2.out wa).mono ?_); rintro e wb ⟨rfl, hbb⟩; have HWB : Hid (Below wr.heap.size wr wb) := HWA.out.trans (hbb.mono HWA.out.size); clear hbb)
                  | (refine step_append_own rfl (.tmp 47) (.tmp 61) 72 rfl w1.heap.size 71 i0 (.agg #[.slice none 0 0, .slice none 0 0]) 2 48 Try.underlying72 hi hz0 hz1 hz2 rfl (by decide) _ _ _ (by simp [Act.eval]) (HAP.out wb HWB.out).1 ⟨wb.heap.size, 0, none⟩ 1 1 [.slice q a3.length cq, .slice q2 a4.length cq2] (by simp [Act.eval]) rfl (HAP.out wb HWB.out).2.1 HN2.out HN3.out HN4.out (HAP.out wb HWB.out).2.2.1 ?_; intro v3 w3 ho3 hg3; obtain ⟨g3, cp3, rfl⟩ := own_form ho3; have HI3 := (HAP.out wb HWB.out).2.2.2 g3 cp3 w3 ho3 hg3; have HW3 : Hid (Below w1.heap.size w1 w3) := HI3.out.below; clear ho3 hg3)
                  | fail "no arm")
              all_goals
                clear HAP HF HA1 HA2 HD h1 h2 h3 h4 j1 j2 j3 j4
                go_wp2
                go_roundw
                case rel => exact ⟨j + 1, r, s, (a3, a4) :: st2, by go_num, hjn2, HRS, hxr2, hyr2, HZ5, HW5, HI3⟩
                case measure => simp [intOf]; omega

set_option maxHeartbeats 1000000 in
theorem impl_equal (w : World) (k n : Int) (t : ByteArray) (F : Trees) (p : Option Addr) (c : Nat) (k2 n2 : Int) (t2 : ByteArray) (G : Trees) (p2 : Option Addr) (c2 : Nat) (hx : TreesAt w F p 0) (hy : TreesAt w G p2 0) (hsz : F.count ≤ 1048576) (hcF : F.length ≤ c) (hcG : G.length ≤ c2) :
    Calls Try.prog 19 #[.agg #[.int .i64 k, .int .i64 n, .string t, .slice p F.length c], .agg #[.int .i64 k2, .int .i64 n2, .string t2, .slice p2 G.length c2]] w fun e w' => e = .returned (.bool (headEq k n t F.length k2 n2 t2 G.length && F.same G)) ∧ Below w.heap.size w w' := by
  have hB2 := alloc2 w (.cells #[.int .i64 k, .int .i64 n, .string t, .slice p F.length c] 38) (.cells #[.int .i64 k2, .int .i64 n2, .string t2, .slice p2 G.length c2] 38)
  have H := impl_equal_parts ((w.alloc (.cells #[.int .i64 k, .int .i64 n, .string t, .slice p F.length c] 38)).alloc (.cells #[.int .i64 k2, .int .i64 n2, .string t2, .slice p2 G.length c2] 38)) k n t F p c k2 n2 t2 G p2 c2 (hx.below hB2) (hy.below hB2) hsz hcF hcG
  rw [sameBy_node hd hd_one hd_refl] at H
  have HB2 := Lib.hid hB2
  clear hx hy hsz hcF hcG hB2
  generalize (headEq k n t F.length k2 n2 t2 G.length && F.same G) = z at *
  generalize F.length = fl at *
  generalize G.length = gl at *
  go_enter Try.func19, Try.ntmps19
  go_wp2_with fail
  refine H.mono ?_
  rintro e w1 ⟨rfl, hb⟩
  have HB1 : Hid (Below w.heap.size w w1) := HB2.out.trans (hb.mono HB2.out.size)
  clear H hb
  go_wp2
  go_ret
  exact ⟨rfl, HB1.out⟩
end Go.Proofs.Ytcimdhmmgneljaa.Ex
