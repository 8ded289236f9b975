/- What is proved here: a piece of the proof of YtijbaienhaiamaaDoorExactParseValue (TreeHeld, ExactParseValueWalk, Shape, LaidLib, ExactParseValue). Condition: none beyond what each part says. -/
import Derived.Test.YtijbaienhaiamaaDoorPv01
import Derived.Test.YtijbaienhaiamaaDoorPv02
import Derived.Test.YtijbaienhaiamaaDoorPv12
import Derived.Deep.RegionHeld3
import Derived.ProofKit
import Derived.OpenShut
import Derived.ShutString
import Derived.ChangeOld
import Derived.LaidMore
import Derived.Handed
import Derived.Shelf.Vars
import Derived.Lib.ItoaNum
import Derived.Lib.LaidTab
import Derived.Stop.Joined
import Derived.Stop.LaidErr
import Derived.Test.YtijbaienhaiamaaDoorPv05
import Derived.Test.YtijbaienhaiamaaDoorRows
import Derived.Test.YtijbaienhaiamaaDoorTie
import Derived.Carry
import Derived.Below
import Derived.Lay
import Derived.Test.YtijbaienhaiamaaDoorCards

/- What is proved here: the laws' look whether the marks of a value still stand (heldValue). Condition: small numbers; the value lies in memory as it was marked. -/
section
namespace Go.Proofs.YtijbaienhaiamaaDoor
open Go.RowKit

set_option maxHeartbeats 1000000 in
set_option maxRecDepth 100000 in
theorem heldValueS_any : ∀ F : Trees, F.count ≤ 1048576 → ∀ (k : Nat), 1 ≤ k → k + 3 * F.count ≤ 16777216 → ∀ (w : World) (p : Option Addr) (cap : Nat), TreesAt w (F.marked k) p 0 →
    Calls Tryd.prog 16 #[.slice p F.length cap, .int .i64 (k : Int)] w fun e w' => e = .returned (.int .i64 ((k + 3 * F.count : Nat) : Int)) ∧ Below w.heap.size w w' := by
  refine Trees.ind fun F hall hc k hk hkc w p cap hx => ?_
  have hlc := F.length_le_count
  have HALL := Lib.hid hall
  have HX := Lib.hid hx
  clear hall hx
  generalize hz : k + 3 * F.count = z at *
  have HZ := Lib.hid hz
  generalize hn : F.length = nn at *
  have HN := Lib.hid hn
  clear hn hz
  go_enter Tryd.func16, Tryd.ntmps16
  go_wp2
  go_loopw [1, 5] (fun q i wr => ∃ (j m : Nat) (rest : Trees), i = .int .i64 j ∧ q = .int .i64 m ∧ j + rest.length = nn ∧ m + 3 * rest.count = z ∧ 1 ≤ m ∧ Hid (rest.count ≤ 1048576) ∧ Hid (TreesAt w (rest.marked m) p j) ∧ Hid (rest.All (fun G => G.count ≤ 1048576 → ∀ (k : Nat), 1 ≤ k → k + 3 * G.count ≤ 16777216 → ∀ (w : World) (p : Option Addr) (cap : Nat), TreesAt w (G.marked k) p 0 →
    Calls Tryd.prog 16 #[.slice p G.length cap, .int .i64 (k : Int)] w fun e w' => e = .returned (.int .i64 ((k + 3 * G.count : Nat) : Int)) ∧ Below w.heap.size w w')) ∧ Hid (Below w.heap.size w wr)) (fun _ i _ => nn - (intOf i).toNat)
  case atStart => exact ⟨0, k, F, rfl, rfl, by rw [HN.out]; omega, HZ.out, hk, hc, HX, HALL, Below.refl _ _⟩
  case round =>
    obtain ⟨j, m, rest, rfl, rfl, hjn, hmz, hm1, hcr, hxr, hall, hB⟩ := hrel
    cases rest with
    | nil =>
      obtain rfl : j = nn := by simp only [Trees.length] at hjn; omega
      obtain rfl : m = z := by simp only [Trees.count] at hmz; omega
      clear hxr hall hcr
      go_wp2
      go_ret
      exact ⟨rfl, hB.out⟩
    | cons kd nu tx ar r =>
      have hjl : j < nn := by simp only [Trees.length] at hjn; omega
      have hjn2 : j + 1 + r.length = nn := by simp only [Trees.length] at hjn; omega
      have hcr2 := hcr.out
      simp only [Trees.count] at hcr2
      have hmz2 : m + 3 + 3 * ar.count + 3 * r.count = z := by simp only [Trees.count] at hmz; omega
      obtain ⟨y, q, cq, rfl, h1, h2, h3, h4, hs, _⟩ := (hxr.out.below hB.out).open
      rw [Trees.marked_length] at h4
      have hxr2 : Hid (TreesAt w (r.marked (m + 3 + 3 * ar.count)) (some y) (j + 1)) := hxr.out.2
      have HCR : Hid (r.count ≤ 1048576) := by unfold Hid; omega
      have H := fun (w' : World) (hb : Below wr.heap.size wr w') => hall.out.1 (by omega) (m + 3) (by omega) (by omega) w' q cq (hs.below hb)
      have HH := Lib.hid H
      have HA2 := Lib.hid hall.out.2
      have hzb : m + 3 + 3 * ar.count ≤ 16777216 := by omega
      have hmb : m ≤ 16777216 := by omega
      generalize hd : 3 * ar.count = d at *
      clear hxr hall hs hcr hcr2 H hjn hmz hd
      have e1 : ((m : Int) != (m : Int)) = false := by simp
      have e2 : (((m + 1 : Nat) : Int) != (m : Int) + 1) = false := by simp
      have e3 : ((mt (m + 2)).toList != (mt (m + 2)).toList) = false := by simp
      go_wp2
      go_region_held3 (fun w' => (w'.cell? (y.add (j * 4)) = some (.int .i64 (m : Int)) ∧ w'.cell? (fieldAt y j 2) = some (.string (mt (m + 2)))) ∧ w'.cell? (fieldAt y j 3) = some (.slice q ar.length cq))
        (first
          | go_keep
          | (refine ⟨⟨cell_below (w := wr.drew) h1 hbl, cell_below (w := wr.drew) h3 hbl⟩, cell_below (w := wr.drew) h4 hbl⟩))
        (first
          | (go_at_call 33; refine (markText_any (m + 2) (by omega) (by omega) _).mono ?_; rintro e w1 ⟨rfl, hbl⟩))
      have HB1 : Hid (Below w.heap.size w w1) := hB.out.trans ((below_of_drew hbl).mono hB.out.size)
      have H1 := Lib.hid (HH.out w1 (below_of_drew hbl))
      clear hbl h1 h2 h3 HH
      go_wp2_with fail
      refine H1.out.mono ?_
      rintro e w2 ⟨rfl, hb2⟩
      have HB2 : Hid (Below w.heap.size w w2) := HB1.out.trans (hb2.mono HB1.out.size)
      clear hb2 H1 h4
      go_wp2
      go_roundw
      case rel => exact ⟨j + 1, m + 3 + d, r, by go_num, by go_num, hjn2, hmz2, by omega, HCR, hxr2, HA2, HB2⟩
      case measure => simp [intOf]; omega

set_option maxRecDepth 100000 in
theorem heldValue_any (w : World) (a n : Int) (t : ByteArray) (F : Trees) (k : Nat) (p : Option Addr) (cap : Nat) (hc : F.count ≤ 1048576) (hk : 1 ≤ k) (hkc : k + 3 * F.count ≤ 16777216) (hx : TreesAt w (F.marked k) p 0) :
    Calls Tryd.prog 8 #[.agg #[.int .i64 a, .int .i64 n, .string t, .slice p F.length cap], .int .i64 (k : Int)] w fun e w' => e = .returned (.int .i64 ((k + 3 * F.count : Nat) : Int)) ∧ Below w.heap.size w w' := by
  have hB : Below w.heap.size w (w.alloc (.cells #[.int .i64 a, .int .i64 n, .string t, .slice p F.length cap] 24)) := (Below.refl _ _).alloc (Nat.le_refl _) _
  have H := Lib.hid (heldValueS_any F hc k hk hkc (w.alloc (.cells #[.int .i64 a, .int .i64 n, .string t, .slice p F.length cap] 24)) p cap (hx.below hB))
  have HB := Lib.hid hB
  clear hx hB
  generalize k + 3 * F.count = z at *
  have hz0 : ¬ ((z : Int) < 0) := by omega
  go_enter Tryd.func8, Tryd.ntmps8
  go_wp2_with fail
  refine H.out.mono ?_
  rintro e w1 ⟨rfl, hb1⟩
  have HB1 : Hid (Below w.heap.size w w1) := HB.out.trans (hb1.mono HB.out.size)
  clear hb1
  go_wp2
  go_ret
  exact ⟨rfl, HB1.out⟩
end Go.Proofs.YtijbaienhaiamaaDoor
end

/- What is proved here: the text of FnExactParseValue returns true for every text. Condition: the library's variables read as laid. -/
section
namespace Go.Proofs.YtijbaienhaiamaaDoor
open Go.RowKit

theorem want_small {s : List UInt8} {A : PatD} {B : Bool} (h : Va.Want s A B) : A.F.fits ∧ A.F.count ≤ 40 ∧ A.F.length ≤ maxLen := by
  unfold maxLen
  rcases h with ⟨_, hg, hf, _⟩ | ⟨_, rfl, _⟩
  · have h1 := hf.1
    have h2 := A.F.length_le_count
    exact ⟨Va.formed_fits _ hg.2 (by omega), by omega, by omega⟩
  · exact ⟨trivial, by simp [Va.zeroD, Trees.count], by simp [Va.zeroD, Trees.length]⟩
/-- What stays: the model's answer in its box z, the program's slice in the box g. -/
structure ParsedSt (w : World) (A : PatD) (v1 v3 : Value) (bs1 : List Nat) (z g : Nat) (W : World) : Prop where
  low : Below w.heap.size w W
  zb : W.heap[z]? = some (.cells #[.int .i64 A.k, .int .i64 A.n, .string A.t, v1] 24 (0, 0))
  gb : W.heap[g]? = some (.cells #[.int .i64 A.k, .int .i64 A.n, .string A.t, v3] 24 (0, 0))
  own : OwnV W v1 A.F bs1
  lt : ∀ c ∈ bs1, c < W.heap.size
theorem ParsedSt.below {w W W' : World} {A : PatD} {v1 v3 : Value} {bs1 : List Nat} {z g : Nat} (h : ParsedSt w A v1 v3 bs1 z g W) (hb : Below W.heap.size W W') : ParsedSt w A v1 v3 bs1 z g W' :=
  ⟨h.low.trans (hb.mono h.low.size), (hb.block _ (Array.getElem?_eq_some_iff.1 h.zb).1).trans h.zb, (hb.block _ (Array.getElem?_eq_some_iff.1 h.gb).1).trans h.gb, h.own.keep (fun c hc => hb.block c (h.lt c hc)), fun c hc => Nat.lt_of_lt_of_le (h.lt c hc) hb.size⟩
theorem ParsedSt.only {w W W' : World} {A : PatD} {v1 v3 : Value} {bs1 bs3 : List Nat} {z g : Nat} (h : ParsedSt w A v1 v3 bs1 z g W) (ho : Only (fun b => b ∈ bs3) W W') (h3 : ∀ c ∈ bs3, w.heap.size ≤ c ∧ c ≠ z ∧ c ≠ g ∧ c ∉ bs1) : ParsedSt w A v1 v3 bs1 z g W' :=
  ⟨h.low.trans (ho.below (fun b hb => (h3 b hb).1) h.low.size), (ho.block _ (Array.getElem?_eq_some_iff.1 h.zb).1 (fun hc => (h3 _ hc).2.1 rfl)).trans h.zb, (ho.block _ (Array.getElem?_eq_some_iff.1 h.gb).1 (fun hc => (h3 _ hc).2.2.1 rfl)).trans h.gb, h.own.keep (fun c hc => ho.block c (h.lt c hc) (fun hb => (h3 c hb).2.2.2 hc)), fun c hc => Nat.lt_of_lt_of_le (h.lt c hc) ho.size⟩

set_option maxHeartbeats 2000000 in
set_option maxRecDepth 100000 in
theorem fnExactParseValue_walk (s : ByteArray) (_hs : s.size ≤ maxLen) (w : World) (hL : LibVars w ∧ MaxLenVar w) :
    Calls Tryd.prog 3 #[.string s] w fun e w' => e = .returned (.bool true) ∧ Below w.heap.size w w' := by
  by_cases hsz : s.size ≤ 1048576
  rotate_left
  · have hgt : (1048576 : Int) < (s.size : Int) := by omega
    clear hsz _hs hL
    go_enter Tryd.func3, Tryd.ntmps3
    go_wp2
    go_ret
    exact ⟨rfl, Below.refl _ _⟩
  have hng : ¬ (1048576 : Int) < (s.size : Int) := by omega
  have HLV : Hid (∀ W, Below w.heap.size w W → LibVars W ∧ ∀ w', Below W.heap.size W w' → MaxLenVar w') := fun W hb => ⟨hL.1.stays hb, fun w' hb' => hL.2.stays (hb.trans (hb'.mono hb.size)) (Nat.le_refl _)⟩
  have HI := Lib.hid (fun A B hW W hb => Va.impl_gives s hsz A B hW W (HLV.out W hb).1 (HLV.out W hb).2)
  have HSP := Lib.hid (Va.spec_ParseValue s hsz w)
  clear _hs hsz hL
  go_enter Tryd.func3, Tryd.ntmps3
  go_wp2_with fail
  refine HSP.out.mono ?_
  clear HSP
  rintro e w1 ⟨⟨A, B, hW, v1, bs1, rfl, ho1, hnd1, hbs1⟩, hb1⟩
  obtain ⟨hfit, hcnt, hlen⟩ := want_small hW
  have HIM := Lib.hid (fun W hb => HI.out A B hW W hb)
  have HEQ := Lib.hid (fun W p p2 c c2 (hx : TreesAt W A.F p 0) (hy : TreesAt W A.F p2 0) => eqValue_same W A.k A.n A.t A.F p p2 c c2 hfit hlen hx hy)
  have HMK := Lib.hid (fun W v bs (hO : OwnV W v A.F bs) (hnd : bs.Nodup) => markValue_any W A.k A.n A.t A.F 1 v bs (by omega) (by omega) (by omega) hO hnd)
  have HHD := Lib.hid (fun W p c (hx : TreesAt W (A.F.marked 1) p 0) => heldValue_any W A.k A.n A.t A.F 1 p c (by omega) (by omega) (by omega) hx)
  have hml := A.F.marked_length 1
  have HML := Lib.hid hml
  have hkm : 1 + 3 * A.F.count ≤ 128 := by omega
  generalize hkmd : 1 + 3 * A.F.count = km at *
  clear HI hW hcnt hfit hml hkmd
  obtain ⟨p1, c1, rfl, _, hr1⟩ := ho1.reads
  obtain ⟨w2, hw2⟩ : ∃ w2, w2 = w1.alloc (.cells #[.int .i64 A.k, .int .i64 A.n, .string A.t, .slice p1 A.F.length c1] 24) := ⟨_, rfl⟩
  have hB2 : Below w1.heap.size w1 w2 := by rw [hw2]; exact (Below.refl _ _).alloc (Nat.le_refl _) _
  have hn2 : w2.heap[w1.heap.size]? = some (.cells #[.int .i64 A.k, .int .i64 A.n, .string A.t, .slice p1 A.F.length c1] 24 (0, 0)) := by rw [hw2]; exact heap_at_new w1 _
  have hs2 : w2.heap.size = w1.heap.size + 1 := by rw [hw2]; exact Array.size_push _
  have HB2 : Hid (Below w.heap.size w w2) := hb1.trans (hB2.mono hb1.size)
  have H2 : Hid (w2.heap[w1.heap.size]? = some (.cells #[.int .i64 A.k, .int .i64 A.n, .string A.t, .slice p1 A.F.length c1] 24 (0, 0)) ∧ w2.heap.size = w1.heap.size + 1 ∧ OwnV w2 (.slice p1 A.F.length c1) A.F bs1 ∧ (∀ c ∈ bs1, w.heap.size ≤ c ∧ c < w1.heap.size) ∧ w.heap.size ≤ w1.heap.size) := ⟨hn2, hs2, ho1.keep (fun c hc => hB2.block c (hbs1 c hc).2), hbs1, hb1.size⟩
  have HW2 := Lib.hid hw2
  clear hw2 hB2 hn2 hs2 hb1 ho1 hnd1 hbs1 hr1 hlen
  go_wp2_with fail
  rw [← HW2.out]
  refine (HIM.out w2 HB2.out).mono ?_
  rintro e w3 ⟨⟨v3, bs3, rfl, ho3, hnd3, hbs3⟩, hb3⟩
  obtain ⟨p3, c3, rfl, _, hr3⟩ := ho3.reads
  obtain ⟨w4, hw4⟩ : ∃ w4, w4 = w3.alloc (.cells #[.int .i64 A.k, .int .i64 A.n, .string A.t, .slice p3 A.F.length c3] 24) := ⟨_, rfl⟩
  have hB4 : Below w3.heap.size w3 w4 := by rw [hw4]; exact (Below.refl _ _).alloc (Nat.le_refl _) _
  have hn4 : w4.heap[w3.heap.size]? = some (.cells #[.int .i64 A.k, .int .i64 A.n, .string A.t, .slice p3 A.F.length c3] 24 (0, 0)) := by rw [hw4]; exact heap_at_new w3 _
  have hs4 : w4.heap.size = w3.heap.size + 1 := by rw [hw4]; exact Array.size_push _
  have hz3 := (hb3.block w1.heap.size (by have := H2.out.2.1; omega)).trans H2.out.1
  have HST : Hid (ParsedSt w A (.slice p1 A.F.length c1) (.slice p3 A.F.length c3) bs1 w1.heap.size w3.heap.size w4) := ⟨(HB2.out.trans (hb3.mono HB2.out.size)).trans (hB4.mono (Nat.le_trans HB2.out.size hb3.size)), (hB4.block _ (Array.getElem?_eq_some_iff.1 hz3).1).trans hz3, hn4, H2.out.2.2.1.keep (fun c hc => (hB4.block c (by have := H2.out.2.2.2.1 c hc; have := hb3.size; have := H2.out.2.1; omega)).trans (hb3.block c (by have := H2.out.2.2.2.1 c hc; have := H2.out.2.1; omega))), fun c hc => by have := H2.out.2.2.2.1 c hc; have := hb3.size; have := H2.out.2.1; omega⟩
  have HO4 : Hid (OwnV w4 (.slice p3 A.F.length c3) A.F bs3 ∧ bs3.Nodup ∧ ∀ c ∈ bs3, w2.heap.size ≤ c ∧ c < w3.heap.size) := ⟨ho3.keep (fun c hc => hB4.block c (hbs3 c hc).2), hnd3, hbs3⟩
  have HW4 := Lib.hid hw4
  have HS4 : Hid (w2.heap.size ≤ w3.heap.size ∧ w4.heap.size = w3.heap.size + 1) := ⟨hb3.size, hs4⟩
  obtain ⟨y0, y1, y2, y3, _⟩ := four_cells HST.out.zb
  obtain ⟨x0, x1, x2, x3, _⟩ := four_cells HST.out.gb
  rw [hw4] at x0 x1 x2 x3 y0 y1 y2 y3
  clear hw4 hB4 hn4 hs4 hz3 hb3 ho3 hnd3 hbs3 hr3
  have hBB : (B != B) = false := by cases B <;> rfl
  go_wp2_with fail
  rw [← HW4.out]
  have hreadg : TreesAt w4 A.F p3 0 := by obtain ⟨p', c', e', _, h'⟩ := HO4.out.1.reads; cases e'; exact h'
  have hreadz : TreesAt w4 A.F p1 0 := by obtain ⟨p', c', e', _, h'⟩ := HST.out.own.reads; cases e'; exact h'
  refine (HEQ.out w4 p3 p1 c3 c1 hreadg hreadz).mono ?_
  clear x0 x1 x2 x3 y0 y1 y2 y3 hreadg hreadz
  rintro e w5 ⟨rfl, hb5⟩
  have HST5 := Lib.hid (HST.out.below hb5)
  have HO5 : Hid (OwnV w5 (.slice p3 A.F.length c3) A.F bs3) := HO4.out.1.keep (fun c hc => hb5.block c (by have := HO4.out.2.2 c hc; have := HS4.out; omega))
  obtain ⟨x0, x1, x2, x3, _⟩ := four_cells HST5.out.gb
  clear hb5 HST
  go_wp2_with fail
  refine (HMK.out w5 (.slice p3 A.F.length c3) bs3 HO5.out HO4.out.2.1).mono ?_
  clear x0 x1 x2 x3
  rintro e w6 ⟨rfl, hom6, hon6⟩
  have HST6 := Lib.hid (HST5.out.only hon6 (fun c hc => ⟨by have := HO4.out.2.2 c hc; have := HB2.out.size; omega, by have := HO4.out.2.2 c hc; have := H2.out.2.1; omega, by have := HO4.out.2.2 c hc; omega, fun h1 => by have := HO4.out.2.2 c hc; have := H2.out.2.2.2.1 c h1; have := H2.out.2.1; omega⟩))
  have HOM6 : Hid (OwnV w6 (.slice p3 A.F.length c3) (A.F.marked 1) bs3 ∧ ∀ c ∈ bs3, c < w6.heap.size) := ⟨hom6, fun c hc => by have := HO4.out.2.2 c hc; have := Only.size hon6; have := HST5.out.low.size; have := (Array.getElem?_eq_some_iff.1 HST5.out.gb).1; omega⟩
  obtain ⟨x0, x1, x2, x3, _⟩ := four_cells HST6.out.gb
  clear hom6 hon6 HST5 HO5
  have hkm0 : ¬ (km : Int) < 0 := by omega
  have hkk : ((km : Int) != (km : Int)) = false := by simp
  have hmr : TreesAt w6 (A.F.marked 1) p3 0 := by obtain ⟨p', c', e', _, h'⟩ := HOM6.out.1.reads; injection e' with e1 _ _; subst e1; exact h'
  go_wp2_with fail
  refine (HHD.out w6 p3 c3 hmr).mono ?_
  clear x0 x1 x2 x3 hmr
  rintro e w7 ⟨rfl, hb7⟩
  have HST7 := Lib.hid (HST6.out.below hb7)
  have HOM7 : Hid (OwnV w7 (.slice p3 A.F.length c3) (A.F.marked 1) bs3 ∧ ∀ c ∈ bs3, c < w7.heap.size) := ⟨HOM6.out.1.keep (fun c hc => hb7.block c (HOM6.out.2 c hc)), fun c hc => Nat.lt_of_lt_of_le (HOM6.out.2 c hc) hb7.size⟩
  clear hb7 HST6 HOM6
  go_wp2_with fail
  refine (HIM.out w7 HST7.out.low).mono ?_
  rintro e w8 ⟨⟨v8, bs8, rfl, ho8, hnd8, hbs8⟩, hb8⟩
  obtain ⟨p8, c8, rfl, _, hr8⟩ := ho8.reads
  have HST8 := HST7.out.below hb8
  obtain ⟨w9, hw9⟩ : ∃ w9, w9 = w8.alloc (.cells #[.int .i64 A.k, .int .i64 A.n, .string A.t, .slice p8 A.F.length c8] 24) := ⟨_, rfl⟩
  have hB9 : Below w8.heap.size w8 w9 := by rw [hw9]; exact (Below.refl _ _).alloc (Nat.le_refl _) _
  have hn9 : w9.heap[w8.heap.size]? = some (.cells #[.int .i64 A.k, .int .i64 A.n, .string A.t, .slice p8 A.F.length c8] 24 (0, 0)) := by rw [hw9]; exact heap_at_new w8 _
  have HST9 := Lib.hid (HST8.below hB9)
  have HR9 := Lib.hid (hr8.below hB9)
  have HOM9 : Hid (OwnV w9 (.slice p3 A.F.length c3) (A.F.marked 1) bs3 ∧ ∀ c ∈ bs3, c < w9.heap.size) := ⟨HOM7.out.1.keep (fun c hc => (hB9.block c (Nat.lt_of_lt_of_le (HOM7.out.2 c hc) hb8.size)).trans (hb8.block c (HOM7.out.2 c hc))), fun c hc => Nat.lt_of_lt_of_le (HOM7.out.2 c hc) (Nat.le_trans hb8.size hB9.size)⟩
  have HW9 := Lib.hid hw9
  obtain ⟨y0, y1, y2, y3, _⟩ := four_cells HST9.out.zb
  obtain ⟨x0, x1, x2, x3, _⟩ := four_cells hn9
  rw [hw9] at x0 x1 x2 x3 y0 y1 y2 y3
  clear hw9 hB9 hn9 hb8 ho8 hnd8 hbs8 hr8 HST8 HST7 HOM7
  go_wp2_with fail
  rw [← HW9.out]
  have hreadz : TreesAt w9 A.F p1 0 := by obtain ⟨p', c', e', _, h'⟩ := HST9.out.own.reads; cases e'; exact h'
  refine (HEQ.out w9 p8 p1 c8 c1 HR9.out hreadz).mono ?_
  clear x0 x1 x2 x3 y0 y1 y2 y3 hreadz
  rintro e w10 ⟨rfl, hb10⟩
  have HST10 := Lib.hid (HST9.out.below hb10)
  have HOM10 : Hid (OwnV w10 (.slice p3 A.F.length c3) (A.F.marked 1) bs3) := HOM9.out.1.keep (fun c hc => hb10.block c (HOM9.out.2 c hc))
  obtain ⟨x0, x1, x2, x3, _⟩ := four_cells HST10.out.gb
  clear hb10 HST9 HOM9
  have hmr : TreesAt w10 (A.F.marked 1) p3 0 := by obtain ⟨p', c', e', _, h'⟩ := HOM10.out.reads; injection e' with e1 _ _; subst e1; exact h'
  go_wp2_with fail
  refine (HHD.out w10 p3 c3 hmr).mono ?_
  clear x0 x1 x2 x3 hmr
  rintro e w11 ⟨rfl, hb11⟩
  have HBZ : Hid (Below w.heap.size w w11) := HST10.out.low.trans (hb11.mono HST10.out.low.size)
  clear hb11
  go_wp2
  go_ret
  exact ⟨rfl, HBZ.out⟩
end Go.Proofs.YtijbaienhaiamaaDoor
end

/- What is proved here: the wrap of a row that lists variables, with the world's shape handed on; and that the library's variable bytealg.MaxLen holds an integer in such a world. No condition. -/
section
namespace Go.Proofs.YtijbaienhaiamaaDoor
open Go

theorem handed_shaped {H : Type} {enc : TypeId × Value → H} {a : Assume} {C : Checked} {os : Os} {f : FuncId} {fn : Func} {s : ChangeSpec} {conds : List PathCond} {apart fresh handsOn again : Bool} {X : World → Array Value → Prop}
    (hX : ∀ (w w' : World) (args : Array Value), w.heap = w'.heap → X w args → X w' args)
    (own : ownKnob C.prog.godebug = none) (started : os.Started) (noInit : C.prog.inits.idxOf? f = none) (hfn : C.prog.funcs[f]? = some fn)
    (witness : ∃ (w : World) (tape : Tape) (i : Input), w.os = os ∧ (w.forCall tape i).Shaped C.prog ∧ i.vars = [] ∧ Input.okWide C.prog (w.forCall tape i) .any w.heap.size f i ∧
      ((s.pre enc C.prog fn conds apart (w.forCall tape i).memory i.args ∧ X (w.forCall tape i).memory i.args) ∧ sizedMet enc C.prog fn (OpenSpec.ofChange s) apart (w.forCall tape i).memory i.args) ∧ a.holds C.prog (lone (Frame.enter C.prog f i.args .normal) [] (w.forCall tape i)))
    (contract : ∀ (W : World) (base : Nat) (args : Array Value) (ds gs : List (DataW H)) (before : List MemPlace),
      (∀ (j : Nat) t v, fn.params[j]? = some t → args[j]? = some v → Value.okWide C.prog W .any base t v) →
      DataW.Whole enc C.prog fn.params.toList s.vars apart W args.toList ds gs before →
      conds.all (PathCond.test C.prog ⟨fn.params.toList, ds, s.plain.varTypes C.prog, gs⟩) = true →
      (DataW.weightsEach C.prog (fn.params.toList ++ s.plain.varTypes C.prog) (ds ++ gs)).all (· ≤ reachBytes) = true → X W args → W.ShapedOpen C.prog →
      a.holds C.prog (lone (Frame.enter C.prog f args .normal) [] W) →
      Calls C.prog f args W fun e W' => ∃ v, e = .returned v ∧ s.post enc C.prog fn apart fresh handsOn again W args v W') :
    ReturnsInHanded a C os f .any (fun w args => (s.pre enc C.prog fn conds apart w args ∧ X w args) ∧ sizedMet enc C.prog fn (OpenSpec.ofChange s) apart w args) (s.post enc C.prog fn apart fresh handsOn again) := by
  refine returnsInHanded_of_calls own started noInit witness ?_
  intro w tape i _ hsh _ hok hpre hholds
  obtain ⟨_, _, _, fn', hfn', _, _, _, _, hval⟩ := hok
  have e : fn' = fn := Option.some.inj (hfn'.symm.trans hfn)
  subst e
  obtain ⟨⟨⟨ds, gs, before, hw, hc⟩, hx⟩, hz⟩ := hpre
  have hw' := DataW.Whole.of_heap (w' := w.forCall tape i) (by rfl) hw
  refine (contract (w.forCall tape i) w.heap.size i.args ds gs before hval hw' hc (hz.weights hw) (hX _ _ _ (by rfl) hx) hsh hholds).mono fun e W' ⟨v, he, hp⟩ => ?_
  subst he
  exact ChangeSpec.post_blind hp

theorem maxLen_of {W : World} (h : W.ShapedOpen Tryd.prog) : MaxLenVar W :=
  cell_of_shapedOpen_int (t := 3) (zero := #[.int .i64 0]) h (of_decide_eq_true (by kernel_rfl)) (by kernel_rfl) rfl (by kernel_rfl) (by kernel_rfl) Tryd.underlying3
end Go.Proofs.YtijbaienhaiamaaDoor
end

/- What is proved here: what a row lists of the library's variables for Atoi and Itoa gives them. No condition. -/
section
namespace Go.Proofs.YtijbaienhaiamaaDoor
open Go.ChangeShapes Go.WideShapes Go.ChangeAt Go.RowKit

theorem star_eq : "*" ++ "errors.errorString" = "*errors.errorString" := by decide
theorem tab_data : (Rows.laid_internal_strconv_uint64pow10 : DataW Unit) = Lib.tabData .u64 Lib.pow10Tab := by rfl

theorem row_err (u : TypeId) (h : Tryd.prog.typeName? 3 u = some "*errors.errorString") : u = 111 :=
  typeName_ptr_named (nm := "errors.errorString") (by rw [star_eq]; kernel_rfl) (by kernel_rfl) (by decide) u (by rw [star_eq]; exact h)

theorem libVars_of {W : World} (h : laidMetH Tryd.prog [("math/bits.deBruijn32tab", Rows.laid_math_bits_deBruijn32tab), ("math/bits.deBruijn64tab", Rows.laid_math_bits_deBruijn64tab), ("internal/strconv.uint64pow10", Rows.laid_internal_strconv_uint64pow10), ("strconv.ErrRange", Rows.laid_strconv_ErrRange), ("strconv.ErrSyntax", Rows.laid_strconv_ErrSyntax)] W) : LibVars W := by
  rw [MakeChecks.laidMetH_plain _ _ _ (by kernel_rfl)] at h
  have h2 := laidMet.tail (laidMet.tail h)
  have h3 := laidMet.tail h2
  have h4 := laidMet.tail h3
  rw [tab_data] at h2
  obtain ⟨a, _, hr, _⟩ := laid_sentinel (g := 2) h3 (by kernel_rfl) (by kernel_rfl) Tryd.underlying82 row_err Tryd.underlying111 Tryd.underlying113 rfl rfl Tryd.underlying9 (by kernel_rfl) (by kernel_rfl)
  obtain ⟨b, _, hs, _⟩ := laid_sentinel (g := 1) h4 (by kernel_rfl) (by kernel_rfl) Tryd.underlying82 row_err Tryd.underlying111 Tryd.underlying113 rfl rfl Tryd.underlying9 (by kernel_rfl) (by kernel_rfl)
  exact ⟨Lib.tabIs_of_head (g := 3) (t := 120) (e := 101) (n := 20) (by kernel_rfl) (by kernel_rfl) Tryd.underlying120 Tryd.underlying101 (by kernel_rfl) (by kernel_rfl) h2, ⟨_, _, hs⟩, ⟨_, _, hr⟩⟩

end Go.Proofs.YtijbaienhaiamaaDoor
end

/- What is proved here: FnExactParseValue holds for every argument (the frame round its walk). Condition: none beyond the statement's own (the listed variables read as start-up lays them; the card ties them). -/
section
namespace Go.Proofs.YtijbaienhaiamaaDoor
open Go.ChangeShapes Go.WideShapes Go.ChangeAt Go.RowKit
open Go.ChangeMaps (open_string shut_string)
set_option maxRecDepth 100000 in
theorem fnExactParseValue_lifted (os : Os) (started : os.Started) (H : Type) (enc : TypeId × Value → H) :
    ReturnsInHanded {} Tryd.checked os 3 .any (fun w args => (Rows.fnExactParseValueSpec.pre enc Tryd.prog Tryd.f3 [] false w args ∧ laidMetH Tryd.prog Rows.fnExactParseValueRow.laid w) ∧ sizedMet enc Tryd.prog Tryd.f3 (OpenSpec.ofChange Rows.fnExactParseValueSpec) false w args)
      (Rows.fnExactParseValueSpec.post enc Tryd.prog Tryd.f3 false true false false) := by
  refine handed_shaped (C := Tryd.checked) (X := fun w _ => laidMetH Tryd.prog Rows.fnExactParseValueRow.laid w) (fun _ _ _ hh h => h.of_heap hh) own started (by kernel_rfl) Tryd.func3
    (ChangeSpec.witness_shaped (enc := enc) (C := Tryd.checked) (os := os) (X := fun w _ => laidMetH Tryd.prog Rows.fnExactParseValueRow.laid w) false (World.laidAll Tryd.prog os Rows.fnExactParseValueRow.laid) #[.string ⟨#[]⟩] 8 (World.laidAll_os _ _ _)
      (World.shaped_of_ZipB (by kernel_rfl) (by kernel_rfl)) (by kernel_rfl) (by kernel_rfl) (by kernel_rfl)
      (by rw [MakeChecks.laidMetH_plain _ _ _ (by kernel_rfl)]; exact laidMet_laidAll _ (by kernel_rfl) (by kernel_rfl))) ?_
  intro W base args ds gs before hval0 hW _ hsz hL hsh _
  have hval : ∀ (j : Nat) t v, Tryd.f3.params[j]? = some t → args[j]? = some v → Value.okWide Tryd.prog W .any base t v := hval0
  have hW' := hW
  obtain ⟨p, q, hA0, hV, rfl, hfz, hnd⟩ := hW
  have hA : DataW.TrodAll enc Tryd.prog W 0 (fun _ => true) true Tryd.f3.params.toList args.toList ds p := hA0
  rw [Tryd.params3] at hA hval
  obtain ⟨v0, vs0, d0, ds0, p0, q0, hargs, rfl, rfl, h0, r0⟩ := trodAll_cons hA
  obtain ⟨rfl, rfl, rfl⟩ := trodAll_nil r0
  obtain rfl : args = #[v0] := by cases args; simp_all
  obtain ⟨rfl, rfl⟩ := trodVars_none hV
  obtain ⟨a0, rfl, rfl, rfl, w0⟩ := open_string Tryd.underlying9 (hval 0 9 v0 rfl rfl) h0
  clear hA0 hval0
  simp only [List.append_nil] at hW'
  refine (fnExactParseValue_walk a0 w0 W ⟨libVars_of hL, maxLen_of hsh⟩).mono fun e W' ⟨he, bel⟩ => ?_
  subst he
  exact ⟨_, rfl, _, _, _, [], _, [], hW', trodAll_mk1 (shut_bool Tryd.underlying4 _), (trodAll_cons_mk (shut_string Tryd.underlying9 w0) trodAll_mk0), rfl, bel.frame _, fun h => by cases h⟩

theorem fnExactParseValue_row : Rows.FnExactParseValueSaid :=
  OpenClaim.holds_of_wide 3 Tryd.f3 rfl rfl rfl rfl rfl rfl rfl ⟨rfl, rfl, rfl, rfl, rfl⟩ rfl rfl rfl rfl rfl (by kernel_rfl) Tryd.func3 (by kernel_rfl)
    (of_decide_eq_true (by kernel_rfl)) (by unfold Func.isWrapper; first | (rw [if_pos (by decide +kernel)]; kernel_rfl) | (rw [if_neg (by decide +kernel)]; exact ⟨rfl, rfl⟩))
    (fun os started H enc _ => fnExactParseValue_lifted os started H enc)

theorem fnExactParseValue_holds : Rows.FnExactParseValueCardSaid :=
  Claim7.holds_tied_plain_at .later [] [.data, .data, .data, .sentinel, .sentinel] true Rows.fnExactParseValueCard.stood.harness true
    fnExactParseValue_row (fun _ h => by cases h) (by kernel_rfl) (fun _ h => by cases h) fnExactParseValue_row_tie rfl ⟨rfl, rfl⟩ (by kernel_rfl) rfl
    (fun f fn hf hfn => by
      obtain rfl : f = 3 := Option.some.inj ((show Tryd.prog.funcNamed "loop.example/g00519/laws.FnExactParseValue" = some 3 by kernel_rfl).symm.trans hf) |>.symm
      obtain rfl : fn = Tryd.f3 := (Option.some.inj (Tryd.func3.symm.trans hfn)).symm
      exact ⟨by kernel_rfl, fun j t ht => by
        rw [Tryd.params3] at ht
        have hm : t ∈ [9] := by simpa using Array.mem_of_getElem? ht
        have hall : ([9].all fun u => !Tryd.prog.wantsStandIn u) = true := by kernel_rfl
        exact (show Tryd.prog.wantsStandIn t = false by simpa using List.all_eq_true.1 hall t hm)⟩)
    (by kernel_rfl)
end Go.Proofs.YtijbaienhaiamaaDoor
end
