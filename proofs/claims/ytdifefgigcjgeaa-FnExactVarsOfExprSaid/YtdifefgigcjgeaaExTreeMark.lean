/- What is proved here: the laws mark every node of an expression (markValue). Conditions: the value lies in memory of the call's own; small numbers. -/
import Derived.Test.YtdifefgigcjgeaaMarkedTrees
import Derived.Test.YtdifefgigcjgeaaTreeCells
import Derived.Deep.RegionHeld3
import Derived.Test.YtdifefgigcjgeaaExTreeOwn
import Derived.Test.YtdifefgigcjgeaaOnly
namespace Go.Proofs.Ytdifefgigcjgeaa.Ex
open Go.RowKit

theorem NodeBlock.set {w : World} {g : Nat} (h : NodeBlock w g) (o : Nat) (u : Value) : NodeBlock (w.setCell ⟨g, o, none⟩ u) g := by
  obtain ⟨cs, h⟩ := h
  exact ⟨cs.setIfInBounds o u, by simp [World.setCell, Array.getElem?_modify, h]⟩
theorem NodeBlock.same {w w' : World} {g : Nat} (h : NodeBlock w g) (e : w'.heap[g]? = w.heap[g]?) : NodeBlock w' g := by
  obtain ⟨cs, h⟩ := h
  exact ⟨cs, e.trans h⟩

theorem cell_other (w : World) (g o o' : Nat) (u : Value) (h : o ≠ o') : (w.setCell ⟨g, o, none⟩ u).cell? ⟨g, o', none⟩ = w.cell? ⟨g, o', none⟩ :=
  World.cell?_setCell_other _ _ _ _ (fun e => h (by injection e))

/-- One node more is marked. -/
theorem RowIn.mark {wr w4 : World} {pre r ar2 : Trees} {g : Nat} {b1 c1 c2 : List Nat} {k n : Int} {t : ByteArray} {v : Value} (hpre : RowIn wr pre g 0 b1) (hr : RowIn wr r g (pre.length + 1) c2)
    (h0 : w4.cell? ⟨g, pre.length * 4, none⟩ = some (.int .i64 k)) (h1 : w4.cell? ⟨g, pre.length * 4 + 1, none⟩ = some (.int .i64 n)) (h2 : w4.cell? ⟨g, pre.length * 4 + 2, none⟩ = some (.string t)) (h3 : w4.cell? ⟨g, pre.length * 4 + 3, none⟩ = some v) (ho : OwnV w4 v ar2 c1)
    (hc : ∀ o, (o < pre.length * 4 ∨ pre.length * 4 + 4 ≤ o) → w4.cell? ⟨g, o, none⟩ = wr.cell? ⟨g, o, none⟩) (hb1 : ∀ b ∈ b1, w4.heap[b]? = wr.heap[b]?) (hb2 : ∀ b ∈ c2, w4.heap[b]? = wr.heap[b]?) :
    RowIn w4 (pre.snoc k n t ar2) g 0 (b1 ++ c1) ∧ RowIn w4 r g (pre.length + 1) c2 := by
  refine ⟨(RowIn.append _ _ _ _ _).2 ⟨b1, c1, rfl, hpre.keep pre g 0 b1 (fun o _ ho2 => hc o (.inl (by omega))) hb1, v, c1, [], by simp, ?_, ?_, ?_, ?_, ho, rfl⟩, hr.keep r g _ c2 (fun o ho1 _ => hc o (.inr (by omega))) hb2⟩
  · rw [Nat.zero_add]; exact h0
  · rw [Nat.zero_add]; exact h1
  · rw [Nat.zero_add]; exact h2
  · rw [Nat.zero_add]; exact h3

def MarksV (F : Trees) : Prop := F.count ≤ 1048576 → ∀ (k : Nat), 1 ≤ k → k + 3 * F.count ≤ 16777216 → ∀ (w : World) (v : Value) (bs : List Nat), OwnV w v F bs → bs.Nodup →
    Calls Try.prog 53 #[v, .int .i64 (k : Int)] w fun e w' => e = .returned (.int .i64 ((k + 3 * F.count : Nat) : Int)) ∧ OwnV w' v (F.marked k) bs ∧ Only (fun b => b ∈ bs) w w'

set_option maxHeartbeats 2000000 in
set_option maxRecDepth 100000 in
theorem markValueS_any : ∀ F : Trees, MarksV F := by
  refine Trees.ind fun F hall hc k hk hkc w v bs hO hnd => ?_
  have hlc := F.length_le_count
  generalize hz : k + 3 * F.count = z at *
  rcases hO with ⟨a, cap, rfl, rfl, rfl⟩ | ⟨g, cap, b', rfl, hcap, rfl, hN, hrow⟩
  · obtain rfl : k = z := hz
    go_enter Try.func53, Try.ntmps53
    go_wp2
    go_loopw [1, 5] (fun q i wr => i = .int .i64 0 ∧ q = .int .i64 (k : Int) ∧ Hid (wr = w)) (fun _ _ _ => 0)
    case atStart => exact ⟨rfl, rfl, rfl⟩
    case round =>
      obtain ⟨rfl, rfl, hw⟩ := hrel
      go_wp2
      go_ret
      rw [hw.out]
      exact ⟨rfl, .inl ⟨a, cap, rfl, rfl, rfl⟩, Only.refl _ _⟩
  · have HALL := Lib.hid hall
    have HROW := Lib.hid hrow
    have HN := Lib.hid hN
    have HND := Lib.hid hnd
    have HZ := Lib.hid hz
    have HCAP := Lib.hid hcap
    clear hall hrow hN hnd hz hcap
    generalize hn : F.length = nn at *
    have HL := Lib.hid hn
    clear hn
    go_enter Try.func53, Try.ntmps53
    go_wp2
    go_loopw [1, 5] (fun q i wr => ∃ (j m : Nat) (pre rest : Trees) (b1 b2 : List Nat), i = .int .i64 j ∧ q = .int .i64 m ∧ j + rest.length = nn ∧ m + 3 * rest.count = z ∧ 1 ≤ m ∧ Hid (pre.length = j) ∧ Hid (pre.append (rest.marked m) = F.marked k) ∧ Hid (b' = b1 ++ b2) ∧ Hid (RowIn wr pre g 0 b1 ∧ RowIn wr rest g j b2 ∧ NodeBlock wr g) ∧ Hid (rest.count ≤ 1048576) ∧ Hid (rest.All MarksV) ∧ Hid (Only (fun b => b ∈ g :: b') w wr)) (fun _ i _ => nn - (intOf i).toNat)
    case atStart => exact ⟨0, k, .nil, F, [], b', rfl, rfl, by rw [HL.out]; omega, HZ.out, hk, rfl, rfl, rfl, ⟨rfl, HROW.out, HN.out⟩, hc, HALL, Only.refl _ _⟩
    case round =>
      obtain ⟨j, m, pre, rest, b1, b2, rfl, rfl, hjn, hmz, hm1, HPJ, hT, hbb, hR, hcr, hall, hO⟩ := hrel
      cases rest with
      | nil =>
        obtain rfl : j = nn := by simp only [Trees.length] at hjn; omega
        obtain rfl : m = z := by simp only [Trees.count] at hmz; omega
        have hb2 : b2 = [] := hR.out.2.1
        subst hb2
        have HT2 : Hid (pre = F.marked k) := by have := hT.out; rwa [Trees.marked, Trees.append_nil] at this
        have HB2 : Hid (b' = b1) := by have := hbb.out; rwa [List.append_nil] at this
        clear hcr hall hT hbb
        go_wp2
        go_ret
        refine ⟨rfl, .inr ⟨g, cap, b', ?_, ?_, rfl, hR.out.2.2, ?_⟩, hO.out⟩
        · rw [Trees.marked_length, HL.out]
        · rw [Trees.marked_length, HL.out]; exact HCAP.out
        · rw [← HT2.out, HB2.out]; exact hR.out.1
      | cons kd nu tx ar r =>
        have hjl : j < nn := by simp only [Trees.length] at hjn; omega
        have hjn2 : j + 1 + r.length = nn := by simp only [Trees.length] at hjn; omega
        have hcr2 := hcr.out
        simp only [Trees.count] at hcr2
        have hmz2 : m + 3 + 3 * ar.count + 3 * r.count = z := by simp only [Trees.count] at hmz; omega
        obtain ⟨hpre, ⟨v, c1, c2, hb2, h0, h1, h2, h3, hov, hr⟩, hN⟩ := hR.out
        subst hb2
        have hov2 : OwnV wr v ar c1 := hov
        have hnd2 := HND.out
        rw [hbb.out] at hnd2
        have hgb := (List.nodup_cons.1 hnd2).1
        have hnd3 := (List.nodup_cons.1 hnd2).2
        have hnd4 := (List.nodup_append.1 hnd3).2.1
        have hnc1 := (List.nodup_append.1 hnd4).1
        have hgl := hN.lt
        obtain ⟨p2, cap2, hv2, _, _⟩ := hov2.reads
        subst hv2
        -- the worlds of the round
        have d0 := hN.free (j * 4)
        have d1 := hN.free (j * 4 + 1)
        obtain ⟨w1, hw1⟩ : ∃ w1, w1 = (wr.setCell ⟨g, j * 4, none⟩ (.int .i64 (m : Int))).setCell ⟨g, j * 4 + 1, none⟩ (.int .i64 ((m : Int) + 1)) := ⟨_, rfl⟩
        have hN1 : NodeBlock w1 g := by rw [hw1]; exact (hN.set _ _).set _ _
        have s1 : w1.heap.size = wr.heap.size := by rw [hw1]; simp [World.setCell]
        have eo : ∀ o, o ≠ j * 4 → o ≠ j * 4 + 1 → w1.cell? ⟨g, o, none⟩ = wr.cell? ⟨g, o, none⟩ := fun o ha hb => by rw [hw1, cell_other _ _ _ _ _ (Ne.symm hb), cell_other _ _ _ _ _ (Ne.symm ha)]
        have e0 : w1.cell? ⟨g, j * 4, none⟩ = some (.int .i64 (m : Int)) := by rw [hw1, cell_other _ _ _ _ _ (by omega), World.cell?_setCell_same' _ _ _ (by rw [h0]; rfl)]
        have e1 : w1.cell? ⟨g, j * 4 + 1, none⟩ = some (.int .i64 ((m : Int) + 1)) := by rw [hw1, World.cell?_setCell_same' _ _ _ (by rw [cell_other _ _ _ _ _ (by omega), h1]; rfl)]
        have e2 := (eo (j * 4 + 2) (by omega) (by omega)).trans h2
        have e3 := (eo (j * 4 + 3) (by omega) (by omega)).trans h3
        have eb : ∀ b, b ≠ g → w1.heap[b]? = wr.heap[b]? := fun b hb => by rw [hw1, Below.heap_setCell _ _ _ _ hb, Below.heap_setCell _ _ _ _ hb]
        have oW : Only (fun b => b ∈ g :: b') wr w1 := by rw [hw1]; exact (Only.setCell (p := ⟨g, j * 4, none⟩) (by simp) _).trans (Only.setCell (p := ⟨g, j * 4 + 1, none⟩) (by simp) _)
        have HW1 := Lib.hid hw1
        have HN1 := Lib.hid hN1
        have HS1 := Lib.hid s1
        have HEO := Lib.hid eo
        have HE0 := Lib.hid e0
        have HE1 := Lib.hid e1
        have HE2 := Lib.hid e2
        have HE3 := Lib.hid e3
        have HEB := Lib.hid eb
        have HOW1 : Hid (Only (fun b => b ∈ g :: b') w w1) := hO.out.trans oW
        have HPRE := Lib.hid hpre
        have HRR := Lib.hid hr
        have HOV := Lib.hid hov2
        have HGL := Lib.hid hgl
        have HBL : Hid (∀ b ∈ b1 ++ (c1 ++ c2), b < wr.heap.size) := fun b hb => by
          rcases List.mem_append.1 hb with h | h
          · exact (hpre.blocks pre g 0 b1 b h).lt
          · rcases List.mem_append.1 h with h | h
            · exact (hov2.blocks b h).lt
            · exact (hr.blocks r g _ c2 b h).lt
        have HGN : Hid (∀ b ∈ b1 ++ (c1 ++ c2), b ≠ g) := fun b hb e => hgb (e ▸ hb)
        have HND1 := Lib.hid hnc1
        have HD1 : Hid (∀ b ∈ b1, b ∉ c1) := fun b hb hc => (List.nodup_append.1 hnd3).2.2 b hb b (List.mem_append_left _ hc) rfl
        have HD2 : Hid (∀ b ∈ c2, b ∉ c1) := fun b hb hc => (List.nodup_append.1 hnd4).2.2 b hc b hb rfl
        have HMV := Lib.hid hall.out.1
        have HA2 := Lib.hid hall.out.2
        have HCA : Hid (ar.count ≤ 1048576) := by unfold Hid; omega
        have HCR : Hid (r.count ≤ 1048576) := by unfold Hid; omega
        have HKA : Hid (m + 3 + 3 * ar.count ≤ 16777216) := by unfold Hid; omega
        have HM2 := Lib.hid hmz2
        have hmb : m ≤ 16777216 := by omega
        have hT2 := hT.out
        rw [Trees.marked, ← Trees.snoc_append] at hT2
        have HT2 := Lib.hid hT2
        have HBB : Hid (b' = (b1 ++ c1) ++ c2) := by unfold Hid; rw [hbb.out, List.append_assoc]
        have HINC : Hid (∀ b ∈ c1, b ∈ g :: b') := fun b hb => by rw [hbb.out]; simp [hb]
        clear hw1 hN1 s1 eo e0 e1 e2 e3 eb oW hpre hr hov hov2 hgl hgb hnd2 hnd3 hnd4 hnc1 hall hcr hcr2 hmz2 hmz hT hT2 hbb hR hN hO hjn h2 h3
        go_wp2_with fail
        rw [← HW1.out]
        refine (markText_any (m + 2) (by omega) (by omega) _).mono ?_
        rintro e w2 ⟨rfl, hb2⟩
        have hgl2 : g < w1.heap.size := HN1.out.lt
        have k2 := cell_below HE2.out hb2
        have k3 := cell_below HE3.out hb2
        have hN2 : NodeBlock w2 g := HN1.out.same (hb2.block g hgl2)
        have f2 := hN2.free (j * 4 + 2)
        have k3' : (w2.setCell ⟨g, j * 4 + 2, none⟩ (.string (mt (m + 2)))).cell? ⟨g, j * 4 + 3, none⟩ = some (.slice p2 ar.length cap2) := by rw [cell_other _ _ _ _ _ (by omega)]; exact k3
        obtain ⟨w3, hw3⟩ : ∃ w3, w3 = w2.setCell ⟨g, j * 4 + 2, none⟩ (.string (mt (m + 2))) := ⟨_, rfl⟩
        have hs3 : w3.heap.size = w2.heap.size := by rw [hw3]; simp [World.setCell]
        have q3 : ∀ b, b ≠ g → b < wr.heap.size → w3.heap[b]? = wr.heap[b]? := fun b hb hl => by
          rw [hw3, Below.heap_setCell _ _ _ _ hb, hb2.block b (by rw [HS1.out]; exact hl)]
          exact HEB.out b hb
        have qo : ∀ o, (o < j * 4 ∨ j * 4 + 4 ≤ o) → w3.cell? ⟨g, o, none⟩ = wr.cell? ⟨g, o, none⟩ := fun o ho => by
          rw [hw3, cell_other _ _ _ _ _ (by omega), World.cell?_of_block (a := ⟨g, o, none⟩) (hb2.block g hgl2)]
          exact HEO.out o (by omega) (by omega)
        have q0 : w3.cell? ⟨g, j * 4, none⟩ = some (.int .i64 (m : Int)) := by rw [hw3, cell_other _ _ _ _ _ (by omega)]; exact cell_below HE0.out hb2
        have q1 : w3.cell? ⟨g, j * 4 + 1, none⟩ = some (.int .i64 ((m : Int) + 1)) := by rw [hw3, cell_other _ _ _ _ _ (by omega)]; exact cell_below HE1.out hb2
        have q2 : w3.cell? ⟨g, j * 4 + 2, none⟩ = some (.string (mt (m + 2))) := by rw [hw3, World.cell?_setCell_same' _ _ _ (by rw [k2]; rfl)]
        have q4 : w3.cell? ⟨g, j * 4 + 3, none⟩ = some (.slice p2 ar.length cap2) := by rw [hw3]; exact k3'
        have hN3 : NodeBlock w3 g := by rw [hw3]; exact hN2.set _ _
        have HOW3 : Hid (Only (fun b => b ∈ g :: b') w w3) := by
          unfold Hid
          rw [hw3]
          exact (HOW1.out.trans (Only.of_below hb2)).trans (Only.setCell (p := ⟨g, j * 4 + 2, none⟩) (by simp) _)
        have HOV3 : Hid (OwnV w3 (.slice p2 ar.length cap2) ar c1) := HOV.out.keep (fun b hb => q3 b (HGN.out b (by simp [hb])) (HBL.out b (by simp [hb])))
        have HW3 := Lib.hid hw3
        have HQ3 := Lib.hid q3
        have HQO := Lib.hid qo
        have HQ0 := Lib.hid q0
        have HQ1 := Lib.hid q1
        have HQ2 := Lib.hid q2
        have HQ4 := Lib.hid q4
        have HN3 := Lib.hid hN3
        have HSL : Hid (wr.heap.size ≤ w3.heap.size) := by unfold Hid; rw [hs3, ← HS1.out]; exact hb2.size
        clear hw3 hs3 q3 qo q0 q1 q2 q4 hN3 hN2 hb2 k3 hgl2
        go_wp2_with fail
        rw [← HW3.out]
        refine (HMV.out HCA.out (m + 3) (by omega) HKA.out w3 _ c1 HOV3.out HND1.out).mono ?_
        rintro e w4 ⟨rfl, ho4, hon⟩
        have hg3 := HN3.out.lt
        have hgc : ¬ g ∈ c1 := fun h => HGN.out g (by simp [h]) rfl
        have hgk := hon.block g hg3 hgc
        have hRM := RowIn.mark (wr := wr) (w4 := w4) (k := (m : Int)) (n := ((m + 1 : Nat) : Int)) (t := mt (m + 2)) HPRE.out (by rw [HPJ.out]; exact HRR.out)
          (by rw [HPJ.out, World.cell?_of_block (a := ⟨g, j * 4, none⟩) hgk]; exact HQ0.out) (by rw [HPJ.out, World.cell?_of_block (a := ⟨g, j * 4 + 1, none⟩) hgk]; exact HQ1.out) (by rw [HPJ.out, World.cell?_of_block (a := ⟨g, j * 4 + 2, none⟩) hgk]; exact HQ2.out) (by rw [HPJ.out, World.cell?_of_block (a := ⟨g, j * 4 + 3, none⟩) hgk]; exact HQ4.out) ho4
          (fun o ho => by rw [HPJ.out] at ho; rw [World.cell?_of_block (a := ⟨g, o, none⟩) hgk]; exact HQO.out o ho)
          (fun b hb => (hon.block b (Nat.lt_of_lt_of_le (HBL.out b (by simp [hb])) HSL.out) (HD1.out b hb)).trans (HQ3.out b (HGN.out b (by simp [hb])) (HBL.out b (by simp [hb]))))
          (fun b hb => (hon.block b (Nat.lt_of_lt_of_le (HBL.out b (by simp [hb])) HSL.out) (HD2.out b hb)).trans (HQ3.out b (HGN.out b (by simp [hb])) (HBL.out b (by simp [hb]))))
        have HRM : Hid (RowIn w4 (pre.snoc (m : Int) ((m + 1 : Nat) : Int) (mt (m + 2)) (ar.marked (m + 3))) g 0 (b1 ++ c1) ∧ RowIn w4 r g (j + 1) c2 ∧ NodeBlock w4 g) := ⟨hRM.1, by have := hRM.2; rwa [HPJ.out] at this, HN3.out.same hgk⟩
        have HPL : Hid ((pre.snoc (m : Int) ((m + 1 : Nat) : Int) (mt (m + 2)) (ar.marked (m + 3))).length = j + 1) := by unfold Hid; rw [Trees.snoc_length, HPJ.out]
        have HOW4 : Hid (Only (fun b => b ∈ g :: b') w w4) := HOW3.out.trans (hon.wider (fun b hb => HINC.out b hb))
        clear ho4 hon hg3 hgc hgk hRM k3' k2 f2 h0 h1 d0 d1
        generalize pre.snoc (m : Int) ((m + 1 : Nat) : Int) (mt (m + 2)) (ar.marked (m + 3)) = pre2 at *
        generalize hd : 3 * ar.count = d at *
        have hmz3 := HM2.out
        have hkb := HKA.out
        go_wp2
        go_roundw
        case rel => exact ⟨j + 1, m + 3 + d, pre2, r, b1 ++ c1, c2, by go_num, by go_num, hjn2, hmz3, by omega, HPL, HT2, HBB, HRM, HCR, HA2, HOW4⟩
        case measure => simp [intOf]; omega

set_option maxRecDepth 100000 in
theorem markValue_any (w : World) (a n : Int) (t : ByteArray) (F : Trees) (k : Nat) (v : Value) (bs : List Nat) (hc : F.count ≤ 1048576) (hk : 1 ≤ k) (hkc : k + 3 * F.count ≤ 16777216) (hO : OwnV w v F bs) (hnd : bs.Nodup) :
    Calls Try.prog 21 #[.agg #[.int .i64 a, .int .i64 n, .string t, v], .int .i64 (k : Int)] w fun e w' => e = .returned (.int .i64 ((k + 3 * F.count : Nat) : Int)) ∧ OwnV w' v (F.marked k) bs ∧ Only (fun b => b ∈ bs) w w' := by
  have hbl : ∀ b ∈ bs, b < w.heap.size := fun b hb => (hO.blocks b hb).lt
  obtain ⟨p, cap, hv, _, _⟩ := hO.reads
  subst hv
  have hB : Below w.heap.size w (w.alloc (.cells #[.int .i64 a, .int .i64 n, .string t, .slice p F.length cap] 40)) := (Below.refl _ _).alloc (Nat.le_refl _) _
  have H := Lib.hid (markValueS_any F hc k hk hkc (w.alloc (.cells #[.int .i64 a, .int .i64 n, .string t, .slice p F.length cap] 40)) (.slice p F.length cap) bs (hO.keep (fun b hb => hB.block b (hbl b hb))) hnd)
  have HB := Lib.hid hB
  clear hO hnd hbl hB
  generalize k + 3 * F.count = z at *
  generalize F.marked k = G at *
  go_enter Try.func21, Try.ntmps21
  go_wp2_with fail
  refine H.out.mono ?_
  rintro e w1 ⟨rfl, ho, hon⟩
  have HO := Lib.hid ho
  have HON := Lib.hid hon
  clear ho hon H
  go_wp2
  go_ret
  exact ⟨rfl, HO.out, (Only.of_below HB.out).trans HON.out⟩
end Go.Proofs.Ytdifefgigcjgeaa.Ex
