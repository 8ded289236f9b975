/- What is proved here: the model's and the program's FormatOccurrence. Condition: the slice reads as the list, of at most 1048576 ints; the table of the powers of ten is as listed. -/
import Derived.Test.YtcalgjggmgnofaaDoorInts
import Derived.Test.YtcalgjggmgnofaaDoorFormatKey
import Derived.Test.YtcalgjggmgnofaaDoorJoined
import Derived.Test.YtcalgjggmgnofaaDoorBlock
import Derived.Test.YtcalgjggmgnofaaDoorBytes
namespace Go.Proofs.YtcalgjggmgnofaaDoor
open Go.RowKit

/-- "v", and each index behind a point. -/
def occText : List Int → List UInt8 → List UInt8
  | [], acc => acc
  | z :: zs, acc => occText zs (acc ++ [46] ++ Lib.itoa z)
def occOf (zs : List Int) : List UInt8 := occText zs [118]
theorem occText_snoc (zs : List Int) (z : Int) : ∀ acc, occText (zs ++ [z]) acc = occText zs acc ++ [46] ++ Lib.itoa z := by
  induction zs with
  | nil => intro acc; rfl
  | cons x xs ih => intro acc; exact ih _
theorem occ_take (zs : List Int) (k : Nat) (h : k < zs.length) : occOf (zs.take (k + 1)) = occOf (zs.take k) ++ [46] ++ Lib.itoa zs[k] := by
  unfold occOf
  rw [List.take_succ_eq_append_getElem h, occText_snoc]
theorem occ_len (zs : List Int) (hf : fitsI zs) : (occOf zs).length ≤ 1 + 22 * zs.length := by
  have h : ∀ zs : List Int, fitsI zs → ∀ acc, (occText zs acc).length ≤ acc.length + 22 * zs.length := by
    intro zs
    induction zs with
    | nil => intro _ acc; simp [occText]
    | cons z zs ih =>
      intro hf acc
      have h1 := ih (fun x hx => hf x (List.mem_cons_of_mem _ hx)) (acc ++ [46] ++ Lib.itoa z)
      have h2 := hf z (List.mem_cons_self ..)
      have h3 := itoa_len z h2.1 h2.2
      simp only [occText, List.length_append, List.length_cons, List.length_nil] at h1 ⊢
      omega
  have := h zs hf [118]
  simpa [occOf, Nat.add_comm] using this
theorem occ_take_len (zs : List Int) (hf : fitsI zs) (k : Nat) : (occOf (zs.take k)).length ≤ 1 + 22 * zs.length := by
  have h1 := occ_len (zs.take k) (fun x hx => hf x (List.mem_of_mem_take hx))
  have h2 : (zs.take k).length ≤ zs.length := by rw [List.length_take]; omega
  omega

set_option maxHeartbeats 1000000 in
set_option maxRecDepth 100000 in
theorem spec_formatOcc (w : World) (a : Option Addr) (cap : Nat) (zs : List Int) (hx : ReadsI w a zs) (hf : fitsI zs) (hm : zs.length ≤ 1048576) :
    Calls Tryd.prog 14 #[.slice a zs.length cap] w fun e w' => e = .returned (.string (str (occOf zs))) ∧ Below w.heap.size w w' := by
  have HX := Lib.hid hx
  have HF := Lib.hid hf
  have HL := Lib.hid (fun k => occ_take_len zs hf k)
  clear hx hf
  generalize hn : zs.length = n at *
  have HN := Lib.hid hn
  clear hn
  go_enter Tryd.func14, Tryd.ntmps14
  go_wp2
  go_loopw [3, 4] (fun o i wr => ∃ (k : Nat) (s : ByteArray), k ≤ n ∧ i = .int .i64 k ∧ o = .string s ∧ Hid (s = str (occOf (zs.take k))) ∧ Hid (Below w.heap.size w wr)) (fun _ i _ => n - (intOf i).toNat)
  case atStart => exact ⟨0, _, Nat.zero_le _, rfl, rfl, rfl, Below.refl _ _⟩
  case round =>
    obtain ⟨k, s, hk, rfl, rfl, hS, hB⟩ := hrel
    by_cases hlt : k < n
    · have hk' : k < zs.length := by rw [HN.out]; exact hlt
      obtain ⟨y, rfl, hc⟩ := (readsI_below HX.out hB.out) k hk'
      have hb := HF.out _ (List.getElem_mem (l := zs) (n := k) hk')
      have hst := occ_take zs k hk'
      have hl0 := HL.out k
      have hl1 := HL.out (k + 1)
      rw [hst] at hl1
      generalize zs[k] = z at hc hb hst hl1
      have HFM := Lib.hid (fun w => spec_format z hb.1 hb.2 w)
      simp only [List.length_append, List.length_cons, List.length_nil] at hl1
      have hc1 := fun w => catK (occOf (zs.take k)) [46] (by simp; omega) w
      have hc2 := fun w => catK (occOf (zs.take k) ++ [46]) (Lib.itoa z) (by simp; omega) w
      rw [← hS.out] at hc1
      change ∀ w, (Op.stringOp .add s ⟨#[46]⟩).run Tryd.prog w = _ at hc1
      change ∀ w, (Op.stringOp .add (str (occOf (zs.take k) ++ [46])) ⟨(Lib.itoa z).toArray⟩).run Tryd.prog w = _ at hc2
      rw [← hst] at hc2
      generalize hs2 : str (occOf (zs.take (k + 1))) = s2 at *
      have HS2 : Hid (s2 = str (occOf (zs.take (k + 1)))) := hs2.symm
      generalize str (occOf (zs.take k) ++ [46]) = s1 at *
      generalize (⟨(Lib.itoa z).toArray⟩ : ByteArray) = s3 at *
      clear hb hst hl0 hl1 hs2 hS
      go_wp2_with fail
      refine (HFM.out wr).mono ?_
      rintro e w1 ⟨rfl, hb1⟩
      have HB1 : Hid (Below w.heap.size w w1) := hB.out.trans (hb1.mono hB.out.size)
      clear hb1 HFM
      go_wp2
      go_roundw
      case rel => exact ⟨k + 1, s2, by omega, by go_num, rfl, HS2, HB1⟩
      case measure => simp [intOf]; omega
    · obtain rfl : k = n := by omega
      have hs := hS.out
      rw [List.take_of_length_le (by have := HN.out; omega)] at hs
      subst hs
      clear hS
      go_wp2
      go_ret
      exact ⟨rfl, hB.out⟩

/-- The parts that the program joins. -/
def occParts (zs : List Int) : List ByteArray := str [118] :: zs.map fun z => str (Lib.itoa z)
theorem occ_join (zs : List Int) : joined (occParts zs) (str [46]) = occOf zs := by
  have h : ∀ zs : List Int, ∀ acc, occText zs acc = acc ++ Lib.joinTail [46] (zs.map Lib.itoa) := by
    intro zs
    induction zs with
    | nil => intro acc; simp [occText, Lib.joinTail]
    | cons z zs ih =>
      intro acc
      rw [occText, ih]
      simp [Lib.joinTail]
  unfold joined occParts occOf
  rw [h]
  have e : ((str [118] :: zs.map fun z => str (Lib.itoa z)).map fun x => x.data.toList) = [118] :: zs.map Lib.itoa := by simp [str]
  have e2 : (str [46]).data.toList = [46] := by simp [str]
  rw [e, e2, Lib.join_cons]
theorem occParts_take (zs : List Int) (k : Nat) (h : k < zs.length) : occParts (zs.take (k + 1)) = occParts (zs.take k) ++ [str (Lib.itoa zs[k])] := by
  unfold occParts
  rw [List.take_succ_eq_append_getElem h, List.map_append]
  rfl
theorem occParts_len (zs : List Int) : (occParts zs).length = zs.length + 1 := by simp [occParts]

theorem owned_at {w : World} {B n : Nat} {T : TypeId} {v : Value} {l : List Value} (h : w.ownsRow B T 1 v n l) (hv : v ≠ .slice none 0 0) : ∃ g cap, v = .slice (some ⟨g, 0, none⟩) n cap := by
  rcases h.2 with ⟨h1, _⟩ | ⟨g, cap, cur, h1, _⟩
  · exact absurd h1 hv
  · exact ⟨g, cap, h1⟩

set_option maxRecDepth 100000 in
/-- Join at a slice in a block of the call's own, with room behind it. -/
theorem impl_join_room (w : World) (g cap : Nat) (xs : List ByteArray) (rest : List Value) (b : ByteArray) (hg : Block w g xs rest) (hc : xs.length ≤ cap) (hm : xs.length ≤ 1048577) (hj : (joined xs b).length ≤ 70368744177664) :
    Calls Tryd.prog 43 #[.slice (some ⟨g, 0, none⟩) xs.length cap, .string b] w fun e w' => e = .returned (.string ⟨(joined xs b).toArray⟩) ∧ Below w.heap.size w w' := by
  have hr := hg.reads
  have H := Tryd.strings_Join g 0 cap xs b w (fun j x hx => by
    have hj2 : j < xs.length := by
      rcases Nat.lt_or_ge j xs.length with h | h
      · exact h
      · rw [List.getElem?_eq_none h] at hx
        cases hx
    obtain ⟨y, hy, hcell⟩ := hr j hj2
    rw [List.getElem?_eq_getElem hj2] at hx
    injection hx with hx
    injection hy with hy
    subst hy
    have e : (⟨g, 0, none⟩ : Addr).add j = ⟨g, 0 + j, none⟩ := by simp [Addr.add]; intro h; omega
    rw [e] at hcell
    rw [hcell, hx]) hg.lt (by omega) hc (Nat.le_trans hj (by omega))
  have HG := Lib.hid hg
  clear hg hr
  go_enter Tryd.func43, Tryd.ntmps43
  go_wp2_with fail
  refine H.mono ?_
  rintro e w' ⟨rfl, hb⟩
  go_wp2
  go_ret
  exact ⟨rfl, hb⟩

set_option maxHeartbeats 2000000 in
set_option maxRecDepth 100000 in
theorem impl_formatOcc (w : World) (a : Option Addr) (cap : Nat) (zs : List Int) (hx : ReadsI w a zs) (hf : fitsI zs) (hm : zs.length ≤ 1048576) (htab : Lib.TabIs Tryd.prog w "internal/strconv.uint64pow10" .u64 Lib.pow10Tab) :
    Calls Tryd.prog 13 #[.slice a zs.length cap] w fun e w' => e = .returned (.string (str (occOf zs))) ∧ Below w.heap.size w w' := by
  have hi : (Tryd.prog.info? 9).map (fun i => (i.zero, i.size, i.bytes)) = some (some (.string ⟨#[]⟩), 1, 16) := by kernel_rfl
  obtain ⟨i0, hi, hz0, hz1, hz2⟩ := info_parts hi
  have HX := Lib.hid hx
  have HF := Lib.hid hf
  have HT := Lib.hid (fun w' (hb : Below w.heap.size w w') => Go.Joins.tab_stays (g := 0) (by kernel_rfl) htab hb (Nat.le_refl _))
  have HJ : Hid ((joined (occParts zs) (str [46])).length ≤ 70368744177664) := by
    unfold Hid
    rw [occ_join]
    have := occ_len zs hf
    omega
  have HP := Lib.hid (occParts_len zs)
  clear hx hf htab
  generalize hn : zs.length = n at *
  have HN := Lib.hid hn
  have HPT := Lib.hid (fun k h => occParts_take zs k h)
  clear hn
  go_enter Tryd.func13, Tryd.ntmps13
  go_wp2
  go_loopw [3, 9] (fun v i wr => ∃ (k g c : Nat) (ys : List ByteArray), k ≤ n ∧ i = .int .i64 k ∧ v = .slice (some ⟨g, 0, none⟩) (k + 1) c ∧ Hid (ys = occParts (zs.take k)) ∧ ys.length = k + 1 ∧ Hid (wr.ownsRow w.heap.size 9 1 (.slice (some ⟨g, 0, none⟩) (k + 1) c) (k + 1) (ys.map Value.string)) ∧ Hid (Below w.heap.size w wr)) (fun _ i _ => n - (intOf i).toNat)
  case atStart =>
    refine ⟨0, w.heap.size, 1, [str [118]], Nat.zero_le _, rfl, rfl, rfl, rfl, ?_, (Below.refl _ _).alloc (Nat.le_refl _) _⟩
    exact World.ownsRow_lit w #[.string (str [118])] 1 (Nat.le_refl _) (by unfold maxLen; omega) rfl
  case round =>
    obtain ⟨k, g, c, ys, hk, rfl, rfl, hY, hyl, hO, hB⟩ := hrel
    by_cases hlt : k < n
    · obtain ⟨y, rfl, hc⟩ := (readsI_below HX.out hB.out) k (by rw [HN.out]; exact hlt)
      have hb := HF.out _ (List.getElem_mem (l := zs) (n := k) (by rw [HN.out]; exact hlt))
      have hst := HPT.out k (by rw [HN.out]; exact hlt)
      generalize zs[k]'(by rw [HN.out]; exact hlt) = z at hc hb hst
      have HFM := Lib.hid (impl_format z hb.1 hb.2 wr (HT.out wr hB.out))
      change Hid (Calls _ _ _ _ (fun e w' => e = .returned (.string (str (Lib.itoa z))) ∧ _)) at HFM
      rw [← hY.out] at hst
      generalize str (Lib.itoa z) = x at *
      have HST := Lib.hid hst
      clear hb hst
      go_wp2_with fail
      refine HFM.out.mono ?_
      rintro e w1 ⟨rfl, hb1⟩
      have hB1 : Below w.heap.size w w1 := hB.out.trans (hb1.mono hB.out.size)
      have hown : w1.ownsRow w.heap.size 9 1 (.slice (some ⟨g, 0, none⟩) (k + 1) c) (k + 1) (ys.map Value.string) := own_stays hO.out (grown_below hb1 none) (fun b _ => by simp)
      clear hb1 HFM
      go_wp2_with (at_builtin; refine wpList_append_own _ rfl _ _ 62 rfl w.heap.size 9 i0 (.string ⟨#[]⟩) 1 16 Tryd.underlying62 hi hz0 hz1 hz2 rfl (by decide) _ _ _ rfl (hown.alloc _) ⟨w1.heap.size, 0, none⟩ 1 1 [.string x] rfl rfl ?d1 ?d2 ?d3 ?d4 ?d5 ?_)
      case d1 =>
        intro j u hj
        match j, hj with
        | 0, hj => simp at hj; subst hj; simp [Addr.add, World.cell?_alloc_new]
      case d2 => intro u hu; simp at hu; subst hu; rfl
      case d3 => unfold maxLen; omega
      case d4 => omega
      case d5 => have := hB1.size; simp; omega
      intro v2 w2 hown2 hg2 hnil2
      have hB2 : Below w.heap.size w w2 := (hB1.alloc (by have := hB1.size; omega) _).grown hg2 (by have := hB1.size; simp; omega) (fun j hj => (hown.lt j hj).1)
      have hv2 : v2 ≠ .slice none 0 0 := by first | exact hnil2 | (intro h; have := hnil2.1 h; simp at this)
      have hown3 : w2.ownsRow w.heap.size 9 1 v2 (k + 1 + 1) ((ys ++ [x]).map Value.string) := by
        rw [List.map_append]
        exact hown2
      obtain ⟨g2, c2, rfl⟩ := owned_at hown3 hv2
      have HO3 := Lib.hid hown3
      have HB2 := Lib.hid hB2
      clear hown hown2 hown3 hg2 hnil2 hv2 hB2 hB1
      go_wp2
      go_roundw
      case rel => exact ⟨k + 1, g2, c2, ys ++ [x], by omega, by go_num, rfl, HST.out.symm, by simp [hyl], HO3, HB2⟩
      case measure => simp [intOf]; omega
    · obtain rfl : k = n := by omega
      have e : zs.take k = zs := List.take_of_length_le (by have := HN.out; omega)
      have hY2 := hY.out
      rw [e] at hY2
      have hown : wr.ownsRow w.heap.size 9 1 (.slice (some ⟨g, 0, none⟩) (k + 1) c) (k + 1) (ys.map Value.string) := hO.out
      obtain ⟨g', c', rest, hv, hg, hb, hnl⟩ := block_of_owned hown (by simp)
      obtain ⟨rfl, rfl⟩ : g' = g ∧ c' = c := by
        simp at hv
        exact ⟨hv.1.symm, hv.2.2.symm⟩
      have hcap : ys.length ≤ c' := by
        rcases hown.2 with ⟨h1, _⟩ | ⟨g2, c2, cur, h1, h2⟩
        · cases h1
        · obtain ⟨_, _, h3, _⟩ := h2
          injection h1 with _ _ h4
          omega
      have HJN := Lib.hid (impl_join_room wr g' c' ys rest (str [46]) hb hcap (by omega) (by rw [hY2]; exact HJ.out))
      rw [hY2, occ_join, ← hY2] at HJN
      change Hid (Calls _ _ _ _ (fun e w' => e = .returned (.string (str (occOf zs))) ∧ _)) at HJN
      change Hid (Calls _ _ #[_, .string ⟨#[46]⟩] _ _) at HJN
      rw [hyl] at HJN
      clear hown hb e hY hY2 hO hcap
      generalize hr : str (occOf zs) = r at HJN
      have HR := Lib.hid hr
      clear hyl hg hnl hv hr
      go_wp2_with fail
      refine HJN.out.mono ?_
      rintro e w1 ⟨rfl, hb1⟩
      have HB1 : Hid (Below w.heap.size w w1) := hB.out.trans (hb1.mono hB.out.size)
      clear hb1 HJN
      go_wp2
      go_ret
      exact ⟨by rw [HR.out]; rfl, HB1.out⟩
end Go.Proofs.YtcalgjggmgnofaaDoor
