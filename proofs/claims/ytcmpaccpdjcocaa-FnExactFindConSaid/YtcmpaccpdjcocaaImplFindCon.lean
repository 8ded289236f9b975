/- What is proved here: the program's FindCon finds the first constructor of a name, and copies it. Condition: the signature lies in memory as said, and is small. -/
import Derived.Test.YtcmpaccpdjcocaaImplCopyType
import Derived.Test.YtcmpaccpdjcocaaSpecFindCon
namespace Go.Proofs.Ytcmpaccpdjcocaa
open Go.RowKit

set_option maxHeartbeats 2000000 in
set_option maxRecDepth 100000 in
theorem impl_findCon (F : Nat → Prop) (w : World) (a : Option Addr) (cap : Nat) (s : List TypeD) (nm : ByteArray) (hO : OwnSig F w (.slice a s.length cap) s) (hF : ∀ b, F b → b < w.heap.size) (hm : s.length ≤ 1048576) (hs : ∀ c ∈ s, c.cons.length ≤ 1048576 ∧ ∀ d ∈ c.cons, d.args.length ≤ 1048576) :
    Calls Try.prog 17 #[.agg #[.slice a s.length cap], .string nm] w (FoundCon w s nm) := by
  have HO := Lib.hid hO
  have HF := Lib.hid hF
  have HS := Lib.hid hs
  clear hO hs hF
  obtain ⟨w2, h2⟩ : ∃ w2, w2 = (w.alloc (.cells #[.slice a s.length cap] 33)).alloc (.cells #[.string ⟨#[]⟩, .slice none 0 0] 42) := ⟨_, rfl⟩
  have h := two_alloc w (.cells #[.slice a s.length cap] 33) (.cells #[.string ⟨#[]⟩, .slice none 0 0] 42)
  rw [← h2] at h
  obtain ⟨hsz, hp0, hp1, hB⟩ := h
  have H2 := Lib.hid h2
  have HB := Lib.hid hB
  have HP1 := Lib.hid hp1
  have HSZ := Lib.hid hsz
  clear h2 hB hp0 hp1 hsz
  generalize hn : s.length = n at *
  have HN := Lib.hid hn
  clear hn
  go_enter Try.func17, Try.ntmps17
  go_wp2
  rw [← H2.out]
  go_loopw [14] (fun i wr => ∃ (k : Nat), k ≤ n ∧ i = .int .i64 k ∧ Hid (Below w2.heap.size w2 wr) ∧ Hid (∀ (j : Nat) y, j < k → s[j]? = some y → hasCon nm y = false)) (fun i _ => n - (intOf i).toNat)
  case atStart => exact ⟨0, Nat.zero_le _, rfl, Below.refl _ _, fun j _ h => by omega⟩
  case round =>
    obtain ⟨k, hk, rfl, hBR, hne⟩ := hrel
    have HBW : Hid (Below w.heap.size w wr) := HB.out.trans (hBR.out.mono HB.out.size)
    by_cases hlt : k < n
    · have hk' : k < s.length := by rw [HN.out]; exact hlt
      have hx : s[k]? = some s[k] := List.getElem?_eq_getElem hk'
      have hq := HS.out _ (List.getElem_mem hk')
      generalize s[k] = x at hx hq
      have hO4 : OwnSig F wr (.slice a n cap) s := HO.out.keep keeps_type (fun b hb => HBW.out.block b (HF.out b hb))
      obtain ⟨y, G, u1, v1, rfl, hc0, hc1, hE, hGF⟩ := Own2.part hO4 hx
      obtain ⟨rfl, hE⟩ := hE
      have hE2 := hE
      obtain ⟨a1, cap1, rfl, _⟩ := hE2
      have HXE := Lib.hid hx
      have HQ := Lib.hid hq.2
      have hq1 := hq.1
      have hltz : (k : Int) < (n : Int) := by omega
      have hbA : Below wr.heap.size wr (wr.alloc (.cells #[.string x.name, .slice a1 x.cons.length cap1] 28)) := (Below.refl _ _).alloc (Nat.le_refl _) _
      have hGlt : ∀ b, G b → b < wr.heap.size := fun b hb => Nat.lt_of_lt_of_le (HF.out b (hGF b hb)) HBW.out.size
      have HE : Hid (Own2 42 OwnCon G (wr.alloc (.cells #[.string x.name, .slice a1 x.cons.length cap1] 28)) (.slice a1 x.cons.length cap1) x.cons) := hE.keep keeps_con (fun b hb => hbA.block b (hGlt b hb))
      have HGL : Hid (∀ b, G b → b < (wr.alloc (.cells #[.string x.name, .slice a1 x.cons.length cap1] 28)).heap.size) := fun b hb => Nat.lt_of_lt_of_le (hGlt b hb) hbA.size
      obtain ⟨e1, _, _, _⟩ := two_cells (heap_at_new wr (.cells #[.string x.name, .slice a1 x.cons.length cap1] 28))
      have HE1 := Lib.hid e1
      have HNW : Hid (w.heap.size + 1 < wr.heap.size) := by have := HSZ.out; have := hBR.out.size; unfold Hid; omega
      have HBA : Hid (Below w2.heap.size w2 (wr.alloc (.cells #[.string x.name, .slice a1 x.cons.length cap1] 28))) := hBR.out.trans (hbA.mono hBR.out.size)
      clear hx hO4 hE hGF hbA hGlt hq e1
      generalize hn2 : x.cons.length = n2 at *
      have HN2 := Lib.hid hn2
      clear hn2
      go_wp2
      generalize wr.alloc (.cells #[.string x.name, .slice a1 n2 cap1] 28) = w4 at *
      generalize hnd : wr.heap.size = nd at *
      clear hnd
      go_loopw [21] (fun i wr2 => ∃ (i2 : Nat), i2 ≤ n2 ∧ i = .int .i64 i2 ∧ Hid (Below w4.heap.size w4 wr2) ∧ Hid (∀ (j : Nat) y, j < i2 → x.cons[j]? = some y → ConD.named nm y = false)) (fun i _ => n2 - (intOf i).toNat)
      case atStart => exact ⟨0, Nat.zero_le _, rfl, Below.refl _ _, fun j _ h => by omega⟩
      case round =>
        obtain ⟨i, hi, rfl, hBI, hne2⟩ := hrel
        have HBJ : Hid (Below w2.heap.size w2 wr) := HBA.out.trans (hBI.out.mono HBA.out.size)
        by_cases hlt2 : i < n2
        · have hi' : i < x.cons.length := by rw [HN2.out]; exact hlt2
          have hx2 : x.cons[i]? = some x.cons[i] := List.getElem?_eq_getElem hi'
          have hq2 := HQ.out _ (List.getElem_mem hi')
          generalize x.cons[i] = c at hx2 hq2
          have hO5 : Own2 42 OwnCon G wr (.slice a1 n2 cap1) x.cons := HE.out.keep keeps_con (fun b hb => hBI.out.block b (HGL.out b hb))
          obtain ⟨y2, G2, u2, v2, rfl, hd0, hd1, hE3, hGF2⟩ := Own2.part hO5 hx2
          have hE4 := hE3
          obtain ⟨rfl, a2, cap2, rfl, _⟩ := hE4
          have HCE := Lib.hid hx2
          have hltz2 : (i : Int) < (n2 : Int) := by omega
          have hbC : Below wr.heap.size wr (wr.alloc (.cells #[.string c.name, .slice a2 c.args.length cap2] 42)) := (Below.refl _ _).alloc (Nat.le_refl _) _
          have hG2 : ∀ b, G2 b → b < wr.heap.size := fun b hb => Nat.lt_of_lt_of_le (HGL.out b (hGF2 b hb)) hBI.out.size
          have hE6 : OwnCon G2 (wr.alloc (.cells #[.string c.name, .slice a2 c.args.length cap2] 42)).drew c (.string c.name) (.slice a2 c.args.length cap2) := keeps_con _ _ _ _ _ _ hE3 (fun b hb => hbC.block b (hG2 b hb))
          have H := copyCon_any G2 _ c _ _ hE6 (fun b hb => Nat.lt_of_lt_of_le (hG2 b hb) hbC.size) hq2
          have HBC := Lib.hid hbC
          clear hx2 hO5 hE3 hGF2 hbC hG2 hE6
          by_cases he : (c.name.toList == nm.toList) = true
          · have HT : Hid (theCon s nm = some (c, x.name)) := theCon_at HXE.out HCE.out he hne.out hne2.out
            have hf0 : (wr.alloc (.cells #[.string c.name, .slice a2 c.args.length cap2] 42)).cell? ⟨nd, 0, none⟩ = some (.string x.name) := cell_below (cell_below HE1.out hBI.out) HBC.out
            have hlt1 : w.heap.size + 1 < wr.heap.size := by have := HSZ.out; have := HBJ.out.size; omega
            have hf1 : (wr.alloc (.cells #[.string c.name, .slice a2 c.args.length cap2] 42)).heap[w.heap.size + 1]? = some (.cells #[.string ⟨#[]⟩, .slice none 0 0] 42 (0, 0)) := (HBC.out.block _ hlt1).trans ((HBJ.out.block _ (by have := HSZ.out; omega)).trans HP1.out)
            have HF1 := Lib.hid hf1
            have HL1 : Hid (w.heap.size + 1 < (wr.alloc (.cells #[.string c.name, .slice a2 c.args.length cap2] 42)).heap.size) := Nat.lt_of_lt_of_le hlt1 HBC.out.size
            have HBK : Hid (Below w.heap.size w (wr.alloc (.cells #[.string c.name, .slice a2 c.args.length cap2] 42))) := HB.out.trans ((HBJ.out.trans (HBC.out.mono HBJ.out.size)).mono HB.out.size)
            clear hf1 hlt1
            go_wp2
            go_region_law (first
              | (go_simp; go_at_call 35; refine H.mono ?_
                 rintro e w7 ⟨⟨u7, v7, rfl, ho⟩, hb7⟩
                 have ho2 := ho
                 obtain ⟨rfl, a7, cap7, rfl, _⟩ := ho2
                 have hb7' := below_of_drew hb7
                 have hr3 := (hb7'.block (w.heap.size + 1) HL1.out).trans HF1.out
                 obtain ⟨r1, r2, r3, r4⟩ := two_cells hr3
                 have r5 := cell_below hf0 hb7'
                 have r7 : ((w7.setCell ⟨w.heap.size + 1, 0, none⟩ (.string c.name)).setCell ⟨w.heap.size + 1, 1, none⟩ (.slice a7 c.args.length cap7)).cell? ⟨nd, 0, none⟩ = some (.string x.name) := by
                   have := HNW.out
                   rw [← r5]
                   exact World.cell?_of_block (by rw [Below.heap_setCell _ _ _ _ (by show nd ≠ w.heap.size + 1; omega), Below.heap_setCell _ _ _ _ (by show nd ≠ w.heap.size + 1; omega)])
                 have HR3 := Lib.hid hr3
                 have HOO := Lib.hid ho
                 have HB7 : Hid (Below w.heap.size w w7) := HBK.out.trans (hb7'.mono HBK.out.size)
                 clear hb7 hb7' ho hr3))
            all_goals
              go_wp2
              refine bodyPost_ret (results_row_tmp2 rfl _ _ (w.heap.size + 1) _ _ _ _ rfl (two_set (two_set HR3.out _).1 _).2 Try.underlying42 rfl (by kernel_rfl)) rfl ?_
              refine ⟨(HB7.out.setCell (by show _ ≤ w.heap.size + 1; omega) _).setCell (by show _ ≤ w.heap.size + 1; omega) _, .inl ⟨c, x.name, _, _, HT.out, rfl, rfl, (HOO.out.2.keep ?_).wider ?_⟩⟩
              · rintro b ⟨hb1, _⟩
                have := HL1.out
                have hh : (wr.alloc (.cells #[.string c.name, .slice a2 c.args.length cap2] 42)).drew.heap.size = (wr.alloc (.cells #[.string c.name, .slice a2 c.args.length cap2] 42)).heap.size := rfl
                rw [Below.heap_setCell _ _ _ _ (by show b ≠ w.heap.size + 1; omega), Below.heap_setCell _ _ _ _ (by show b ≠ w.heap.size + 1; omega)]
              · rintro b ⟨hb1, hb2⟩
                have := HL1.out
                have hh : (wr.alloc (.cells #[.string c.name, .slice a2 c.args.length cap2] 42)).drew.heap.size = (wr.alloc (.cells #[.string c.name, .slice a2 c.args.length cap2] 42)).heap.size := rfl
                exact ⟨by omega, by simpa [World.setCell] using hb2⟩
          · have he2 : (c.name.toList == nm.toList) = false := by simpa using he
            have HBN : Hid (Below w4.heap.size w4 (wr.alloc (.cells #[.string c.name, .slice a2 c.args.length cap2] 42))) := hBI.out.trans (HBC.out.mono hBI.out.size)
            clear he H
            go_wp2
            go_roundw
            case rel => exact ⟨i + 1, by omega, by go_num, HBN, before_succ hne2.out HCE.out he2⟩
            case measure => simp [intOf]; omega
        · have HNC : Hid (hasCon nm x = false) := hasCon_no (fun j z hz => hne2.out j z (by have := (List.getElem?_eq_some_iff.1 hz).1; have := HN2.out; omega) hz)
          go_wp2
          go_roundw
          case rel => exact ⟨k + 1, by omega, by go_num, HBJ, before_succ hne.out HXE.out HNC.out⟩
          case measure => simp [intOf]; omega
    · have HT : Hid (theCon s nm = none) := theCon_no (fun j z hz => hne.out j z (by have := (List.getElem?_eq_some_iff.1 hz).1; have := HN.out; omega) hz)
      have hr1 := (hBR.out.block (w.heap.size + 1) (by have := HSZ.out; omega)).trans HP1.out
      have HR1 := Lib.hid hr1
      obtain ⟨r1, r2, r3, r4⟩ := two_cells hr1
      clear hr1
      go_wp2
      refine bodyPost_ret (results_row_tmp2 rfl _ _ (w.heap.size + 1) _ _ _ _ rfl (two_set (two_set HR1.out _).1 _).2 Try.underlying42 rfl (by kernel_rfl)) rfl ?_
      exact ⟨(HBW.out.setCell (by show _ ≤ w.heap.size + 1; omega) _).setCell (by show _ ≤ w.heap.size + 1; omega) _, .inr ⟨HT.out, rfl⟩⟩
end Go.Proofs.Ytcmpaccpdjcocaa
