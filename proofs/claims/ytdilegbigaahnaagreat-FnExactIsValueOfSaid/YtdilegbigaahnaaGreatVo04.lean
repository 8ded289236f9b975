/- What is proved here: a piece of the proof of YtdilegbigaahnaaGreatExactIsValueOf (SpecFindCon, ImplFindCon, ImplTypes, TreeText, ImplKind, Assert). Condition: none beyond what each part says. -/
import Derived.Test.YtdilegbigaahnaaGreatVo03
import Derived.Test.YtdilegbigaahnaaGreatVo02
import Derived.Lib.ItoaMem
import Derived.Lib.ItoaLen
import Derived.Test.YtdilegbigaahnaaGreatProg
import Derived.WalkKit
import Derived.Below

/- What is proved here: the model's FindCon (package spec) finds the first constructor of a name, and copies it. Condition: the signature lies in memory as said, and is small. -/
section
namespace Go.Proofs.YtdilegbigaahnaaGreat
open Go.RowKit

/-- What FindCon hands back: a copy of the first constructor, its type's name and true, or zero values and false. -/
def FoundCon (w : World) (s : List TypeD) (nm : ByteArray) (e : Ending) (w' : World) : Prop :=
  Below w.heap.size w w' ∧ ((∃ c tn u v, theCon s nm = some (c, tn) ∧ e = .returned (.tuple #[.agg #[u, v], .string tn, .bool true]) ∧ OwnCon (Came w w') w' c u v) ∨ (theCon s nm = none ∧ e = .returned (.tuple #[.agg #[.string ⟨#[]⟩, .slice none 0 0], .string ⟨#[]⟩, .bool false])))

theorem theCon_at {s : List TypeD} {nm : ByteArray} {k i : Nat} {t : TypeD} {c : ConD} (ht : s[k]? = some t) (hc : t.cons[i]? = some c) (hn : ConD.named nm c = true) (h1 : ∀ (j : Nat) y, j < k → s[j]? = some y → hasCon nm y = false) (h2 : ∀ (j : Nat) y, j < i → t.cons[j]? = some y → ConD.named nm y = false) : theCon s nm = some (c, t.name) := by
  have e2 : t.cons.find? (ConD.named nm) = some c := find_at _ _ i c hc hn h2
  have e1 : s.find? (hasCon nm) = some t := find_at _ _ k t ht (by unfold hasCon; rw [e2]; rfl) h1
  unfold theCon
  rw [e1]
  simp [e2]
theorem theCon_no {s : List TypeD} {nm : ByteArray} (h1 : ∀ (j : Nat) y, s[j]? = some y → hasCon nm y = false) : theCon s nm = none := by
  unfold theCon
  rw [find_no _ _ h1]
  rfl
theorem hasCon_no {t : TypeD} {nm : ByteArray} (h : ∀ (j : Nat) y, t.cons[j]? = some y → ConD.named nm y = false) : hasCon nm t = false := by
  unfold hasCon
  rw [find_no _ _ h]
  rfl
theorem before_succ {α : Type} {p : α → Prop} {l : List α} {k : Nat} {x : α} (h : ∀ (j : Nat) y, j < k → l[j]? = some y → p y) (hx : l[k]? = some x) (hp : p x) : ∀ (j : Nat) y, j < k + 1 → l[j]? = some y → p y := by
  intro j y hj hy
  rcases Nat.lt_or_ge j k with h3 | h3
  · exact h j y h3 hy
  · obtain rfl : j = k := by omega
    rw [hx] at hy
    obtain rfl := Option.some.inj hy
    exact hp

set_option maxHeartbeats 2000000 in
set_option maxRecDepth 100000 in
theorem spec_findCon (w : World) (a : Option Addr) (cap : Nat) (s : List TypeD) (nm : ByteArray) (hx : Row2 TypeAt w a s) (hm : s.length ≤ 1048576) (hs : ∀ c ∈ s, c.cons.length ≤ 1048576 ∧ ∀ d ∈ c.cons, d.args.length ≤ 1048576) :
    Calls Tryz.prog 45 #[.agg #[.slice a s.length cap], .string nm] w (FoundCon w s nm) := by
  have HX := Lib.hid hx
  have HS := Lib.hid hs
  clear hx hs
  obtain ⟨w2, h2⟩ : ∃ w2, w2 = (w.alloc (.cells #[.slice a s.length cap] 33)).alloc (.cells #[.string ⟨#[]⟩, .slice none 0 0] 73) := ⟨_, rfl⟩
  have h := two_alloc w (.cells #[.slice a s.length cap] 33) (.cells #[.string ⟨#[]⟩, .slice none 0 0] 73)
  rw [← h2] at h
  obtain ⟨hw2, hp0, hp1, hB⟩ := h
  have H2 := Lib.hid h2
  have HB := Lib.hid hB
  have HP1 := Lib.hid hp1
  obtain ⟨q0, _⟩ := one_cell hp0
  obtain ⟨p1, p2, p3, p4⟩ := two_cells hp1
  have HW2 := Lib.hid hw2
  clear h2 hB hp0 hp1 hw2
  generalize hn : s.length = n at *
  have HN := Lib.hid hn
  clear hn
  go_enter Tryz.func45, Tryz.ntmps45
  go_wp2
  rw [← H2.out]
  go_loop [7] (fun i => ∃ (k : Nat), k ≤ n ∧ i = .int .i64 k ∧ Hid (∀ (j : Nat) y, j < k → s[j]? = some y → hasCon nm y = false)) (fun i => n - (intOf i).toNat)
  case atStart => exact ⟨0, Nat.zero_le _, rfl, fun j _ h => by omega⟩
  case round =>
    obtain ⟨k, hk, rfl, hne⟩ := hrel
    by_cases hlt : k < n
    · have hk' : k < s.length := by rw [HN.out]; exact hlt
      obtain ⟨y, u1, v1, rfl, hc0, hc1, hr1⟩ := row2_below type_below HX.out HB.out k hk'
      have hyb : (y.add (k * 2)).block < w.heap.size := by
        obtain ⟨y', u', v', hy', hd, _, _⟩ := HX.out k hk'
        obtain rfl := Option.some.inj hy'
        exact block_of_cell hd
      have HYB := Lib.hid hyb
      clear hyb
      have hltz : (k : Int) < (n : Int) := by omega
      have hx : s[k]? = some s[k] := List.getElem?_eq_getElem hk'
      have hq := HS.out _ (List.getElem_mem hk')
      generalize s[k] = x at hx hr1 hq
      have HXE := Lib.hid hx
      obtain ⟨ta, tc, hu, hv, hr2⟩ := hr1
      subst hu
      subst hv
      have HR2 := Lib.hid hr2
      have HQ := Lib.hid hq.2
      have hq1 := hq.1
      clear hx hr2 hq
      generalize hn2 : x.cons.length = n2 at *
      have HN2 := Lib.hid hn2
      clear hn2
      go_wp2
      go_loop [8] (fun i => ∃ (i2 : Nat), i2 ≤ n2 ∧ i = .int .i64 i2 ∧ Hid (∀ (j : Nat) y, j < i2 → x.cons[j]? = some y → ConD.named nm y = false)) (fun i => n2 - (intOf i).toNat)
      case atStart => exact ⟨0, Nat.zero_le _, rfl, fun j _ h => by omega⟩
      case round =>
        obtain ⟨i, hi, rfl, hne2⟩ := hrel
        by_cases hlt2 : i < n2
        · have hi' : i < x.cons.length := by rw [HN2.out]; exact hlt2
          obtain ⟨y2, u2, v2, rfl, hd0, hd1, hr3⟩ := HR2.out i hi'
          have hltz2 : (i : Int) < (n2 : Int) := by omega
          have hx2 : x.cons[i]? = some x.cons[i] := List.getElem?_eq_getElem hi'
          have hq2 := HQ.out _ (List.getElem_mem hi')
          generalize x.cons[i] = c at hx2 hr3 hq2
          have HCE := Lib.hid hx2
          clear hx2
          have H := l3Con_any w2.drew c u2 v2 hr3 hq2
          obtain ⟨ca, cc, hu, hv, _⟩ := hr3
          subst hu
          subst hv
          by_cases he : (c.name.toList == nm.toList) = true
          · have HT : Hid (theCon s nm = some (c, x.name)) := theCon_at HXE.out HCE.out he hne.out hne2.out
            go_wp2
            go_region_law (first
              | (go_simp; go_at_call 72; refine H.mono ?_
                 rintro e w3 ⟨⟨u3, v3, rfl, ho⟩, hb3⟩
                 have ho2 := ho
                 obtain ⟨rfl, a3, cap3, rfl, _⟩ := ho2
                 have hb3' := below_of_drew hb3
                 have hr3 := (hb3'.block (w.heap.size + 1) (by have := HW2.out; omega)).trans HP1.out
                 obtain ⟨r1, r2, r3, r4⟩ := two_cells hr3
                 have r5 := cell_below q0 hb3'
                 have r6 := cell_below hc0 hb3'
                 have r7 : ((w3.setCell ⟨w.heap.size + 1, 0, none⟩ (.string c.name)).setCell ⟨w.heap.size + 1, 1, none⟩ (.slice a3 c.args.length cap3)).cell? (y.add (k * 2)) = some (.string x.name) := by
                   have := HYB.out
                   rw [← r6]
                   exact World.cell?_of_block (by rw [Below.heap_setCell _ _ _ _ (by show (y.add (k * 2)).block ≠ w.heap.size + 1; omega), Below.heap_setCell _ _ _ _ (by show (y.add (k * 2)).block ≠ w.heap.size + 1; omega)])
                 have HR3 := Lib.hid hr3
                 have HO := Lib.hid ho
                 have HB3 : Hid (Below w.heap.size w w3) := HB.out.trans (hb3'.mono HB.out.size)
                 clear hb3 hb3' ho hr3))
            all_goals
              go_wp2
              refine bodyPost_ret (results_row_tmp2 rfl _ _ (w.heap.size + 1) _ _ _ _ rfl (two_set (two_set HR3.out _).1 _).2 Tryz.underlying73 rfl (by kernel_rfl)) rfl ?_
              refine ⟨(HB3.out.setCell (by show _ ≤ w.heap.size + 1; omega) _).setCell (by show _ ≤ w.heap.size + 1; omega) _, .inl ⟨c, x.name, _, _, HT.out, rfl, rfl, (HO.out.2.keep ?_).wider ?_⟩⟩
              · rintro b ⟨hb1, _⟩
                have hh : w2.drew.heap.size = w2.heap.size := rfl
                have := HW2.out
                rw [Below.heap_setCell _ _ _ _ (by show b ≠ w.heap.size + 1; omega), Below.heap_setCell _ _ _ _ (by show b ≠ w.heap.size + 1; omega)]
              · rintro b ⟨hb1, hb2⟩
                have hh : w2.drew.heap.size = w2.heap.size := rfl
                have := HW2.out
                exact ⟨by omega, by simpa [World.setCell] using hb2⟩
          · have he2 : (c.name.toList == nm.toList) = false := by simpa using he
            clear he H
            go_wp2
            go_round
            case rel => exact ⟨i + 1, by omega, by go_num, before_succ hne2.out HCE.out he2⟩
            case measure => simp [intOf]; omega
        · have HNC : Hid (hasCon nm x = false) := hasCon_no (fun j z hz => hne2.out j z (by have := (List.getElem?_eq_some_iff.1 hz).1; have := HN2.out; omega) hz)
          go_wp2
          go_round
          case rel => exact ⟨k + 1, by omega, by go_num, before_succ hne.out HXE.out HNC.out⟩
          case measure => simp [intOf]; omega
    · have HT : Hid (theCon s nm = none) := theCon_no (fun j z hz => hne.out j z (by have := (List.getElem?_eq_some_iff.1 hz).1; have := HN.out; omega) hz)
      go_wp2
      refine bodyPost_ret (results_row_tmp2 rfl _ _ (w.heap.size + 1) _ _ _ _ rfl (two_set (two_set HP1.out _).1 _).2 Tryz.underlying73 rfl (by kernel_rfl)) rfl ?_
      exact ⟨(HB.out.setCell (by show _ ≤ w.heap.size + 1; omega) _).setCell (by show _ ≤ w.heap.size + 1; omega) _, .inr ⟨HT.out, rfl⟩⟩
end Go.Proofs.YtdilegbigaahnaaGreat
end

/- What is proved here: the program's FindCon finds the first constructor of a name, and copies it. Condition: the signature lies in memory as said, and is small. -/
section
namespace Go.Proofs.YtdilegbigaahnaaGreat
open Go.RowKit

set_option maxHeartbeats 2000000 in
set_option maxRecDepth 100000 in
theorem impl_findCon (F : Nat → Prop) (w : World) (a : Option Addr) (cap : Nat) (s : List TypeD) (nm : ByteArray) (hO : OwnSig F w (.slice a s.length cap) s) (hF : ∀ b, F b → b < w.heap.size) (hm : s.length ≤ 1048576) (hs : ∀ c ∈ s, c.cons.length ≤ 1048576 ∧ ∀ d ∈ c.cons, d.args.length ≤ 1048576) :
    Calls Tryz.prog 55 #[.agg #[.slice a s.length cap], .string nm] w (FoundCon w s nm) := by
  have HO := Lib.hid hO
  have HF := Lib.hid hF
  have HS := Lib.hid hs
  clear hO hs hF
  obtain ⟨w2, h2⟩ : ∃ w2, w2 = (w.alloc (.cells #[.slice a s.length cap] 33)).alloc (.cells #[.string ⟨#[]⟩, .slice none 0 0] 73) := ⟨_, rfl⟩
  have h := two_alloc w (.cells #[.slice a s.length cap] 33) (.cells #[.string ⟨#[]⟩, .slice none 0 0] 73)
  rw [← h2] at h
  obtain ⟨hsz, hp0, hp1, hB⟩ := h
  have H2 := Lib.hid h2
  have HB := Lib.hid hB
  have HP1 := Lib.hid hp1
  have HSZ := Lib.hid hsz
  clear h2 hB hp0 hp1 hsz
  generalize hn : s.length = n at *
  have HN := Lib.hid hn
  clear hn
  go_enter Tryz.func55, Tryz.ntmps55
  go_wp2
  rw [← H2.out]
  go_loopw [14] (fun i wr => ∃ (k : Nat), k ≤ n ∧ i = .int .i64 k ∧ Hid (Below w2.heap.size w2 wr) ∧ Hid (∀ (j : Nat) y, j < k → s[j]? = some y → hasCon nm y = false)) (fun i _ => n - (intOf i).toNat)
  case atStart => exact ⟨0, Nat.zero_le _, rfl, Below.refl _ _, fun j _ h => by omega⟩
  case round =>
    obtain ⟨k, hk, rfl, hBR, hne⟩ := hrel
    have HBW : Hid (Below w.heap.size w wr) := HB.out.trans (hBR.out.mono HB.out.size)
    by_cases hlt : k < n
    · have hk' : k < s.length := by rw [HN.out]; exact hlt
      have hx : s[k]? = some s[k] := List.getElem?_eq_getElem hk'
      have hq := HS.out _ (List.getElem_mem hk')
      generalize s[k] = x at hx hq
      have hO4 : OwnSig F wr (.slice a n cap) s := HO.out.keep keeps_type (fun b hb => HBW.out.block b (HF.out b hb))
      obtain ⟨y, G, u1, v1, rfl, hc0, hc1, hE, hGF⟩ := Own2.part hO4 hx
      obtain ⟨rfl, hE⟩ := hE
      have hE2 := hE
      obtain ⟨a1, cap1, rfl, _⟩ := hE2
      have HXE := Lib.hid hx
      have HQ := Lib.hid hq.2
      have hq1 := hq.1
      have hltz : (k : Int) < (n : Int) := by omega
      have hbA : Below wr.heap.size wr (wr.alloc (.cells #[.string x.name, .slice a1 x.cons.length cap1] 71)) := (Below.refl _ _).alloc (Nat.le_refl _) _
      have hGlt : ∀ b, G b → b < wr.heap.size := fun b hb => Nat.lt_of_lt_of_le (HF.out b (hGF b hb)) HBW.out.size
      have HE : Hid (Own2 73 OwnCon G (wr.alloc (.cells #[.string x.name, .slice a1 x.cons.length cap1] 71)) (.slice a1 x.cons.length cap1) x.cons) := hE.keep keeps_con (fun b hb => hbA.block b (hGlt b hb))
      have HGL : Hid (∀ b, G b → b < (wr.alloc (.cells #[.string x.name, .slice a1 x.cons.length cap1] 71)).heap.size) := fun b hb => Nat.lt_of_lt_of_le (hGlt b hb) hbA.size
      obtain ⟨e1, _, _, _⟩ := two_cells (heap_at_new wr (.cells #[.string x.name, .slice a1 x.cons.length cap1] 71))
      have HE1 := Lib.hid e1
      have HNW : Hid (w.heap.size + 1 < wr.heap.size) := by have := HSZ.out; have := hBR.out.size; unfold Hid; omega
      have HBA : Hid (Below w2.heap.size w2 (wr.alloc (.cells #[.string x.name, .slice a1 x.cons.length cap1] 71))) := hBR.out.trans (hbA.mono hBR.out.size)
      clear hx hO4 hE hGF hbA hGlt hq e1
      generalize hn2 : x.cons.length = n2 at *
      have HN2 := Lib.hid hn2
      clear hn2
      go_wp2
      generalize wr.alloc (.cells #[.string x.name, .slice a1 n2 cap1] 71) = w4 at *
      generalize hnd : wr.heap.size = nd at *
      clear hnd
      go_loopw [21] (fun i wr2 => ∃ (i2 : Nat), i2 ≤ n2 ∧ i = .int .i64 i2 ∧ Hid (Below w4.heap.size w4 wr2) ∧ Hid (∀ (j : Nat) y, j < i2 → x.cons[j]? = some y → ConD.named nm y = false)) (fun i _ => n2 - (intOf i).toNat)
      case atStart => exact ⟨0, Nat.zero_le _, rfl, Below.refl _ _, fun j _ h => by omega⟩
      case round =>
        obtain ⟨i, hi, rfl, hBI, hne2⟩ := hrel
        have HBJ : Hid (Below w2.heap.size w2 wr) := HBA.out.trans (hBI.out.mono HBA.out.size)
        by_cases hlt2 : i < n2
        · have hi' : i < x.cons.length := by rw [HN2.out]; exact hlt2
          have hx2 : x.cons[i]? = some x.cons[i] := List.getElem?_eq_getElem hi'
          have hq2 := HQ.out _ (List.getElem_mem hi')
          generalize x.cons[i] = c at hx2 hq2
          have hO5 : Own2 73 OwnCon G wr (.slice a1 n2 cap1) x.cons := HE.out.keep keeps_con (fun b hb => hBI.out.block b (HGL.out b hb))
          obtain ⟨y2, G2, u2, v2, rfl, hd0, hd1, hE3, hGF2⟩ := Own2.part hO5 hx2
          have hE4 := hE3
          obtain ⟨rfl, a2, cap2, rfl, _⟩ := hE4
          have HCE := Lib.hid hx2
          have hltz2 : (i : Int) < (n2 : Int) := by omega
          have hbC : Below wr.heap.size wr (wr.alloc (.cells #[.string c.name, .slice a2 c.args.length cap2] 73)) := (Below.refl _ _).alloc (Nat.le_refl _) _
          have hG2 : ∀ b, G2 b → b < wr.heap.size := fun b hb => Nat.lt_of_lt_of_le (HGL.out b (hGF2 b hb)) hBI.out.size
          have hE6 : OwnCon G2 (wr.alloc (.cells #[.string c.name, .slice a2 c.args.length cap2] 73)).drew c (.string c.name) (.slice a2 c.args.length cap2) := keeps_con _ _ _ _ _ _ hE3 (fun b hb => hbC.block b (hG2 b hb))
          have H := copyCon_any G2 _ c _ _ hE6 (fun b hb => Nat.lt_of_lt_of_le (hG2 b hb) hbC.size) hq2
          have HBC := Lib.hid hbC
          clear hx2 hO5 hE3 hGF2 hbC hG2 hE6
          by_cases he : (c.name.toList == nm.toList) = true
          · have HT : Hid (theCon s nm = some (c, x.name)) := theCon_at HXE.out HCE.out he hne.out hne2.out
            have hf0 : (wr.alloc (.cells #[.string c.name, .slice a2 c.args.length cap2] 73)).cell? ⟨nd, 0, none⟩ = some (.string x.name) := cell_below (cell_below HE1.out hBI.out) HBC.out
            have hlt1 : w.heap.size + 1 < wr.heap.size := by have := HSZ.out; have := HBJ.out.size; omega
            have hf1 : (wr.alloc (.cells #[.string c.name, .slice a2 c.args.length cap2] 73)).heap[w.heap.size + 1]? = some (.cells #[.string ⟨#[]⟩, .slice none 0 0] 73 (0, 0)) := (HBC.out.block _ hlt1).trans ((HBJ.out.block _ (by have := HSZ.out; omega)).trans HP1.out)
            have HF1 := Lib.hid hf1
            have HL1 : Hid (w.heap.size + 1 < (wr.alloc (.cells #[.string c.name, .slice a2 c.args.length cap2] 73)).heap.size) := Nat.lt_of_lt_of_le hlt1 HBC.out.size
            have HBK : Hid (Below w.heap.size w (wr.alloc (.cells #[.string c.name, .slice a2 c.args.length cap2] 73))) := HB.out.trans ((HBJ.out.trans (HBC.out.mono HBJ.out.size)).mono HB.out.size)
            clear hf1 hlt1
            go_wp2
            go_region_law (first
              | (go_simp; go_at_call 79; refine H.mono ?_
                 rintro e w7 ⟨⟨u7, v7, rfl, ho⟩, hb7⟩
                 have ho2 := ho
                 obtain ⟨rfl, a7, cap7, rfl, _⟩ := ho2
                 have hb7' := below_of_drew hb7
                 have hr3 := (hb7'.block (w.heap.size + 1) HL1.out).trans HF1.out
                 obtain ⟨r1, r2, r3, r4⟩ := two_cells hr3
                 have r5 := cell_below hf0 hb7'
                 have r7 : ((w7.setCell ⟨w.heap.size + 1, 0, none⟩ (.string c.name)).setCell ⟨w.heap.size + 1, 1, none⟩ (.slice a7 c.args.length cap7)).cell? ⟨nd, 0, none⟩ = some (.string x.name) := by
                   have := HNW.out
                   rw [← r5]
                   exact World.cell?_of_block (by rw [Below.heap_setCell _ _ _ _ (by show nd ≠ w.heap.size + 1; omega), Below.heap_setCell _ _ _ _ (by show nd ≠ w.heap.size + 1; omega)])
                 have HR3 := Lib.hid hr3
                 have HOO := Lib.hid ho
                 have HB7 : Hid (Below w.heap.size w w7) := HBK.out.trans (hb7'.mono HBK.out.size)
                 clear hb7 hb7' ho hr3))
            all_goals
              go_wp2
              refine bodyPost_ret (results_row_tmp2 rfl _ _ (w.heap.size + 1) _ _ _ _ rfl (two_set (two_set HR3.out _).1 _).2 Tryz.underlying73 rfl (by kernel_rfl)) rfl ?_
              refine ⟨(HB7.out.setCell (by show _ ≤ w.heap.size + 1; omega) _).setCell (by show _ ≤ w.heap.size + 1; omega) _, .inl ⟨c, x.name, _, _, HT.out, rfl, rfl, (HOO.out.2.keep ?_).wider ?_⟩⟩
              · rintro b ⟨hb1, _⟩
                have := HL1.out
                have hh : (wr.alloc (.cells #[.string c.name, .slice a2 c.args.length cap2] 73)).drew.heap.size = (wr.alloc (.cells #[.string c.name, .slice a2 c.args.length cap2] 73)).heap.size := rfl
                rw [Below.heap_setCell _ _ _ _ (by show b ≠ w.heap.size + 1; omega), Below.heap_setCell _ _ _ _ (by show b ≠ w.heap.size + 1; omega)]
              · rintro b ⟨hb1, hb2⟩
                have := HL1.out
                have hh : (wr.alloc (.cells #[.string c.name, .slice a2 c.args.length cap2] 73)).drew.heap.size = (wr.alloc (.cells #[.string c.name, .slice a2 c.args.length cap2] 73)).heap.size := rfl
                exact ⟨by omega, by simpa [World.setCell] using hb2⟩
          · have he2 : (c.name.toList == nm.toList) = false := by simpa using he
            have HBN : Hid (Below w4.heap.size w4 (wr.alloc (.cells #[.string c.name, .slice a2 c.args.length cap2] 73))) := hBI.out.trans (HBC.out.mono hBI.out.size)
            clear he H
            go_wp2
            go_roundw
            case rel => exact ⟨i + 1, by omega, by go_num, HBN, before_succ hne2.out HCE.out he2⟩
            case measure => simp [intOf]; omega
        · have HNC : Hid (hasCon nm x = false) := hasCon_no (fun j z hz => hne2.out j z (by have := (List.getElem?_eq_some_iff.1 hz).1; have := HN2.out; omega) hz)
          go_wp2
          go_roundw
          case rel => exact ⟨k + 1, by omega, by go_num, HBJ, before_succ hne.out HXE.out HNC.out⟩
          case measure => simp [intOf]; omega
    · have HT : Hid (theCon s nm = none) := theCon_no (fun j z hz => hne.out j z (by have := (List.getElem?_eq_some_iff.1 hz).1; have := HN.out; omega) hz)
      have hr1 := (hBR.out.block (w.heap.size + 1) (by have := HSZ.out; omega)).trans HP1.out
      have HR1 := Lib.hid hr1
      obtain ⟨r1, r2, r3, r4⟩ := two_cells hr1
      clear hr1
      go_wp2
      refine bodyPost_ret (results_row_tmp2 rfl _ _ (w.heap.size + 1) _ _ _ _ rfl (two_set (two_set HR1.out _).1 _).2 Tryz.underlying73 rfl (by kernel_rfl)) rfl ?_
      exact ⟨(HBW.out.setCell (by show _ ≤ w.heap.size + 1; omega) _).setCell (by show _ ≤ w.heap.size + 1; omega) _, .inr ⟨HT.out, rfl⟩⟩
end Go.Proofs.YtdilegbigaahnaaGreat
end

/- What is proved here: the program tells whether the nodes of a row have the types of a list, given that it tells so of each node (haveTypes, with the library's EqualFunc). Condition: they lie in memory as said; the signature is the call's own. -/
section
namespace Go.Proofs.YtdilegbigaahnaaGreat
open Go.RowKit

theorem Trees.All.mp {P Q : Trees → Prop} : ∀ F : Trees, F.All (fun G => P G → Q G) → F.All P → F.All Q
  | .nil, _, _ => trivial
  | .cons _ _ _ _ r, h, k => ⟨h.1 k.1, Trees.All.mp r h.2 k.2⟩

/-- The program tells the type of whatever node has the row G below it. -/
def HasAt (s : List TypeD) (G : Trees) : Prop := ∀ (S : Nat → Prop) (w : World) (k n : Int) (t : ByteArray) (p : Option Addr) (c : Nat) (a : Option Addr) (cap : Nat) (nm : ByteArray), t.size ≤ maxLen → TreesAt w G p 0 → OwnSig S w (.slice a s.length cap) s → (∀ b, S b → b < w.heap.size) →
    Calls Tryz.prog 28 #[.agg #[.slice a s.length cap], .agg #[.int .i64 k, .int .i64 n, .string t, .slice p G.length c], .string nm] w fun e w' => e = .returned (.bool (nodeHas s k n t G.length (fun l => G.has s l) nm)) ∧ Below w.heap.size w w'

set_option maxRecDepth 100000 in
theorem closure_has (s : List TypeD) (G : Trees) (H : HasAt s G) (S : Nat → Prop) (w : World) (k n : Int) (t : ByteArray) (p : Option Addr) (c : Nat) (a : Option Addr) (cap : Nat) (nm : ByteArray) (bx : Nat) (ht : t.size ≤ maxLen) (hx : TreesAt w G p 0) (hO : OwnSig S w (.slice a s.length cap) s) (hS : ∀ b, S b → b < w.heap.size) (hb : w.cell? ⟨bx, 0, none⟩ = some (.slice a s.length cap)) :
    Calls Tryz.prog 81 #[.agg #[.int .i64 k, .int .i64 n, .string t, .slice p G.length c], .string nm, .pointer (some ⟨bx, 0, none⟩)] w fun e w' => e = .returned (.bool (nodeHas s k n t G.length (fun l => G.has s l) nm)) ∧ Below w.heap.size w w' := by
  have hB : Below w.heap.size w (w.alloc (.cells #[.int .i64 k, .int .i64 n, .string t, .slice p G.length c] 37)) := (Below.refl _ _).alloc (Nat.le_refl _) _
  have hb1 := cell_below hb hB
  have H1 := Lib.hid (H S (w.alloc (.cells #[.int .i64 k, .int .i64 n, .string t, .slice p G.length c] 37)) k n t p c a cap nm ht (hx.below hB) (hO.keep keeps_type (fun b hb => hB.block b (hS b hb))) (fun b hb => Nat.lt_of_lt_of_le (hS b hb) hB.size))
  have HB := Lib.hid hB
  clear H hx hO hS hB
  go_enter Tryz.func81, Tryz.ntmps81
  go_wp2_with fail
  refine H1.out.mono ?_
  rintro e w1 ⟨rfl, hb1⟩
  have HB1 : Hid (Below w.heap.size w w1) := HB.out.trans (hb1.mono HB.out.size)
  clear hb1
  go_wp2
  go_ret
  exact ⟨rfl, HB1.out⟩

set_option maxHeartbeats 1000000 in
set_option maxRecDepth 100000 in
theorem equal_has (s : List TypeD) (S : Nat → Prop) (w : World) (F : Trees) (xs : List ByteArray) (hall : F.All (HasAt s)) (hf : F.fits) (p q : Option Addr) (c d : Nat) (a : Option Addr) (cap bx : Nat) (hx : TreesAt w F p 0) (hy : Reads w q xs) (hm : F.length ≤ 1048576) (hO : OwnSig S w (.slice a s.length cap) s) (hS : ∀ b, S b → b < w.heap.size) (hb : w.cell? ⟨bx, 0, none⟩ = some (.slice a s.length cap)) :
    Calls Tryz.prog 80 #[.slice p F.length c, .slice q xs.length d, .func (.func 81) #[] #[.pointer (some ⟨bx, 0, none⟩)]] w fun e w' => e = .returned (.bool (decide (xs.length = F.length) && F.has s xs)) ∧ Below w.heap.size w w' := by
  by_cases hlen : xs.length = F.length
  · have hz0 : (decide (xs.length = F.length) && F.has s xs) = F.has s xs := by rw [hlen]; simp
    rw [hz0]
    have HX := Lib.hid hx
    have HY := Lib.hid hy
    have HALL := Lib.hid hall
    have HF := Lib.hid hf
    have HO := Lib.hid hO
    have HS := Lib.hid hS
    have HBX := Lib.hid hb
    have HL := Lib.hid hlen
    rw [hlen]
    generalize hz : F.has s xs = z
    have HZ := Lib.hid hz
    generalize hn : F.length = n at *
    have HN := Lib.hid hn
    clear hz hn hlen hz0 hx hy hall hf hO hS hb
    go_enter Tryz.func80, Tryz.ntmps80
    go_wp2
    go_loopw [17] (fun i wr => ∃ (k : Nat) (r : Trees) (ys : List ByteArray), i = .int .i64 k ∧ k + r.length = n ∧ Hid (ys = xs.drop k) ∧ Hid (r.has s ys = z) ∧ Hid (TreesAt w r p k) ∧ Hid r.fits ∧ Hid (r.All (HasAt s)) ∧ Hid (Below w.heap.size w wr)) (fun i _ => n - (intOf i).toNat)
    case atStart => exact ⟨0, F, xs, rfl, by rw [HN.out]; omega, rfl, HZ, HX, HF, HALL, Below.refl _ _⟩
    case round =>
      obtain ⟨k, r, ys, rfl, hkn, hys, hz, hxr, hfr, hall, hB⟩ := hrel
      cases r with
      | nil =>
        obtain rfl : k = n := by simp only [Trees.length] at hkn; omega
        obtain rfl : true = z := hz.out
        clear hxr hys hz hfr hall
        go_wp2
        go_ret
        exact ⟨rfl, hB.out⟩
      | cons k1 n1 t1 a1 r =>
        have hkl : k < n := by simp only [Trees.length] at hkn; omega
        have hkn2 : k + 1 + r.length = n := by simp only [Trees.length] at hkn; omega
        have hkx : k < xs.length := by rw [HL.out]; exact hkl
        obtain ⟨y, q1, cq, rfl, h1, h2, h3, h4, hs1, _⟩ := (hxr.out.below hB.out).open
        obtain ⟨y2, rfl, j1⟩ := (reads_below HY.out hB.out) k hkx
        have hxr2 : Hid (TreesAt w r (some y) (k + 1)) := hxr.out.2
        have hys2 := hys.out
        rw [List.drop_eq_getElem_cons hkx] at hys2
        generalize xs[k] = nm at *
        subst hys2
        have HFR : Hid r.fits := hfr.out.2.2.2.2.2
        have HA2 := Lib.hid hall.out.2
        have hal : Below wr.heap.size wr (wr.alloc (.cells #[.int .i64 k1, .int .i64 n1, .string t1, .slice q1 a1.length cq] 37)) := (Below.refl _ _).alloc (Nat.le_refl _) _
        have hO1 := HO.out.keep keeps_type (w' := wr.alloc (.cells #[.int .i64 k1, .int .i64 n1, .string t1, .slice q1 a1.length cq] 37)) (fun b hb => (hal.block b (Nat.lt_of_lt_of_le (HS.out b hb) hB.out.size)).trans (hB.out.block b (HS.out b hb)))
        have H := closure_has s a1 hall.out.1 S (wr.alloc (.cells #[.int .i64 k1, .int .i64 n1, .string t1, .slice q1 a1.length cq] 37)) k1 n1 t1 q1 cq a cap nm bx hfr.out.2.2.1 (hs1.below hal) hO1 (fun b hb => Nat.lt_of_lt_of_le (Nat.lt_of_lt_of_le (HS.out b hb) hB.out.size) hal.size) (cell_below (cell_below HBX.out hB.out) hal)
        have j1' := cell_below j1 hal
        have HAL := Lib.hid hal
        have hz2 := hz.out
        simp only [Trees.has] at hz2
        generalize nodeHas s k1 n1 t1 a1.length (fun l => a1.has s l) nm = hb at *
        have HH := Lib.hid H
        clear hxr hys hz hkn hfr hall hs1 hO1 H hal hkx
        cases hb with
        | false =>
          obtain rfl : false = z := by simpa using hz2
          clear hz2
          go_wp2_with fail
          refine HH.out.mono ?_
          rintro e w1 ⟨rfl, hb1⟩
          have HB1 : Hid (Below w.heap.size w w1) := (hB.out.trans (HAL.out.mono hB.out.size)).trans (hb1.mono (Nat.le_trans hB.out.size HAL.out.size))
          clear hb1 HH
          go_wp2
          go_ret
          exact ⟨rfl, HB1.out⟩
        | true =>
          have HZ2 : Hid (r.has s (xs.drop (k + 1)) = z) := by unfold Hid; simpa using hz2
          clear hz2
          go_wp2_with fail
          refine HH.out.mono ?_
          rintro e w1 ⟨rfl, hb1⟩
          have HB1 : Hid (Below w.heap.size w w1) := (hB.out.trans (HAL.out.mono hB.out.size)).trans (hb1.mono (Nat.le_trans hB.out.size HAL.out.size))
          clear hb1 HH
          go_wp2
          go_roundw
          case rel => exact ⟨k + 1, r, xs.drop (k + 1), by go_num, hkn2, rfl, HZ2, hxr2, HFR, HA2, HB1⟩
          case measure => simp [intOf]; omega
  · have hz0 : (decide (xs.length = F.length) && F.has s xs) = false := by rw [decide_eq_false hlen]; rfl
    rw [hz0]
    have hne : ((F.length : Int) == (xs.length : Int)) = false := by simp; omega
    clear hx hy hz0 hall hO hS hb hf hlen
    go_enter Tryz.func80, Tryz.ntmps80
    go_wp2
    go_ret
    exact ⟨rfl, Below.refl _ _⟩

set_option maxRecDepth 100000 in
theorem impl_types (s : List TypeD) (S : Nat → Prop) (w : World) (F : Trees) (xs : List ByteArray) (hall : F.All (HasAt s)) (hf : F.fits) (p q : Option Addr) (c d : Nat) (a : Option Addr) (cap : Nat) (hx : TreesAt w F p 0) (hy : Reads w q xs) (hm : F.length ≤ 1048576) (hO : OwnSig S w (.slice a s.length cap) s) (hS : ∀ b, S b → b < w.heap.size) :
    Calls Tryz.prog 56 #[.agg #[.slice a s.length cap], .slice p F.length c, .slice q xs.length d] w fun e w' => e = .returned (.bool (decide (xs.length = F.length) && F.has s xs)) ∧ Below w.heap.size w w' := by
  have hB : Below w.heap.size w (w.alloc (.cells #[.slice a s.length cap] 33)) := (Below.refl _ _).alloc (Nat.le_refl _) _
  have H := Lib.hid (equal_has s S (w.alloc (.cells #[.slice a s.length cap] 33)) F xs hall hf p q c d a cap w.heap.size (hx.below hB) (reads_below hy hB) hm (hO.keep keeps_type (fun b hb => hB.block b (hS b hb))) (fun b hb => Nat.lt_of_lt_of_le (hS b hb) hB.size) (one_cell (heap_at_new w _)).1)
  have HB := Lib.hid hB
  clear hall hf hx hy hO hS hB
  go_enter Tryz.func56, Tryz.ntmps56
  go_wp2_with fail
  refine H.out.mono ?_
  rintro e w1 ⟨rfl, hb1⟩
  have HB1 : Hid (Below w.heap.size w w1) := HB.out.trans (hb1.mono HB.out.size)
  clear hb1
  go_wp2
  go_ret
  exact ⟨rfl, HB1.out⟩

theorem alloc2v (w : World) (o0 o1 : Obj) : Below w.heap.size w ((w.alloc o0).alloc o1) := ((Below.refl _ _).alloc (Nat.le_refl _) _).alloc (by simp) _
set_option maxRecDepth 100000 in
theorem intValue_value (n : Int) (w : World) : Calls Tryz.prog 60 #[.agg #[.int .i64 n]] w fun e w' => e = .returned (.agg #[.int .i64 1, .int .i64 n, .string ⟨#[]⟩, .slice none 0 0]) ∧ Below w.heap.size w w' := by
  have hs1 : (w.alloc (.cells #[.int .i64 n] 90)).heap.size = w.heap.size + 1 := Array.size_push _
  have hp := heap_at_new (w.alloc (.cells #[.int .i64 n] 90)) (.cells #[.int .i64 1, .int .i64 n, .string ⟨#[]⟩, .slice none 0 0] 37)
  rw [hs1] at hp
  have HB := Lib.hid (alloc2v w (.cells #[.int .i64 n] 90) (.cells #[.int .i64 1, .int .i64 n, .string ⟨#[]⟩, .slice none 0 0] 37))
  have HP := Lib.hid hp
  clear hp hs1
  go_enter Tryz.func60, Tryz.ntmps60
  go_wp2
  refine bodyPost_ret (results_cell_row rfl _ _ (w.heap.size + 1) _ _ _ _ rfl HP.out Tryz.underlying37 rfl (by kernel_rfl)) rfl ?_
  exact ⟨rfl, HB.out⟩

set_option maxRecDepth 100000 in
theorem textValue_value (t : ByteArray) (w : World) : Calls Tryz.prog 61 #[.agg #[.string t]] w fun e w' => e = .returned (.agg #[.int .i64 2, .int .i64 0, .string t, .slice none 0 0]) ∧ Below w.heap.size w w' := by
  have hs1 : (w.alloc (.cells #[.string t] 93)).heap.size = w.heap.size + 1 := Array.size_push _
  have hp := heap_at_new (w.alloc (.cells #[.string t] 93)) (.cells #[.int .i64 2, .int .i64 0, .string t, .slice none 0 0] 37)
  rw [hs1] at hp
  have HB := Lib.hid (alloc2v w (.cells #[.string t] 93) (.cells #[.int .i64 2, .int .i64 0, .string t, .slice none 0 0] 37))
  have HP := Lib.hid hp
  clear hp hs1
  go_enter Tryz.func61, Tryz.ntmps61
  go_wp2
  refine bodyPost_ret (results_cell_row rfl _ _ (w.heap.size + 1) _ _ _ _ rfl HP.out Tryz.underlying37 rfl (by kernel_rfl)) rfl ?_
  exact ⟨rfl, HB.out⟩

set_option maxRecDepth 100000 in
theorem conValue_value (t : ByteArray) (p : Option Addr) (l c : Nat) (w : World) : Calls Tryz.prog 64 #[.agg #[.string t, .slice p l c]] w fun e w' => e = .returned (.agg #[.int .i64 3, .int .i64 0, .string t, .slice p l c]) ∧ Below w.heap.size w w' := by
  have hs1 : (w.alloc (.cells #[.string t, .slice p l c] 95)).heap.size = w.heap.size + 1 := Array.size_push _
  have hp := heap_at_new (w.alloc (.cells #[.string t, .slice p l c] 95)) (.cells #[.int .i64 3, .int .i64 0, .string t, .slice p l c] 37)
  rw [hs1] at hp
  have HB := Lib.hid (alloc2v w (.cells #[.string t, .slice p l c] 95) (.cells #[.int .i64 3, .int .i64 0, .string t, .slice p l c] 37))
  have HP := Lib.hid hp
  clear hp hs1
  go_enter Tryz.func64, Tryz.ntmps64
  go_wp2
  refine bodyPost_ret (results_cell_row rfl _ _ (w.heap.size + 1) _ _ _ _ rfl HP.out Tryz.underlying37 rfl (by kernel_rfl)) rfl ?_
  exact ⟨rfl, HB.out⟩

end Go.Proofs.YtdilegbigaahnaaGreat
end

/- What is proved here: the representation of a value as bytes, and what a walk with a stack has still to write of it. No condition. -/
section
namespace Go.Proofs.YtdilegbigaahnaaGreat
open Go.RowKit

/-- A text of these bytes. -/
def str (l : List UInt8) : ByteArray := ⟨l.toArray⟩
theorem str_size (l : List UInt8) : (str l).size = l.length := by show l.toArray.size = _; simp
theorem str_data (t : ByteArray) : str t.data.toList = t := by
  cases t
  simp [str]
theorem str_append (a b : List UInt8) : str a ++ str b = str (a ++ b) := by
  apply ByteArray.ext
  show (str a ++ str b).data = _
  rw [ByteArray.data_append]
  simp [str]
theorem str_inj {a b : List UInt8} (h : str a = str b) : a = b := by
  have : (str a).data.toList = (str b).data.toList := by rw [h]
  simpa [str] using this

/-- A node without what is below it. -/
def headText (k n : Int) (t : ByteArray) : List UInt8 :=
  if k = 1 then Lib.itoa n else if k = 2 then 34 :: (t.data.toList ++ [34]) else if k = 3 then t.data.toList else [63]
def Trees.close : Trees → List UInt8
  | .nil => []
  | .cons _ _ _ _ _ => [41]
/-- The nodes of a row, each behind a separator; the first one behind a parenthesis (b). -/
def Trees.tail : Trees → Bool → List UInt8
  | .nil, _ => []
  | .cons k n t ar r, b => (if b then [40] else [44, 32]) ++ (headText k n t ++ (if k = 3 then ar.tail true ++ ar.close else [])) ++ r.tail false
/-- The representation of a node. -/
def nodeText (k n : Int) (t : ByteArray) (ar : Trees) : List UInt8 := headText k n t ++ (if k = 3 then ar.tail true ++ ar.close else [])
theorem tail_cons (k n : Int) (t : ByteArray) (ar r : Trees) (b : Bool) : (Trees.cons k n t ar r).tail b = (if b then [40] else [44, 32]) ++ nodeText k n t ar ++ r.tail false := rfl
/-- The row without the first separator. -/
def Trees.first : Trees → List UInt8
  | .nil => []
  | .cons k n t ar r => nodeText k n t ar ++ r.tail false
theorem tail_first (F : Trees) (b : Bool) (h : F ≠ .nil) : F.tail b = (if b then [40] else [44, 32]) ++ F.first := by
  cases F with
  | nil => exact absurd rfl h
  | cons k n t ar r => rw [tail_cons, List.append_assoc]; rfl
/-- What is to be written behind the rest of a row, where the rows st (the last first) are open. -/
def after : List Trees → List UInt8
  | [] => []
  | G :: st => [41] ++ G.tail false ++ after st
/-- What a stack has still to write, where its last row has still to begin. -/
def fin : List Trees → List UInt8
  | [] => []
  | F :: st => F.first ++ after st
/-- The marks between a node and the next one of the stack; the stack that is left. -/
def marks2 : List Trees → List UInt8 × List Trees
  | [] => ([], [])
  | .cons k n t ar r :: st => ([44, 32], .cons k n t ar r :: st)
  | .nil :: st => (if st = [] then marks2 st else (41 :: (marks2 st).1, (marks2 st).2))
theorem marks2_fin (st : List Trees) : ∀ F : Trees, F.tail false ++ after st = (marks2 (F :: st)).1 ++ fin (marks2 (F :: st)).2 := by
  induction st with
  | nil =>
    intro F
    cases F with
    | nil => rfl
    | cons k n t ar r => simp [marks2, fin, after, tail_first _ false (by simp : Trees.cons k n t ar r ≠ .nil)]
  | cons G st ih =>
    intro F
    cases F with
    | nil =>
      have h := ih G
      simp only [Trees.tail, marks2, after, List.nil_append]
      rw [if_neg (by simp)]
      simp only [List.cons_append, List.nil_append]
      rw [h]
    | cons k n t ar r => simp [marks2, fin, tail_first _ false (by simp : Trees.cons k n t ar r ≠ .nil)]
/-- A node without a row below: its text, then the marks. -/
theorem fin_leaf (k n : Int) (t : ByteArray) (ar r : Trees) (st : List Trees) (h : k ≠ 3 ∨ ar = .nil) : fin (.cons k n t ar r :: st) = headText k n t ++ (marks2 (r :: st)).1 ++ fin (marks2 (r :: st)).2 := by
  have e : nodeText k n t ar = headText k n t := by
    unfold nodeText
    rcases h with h | rfl
    · rw [if_neg h, List.append_nil]
    · split <;> simp [Trees.tail, Trees.close]
  rw [List.append_assoc, ← marks2_fin]
  simp only [fin, Trees.first, e, List.append_assoc]
/-- A constructor with a row below. -/
theorem fin_node (n : Int) (t : ByteArray) (ar r : Trees) (st : List Trees) (h : ar ≠ .nil) : fin (.cons 3 n t ar r :: st) = headText 3 n t ++ [40] ++ fin (ar :: r :: st) := by
  have e : ar.close = [41] := by
    cases ar with
    | nil => exact absurd rfl h
    | cons _ _ _ _ _ => rfl
  simp only [fin, Trees.first, nodeText, if_true, after, tail_first ar true h, e, List.append_assoc]
theorem fin_one (k n : Int) (t : ByteArray) (ar : Trees) : fin [.cons k n t ar .nil] = nodeText k n t ar := by
  simp [fin, Trees.first, after, Trees.tail]
/-- The stack that the marks leave: what had begun is nowhere empty on top. -/
theorem marks2_top (st : List Trees) : (marks2 st).2 = [] ∨ ∃ k n t ar r st2, (marks2 st).2 = .cons k n t ar r :: st2 := by
  induction st with
  | nil => exact .inl rfl
  | cons F st ih =>
    cases F with
    | cons k n t ar r => exact .inr ⟨k, n, t, ar, r, st, rfl⟩
    | nil =>
      simp only [marks2]
      split
      · exact ih
      · exact ih

/-! Lengths. -/
theorem itoa_len (n : Int) (h0 : -9223372036854775808 ≤ n) (h1 : n ≤ 9223372036854775807) : (Lib.itoa n).length ≤ 21 := Lib.itoa_length_le n h0 h1
theorem headText_len (k n : Int) (t : ByteArray) (hn : -9223372036854775808 ≤ n ∧ n ≤ 9223372036854775807) : (headText k n t).length ≤ 21 + t.size := by
  have h := itoa_len n hn.1 hn.2
  have e : t.data.toList.length = t.size := rfl
  unfold headText
  split
  · omega
  · split
    · simp only [List.length_cons, List.length_append, e]; simp; omega
    · split
      · omega
      · simp; omega
theorem tail_len (F : Trees) (hf : F.fits) : ∀ b, (F.tail b).length ≤ 24 * F.size := by
  induction F with
  | nil => intro b; simp [Trees.tail]
  | cons k n t ar r ih1 ih2 =>
    intro b
    obtain ⟨_, hn, _, _, h4, h5⟩ := hf
    have h := headText_len k n t hn
    have hc : ar.close.length ≤ 1 := by cases ar <;> simp [Trees.close]
    have a1 := ih1 h4 true
    have a2 := ih2 h5 false
    have e : ((if k = 3 then ar.tail true ++ ar.close else []) : List UInt8).length ≤ 24 * ar.size + 1 := by
      split
      · rw [List.length_append]; omega
      · simp
    have e2 : ((if b then [40] else [44, 32]) : List UInt8).length ≤ 2 := by cases b <;> simp
    simp only [Trees.tail, List.length_append, Trees.size]
    omega
theorem nodeText_len (k n : Int) (t : ByteArray) (ar : Trees) (hn : -9223372036854775808 ≤ n ∧ n ≤ 9223372036854775807) (hf : ar.fits) : (nodeText k n t ar).length ≤ 24 * (t.size + ar.size) + 22 := by
  have h := headText_len k n t hn
  have a1 := tail_len ar hf true
  have hc : ar.close.length ≤ 1 := by cases ar <;> simp [Trees.close]
  unfold nodeText
  rw [List.length_append]
  split
  · rw [List.length_append]; omega
  · simp; omega
end Go.Proofs.YtdilegbigaahnaaGreat
end

/- What is proved here: the program's kindOf makes of a value what its kind says. Condition: none. -/
section
namespace Go.Proofs.YtdilegbigaahnaaGreat
open Go.RowKit

theorem zero_int (w : World) : (zeroValue 90).run Tryz.prog w = .ok (.agg #[.int .i64 0]) w := by kernel_rfl
theorem zero_text (w : World) : (zeroValue 93).run Tryz.prog w = .ok (.agg #[.string ⟨#[]⟩]) w := by kernel_rfl
theorem zero_con (w : World) : (zeroValue 95).run Tryz.prog w = .ok (.agg #[.string ⟨#[]⟩, .slice none 0 0]) w := by kernel_rfl

/-- A value as one of the three kinds. -/
def kindV (k n : Int) (t : ByteArray) (p : Option Addr) (l c : Nat) : Value :=
  if k = 1 then .iface 90 (.agg #[.int .i64 n]) else if k = 2 then .iface 93 (.agg #[.string t]) else if k = 3 then .iface 95 (.agg #[.string t, .slice p l c]) else .nilIface

set_option maxHeartbeats 1000000 in
set_option maxRecDepth 100000 in
theorem impl_kind (w : World) (k n : Int) (t : ByteArray) (p : Option Addr) (l c : Nat) :
    Calls Tryz.prog 51 #[.agg #[.int .i64 k, .int .i64 n, .string t, .slice p l c]] w fun e w' => e = .returned (kindV k n t p l c) ∧ Below w.heap.size w w' := by
  have HB := Lib.hid ((Below.refl w.heap.size w).alloc (Nat.le_refl _) (.cells #[.int .i64 k, .int .i64 n, .string t, .slice p l c] 37))
  by_cases h1 : k = 1
  · subst h1
    go_enter Tryz.func51, Tryz.ntmps51
    go_wp2
    go_ret
    exact ⟨rfl, HB.out⟩
  · have e1 : (k == 1) = false := by simpa using h1
    by_cases h2 : k = 2
    · subst h2
      go_enter Tryz.func51, Tryz.ntmps51
      go_wp2
      go_ret
      exact ⟨rfl, HB.out⟩
    · have e2 : (k == 2) = false := by simpa using h2
      by_cases h3 : k = 3
      · subst h3
        go_enter Tryz.func51, Tryz.ntmps51
        go_wp2
        go_ret
        exact ⟨rfl, HB.out⟩
      · have e3 : (k == 3) = false := by simpa using h3
        have HK : Hid (kindV k n t p l c = .nilIface) := by unfold Hid kindV; rw [if_neg h1, if_neg h2, if_neg h3]
        clear h1 h2 h3
        go_enter Tryz.func51, Tryz.ntmps51
        go_wp2
        go_ret
        exact ⟨by rw [HK.out]; rfl, HB.out⟩
end Go.Proofs.YtdilegbigaahnaaGreat
end

/- What is proved here: the model's type assertion with two results, at an interface value whose type is known. No condition. -/
section
namespace Go.Proofs.YtdilegbigaahnaaGreat
open Go.RowKit

theorem assert_yes {P : Program} {T X : TypeId} {fs : Array Field} (ht : P.underlying T = some (.struct fs)) (v : Value) (w : World) : (Instr.typeAssert (.iface T v) X T true).run P w = .ok (.tuple #[v, .bool true]) w := by
  simp [Instr.typeAssert, run_underlying ht, Result.andThen]
theorem assert_no {P : Program} {T T2 X : TypeId} {fs : Array Field} {z : Value} (ht : P.underlying T = some (.struct fs)) (hz : ∀ w, (zeroValue T).run P w = .ok z w) (hne : T2 ≠ T) (v : Value) (w : World) : (Instr.typeAssert (.iface T2 v) X T true).run P w = .ok (.tuple #[z, .bool false]) w := by
  simp [Instr.typeAssert, run_underlying ht, Result.andThen, hz, hne]
theorem assert_nil {P : Program} {T X : TypeId} {fs : Array Field} {z : Value} (ht : P.underlying T = some (.struct fs)) (hz : ∀ w, (zeroValue T).run P w = .ok z w) (w : World) : (Instr.typeAssert .nilIface X T true).run P w = .ok (.tuple #[z, .bool false]) w := by
  simp [Instr.typeAssert, run_underlying ht, Result.andThen, hz]
end Go.Proofs.YtdilegbigaahnaaGreat
end
