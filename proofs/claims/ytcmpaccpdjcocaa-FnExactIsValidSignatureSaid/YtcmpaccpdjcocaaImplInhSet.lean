/- What is proved here: the program's inhabitedSet hands back the set of the types that have values. Condition: the signature lies in memory as said, and is small. -/
import Derived.Test.YtcmpaccpdjcocaaImplBuild
import Derived.Deep.LoopGhost
namespace Go.Proofs.Ytcmpaccpdjcocaa
open Go.RowKit

/-- The world of inhabitedSet: the set so far, the box of the signature. -/
def InhW (w : World) (s : List TypeD) (a : Option Addr) (n cap bi ni : Nat) (S : ByteArray → Prop) (wr : World) : Prop := HasSet wr bi ni S ∧ Below w.heap.size w wr ∧ wr.cell? ⟨w.heap.size, 0, none⟩ = some (.slice a n cap) ∧ ∀ x, S x → Inh s x
theorem InhW.below {w : World} {s : List TypeD} {a : Option Addr} {n cap bi ni : Nat} {S : ByteArray → Prop} {wr w' : World} (h : InhW w s a n cap bi ni S wr) (hb : Below wr.heap.size wr w') : InhW w s a n cap bi ni S w' :=
  ⟨h.1.below hb, h.2.1.trans (hb.mono h.2.1.size), cell_below h.2.2.1 hb, h.2.2.2⟩
theorem InhW.grown {w : World} {s : List TypeD} {a : Option Addr} {n cap bi ni : Nat} {S : ByteArray → Prop} {wr w' : World} {b : Nat} (h : InhW w s a n cap bi ni S wr) (hg : wr.grownBy w' (some b)) (h1 : bi ≠ b) (h2 : w.heap.size < b) : InhW w s a n cap bi ni S w' :=
  ⟨h.1.kept hg (fun e => h1 (Option.some.inj e)), h.2.1.grown hg h.2.1.size (fun k e => by have := Option.some.inj e; omega), hg.cell h.2.2.1 (fun e => by have := Option.some.inj e; simp at this; omega), h.2.2.2⟩

set_option maxHeartbeats 4000000 in
set_option maxRecDepth 100000 in
theorem impl_inhSet (w : World) (a : Option Addr) (cap : Nat) (s : List TypeD) (hx : Row2 TypeAt w a s) (hf : sigFits s) (hm : s.length ≤ 1048576) (hs : ∀ c ∈ s, c.cons.length ≤ 1048576 ∧ ∀ d ∈ c.cons, d.args.length ≤ 1048576) :
    Calls Try.prog 61 #[.agg #[.slice a s.length cap]] w fun e w' => (∃ bi ni S, e = .returned (.map (some bi)) ∧ HasSet w' bi ni S ∧ ∀ x, S x ↔ Inh s x) ∧ Below w.heap.size w w' := by
  have hmm := @run_makeMap Try.prog
  have HX := Lib.hid hx
  have HS := Lib.hid hs
  have HF := Lib.hid hf.2
  have s1 : (w.alloc (.cells #[.slice a s.length cap] 33)).heap.size = w.heap.size + 1 := Array.size_push _
  have hbA : Below w.heap.size w (w.alloc (.cells #[.slice a s.length cap] 33)) := (Below.refl _ _).alloc (Nat.le_refl _) _
  have hc0 := (one_cell (heap_at_new w (.cells #[.slice a s.length cap] 33))).1
  generalize hw1 : w.alloc (.cells #[.slice a s.length cap] 33) = w1 at *
  have hb2 : Below w1.heap.size w1 (w1.alloc (.map #[] 0)) := (Below.refl _ _).alloc (Nat.le_refl _) _
  have s2 : (w1.alloc (.map #[] 0)).heap.size = w1.heap.size + 1 := Array.size_push _
  have hi2 := (isSet_made w1).has
  have hb3 : Below (w1.alloc (.map #[] 0)).heap.size (w1.alloc (.map #[] 0)) ((w1.alloc (.map #[] 0)).alloc (.map #[] 0)) := (Below.refl _ _).alloc (Nat.le_refl _) _
  have hf3 := isSet_made (w1.alloc (.map #[] 0))
  have hRest : InhW w s a s.length cap (w.heap.size + 1) 0 (· ∈ ([] : List ByteArray)) ((w1.alloc (.map #[] 0)).alloc (.map #[] 0)) := by
    rw [s1] at hi2
    exact ⟨hi2.below hb3, (hbA.trans (hb2.mono hbA.size)).trans (hb3.mono (by omega)), cell_below (cell_below hc0 hb2) hb3, fun x hx => by cases hx⟩
  rw [s2, s1] at hf3
  have HRS := Lib.hid hRest
  have HFS := Lib.hid hf3
  have HW1 := Lib.hid hw1
  have HMS := Lib.hid (missing_le s (· ∈ ([] : List ByteArray)))
  clear hx hs hf s1 s2 hbA hc0 hb2 hi2 hb3 hf3 hRest hw1
  generalize hn : s.length = n at *
  have HN := Lib.hid hn
  clear hn
  go_enter Try.func61, Try.ntmps61
  go_wp2
  rw [HW1.out]
  generalize (w1.alloc (.map #[] 0)).alloc (.map #[] 0) = w3 at *
  clear hmm
  go_loopg [13] (n + 1) (fun gg _ wr => ∃ (ni nf : Nat) (S : ByteArray → Prop) (fs : List ByteArray), Aside (InhW w s a n cap (w.heap.size + 1) ni S wr) ∧ Aside (IsSet wr (w.heap.size + 1 + 1) nf fs) ∧ Aside (missing s S + 1 ≤ gg) ∧ Aside (ni + gg * 1048576 ≤ 1099513724928))
  case atStart => exact ⟨0, 0, _, [], HRS.out, HFS.out, by have := HMS.out; show _ + 1 ≤ n + 1; omega, by show _ ≤ _; omega⟩
  case round =>
    obtain ⟨ni, nf, S, fs, hR, hFF, hM, hC⟩ := hrel
    have hset := hFF.out
    go_wp2_with (refine wpList_clear rfl _ rfl (w.heap.size + 1 + 1) nf fs rfl hset ?_; intro w4 hs4 hg4; have HR4 : Hid (InhW w s a n cap (w.heap.size + 1) ni S w4) := hR.out.grown hg4 (by omega) (by omega); have c4 := HR4.out.2.2.1)
    have HF4 := Lib.hid hs4
    have HI := Lib.hid hR.out.2.2.2
    clear hset hs4 hg4 hR hFF c4
    go_loopw [13] (fun i wr => ∃ (k : Nat) (fs : List ByteArray), k ≤ n ∧ i = .int .i64 k ∧ Hid (InhW w s a n cap (w.heap.size + 1) ni S wr) ∧ Hid (IsSet wr (w.heap.size + 1 + 1) k fs) ∧ Hid (∀ x ∈ fs, ¬ S x ∧ Inh s x) ∧ Hid (∀ (j : Nat) t, j < k → s[j]? = some t → typeOk S t → S t.name ∨ t.name ∈ fs)) (fun i _ => n - (intOf i).toNat)
    case atStart => exact ⟨0, [], Nat.zero_le _, rfl, HR4.out, HF4.out, (fun x hx => absurd hx (by simp)), (fun j _ h => by omega)⟩
    case round =>
      obtain ⟨k, fs, hk, rfl, hR, hFF, hA, hD⟩ := hrel
      by_cases hlt : k < n
      · have hk' : k < s.length := by rw [HN.out]; exact hlt
        have hltz : (k : Int) < (n : Int) := by omega
        obtain ⟨y, u1, v1, rfl, hc0, hc1, hr1⟩ := row2_below type_below HX.out hR.out.2.1 k hk'
        have hx : s[k]? = some s[k] := List.getElem?_eq_getElem hk'
        have hq := HS.out _ (List.getElem_mem hk')
        have hfx := HF.out _ (List.getElem_mem hk')
        have hmem : s[k] ∈ s := List.getElem_mem hk'
        generalize s[k] = t at hx hr1 hq hfx hmem
        have hr2 := hr1
        obtain ⟨ta, tc, hu, hv, _⟩ := hr2
        subst hu
        subst hv
        have HXE := Lib.hid hx
        have HME := Lib.hid hmem
        have hbD : Below wr.heap.size wr (wr.alloc (.cells #[.string t.name, .slice ta t.cons.length tc] 28)) := (Below.refl _ _).alloc (Nat.le_refl _) _
        have HR5 := Lib.hid (hR.out.below hbD)
        have HF5 := Lib.hid (hFF.out.below hbD)
        have hlk := HR5.out.1.look t.name hfx.1
        have H := impl_hasBuildable _ t _ _ (w.heap.size + 1) ni S (type_below _ _ _ _ _ hr1 hbD) hfx hq.1 hq.2 HR5.out.1
        obtain ⟨e1, e2, _, _⟩ := two_cells (heap_at_new wr (.cells #[.string t.name, .slice ta t.cons.length tc] 28))
        have HT := Lib.hid hfx.1
        clear hx hr1 hq hfx hmem hbD
        by_cases hin : S t.name
        · rw [bl_true hin] at hlk
          have HIN := Lib.hid hin
          clear hin H
          go_wp2
          go_roundw
          case rel => exact ⟨k + 1, fs, by omega, by go_num, HR5.out, World.ownsMap.mono HF5.out (Nat.le_succ k), hA, before_succ' (p := fun t => typeOk S t → S t.name ∨ t.name ∈ fs) hD.out HXE.out (fun _ => .inl HIN.out)⟩
          case measure => simp [intOf]; omega
        · rw [bl_false hin] at hlk
          have HIN := Lib.hid hin
          clear hin
          by_cases hok : typeOk S t
          · rw [bl_true hok] at H
            have HOK := Lib.hid hok
            clear hok
            go_wp2_with fail
            generalize wr.alloc (.cells #[.string t.name, .slice ta t.cons.length tc] 28) = w5 at *
            refine H.mono ?_
            rintro e w6 ⟨rfl, hb6⟩
            have HR6 := Lib.hid (HR5.out.below hb6)
            have hf6 := HF5.out.below hb6
            have d1 := cell_below e1 hb6
            obtain ⟨w7, hput, hf7, hg7⟩ := hf6.put (by unfold maxLen; omega) t.name HT.out
            have HR7 : Hid (InhW w s (some y) n cap (w.heap.size + 1) ni S w7) := HR6.out.grown hg7 (by omega) (by omega)
            have HF7 := Lib.hid hf7
            clear hb6 hf6 hf7 hg7 H hlk e1 e2
            go_wp2
            go_roundw
            case rel =>
              refine ⟨k + 1, fs ++ [t.name], by omega, by go_num, HR7.out, HF7.out, fun x hx => ?_, ?_⟩
              · rcases List.mem_append.1 hx with h | h
                · exact hA.out x h
                · simp at h
                  subst h
                  exact ⟨HIN.out, inh_step hR.out.2.2.2 HME.out HOK.out⟩
              · exact before_succ' (p := fun t => typeOk S t → S t.name ∨ t.name ∈ _) (fun j z hj hz ho => (hD.out j z hj hz ho).imp id (fun h => List.mem_append_left _ h)) HXE.out (fun _ => .inr (by simp))
            case measure => simp [intOf]; omega
          · rw [bl_false hok] at H
            have HOK := Lib.hid hok
            clear hok
            go_wp2_with fail
            generalize wr.alloc (.cells #[.string t.name, .slice ta t.cons.length tc] 28) = w5 at *
            refine H.mono ?_
            rintro e w6 ⟨rfl, hb6⟩
            have HR6 := Lib.hid (HR5.out.below hb6)
            have HF6 := Lib.hid (HF5.out.below hb6)
            clear hb6 H hlk e1 e2
            go_wp2
            go_roundw
            case rel => exact ⟨k + 1, fs, by omega, by go_num, HR6.out, World.ownsMap.mono HF6.out (Nat.le_succ k), hA, before_succ' (p := fun t => typeOk S t → S t.name ∨ t.name ∈ fs) hD.out HXE.out (fun h => absurd h HOK.out)⟩
            case measure => simp [intOf]; omega
      · obtain rfl : k = n := by omega
        have hfs := hFF.out
        unfold IsSet at hfs
        have hzz := size_setOf fs
        have c0 := hR.out.2.2.1
        by_cases hnil : fs = []
        · have hz1 : ((Maps.size (Maps.setOf yes (fs.map strLit)) : Nat) : Int) = 0 := by rw [hzz.2 hnil]; rfl
          have HCL : Hid (∀ x, S x ↔ Inh s x) := by
            refine inh_closed (fun t ht ho => ?_) HI.out
            obtain ⟨j, hj, e2⟩ := List.mem_iff_getElem.1 ht
            rcases hD.out j t (by have := HN.out; omega) (by rw [List.getElem?_eq_getElem hj, e2]) ho with h | h
            · exact h
            · rw [hnil] at h
              cases h
          clear hzz hnil
          go_wp2_with (refine wpList_len_own _ rfl _ 78 rfl 9 4 Try.underlying78 (plainElem (H := Unit) Try.prog 4) (w.heap.size + 1 + 1) k _ rfl hfs ?_; rw [hz1])
          go_ret
          exact ⟨⟨_, ni, S, rfl, hR.out.1, HCL.out⟩, hR.out.2.1⟩
        · have hz1 : ∃ q : Nat, Maps.size (Maps.setOf yes (fs.map strLit)) = q ∧ (((q : Nat) : Int) == 0) = false := ⟨_, rfl, by have := fun h => hnil (hzz.1 h); simpa using this⟩
          obtain ⟨q, hq1, hq2⟩ := hz1
          have hqk : Maps.size (Maps.setOf yes (fs.map strLit)) ≤ k := World.ownsMap.size_le hfs
          rw [hq1] at hqk
          have HMM : Hid (missing s (fun x => S x ∨ x ∈ fs) < missing s S) := by
            refine (missing_less (fun x h => .inl h)).2 ?_
            cases hfs2 : fs with
            | nil => exact absurd hfs2 hnil
            | cons z r =>
              have hz := hA.out z (by rw [hfs2]; simp)
              exact ⟨z, inh_name hz.2, hz.1, .inr (by simp)⟩
          have hC' := hC.out
          have hM' := hM.out
          have hgk : 1 ≤ gk := by omega
          have H := copy_sets (w.heap.size + 1) (w.heap.size + 1 + 1) ni k S fs wr hR.out.1 hFF.out (by omega) (by unfold maxLen; omega)
          clear hzz hnil
          have HC' := Lib.hid hC'
          have HM' := Lib.hid hM'
          clear hC' hM'
          go_wp2_with (first | (refine wpList_len_own _ rfl _ 78 rfl 9 4 Try.underlying78 (plainElem (H := Unit) Try.prog 4) (w.heap.size + 1 + 1) k _ rfl hfs ?_; rw [hq1]) | fail)
          refine H.mono ?_
          rintro e w8 ⟨rfl, h8, hf8, hg8⟩
          have hB8 : Below w.heap.size w w8 := hR.out.2.1.grown hg8 hR.out.2.1.size (fun b e => by have := Option.some.inj e; omega)
          have c8 := hg8.cell c0 (fun e => by have := Option.some.inj e; simp at this)
          have HR8 : Hid (InhW w s a k cap (w.heap.size + 1) (ni + k) (fun x => S x ∨ x ∈ fs) w8) := ⟨h8, hB8, c8, fun x hx => hx.elim (HI.out x) (fun h => (hA.out x h).2)⟩
          have HF8 := Lib.hid hf8
          clear h8 hf8 hg8 hB8 c8 H hfs c0
          go_wp2
          go_roundg (gk - 1)
          case measure => omega
          case rel =>
            have := HC'.out
            have := HM'.out
            have := HMM.out
            exact ⟨ni + k, k, _, fs, HR8.out, HF8.out, (by show _ + 1 ≤ gk - 1; omega), (by show _ ≤ _; omega)⟩
end Go.Proofs.Ytcmpaccpdjcocaa
