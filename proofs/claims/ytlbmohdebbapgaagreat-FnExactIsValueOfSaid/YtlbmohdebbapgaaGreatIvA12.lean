/- What is proved here: a piece of the proof of YtlbmohdebbapgaaGreatExactIsValueOf (ImplInhSet, SpecRound, SpecInhab, ImplInhab). Condition: none beyond what each part says. -/
import Derived.Test.YtlbmohdebbapgaaGreatIvA11
import Derived.Deep.LoopGhost
import Derived.Deep.AppendLies

/- What is proved here: the program's inhabitedSet hands back the set of the types that have values. Condition: the signature lies in memory as said, and is small. -/
section
namespace Go.Proofs.YtlbmohdebbapgaaGreat
open Go.RowKit

/-- The world of inhabitedSet: the set so far, the box of the signature. -/
def InhW (w : World) (s : List TypeD) (a : Option Addr) (n cap bi ni : Nat) (S : ByteArray → Prop) (wr : World) : Prop := HasSet wr bi ni S ∧ Below w.heap.size w wr ∧ wr.cell? ⟨w.heap.size, 0, none⟩ = some (.slice a n cap) ∧ ∀ x, S x → Inh s x
theorem InhW.below {w : World} {s : List TypeD} {a : Option Addr} {n cap bi ni : Nat} {S : ByteArray → Prop} {wr w' : World} (h : InhW w s a n cap bi ni S wr) (hb : Below wr.heap.size wr w') : InhW w s a n cap bi ni S w' :=
  ⟨h.1.below hb, h.2.1.trans (hb.mono h.2.1.size), cell_below h.2.2.1 hb, h.2.2.2⟩
theorem InhW.grown {w : World} {s : List TypeD} {a : Option Addr} {n cap bi ni : Nat} {S : ByteArray → Prop} {wr w' : World} {b : Nat} (h : InhW w s a n cap bi ni S wr) (hg : wr.grownBy w' (some b)) (h1 : bi ≠ b) (h2 : w.heap.size < b) : InhW w s a n cap bi ni S w' :=
  ⟨h.1.kept hg (fun e => h1 (Option.some.inj e)), h.2.1.grown hg h.2.1.size (fun k e => by have := Option.some.inj e; omega), hg.cell h.2.2.1 (fun e => by have := Option.some.inj e; simp at this; omega), h.2.2.2⟩

set_option maxHeartbeats 4000000 in
set_option maxRecDepth 100000 in
theorem impl_inhSet (w : World) (a : Option Addr) (cap : Nat) (s : List TypeD) (hx : Row2 TypeAt w a s) (hf : sigFits s) (hm : s.length ≤ 1048576) (hs : ∀ c ∈ s, c.cons.length ≤ 1048576 ∧ ∀ d ∈ c.cons, d.args.length ≤ 1048576) :
    Calls Tryz.prog 77 #[.agg #[.slice a s.length cap]] w fun e w' => (∃ bi ni S, e = .returned (.map (some bi)) ∧ HasSet w' bi ni S ∧ ∀ x, S x ↔ Inh s x) ∧ Below w.heap.size w w' := by
  have hmm := @run_makeMap Tryz.prog
  have HX := Lib.hid hx
  have HS := Lib.hid hs
  have HF := Lib.hid hf.2
  have s1 : (w.alloc (.cells #[.slice a s.length cap] 33)).heap.size = w.heap.size + 1 := Array.size_push _
  have hbA : Below w.heap.size w (w.alloc (.cells #[.slice a s.length cap] 33)) := (Below.refl _ _).alloc (Nat.le_refl _) _
  have hc0 := (one_cell (heap_at_new w (.cells #[.slice a s.length cap] 33))).1
  generalize hw1 : w.alloc (.cells #[.slice a s.length cap] 33) = w1 at *
  have hb2 : Below w1.heap.size w1 (w1.alloc (.map #[] 0)) := (Below.refl _ _).alloc (Nat.le_refl _) _
  have s2 : (w1.alloc (.map #[] 0)).heap.size = w1.heap.size + 1 := Array.size_push _
  have hi2 := (isSet_made w1).has
  have hb3 : Below (w1.alloc (.map #[] 0)).heap.size (w1.alloc (.map #[] 0)) ((w1.alloc (.map #[] 0)).alloc (.map #[] 0)) := (Below.refl _ _).alloc (Nat.le_refl _) _
  have hf3 := isSet_made (w1.alloc (.map #[] 0))
  have hRest : InhW w s a s.length cap (w.heap.size + 1) 0 (· ∈ ([] : List ByteArray)) ((w1.alloc (.map #[] 0)).alloc (.map #[] 0)) := by
    rw [s1] at hi2
    exact ⟨hi2.below hb3, (hbA.trans (hb2.mono hbA.size)).trans (hb3.mono (by omega)), cell_below (cell_below hc0 hb2) hb3, fun x hx => by cases hx⟩
  rw [s2, s1] at hf3
  have HRS := Lib.hid hRest
  have HFS := Lib.hid hf3
  have HW1 := Lib.hid hw1
  have HMS := Lib.hid (missing_le s (· ∈ ([] : List ByteArray)))
  clear hx hs hf s1 s2 hbA hc0 hb2 hi2 hb3 hf3 hRest hw1
  generalize hn : s.length = n at *
  have HN := Lib.hid hn
  clear hn
  go_enter Tryz.func77, Tryz.ntmps77
  go_wp2
  rw [HW1.out]
  generalize (w1.alloc (.map #[] 0)).alloc (.map #[] 0) = w3 at *
  clear hmm
  go_loopg [13] (n + 1) (fun gg _ wr => ∃ (ni nf : Nat) (S : ByteArray → Prop) (fs : List ByteArray), Aside (InhW w s a n cap (w.heap.size + 1) ni S wr) ∧ Aside (IsSet wr (w.heap.size + 1 + 1) nf fs) ∧ Aside (missing s S + 1 ≤ gg) ∧ Aside (ni + gg * 1048576 ≤ 1099513724928))
  case atStart => exact ⟨0, 0, _, [], HRS.out, HFS.out, by have := HMS.out; show _ + 1 ≤ n + 1; omega, by show _ ≤ _; omega⟩
  case round =>
    obtain ⟨ni, nf, S, fs, hR, hFF, hM, hC⟩ := hrel
    have hset := hFF.out
    go_wp2_with (refine wpList_clear rfl _ rfl (w.heap.size + 1 + 1) nf fs rfl hset ?_; intro w4 hs4 hg4; have HR4 : Hid (InhW w s a n cap (w.heap.size + 1) ni S w4) := hR.out.grown hg4 (by omega) (by omega); have c4 := HR4.out.2.2.1)
    have HF4 := Lib.hid hs4
    have HI := Lib.hid hR.out.2.2.2
    clear hset hs4 hg4 hR hFF c4
    go_loopw [13] (fun i wr => ∃ (k : Nat) (fs : List ByteArray), k ≤ n ∧ i = .int .i64 k ∧ Hid (InhW w s a n cap (w.heap.size + 1) ni S wr) ∧ Hid (IsSet wr (w.heap.size + 1 + 1) k fs) ∧ Hid (∀ x ∈ fs, ¬ S x ∧ Inh s x) ∧ Hid (∀ (j : Nat) t, j < k → s[j]? = some t → typeOk S t → S t.name ∨ t.name ∈ fs)) (fun i _ => n - (intOf i).toNat)
    case atStart => exact ⟨0, [], Nat.zero_le _, rfl, HR4.out, HF4.out, (fun x hx => absurd hx (by simp)), (fun j _ h => by omega)⟩
    case round =>
      obtain ⟨k, fs, hk, rfl, hR, hFF, hA, hD⟩ := hrel
      by_cases hlt : k < n
      · have hk' : k < s.length := by rw [HN.out]; exact hlt
        have hltz : (k : Int) < (n : Int) := by omega
        obtain ⟨y, u1, v1, rfl, hc0, hc1, hr1⟩ := row2_below type_below HX.out hR.out.2.1 k hk'
        have hx : s[k]? = some s[k] := List.getElem?_eq_getElem hk'
        have hq := HS.out _ (List.getElem_mem hk')
        have hfx := HF.out _ (List.getElem_mem hk')
        have hmem : s[k] ∈ s := List.getElem_mem hk'
        generalize s[k] = t at hx hr1 hq hfx hmem
        have hr2 := hr1
        obtain ⟨ta, tc, hu, hv, _⟩ := hr2
        subst hu
        subst hv
        have HXE := Lib.hid hx
        have HME := Lib.hid hmem
        have hbD : Below wr.heap.size wr (wr.alloc (.cells #[.string t.name, .slice ta t.cons.length tc] 71)) := (Below.refl _ _).alloc (Nat.le_refl _) _
        have HR5 := Lib.hid (hR.out.below hbD)
        have HF5 := Lib.hid (hFF.out.below hbD)
        have hlk := HR5.out.1.look t.name hfx.1
        have H := impl_hasBuildable _ t _ _ (w.heap.size + 1) ni S (type_below _ _ _ _ _ hr1 hbD) hfx hq.1 hq.2 HR5.out.1
        obtain ⟨e1, e2, _, _⟩ := two_cells (heap_at_new wr (.cells #[.string t.name, .slice ta t.cons.length tc] 71))
        have HT := Lib.hid hfx.1
        clear hx hr1 hq hfx hmem hbD
        by_cases hin : S t.name
        · rw [bl_true hin] at hlk
          have HIN := Lib.hid hin
          clear hin H
          go_wp2
          go_roundw
          case rel => exact ⟨k + 1, fs, by omega, by go_num, HR5.out, World.ownsMap.mono HF5.out (Nat.le_succ k), hA, before_succ' (p := fun t => typeOk S t → S t.name ∨ t.name ∈ fs) hD.out HXE.out (fun _ => .inl HIN.out)⟩
          case measure => simp [intOf]; omega
        · rw [bl_false hin] at hlk
          have HIN := Lib.hid hin
          clear hin
          by_cases hok : typeOk S t
          · rw [bl_true hok] at H
            have HOK := Lib.hid hok
            clear hok
            go_wp2_with fail
            generalize wr.alloc (.cells #[.string t.name, .slice ta t.cons.length tc] 71) = w5 at *
            refine H.mono ?_
            rintro e w6 ⟨rfl, hb6⟩
            have HR6 := Lib.hid (HR5.out.below hb6)
            have hf6 := HF5.out.below hb6
            have d1 := cell_below e1 hb6
            obtain ⟨w7, hput, hf7, hg7⟩ := hf6.put (by unfold maxLen; omega) t.name HT.out
            have HR7 : Hid (InhW w s (some y) n cap (w.heap.size + 1) ni S w7) := HR6.out.grown hg7 (by omega) (by omega)
            have HF7 := Lib.hid hf7
            clear hb6 hf6 hf7 hg7 H hlk e1 e2
            go_wp2
            go_roundw
            case rel =>
              refine ⟨k + 1, fs ++ [t.name], by omega, by go_num, HR7.out, HF7.out, fun x hx => ?_, ?_⟩
              · rcases List.mem_append.1 hx with h | h
                · exact hA.out x h
                · simp at h
                  subst h
                  exact ⟨HIN.out, inh_step hR.out.2.2.2 HME.out HOK.out⟩
              · exact before_succ' (p := fun t => typeOk S t → S t.name ∨ t.name ∈ _) (fun j z hj hz ho => (hD.out j z hj hz ho).imp id (fun h => List.mem_append_left _ h)) HXE.out (fun _ => .inr (by simp))
            case measure => simp [intOf]; omega
          · rw [bl_false hok] at H
            have HOK := Lib.hid hok
            clear hok
            go_wp2_with fail
            generalize wr.alloc (.cells #[.string t.name, .slice ta t.cons.length tc] 71) = w5 at *
            refine H.mono ?_
            rintro e w6 ⟨rfl, hb6⟩
            have HR6 := Lib.hid (HR5.out.below hb6)
            have HF6 := Lib.hid (HF5.out.below hb6)
            clear hb6 H hlk e1 e2
            go_wp2
            go_roundw
            case rel => exact ⟨k + 1, fs, by omega, by go_num, HR6.out, World.ownsMap.mono HF6.out (Nat.le_succ k), hA, before_succ' (p := fun t => typeOk S t → S t.name ∨ t.name ∈ fs) hD.out HXE.out (fun h => absurd h HOK.out)⟩
            case measure => simp [intOf]; omega
      · obtain rfl : k = n := by omega
        have hfs := hFF.out
        unfold IsSet at hfs
        have hzz := size_setOf fs
        have c0 := hR.out.2.2.1
        by_cases hnil : fs = []
        · have hz1 : ((Maps.size (Maps.setOf yes (fs.map strLit)) : Nat) : Int) = 0 := by rw [hzz.2 hnil]; rfl
          have HCL : Hid (∀ x, S x ↔ Inh s x) := by
            refine inh_closed (fun t ht ho => ?_) HI.out
            obtain ⟨j, hj, e2⟩ := List.mem_iff_getElem.1 ht
            rcases hD.out j t (by have := HN.out; omega) (by rw [List.getElem?_eq_getElem hj, e2]) ho with h | h
            · exact h
            · rw [hnil] at h
              cases h
          clear hzz hnil
          go_wp2_with (refine wpList_len_own _ rfl _ 111 rfl 9 4 Tryz.underlying111 (plainElem (H := Unit) Tryz.prog 4) (w.heap.size + 1 + 1) k _ rfl hfs ?_; rw [hz1])
          go_ret
          exact ⟨⟨_, ni, S, rfl, hR.out.1, HCL.out⟩, hR.out.2.1⟩
        · have hz1 : ∃ q : Nat, Maps.size (Maps.setOf yes (fs.map strLit)) = q ∧ (((q : Nat) : Int) == 0) = false := ⟨_, rfl, by have := fun h => hnil (hzz.1 h); simpa using this⟩
          obtain ⟨q, hq1, hq2⟩ := hz1
          have hqk : Maps.size (Maps.setOf yes (fs.map strLit)) ≤ k := World.ownsMap.size_le hfs
          rw [hq1] at hqk
          have HMM : Hid (missing s (fun x => S x ∨ x ∈ fs) < missing s S) := by
            refine (missing_less (fun x h => .inl h)).2 ?_
            cases hfs2 : fs with
            | nil => exact absurd hfs2 hnil
            | cons z r =>
              have hz := hA.out z (by rw [hfs2]; simp)
              exact ⟨z, inh_name hz.2, hz.1, .inr (by simp)⟩
          have hC' := hC.out
          have hM' := hM.out
          have hgk : 1 ≤ gk := by omega
          have H := copy_sets (w.heap.size + 1) (w.heap.size + 1 + 1) ni k S fs wr hR.out.1 hFF.out (by omega) (by unfold maxLen; omega)
          clear hzz hnil
          have HC' := Lib.hid hC'
          have HM' := Lib.hid hM'
          clear hC' hM'
          go_wp2_with (first | (refine wpList_len_own _ rfl _ 111 rfl 9 4 Tryz.underlying111 (plainElem (H := Unit) Tryz.prog 4) (w.heap.size + 1 + 1) k _ rfl hfs ?_; rw [hq1]) | fail)
          refine H.mono ?_
          rintro e w8 ⟨rfl, h8, hf8, hg8⟩
          have hB8 : Below w.heap.size w w8 := hR.out.2.1.grown hg8 hR.out.2.1.size (fun b e => by have := Option.some.inj e; omega)
          have c8 := hg8.cell c0 (fun e => by have := Option.some.inj e; simp at this)
          have HR8 : Hid (InhW w s a k cap (w.heap.size + 1) (ni + k) (fun x => S x ∨ x ∈ fs) w8) := ⟨h8, hB8, c8, fun x hx => hx.elim (HI.out x) (fun h => (hA.out x h).2)⟩
          have HF8 := Lib.hid hf8
          clear h8 hf8 hg8 hB8 c8 H hfs c0
          go_wp2
          go_roundg (gk - 1)
          case measure => omega
          case rel =>
            have := HC'.out
            have := HM'.out
            have := HMM.out
            exact ⟨ni + k, k, _, fs, HR8.out, HF8.out, (by show _ + 1 ≤ gk - 1; omega), (by show _ ≤ _; omega)⟩
end Go.Proofs.YtlbmohdebbapgaaGreat
end

/- What is proved here: the model's l3Round (package spec): one round adds names of types that have values, and where it adds none the list is closed. Condition: the signature lies in memory as said, and is small. -/
section
namespace Go.Proofs.YtlbmohdebbapgaaGreat
open Go.RowKit

/-- The world of a round: the list of names as it grows, in a row of the call's own; the box of the signature. -/
structure Rnd (wb w : World) (B : Nat) (s : List TypeD) (a : Option Addr) (cap n0 : Nat) (xs cs : List ByteArray) (v : Value) (wr : World) : Prop where
  own : wr.ownsRow B 9 1 v cs.length (cs.map Value.string)
  low : Below B w wr
  base : Below wb.heap.size wb wr
  box : wr.cell? ⟨n0, 0, none⟩ = some (.slice a s.length cap)
  apart : v.ownBlock ≠ some n0
  le : B ≤ wr.heap.size
  lt : n0 < wr.heap.size
  stage : Stage s cs
  more : ∃ zs, cs = xs ++ zs
theorem Rnd.below {wb w : World} {B : Nat} {s : List TypeD} {a : Option Addr} {cap n0 : Nat} {xs cs : List ByteArray} {v : Value} {wr w' : World} (h : Rnd wb w B s a cap n0 xs cs v wr) (hb : Below wr.heap.size wr w') : Rnd wb w B s a cap n0 xs cs v w' :=
  ⟨h.own.kept (row := none) ⟨hb.os, hb.tape, hb.output, hb.size, fun k hk _ => hb.block k hk⟩ (by cases hv : v.ownBlock <;> simp), h.low.trans (hb.mono h.le), h.base.trans (hb.mono h.base.size), cell_below h.box hb, h.apart, Nat.le_trans h.le hb.size, Nat.lt_of_lt_of_le h.lt hb.size, h.stage, h.more⟩
theorem Rnd.append {wb w : World} {B : Nat} {s : List TypeD} {a : Option Addr} {cap n0 : Nat} {xs cs : List ByteArray} {v : Value} {wr w' : World} {x : ByteArray} (h : Rnd wb w B s a cap n0 xs cs v wr) (hB : wb.heap.size ≤ B) (hx : ¬ x ∈ cs) (hi : Inh s x) {g c : Nat} (ho : w'.ownsRow B 9 1 (.slice (some ⟨g, 0, none⟩) (cs.length + 1) c) (cs.length + 1) (cs.map Value.string ++ [.string x])) (hg : wr.grownBy w' v.ownBlock) (hat : v.ownBlock = some g ∨ g = wr.heap.size) :
    Rnd wb w B s a cap n0 xs (cs ++ [x]) (.slice (some ⟨g, 0, none⟩) (cs.length + 1) c) w' := by
  have hr : ∀ k, v.ownBlock = some k → B ≤ k := fun k hk => (h.own.lt k hk).1
  refine ⟨?_, h.low.grown hg h.le hr, h.base.grown hg h.base.size (fun k hk => Nat.le_trans hB (hr k hk)), hg.cell h.box (fun e => h.apart e.symm), ?_, Nat.le_trans h.le hg.size, Nat.lt_of_lt_of_le h.lt hg.size, h.stage.add hx hi, ?_⟩
  · rw [List.length_append, List.map_append]
    exact ho
  · intro e
    have e1 : g = n0 := Option.some.inj e
    rcases hat with h1 | h1
    · exact h.apart (by rw [h1, e1])
    · have := h.lt
      omega
  · obtain ⟨zs, hz⟩ := h.more
    exact ⟨zs ++ [x], by rw [hz, List.append_assoc]⟩
theorem Rnd.grew {wb w : World} {B : Nat} {s : List TypeD} {a : Option Addr} {cap n0 : Nat} {xs cs : List ByteArray} {v : Value} {wr : World} (h : Rnd wb w B s a cap n0 xs cs v wr) (x : ByteArray) : cs ++ [x] ≠ xs := by
  obtain ⟨zs, hz⟩ := h.more
  intro e
  have := congrArg List.length e
  rw [hz] at this
  simp at this

set_option maxHeartbeats 2000000 in
set_option maxRecDepth 100000 in
theorem spec_round (wb w : World) (B : Nat) (a : Option Addr) (cap : Nat) (s : List TypeD) (v : Value) (xs : List ByteArray) (hx : Row2 TypeAt wb a s) (hm : s.length ≤ 1048576) (hs : ∀ c ∈ s, c.cons.length ≤ 1048576 ∧ ∀ d ∈ c.cons, d.args.length ≤ 1048576) (hB : wb.heap.size ≤ B) (hb : Below wb.heap.size wb w) (hBw : B ≤ w.heap.size) (hown : w.ownsRow B 9 1 v xs.length (xs.map Value.string)) (hst : Stage s xs) :
    Calls Tryz.prog 71 #[.agg #[.slice a s.length cap], v] w fun e w' => ∃ v' ys, e = .returned v' ∧ w'.ownsRow B 9 1 v' ys.length (ys.map Value.string) ∧ Below B w w' ∧ Stage s ys ∧ (∃ zs, ys = xs ++ zs) ∧ (ys = xs → Closed s (· ∈ xs)) := by
  have HX := Lib.hid hx
  have HS := Lib.hid hs
  have HBB := Lib.hid hB
  have hnv : v.ownBlock ≠ some w.heap.size := fun e => by have := (hown.lt _ e).2; omega
  have hbA : Below w.heap.size w (w.alloc (.cells #[.slice a s.length cap] 33)) := (Below.refl _ _).alloc (Nat.le_refl _) _
  have HR0 : Hid (Rnd wb w B s a cap w.heap.size xs xs v (w.alloc (.cells #[.slice a s.length cap] 33))) :=
    ⟨hown.alloc _, hbA.mono hBw, hb.trans (hbA.mono hb.size), (one_cell (heap_at_new w _)).1, hnv, Nat.le_trans hBw hbA.size, by have : (w.alloc (.cells #[.slice a s.length cap] 33)).heap.size = w.heap.size + 1 := Array.size_push _; omega, hst, ⟨[], by simp⟩⟩
  obtain ⟨i0, hi, hz0, hz1, hz2⟩ := info_parts (show (Tryz.prog.info? 9).map (fun i => (i.zero, i.size, i.bytes)) = some (some (.string ⟨#[]⟩), 1, 16) by kernel_rfl)
  clear hx hs hB hnv hbA hown hst hb
  generalize hn : s.length = n at *
  have HN := Lib.hid hn
  clear hn
  go_enter Tryz.func71, Tryz.ntmps71
  go_wp2
  generalize w.alloc (.cells #[.slice a n cap] 33) = w0 at *
  go_loopw [1, 5] (fun v i wr => ∃ (k : Nat) (cs : List ByteArray), k ≤ n ∧ i = .int .i64 k ∧ Hid (Rnd wb w B s a cap w.heap.size xs cs v wr) ∧ Hid (cs = xs → ∀ (j : Nat) t, j < k → s[j]? = some t → typeOk (· ∈ xs) t → t.name ∈ xs)) (fun _ i _ => n - (intOf i).toNat)
  case atStart => exact ⟨0, xs, Nat.zero_le _, rfl, HR0, fun _ j _ h => by omega⟩
  case round =>
    obtain ⟨k, cs, hk, rfl, hR, hD⟩ := hrel
    have c0 := hR.out.box
    rw [HN.out] at c0
    by_cases hlt : k < n
    · have hk' : k < s.length := by rw [HN.out]; exact hlt
      have hltz : (k : Int) < (n : Int) := by omega
      have hx : s[k]? = some s[k] := List.getElem?_eq_getElem hk'
      have hq := HS.out _ (List.getElem_mem hk')
      obtain ⟨y, u9, v9, rfl, hc0, hc1, hr1⟩ := row2_below type_below HX.out hR.out.base k hk'
      generalize s[k] = t at hx hq hr1
      obtain ⟨ta, tc, hu, hv, hr2⟩ := hr1
      subst hu
      subst hv
      have HXE := Lib.hid hx
      have HQ := Lib.hid hq.2
      have hq1 := hq.1
      clear hx hq hr2
      generalize hn2 : t.cons.length = n2 at *
      have HN2 := Lib.hid hn2
      clear hn2
      go_wp2
      go_loopw [1, 6] (fun v i wr => ∃ (i2 : Nat) (cs : List ByteArray), i2 ≤ n2 ∧ i = .int .i64 i2 ∧ Hid (Rnd wb w B s (some y) cap w.heap.size xs cs v wr) ∧ Hid (cs = xs → ∀ (j : Nat) t, j < k → s[j]? = some t → typeOk (· ∈ xs) t → t.name ∈ xs) ∧ Hid (cs = xs → ∀ (j : Nat) c, j < i2 → t.cons[j]? = some c → conOk (· ∈ xs) c → t.name ∈ xs)) (fun _ i _ => n2 - (intOf i).toNat)
      case atStart => exact ⟨0, cs, Nat.zero_le _, rfl, hR, hD, fun _ j _ h => by omega⟩
      case round =>
        clear c0 hc0 hc1 hR hD
        obtain ⟨i, cs, hi2, rfl, hR, hD, hE⟩ := hrel
        have c0 := hR.out.box
        rw [HN.out] at c0
        obtain ⟨y', u9, v9, hy', hc0, hc1, hr1⟩ := row2_below type_below HX.out hR.out.base k hk'
        obtain rfl := Option.some.inj hy'
        have hst : s[k] = t := by
          have := HXE.out
          rw [List.getElem?_eq_getElem hk'] at this
          exact Option.some.inj this
        rw [hst] at hr1
        obtain ⟨ta', tc', rfl, rfl, hr2⟩ := hr1
        rw [HN2.out] at hc1
        clear hst hy'
        by_cases hlt2 : i < n2
        · have hi' : i < t.cons.length := by rw [HN2.out]; exact hlt2
          have hltz2 : (i : Int) < (n2 : Int) := by omega
          have hx2 : t.cons[i]? = some t.cons[i] := List.getElem?_eq_getElem hi'
          have hq2 := HQ.out _ (List.getElem_mem hi')
          obtain ⟨y2, u2, v2, rfl, hd0, hd1, hr3⟩ := hr2 i hi'
          generalize t.cons[i] = c at hx2 hq2 hr3
          have HCE := Lib.hid hx2
          obtain ⟨hl1, la, lc, rfl, hlr⟩ := owned_reads hR.out.own
          have hsl := hR.out.stage.length
          have H := spec_lives wr c u2 v2 la lc cs hr3 hq2 hlr (by have := HN.out; omega)
          clear hx2 hr2 hl1 hr3
          have hHl := hlr
          clear hlr
          by_cases hco : conOk (· ∈ cs) c
          · rw [bl_true hco] at H
            have HCO := Lib.hid hco
            clear hco
            have HHL := Lib.hid hHl
            clear hHl
            have hidx := idx_mem cs t.name
            have hlo := idx_lo cs t.name
            have HI := fun w' hr => spec_index w' la lc cs t.name hr (by have := HN.out; unfold maxLen; omega)
            go_wp2_with fail
            refine H.mono ?_
            rintro e w1 ⟨rfl, hb1⟩
            have HR1 := Lib.hid (hR.out.below hb1)
            have H2 := HI w1 (reads_below HHL.out hb1)
            have e0 := cell_below c0 hb1
            have e1 := cell_below hc0 hb1
            by_cases hz : Lib.idxOfS cs t.name < 0
            · have HNM := Lib.hid (hidx.1 hz)
              have hz' : decide (Lib.idxOfS cs t.name < 0) = true := decide_eq_true hz
              clear hidx hz H hb1 HI
              generalize Lib.idxOfS cs t.name = z at *
              go_wp2_with fail
              refine H2.mono ?_
              rintro e w2 ⟨rfl, rfl⟩
              have HR1 : Hid (Rnd wb w B s (some y) cap w.heap.size xs cs (.slice la cs.length lc) (w2.alloc (.cells #[.string t.name] 9))) := HR1.out.below ((Below.refl _ _).alloc (Nat.le_refl _) _)
              have how := HR1.out.own
              have hle := HR1.out.le
              have hsz : (w2.alloc (.cells #[.string t.name] 9)).heap.size = w2.heap.size + 1 := Array.size_push _
              go_wp2_with (at_builtin; refine wpList_append_lies _ rfl _ _ 67 rfl B 9 i0 (.string ⟨#[]⟩) 1 16 Tryz.underlying67 hi hz0 hz1 hz2 rfl (by decide) _ cs.length (cs.map Value.string) rfl how ⟨w2.heap.size, 0, none⟩ 1 1 [.string t.name] rfl rfl (cell_one_new _ _ _) ?d1 (by decide) ?d2 ?d3 hle _ rfl ?_)
              case d1 => intro u hu; simp at hu; subst hu; rfl
              case d2 => unfold maxLen; have := HN.out; omega
              case d3 => have := HN.out; omega
              intro g cap3 w4 hown hgrow hat hlt4
              have ht : t ∈ s := by
                obtain ⟨h4, h5⟩ := List.getElem?_eq_some_iff.1 HXE.out
                exact h5 ▸ List.getElem_mem h4
              have hc : c ∈ t.cons := by
                obtain ⟨h4, h5⟩ := List.getElem?_eq_some_iff.1 HCE.out
                exact h5 ▸ List.getElem_mem h4
              have HR4 : Hid (Rnd wb w B s (some y) cap w.heap.size xs (cs ++ [t.name]) (.slice (some ⟨g, 0, none⟩) (cs.length + 1) cap3) w4) := HR1.out.append HBB.out HNM.out (inh_step HR1.out.stage.2 ht ⟨c, hc, HCO.out⟩) hown hgrow (hat.imp id (fun h => by rw [hsz]; exact h))
              have HGW := Lib.hid (HR1.out.grew t.name)
              clear how hle hown hgrow hat ht hc hlt4
              go_wp2
              go_roundw
              case rel => exact ⟨i + 1, cs ++ [t.name], by omega, by go_num, HR4, fun e => absurd e HGW.out, fun e => absurd e HGW.out⟩
              case measure => simp [intOf]; omega
            · have HNM : Hid (t.name ∈ cs) := Classical.not_not.1 (fun h => hz (hidx.2 h))
              have hz' : decide (Lib.idxOfS cs t.name < 0) = false := decide_eq_false hz
              clear hidx hz H hb1 HI
              generalize Lib.idxOfS cs t.name = z at *
              go_wp2_with fail
              refine H2.mono ?_
              rintro e w2 ⟨rfl, rfl⟩
              go_wp2
              go_roundw
              case rel => exact ⟨i + 1, cs, by omega, by go_num, HR1, hD, fun e => before_succ' (p := fun c => conOk (· ∈ xs) c → t.name ∈ xs) (hE.out e) HCE.out (fun _ => e ▸ HNM.out)⟩
              case measure => simp [intOf]; omega
          · rw [bl_false hco] at H
            have HCO := Lib.hid hco
            clear hco hHl
            go_wp2_with fail
            refine H.mono ?_
            rintro e w1 ⟨rfl, hb1⟩
            have HR1 := Lib.hid (hR.out.below hb1)
            clear hb1 H
            go_wp2
            go_roundw
            case rel => exact ⟨i + 1, cs, by omega, by go_num, HR1, hD, fun e => before_succ' (p := fun c => conOk (· ∈ xs) c → t.name ∈ xs) (hE.out e) HCE.out (fun h => absurd (e ▸ h) HCO.out)⟩
            case measure => simp [intOf]; omega
        · have HNX : Hid (cs = xs → typeOk (· ∈ xs) t → t.name ∈ xs) := fun e h => by
            obtain ⟨c, hc, hco⟩ := h
            obtain ⟨j, hj, e2⟩ := List.mem_iff_getElem.1 hc
            exact hE.out e j c (by have := HN2.out; omega) (by rw [List.getElem?_eq_getElem hj, e2]) hco
          go_wp2
          go_roundw
          case rel => exact ⟨k + 1, cs, by omega, by go_num, hR, fun e => before_succ' (p := fun t => typeOk (· ∈ xs) t → t.name ∈ xs) (hD.out e) HXE.out (HNX.out e)⟩
          case measure => simp [intOf]; omega
    · have HCL : Hid (cs = xs → Closed s (· ∈ xs)) := fun e t ht h => by
        obtain ⟨j, hj, e2⟩ := List.mem_iff_getElem.1 ht
        exact hD.out e j t (by have := HN.out; omega) (by rw [List.getElem?_eq_getElem hj, e2]) h
      go_wp2
      go_ret
      exact ⟨_, cs, rfl, hR.out.own, hR.out.low, hR.out.stage, hR.out.more, HCL.out⟩
end Go.Proofs.YtlbmohdebbapgaaGreat
end

/- What is proved here: the model's Inhabited (package spec) hands back as many names as declared types have values. Condition: the signature lies in memory as said, and is small. -/
section
namespace Go.Proofs.YtlbmohdebbapgaaGreat
open Go.RowKit

theorem closed_more {s : List TypeD} {xs ys : List ByteArray} (hC : Closed s (· ∈ xs)) (hx : Stage s xs) (hy : Stage s ys) (hm : ∃ zs, ys = xs ++ zs) : Closed s (· ∈ ys) := by
  have he := inh_closed hC hx.2
  obtain ⟨zs, rfl⟩ := hm
  intro t ht ho
  have h1 : typeOk (· ∈ xs) t := typeOk_mono (fun x h => (he x).2 (hy.2 x h)) ho
  exact List.mem_append_left _ (hC t ht h1)
theorem missing_more {s : List TypeD} {xs ys : List ByteArray} (hy : Stage s ys) (hm : ∃ zs, ys = xs ++ zs) (hne : ys ≠ xs) : missing s (· ∈ ys) < missing s (· ∈ xs) := by
  obtain ⟨zs, rfl⟩ := hm
  refine (missing_less (s := s) (S := (· ∈ xs)) (S' := (· ∈ xs ++ zs)) (fun x h => List.mem_append_left _ h)).2 ?_
  cases zs with
  | nil => exact absurd (by simp) hne
  | cons z r =>
    refine ⟨z, inh_name (hy.2 z (by simp)), fun h => ?_, by simp⟩
    exact (List.nodup_append.1 hy.1).2.2 z h z (by simp) rfl

set_option maxHeartbeats 2000000 in
set_option maxRecDepth 100000 in
theorem spec_inhabited (w : World) (a : Option Addr) (cap : Nat) (s : List TypeD) (hx : Row2 TypeAt w a s) (hm : s.length ≤ 1048576) (hs : ∀ c ∈ s, c.cons.length ≤ 1048576 ∧ ∀ d ∈ c.cons, d.args.length ≤ 1048576) :
    Calls Tryz.prog 41 #[.agg #[.slice a s.length cap]] w fun e w' => (∃ a2 cap2, e = .returned (.slice a2 (inhabited s).length cap2)) ∧ Below w.heap.size w w' := by
  have HX := Lib.hid hx
  have HS := Lib.hid hs
  have s1 : (w.alloc (.cells #[.slice a s.length cap] 33)).heap.size = w.heap.size + 1 := Array.size_push _
  have hbA : Below w.heap.size w (w.alloc (.cells #[.slice a s.length cap] 33)) := (Below.refl _ _).alloc (Nat.le_refl _) _
  have hc0 := (one_cell (heap_at_new w (.cells #[.slice a s.length cap] 33))).1
  have how := World.ownsRow_made (base := w.heap.size + 1) (e := 9) (size := 1) (w.alloc (.cells #[.slice a s.length cap] 33)) #[] 0 (by omega) (by decide) (by simp)
  rw [s1] at how
  have HBA := Lib.hid hbA
  have HC0 := Lib.hid hc0
  have HS1 := Lib.hid s1
  have HOW := Lib.hid how
  clear hx hs s1 hbA hc0 how
  obtain ⟨i0, hi, hz0, hz1, hz2⟩ := info_parts (show (Tryz.prog.info? 9).map (fun i => (i.zero, i.size, i.bytes)) = some (some (.string ⟨#[]⟩), 1, 16) by kernel_rfl)
  have hR := fun w' v xs => spec_round w w' (w.heap.size + 1) a cap s v xs HX.out hm HS.out (by omega)
  generalize hn : s.length = n at *
  have HN := Lib.hid hn
  clear hn
  go_enter Tryz.func41, Tryz.ntmps41
  go_wp2
  generalize w.alloc (.cells #[.slice a n cap] 33) = w1 at *
  have hal : Below w1.heap.size w1 (w1.alloc (.cells #[] 9)) := (Below.refl _ _).alloc (Nat.le_refl _) _
  have HL : Hid (Below (w.heap.size + 1) w1 (w1.alloc (.cells #[] 9))) := by rw [← HS1.out]; exact hal
  clear hal
  generalize w1.alloc (.cells #[] 9) = w2 at *
  go_loopw [3, 4] (fun v i wr => ∃ (k : Nat) (xs : List ByteArray), k ≤ n ∧ i = .int .i64 k ∧ Hid (wr.ownsRow (w.heap.size + 1) 9 1 v xs.length (xs.map Value.string)) ∧ Hid (Below (w.heap.size + 1) w1 wr) ∧ Hid (Stage s xs) ∧ Hid (Closed s (· ∈ xs) ∨ missing s (· ∈ xs) + k ≤ n)) (fun _ i _ => n - (intOf i).toNat)
  case atStart => exact ⟨0, [], Nat.zero_le _, rfl, HOW.out, HL.out, ⟨List.nodup_nil, fun x hx => by cases hx⟩, .inr (by have := missing_le s (· ∈ ([] : List ByteArray)); have := HN.out; omega)⟩
  case round =>
    obtain ⟨k, xs, hk, rfl, hO, hL, hSt, hP⟩ := hrel
    have c0 := cell_below HC0.out (by have := hL.out; rw [← HS1.out] at this; exact this)
    by_cases hlt : k < n
    · have hltz : (k : Int) < (n : Int) := by omega
      have hsz := hL.out.size
      have H := hR wr _ xs (HBA.out.trans (hL.out.mono (by omega))) (by have := HS1.out; omega) hO.out hSt.out
      clear hsz
      go_wp2_with fail
      refine H.mono ?_
      rintro e w3 ⟨v', ys, rfl, ho, hb, hst, hmo, hcl⟩
      have HO3 := Lib.hid ho
      have HL3 : Hid (Below (w.heap.size + 1) w1 w3) := hL.out.trans hb
      have HS3 := Lib.hid hst
      have HP3 : Hid (Closed s (· ∈ ys) ∨ missing s (· ∈ ys) + (k + 1) ≤ n) := by
        rcases hP.out with h1 | h1
        · exact .inl (closed_more h1 hSt.out hst hmo)
        · by_cases he : ys = xs
          · exact .inl (closed_more (hcl he) hSt.out hst hmo)
          · have := missing_more hst hmo he
            exact .inr (by omega)
      clear ho hb hst hmo hcl H c0
      go_wp2
      go_roundw
      case rel => exact ⟨k + 1, ys, by omega, by go_num, HO3, HL3, HS3, HP3⟩
      case measure => simp [intOf]; omega
    · obtain rfl : k = n := by omega
      have HCL : Hid (∀ x, x ∈ xs ↔ Inh s x) := by
        have hC : Closed s (· ∈ xs) := by
          rcases hP.out with h1 | h1
          · exact h1
          · exact missing_zero (by omega)
        exact inh_closed hC hSt.out.2
      obtain ⟨_, la, lc, rfl, hlr⟩ := owned_reads hO.out
      have hal : Below wr.heap.size wr (wr.alloc (.cells #[] 9)) := (Below.refl _ _).alloc (Nat.le_refl _) _
      have hxl := hSt.out.length
      rw [HN.out] at hxl
      have HOUT : Hid ((wr.alloc (.cells #[] 9)).ownsRow wr.heap.size 9 1 (.slice (some ⟨wr.heap.size, 0, none⟩) 0 0) 0 []) := World.ownsRow_made wr #[] 0 (Nat.le_refl _) (by decide) (by simp)
      have HLA : Hid (Below wr.heap.size wr (wr.alloc (.cells #[] 9))) := hal
      have HLR := Lib.hid hlr
      have HW5 : Hid (Below w.heap.size w wr) := HBA.out.trans (hL.out.mono (by omega))
      have HC5 := Lib.hid c0
      clear hlr hal hO hL hSt hP hR
      go_wp2
      clear c0
      generalize wr.alloc (.cells #[] 9) = w4 at *
      generalize wr = w5 at *
      go_loopw [5, 6] (fun v i wz => ∃ (j : Nat), j ≤ k ∧ i = .int .i64 j ∧ Hid (wz.ownsRow w5.heap.size 9 1 v (((s.take j).map TypeD.name).filter fun x => bl (Inh s x)).length ((((s.take j).map TypeD.name).filter fun x => bl (Inh s x)).map Value.string)) ∧ Hid (Below w5.heap.size w5 wz)) (fun _ i _ => k - (intOf i).toNat)
      case atStart => exact ⟨0, Nat.zero_le _, rfl, by unfold Hid; simpa using HOUT.out, HLA.out⟩
      case round =>
        obtain ⟨j, hj, rfl, hO, hL⟩ := hrel
        have c0 := cell_below HC5.out hL.out
        by_cases hlt2 : j < k
        · have hj' : j < s.length := by rw [HN.out]; exact hlt2
          have hltz : (j : Int) < (k : Int) := by omega
          have hpre := inhabited_take s j hj'
          have hplen := inhabited_len s j
          rw [HN.out] at hplen
          obtain ⟨y, u1, v1, rfl, hc0, hc1, hr1⟩ := row2_below type_below HX.out (HW5.out.trans (hL.out.mono HW5.out.size)) j hj'
          generalize s[j] = t at hpre hr1
          obtain ⟨ta, tc, hu, hv, _⟩ := hr1
          subst hu
          subst hv
          generalize (((s.take j).map TypeD.name).filter fun x => bl (Inh s x)) = ps at hO hpre hplen
          have HPRE := Lib.hid hpre
          have hidx := idx_mem xs t.name
          have hlo := idx_lo xs t.name
          have H := spec_index wr la lc xs t.name (reads_below HLR.out hL.out) (by unfold maxLen; omega)
          by_cases hz : Lib.idxOfS xs t.name < 0
          · have hni : bl (Inh s t.name) = false := bl_false (fun h => (hidx.1 hz) ((HCL.out _).2 h))
            have HQ : Hid ((((s.take (j + 1)).map TypeD.name).filter fun x => bl (Inh s x)) = ps) := by
              unfold Hid
              rw [HPRE.out, if_neg (by rw [hni]; simp), List.append_nil]
            have hz' : decide (0 ≤ Lib.idxOfS xs t.name) = false := decide_eq_false (by omega)
            clear hidx hz hpre hni
            generalize Lib.idxOfS xs t.name = z at *
            go_wp2_with fail
            refine H.mono ?_
            rintro e w6 ⟨rfl, rfl⟩
            go_wp2
            go_roundw
            case rel => exact ⟨j + 1, by omega, by go_num, by rw [HQ.out]; exact hO, hL⟩
            case measure => simp [intOf]; omega
          · have hni : bl (Inh s t.name) = true := bl_true ((HCL.out _).1 (Classical.not_not.1 (fun h => hz (hidx.2 h))))
            have HQ : Hid ((((s.take (j + 1)).map TypeD.name).filter fun x => bl (Inh s x)) = ps ++ [t.name]) := by
              unfold Hid
              rw [HPRE.out, if_pos hni]
            have hz' : decide (0 ≤ Lib.idxOfS xs t.name) = true := decide_eq_true (by omega)
            clear hidx hz hpre hni
            generalize Lib.idxOfS xs t.name = z at *
            go_wp2_with fail
            refine H.mono ?_
            rintro e w6 ⟨rfl, rfl⟩
            have hal : Below w6.heap.size w6 (w6.alloc (.cells #[.string t.name] 9)) := (Below.refl _ _).alloc (Nat.le_refl _) _
            have hsz := hL.out.size
            have HL7 : Hid (Below w5.heap.size w5 (w6.alloc (.cells #[.string t.name] 9))) := hL.out.trans (hal.mono hsz)
            have how := hO.out.alloc (.cells #[.string t.name] 9)
            have hle : w5.heap.size ≤ (w6.alloc (.cells #[.string t.name] 9)).heap.size := Nat.le_trans hsz hal.size
            clear hal
            go_wp2_with (at_builtin; refine wpList_append_lies _ rfl _ _ 67 rfl w5.heap.size 9 i0 (.string ⟨#[]⟩) 1 16 Tryz.underlying67 hi hz0 hz1 hz2 rfl (by decide) _ ps.length (ps.map Value.string) rfl how ⟨w6.heap.size, 0, none⟩ 1 1 [.string t.name] rfl rfl (cell_one_new _ _ _) ?d1 (by decide) ?d2 ?d3 hle _ rfl ?_)
            case d1 => intro u hu; simp at hu; subst hu; rfl
            case d2 => unfold maxLen; omega
            case d3 => omega
            intro g cap3 w7 hown hgrow hat hlt7
            have HO7 : Hid (w7.ownsRow w5.heap.size 9 1 (.slice (some ⟨g, 0, none⟩) (ps.length + 1) cap3) (ps ++ [t.name]).length ((ps ++ [t.name]).map Value.string)) := by
              unfold Hid
              rw [List.length_append, List.map_append]
              exact hown
            have HL8 : Hid (Below w5.heap.size w5 w7) := HL7.out.grown hgrow hle (fun b hb => (how.lt b hb).1)
            clear how hown hgrow hat hle hlt7 hsz
            go_wp2
            go_roundw
            case rel => exact ⟨j + 1, by omega, by go_num, by rw [HQ.out]; exact HO7, HL8⟩
            case measure => simp [intOf]; omega
        · have hz : s.take j = s := List.take_of_length_le (by have := HN.out; omega)
          rw [hz] at hO
          obtain ⟨_, ra, rc, rfl, _⟩ := owned_reads hO.out
          have HE : Hid (Below w.heap.size w wr) := HW5.out.trans (hL.out.mono HW5.out.size)
          clear hO hL
          go_wp2
          go_ret
          exact ⟨⟨ra, rc, rfl⟩, HE.out⟩
end Go.Proofs.YtlbmohdebbapgaaGreat
end

/- What is proved here: the program's Inhabited hands back as many names as declared types have values. Condition: the signature lies in memory as said, and is small. -/
section
namespace Go.Proofs.YtlbmohdebbapgaaGreat
open Go.RowKit

/-- A map's block is no row's. -/
theorem set_row {w : World} {b n : Nat} {S : ByteArray → Prop} (h : HasSet w b n S) {B : Nat} {e : TypeId} {sz : Nat} {v : Value} {m : Nat} {xs : List Value} (ho : w.ownsRow B e sz v m xs) : some b ≠ v.ownBlock := by
  intro he
  obtain ⟨D, ⟨es, clock, hb, _⟩, _⟩ := h
  rcases ho.2 with ⟨e1, _⟩ | ⟨g, cap, cur, rfl, _, hg, _⟩
  · rw [e1] at he
    cases he
  · have : b = g := Option.some.inj he
    subst this
    rw [hb] at hg
    cases hg

set_option maxHeartbeats 2000000 in
set_option maxRecDepth 100000 in
theorem impl_inhabited (w : World) (a : Option Addr) (cap : Nat) (s : List TypeD) (hx : Row2 TypeAt w a s) (hf : sigFits s) (hm : s.length ≤ 1048576) (hs : ∀ c ∈ s, c.cons.length ≤ 1048576 ∧ ∀ d ∈ c.cons, d.args.length ≤ 1048576) :
    Calls Tryz.prog 49 #[.agg #[.slice a s.length cap]] w fun e w' => (∃ a2 cap2, e = .returned (.slice a2 (inhabited s).length cap2)) ∧ Below w.heap.size w w' := by
  have HX := Lib.hid hx
  have HF := Lib.hid hf.2
  have s1 : (w.alloc (.cells #[.slice a s.length cap] 33)).heap.size = w.heap.size + 1 := Array.size_push _
  have hbA : Below w.heap.size w (w.alloc (.cells #[.slice a s.length cap] 33)) := (Below.refl _ _).alloc (Nat.le_refl _) _
  have hc0 := (one_cell (heap_at_new w (.cells #[.slice a s.length cap] 33))).1
  generalize hw1 : w.alloc (.cells #[.slice a s.length cap] 33) = w1 at *
  have hb2 : Below w1.heap.size w1 (w1.alloc (.cells #[] 9)) := (Below.refl _ _).alloc (Nat.le_refl _) _
  have how := World.ownsRow_made (base := w.heap.size + 1) (e := 9) (size := 1) w1 #[] 0 (by omega) (by decide) (by simp)
  rw [s1] at how
  have hb12 := hbA.trans (hb2.mono hbA.size)
  have H := impl_inhSet (w1.alloc (.cells #[] 9)) a cap s (row2_below type_below hx hb12) hf hm hs
  have c2 := cell_below hc0 hb2
  have hz2 : w.heap.size + 1 ≤ (w1.alloc (.cells #[] 9)).heap.size := by have := hb2.size; omega
  have HZ2 := Lib.hid hz2
  have HB2 := Lib.hid hb12
  have HOW := Lib.hid how
  have HW1 := Lib.hid hw1
  clear hx hs hf s1 hbA hc0 hb2 how hb12 hw1 hz2
  obtain ⟨i0, hi, hz0, hz1, hz2⟩ := info_parts (show (Tryz.prog.info? 9).map (fun i => (i.zero, i.size, i.bytes)) = some (some (.string ⟨#[]⟩), 1, 16) by kernel_rfl)
  generalize hn : s.length = n at *
  have HN := Lib.hid hn
  clear hn
  go_enter Tryz.func49, Tryz.ntmps49
  go_wp2_with fail
  rw [HW1.out]
  generalize w1.alloc (.cells #[] 9) = w2 at *
  refine H.mono ?_
  rintro e w3 ⟨⟨bi, ni, S, rfl, hset, hS⟩, hb3⟩
  have c3 := cell_below c2 hb3
  have HO3 : Hid (w3.ownsRow (w.heap.size + 1) 9 1 (.slice (some ⟨w.heap.size + 1, 0, none⟩) 0 0) 0 []) := HOW.out.kept (row := none) ⟨hb3.os, hb3.tape, hb3.output, hb3.size, fun k hk _ => hb3.block k hk⟩ (.inr (by simp [Value.ownBlock]))
  have HSET := Lib.hid hset
  have HSI := Lib.hid hS
  have HB3 : Hid (Below w.heap.size w w3) := HB2.out.trans (hb3.mono HB2.out.size)
  have HZ3 : Hid (w.heap.size + 1 ≤ w3.heap.size) := Nat.le_trans HZ2.out hb3.size
  clear hset hS hb3 H c2
  go_wp2
  clear c3
  go_loopw [3, 13] (fun v i wr => ∃ (j : Nat), j ≤ n ∧ i = .int .i64 j ∧ Hid (wr.ownsRow (w.heap.size + 1) 9 1 v (((s.take j).map TypeD.name).filter fun x => bl (Inh s x)).length ((((s.take j).map TypeD.name).filter fun x => bl (Inh s x)).map Value.string)) ∧ Hid (HasSet wr bi ni S) ∧ Hid (Below w.heap.size w wr) ∧ Hid (w.heap.size + 1 ≤ wr.heap.size)) (fun _ i _ => n - (intOf i).toNat)
  case atStart => exact ⟨0, Nat.zero_le _, rfl, by unfold Hid; simpa using HO3.out, HSET, HB3, HZ3⟩
  case round =>
    obtain ⟨j, hj, rfl, hO, hSet, hL, hZ⟩ := hrel
    by_cases hlt2 : j < n
    · have hj' : j < s.length := by rw [HN.out]; exact hlt2
      have hltz : (j : Int) < (n : Int) := by omega
      have hpre := inhabited_take s j hj'
      have hplen := inhabited_len s j
      rw [HN.out] at hplen
      obtain ⟨y, u1, v1, rfl, hc0, hc1, hr1⟩ := row2_below type_below HX.out hL.out j hj'
      have hft := HF.out _ (List.getElem_mem hj')
      generalize s[j] = t at hpre hr1 hft
      obtain ⟨ta, tc, hu, hv, _⟩ := hr1
      subst hu
      subst hv
      generalize (((s.take j).map TypeD.name).filter fun x => bl (Inh s x)) = ps at hO hpre hplen
      have HPRE := Lib.hid hpre
      have hbD : Below wr.heap.size wr (wr.alloc (.cells #[.string t.name, .slice ta t.cons.length tc] 71)) := (Below.refl _ _).alloc (Nat.le_refl _) _
      have HO5 := Lib.hid (hO.out.alloc (.cells #[.string t.name, .slice ta t.cons.length tc] 71))
      have HS5 := Lib.hid (hSet.out.below hbD)
      have HL5 : Hid (Below w.heap.size w (wr.alloc (.cells #[.string t.name, .slice ta t.cons.length tc] 71))) := hL.out.trans (hbD.mono hL.out.size)
      have HZ5 : Hid (w.heap.size + 1 ≤ (wr.alloc (.cells #[.string t.name, .slice ta t.cons.length tc] 71)).heap.size) := Nat.le_trans hZ.out hbD.size
      have hlk := HS5.out.look t.name hft.1
      clear hbD hpre hft
      by_cases hin : S t.name
      · rw [bl_true hin] at hlk
        have HQ : Hid ((((s.take (j + 1)).map TypeD.name).filter fun x => bl (Inh s x)) = ps ++ [t.name]) := by
          unfold Hid
          rw [HPRE.out, if_pos (bl_true ((HSI.out _).1 hin))]
        clear hin
        have hal : Below (wr.alloc (.cells #[.string t.name, .slice ta t.cons.length tc] 71)).heap.size (wr.alloc (.cells #[.string t.name, .slice ta t.cons.length tc] 71)) ((wr.alloc (.cells #[.string t.name, .slice ta t.cons.length tc] 71)).alloc (.cells #[.string t.name] 9)) := (Below.refl _ _).alloc (Nat.le_refl _) _
        have how := HO5.out.alloc (.cells #[.string t.name] 9)
        have HS6 := Lib.hid (HS5.out.below hal)
        have HL6 : Hid (Below w.heap.size w ((wr.alloc (.cells #[.string t.name, .slice ta t.cons.length tc] 71)).alloc (.cells #[.string t.name] 9))) := HL5.out.trans (hal.mono HL5.out.size)
        have hle : w.heap.size + 1 ≤ ((wr.alloc (.cells #[.string t.name, .slice ta t.cons.length tc] 71)).alloc (.cells #[.string t.name] 9)).heap.size := Nat.le_trans HZ5.out hal.size
        clear hal
        have hnw := cell_one_new (wr.alloc (.cells #[.string t.name, .slice ta t.cons.length tc] 71)) (.string t.name) 9
        have hszz : (wr.alloc (.cells #[.string t.name, .slice ta t.cons.length tc] 71)).heap.size = wr.heap.size + 1 := Array.size_push _
        rw [hszz] at hnw
        go_wp2_with (at_builtin; refine wpList_append_lies _ rfl _ _ 67 rfl (w.heap.size + 1) 9 i0 (.string ⟨#[]⟩) 1 16 Tryz.underlying67 hi hz0 hz1 hz2 rfl (by decide) _ ps.length (ps.map Value.string) rfl how ⟨wr.heap.size + 1, 0, none⟩ 1 1 [.string t.name] rfl rfl hnw ?d1 (by decide) ?d2 ?d3 hle _ rfl ?_)
        case d1 => intro u hu; simp at hu; subst hu; rfl
        case d2 => unfold maxLen; omega
        case d3 => omega
        intro g cap3 w7 hown hgrow hat hlt7
        have HO7 : Hid (w7.ownsRow (w.heap.size + 1) 9 1 (.slice (some ⟨g, 0, none⟩) (ps.length + 1) cap3) (ps ++ [t.name]).length ((ps ++ [t.name]).map Value.string)) := by
          unfold Hid
          rw [List.length_append, List.map_append]
          exact hown
        have HL8 : Hid (Below w.heap.size w w7) := HL6.out.grown hgrow (by omega) (fun b hb => by have := (how.lt b hb).1; omega)
        have HS7 := Lib.hid (HS6.out.kept hgrow (set_row HS6.out how))
        have HZ7 : Hid (w.heap.size + 1 ≤ w7.heap.size) := Nat.le_trans hle hgrow.size
        clear how hown hgrow hat hle hlt7 hnw hszz hlk
        go_wp2
        go_roundw
        case rel => exact ⟨j + 1, by omega, by go_num, by rw [HQ.out]; exact HO7, HS7, HL8, HZ7⟩
        case measure => simp [intOf]; omega
      · rw [bl_false hin] at hlk
        have HQ : Hid ((((s.take (j + 1)).map TypeD.name).filter fun x => bl (Inh s x)) = ps) := by
          unfold Hid
          rw [HPRE.out, if_neg (by rw [bl_false (fun h => hin ((HSI.out _).2 h))]; simp), List.append_nil]
        clear hin
        go_wp2
        go_roundw
        case rel => exact ⟨j + 1, by omega, by go_num, by rw [HQ.out]; exact HO5, HS5, HL5, HZ5⟩
        case measure => simp [intOf]; omega
    · have hz : s.take j = s := List.take_of_length_le (by have := HN.out; omega)
      rw [hz] at hO
      obtain ⟨_, ra, rc, rfl, _⟩ := owned_reads hO.out
      clear hO hSet hZ
      go_wp2
      go_ret
      exact ⟨⟨ra, rc, rfl⟩, hL.out⟩
end Go.Proofs.YtlbmohdebbapgaaGreat
end
