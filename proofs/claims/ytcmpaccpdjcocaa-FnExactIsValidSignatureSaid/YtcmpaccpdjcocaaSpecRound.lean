/- What is proved here: the model's l3Round (package spec): one round adds names of types that have values, and where it adds none the list is closed. Condition: the signature lies in memory as said, and is small. -/
import Derived.Test.YtcmpaccpdjcocaaSpecLives
import Derived.Deep.AppendLies
namespace Go.Proofs.Ytcmpaccpdjcocaa
open Go.RowKit

/-- The world of a round: the list of names as it grows, in a row of the call's own; the box of the signature. -/
structure Rnd (wb w : World) (B : Nat) (s : List TypeD) (a : Option Addr) (cap n0 : Nat) (xs cs : List ByteArray) (v : Value) (wr : World) : Prop where
  own : wr.ownsRow B 9 1 v cs.length (cs.map Value.string)
  low : Below B w wr
  base : Below wb.heap.size wb wr
  box : wr.cell? ⟨n0, 0, none⟩ = some (.slice a s.length cap)
  apart : v.ownBlock ≠ some n0
  le : B ≤ wr.heap.size
  lt : n0 < wr.heap.size
  stage : Stage s cs
  more : ∃ zs, cs = xs ++ zs
theorem Rnd.below {wb w : World} {B : Nat} {s : List TypeD} {a : Option Addr} {cap n0 : Nat} {xs cs : List ByteArray} {v : Value} {wr w' : World} (h : Rnd wb w B s a cap n0 xs cs v wr) (hb : Below wr.heap.size wr w') : Rnd wb w B s a cap n0 xs cs v w' :=
  ⟨h.own.kept (row := none) ⟨hb.os, hb.tape, hb.output, hb.size, fun k hk _ => hb.block k hk⟩ (by cases hv : v.ownBlock <;> simp), h.low.trans (hb.mono h.le), h.base.trans (hb.mono h.base.size), cell_below h.box hb, h.apart, Nat.le_trans h.le hb.size, Nat.lt_of_lt_of_le h.lt hb.size, h.stage, h.more⟩
theorem Rnd.append {wb w : World} {B : Nat} {s : List TypeD} {a : Option Addr} {cap n0 : Nat} {xs cs : List ByteArray} {v : Value} {wr w' : World} {x : ByteArray} (h : Rnd wb w B s a cap n0 xs cs v wr) (hB : wb.heap.size ≤ B) (hx : ¬ x ∈ cs) (hi : Inh s x) {g c : Nat} (ho : w'.ownsRow B 9 1 (.slice (some ⟨g, 0, none⟩) (cs.length + 1) c) (cs.length + 1) (cs.map Value.string ++ [.string x])) (hg : wr.grownBy w' v.ownBlock) (hat : v.ownBlock = some g ∨ g = wr.heap.size) :
    Rnd wb w B s a cap n0 xs (cs ++ [x]) (.slice (some ⟨g, 0, none⟩) (cs.length + 1) c) w' := by
  have hr : ∀ k, v.ownBlock = some k → B ≤ k := fun k hk => (h.own.lt k hk).1
  refine ⟨?_, h.low.grown hg h.le hr, h.base.grown hg h.base.size (fun k hk => Nat.le_trans hB (hr k hk)), hg.cell h.box (fun e => h.apart e.symm), ?_, Nat.le_trans h.le hg.size, Nat.lt_of_lt_of_le h.lt hg.size, h.stage.add hx hi, ?_⟩
  · rw [List.length_append, List.map_append]
    exact ho
  · intro e
    have e1 : g = n0 := Option.some.inj e
    rcases hat with h1 | h1
    · exact h.apart (by rw [h1, e1])
    · have := h.lt
      omega
  · obtain ⟨zs, hz⟩ := h.more
    exact ⟨zs ++ [x], by rw [hz, List.append_assoc]⟩
theorem Rnd.grew {wb w : World} {B : Nat} {s : List TypeD} {a : Option Addr} {cap n0 : Nat} {xs cs : List ByteArray} {v : Value} {wr : World} (h : Rnd wb w B s a cap n0 xs cs v wr) (x : ByteArray) : cs ++ [x] ≠ xs := by
  obtain ⟨zs, hz⟩ := h.more
  intro e
  have := congrArg List.length e
  rw [hz] at this
  simp at this

set_option maxHeartbeats 2000000 in
set_option maxRecDepth 100000 in
theorem spec_round (wb w : World) (B : Nat) (a : Option Addr) (cap : Nat) (s : List TypeD) (v : Value) (xs : List ByteArray) (hx : Row2 TypeAt wb a s) (hm : s.length ≤ 1048576) (hs : ∀ c ∈ s, c.cons.length ≤ 1048576 ∧ ∀ d ∈ c.cons, d.args.length ≤ 1048576) (hB : wb.heap.size ≤ B) (hb : Below wb.heap.size wb w) (hBw : B ≤ w.heap.size) (hown : w.ownsRow B 9 1 v xs.length (xs.map Value.string)) (hst : Stage s xs) :
    Calls Try.prog 57 #[.agg #[.slice a s.length cap], v] w fun e w' => ∃ v' ys, e = .returned v' ∧ w'.ownsRow B 9 1 v' ys.length (ys.map Value.string) ∧ Below B w w' ∧ Stage s ys ∧ (∃ zs, ys = xs ++ zs) ∧ (ys = xs → Closed s (· ∈ xs)) := by
  have HX := Lib.hid hx
  have HS := Lib.hid hs
  have HBB := Lib.hid hB
  have hnv : v.ownBlock ≠ some w.heap.size := fun e => by have := (hown.lt _ e).2; omega
  have hbA : Below w.heap.size w (w.alloc (.cells #[.slice a s.length cap] 33)) := (Below.refl _ _).alloc (Nat.le_refl _) _
  have HR0 : Hid (Rnd wb w B s a cap w.heap.size xs xs v (w.alloc (.cells #[.slice a s.length cap] 33))) :=
    ⟨hown.alloc _, hbA.mono hBw, hb.trans (hbA.mono hb.size), (one_cell (heap_at_new w _)).1, hnv, Nat.le_trans hBw hbA.size, by have : (w.alloc (.cells #[.slice a s.length cap] 33)).heap.size = w.heap.size + 1 := Array.size_push _; omega, hst, ⟨[], by simp⟩⟩
  obtain ⟨i0, hi, hz0, hz1, hz2⟩ := info_parts (show (Try.prog.info? 9).map (fun i => (i.zero, i.size, i.bytes)) = some (some (.string ⟨#[]⟩), 1, 16) by kernel_rfl)
  clear hx hs hB hnv hbA hown hst hb
  generalize hn : s.length = n at *
  have HN := Lib.hid hn
  clear hn
  go_enter Try.func57, Try.ntmps57
  go_wp2
  generalize w.alloc (.cells #[.slice a n cap] 33) = w0 at *
  go_loopw [1, 5] (fun v i wr => ∃ (k : Nat) (cs : List ByteArray), k ≤ n ∧ i = .int .i64 k ∧ Hid (Rnd wb w B s a cap w.heap.size xs cs v wr) ∧ Hid (cs = xs → ∀ (j : Nat) t, j < k → s[j]? = some t → typeOk (· ∈ xs) t → t.name ∈ xs)) (fun _ i _ => n - (intOf i).toNat)
  case atStart => exact ⟨0, xs, Nat.zero_le _, rfl, HR0, fun _ j _ h => by omega⟩
  case round =>
    obtain ⟨k, cs, hk, rfl, hR, hD⟩ := hrel
    have c0 := hR.out.box
    rw [HN.out] at c0
    by_cases hlt : k < n
    · have hk' : k < s.length := by rw [HN.out]; exact hlt
      have hltz : (k : Int) < (n : Int) := by omega
      have hx : s[k]? = some s[k] := List.getElem?_eq_getElem hk'
      have hq := HS.out _ (List.getElem_mem hk')
      obtain ⟨y, u9, v9, rfl, hc0, hc1, hr1⟩ := row2_below type_below HX.out hR.out.base k hk'
      generalize s[k] = t at hx hq hr1
      obtain ⟨ta, tc, hu, hv, hr2⟩ := hr1
      subst hu
      subst hv
      have HXE := Lib.hid hx
      have HQ := Lib.hid hq.2
      have hq1 := hq.1
      clear hx hq hr2
      generalize hn2 : t.cons.length = n2 at *
      have HN2 := Lib.hid hn2
      clear hn2
      go_wp2
      go_loopw [1, 6] (fun v i wr => ∃ (i2 : Nat) (cs : List ByteArray), i2 ≤ n2 ∧ i = .int .i64 i2 ∧ Hid (Rnd wb w B s (some y) cap w.heap.size xs cs v wr) ∧ Hid (cs = xs → ∀ (j : Nat) t, j < k → s[j]? = some t → typeOk (· ∈ xs) t → t.name ∈ xs) ∧ Hid (cs = xs → ∀ (j : Nat) c, j < i2 → t.cons[j]? = some c → conOk (· ∈ xs) c → t.name ∈ xs)) (fun _ i _ => n2 - (intOf i).toNat)
      case atStart => exact ⟨0, cs, Nat.zero_le _, rfl, hR, hD, fun _ j _ h => by omega⟩
      case round =>
        clear c0 hc0 hc1 hR hD
        obtain ⟨i, cs, hi2, rfl, hR, hD, hE⟩ := hrel
        have c0 := hR.out.box
        rw [HN.out] at c0
        obtain ⟨y', u9, v9, hy', hc0, hc1, hr1⟩ := row2_below type_below HX.out hR.out.base k hk'
        obtain rfl := Option.some.inj hy'
        have hst : s[k] = t := by
          have := HXE.out
          rw [List.getElem?_eq_getElem hk'] at this
          exact Option.some.inj this
        rw [hst] at hr1
        obtain ⟨ta', tc', rfl, rfl, hr2⟩ := hr1
        rw [HN2.out] at hc1
        clear hst hy'
        by_cases hlt2 : i < n2
        · have hi' : i < t.cons.length := by rw [HN2.out]; exact hlt2
          have hltz2 : (i : Int) < (n2 : Int) := by omega
          have hx2 : t.cons[i]? = some t.cons[i] := List.getElem?_eq_getElem hi'
          have hq2 := HQ.out _ (List.getElem_mem hi')
          obtain ⟨y2, u2, v2, rfl, hd0, hd1, hr3⟩ := hr2 i hi'
          generalize t.cons[i] = c at hx2 hq2 hr3
          have HCE := Lib.hid hx2
          obtain ⟨hl1, la, lc, rfl, hlr⟩ := owned_reads hR.out.own
          have hsl := hR.out.stage.length
          have H := spec_lives wr c u2 v2 la lc cs hr3 hq2 hlr (by have := HN.out; omega)
          clear hx2 hr2 hl1 hr3
          have hHl := hlr
          clear hlr
          by_cases hco : conOk (· ∈ cs) c
          · rw [bl_true hco] at H
            have HCO := Lib.hid hco
            clear hco
            have HHL := Lib.hid hHl
            clear hHl
            have hidx := idx_mem cs t.name
            have hlo := idx_lo cs t.name
            have HI := fun w' hr => spec_index w' la lc cs t.name hr (by have := HN.out; unfold maxLen; omega)
            go_wp2_with fail
            refine H.mono ?_
            rintro e w1 ⟨rfl, hb1⟩
            have HR1 := Lib.hid (hR.out.below hb1)
            have H2 := HI w1 (reads_below HHL.out hb1)
            have e0 := cell_below c0 hb1
            have e1 := cell_below hc0 hb1
            by_cases hz : Lib.idxOfS cs t.name < 0
            · have HNM := Lib.hid (hidx.1 hz)
              have hz' : decide (Lib.idxOfS cs t.name < 0) = true := decide_eq_true hz
              clear hidx hz H hb1 HI
              generalize Lib.idxOfS cs t.name = z at *
              go_wp2_with fail
              refine H2.mono ?_
              rintro e w2 ⟨rfl, rfl⟩
              have HR1 : Hid (Rnd wb w B s (some y) cap w.heap.size xs cs (.slice la cs.length lc) (w2.alloc (.cells #[.string t.name] 9))) := HR1.out.below ((Below.refl _ _).alloc (Nat.le_refl _) _)
              have how := HR1.out.own
              have hle := HR1.out.le
              have hsz : (w2.alloc (.cells #[.string t.name] 9)).heap.size = w2.heap.size + 1 := Array.size_push _
              go_wp2_with (at_builtin; refine wpList_append_lies _ rfl _ _ 40 rfl B 9 i0 (.string ⟨#[]⟩) 1 16 Try.underlying40 hi hz0 hz1 hz2 rfl (by decide) _ cs.length (cs.map Value.string) rfl how ⟨w2.heap.size, 0, none⟩ 1 1 [.string t.name] rfl rfl (cell_one_new _ _ _) ?d1 (by decide) ?d2 ?d3 hle _ rfl ?_)
              case d1 => intro u hu; simp at hu; subst hu; rfl
              case d2 => unfold maxLen; have := HN.out; omega
              case d3 => have := HN.out; omega
              intro g cap3 w4 hown hgrow hat hlt4
              have ht : t ∈ s := by
                obtain ⟨h4, h5⟩ := List.getElem?_eq_some_iff.1 HXE.out
                exact h5 ▸ List.getElem_mem h4
              have hc : c ∈ t.cons := by
                obtain ⟨h4, h5⟩ := List.getElem?_eq_some_iff.1 HCE.out
                exact h5 ▸ List.getElem_mem h4
              have HR4 : Hid (Rnd wb w B s (some y) cap w.heap.size xs (cs ++ [t.name]) (.slice (some ⟨g, 0, none⟩) (cs.length + 1) cap3) w4) := HR1.out.append HBB.out HNM.out (inh_step HR1.out.stage.2 ht ⟨c, hc, HCO.out⟩) hown hgrow (hat.imp id (fun h => by rw [hsz]; exact h))
              have HGW := Lib.hid (HR1.out.grew t.name)
              clear how hle hown hgrow hat ht hc hlt4
              go_wp2
              go_roundw
              case rel => exact ⟨i + 1, cs ++ [t.name], by omega, by go_num, HR4, fun e => absurd e HGW.out, fun e => absurd e HGW.out⟩
              case measure => simp [intOf]; omega
            · have HNM : Hid (t.name ∈ cs) := Classical.not_not.1 (fun h => hz (hidx.2 h))
              have hz' : decide (Lib.idxOfS cs t.name < 0) = false := decide_eq_false hz
              clear hidx hz H hb1 HI
              generalize Lib.idxOfS cs t.name = z at *
              go_wp2_with fail
              refine H2.mono ?_
              rintro e w2 ⟨rfl, rfl⟩
              go_wp2
              go_roundw
              case rel => exact ⟨i + 1, cs, by omega, by go_num, HR1, hD, fun e => before_succ' (p := fun c => conOk (· ∈ xs) c → t.name ∈ xs) (hE.out e) HCE.out (fun _ => e ▸ HNM.out)⟩
              case measure => simp [intOf]; omega
          · rw [bl_false hco] at H
            have HCO := Lib.hid hco
            clear hco hHl
            go_wp2_with fail
            refine H.mono ?_
            rintro e w1 ⟨rfl, hb1⟩
            have HR1 := Lib.hid (hR.out.below hb1)
            clear hb1 H
            go_wp2
            go_roundw
            case rel => exact ⟨i + 1, cs, by omega, by go_num, HR1, hD, fun e => before_succ' (p := fun c => conOk (· ∈ xs) c → t.name ∈ xs) (hE.out e) HCE.out (fun h => absurd (e ▸ h) HCO.out)⟩
            case measure => simp [intOf]; omega
        · have HNX : Hid (cs = xs → typeOk (· ∈ xs) t → t.name ∈ xs) := fun e h => by
            obtain ⟨c, hc, hco⟩ := h
            obtain ⟨j, hj, e2⟩ := List.mem_iff_getElem.1 hc
            exact hE.out e j c (by have := HN2.out; omega) (by rw [List.getElem?_eq_getElem hj, e2]) hco
          go_wp2
          go_roundw
          case rel => exact ⟨k + 1, cs, by omega, by go_num, hR, fun e => before_succ' (p := fun t => typeOk (· ∈ xs) t → t.name ∈ xs) (hD.out e) HXE.out (HNX.out e)⟩
          case measure => simp [intOf]; omega
    · have HCL : Hid (cs = xs → Closed s (· ∈ xs)) := fun e t ht h => by
        obtain ⟨j, hj, e2⟩ := List.mem_iff_getElem.1 ht
        exact hD.out e j t (by have := HN.out; omega) (by rw [List.getElem?_eq_getElem hj, e2]) h
      go_wp2
      go_ret
      exact ⟨_, cs, rfl, hR.out.own, hR.out.low, hR.out.stage, hR.out.more, HCL.out⟩
end Go.Proofs.Ytcmpaccpdjcocaa
