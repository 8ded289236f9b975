/- What is proved here: a piece of the proof of YtdilegbigaahnaaGreatExactIsValueOf (SpecInhab, ImplInhab). Condition: none beyond what each part says. -/
import Derived.Test.YtdilegbigaahnaaGreatVo11

/- What is proved here: the model's Inhabited (package spec) hands back as many names as declared types have values. Condition: the signature lies in memory as said, and is small. -/
section
namespace Go.Proofs.YtdilegbigaahnaaGreat
open Go.RowKit

theorem closed_more {s : List TypeD} {xs ys : List ByteArray} (hC : Closed s (· ∈ xs)) (hx : Stage s xs) (hy : Stage s ys) (hm : ∃ zs, ys = xs ++ zs) : Closed s (· ∈ ys) := by
  have he := inh_closed hC hx.2
  obtain ⟨zs, rfl⟩ := hm
  intro t ht ho
  have h1 : typeOk (· ∈ xs) t := typeOk_mono (fun x h => (he x).2 (hy.2 x h)) ho
  exact List.mem_append_left _ (hC t ht h1)
theorem missing_more {s : List TypeD} {xs ys : List ByteArray} (hy : Stage s ys) (hm : ∃ zs, ys = xs ++ zs) (hne : ys ≠ xs) : missing s (· ∈ ys) < missing s (· ∈ xs) := by
  obtain ⟨zs, rfl⟩ := hm
  refine (missing_less (s := s) (S := (· ∈ xs)) (S' := (· ∈ xs ++ zs)) (fun x h => List.mem_append_left _ h)).2 ?_
  cases zs with
  | nil => exact absurd (by simp) hne
  | cons z r =>
    refine ⟨z, inh_name (hy.2 z (by simp)), fun h => ?_, by simp⟩
    exact (List.nodup_append.1 hy.1).2.2 z h z (by simp) rfl

set_option maxHeartbeats 2000000 in
set_option maxRecDepth 100000 in
theorem spec_inhabited (w : World) (a : Option Addr) (cap : Nat) (s : List TypeD) (hx : Row2 TypeAt w a s) (hm : s.length ≤ 1048576) (hs : ∀ c ∈ s, c.cons.length ≤ 1048576 ∧ ∀ d ∈ c.cons, d.args.length ≤ 1048576) :
    Calls Tryz.prog 41 #[.agg #[.slice a s.length cap]] w fun e w' => (∃ a2 cap2, e = .returned (.slice a2 (inhabited s).length cap2)) ∧ Below w.heap.size w w' := by
  have HX := Lib.hid hx
  have HS := Lib.hid hs
  have s1 : (w.alloc (.cells #[.slice a s.length cap] 33)).heap.size = w.heap.size + 1 := Array.size_push _
  have hbA : Below w.heap.size w (w.alloc (.cells #[.slice a s.length cap] 33)) := (Below.refl _ _).alloc (Nat.le_refl _) _
  have hc0 := (one_cell (heap_at_new w (.cells #[.slice a s.length cap] 33))).1
  have how := World.ownsRow_made (base := w.heap.size + 1) (e := 9) (size := 1) (w.alloc (.cells #[.slice a s.length cap] 33)) #[] 0 (by omega) (by decide) (by simp)
  rw [s1] at how
  have HBA := Lib.hid hbA
  have HC0 := Lib.hid hc0
  have HS1 := Lib.hid s1
  have HOW := Lib.hid how
  clear hx hs s1 hbA hc0 how
  obtain ⟨i0, hi, hz0, hz1, hz2⟩ := info_parts (show (Tryz.prog.info? 9).map (fun i => (i.zero, i.size, i.bytes)) = some (some (.string ⟨#[]⟩), 1, 16) by kernel_rfl)
  have hR := fun w' v xs => spec_round w w' (w.heap.size + 1) a cap s v xs HX.out hm HS.out (by omega)
  generalize hn : s.length = n at *
  have HN := Lib.hid hn
  clear hn
  go_enter Tryz.func41, Tryz.ntmps41
  go_wp2
  generalize w.alloc (.cells #[.slice a n cap] 33) = w1 at *
  have hal : Below w1.heap.size w1 (w1.alloc (.cells #[] 9)) := (Below.refl _ _).alloc (Nat.le_refl _) _
  have HL : Hid (Below (w.heap.size + 1) w1 (w1.alloc (.cells #[] 9))) := by rw [← HS1.out]; exact hal
  clear hal
  generalize w1.alloc (.cells #[] 9) = w2 at *
  go_loopw [3, 4] (fun v i wr => ∃ (k : Nat) (xs : List ByteArray), k ≤ n ∧ i = .int .i64 k ∧ Hid (wr.ownsRow (w.heap.size + 1) 9 1 v xs.length (xs.map Value.string)) ∧ Hid (Below (w.heap.size + 1) w1 wr) ∧ Hid (Stage s xs) ∧ Hid (Closed s (· ∈ xs) ∨ missing s (· ∈ xs) + k ≤ n)) (fun _ i _ => n - (intOf i).toNat)
  case atStart => exact ⟨0, [], Nat.zero_le _, rfl, HOW.out, HL.out, ⟨List.nodup_nil, fun x hx => by cases hx⟩, .inr (by have := missing_le s (· ∈ ([] : List ByteArray)); have := HN.out; omega)⟩
  case round =>
    obtain ⟨k, xs, hk, rfl, hO, hL, hSt, hP⟩ := hrel
    have c0 := cell_below HC0.out (by have := hL.out; rw [← HS1.out] at this; exact this)
    by_cases hlt : k < n
    · have hltz : (k : Int) < (n : Int) := by omega
      have hsz := hL.out.size
      have H := hR wr _ xs (HBA.out.trans (hL.out.mono (by omega))) (by have := HS1.out; omega) hO.out hSt.out
      clear hsz
      go_wp2_with fail
      refine H.mono ?_
      rintro e w3 ⟨v', ys, rfl, ho, hb, hst, hmo, hcl⟩
      have HO3 := Lib.hid ho
      have HL3 : Hid (Below (w.heap.size + 1) w1 w3) := hL.out.trans hb
      have HS3 := Lib.hid hst
      have HP3 : Hid (Closed s (· ∈ ys) ∨ missing s (· ∈ ys) + (k + 1) ≤ n) := by
        rcases hP.out with h1 | h1
        · exact .inl (closed_more h1 hSt.out hst hmo)
        · by_cases he : ys = xs
          · exact .inl (closed_more (hcl he) hSt.out hst hmo)
          · have := missing_more hst hmo he
            exact .inr (by omega)
      clear ho hb hst hmo hcl H c0
      go_wp2
      go_roundw
      case rel => exact ⟨k + 1, ys, by omega, by go_num, HO3, HL3, HS3, HP3⟩
      case measure => simp [intOf]; omega
    · obtain rfl : k = n := by omega
      have HCL : Hid (∀ x, x ∈ xs ↔ Inh s x) := by
        have hC : Closed s (· ∈ xs) := by
          rcases hP.out with h1 | h1
          · exact h1
          · exact missing_zero (by omega)
        exact inh_closed hC hSt.out.2
      obtain ⟨_, la, lc, rfl, hlr⟩ := owned_reads hO.out
      have hal : Below wr.heap.size wr (wr.alloc (.cells #[] 9)) := (Below.refl _ _).alloc (Nat.le_refl _) _
      have hxl := hSt.out.length
      rw [HN.out] at hxl
      have HOUT : Hid ((wr.alloc (.cells #[] 9)).ownsRow wr.heap.size 9 1 (.slice (some ⟨wr.heap.size, 0, none⟩) 0 0) 0 []) := World.ownsRow_made wr #[] 0 (Nat.le_refl _) (by decide) (by simp)
      have HLA : Hid (Below wr.heap.size wr (wr.alloc (.cells #[] 9))) := hal
      have HLR := Lib.hid hlr
      have HW5 : Hid (Below w.heap.size w wr) := HBA.out.trans (hL.out.mono (by omega))
      have HC5 := Lib.hid c0
      clear hlr hal hO hL hSt hP hR
      go_wp2
      clear c0
      generalize wr.alloc (.cells #[] 9) = w4 at *
      generalize wr = w5 at *
      go_loopw [5, 6] (fun v i wz => ∃ (j : Nat), j ≤ k ∧ i = .int .i64 j ∧ Hid (wz.ownsRow w5.heap.size 9 1 v (((s.take j).map TypeD.name).filter fun x => bl (Inh s x)).length ((((s.take j).map TypeD.name).filter fun x => bl (Inh s x)).map Value.string)) ∧ Hid (Below w5.heap.size w5 wz)) (fun _ i _ => k - (intOf i).toNat)
      case atStart => exact ⟨0, Nat.zero_le _, rfl, by unfold Hid; simpa using HOUT.out, HLA.out⟩
      case round =>
        obtain ⟨j, hj, rfl, hO, hL⟩ := hrel
        have c0 := cell_below HC5.out hL.out
        by_cases hlt2 : j < k
        · have hj' : j < s.length := by rw [HN.out]; exact hlt2
          have hltz : (j : Int) < (k : Int) := by omega
          have hpre := inhabited_take s j hj'
          have hplen := inhabited_len s j
          rw [HN.out] at hplen
          obtain ⟨y, u1, v1, rfl, hc0, hc1, hr1⟩ := row2_below type_below HX.out (HW5.out.trans (hL.out.mono HW5.out.size)) j hj'
          generalize s[j] = t at hpre hr1
          obtain ⟨ta, tc, hu, hv, _⟩ := hr1
          subst hu
          subst hv
          generalize (((s.take j).map TypeD.name).filter fun x => bl (Inh s x)) = ps at hO hpre hplen
          have HPRE := Lib.hid hpre
          have hidx := idx_mem xs t.name
          have hlo := idx_lo xs t.name
          have H := spec_index wr la lc xs t.name (reads_below HLR.out hL.out) (by unfold maxLen; omega)
          by_cases hz : Lib.idxOfS xs t.name < 0
          · have hni : bl (Inh s t.name) = false := bl_false (fun h => (hidx.1 hz) ((HCL.out _).2 h))
            have HQ : Hid ((((s.take (j + 1)).map TypeD.name).filter fun x => bl (Inh s x)) = ps) := by
              unfold Hid
              rw [HPRE.out, if_neg (by rw [hni]; simp), List.append_nil]
            have hz' : decide (0 ≤ Lib.idxOfS xs t.name) = false := decide_eq_false (by omega)
            clear hidx hz hpre hni
            generalize Lib.idxOfS xs t.name = z at *
            go_wp2_with fail
            refine H.mono ?_
            rintro e w6 ⟨rfl, rfl⟩
            go_wp2
            go_roundw
            case rel => exact ⟨j + 1, by omega, by go_num, by rw [HQ.out]; exact hO, hL⟩
            case measure => simp [intOf]; omega
          · have hni : bl (Inh s t.name) = true := bl_true ((HCL.out _).1 (Classical.not_not.1 (fun h => hz (hidx.2 h))))
            have HQ : Hid ((((s.take (j + 1)).map TypeD.name).filter fun x => bl (Inh s x)) = ps ++ [t.name]) := by
              unfold Hid
              rw [HPRE.out, if_pos hni]
            have hz' : decide (0 ≤ Lib.idxOfS xs t.name) = true := decide_eq_true (by omega)
            clear hidx hz hpre hni
            generalize Lib.idxOfS xs t.name = z at *
            go_wp2_with fail
            refine H.mono ?_
            rintro e w6 ⟨rfl, rfl⟩
            have hal : Below w6.heap.size w6 (w6.alloc (.cells #[.string t.name] 9)) := (Below.refl _ _).alloc (Nat.le_refl _) _
            have hsz := hL.out.size
            have HL7 : Hid (Below w5.heap.size w5 (w6.alloc (.cells #[.string t.name] 9))) := hL.out.trans (hal.mono hsz)
            have how := hO.out.alloc (.cells #[.string t.name] 9)
            have hle : w5.heap.size ≤ (w6.alloc (.cells #[.string t.name] 9)).heap.size := Nat.le_trans hsz hal.size
            clear hal
            go_wp2_with (at_builtin; refine wpList_append_lies _ rfl _ _ 67 rfl w5.heap.size 9 i0 (.string ⟨#[]⟩) 1 16 Tryz.underlying67 hi hz0 hz1 hz2 rfl (by decide) _ ps.length (ps.map Value.string) rfl how ⟨w6.heap.size, 0, none⟩ 1 1 [.string t.name] rfl rfl (cell_one_new _ _ _) ?d1 (by decide) ?d2 ?d3 hle _ rfl ?_)
            case d1 => intro u hu; simp at hu; subst hu; rfl
            case d2 => unfold maxLen; omega
            case d3 => omega
            intro g cap3 w7 hown hgrow hat hlt7
            have HO7 : Hid (w7.ownsRow w5.heap.size 9 1 (.slice (some ⟨g, 0, none⟩) (ps.length + 1) cap3) (ps ++ [t.name]).length ((ps ++ [t.name]).map Value.string)) := by
              unfold Hid
              rw [List.length_append, List.map_append]
              exact hown
            have HL8 : Hid (Below w5.heap.size w5 w7) := HL7.out.grown hgrow hle (fun b hb => (how.lt b hb).1)
            clear how hown hgrow hat hle hlt7 hsz
            go_wp2
            go_roundw
            case rel => exact ⟨j + 1, by omega, by go_num, by rw [HQ.out]; exact HO7, HL8⟩
            case measure => simp [intOf]; omega
        · have hz : s.take j = s := List.take_of_length_le (by have := HN.out; omega)
          rw [hz] at hO
          obtain ⟨_, ra, rc, rfl, _⟩ := owned_reads hO.out
          have HE : Hid (Below w.heap.size w wr) := HW5.out.trans (hL.out.mono HW5.out.size)
          clear hO hL
          go_wp2
          go_ret
          exact ⟨⟨ra, rc, rfl⟩, HE.out⟩
end Go.Proofs.YtdilegbigaahnaaGreat
end

/- What is proved here: the program's Inhabited hands back as many names as declared types have values. Condition: the signature lies in memory as said, and is small. -/
section
namespace Go.Proofs.YtdilegbigaahnaaGreat
open Go.RowKit

/-- A map's block is no row's. -/
theorem set_row {w : World} {b n : Nat} {S : ByteArray → Prop} (h : HasSet w b n S) {B : Nat} {e : TypeId} {sz : Nat} {v : Value} {m : Nat} {xs : List Value} (ho : w.ownsRow B e sz v m xs) : some b ≠ v.ownBlock := by
  intro he
  obtain ⟨D, ⟨es, clock, hb, _⟩, _⟩ := h
  rcases ho.2 with ⟨e1, _⟩ | ⟨g, cap, cur, rfl, _, hg, _⟩
  · rw [e1] at he
    cases he
  · have : b = g := Option.some.inj he
    subst this
    rw [hb] at hg
    cases hg

set_option maxHeartbeats 2000000 in
set_option maxRecDepth 100000 in
theorem impl_inhabited (w : World) (a : Option Addr) (cap : Nat) (s : List TypeD) (hx : Row2 TypeAt w a s) (hf : sigFits s) (hm : s.length ≤ 1048576) (hs : ∀ c ∈ s, c.cons.length ≤ 1048576 ∧ ∀ d ∈ c.cons, d.args.length ≤ 1048576) :
    Calls Tryz.prog 49 #[.agg #[.slice a s.length cap]] w fun e w' => (∃ a2 cap2, e = .returned (.slice a2 (inhabited s).length cap2)) ∧ Below w.heap.size w w' := by
  have HX := Lib.hid hx
  have HF := Lib.hid hf.2
  have s1 : (w.alloc (.cells #[.slice a s.length cap] 33)).heap.size = w.heap.size + 1 := Array.size_push _
  have hbA : Below w.heap.size w (w.alloc (.cells #[.slice a s.length cap] 33)) := (Below.refl _ _).alloc (Nat.le_refl _) _
  have hc0 := (one_cell (heap_at_new w (.cells #[.slice a s.length cap] 33))).1
  generalize hw1 : w.alloc (.cells #[.slice a s.length cap] 33) = w1 at *
  have hb2 : Below w1.heap.size w1 (w1.alloc (.cells #[] 9)) := (Below.refl _ _).alloc (Nat.le_refl _) _
  have how := World.ownsRow_made (base := w.heap.size + 1) (e := 9) (size := 1) w1 #[] 0 (by omega) (by decide) (by simp)
  rw [s1] at how
  have hb12 := hbA.trans (hb2.mono hbA.size)
  have H := impl_inhSet (w1.alloc (.cells #[] 9)) a cap s (row2_below type_below hx hb12) hf hm hs
  have c2 := cell_below hc0 hb2
  have hz2 : w.heap.size + 1 ≤ (w1.alloc (.cells #[] 9)).heap.size := by have := hb2.size; omega
  have HZ2 := Lib.hid hz2
  have HB2 := Lib.hid hb12
  have HOW := Lib.hid how
  have HW1 := Lib.hid hw1
  clear hx hs hf s1 hbA hc0 hb2 how hb12 hw1 hz2
  obtain ⟨i0, hi, hz0, hz1, hz2⟩ := info_parts (show (Tryz.prog.info? 9).map (fun i => (i.zero, i.size, i.bytes)) = some (some (.string ⟨#[]⟩), 1, 16) by kernel_rfl)
  generalize hn : s.length = n at *
  have HN := Lib.hid hn
  clear hn
  go_enter Tryz.func49, Tryz.ntmps49
  go_wp2_with fail
  rw [HW1.out]
  generalize w1.alloc (.cells #[] 9) = w2 at *
  refine H.mono ?_
  rintro e w3 ⟨⟨bi, ni, S, rfl, hset, hS⟩, hb3⟩
  have c3 := cell_below c2 hb3
  have HO3 : Hid (w3.ownsRow (w.heap.size + 1) 9 1 (.slice (some ⟨w.heap.size + 1, 0, none⟩) 0 0) 0 []) := HOW.out.kept (row := none) ⟨hb3.os, hb3.tape, hb3.output, hb3.size, fun k hk _ => hb3.block k hk⟩ (.inr (by simp [Value.ownBlock]))
  have HSET := Lib.hid hset
  have HSI := Lib.hid hS
  have HB3 : Hid (Below w.heap.size w w3) := HB2.out.trans (hb3.mono HB2.out.size)
  have HZ3 : Hid (w.heap.size + 1 ≤ w3.heap.size) := Nat.le_trans HZ2.out hb3.size
  clear hset hS hb3 H c2
  go_wp2
  clear c3
  go_loopw [3, 13] (fun v i wr => ∃ (j : Nat), j ≤ n ∧ i = .int .i64 j ∧ Hid (wr.ownsRow (w.heap.size + 1) 9 1 v (((s.take j).map TypeD.name).filter fun x => bl (Inh s x)).length ((((s.take j).map TypeD.name).filter fun x => bl (Inh s x)).map Value.string)) ∧ Hid (HasSet wr bi ni S) ∧ Hid (Below w.heap.size w wr) ∧ Hid (w.heap.size + 1 ≤ wr.heap.size)) (fun _ i _ => n - (intOf i).toNat)
  case atStart => exact ⟨0, Nat.zero_le _, rfl, by unfold Hid; simpa using HO3.out, HSET, HB3, HZ3⟩
  case round =>
    obtain ⟨j, hj, rfl, hO, hSet, hL, hZ⟩ := hrel
    by_cases hlt2 : j < n
    · have hj' : j < s.length := by rw [HN.out]; exact hlt2
      have hltz : (j : Int) < (n : Int) := by omega
      have hpre := inhabited_take s j hj'
      have hplen := inhabited_len s j
      rw [HN.out] at hplen
      obtain ⟨y, u1, v1, rfl, hc0, hc1, hr1⟩ := row2_below type_below HX.out hL.out j hj'
      have hft := HF.out _ (List.getElem_mem hj')
      generalize s[j] = t at hpre hr1 hft
      obtain ⟨ta, tc, hu, hv, _⟩ := hr1
      subst hu
      subst hv
      generalize (((s.take j).map TypeD.name).filter fun x => bl (Inh s x)) = ps at hO hpre hplen
      have HPRE := Lib.hid hpre
      have hbD : Below wr.heap.size wr (wr.alloc (.cells #[.string t.name, .slice ta t.cons.length tc] 71)) := (Below.refl _ _).alloc (Nat.le_refl _) _
      have HO5 := Lib.hid (hO.out.alloc (.cells #[.string t.name, .slice ta t.cons.length tc] 71))
      have HS5 := Lib.hid (hSet.out.below hbD)
      have HL5 : Hid (Below w.heap.size w (wr.alloc (.cells #[.string t.name, .slice ta t.cons.length tc] 71))) := hL.out.trans (hbD.mono hL.out.size)
      have HZ5 : Hid (w.heap.size + 1 ≤ (wr.alloc (.cells #[.string t.name, .slice ta t.cons.length tc] 71)).heap.size) := Nat.le_trans hZ.out hbD.size
      have hlk := HS5.out.look t.name hft.1
      clear hbD hpre hft
      by_cases hin : S t.name
      · rw [bl_true hin] at hlk
        have HQ : Hid ((((s.take (j + 1)).map TypeD.name).filter fun x => bl (Inh s x)) = ps ++ [t.name]) := by
          unfold Hid
          rw [HPRE.out, if_pos (bl_true ((HSI.out _).1 hin))]
        clear hin
        have hal : Below (wr.alloc (.cells #[.string t.name, .slice ta t.cons.length tc] 71)).heap.size (wr.alloc (.cells #[.string t.name, .slice ta t.cons.length tc] 71)) ((wr.alloc (.cells #[.string t.name, .slice ta t.cons.length tc] 71)).alloc (.cells #[.string t.name] 9)) := (Below.refl _ _).alloc (Nat.le_refl _) _
        have how := HO5.out.alloc (.cells #[.string t.name] 9)
        have HS6 := Lib.hid (HS5.out.below hal)
        have HL6 : Hid (Below w.heap.size w ((wr.alloc (.cells #[.string t.name, .slice ta t.cons.length tc] 71)).alloc (.cells #[.string t.name] 9))) := HL5.out.trans (hal.mono HL5.out.size)
        have hle : w.heap.size + 1 ≤ ((wr.alloc (.cells #[.string t.name, .slice ta t.cons.length tc] 71)).alloc (.cells #[.string t.name] 9)).heap.size := Nat.le_trans HZ5.out hal.size
        clear hal
        have hnw := cell_one_new (wr.alloc (.cells #[.string t.name, .slice ta t.cons.length tc] 71)) (.string t.name) 9
        have hszz : (wr.alloc (.cells #[.string t.name, .slice ta t.cons.length tc] 71)).heap.size = wr.heap.size + 1 := Array.size_push _
        rw [hszz] at hnw
        go_wp2_with (at_builtin; refine wpList_append_lies _ rfl _ _ 67 rfl (w.heap.size + 1) 9 i0 (.string ⟨#[]⟩) 1 16 Tryz.underlying67 hi hz0 hz1 hz2 rfl (by decide) _ ps.length (ps.map Value.string) rfl how ⟨wr.heap.size + 1, 0, none⟩ 1 1 [.string t.name] rfl rfl hnw ?d1 (by decide) ?d2 ?d3 hle _ rfl ?_)
        case d1 => intro u hu; simp at hu; subst hu; rfl
        case d2 => unfold maxLen; omega
        case d3 => omega
        intro g cap3 w7 hown hgrow hat hlt7
        have HO7 : Hid (w7.ownsRow (w.heap.size + 1) 9 1 (.slice (some ⟨g, 0, none⟩) (ps.length + 1) cap3) (ps ++ [t.name]).length ((ps ++ [t.name]).map Value.string)) := by
          unfold Hid
          rw [List.length_append, List.map_append]
          exact hown
        have HL8 : Hid (Below w.heap.size w w7) := HL6.out.grown hgrow (by omega) (fun b hb => by have := (how.lt b hb).1; omega)
        have HS7 := Lib.hid (HS6.out.kept hgrow (set_row HS6.out how))
        have HZ7 : Hid (w.heap.size + 1 ≤ w7.heap.size) := Nat.le_trans hle hgrow.size
        clear how hown hgrow hat hle hlt7 hnw hszz hlk
        go_wp2
        go_roundw
        case rel => exact ⟨j + 1, by omega, by go_num, by rw [HQ.out]; exact HO7, HS7, HL8, HZ7⟩
        case measure => simp [intOf]; omega
      · rw [bl_false hin] at hlk
        have HQ : Hid ((((s.take (j + 1)).map TypeD.name).filter fun x => bl (Inh s x)) = ps) := by
          unfold Hid
          rw [HPRE.out, if_neg (by rw [bl_false (fun h => hin ((HSI.out _).2 h))]; simp), List.append_nil]
        clear hin
        go_wp2
        go_roundw
        case rel => exact ⟨j + 1, by omega, by go_num, by rw [HQ.out]; exact HO5, HS5, HL5, HZ5⟩
        case measure => simp [intOf]; omega
    · have hz : s.take j = s := List.take_of_length_le (by have := HN.out; omega)
      rw [hz] at hO
      obtain ⟨_, ra, rc, rfl, _⟩ := owned_reads hO.out
      clear hO hSet hZ
      go_wp2
      go_ret
      exact ⟨⟨ra, rc, rfl⟩, hL.out⟩
end Go.Proofs.YtdilegbigaahnaaGreat
end
