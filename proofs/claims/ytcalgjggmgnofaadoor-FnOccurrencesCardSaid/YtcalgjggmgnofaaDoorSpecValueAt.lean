/- What is proved here: the model's ValueAt returns a copy of the part at an occurrence. Condition: the value lies in memory as said, and is small; the list reads as said. -/
import Derived.Test.YtcalgjggmgnofaaDoorSpecCopy
import Derived.Test.YtcalgjggmgnofaaDoorPath
import Derived.Test.YtcalgjggmgnofaaDoorInts
namespace Go.Proofs.YtcalgjggmgnofaaDoor
open Go.RowKit

theorem results_row_one {P : Program} {fn : Func} {p u : Tmp} {ty : TypeId} (h : fn.results = #[.cell p ty, .tmp u]) (tmps : Array Value) (w : World) (g : Nat) (t : TypeId) (cs : Array Value) (fr : Nat × Nat) (d : TypeDesc)
    (hp : tmps.getD p undef = .pointer (some ⟨g, 0, none⟩)) (hg : w.heap[g]? = some (.cells cs t fr))
    (hu : P.underlying ty = some d) (hd : (match d with | .struct _ | .array _ _ => true | _ => false) = true) (hi : (P.info? ty).map (·.size) = some cs.size) :
    (results fn tmps).run P w = .ok (.tuple #[.agg cs, tmps.getD u undef]) w := by
  have hp' : tmps[p]?.getD undef = .pointer (some ⟨g, 0, none⟩) := by simpa using hp
  simp [results, h, hp', asAddr, run_loadVar_row w g t ty cs fr d hg hu hd hi]

def zeroD : NodeD := ⟨0, 0, ⟨#[]⟩, .nil⟩
/-- A value comes back in memory of the call's own, and whether there is one. -/
def AtEnd (w : World) (o : Option NodeD) (e : Ending) (w' : World) : Prop :=
  (∃ v bs, e = .returned (.tuple #[.agg #[.int .i64 (o.getD zeroD).k, .int .i64 (o.getD zeroD).n, .string (o.getD zeroD).t, v], .bool o.isSome]) ∧ OwnV w' v (o.getD zeroD).args bs ∧ bs.Nodup ∧ ∀ b ∈ bs, w.heap.size ≤ b ∧ b < w'.heap.size) ∧ Below w.heap.size w w'
theorem AtEnd.zero {w w' : World} {e : Ending} (he : e = .returned (.tuple #[.agg #[.int .i64 0, .int .i64 0, .string ⟨#[]⟩, .slice none 0 0], .bool false])) (hb : Below w.heap.size w w') : AtEnd w none e w' :=
  ⟨⟨.slice none 0 0, [], he, .inl ⟨none, 0, rfl, rfl, rfl⟩, List.nodup_nil, by simp⟩, hb⟩
theorem two_boxes (w : World) (o0 o1 : Obj) : ((w.alloc o0).alloc o1).heap[w.heap.size]? = some o0 ∧ ((w.alloc o0).alloc o1).heap[w.heap.size + 1]? = some o1 ∧ ((w.alloc o0).alloc o1).heap.size = w.heap.size + 2 ∧ Below w.heap.size w ((w.alloc o0).alloc o1) := by
  have s1 : (w.alloc o0).heap.size = w.heap.size + 1 := Array.size_push _
  have e1 := heap_at_new (w.alloc o0) o1
  rw [s1] at e1
  refine ⟨?_, e1, by simp, ((Below.refl _ _).alloc (Nat.le_refl _) _).alloc (by omega) _⟩
  rw [Below.heap_alloc _ _ _ (by omega)]
  exact heap_at_new w o0

theorem far_box (w : World) (b b2 : Nat) (u0 u1 u2 u3 : Value) (h : b2 ≠ b) : ((((w.setCell ⟨b, 0, none⟩ u0).setCell ⟨b, 1, none⟩ u1).setCell ⟨b, 2, none⟩ u2).setCell ⟨b, 3, none⟩ u3).heap[b2]? = w.heap[b2]? := by
  rw [Below.heap_setCell _ _ _ _ h, Below.heap_setCell _ _ _ _ h, Below.heap_setCell _ _ _ _ h, Below.heap_setCell _ _ _ _ h]

set_option maxRecDepth 100000 in
/-- l1In at an index. -/
theorem in_index (w : World) (z : Int) (m : Nat) :
    Calls Tryd.prog 40 #[.int .i64 z, .int .i64 0, .int .i64 ((m : Int) - 1)] w fun e w' => e = .returned (.bool (decide (0 ≤ z ∧ z < (m : Int)))) ∧ w = w' := by
  generalize hq : decide (0 ≤ z ∧ z < (m : Int)) = q
  by_cases h1 : 0 ≤ z
  · have e1 : decide ((0 : Int) ≤ z) = true := by simpa using h1
    have hq2 : decide (z ≤ (m : Int) - 1) = q := by rw [← hq]; simp [h1]; omega
    have HQ := Lib.hid hq2
    clear hq h1 hq2
    go_enter Tryd.func40, Tryd.ntmps40
    go_wp2
    go_ret
    exact ⟨by rw [← HQ.out]; rfl, rfl⟩
  · have e1 : decide ((0 : Int) ≤ z) = false := by simpa using h1
    have hq2 : false = q := by rw [← hq]; simp [h1]
    have HQ := Lib.hid hq2
    clear hq h1 hq2
    go_enter Tryd.func40, Tryd.ntmps40
    go_wp2
    go_ret
    exact ⟨by rw [← HQ.out]; rfl, rfl⟩

set_option maxHeartbeats 4000000 in
set_option maxRecDepth 100000 in
theorem spec_valueAt (w : World) (d : NodeD) (p : Option Addr) (cap : Nat) (hx : TreesAt w d.args p 0) (hc : d.args.count ≤ 1048576) (hcap : d.args.length ≤ cap) (a : Option Addr) (cap2 : Nat) (zs : List Int) (hz : ReadsI w a zs) (hm : zs.length ≤ 1048576) :
    Calls Tryd.prog 11 #[.agg #[.int .i64 d.k, .int .i64 d.n, .string d.t, .slice p d.args.length cap], .slice a zs.length cap2] w (AtEnd w (d.at zs)) := by
  have h2 := two_boxes w (.cells #[.int .i64 d.k, .int .i64 d.n, .string d.t, .slice p d.args.length cap] 26) (.cells #[.int .i64 0, .int .i64 0, .string ⟨#[]⟩, .slice none 0 0] 26)
  obtain ⟨w2, hw2⟩ : ∃ w2, w2 = (w.alloc (.cells #[.int .i64 d.k, .int .i64 d.n, .string d.t, .slice p d.args.length cap] 26)).alloc (.cells #[.int .i64 0, .int .i64 0, .string ⟨#[]⟩, .slice none 0 0] 26) := ⟨_, rfl⟩
  rw [← hw2] at h2
  obtain ⟨ha, hb, hs, hB⟩ := h2
  have HW2 := Lib.hid hw2
  have HZ := Lib.hid hz
  have HI : Hid (BoxAt w2 w.heap.size d.k d.n d.t p d.args.length cap 26 ∧ BoxAt w2 (w.heap.size + 1) 0 0 ⟨#[]⟩ none 0 0 26 ∧ Below w.heap.size w w2 ∧ TreesAt w d.args p 0 ∧ d.args.count ≤ 1048576 ∧ d.args.length ≤ cap) := ⟨ha, hb, hB, hx, hc, hcap⟩
  have HD : Hid (d.at (zs.drop 0) = d.at zs) := rfl
  generalize d.at zs = q at *
  clear hx hz hc hcap ha hb hs hB hw2
  generalize hn : zs.length = m at *
  have HN := Lib.hid hn
  clear hn
  go_enter Tryd.func11, Tryd.ntmps11
  go_wp2
  rw [← HW2.out]
  clear HW2
  go_loopw [6] (fun i wr => ∃ (j : Nat) (f : NodeD) (p2 : Option Addr) (c2 : Nat), i = .int .i64 j ∧ j ≤ m ∧ Hid (f.at (zs.drop j) = q) ∧ Hid (BoxAt wr w.heap.size f.k f.n f.t p2 f.args.length c2 26 ∧ BoxAt wr (w.heap.size + 1) 0 0 ⟨#[]⟩ none 0 0 26 ∧ Below w.heap.size w wr ∧ TreesAt w f.args p2 0 ∧ f.args.count ≤ 1048576 ∧ f.args.length ≤ c2)) (fun i _ => m - (intOf i).toNat)
  case atStart => exact ⟨0, d, p, cap, rfl, Nat.zero_le _, HD, HI⟩
  case round =>
    obtain ⟨j, f, p2, c2, rfl, hj, hD, hI⟩ := hrel
    obtain ⟨v0, v1, v2, v3, g0, g1, g2, g3⟩ := four_cells hI.out.1
    obtain ⟨x0, x1, x2, x3, f0, f1, f2, f3⟩ := four_cells hI.out.2.1
    by_cases hlt : j < m
    · obtain ⟨y, rfl, hcz⟩ := (readsI_below HZ.out hI.out.2.2.1) j (by rw [HN.out]; exact hlt)
      have hst := fun e h1 h2 he => at_step f e zs j (by rw [HN.out]; exact hlt) h1 h2 he
      have hno := at_none f zs j (by rw [HN.out]; exact hlt)
      rw [hD.out] at hst hno
      generalize zs[j]'(by rw [HN.out]; exact hlt) = z at hcz hst hno
      have hal := f.args.length_le_count
      have hal2 := hI.out.2.2.2.2.1
      have hlen : f.args.length ≤ 1048576 := by omega
      clear hal
      have H := in_index wr.drew z f.args.length
      have hw : IntKind.i64.wrap ((f.args.length : Int) - 1) = (f.args.length : Int) - 1 := by rw [IntKind.wrap_i64]; omega
      rw [← hw] at H
      have H := Lib.hid H
      clear hw
      by_cases hin : 0 ≤ z ∧ z < (f.args.length : Int)
      · obtain ⟨e, he⟩ := f.args.pick_some z.toNat (by omega)
        have HST := Lib.hid (hst e hin.1 hin.2 he).symm
        obtain ⟨y2, q2, cq, hy2, h1, h2, h3, h4, hl5, hx5⟩ := hI.out.2.2.2.1.pick0 he
        subst hy2
        have hcnt : e.args.count ≤ 1048576 := by have := Trees.pick_count he; omega
        rw [show decide (0 ≤ z ∧ z < (f.args.length : Int)) = true by simpa using hin] at H
        obtain ⟨zn, rfl⟩ : ∃ zn : Nat, z = zn := ⟨z.toNat, by omega⟩
        rw [Int.toNat_natCast] at h1 h2 h3 h4
        have hzl : zn < f.args.length := by omega
        have hb1 := hI.out.2.2.1
        have k1 := cell_below h1 hb1
        have k2 := cell_below h2 hb1
        have k3 := cell_below h3 hb1
        have k4 := cell_below h4 hb1
        have HX5 := Lib.hid hx5
        have HL5 := Lib.hid hl5
        have HCN := Lib.hid hcnt
        have hcp := hI.out.2.2.2.2.2
        clear hst hno hin he h1 h2 h3 h4 hx5 hl5 hcnt hb1 hal2
        go_wp2
        go_region_held3 (fun w' => w'.cell? (y.add j) = some (.int .i64 zn) ∧ w'.cell? ⟨w.heap.size, 3, none⟩ = some (.slice (some y2) f.args.length c2))
          (first
            | go_keep)
          (first
            | (go_at_call 40; with_reducible refine H.out.mono ?_; rintro e w1 ⟨rfl, rfl⟩))
        clear H x0 x1 x2 x3 f0 f1 f2 f3
        go_wp2
        go_region
        go_wp2
        go_roundw
        case rel =>
          refine ⟨j + 1, e, q2, cq, by go_num, by omega, HST, (four_set (four_set (four_set (four_set hI.out.1 _).1 _).2.1 _).2.2.1 _).2.2.2, ?_, (((hI.out.2.2.1.drew.drew.setCell (Nat.le_refl _) _).setCell (Nat.le_refl _) _).setCell (Nat.le_refl _) _).setCell (Nat.le_refl _) _, HX5.out, HCN.out, HL5.out⟩
          exact (far_box wr w.heap.size (w.heap.size + 1) _ _ _ _ (by omega)).trans hI.out.2.1
        case measure => simp [intOf]; omega
      · have hq := hno hin
        subst hq
        rw [show decide (0 ≤ z ∧ z < (f.args.length : Int)) = false by simpa using hin] at H
        clear hst hno hin hal2 hD
        go_wp2
        go_region_held3 (fun w' => w'.cell? (y.add j) = some (.int .i64 z) ∧ w'.cell? ⟨w.heap.size, 3, none⟩ = some (.slice p2 f.args.length c2))
          (first
            | go_keep)
          (first
            | (go_at_call 40; with_reducible refine H.out.mono ?_; rintro e w1 ⟨rfl, rfl⟩))
        go_wp2
        refine bodyPost_ret (results_row_one rfl _ _ (w.heap.size + 1) _ _ _ _ rfl (four_set (four_set (four_set (four_set hI.out.2.1 _).1 _).2.1 _).2.2.1 _).2.2.2 Tryd.underlying26 rfl (by kernel_rfl)) rfl ?_
        exact AtEnd.zero rfl ((((hI.out.2.2.1.drew.setCell (by show _ ≤ w.heap.size + 1; omega) _).setCell (by show _ ≤ w.heap.size + 1; omega) _).setCell (by show _ ≤ w.heap.size + 1; omega) _).setCell (by show _ ≤ w.heap.size + 1; omega) _)
    · obtain rfl : j = m := by omega
      have hq := hD.out
      rw [at_end f zs j (by rw [HN.out]; exact Nat.le_refl _)] at hq
      have HQ := Lib.hid hq
      have HC := Lib.hid (l4Copy_any f.args hI.out.2.2.2.2.1 wr f.k f.n f.t p2 c2 (hI.out.2.2.2.1.below hI.out.2.2.1))
      clear hD hq
      go_wp2_with fail
      refine HC.out.mono ?_
      rintro e w1 ⟨⟨v, bs, rfl, ho, hnd, hfr⟩, hb1⟩
      obtain ⟨p3, c3, rfl, _, _⟩ := ho.reads
      have hr1 := hI.out.2.1.below hb1
      have HR1 := Lib.hid hr1
      have HO := Lib.hid ho
      have HND := Lib.hid hnd
      have HFR := Lib.hid hfr
      have hws := hI.out.2.2.1.size
      have hlt2 : w.heap.size + 1 < wr.heap.size := (Array.getElem?_eq_some_iff.1 hI.out.2.1).1
      have HLT := Lib.hid hlt2
      have HB1 : Hid (Below w.heap.size w w1) := hI.out.2.2.1.trans (hb1.mono hI.out.2.2.1.size)
      clear v0 v1 v2 v3 g0 g1 g2 g3 x0 x1 x2 x3 f0 f1 f2 f3 ho hnd hfr hb1 HC hws hlt2
      obtain ⟨x0, x1, x2, x3, f0, f1, f2, f3⟩ := four_cells hr1
      clear hr1
      go_wp2
      refine bodyPost_ret (results_row_one rfl _ _ (w.heap.size + 1) _ _ _ _ rfl (four_set (four_set (four_set (four_set HR1.out _).1 _).2.1 _).2.2.1 _).2.2.2 Tryd.underlying26 rfl (by kernel_rfl)) rfl ?_
      rw [← HQ.out]
      refine ⟨⟨_, bs, rfl, HO.out.keep (fun b hb => ?_), HND.out, fun b hb => ?_⟩, (((HB1.out.setCell (by show _ ≤ w.heap.size + 1; omega) _).setCell (by show _ ≤ w.heap.size + 1; omega) _).setCell (by show _ ≤ w.heap.size + 1; omega) _).setCell (by show _ ≤ w.heap.size + 1; omega) _⟩
      · have := HFR.out b hb
        have := HLT.out
        rw [Below.heap_setCell _ _ _ _ (by show b ≠ w.heap.size + 1; omega), Below.heap_setCell _ _ _ _ (by show b ≠ w.heap.size + 1; omega), Below.heap_setCell _ _ _ _ (by show b ≠ w.heap.size + 1; omega), Below.heap_setCell _ _ _ _ (by show b ≠ w.heap.size + 1; omega)]
      · have := HFR.out b hb
        have := HLT.out
        exact ⟨by omega, by simpa [World.setCell] using (HFR.out b hb).2⟩
end Go.Proofs.YtcalgjggmgnofaaDoor
