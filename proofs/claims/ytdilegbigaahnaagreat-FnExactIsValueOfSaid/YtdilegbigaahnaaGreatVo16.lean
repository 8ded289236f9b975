/- What is proved here: a piece of the proof of YtdilegbigaahnaaGreatExactIsValueOf (SigMark, Small, Sizes, SigSize). Condition: none beyond what each part says. -/
import Derived.Test.YtdilegbigaahnaaGreatVo15
import Derived.Test.YtdilegbigaahnaaGreatVo10
import Derived.Test.YtdilegbigaahnaaGreatVo03
import Derived.Test.YtdilegbigaahnaaGreatVo01

/- What is proved here: the laws' marks on a signature in memory of its own (markConS, markTypeDeclS and so on). Conditions: small numbers. -/
section
namespace Go.Proofs.YtdilegbigaahnaaGreat
open Go.RowKit

def ConD.count (c : ConD) : Nat := 1 + c.args.length
def ConD.marked (k : Nat) (c : ConD) : ConD := ⟨mt k, marks (k + 1) c.args.length⟩
def TypeD.count (t : TypeD) : Nat := 1 + sumBy ConD.count t.cons
def TypeD.marked (k : Nat) (t : TypeD) : TypeD := ⟨mt k, markedList ConD.marked ConD.count (k + 1) t.cons⟩

set_option maxRecDepth 100000 in
theorem markStringS_own (F : Nat → Prop) (w : World) (v : Value) (k : Nat) (xs : List ByteArray) (hO : OwnS F w v xs) (hk : 1 ≤ k) (hm : xs.length ≤ 1048576) (hk2 : k ≤ 4194304) :
    Calls Tryz.prog 89 #[v, .int .i64 (k : Int)] w fun e w' =>
      e = .returned (.int .i64 ((k + xs.length : Nat) : Int)) ∧ OwnS F w' v (marks k xs.length) ∧ Only F w w' := by
  obtain ⟨a, cap, rfl, h0 | ⟨g, rest, rfl, hg, hb⟩⟩ := hO
  · subst h0
    have hO2 : OwnS F w (.slice a 0 cap) (marks k 0) := ⟨a, cap, rfl, .inl rfl⟩
    have HO2 := Lib.hid hO2
    clear hO2
    show Calls Tryz.prog 89 #[.slice a 0 cap, .int .i64 (k : Int)] w _
    go_enter Tryz.func89, Tryz.ntmps89
    go_wp2
    go_loopw [1, 5] (fun q i wr => q = .int .i64 k ∧ i = .int .i64 0 ∧ wr = w) (fun _ _ _ => 0)
    case atStart => exact ⟨rfl, rfl, rfl⟩
    case round =>
      obtain ⟨rfl, rfl, rfl⟩ := hrel
      go_wp2
      go_ret
      exact ⟨rfl, HO2.out, Only.refl _ _⟩
  · refine (markB_any w g cap k xs rest hb (by omega) hk hk2).mono ?_
    rintro e w' ⟨rfl, h1, h2⟩
    refine ⟨rfl, ⟨_, cap, by rw [marks_length], .inr ⟨g, rest, rfl, hg, h1⟩⟩, (Only.of_grown h2).wider ?_⟩
    rintro b rfl
    exact hg

set_option maxHeartbeats 1000000 in
set_option maxRecDepth 100000 in
theorem markConS_own (F : Nat → Prop) (w : World) (v : Value) (k : Nat) (cs : List ConD) (hO : Own2 73 OwnCon F w v cs) (hF : ∀ b, F b → b < w.heap.size) (hk : 1 ≤ k) (hm : cs.length ≤ 1048576) (hs : ∀ c ∈ cs, c.args.length ≤ 1048576) (hk2 : k + sumBy ConD.count cs ≤ 2097152) :
    Calls Tryz.prog 66 #[v, .int .i64 (k : Int)] w fun e w' =>
      e = .returned (.int .i64 ((k + sumBy ConD.count cs : Nat) : Int)) ∧ Own2 73 OwnCon F w' v (markedList ConD.marked ConD.count k cs) ∧ Only F w w' := by
  have HS := Lib.hid hs
  clear hs
  obtain ⟨a, cap, rfl, h0 | ⟨g, ps, rest, G, rfl, hg, hl, hp, hP⟩⟩ := hO
  · subst h0
    have hO2 : Own2 73 OwnCon F w (.slice a 0 cap) (markedList ConD.marked ConD.count k []) := ⟨a, cap, rfl, .inl rfl⟩
    have HO2 := Lib.hid hO2
    clear hO2
    show Calls Tryz.prog 66 #[.slice a 0 cap, .int .i64 (k : Int)] w _
    have hz : k + sumBy ConD.count [] = k := by simp [sumBy]
    rw [hz]
    go_enter Tryz.func66, Tryz.ntmps66
    go_wp2
    go_loopw [1, 5] (fun q i wr => q = .int .i64 k ∧ i = .int .i64 0 ∧ wr = w) (fun _ _ _ => 0)
    case atStart => exact ⟨rfl, rfl, rfl⟩
    case round =>
      obtain ⟨rfl, rfl, rfl⟩ := hrel
      go_wp2
      go_ret
      exact ⟨rfl, HO2.out, Only.refl _ _⟩
  · have hR : RowOf 73 OwnCon F g G w (mixed ConD.marked ConD.count k cs 0) := by
      rw [mixed_zero]
      exact ⟨ps, rest, hl, hp, hP⟩
    have HR := Lib.hid hR
    have HF := Lib.hid hF
    have HG := Lib.hid hg
    clear hl hp hP hR hF hg ps
    generalize hn : cs.length = n at *
    have HN := Lib.hid hn
    clear hn
    go_enter Tryz.func66, Tryz.ntmps66
    go_wp2
    go_loopw [1, 5] (fun q i wr => ∃ j : Nat, j ≤ n ∧ i = .int .i64 j ∧ q = .int .i64 ((k + sumBy ConD.count (cs.take j) : Nat) : Int) ∧ Hid (RowOf 73 OwnCon F g G wr (mixed ConD.marked ConD.count k cs j)) ∧ Hid (Only F w wr)) (fun _ i _ => n - (intOf i).toNat)
    case atStart => exact ⟨0, Nat.zero_le _, rfl, by simp [sumBy], HR, Only.refl _ _⟩
    case round =>
      obtain ⟨j, hj, rfl, rfl, hR, hO⟩ := hrel
      by_cases hlt2 : j < n
      · have hj2 : j < cs.length := by rw [HN.out]; exact hlt2
        have hx : cs[j]? = some cs[j] := List.getElem?_eq_getElem hj2
        have hcl := HS.out _ (List.getElem_mem hj2)
        have hsl := sumBy_take ConD.count cs j hj2
        have hsle := sumBy_take_le ConD.count cs (j + 1)
        generalize cs[j] = c at hx hcl hsl
        have hme : (mixed ConD.marked ConD.count k cs j)[j]? = some c := by rw [mixed_at _ _ _ _ _ (by omega)]; exact hx
        have hFr : ∀ b, F b → b < wr.heap.size := fun b hb => Nat.lt_of_lt_of_le (HF.out b hb) hO.out.size
        obtain ⟨u, v, c1, c2, c3, hE, hGF, hgl, hnext⟩ := RowOf.part keeps_con hR.out hFr hme
        have hmx := mixed_set ConD.marked ConD.count k cs j c hx
        have hcc : c.count = 1 + c.args.length := rfl
        generalize hkk : k + sumBy ConD.count (cs.take j) = kk at *
        have hkk1 : 1 ≤ kk := by omega
        have hkk2 : kk + 1 + c.args.length ≤ 2097152 := by omega
        have HKK : Hid (k + sumBy ConD.count (cs.take (j + 1)) = kk + 1 + c.args.length) := by unfold Hid; omega
        have HMX := Lib.hid hmx
        have HNX := Lib.hid hnext
        have HE := Lib.hid hE
        have HGF := Lib.hid hGF
        clear hx hme hmx hnext hE hGF hsl hsle hkk hcc HS hFr
        go_wp2_with fail
        refine (markText_any kk (by omega) (by omega) _).mono ?_
        rintro e w1 ⟨rfl, hb1⟩
        have d1 := cell_below c1 hb1
        have d2 := cell_below c2 hb1
        have d3 : w1.frozen? ⟨g, j * 2, none⟩ = false := by rw [← c3]; exact World.frozen?_of_block (w := wr) (hb1.block g hgl)
        have d4 : (w1.setCell ⟨g, j * 2, none⟩ (.string (mt kk))).cell? ⟨g, j * 2 + 1, none⟩ = some v := by
          rw [World.cell?_setCell_other _ _ _ _ (by simp)]
          exact d2
        have HB1 := Lib.hid hb1
        have hO1 : OwnS (G j) (w1.setCell ⟨g, j * 2, none⟩ (.string (mt kk))) v c.args := by
          refine HE.out.2.keep (fun b hb => ?_)
          obtain ⟨f1, f2⟩ := HGF.out b hb
          rw [Below.heap_setCell _ _ _ _ f2, hb1.block b (Nat.lt_of_lt_of_le (HF.out b f1) hO.out.size)]
        obtain ⟨a2, cap2, rfl, hO2⟩ := hO1
        have HO2 : Hid (OwnS (G j) (w1.setCell ⟨g, j * 2, none⟩ (.string (mt kk))) (.slice a2 c.args.length cap2) c.args) := ⟨a2, cap2, rfl, hO2⟩
        have HOW : Hid (Only F w (w1.setCell ⟨g, j * 2, none⟩ (.string (mt kk)))) := (hO.out.trans (Only.of_below hb1)).trans (Only.setCell (p := ⟨g, j * 2, none⟩) HG.out _)
        clear hb1 c1 c2 c3 d2 hO2
        go_wp2_with fail
        generalize hw2 : w1.setCell ⟨g, j * 2, none⟩ (.string (mt kk)) = w2 at *
        have HW2 := Lib.hid hw2
        clear hw2
        refine (markStringS_own (G j) w2 (.slice a2 c.args.length cap2) (kk + 1) c.args HO2.out (by omega) hcl (by omega)).mono ?_
        rintro e w3 ⟨rfl, ho3, honly⟩
        have HR3 : Hid (RowOf 73 OwnCon F g G w3 (mixed ConD.marked ConD.count k cs (j + 1))) := by
          unfold Hid
          rw [← HMX.out]
          refine HNX.out w1 w3 (.string (mt kk)) _ HB1.out (by rw [HW2.out]; exact honly) ⟨rfl, ?_⟩
          exact ho3
        have HO3 : Hid (Only F w w3) := HOW.out.trans (honly.wider (fun b hb => (HGF.out b hb).1))
        clear ho3 honly
        go_wp2
        go_roundw
        case rel => exact ⟨j + 1, by omega, by go_num, by rw [HKK.out]; go_num, HR3, HO3⟩
        case measure => simp [intOf]; omega
      · obtain rfl : j = n := by omega
        have hz : sumBy ConD.count (cs.take j) = sumBy ConD.count cs := by rw [List.take_of_length_le (by rw [HN.out]; exact Nat.le_refl _)]
        rw [hz]
        have hR2 := hR.out
        rw [← HN.out, mixed_all] at hR2
        have HR2 : Hid (Own2 73 OwnCon F wr (.slice (some ⟨g, 0, none⟩) j cap) (markedList ConD.marked ConD.count k cs)) := by
          obtain ⟨ps2, rest2, r1, r2, r3⟩ := hR2
          exact ⟨_, cap, by rw [markedList_length, HN.out], .inr ⟨g, ps2, rest2, G, rfl, HG.out, r1, r2, r3⟩⟩
        clear hR2 hz
        go_wp2
        go_ret
        exact ⟨rfl, HR2.out, hO.out⟩

set_option maxHeartbeats 1000000 in
set_option maxRecDepth 100000 in
theorem markTypeDeclS_own (F : Nat → Prop) (w : World) (v : Value) (k : Nat) (cs : List TypeD) (hO : Own2 71 OwnType F w v cs) (hF : ∀ b, F b → b < w.heap.size) (hk : 1 ≤ k) (hm : cs.length ≤ 1048576) (hs : ∀ c ∈ cs, c.cons.length ≤ 1048576 ∧ ∀ d ∈ c.cons, d.args.length ≤ 1048576) (hk2 : k + sumBy TypeD.count cs ≤ 2097152) :
    Calls Tryz.prog 35 #[v, .int .i64 (k : Int)] w fun e w' =>
      e = .returned (.int .i64 ((k + sumBy TypeD.count cs : Nat) : Int)) ∧ Own2 71 OwnType F w' v (markedList TypeD.marked TypeD.count k cs) ∧ Only F w w' := by
  have HS := Lib.hid hs
  clear hs
  obtain ⟨a, cap, rfl, h0 | ⟨g, ps, rest, G, rfl, hg, hl, hp, hP⟩⟩ := hO
  · subst h0
    have hO2 : Own2 71 OwnType F w (.slice a 0 cap) (markedList TypeD.marked TypeD.count k []) := ⟨a, cap, rfl, .inl rfl⟩
    have HO2 := Lib.hid hO2
    clear hO2
    show Calls Tryz.prog 35 #[.slice a 0 cap, .int .i64 (k : Int)] w _
    have hz : k + sumBy TypeD.count [] = k := by simp [sumBy]
    rw [hz]
    go_enter Tryz.func35, Tryz.ntmps35
    go_wp2
    go_loopw [1, 5] (fun q i wr => q = .int .i64 k ∧ i = .int .i64 0 ∧ wr = w) (fun _ _ _ => 0)
    case atStart => exact ⟨rfl, rfl, rfl⟩
    case round =>
      obtain ⟨rfl, rfl, rfl⟩ := hrel
      go_wp2
      go_ret
      exact ⟨rfl, HO2.out, Only.refl _ _⟩
  · have hR : RowOf 71 OwnType F g G w (mixed TypeD.marked TypeD.count k cs 0) := by
      rw [mixed_zero]
      exact ⟨ps, rest, hl, hp, hP⟩
    have HR := Lib.hid hR
    have HF := Lib.hid hF
    have HG := Lib.hid hg
    clear hl hp hP hR hF hg ps
    generalize hn : cs.length = n at *
    have HN := Lib.hid hn
    clear hn
    go_enter Tryz.func35, Tryz.ntmps35
    go_wp2
    go_loopw [1, 5] (fun q i wr => ∃ j : Nat, j ≤ n ∧ i = .int .i64 j ∧ q = .int .i64 ((k + sumBy TypeD.count (cs.take j) : Nat) : Int) ∧ Hid (RowOf 71 OwnType F g G wr (mixed TypeD.marked TypeD.count k cs j)) ∧ Hid (Only F w wr)) (fun _ i _ => n - (intOf i).toNat)
    case atStart => exact ⟨0, Nat.zero_le _, rfl, by simp [sumBy], HR, Only.refl _ _⟩
    case round =>
      obtain ⟨j, hj, rfl, rfl, hR, hO⟩ := hrel
      by_cases hlt2 : j < n
      · have hj2 : j < cs.length := by rw [HN.out]; exact hlt2
        have hx : cs[j]? = some cs[j] := List.getElem?_eq_getElem hj2
        have hcl := HS.out _ (List.getElem_mem hj2)
        have hsl := sumBy_take TypeD.count cs j hj2
        have hsle := sumBy_take_le TypeD.count cs (j + 1)
        generalize cs[j] = c at hx hcl hsl
        have hme : (mixed TypeD.marked TypeD.count k cs j)[j]? = some c := by rw [mixed_at _ _ _ _ _ (by omega)]; exact hx
        have hFr : ∀ b, F b → b < wr.heap.size := fun b hb => Nat.lt_of_lt_of_le (HF.out b hb) hO.out.size
        obtain ⟨u, v, c1, c2, c3, hE, hGF, hgl, hnext⟩ := RowOf.part keeps_type hR.out hFr hme
        have hmx := mixed_set TypeD.marked TypeD.count k cs j c hx
        have hcc : c.count = 1 + sumBy ConD.count c.cons := rfl
        generalize hkk : k + sumBy TypeD.count (cs.take j) = kk at *
        have hkk1 : 1 ≤ kk := by omega
        have hkk2 : kk + 1 + sumBy ConD.count c.cons ≤ 2097152 := by omega
        have HKK : Hid (k + sumBy TypeD.count (cs.take (j + 1)) = kk + 1 + sumBy ConD.count c.cons) := by unfold Hid; omega
        have HMX := Lib.hid hmx
        have HNX := Lib.hid hnext
        have HE := Lib.hid hE
        have HGF := Lib.hid hGF
        clear hx hme hmx hnext hE hGF hsl hsle hkk hcc HS hFr
        go_wp2_with fail
        refine (markText_any kk (by omega) (by omega) _).mono ?_
        rintro e w1 ⟨rfl, hb1⟩
        have d1 := cell_below c1 hb1
        have d2 := cell_below c2 hb1
        have d3 : w1.frozen? ⟨g, j * 2, none⟩ = false := by rw [← c3]; exact World.frozen?_of_block (w := wr) (hb1.block g hgl)
        have d4 : (w1.setCell ⟨g, j * 2, none⟩ (.string (mt kk))).cell? ⟨g, j * 2 + 1, none⟩ = some v := by
          rw [World.cell?_setCell_other _ _ _ _ (by simp)]
          exact d2
        have HB1 := Lib.hid hb1
        have hO1 : Own2 73 OwnCon (G j) (w1.setCell ⟨g, j * 2, none⟩ (.string (mt kk))) v c.cons := by
          refine HE.out.2.keep keeps_con (fun b hb => ?_)
          obtain ⟨f1, f2⟩ := HGF.out b hb
          rw [Below.heap_setCell _ _ _ _ f2, hb1.block b (Nat.lt_of_lt_of_le (HF.out b f1) hO.out.size)]
        obtain ⟨a2, cap2, rfl, hO2⟩ := hO1
        have HO2 : Hid (Own2 73 OwnCon (G j) (w1.setCell ⟨g, j * 2, none⟩ (.string (mt kk))) (.slice a2 c.cons.length cap2) c.cons) := ⟨a2, cap2, rfl, hO2⟩
        have HOW : Hid (Only F w (w1.setCell ⟨g, j * 2, none⟩ (.string (mt kk)))) := (hO.out.trans (Only.of_below hb1)).trans (Only.setCell (p := ⟨g, j * 2, none⟩) HG.out _)
        have hGF2 : ∀ b, G j b → b < (w1.setCell ⟨g, j * 2, none⟩ (.string (mt kk))).heap.size := fun b hb => by
          have h1 := HF.out b (HGF.out b hb).1
          have h2 := hO.out.size
          have h3 := hb1.size
          simp [World.setCell]
          omega
        clear hb1 c1 c2 c3 d2 hO2
        go_wp2_with fail
        generalize hw2 : w1.setCell ⟨g, j * 2, none⟩ (.string (mt kk)) = w2 at *
        have HW2 := Lib.hid hw2
        clear hw2
        refine (markConS_own (G j) w2 (.slice a2 c.cons.length cap2) (kk + 1) c.cons HO2.out hGF2 (by omega) hcl.1 hcl.2 (by omega)).mono ?_
        rintro e w3 ⟨rfl, ho3, honly⟩
        have HR3 : Hid (RowOf 71 OwnType F g G w3 (mixed TypeD.marked TypeD.count k cs (j + 1))) := by
          unfold Hid
          rw [← HMX.out]
          refine HNX.out w1 w3 (.string (mt kk)) _ HB1.out (by rw [HW2.out]; exact honly) ⟨rfl, ?_⟩
          exact ho3
        have HO3 : Hid (Only F w w3) := HOW.out.trans (honly.wider (fun b hb => (HGF.out b hb).1))
        clear ho3 honly
        go_wp2
        go_roundw
        case rel => exact ⟨j + 1, by omega, by go_num, by rw [HKK.out]; go_num, HR3, HO3⟩
        case measure => simp [intOf]; omega
      · obtain rfl : j = n := by omega
        have hz : sumBy TypeD.count (cs.take j) = sumBy TypeD.count cs := by rw [List.take_of_length_le (by rw [HN.out]; exact Nat.le_refl _)]
        rw [hz]
        have hR2 := hR.out
        rw [← HN.out, mixed_all] at hR2
        have HR2 : Hid (Own2 71 OwnType F wr (.slice (some ⟨g, 0, none⟩) j cap) (markedList TypeD.marked TypeD.count k cs)) := by
          obtain ⟨ps2, rest2, r1, r2, r3⟩ := hR2
          exact ⟨_, cap, by rw [markedList_length, HN.out], .inr ⟨g, ps2, rest2, G, rfl, HG.out, r1, r2, r3⟩⟩
        clear hR2 hz
        go_wp2
        go_ret
        exact ⟨rfl, HR2.out, hO.out⟩

theorem mark_count (cs : List ConD) : sumBy ConD.count cs ≤ cs.length + sumBy ConD.size cs := by
  induction cs with
  | nil => simp [sumBy]
  | cons c r ih =>
    have e1 : sumBy ConD.count (c :: r) = c.count + sumBy ConD.count r := by simp [sumBy]
    have e2 : sumBy ConD.size (c :: r) = c.size + sumBy ConD.size r := by simp [sumBy]
    have e3 : c.count = 1 + c.args.length := rfl
    have e4 : c.size = c.name.size + (c.args.length + total c.args) := rfl
    simp only [List.length_cons]
    omega
theorem mark_count2 (s : List TypeD) : sumBy TypeD.count s ≤ s.length + sumBy TypeD.size s := by
  induction s with
  | nil => simp [sumBy]
  | cons t r ih =>
    have e1 : sumBy TypeD.count (t :: r) = t.count + sumBy TypeD.count r := by simp [sumBy]
    have e2 : sumBy TypeD.size (t :: r) = t.size + sumBy TypeD.size r := by simp [sumBy]
    have e3 : t.count = 1 + sumBy ConD.count t.cons := rfl
    have e4 : t.size = t.name.size + (t.cons.length + sumBy ConD.size t.cons) := rfl
    have e5 := mark_count t.cons
    simp only [List.length_cons]
    omega

set_option maxRecDepth 100000 in
theorem markSig_own (F : Nat → Prop) (w : World) (v : Value) (k : Nat) (s : List TypeD) (hO : OwnSig F w v s) (hF : ∀ b, F b → b < w.heap.size) (hk : 1 ≤ k) (hm : s.length ≤ 1048576) (hs : ∀ c ∈ s, c.cons.length ≤ 1048576 ∧ ∀ d ∈ c.cons, d.args.length ≤ 1048576) (hk2 : k + sumBy TypeD.count s ≤ 2097152) :
    Calls Tryz.prog 15 #[.agg #[v], .int .i64 (k : Int)] w fun e w' => e = .returned (.int .i64 ((k + sumBy TypeD.count s : Nat) : Int)) ∧ Only F w w' := by
  have hb : Below w.heap.size w (w.alloc (.cells #[v] 33)) := (Below.refl _ _).alloc (Nat.le_refl _) _
  have hO1 : OwnSig F (w.alloc (.cells #[v] 33)) v s := hO.keep keeps_type (fun b hbb => hb.block b (hF b hbb))
  have H := markTypeDeclS_own F (w.alloc (.cells #[v] 33)) v k s hO1 (fun b hbb => Nat.lt_of_lt_of_le (hF b hbb) hb.size) hk hm hs hk2
  have HB := Lib.hid hb
  obtain ⟨a, cap, rfl, _⟩ := hO
  clear hb hO1 hF hs
  generalize k + sumBy TypeD.count s = q at *
  go_enter Tryz.func15, Tryz.ntmps15
  go_wp2_with fail
  refine H.mono ?_
  rintro e w1 ⟨rfl, _, ho⟩
  have HO := Lib.hid ho
  clear ho H
  go_wp2
  go_ret
  exact ⟨rfl, (Only.of_below HB.out).trans HO.out⟩
end Go.Proofs.YtdilegbigaahnaaGreat
end

/- What is proved here: a signature that keeps to the laws' bound is small in all its parts; cells that stay; what FindType hands back, in one form. No condition. -/
section
namespace Go.Proofs.YtdilegbigaahnaaGreat
open Go.RowKit

theorem sum_mem {α : Type} (f : α → Nat) (l : List α) (x : α) (hx : x ∈ l) : f x ≤ sumBy f l := by
  induction l with
  | nil => cases hx
  | cons y r ih =>
    have e : sumBy f (y :: r) = f y + sumBy f r := by simp [sumBy]
    rcases List.mem_cons.1 hx with rfl | h
    · omega
    · have := ih h; omega
/-- All lengths are small. -/
def Smalls (s : List TypeD) : Prop := s.length ≤ 1048576 ∧ ∀ c ∈ s, c.cons.length ≤ 1048576 ∧ ∀ d ∈ c.cons, d.args.length ≤ 1048576
def Bigs (s : List TypeD) : Prop := s.length ≤ maxLen ∧ ∀ c ∈ s, c.cons.length ≤ maxLen ∧ ∀ d ∈ c.cons, d.args.length ≤ maxLen
theorem smalls_of {s : List TypeD} (h : sigSize s ≤ 1048576) : Smalls s := by
  unfold sigSize at h
  refine ⟨by omega, fun c hc => ?_⟩
  have h1 := sum_mem TypeD.size s c hc
  have e1 : c.size = c.name.size + (c.cons.length + sumBy ConD.size c.cons) := rfl
  refine ⟨by omega, fun d hd => ?_⟩
  have h2 := sum_mem ConD.size c.cons d hd
  have e2 : d.size = d.name.size + (d.args.length + total d.args) := rfl
  omega
theorem bigs_of {s : List TypeD} (h : Smalls s) : Bigs s := by
  unfold Bigs maxLen
  exact ⟨by have := h.1; omega, fun c hc => ⟨by have := (h.2 c hc).1; omega, fun d hd => by have := (h.2 c hc).2 d hd; omega⟩⟩
theorem count_sig {s : List TypeD} (h : sigSize s ≤ 1048576) : sumBy TypeD.count s ≤ 1048576 := by
  have := mark_count2 s
  unfold sigSize at h
  omega
theorem count_type {s : List TypeD} (h : sigSize s ≤ 1048576) {t : TypeD} (ht : t ∈ s) : sumBy ConD.count t.cons ≤ 1048576 := by
  have h1 := sum_mem TypeD.size s t ht
  have h2 := mark_count t.cons
  have e1 : t.size = t.name.size + (t.cons.length + sumBy ConD.size t.cons) := rfl
  unfold sigSize at h
  omega

theorem cell_only {F : Nat → Prop} {w w' : World} {p : Addr} {v : Value} (h : w.cell? p = some v) (ho : Only F w w') (hn : ¬ F p.block) : w'.cell? p = some v := by
  rw [← h]
  have hlt : p.block < w.heap.size := by
    rcases Nat.lt_or_ge p.block w.heap.size with h1 | h1
    · exact h1
    · simp [World.cell?, Array.getElem?_eq_none h1] at h
  exact World.cell?_of_block (ho.block _ hlt hn)

def noType : TypeD := ⟨⟨#[]⟩, []⟩
/-- What FindType hands back, found or not. -/
def gotType (s : List TypeD) (nm : ByteArray) : TypeD := (theType s nm).getD noType
theorem found_got {w w' : World} {s : List TypeD} {nm : ByteArray} {e : Ending} (h : Found w s nm e w') : (∃ u v, e = .returned (.tuple #[.agg #[u, v], .bool (theType s nm).isSome]) ∧ OwnType (Came w w') w' (gotType s nm) u v) ∧ Below w.heap.size w w' := by
  obtain ⟨hb, ⟨x, u, v, hx, he, ho⟩ | ⟨hx, he⟩⟩ := h
  · exact ⟨⟨u, v, by rw [hx]; exact he, by unfold gotType; rw [hx]; exact ho⟩, hb⟩
  · exact ⟨⟨_, _, by rw [hx]; exact he, by unfold gotType; rw [hx]; exact ⟨rfl, none, 0, rfl, .inl rfl⟩⟩, hb⟩
theorem got_small {s : List TypeD} {nm : ByteArray} (h : sigSize s ≤ 1048576) : (gotType s nm).cons.length ≤ 1048576 ∧ (∀ d ∈ (gotType s nm).cons, d.args.length ≤ 1048576) ∧ sumBy ConD.count (gotType s nm).cons ≤ 1048576 := by
  unfold gotType
  cases hx : theType s nm with
  | none =>
    refine ⟨by simp [noType], fun d hd => absurd hd (by simp [noType]), by simp [noType, sumBy]⟩
  | some x =>
    have hm : x ∈ s := List.mem_of_find?_eq_some hx
    exact ⟨((smalls_of h).2 x hm).1, ((smalls_of h).2 x hm).2, count_type h hm⟩
end Go.Proofs.YtdilegbigaahnaaGreat
end

/- What is proved here: the laws' bound on a list of texts (szStringS), from any number of places on. Condition: the slice reads as the list. -/
section
namespace Go.Proofs.YtdilegbigaahnaaGreat
open Go.RowKit

/-- What szStringS returns, from L on. -/
def szFrom (L : Nat) (xs : List ByteArray) : Int := if xs.length + total xs ≤ L then (L : Int) - (xs.length : Int) - (total xs : Int) else -1

set_option maxHeartbeats 1000000 in
set_option maxRecDepth 100000 in
theorem sz_from (L : Nat) (hL : L ≤ 1048576) (w : World) (a : Option Addr) (cap : Nat) (xs : List ByteArray) (hx : Reads w a xs) (hm : xs.length ≤ maxLen) (hs : ∀ x ∈ xs, x.size ≤ maxLen) :
    Calls Tryz.prog 107 #[.slice a xs.length cap, .int .i64 (L : Int)] w fun e w' => e = .returned (.int .i64 (szFrom L xs)) ∧ w = w' := by
  unfold maxLen at hm hs
  have HX := Lib.hid hx
  have HS := Lib.hid hs
  clear hx hs
  generalize hn : xs.length = n at *
  have HN := Lib.hid hn
  clear hn
  by_cases h0 : L < n
  · have HE : Hid (szFrom L xs = -1) := by unfold Hid szFrom; rw [HN.out]; exact if_neg (by omega)
    go_enter Tryz.func107, Tryz.ntmps107
    go_wp2
    go_ret
    exact ⟨by rw [HE.out]; rfl, rfl⟩
  · go_enter Tryz.func107, Tryz.ntmps107
    go_wp2
    go_loop [1, 5] (fun l i => ∃ (k : Nat) (m : Int), k ≤ n ∧ i = .int .i64 k ∧ l = .int .i64 m ∧ 0 ≤ m ∧ m ≤ 1048576 ∧ m = (L : Int) - (n : Int) - (total (xs.take k) : Int)) (fun _ i => n - (intOf i).toNat)
    case atStart =>
      exact ⟨0, (L : Int) - (n : Int), Nat.zero_le _, rfl, rfl, by omega, by omega, by simp [total]⟩
    case round =>
      obtain ⟨k, m, hk, rfl, rfl, m0, m1, hm2⟩ := hrel
      by_cases hlt : k < n
      · obtain ⟨y, rfl, hc⟩ := HX.out k (by rw [HN.out]; exact hlt)
        have ht := total_take xs k (by rw [HN.out]; exact hlt)
        have hle := total_take_le xs (k + 1)
        have hsz := HS.out _ (List.getElem_mem (l := xs) (n := k) (by rw [HN.out]; exact hlt))
        generalize xs[k]'(by rw [HN.out]; exact hlt) = x at hc ht hsz
        have HT := Lib.hid ht
        have HM := Lib.hid hm2
        clear ht hm2
        by_cases hbad : m - (x.size : Int) < 0
        · have HE : Hid (szFrom L xs = -1) := by
            have := HT.out
            have := HM.out
            unfold Hid szFrom; rw [HN.out]; exact if_neg (by omega)
          go_wp2
          go_ret
          exact ⟨by rw [HE.out]; rfl, rfl⟩
        · go_wp2
          go_round
          case rel =>
            have := HT.out
            have := HM.out
            exact ⟨k + 1, m - x.size, by omega, by go_num, rfl, by omega, by omega, by omega⟩
          case measure => simp [intOf]; omega
      · obtain rfl : k = n := by omega
        have HE : Hid (szFrom L xs = m) := by
          have e : xs.take k = xs := List.take_of_length_le (by rw [HN.out]; exact Nat.le_refl _)
          rw [e] at hm2
          unfold Hid szFrom; rw [HN.out, if_pos (by omega)]; omega
        clear hm2
        go_wp2
        go_ret
        exact ⟨by rw [HE.out]; rfl, rfl⟩
end Go.Proofs.YtdilegbigaahnaaGreat
end

/- What is proved here: the laws' bound on a signature (szSignature and what it calls) counts its size. Condition: the signature lies in memory as said. -/
section
namespace Go.Proofs.YtdilegbigaahnaaGreat
open Go.RowKit

theorem szFrom_left (L : Nat) (xs : List ByteArray) : szFrom L xs = left L (xs.length + total xs) := by
  unfold szFrom left
  split <;> omega
theorem szStringS_any (L : Nat) (hL : L ≤ 1048576) (w : World) (a : Option Addr) (cap : Nat) (xs : List ByteArray) (hx : Reads w a xs) (hm : xs.length ≤ maxLen) (hs : ∀ x ∈ xs, x.size ≤ maxLen) :
    Calls Tryz.prog 107 #[.slice a xs.length cap, .int .i64 (L : Int)] w fun e w' => e = .returned (.int .i64 (left L (xs.length + total xs))) ∧ Below w.heap.size w w' := by
  refine (sz_from L hL w a cap xs hx hm hs).mono ?_
  rintro e w1 ⟨rfl, rfl⟩
  exact ⟨by rw [szFrom_left], Below.refl _ _⟩

set_option maxHeartbeats 1000000 in
set_option maxRecDepth 100000 in
theorem szCon_any (L : Nat) (hL : L ≤ 1048576) (w : World) (c : ConD) (u v : Value) (hx : ConAt w c u v) (hf : c.fits) :
    Calls Tryz.prog 90 #[.agg #[u, v], .int .i64 (L : Int)] w fun e w' => e = .returned (.int .i64 (left L c.size)) ∧ Below w.heap.size w w' := by
  obtain ⟨a, cap, rfl, rfl, hr⟩ := hx
  obtain ⟨h1, h2, h3⟩ := hf
  have H := fun M hM w hr => szStringS_any M hM w a cap c.args hr h2 h3
  have HR := Lib.hid hr
  clear hr h3
  unfold maxLen at h1 h2
  generalize hN : c.args.length + total c.args = N at H
  have hc : left L c.size = if c.name.size ≤ L then left (L - c.name.size) N else -1 := by unfold left ConD.size; subst hN; split <;> split <;> (try split) <;> omega
  generalize left L c.size = z at hc ⊢
  clear hN
  by_cases hn : c.name.size ≤ L
  · rw [if_pos hn] at hc
    have H1 := H (L - c.name.size) (by omega)
    have hMb : L - c.name.size ≤ 1048576 := by omega
    clear H
    have hM2 : (L : Int) - (c.name.size : Int) = ((L - c.name.size : Nat) : Int) := by omega
    generalize L - c.name.size = M at *
    have HZ := Lib.hid hc
    have HL := Lib.hid hL
    clear hc hL
    have hb : Below w.heap.size w (w.alloc (.cells #[.string c.name, .slice a c.args.length cap] 126)) := (Below.refl _ _).alloc (Nat.le_refl _) _
    have HB := Lib.hid hb
    clear hb
    by_cases hN : N ≤ M
    · rw [left_yes hN] at H1
      have HZ : Hid (z = ((M - N : Nat) : Int)) := by unfold Hid; rw [HZ.out, left_yes hN]
      have hqb : M - N ≤ 1048576 := by omega
      generalize M - N = q at *
      clear hN
      go_enter Tryz.func90, Tryz.ntmps90
      go_wp2_with fail
      refine (H1 _ (reads_below HR.out HB.out)).mono ?_
      rintro e w1 ⟨rfl, hb1⟩
      have HB1 : Hid (Below w.heap.size w w1) := HB.out.trans (hb1.mono HB.out.size)
      clear hb1 H1
      go_wp2
      go_ret
      exact ⟨by rw [HZ.out]; rfl, HB1.out⟩
    · rw [left_no hN] at H1
      have HZ : Hid (z = -1) := by unfold Hid; rw [HZ.out, left_no hN]
      clear hN
      go_enter Tryz.func90, Tryz.ntmps90
      go_wp2_with fail
      refine (H1 _ (reads_below HR.out HB.out)).mono ?_
      rintro e w1 ⟨rfl, hb1⟩
      have HB1 : Hid (Below w.heap.size w w1) := HB.out.trans (hb1.mono HB.out.size)
      clear hb1 H1
      go_wp2
      go_ret
      exact ⟨by rw [HZ.out]; rfl, HB1.out⟩
  · rw [if_neg hn] at hc
    subst hc
    have hM2 : (L : Int) - (c.name.size : Int) < 0 := by omega
    clear H
    have hb : Below w.heap.size w (w.alloc (.cells #[.string c.name, .slice a c.args.length cap] 126)) := (Below.refl _ _).alloc (Nat.le_refl _) _
    have HB := Lib.hid hb
    clear hb
    go_enter Tryz.func90, Tryz.ntmps90
    go_wp2
    go_ret
    exact ⟨rfl, HB.out⟩

set_option maxHeartbeats 1000000 in
set_option maxRecDepth 100000 in
theorem szConS_any (L : Nat) (hL : L ≤ 1048576) (w : World) (a : Option Addr) (cap : Nat) (cs : List ConD) (hx : Row2 ConAt w a cs) (hm : cs.length ≤ maxLen) (hs : ∀ c ∈ cs, c.fits) :
    Calls Tryz.prog 67 #[.slice a cs.length cap, .int .i64 (L : Int)] w fun e w' => e = .returned (.int .i64 (left L (cs.length + sumBy ConD.size cs))) ∧ Below w.heap.size w w' := by
  unfold maxLen at hm
  have HX := Lib.hid hx
  have HS := Lib.hid hs
  clear hx hs
  generalize hz : left L (cs.length + sumBy ConD.size cs) = z
  have HZ := Lib.hid hz
  clear hz
  generalize hn : cs.length = n at *
  have HN := Lib.hid hn
  clear hn
  by_cases h0 : L < n
  · have HE : Hid (z = -1) := by unfold Hid; rw [← HZ.out]; exact left_no (by omega)
    go_enter Tryz.func67, Tryz.ntmps67
    go_wp2
    go_ret
    exact ⟨by rw [HE.out]; rfl, Below.refl _ _⟩
  · have hLn : (L : Int) - (n : Int) = ((L - n : Nat) : Int) := by omega
    have hln0 : n + (L - n) = L := by omega
    generalize L - n = M at *
    go_enter Tryz.func67, Tryz.ntmps67
    go_wp2
    go_loopw [1, 5] (fun l i wr => ∃ (k m : Nat), k ≤ n ∧ i = .int .i64 k ∧ l = .int .i64 m ∧ Hid (n + (m + sumBy ConD.size (cs.take k)) = L) ∧ Hid (Below w.heap.size w wr)) (fun _ i _ => n - (intOf i).toNat)
    case atStart => exact ⟨0, M, Nat.zero_le _, rfl, rfl, by unfold Hid; simp [sumBy]; omega, Below.refl _ _⟩
    case round =>
      obtain ⟨k, m, hk, rfl, rfl, hm2, hB⟩ := hrel
      have hmL : m ≤ 1048576 := by have := hm2.out; omega
      by_cases hlt : k < n
      · have hk' : k < cs.length := by rw [HN.out]; exact hlt
        obtain ⟨y, u, v, rfl, hc0, hc1, hr⟩ := row2_below con_below HX.out hB.out k hk'
        have H := szCon_any m hmL wr cs[k] u v hr (HS.out _ (List.getElem_mem hk'))
        have ht := sumBy_take ConD.size cs k hk'
        have hle := sumBy_take_le ConD.size cs (k + 1)
        generalize cs[k].size = s at *
        have HT := Lib.hid ht
        have HLE := Lib.hid hle
        clear hr ht hle
        by_cases hbad : s ≤ m
        · rw [left_yes hbad] at H
          have hq : s + (m - s) = m := by omega
          generalize m - s = q at *
          have HQ := Lib.hid hq
          clear hq
          go_wp2_with fail
          refine H.mono ?_
          rintro e w1 ⟨rfl, hb1⟩
          have HB1 : Hid (Below w.heap.size w w1) := hB.out.trans (hb1.mono hB.out.size)
          clear hb1 H
          go_wp2
          go_roundw
          case rel =>
            have := HT.out
            have := HQ.out
            have := hm2.out
            exact ⟨k + 1, q, by omega, by go_num, rfl, by unfold Hid; omega, HB1⟩
          case measure => simp [intOf]; omega
        · rw [left_no hbad] at H
          have HE : Hid (z = -1) := by
            have := HT.out
            have := HLE.out
            have := hm2.out
            unfold Hid
            rw [← HZ.out]
            exact left_no (by omega)
          clear hbad
          go_wp2_with fail
          refine H.mono ?_
          rintro e w1 ⟨rfl, hb1⟩
          have HB1 : Hid (Below w.heap.size w w1) := hB.out.trans (hb1.mono hB.out.size)
          clear hb1 H
          go_wp2
          go_ret
          exact ⟨by rw [HE.out]; rfl, HB1.out⟩
      · obtain rfl : k = n := by omega
        have HE : Hid (z = m) := by
          have e : cs.take k = cs := List.take_of_length_le (by rw [HN.out]; exact Nat.le_refl _)
          have h2 := hm2.out
          rw [e] at h2
          unfold Hid
          rw [← HZ.out, left_yes (by omega)]
          omega
        go_wp2
        go_ret
        exact ⟨by rw [HE.out]; rfl, hB.out⟩

set_option maxHeartbeats 1000000 in
set_option maxRecDepth 100000 in
theorem szTypeDecl_any (L : Nat) (hL : L ≤ 1048576) (w : World) (c : TypeD) (u v : Value) (hx : TypeAt w c u v) (hf : c.fits) :
    Calls Tryz.prog 38 #[.agg #[u, v], .int .i64 (L : Int)] w fun e w' => e = .returned (.int .i64 (left L c.size)) ∧ Below w.heap.size w w' := by
  obtain ⟨a, cap, rfl, rfl, hr⟩ := hx
  obtain ⟨h1, h2, h3⟩ := hf
  have H := fun M hM w hr => szConS_any M hM w a cap c.cons hr h2 h3
  have HR := Lib.hid hr
  clear hr h3
  unfold maxLen at h1 h2
  generalize hN : c.cons.length + sumBy ConD.size c.cons = N at H
  have hc : left L c.size = if c.name.size ≤ L then left (L - c.name.size) N else -1 := by unfold left TypeD.size; subst hN; split <;> split <;> (try split) <;> omega
  generalize left L c.size = z at hc ⊢
  clear hN
  by_cases hn : c.name.size ≤ L
  · rw [if_pos hn] at hc
    have H1 := H (L - c.name.size) (by omega)
    have hMb : L - c.name.size ≤ 1048576 := by omega
    clear H
    have hM2 : (L : Int) - (c.name.size : Int) = ((L - c.name.size : Nat) : Int) := by omega
    generalize L - c.name.size = M at *
    have HZ := Lib.hid hc
    have HL := Lib.hid hL
    clear hc hL
    have hb : Below w.heap.size w (w.alloc (.cells #[.string c.name, .slice a c.cons.length cap] 66)) := (Below.refl _ _).alloc (Nat.le_refl _) _
    have HB := Lib.hid hb
    clear hb
    by_cases hN : N ≤ M
    · rw [left_yes hN] at H1
      have HZ : Hid (z = ((M - N : Nat) : Int)) := by unfold Hid; rw [HZ.out, left_yes hN]
      have hqb : M - N ≤ 1048576 := by omega
      generalize M - N = q at *
      clear hN
      go_enter Tryz.func38, Tryz.ntmps38
      go_wp2_with fail
      refine (H1 _ (row2_below con_below HR.out HB.out)).mono ?_
      rintro e w1 ⟨rfl, hb1⟩
      have HB1 : Hid (Below w.heap.size w w1) := HB.out.trans (hb1.mono HB.out.size)
      clear hb1 H1
      go_wp2
      go_ret
      exact ⟨by rw [HZ.out]; rfl, HB1.out⟩
    · rw [left_no hN] at H1
      have HZ : Hid (z = -1) := by unfold Hid; rw [HZ.out, left_no hN]
      clear hN
      go_enter Tryz.func38, Tryz.ntmps38
      go_wp2_with fail
      refine (H1 _ (row2_below con_below HR.out HB.out)).mono ?_
      rintro e w1 ⟨rfl, hb1⟩
      have HB1 : Hid (Below w.heap.size w w1) := HB.out.trans (hb1.mono HB.out.size)
      clear hb1 H1
      go_wp2
      go_ret
      exact ⟨by rw [HZ.out]; rfl, HB1.out⟩
  · rw [if_neg hn] at hc
    subst hc
    have hM2 : (L : Int) - (c.name.size : Int) < 0 := by omega
    clear H
    have hb : Below w.heap.size w (w.alloc (.cells #[.string c.name, .slice a c.cons.length cap] 66)) := (Below.refl _ _).alloc (Nat.le_refl _) _
    have HB := Lib.hid hb
    clear hb
    go_enter Tryz.func38, Tryz.ntmps38
    go_wp2
    go_ret
    exact ⟨rfl, HB.out⟩

set_option maxHeartbeats 1000000 in
set_option maxRecDepth 100000 in
theorem szTypeDeclS_any (L : Nat) (hL : L ≤ 1048576) (w : World) (a : Option Addr) (cap : Nat) (cs : List TypeD) (hx : Row2 TypeAt w a cs) (hm : cs.length ≤ maxLen) (hs : ∀ c ∈ cs, c.fits) :
    Calls Tryz.prog 18 #[.slice a cs.length cap, .int .i64 (L : Int)] w fun e w' => e = .returned (.int .i64 (left L (cs.length + sumBy TypeD.size cs))) ∧ Below w.heap.size w w' := by
  unfold maxLen at hm
  have HX := Lib.hid hx
  have HS := Lib.hid hs
  clear hx hs
  generalize hz : left L (cs.length + sumBy TypeD.size cs) = z
  have HZ := Lib.hid hz
  clear hz
  generalize hn : cs.length = n at *
  have HN := Lib.hid hn
  clear hn
  by_cases h0 : L < n
  · have HE : Hid (z = -1) := by unfold Hid; rw [← HZ.out]; exact left_no (by omega)
    go_enter Tryz.func18, Tryz.ntmps18
    go_wp2
    go_ret
    exact ⟨by rw [HE.out]; rfl, Below.refl _ _⟩
  · have hLn : (L : Int) - (n : Int) = ((L - n : Nat) : Int) := by omega
    have hln0 : n + (L - n) = L := by omega
    generalize L - n = M at *
    go_enter Tryz.func18, Tryz.ntmps18
    go_wp2
    go_loopw [1, 5] (fun l i wr => ∃ (k m : Nat), k ≤ n ∧ i = .int .i64 k ∧ l = .int .i64 m ∧ Hid (n + (m + sumBy TypeD.size (cs.take k)) = L) ∧ Hid (Below w.heap.size w wr)) (fun _ i _ => n - (intOf i).toNat)
    case atStart => exact ⟨0, M, Nat.zero_le _, rfl, rfl, by unfold Hid; simp [sumBy]; omega, Below.refl _ _⟩
    case round =>
      obtain ⟨k, m, hk, rfl, rfl, hm2, hB⟩ := hrel
      have hmL : m ≤ 1048576 := by have := hm2.out; omega
      by_cases hlt : k < n
      · have hk' : k < cs.length := by rw [HN.out]; exact hlt
        obtain ⟨y, u, v, rfl, hc0, hc1, hr⟩ := row2_below type_below HX.out hB.out k hk'
        have H := szTypeDecl_any m hmL wr cs[k] u v hr (HS.out _ (List.getElem_mem hk'))
        have ht := sumBy_take TypeD.size cs k hk'
        have hle := sumBy_take_le TypeD.size cs (k + 1)
        generalize cs[k].size = s at *
        have HT := Lib.hid ht
        have HLE := Lib.hid hle
        clear hr ht hle
        by_cases hbad : s ≤ m
        · rw [left_yes hbad] at H
          have hq : s + (m - s) = m := by omega
          generalize m - s = q at *
          have HQ := Lib.hid hq
          clear hq
          go_wp2_with fail
          refine H.mono ?_
          rintro e w1 ⟨rfl, hb1⟩
          have HB1 : Hid (Below w.heap.size w w1) := hB.out.trans (hb1.mono hB.out.size)
          clear hb1 H
          go_wp2
          go_roundw
          case rel =>
            have := HT.out
            have := HQ.out
            have := hm2.out
            exact ⟨k + 1, q, by omega, by go_num, rfl, by unfold Hid; omega, HB1⟩
          case measure => simp [intOf]; omega
        · rw [left_no hbad] at H
          have HE : Hid (z = -1) := by
            have := HT.out
            have := HLE.out
            have := hm2.out
            unfold Hid
            rw [← HZ.out]
            exact left_no (by omega)
          clear hbad
          go_wp2_with fail
          refine H.mono ?_
          rintro e w1 ⟨rfl, hb1⟩
          have HB1 : Hid (Below w.heap.size w w1) := hB.out.trans (hb1.mono hB.out.size)
          clear hb1 H
          go_wp2
          go_ret
          exact ⟨by rw [HE.out]; rfl, HB1.out⟩
      · obtain rfl : k = n := by omega
        have HE : Hid (z = m) := by
          have e : cs.take k = cs := List.take_of_length_le (by rw [HN.out]; exact Nat.le_refl _)
          have h2 := hm2.out
          rw [e] at h2
          unfold Hid
          rw [← HZ.out, left_yes (by omega)]
          omega
        go_wp2
        go_ret
        exact ⟨by rw [HE.out]; rfl, hB.out⟩

set_option maxHeartbeats 1000000 in
set_option maxRecDepth 100000 in
theorem szSig_any (L : Nat) (hL : L ≤ 1048576) (w : World) (a : Option Addr) (cap : Nat) (s : List TypeD) (hx : Row2 TypeAt w a s) (hf : sigFits s) :
    Calls Tryz.prog 5 #[.agg #[.slice a s.length cap], .int .i64 (L : Int)] w fun e w' => e = .returned (.int .i64 (left L (sigSize s))) ∧ Below w.heap.size w w' := by
  have H := fun w hr => szTypeDeclS_any L hL w a cap s hr hf.1 hf.2
  have HX := Lib.hid hx
  clear hx hf
  have hb : Below w.heap.size w (w.alloc (.cells #[.slice a s.length cap] 24)) := (Below.refl _ _).alloc (Nat.le_refl _) _
  have HB := Lib.hid hb
  clear hb
  unfold sigSize
  generalize s.length + sumBy TypeD.size s = N at *
  by_cases hN : N ≤ L
  · rw [left_yes hN] at H ⊢
    generalize L - N = q at *
    clear hN
    go_enter Tryz.func5, Tryz.ntmps5
    go_wp2_with fail
    refine (H _ (row2_below type_below HX.out HB.out)).mono ?_
    rintro e w1 ⟨rfl, hb1⟩
    have HB1 : Hid (Below w.heap.size w w1) := HB.out.trans (hb1.mono HB.out.size)
    clear hb1 H
    go_wp2
    go_ret
    exact ⟨rfl, HB1.out⟩
  · rw [left_no hN] at H ⊢
    clear hN
    go_enter Tryz.func5, Tryz.ntmps5
    go_wp2_with fail
    refine (H _ (row2_below type_below HX.out HB.out)).mono ?_
    rintro e w1 ⟨rfl, hb1⟩
    have HB1 : Hid (Below w.heap.size w w1) := HB.out.trans (hb1.mono HB.out.size)
    clear hb1 H
    go_wp2
    go_ret
    exact ⟨rfl, HB1.out⟩
end Go.Proofs.YtdilegbigaahnaaGreat
end
