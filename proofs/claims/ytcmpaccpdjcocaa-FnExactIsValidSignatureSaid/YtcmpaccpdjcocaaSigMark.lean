/- What is proved here: the laws' marks on a signature in memory of its own (markConS, markTypeDeclS and so on). Conditions: small numbers. -/
import Derived.Test.YtcmpaccpdjcocaaMarked
namespace Go.Proofs.Ytcmpaccpdjcocaa
open Go.RowKit

def ConD.count (c : ConD) : Nat := 1 + c.args.length
def ConD.marked (k : Nat) (c : ConD) : ConD := ⟨mt k, marks (k + 1) c.args.length⟩
def TypeD.count (t : TypeD) : Nat := 1 + sumBy ConD.count t.cons
def TypeD.marked (k : Nat) (t : TypeD) : TypeD := ⟨mt k, markedList ConD.marked ConD.count (k + 1) t.cons⟩

set_option maxRecDepth 100000 in
theorem markStringS_own (F : Nat → Prop) (w : World) (v : Value) (k : Nat) (xs : List ByteArray) (hO : OwnS F w v xs) (hk : 1 ≤ k) (hm : xs.length ≤ 1048576) (hk2 : k ≤ 4194304) :
    Calls Try.prog 37 #[v, .int .i64 (k : Int)] w fun e w' =>
      e = .returned (.int .i64 ((k + xs.length : Nat) : Int)) ∧ OwnS F w' v (marks k xs.length) ∧ Only F w w' := by
  obtain ⟨a, cap, rfl, h0 | ⟨g, rest, rfl, hg, hb⟩⟩ := hO
  · subst h0
    have hO2 : OwnS F w (.slice a 0 cap) (marks k 0) := ⟨a, cap, rfl, .inl rfl⟩
    have HO2 := Lib.hid hO2
    clear hO2
    show Calls Try.prog 37 #[.slice a 0 cap, .int .i64 (k : Int)] w _
    go_enter Try.func37, Try.ntmps37
    go_wp2
    go_loopw [1, 5] (fun q i wr => q = .int .i64 k ∧ i = .int .i64 0 ∧ wr = w) (fun _ _ _ => 0)
    case atStart => exact ⟨rfl, rfl, rfl⟩
    case round =>
      obtain ⟨rfl, rfl, rfl⟩ := hrel
      go_wp2
      go_ret
      exact ⟨rfl, HO2.out, Only.refl _ _⟩
  · refine (markB_any w g cap k xs rest hb (by omega) hk hk2).mono ?_
    rintro e w' ⟨rfl, h1, h2⟩
    refine ⟨rfl, ⟨_, cap, by rw [marks_length], .inr ⟨g, rest, rfl, hg, h1⟩⟩, (Only.of_grown h2).wider ?_⟩
    rintro b rfl
    exact hg

set_option maxHeartbeats 1000000 in
set_option maxRecDepth 100000 in
theorem markConS_own (F : Nat → Prop) (w : World) (v : Value) (k : Nat) (cs : List ConD) (hO : Own2 42 OwnCon F w v cs) (hF : ∀ b, F b → b < w.heap.size) (hk : 1 ≤ k) (hm : cs.length ≤ 1048576) (hs : ∀ c ∈ cs, c.args.length ≤ 1048576) (hk2 : k + sumBy ConD.count cs ≤ 2097152) :
    Calls Try.prog 32 #[v, .int .i64 (k : Int)] w fun e w' =>
      e = .returned (.int .i64 ((k + sumBy ConD.count cs : Nat) : Int)) ∧ Own2 42 OwnCon F w' v (markedList ConD.marked ConD.count k cs) ∧ Only F w w' := by
  have HS := Lib.hid hs
  clear hs
  obtain ⟨a, cap, rfl, h0 | ⟨g, ps, rest, G, rfl, hg, hl, hp, hP⟩⟩ := hO
  · subst h0
    have hO2 : Own2 42 OwnCon F w (.slice a 0 cap) (markedList ConD.marked ConD.count k []) := ⟨a, cap, rfl, .inl rfl⟩
    have HO2 := Lib.hid hO2
    clear hO2
    show Calls Try.prog 32 #[.slice a 0 cap, .int .i64 (k : Int)] w _
    have hz : k + sumBy ConD.count [] = k := by simp [sumBy]
    rw [hz]
    go_enter Try.func32, Try.ntmps32
    go_wp2
    go_loopw [1, 5] (fun q i wr => q = .int .i64 k ∧ i = .int .i64 0 ∧ wr = w) (fun _ _ _ => 0)
    case atStart => exact ⟨rfl, rfl, rfl⟩
    case round =>
      obtain ⟨rfl, rfl, rfl⟩ := hrel
      go_wp2
      go_ret
      exact ⟨rfl, HO2.out, Only.refl _ _⟩
  · have hR : RowOf 42 OwnCon F g G w (mixed ConD.marked ConD.count k cs 0) := by
      rw [mixed_zero]
      exact ⟨ps, rest, hl, hp, hP⟩
    have HR := Lib.hid hR
    have HF := Lib.hid hF
    have HG := Lib.hid hg
    clear hl hp hP hR hF hg ps
    generalize hn : cs.length = n at *
    have HN := Lib.hid hn
    clear hn
    go_enter Try.func32, Try.ntmps32
    go_wp2
    go_loopw [1, 5] (fun q i wr => ∃ j : Nat, j ≤ n ∧ i = .int .i64 j ∧ q = .int .i64 ((k + sumBy ConD.count (cs.take j) : Nat) : Int) ∧ Hid (RowOf 42 OwnCon F g G wr (mixed ConD.marked ConD.count k cs j)) ∧ Hid (Only F w wr)) (fun _ i _ => n - (intOf i).toNat)
    case atStart => exact ⟨0, Nat.zero_le _, rfl, by simp [sumBy], HR, Only.refl _ _⟩
    case round =>
      obtain ⟨j, hj, rfl, rfl, hR, hO⟩ := hrel
      by_cases hlt2 : j < n
      · have hj2 : j < cs.length := by rw [HN.out]; exact hlt2
        have hx : cs[j]? = some cs[j] := List.getElem?_eq_getElem hj2
        have hcl := HS.out _ (List.getElem_mem hj2)
        have hsl := sumBy_take ConD.count cs j hj2
        have hsle := sumBy_take_le ConD.count cs (j + 1)
        generalize cs[j] = c at hx hcl hsl
        have hme : (mixed ConD.marked ConD.count k cs j)[j]? = some c := by rw [mixed_at _ _ _ _ _ (by omega)]; exact hx
        have hFr : ∀ b, F b → b < wr.heap.size := fun b hb => Nat.lt_of_lt_of_le (HF.out b hb) hO.out.size
        obtain ⟨u, v, c1, c2, c3, hE, hGF, hgl, hnext⟩ := RowOf.part keeps_con hR.out hFr hme
        have hmx := mixed_set ConD.marked ConD.count k cs j c hx
        have hcc : c.count = 1 + c.args.length := rfl
        generalize hkk : k + sumBy ConD.count (cs.take j) = kk at *
        have hkk1 : 1 ≤ kk := by omega
        have hkk2 : kk + 1 + c.args.length ≤ 2097152 := by omega
        have HKK : Hid (k + sumBy ConD.count (cs.take (j + 1)) = kk + 1 + c.args.length) := by unfold Hid; omega
        have HMX := Lib.hid hmx
        have HNX := Lib.hid hnext
        have HE := Lib.hid hE
        have HGF := Lib.hid hGF
        clear hx hme hmx hnext hE hGF hsl hsle hkk hcc HS hFr
        go_wp2_with fail
        refine (markText_any kk (by omega) (by omega) _).mono ?_
        rintro e w1 ⟨rfl, hb1⟩
        have d1 := cell_below c1 hb1
        have d2 := cell_below c2 hb1
        have d3 : w1.frozen? ⟨g, j * 2, none⟩ = false := by rw [← c3]; exact World.frozen?_of_block (w := wr) (hb1.block g hgl)
        have d4 : (w1.setCell ⟨g, j * 2, none⟩ (.string (mt kk))).cell? ⟨g, j * 2 + 1, none⟩ = some v := by
          rw [World.cell?_setCell_other _ _ _ _ (by simp)]
          exact d2
        have HB1 := Lib.hid hb1
        have hO1 : OwnS (G j) (w1.setCell ⟨g, j * 2, none⟩ (.string (mt kk))) v c.args := by
          refine HE.out.2.keep (fun b hb => ?_)
          obtain ⟨f1, f2⟩ := HGF.out b hb
          rw [Below.heap_setCell _ _ _ _ f2, hb1.block b (Nat.lt_of_lt_of_le (HF.out b f1) hO.out.size)]
        obtain ⟨a2, cap2, rfl, hO2⟩ := hO1
        have HO2 : Hid (OwnS (G j) (w1.setCell ⟨g, j * 2, none⟩ (.string (mt kk))) (.slice a2 c.args.length cap2) c.args) := ⟨a2, cap2, rfl, hO2⟩
        have HOW : Hid (Only F w (w1.setCell ⟨g, j * 2, none⟩ (.string (mt kk)))) := (hO.out.trans (Only.of_below hb1)).trans (Only.setCell (p := ⟨g, j * 2, none⟩) HG.out _)
        clear hb1 c1 c2 c3 d2 hO2
        go_wp2_with fail
        generalize hw2 : w1.setCell ⟨g, j * 2, none⟩ (.string (mt kk)) = w2 at *
        have HW2 := Lib.hid hw2
        clear hw2
        refine (markStringS_own (G j) w2 (.slice a2 c.args.length cap2) (kk + 1) c.args HO2.out (by omega) hcl (by omega)).mono ?_
        rintro e w3 ⟨rfl, ho3, honly⟩
        have HR3 : Hid (RowOf 42 OwnCon F g G w3 (mixed ConD.marked ConD.count k cs (j + 1))) := by
          unfold Hid
          rw [← HMX.out]
          refine HNX.out w1 w3 (.string (mt kk)) _ HB1.out (by rw [HW2.out]; exact honly) ⟨rfl, ?_⟩
          exact ho3
        have HO3 : Hid (Only F w w3) := HOW.out.trans (honly.wider (fun b hb => (HGF.out b hb).1))
        clear ho3 honly
        go_wp2
        go_roundw
        case rel => exact ⟨j + 1, by omega, by go_num, by rw [HKK.out]; go_num, HR3, HO3⟩
        case measure => simp [intOf]; omega
      · obtain rfl : j = n := by omega
        have hz : sumBy ConD.count (cs.take j) = sumBy ConD.count cs := by rw [List.take_of_length_le (by rw [HN.out]; exact Nat.le_refl _)]
        rw [hz]
        have hR2 := hR.out
        rw [← HN.out, mixed_all] at hR2
        have HR2 : Hid (Own2 42 OwnCon F wr (.slice (some ⟨g, 0, none⟩) j cap) (markedList ConD.marked ConD.count k cs)) := by
          obtain ⟨ps2, rest2, r1, r2, r3⟩ := hR2
          exact ⟨_, cap, by rw [markedList_length, HN.out], .inr ⟨g, ps2, rest2, G, rfl, HG.out, r1, r2, r3⟩⟩
        clear hR2 hz
        go_wp2
        go_ret
        exact ⟨rfl, HR2.out, hO.out⟩

set_option maxHeartbeats 1000000 in
set_option maxRecDepth 100000 in
theorem markTypeDeclS_own (F : Nat → Prop) (w : World) (v : Value) (k : Nat) (cs : List TypeD) (hO : Own2 28 OwnType F w v cs) (hF : ∀ b, F b → b < w.heap.size) (hk : 1 ≤ k) (hm : cs.length ≤ 1048576) (hs : ∀ c ∈ cs, c.cons.length ≤ 1048576 ∧ ∀ d ∈ c.cons, d.args.length ≤ 1048576) (hk2 : k + sumBy TypeD.count cs ≤ 2097152) :
    Calls Try.prog 31 #[v, .int .i64 (k : Int)] w fun e w' =>
      e = .returned (.int .i64 ((k + sumBy TypeD.count cs : Nat) : Int)) ∧ Own2 28 OwnType F w' v (markedList TypeD.marked TypeD.count k cs) ∧ Only F w w' := by
  have HS := Lib.hid hs
  clear hs
  obtain ⟨a, cap, rfl, h0 | ⟨g, ps, rest, G, rfl, hg, hl, hp, hP⟩⟩ := hO
  · subst h0
    have hO2 : Own2 28 OwnType F w (.slice a 0 cap) (markedList TypeD.marked TypeD.count k []) := ⟨a, cap, rfl, .inl rfl⟩
    have HO2 := Lib.hid hO2
    clear hO2
    show Calls Try.prog 31 #[.slice a 0 cap, .int .i64 (k : Int)] w _
    have hz : k + sumBy TypeD.count [] = k := by simp [sumBy]
    rw [hz]
    go_enter Try.func31, Try.ntmps31
    go_wp2
    go_loopw [1, 5] (fun q i wr => q = .int .i64 k ∧ i = .int .i64 0 ∧ wr = w) (fun _ _ _ => 0)
    case atStart => exact ⟨rfl, rfl, rfl⟩
    case round =>
      obtain ⟨rfl, rfl, rfl⟩ := hrel
      go_wp2
      go_ret
      exact ⟨rfl, HO2.out, Only.refl _ _⟩
  · have hR : RowOf 28 OwnType F g G w (mixed TypeD.marked TypeD.count k cs 0) := by
      rw [mixed_zero]
      exact ⟨ps, rest, hl, hp, hP⟩
    have HR := Lib.hid hR
    have HF := Lib.hid hF
    have HG := Lib.hid hg
    clear hl hp hP hR hF hg ps
    generalize hn : cs.length = n at *
    have HN := Lib.hid hn
    clear hn
    go_enter Try.func31, Try.ntmps31
    go_wp2
    go_loopw [1, 5] (fun q i wr => ∃ j : Nat, j ≤ n ∧ i = .int .i64 j ∧ q = .int .i64 ((k + sumBy TypeD.count (cs.take j) : Nat) : Int) ∧ Hid (RowOf 28 OwnType F g G wr (mixed TypeD.marked TypeD.count k cs j)) ∧ Hid (Only F w wr)) (fun _ i _ => n - (intOf i).toNat)
    case atStart => exact ⟨0, Nat.zero_le _, rfl, by simp [sumBy], HR, Only.refl _ _⟩
    case round =>
      obtain ⟨j, hj, rfl, rfl, hR, hO⟩ := hrel
      by_cases hlt2 : j < n
      · have hj2 : j < cs.length := by rw [HN.out]; exact hlt2
        have hx : cs[j]? = some cs[j] := List.getElem?_eq_getElem hj2
        have hcl := HS.out _ (List.getElem_mem hj2)
        have hsl := sumBy_take TypeD.count cs j hj2
        have hsle := sumBy_take_le TypeD.count cs (j + 1)
        generalize cs[j] = c at hx hcl hsl
        have hme : (mixed TypeD.marked TypeD.count k cs j)[j]? = some c := by rw [mixed_at _ _ _ _ _ (by omega)]; exact hx
        have hFr : ∀ b, F b → b < wr.heap.size := fun b hb => Nat.lt_of_lt_of_le (HF.out b hb) hO.out.size
        obtain ⟨u, v, c1, c2, c3, hE, hGF, hgl, hnext⟩ := RowOf.part keeps_type hR.out hFr hme
        have hmx := mixed_set TypeD.marked TypeD.count k cs j c hx
        have hcc : c.count = 1 + sumBy ConD.count c.cons := rfl
        generalize hkk : k + sumBy TypeD.count (cs.take j) = kk at *
        have hkk1 : 1 ≤ kk := by omega
        have hkk2 : kk + 1 + sumBy ConD.count c.cons ≤ 2097152 := by omega
        have HKK : Hid (k + sumBy TypeD.count (cs.take (j + 1)) = kk + 1 + sumBy ConD.count c.cons) := by unfold Hid; omega
        have HMX := Lib.hid hmx
        have HNX := Lib.hid hnext
        have HE := Lib.hid hE
        have HGF := Lib.hid hGF
        clear hx hme hmx hnext hE hGF hsl hsle hkk hcc HS hFr
        go_wp2_with fail
        refine (markText_any kk (by omega) (by omega) _).mono ?_
        rintro e w1 ⟨rfl, hb1⟩
        have d1 := cell_below c1 hb1
        have d2 := cell_below c2 hb1
        have d3 : w1.frozen? ⟨g, j * 2, none⟩ = false := by rw [← c3]; exact World.frozen?_of_block (w := wr) (hb1.block g hgl)
        have d4 : (w1.setCell ⟨g, j * 2, none⟩ (.string (mt kk))).cell? ⟨g, j * 2 + 1, none⟩ = some v := by
          rw [World.cell?_setCell_other _ _ _ _ (by simp)]
          exact d2
        have HB1 := Lib.hid hb1
        have hO1 : Own2 42 OwnCon (G j) (w1.setCell ⟨g, j * 2, none⟩ (.string (mt kk))) v c.cons := by
          refine HE.out.2.keep keeps_con (fun b hb => ?_)
          obtain ⟨f1, f2⟩ := HGF.out b hb
          rw [Below.heap_setCell _ _ _ _ f2, hb1.block b (Nat.lt_of_lt_of_le (HF.out b f1) hO.out.size)]
        obtain ⟨a2, cap2, rfl, hO2⟩ := hO1
        have HO2 : Hid (Own2 42 OwnCon (G j) (w1.setCell ⟨g, j * 2, none⟩ (.string (mt kk))) (.slice a2 c.cons.length cap2) c.cons) := ⟨a2, cap2, rfl, hO2⟩
        have HOW : Hid (Only F w (w1.setCell ⟨g, j * 2, none⟩ (.string (mt kk)))) := (hO.out.trans (Only.of_below hb1)).trans (Only.setCell (p := ⟨g, j * 2, none⟩) HG.out _)
        have hGF2 : ∀ b, G j b → b < (w1.setCell ⟨g, j * 2, none⟩ (.string (mt kk))).heap.size := fun b hb => by
          have h1 := HF.out b (HGF.out b hb).1
          have h2 := hO.out.size
          have h3 := hb1.size
          simp [World.setCell]
          omega
        clear hb1 c1 c2 c3 d2 hO2
        go_wp2_with fail
        generalize hw2 : w1.setCell ⟨g, j * 2, none⟩ (.string (mt kk)) = w2 at *
        have HW2 := Lib.hid hw2
        clear hw2
        refine (markConS_own (G j) w2 (.slice a2 c.cons.length cap2) (kk + 1) c.cons HO2.out hGF2 (by omega) hcl.1 hcl.2 (by omega)).mono ?_
        rintro e w3 ⟨rfl, ho3, honly⟩
        have HR3 : Hid (RowOf 28 OwnType F g G w3 (mixed TypeD.marked TypeD.count k cs (j + 1))) := by
          unfold Hid
          rw [← HMX.out]
          refine HNX.out w1 w3 (.string (mt kk)) _ HB1.out (by rw [HW2.out]; exact honly) ⟨rfl, ?_⟩
          exact ho3
        have HO3 : Hid (Only F w w3) := HOW.out.trans (honly.wider (fun b hb => (HGF.out b hb).1))
        clear ho3 honly
        go_wp2
        go_roundw
        case rel => exact ⟨j + 1, by omega, by go_num, by rw [HKK.out]; go_num, HR3, HO3⟩
        case measure => simp [intOf]; omega
      · obtain rfl : j = n := by omega
        have hz : sumBy TypeD.count (cs.take j) = sumBy TypeD.count cs := by rw [List.take_of_length_le (by rw [HN.out]; exact Nat.le_refl _)]
        rw [hz]
        have hR2 := hR.out
        rw [← HN.out, mixed_all] at hR2
        have HR2 : Hid (Own2 28 OwnType F wr (.slice (some ⟨g, 0, none⟩) j cap) (markedList TypeD.marked TypeD.count k cs)) := by
          obtain ⟨ps2, rest2, r1, r2, r3⟩ := hR2
          exact ⟨_, cap, by rw [markedList_length, HN.out], .inr ⟨g, ps2, rest2, G, rfl, HG.out, r1, r2, r3⟩⟩
        clear hR2 hz
        go_wp2
        go_ret
        exact ⟨rfl, HR2.out, hO.out⟩

theorem mark_count (cs : List ConD) : sumBy ConD.count cs ≤ cs.length + sumBy ConD.size cs := by
  induction cs with
  | nil => simp [sumBy]
  | cons c r ih =>
    have e1 : sumBy ConD.count (c :: r) = c.count + sumBy ConD.count r := by simp [sumBy]
    have e2 : sumBy ConD.size (c :: r) = c.size + sumBy ConD.size r := by simp [sumBy]
    have e3 : c.count = 1 + c.args.length := rfl
    have e4 : c.size = c.name.size + (c.args.length + total c.args) := rfl
    simp only [List.length_cons]
    omega
theorem mark_count2 (s : List TypeD) : sumBy TypeD.count s ≤ s.length + sumBy TypeD.size s := by
  induction s with
  | nil => simp [sumBy]
  | cons t r ih =>
    have e1 : sumBy TypeD.count (t :: r) = t.count + sumBy TypeD.count r := by simp [sumBy]
    have e2 : sumBy TypeD.size (t :: r) = t.size + sumBy TypeD.size r := by simp [sumBy]
    have e3 : t.count = 1 + sumBy ConD.count t.cons := rfl
    have e4 : t.size = t.name.size + (t.cons.length + sumBy ConD.size t.cons) := rfl
    have e5 := mark_count t.cons
    simp only [List.length_cons]
    omega

set_option maxRecDepth 100000 in
theorem markSig_own (F : Nat → Prop) (w : World) (v : Value) (k : Nat) (s : List TypeD) (hO : OwnSig F w v s) (hF : ∀ b, F b → b < w.heap.size) (hk : 1 ≤ k) (hm : s.length ≤ 1048576) (hs : ∀ c ∈ s, c.cons.length ≤ 1048576 ∧ ∀ d ∈ c.cons, d.args.length ≤ 1048576) (hk2 : k + sumBy TypeD.count s ≤ 2097152) :
    Calls Try.prog 13 #[.agg #[v], .int .i64 (k : Int)] w fun e w' => e = .returned (.int .i64 ((k + sumBy TypeD.count s : Nat) : Int)) ∧ Only F w w' := by
  have hb : Below w.heap.size w (w.alloc (.cells #[v] 33)) := (Below.refl _ _).alloc (Nat.le_refl _) _
  have hO1 : OwnSig F (w.alloc (.cells #[v] 33)) v s := hO.keep keeps_type (fun b hbb => hb.block b (hF b hbb))
  have H := markTypeDeclS_own F (w.alloc (.cells #[v] 33)) v k s hO1 (fun b hbb => Nat.lt_of_lt_of_le (hF b hbb) hb.size) hk hm hs hk2
  have HB := Lib.hid hb
  obtain ⟨a, cap, rfl, _⟩ := hO
  clear hb hO1 hF hs
  generalize k + sumBy TypeD.count s = q at *
  go_enter Try.func13, Try.ntmps13
  go_wp2_with fail
  refine H.mono ?_
  rintro e w1 ⟨rfl, _, ho⟩
  have HO := Lib.hid ho
  clear ho H
  go_wp2
  go_ret
  exact ⟨rfl, (Only.of_below HB.out).trans HO.out⟩

set_option maxRecDepth 100000 in
theorem markType_own (F : Nat → Prop) (w : World) (t : TypeD) (u v : Value) (k : Nat) (hO : OwnType F w t u v) (hF : ∀ b, F b → b < w.heap.size) (hk : 1 ≤ k) (hm : t.cons.length ≤ 1048576) (hs : ∀ d ∈ t.cons, d.args.length ≤ 1048576) (hk2 : k + sumBy ConD.count t.cons ≤ 2097152) :
    Calls Try.prog 14 #[.agg #[u, v], .int .i64 (k : Int)] w fun e w' => e = .returned (.int .i64 ((k + sumBy ConD.count t.cons : Nat) : Int)) ∧ Own2 42 OwnCon F w' v (markedList ConD.marked ConD.count k t.cons) ∧ Only F w w' := by
  have hb : Below w.heap.size w (w.alloc (.cells #[u, v] 28)) := (Below.refl _ _).alloc (Nat.le_refl _) _
  have hO1 : Own2 42 OwnCon F (w.alloc (.cells #[u, v] 28)) v t.cons := hO.2.keep keeps_con (fun b hbb => hb.block b (hF b hbb))
  have H := markConS_own F (w.alloc (.cells #[u, v] 28)) v k t.cons hO1 (fun b hbb => Nat.lt_of_lt_of_le (hF b hbb) hb.size) hk hm hs hk2
  have HB := Lib.hid hb
  obtain ⟨rfl, a, cap, rfl, _⟩ := hO
  clear hb hO1 hF hs
  generalize k + sumBy ConD.count t.cons = q at *
  go_enter Try.func14, Try.ntmps14
  go_wp2_with fail
  refine H.mono ?_
  rintro e w1 ⟨rfl, h2, ho⟩
  have HO := Lib.hid ho
  have H2 := Lib.hid h2
  clear ho h2 H
  go_wp2
  go_ret
  exact ⟨rfl, H2.out, (Only.of_below HB.out).trans HO.out⟩

set_option maxRecDepth 100000 in
theorem markCon_own (F : Nat → Prop) (w : World) (c : ConD) (u v : Value) (k : Nat) (hO : OwnCon F w c u v) (hF : ∀ b, F b → b < w.heap.size) (hk : 1 ≤ k) (hm : c.args.length ≤ 1048576) (hk2 : k ≤ 2097152) :
    Calls Try.prog 19 #[.agg #[u, v], .int .i64 (k : Int)] w fun e w' => e = .returned (.int .i64 ((k + c.args.length : Nat) : Int)) ∧ OwnS F w' v (marks k c.args.length) ∧ Only F w w' := by
  have hb : Below w.heap.size w (w.alloc (.cells #[u, v] 42)) := (Below.refl _ _).alloc (Nat.le_refl _) _
  have hO1 : OwnS F (w.alloc (.cells #[u, v] 42)) v c.args := hO.2.keep (fun b hbb => hb.block b (hF b hbb))
  have H := markStringS_own F (w.alloc (.cells #[u, v] 42)) v k c.args hO1 hk hm (by omega)
  have HB := Lib.hid hb
  obtain ⟨rfl, a, cap, rfl, _⟩ := hO
  clear hb hO1 hF
  generalize c.args.length = n at *
  have hb1 : k + n ≤ 4194304 := by omega
  go_enter Try.func19, Try.ntmps19
  go_wp2_with fail
  refine H.mono ?_
  rintro e w1 ⟨rfl, h2, ho⟩
  have HO := Lib.hid ho
  have H2 := Lib.hid h2
  clear ho h2 H
  go_wp2
  go_ret
  exact ⟨rfl, H2.out, (Only.of_below HB.out).trans HO.out⟩
end Go.Proofs.Ytcmpaccpdjcocaa
