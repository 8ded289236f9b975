/- What is proved here: the laws' look whether marks still stand (heldConS, heldTypeDecl, heldCon). Conditions: small numbers. -/
import Derived.Test.YtcmpaccpdjcocaaSigMark
namespace Go.Proofs.Ytcmpaccpdjcocaa
open Go.RowKit

set_option maxHeartbeats 1000000 in
set_option maxRecDepth 100000 in
theorem heldConS_any (w : World) (a : Option Addr) (cap k : Nat) (cs : List ConD) (hx : Row2 ConAt w a (markedList ConD.marked ConD.count k cs)) (hm : cs.length ≤ 1048576) (hs : ∀ c ∈ cs, c.args.length ≤ 1048576) (hk : 1 ≤ k) (hk2 : k + sumBy ConD.count cs ≤ 2097152) :
    Calls Try.prog 33 #[.slice a cs.length cap, .int .i64 (k : Int)] w fun e w' => e = .returned (.int .i64 ((k + sumBy ConD.count cs : Nat) : Int)) ∧ Below w.heap.size w w' := by
  have HX := Lib.hid hx
  have HS := Lib.hid hs
  clear hx hs
  generalize hn : cs.length = n at *
  have HN := Lib.hid hn
  clear hn
  go_enter Try.func33, Try.ntmps33
  go_wp2
  go_loopw [1, 5] (fun q i wr => ∃ j : Nat, j ≤ n ∧ i = .int .i64 j ∧ q = .int .i64 ((k + sumBy ConD.count (cs.take j) : Nat) : Int) ∧ Hid (Below w.heap.size w wr)) (fun _ i _ => n - (intOf i).toNat)
  case atStart => exact ⟨0, Nat.zero_le _, rfl, by simp [sumBy], Below.refl _ _⟩
  case round =>
    obtain ⟨j, hj, rfl, rfl, hB⟩ := hrel
    by_cases hlt2 : j < n
    · have hj2 : j < cs.length := by rw [HN.out]; exact hlt2
      have hx : cs[j]? = some cs[j] := List.getElem?_eq_getElem hj2
      have hcl := HS.out _ (List.getElem_mem hj2)
      have hsl := sumBy_take ConD.count cs j hj2
      have hsle := sumBy_take_le ConD.count cs (j + 1)
      generalize cs[j] = c at hx hcl hsl
      have hma := markedList_at ConD.marked ConD.count cs k j c hx
      obtain ⟨hj3, hme⟩ := List.getElem?_eq_some_iff.1 hma
      obtain ⟨y, u, v, rfl, hc0, hc1, hr⟩ := row2_below con_below HX.out hB.out j hj3
      rw [hme] at hr
      obtain ⟨a2, cap2, rfl, rfl, hr2⟩ := hr
      have hcc : c.count = 1 + c.args.length := rfl
      generalize hkk : k + sumBy ConD.count (cs.take j) = kk at *
      have hkk1 : 1 ≤ kk := by omega
      have hkk2 : kk + 1 + c.args.length ≤ 2097152 := by omega
      have HKK : Hid (k + sumBy ConD.count (cs.take (j + 1)) = kk + 1 + c.args.length) := by unfold Hid; omega
      have e1 : (ConD.marked kk c).name = mt kk := rfl
      have e2 : (ConD.marked kk c).args = marks (kk + 1) c.args.length := rfl
      rw [e1] at hc0
      rw [e2] at hc1 hr2
      rw [marks_length] at hc1
      have HR2 := Lib.hid hr2
      clear hx hma hme hsl hsle hkk hcc HS hr2 e1 e2 hj3
      have hwz := hB.out.size
      have hltn : (j : Int) < (n : Int) := by omega
      go_wp2
      go_region_held3 (fun w' => w'.cell? (y.add (j * 2)) = some (.string (mt kk)))
        (first
          | go_keep
          | exact cell_below (w := wr.drew) hc0 hbl)
        (first
          | (go_at_call 50; refine (markText_any kk (by omega) (by omega) _).mono ?_; rintro e w1 ⟨rfl, hbl⟩))
      have hbl2 := below_of_drew hbl
      have hd1 := cell_below hc1 hbl2
      have HR3 := Lib.hid (reads_below HR2.out hbl2)
      have HB1 : Hid (Below w.heap.size w w1) := hB.out.trans (hbl2.mono hwz)
      clear hbl hbl2 hc0 hc1
      go_wp2_with fail
      have H := heldS_any w1 a2 cap2 (kk + 1) c.args.length HR3.out (by omega) (by omega) (by omega)
      refine H.mono ?_
      clear H
      rintro e w2 ⟨rfl, hb2⟩
      have HB2 : Hid (Below w.heap.size w w2) := HB1.out.trans (hb2.mono HB1.out.size)
      clear hb2
      go_wp2
      go_roundw
      case rel => exact ⟨j + 1, by omega, by go_num, by rw [HKK.out]; go_num, HB2⟩
      case measure => simp [intOf]; omega
    · obtain rfl : j = n := by omega
      have hz : sumBy ConD.count (cs.take j) = sumBy ConD.count cs := by rw [List.take_of_length_le (by rw [HN.out]; exact Nat.le_refl _)]
      rw [hz]
      clear hz
      go_wp2
      go_ret
      exact ⟨rfl, hB.out⟩

set_option maxRecDepth 100000 in
theorem heldType_any (w : World) (u : Value) (a : Option Addr) (cap k : Nat) (cs : List ConD) (hx : Row2 ConAt w a (markedList ConD.marked ConD.count k cs)) (hm : cs.length ≤ 1048576) (hs : ∀ c ∈ cs, c.args.length ≤ 1048576) (hk : 1 ≤ k) (hk2 : k + sumBy ConD.count cs ≤ 2097152) :
    Calls Try.prog 15 #[.agg #[u, .slice a cs.length cap], .int .i64 (k : Int)] w fun e w' => e = .returned (.int .i64 ((k + sumBy ConD.count cs : Nat) : Int)) ∧ Below w.heap.size w w' := by
  have hb : Below w.heap.size w (w.alloc (.cells #[u, .slice a cs.length cap] 28)) := (Below.refl _ _).alloc (Nat.le_refl _) _
  have H := heldConS_any (w.alloc (.cells #[u, .slice a cs.length cap] 28)) a cap k cs (row2_below con_below hx hb) hm hs hk hk2
  have HB := Lib.hid hb
  clear hb hx hs
  generalize k + sumBy ConD.count cs = q at *
  go_enter Try.func15, Try.ntmps15
  go_wp2_with fail
  refine H.mono ?_
  rintro e w1 ⟨rfl, hb1⟩
  have HB1 : Hid (Below w.heap.size w w1) := HB.out.trans (hb1.mono HB.out.size)
  clear hb1 H
  go_wp2
  go_ret
  exact ⟨rfl, HB1.out⟩

set_option maxRecDepth 100000 in
theorem heldCon_any (w : World) (u : Value) (a : Option Addr) (cap k n : Nat) (hx : Reads w a (marks k n)) (hm : n ≤ 1048576) (hk : 1 ≤ k) (hk2 : k ≤ 2097152) :
    Calls Try.prog 20 #[.agg #[u, .slice a n cap], .int .i64 (k : Int)] w fun e w' => e = .returned (.int .i64 ((k + n : Nat) : Int)) ∧ Below w.heap.size w w' := by
  have hb : Below w.heap.size w (w.alloc (.cells #[u, .slice a n cap] 42)) := (Below.refl _ _).alloc (Nat.le_refl _) _
  have H := heldS_any (w.alloc (.cells #[u, .slice a n cap] 42)) a cap k n (reads_below hx hb) (by omega) hk (by omega)
  have HB := Lib.hid hb
  have hq : k + n ≤ 4194304 := by omega
  clear hb hx
  generalize k + n = q at *
  go_enter Try.func20, Try.ntmps20
  go_wp2_with fail
  refine H.mono ?_
  rintro e w1 ⟨rfl, hb1⟩
  have HB1 : Hid (Below w.heap.size w w1) := HB.out.trans (hb1.mono HB.out.size)
  clear hb1 H
  go_wp2
  go_ret
  exact ⟨rfl, HB1.out⟩
end Go.Proofs.Ytcmpaccpdjcocaa
