/- What is proved here: the model's and the program's FindKey. Condition: the slice reads as the list. -/
import Derived.Test.YtcalgjggmgnofaaDoorKeyRow
import Derived.Laws.StructEq
namespace Go.Proofs.YtcalgjggmgnofaaDoor
open Go.RowKit

/-- The index of the first element equal to x, from k on; -1 if there is none. -/
def idxK (x : KeyD) : List KeyD → Nat → Int
  | [], _ => -1
  | y :: l, k => if y = x then (k : Int) else idxK x l (k + 1)
theorem idxK_yes (l : List KeyD) (x : KeyD) (k : Nat) (h : k < l.length) (hy : l[k] = x) : idxK x (l.drop k) k = k := by
  rw [List.drop_eq_getElem_cons h]
  exact if_pos hy
theorem idxK_no (l : List KeyD) (x : KeyD) (k : Nat) (h : k < l.length) (hy : l[k] ≠ x) : idxK x (l.drop k) k = idxK x (l.drop (k + 1)) (k + 1) := by
  rw [List.drop_eq_getElem_cons h]
  exact if_neg hy
theorem idxK_end (l : List KeyD) (x : KeyD) : idxK x (l.drop l.length) l.length = -1 := by
  rw [List.drop_length]
  rfl

theorem bytes_iff (a b : ByteArray) : a.toList = b.toList ↔ a = b := by
  rw [ByteArray.toList_eq, ByteArray.toList_eq]
  obtain ⟨⟨x⟩⟩ := a
  obtain ⟨⟨y⟩⟩ := b
  simp

set_option maxRecDepth 100000 in
/-- Two keys compared as structs. -/
theorem eql_key (w : World) (x y : KeyD) : (binOp .eql 40 (.agg #[.int .i64 x.1, .int .i64 x.2.1, .string x.2.2]) (.agg #[.int .i64 y.1, .int .i64 y.2.1, .string y.2.2])).run Tryd.prog w = .ok (.bool (decide (x = y))) w := by
  have ui := Tryd.underlying3
  have us := Tryd.underlying9
  have ai := Tryd.isAgg3
  have zi := Tryd.sizeOf3
  have sa := Tryd.isAgg9
  have sz := Tryd.sizeOf9
  have hS : Tryd.prog.underlying 40 = some (.struct (Tryd.prog.fieldsOf 40)) := by kernel_rfl
  have hp : Tryd.prog.stoodInHeld 40 = false := by kernel_rfl
  rw [run_eql_struct, show (10000 : Nat) = 9999 + 1 from rfl, run_equalIn_agg w 9999 40 _ _ hS hp]
  simp only [Program.fieldsOf, Tryd.underlying40]
  go_simp
  obtain ⟨x1, x2, x3⟩ := x
  obtain ⟨y1, y2, y3⟩ := y
  by_cases h1 : x1 = y1 <;> by_cases h2 : x2 = y2 <;> by_cases h3 : x3 = y3 <;> simp [h1, h2, h3, bytes_iff]
theorem guard_key (w : World) (x y : Operand) (xs ys : Array Value) : (eqGuard .eql 40 x y (.agg xs) (.agg ys)).run Tryd.prog w = .ok () w :=
  run_eqGuard_agg w .eql _ x y xs ys (by kernel_rfl)

set_option maxHeartbeats 1000000 in
set_option maxRecDepth 100000 in
theorem spec_findKey (w : World) (a : Option Addr) (cap : Nat) (l : List KeyD) (v : KeyD) (hx : KeysAt w a l) (hm : l.length ≤ maxLen) :
    Calls Tryd.prog 26 #[.slice a l.length cap, .agg #[.int .i64 v.1, .int .i64 v.2.1, .string v.2.2]] w fun e w' => e = .returned (.int .i64 (idxK v l 0)) ∧ Below w.heap.size w w' := by
  unfold maxLen at hm
  have hB0 := (Below.refl w.heap.size w).alloc (Nat.le_refl _) (.cells #[.int .i64 v.1, .int .i64 v.2.1, .string v.2.2] 40)
  have HB0 := Lib.hid hB0
  have HX := Lib.hid (hx.below hB0)
  have HV := Lib.hid (heap_at_new w (.cells #[.int .i64 v.1, .int .i64 v.2.1, .string v.2.2] 40))
  have HEQ := Lib.hid (fun (w : World) (x : KeyD) => eql_key w x v)
  have HI := Lib.hid (show idxK v (l.drop 0) 0 = idxK v l 0 from rfl)
  have hg := guard_key
  generalize idxK v l 0 = q at *
  clear hx hB0
  generalize hn : l.length = n at *
  have HN := Lib.hid hn
  have HIX := Lib.hid (fun k h => idxK_yes l v k h)
  have HIN := Lib.hid (fun k h => idxK_no l v k h)
  have HIE := Lib.hid (idxK_end l v)
  clear hn
  go_enter Tryd.func26, Tryd.ntmps26
  go_wp2
  generalize w.alloc (.cells #[.int .i64 v.1, .int .i64 v.2.1, .string v.2.2] 40) = w0 at *
  obtain ⟨v0, v1, v2, _⟩ := three_cells HV.out
  go_loopw [5] (fun i wr => ∃ (k m : Nat), k ≤ n ∧ i = .int .i64 k ∧ wr = w0.drewN m ∧ Hid (idxK v (l.drop k) k = q)) (fun i _ => n - (intOf i).toNat)
  case atStart => exact ⟨0, 0, Nat.zero_le _, rfl, rfl, HI⟩
  case round =>
    obtain ⟨k, m, hk, rfl, rfl, hI⟩ := hrel
    by_cases hlt : k < n
    · obtain ⟨y, rfl, h1, h2, h3⟩ := HX.out k (by rw [HN.out]; exact hlt)
      have hyes := HIX.out k (by rw [HN.out]; exact hlt)
      have hno := HIN.out k (by rw [HN.out]; exact hlt)
      rw [hI.out] at hyes hno
      generalize l[k]'(by rw [HN.out]; exact hlt) = x at h1 h2 h3 hyes hno
      have he := fun w => HEQ.out w x
      by_cases hxv : x = v
      · have hq := hyes hxv
        simp only [hxv, decide_true] at he h1 h2 h3
        clear hyes hno hI hxv
        subst hq
        go_wp2
        go_quiet (fail)
        go_wp2
        go_ret
        exact ⟨rfl, HB0.out.trans (by repeat first | exact Below.refl _ _ | apply below_drewN)⟩
      · have hq := Lib.hid (hno hxv).symm
        simp only [hxv, decide_false] at he
        clear hyes hno hI hxv
        generalize x.1 = x1 at *
        generalize x.2.1 = x2 at *
        generalize x.2.2 = x3 at *
        go_wp2
        go_quiet (fail)
        go_wp2
        go_roundw
        case rel => exact ⟨k + 1, _, by omega, by go_num, rfl, hq⟩
        case measure => simp [intOf]; omega
    · obtain rfl : k = n := by omega
      have hq := hI.out
      have he := HIE.out
      rw [HN.out, hq] at he
      subst he
      clear hI hq
      go_wp2
      go_ret
      exact ⟨rfl, HB0.out.trans (below_drewN (Below.refl _ _) _)⟩

set_option maxHeartbeats 1000000 in
set_option maxRecDepth 100000 in
theorem impl_findKey (w : World) (a : Option Addr) (cap : Nat) (l : List KeyD) (v : KeyD) (hx : KeysAt w a l) (hm : l.length ≤ maxLen) :
    Calls Tryd.prog 22 #[.slice a l.length cap, .agg #[.int .i64 v.1, .int .i64 v.2.1, .string v.2.2]] w fun e w' => e = .returned (.int .i64 (idxK v l 0)) ∧ Below w.heap.size w w' := by
  unfold maxLen at hm
  have hB0 := (Below.refl w.heap.size w).alloc (Nat.le_refl _) (.cells #[.int .i64 v.1, .int .i64 v.2.1, .string v.2.2] 40)
  have HB0 := Lib.hid hB0
  have HX := Lib.hid (hx.below hB0)
  have HV : Hid (KeyAt _ _ v.1 v.2.1 v.2.2 _) := Lib.hid (heap_at_new w (.cells #[.int .i64 v.1, .int .i64 v.2.1, .string v.2.2] 40))
  have HEQ := Lib.hid (fun (w : World) (x : KeyD) => eql_key w x v)
  have HI := Lib.hid (show idxK v (l.drop 0) 0 = idxK v l 0 from rfl)
  have hg := guard_key
  generalize idxK v l 0 = q at *
  clear hx hB0
  generalize hn : l.length = n at *
  have HN := Lib.hid hn
  have HIX := Lib.hid (fun k h => idxK_yes l v k h)
  have HIN := Lib.hid (fun k h => idxK_no l v k h)
  have HIE := Lib.hid (idxK_end l v)
  clear hn
  go_enter Tryd.func22, Tryd.ntmps22
  go_wp2
  generalize w.alloc (.cells #[.int .i64 v.1, .int .i64 v.2.1, .string v.2.2] 40) = w0 at *
  go_loopw [9] (fun i wr => ∃ (k : Nat), k ≤ n ∧ i = .int .i64 k ∧ Hid (Below w0.heap.size w0 wr) ∧ Hid (idxK v (l.drop k) k = q)) (fun i _ => n - (intOf i).toNat)
  case atStart => exact ⟨0, Nat.zero_le _, rfl, Below.refl _ _, HI⟩
  case round =>
    obtain ⟨k, hk, rfl, hB, hI⟩ := hrel
    by_cases hlt : k < n
    · obtain ⟨y, rfl, h1, h2, h3⟩ := (HX.out.below hB.out) k (by rw [HN.out]; exact hlt)
      have hyes := HIX.out k (by rw [HN.out]; exact hlt)
      have hno := HIN.out k (by rw [HN.out]; exact hlt)
      rw [hI.out] at hyes hno
      generalize l[k]'(by rw [HN.out]; exact hlt) = x at h1 h2 h3 hyes hno
      have he := fun w => HEQ.out w x
      have hB1 := (Below.refl wr.heap.size wr).alloc (Nat.le_refl _) (.cells #[.int .i64 x.1, .int .i64 x.2.1, .string x.2.2] 40)
      have hx1 : KeyAt _ _ x.1 x.2.1 x.2.2 _ := heap_at_new wr (.cells #[.int .i64 x.1, .int .i64 x.2.1, .string x.2.2] 40)
      have hv1 := (HV.out.below hB.out).below hB1
      have HB1 : Hid (Below w0.heap.size w0 _) := hB.out.trans (hB1.mono hB.out.size)
      obtain ⟨c0, c1, c2⟩ := hx1.cells
      obtain ⟨d0, d1, d2⟩ := hv1.cells
      clear hB1 hx1 hv1
      by_cases hxv : x = v
      · have hq := hyes hxv
        simp only [hxv, decide_true] at he h1 h2 h3 c0 c1 c2 d0 d1 d2 HB1
        clear hyes hno hI hxv
        subst hq
        go_wp2
        go_ret
        exact ⟨rfl, HB0.out.trans (HB1.out.mono HB0.out.size)⟩
      · have hq := Lib.hid (hno hxv).symm
        simp only [hxv, decide_false] at he
        clear hyes hno hI hxv
        generalize x.1 = x1 at *
        generalize x.2.1 = x2 at *
        generalize x.2.2 = x3 at *
        go_wp2
        go_roundw
        case rel => exact ⟨k + 1, by omega, by go_num, HB1, hq⟩
        case measure => simp [intOf]; omega
    · obtain rfl : k = n := by omega
      have hq := hI.out
      have he := HIE.out
      rw [HN.out, hq] at he
      subst he
      clear hI hq
      go_wp2
      go_ret
      exact ⟨rfl, HB0.out.trans (hB.out.mono HB0.out.size)⟩
end Go.Proofs.YtcalgjggmgnofaaDoor
