/- What is proved here: a piece of the proof of YtijbaienhaiamaaGreatDoorGuards (ExNot, ImplInOp, Operators, Symbol, ExOperator, ExOp). Condition: none beyond what each part says. -/
import Derived.Test.YtijbaienhaiamaaGreatDoorGu14
import Derived.Test.YtijbaienhaiamaaGreatDoorGu08
import Derived.Test.YtijbaienhaiamaaGreatDoorGu02
import Derived.Test.YtijbaienhaiamaaGreatDoorGu05
import Derived.Laws.EntriesVeiled
import Derived.Deep.RegionHeld3

/- What is proved here: the program's readNot. Condition: read answers as said at the next depth. -/
section
namespace Go.Proofs.YtijbaienhaiamaaGreatDoor.Ex
open Go.RowKit

set_option maxHeartbeats 1000000 in
set_option maxRecDepth 100000 in
theorem impl_readNot (b d : Nat) (HR : ReadOk b (d + 1)) (w : World) (r : List UInt8) (m : Nat) (hm : m + 1 ≤ 12) (hd : d ≤ 6) (h : RdAt w b TR r (m + 1) 12 6) (hl : r.length ≤ 1048576) (hk : KeepsE b w) :
    Calls Tryz.prog 145 #[.pointer (some ⟨b, 0, none⟩), .int .i64 (d : Int)] w fun e w' => Ans w b (33 :: r) m d e w' ∧ Only (Just b) w w' := by
  have hlt := h.lt
  obtain ⟨w1, hw1⟩ : ∃ w1, w1 = w.alloc zeroBox := ⟨_, rfl⟩
  have hb1 : PBox w1 w.heap.size 0 0 ⟨#[]⟩ (.slice none 0 0) := by rw [hw1]; exact heap_at_new w _
  have hB1 : Only (Just b) w w1 := by rw [hw1]; exact (Only.refl _ _).more _
  have hR1 : RdAt w1 b TR r (m + 1) 12 6 := by rw [hw1]; exact h.below ((Below.refl _ _).alloc (Nat.le_refl _) _)
  have hs1 : w1.heap.size = w.heap.size + 1 := by rw [hw1]; exact Array.size_push _
  have HR1 := Lib.hid (show Calls Tryz.prog 84 #[.pointer (some ⟨b, 0, none⟩), .int .i64 ((d : Int) + 1)] w1 fun e w' => Ans w1 b r (m + 1) (d + 1) e w' ∧ Only (Just b) w1 w' from HR w1 r (m + 1) hR1 hm hl (hk.on hB1))
  have HW1 := Lib.hid hw1
  have H1 : Hid (PBox w1 w.heap.size 0 0 ⟨#[]⟩ (.slice none 0 0) ∧ Only (Just b) w w1 ∧ w1.heap.size = w.heap.size + 1 ∧ b < w.heap.size) := ⟨hb1, hB1, hs1, hlt⟩
  clear h hl hk HR hR1 hb1 hB1 hs1 hlt hw1
  go_enter Tryz.func145, Tryz.ntmps145
  go_wp2_with fail
  rw [← HW1.out]
  refine HR1.out.mono ?_
  clear HR1
  rintro e w3 ⟨hAns, hO3⟩
  have hb3 : PBox w3 w.heap.size 0 0 ⟨#[]⟩ (.slice none 0 0) := (hO3.block _ (by have := H1.out.2.2.1; omega) (by have := H1.out.2.2.2; show ¬ (w.heap.size = b); omega)).trans H1.out.1
  have HO3 : Hid (Only (Just b) w w3 ∧ w1.heap.size ≤ w3.heap.size) := ⟨H1.out.2.1.trans hO3, hO3.size⟩
  clear hO3
  rcases hAns with ⟨p, s', m', v, bs, rfl, ho, hnd, hbs, hR3, hP⟩ | ⟨s', m', rfl, hR3, hP⟩
  · obtain ⟨p2, cap2, rfl, _, _⟩ := ho.reads
    obtain ⟨n1, n2, n3, n4⟩ := two_new w3 (.cells #[.int .i64 p.k, .int .i64 p.n, .string p.t, .slice p2 p.F.length cap2] TP) (.cells #[.int .i64 p.k, .int .i64 p.n, .string p.t, .slice p2 p.F.length cap2] TP)
    have H4 : Hid (OwnV w3 (.slice p2 p.F.length cap2) p.F bs ∧ bs.Nodup ∧ (∀ c ∈ bs, w1.heap.size ≤ c ∧ c < w3.heap.size) ∧ RdAt w3 b TR s' m' 12 6 ∧ OkP 12 r (m + 1) (d + 1) p s' m') := ⟨ho, hnd, hbs, hR3, hP⟩
    have hb4 := (n4.block w.heap.size (Array.getElem?_eq_some_iff.1 hb3).1).trans hb3
    have H5 : Hid (PBox ((w3.alloc (.cells #[.int .i64 p.k, .int .i64 p.n, .string p.t, .slice p2 p.F.length cap2] TP)).alloc (.cells #[.int .i64 p.k, .int .i64 p.n, .string p.t, .slice p2 p.F.length cap2] TP)) w.heap.size 0 0 ⟨#[]⟩ (.slice none 0 0) ∧ PBox ((w3.alloc (.cells #[.int .i64 p.k, .int .i64 p.n, .string p.t, .slice p2 p.F.length cap2] TP)).alloc (.cells #[.int .i64 p.k, .int .i64 p.n, .string p.t, .slice p2 p.F.length cap2] TP)) (w3.heap.size + 1) p.k p.n p.t (.slice p2 p.F.length cap2) ∧ ((w3.alloc (.cells #[.int .i64 p.k, .int .i64 p.n, .string p.t, .slice p2 p.F.length cap2] TP)).alloc (.cells #[.int .i64 p.k, .int .i64 p.n, .string p.t, .slice p2 p.F.length cap2] TP)).heap.size = w3.heap.size + 2 ∧ Below w3.heap.size w3 ((w3.alloc (.cells #[.int .i64 p.k, .int .i64 p.n, .string p.t, .slice p2 p.F.length cap2] TP)).alloc (.cells #[.int .i64 p.k, .int .i64 p.n, .string p.t, .slice p2 p.F.length cap2] TP))) := ⟨hb4, n2, n3, n4⟩
    obtain ⟨y0, y1, y2, y3, i0, i1, i2, i3⟩ := four_cells hb4
    have hbn := heap_at_new w3 (.cells #[.int .i64 p.k, .int .i64 p.n, .string p.t, .slice p2 p.F.length cap2] TP)
    obtain ⟨x0, x1, x2, x3, f0, f1, f2, f3⟩ := four_cells hbn
    clear ho hnd hbs hR3 hP hb3 hb4 n1 n2 n3 n4 hbn
    go_wp2
    refine bodyPost_ret (results_row_tmp rfl _ _ w.heap.size _ _ _ _ rfl (set4_box H5.out.1 _ _ _ _) Tryz.underlying54 rfl (by kernel_rfl)) rfl ?_
    obtain ⟨k1, k2, k3, k4, k5⟩ := H4.out
    obtain ⟨j1, j2, j3, j4⟩ := H5.out
    have q1 := H1.out.2.2.1
    have q2 := HO3.out.2
    have q3 := H1.out.2.2.2
    refine ans_some (p := ⟨4, 0, ⟨#[]⟩, p.one .nil⟩) rfl (own_one j2 (k1.keep (fun c hc => j4.block c (k3 c hc).2))) (List.nodup_cons.2 ⟨fun hc => ?_, k2⟩) (fun c hc => ?_) (fun c hc => ?_) (k4.below j4) (not_ok k5) (HO3.out.1.trans (Only.of_below j4)) (Nat.le_refl _) (by omega)
    · have := k3 _ hc; omega
    · rcases List.mem_cons.1 hc with rfl | hc
      · exact ⟨by omega, Nat.lt_of_lt_of_eq (Nat.lt_succ_self _) j3.symm⟩
      · have := k3 c hc
        exact ⟨by omega, Nat.lt_of_lt_of_eq (m := w3.heap.size + 2) (by omega) j3.symm⟩
    · rcases List.mem_cons.1 hc with rfl | hc
      · omega
      · have := k3 c hc; omega
  · have H3 : Hid (PBox w3 w.heap.size 0 0 ⟨#[]⟩ (.slice none 0 0) ∧ RdAt w3 b TR s' m' 12 6 ∧ NoneP 12 r (m + 1) (d + 1)) := ⟨hb3, hR3, hP⟩
    clear hR3 hP
    have hb4 : PBox (w3.alloc zeroBox) w.heap.size 0 0 ⟨#[]⟩ (.slice none 0 0) := (Below.heap_alloc _ _ _ (Array.getElem?_eq_some_iff.1 hb3).1).trans hb3
    have HB4 := Lib.hid hb4
    obtain ⟨x0, x1, x2, x3, f0, f1, f2, f3⟩ := four_cells hb4
    clear hb3 hb4
    go_wp2
    refine bodyPost_ret (results_row_tmp rfl _ _ w.heap.size _ _ _ _ rfl (set4_box HB4.out _ _ _ _) Tryz.underlying54 rfl (by kernel_rfl)) rfl ?_
    have q3 := H1.out.2.2.2
    exact ans_none rfl (H3.out.2.1.below ((Below.refl _ _).alloc (Nat.le_refl _) _)) (not_none H3.out.2.2) (HO3.out.1.more _) (Nat.le_refl _) (by omega)
end Go.Proofs.YtijbaienhaiamaaGreatDoor.Ex
end

/- What is proved here: the program tells whether a number is one of an operator. No condition. -/
section
namespace Go.Proofs.YtijbaienhaiamaaGreatDoor
open Go.RowKit

set_option maxRecDepth 100000 in
theorem impl_inOp (n : Int) (w : World) :
    Calls Tryz.prog 149 #[.int .i64 n] w fun e w' => e = .returned (.bool (inOp n)) ∧ w' = w := by
  unfold inOp
  by_cases h1 : 1 ≤ n
  · have e1 : decide (1 ≤ n) = true := by simpa using h1
    rw [e1]
    clear h1
    go_enter Tryz.func149, Tryz.ntmps149
    go_wp2
    go_ret
    exact ⟨rfl, rfl⟩
  · have e1 : decide (1 ≤ n) = false := by simpa using h1
    rw [e1]
    clear h1
    go_enter Tryz.func149, Tryz.ntmps149
    go_wp2
    go_ret
    exact ⟨rfl, rfl⟩
end Go.Proofs.YtijbaienhaiamaaGreatDoor
end

/- What is proved here: the program's list of operators, and what stands between an operator's two. No condition. -/
section
namespace Go.Proofs.YtijbaienhaiamaaGreatDoor.Ex
open Go.RowKit

def opsV : Array Value := #[.string ⟨#[]⟩, .nilFunc, .string ⟨#[43]⟩, .func (.func 188) #[] #[], .string ⟨#[45]⟩, .func (.func 189) #[] #[], .string ⟨#[42]⟩, .func (.func 190) #[] #[], .string ⟨#[60]⟩, .func (.func 191) #[] #[], .string ⟨#[61, 61]⟩, .func (.func 192) #[] #[], .string ⟨#[38]⟩, .func (.func 193) #[] #[], .string ⟨#[124]⟩, .func (.func 194) #[] #[]]
set_option maxHeartbeats 1000000 in
set_option maxRecDepth 100000 in
theorem impl_operators (w : World) :
    Calls Tryz.prog 153 #[] w fun e w' => e = .returned (.agg opsV) ∧ Below w.heap.size w w' := by
  go_enter Tryz.func153, Tryz.ntmps153
  go_wp2
  refine bodyPost_ret (results_cell_row rfl _ _ w.heap.size _ _ _ _ rfl (heap_at_new w (.cells opsV 187)) Tryz.underlying187 rfl (by kernel_rfl)) rfl ?_
  exact ⟨rfl, (Below.refl _ _).alloc (Nat.le_refl _) _⟩
theorem ops_at1 (w : World) : (Instr.index 187 (.agg opsV) (.int .i64 1)).run Tryz.prog w = .ok (.agg #[.string ⟨#[43]⟩, .func (.func 188) #[] #[]]) w := by kernel_rfl
theorem ops_at2 (w : World) : (Instr.index 187 (.agg opsV) (.int .i64 2)).run Tryz.prog w = .ok (.agg #[.string ⟨#[45]⟩, .func (.func 189) #[] #[]]) w := by kernel_rfl
theorem ops_at3 (w : World) : (Instr.index 187 (.agg opsV) (.int .i64 3)).run Tryz.prog w = .ok (.agg #[.string ⟨#[42]⟩, .func (.func 190) #[] #[]]) w := by kernel_rfl
theorem ops_at4 (w : World) : (Instr.index 187 (.agg opsV) (.int .i64 4)).run Tryz.prog w = .ok (.agg #[.string ⟨#[60]⟩, .func (.func 191) #[] #[]]) w := by kernel_rfl
theorem ops_at5 (w : World) : (Instr.index 187 (.agg opsV) (.int .i64 5)).run Tryz.prog w = .ok (.agg #[.string ⟨#[61, 61]⟩, .func (.func 192) #[] #[]]) w := by kernel_rfl
theorem ops_at6 (w : World) : (Instr.index 187 (.agg opsV) (.int .i64 6)).run Tryz.prog w = .ok (.agg #[.string ⟨#[38]⟩, .func (.func 193) #[] #[]]) w := by kernel_rfl
theorem ops_at7 (w : World) : (Instr.index 187 (.agg opsV) (.int .i64 7)).run Tryz.prog w = .ok (.agg #[.string ⟨#[124]⟩, .func (.func 194) #[] #[]]) w := by kernel_rfl
theorem op_sign (s : ByteArray) (f : Value) (w : World) : (Instr.field 186 (.agg #[.string s, f]) 0).run Tryz.prog w = .ok (.string s) w := by kernel_rfl
theorem op_func (s : ByteArray) (f : FuncId) (w : World) : (Instr.field 186 (.agg #[.string s, .func (.func f) #[] #[]]) 1).run Tryz.prog w = .ok (.func (.func f) #[] #[]) w := by kernel_rfl
end Go.Proofs.YtijbaienhaiamaaGreatDoor.Ex
end

/- What is proved here: the program's spacedSymbol. Condition: the number is an operator's. -/
section
namespace Go.Proofs.YtijbaienhaiamaaGreatDoor.Ex
open Go.RowKit

set_option maxHeartbeats 1000000 in
set_option maxRecDepth 100000 in
theorem impl_sign (n : Int) (h : inOp n = true) (w : World) :
    Calls Tryz.prog 144 #[.int .i64 n] w fun e w' => e = .returned (.string (str (signE n))) ∧ Below w.heap.size w w' := by
  have HO := impl_operators w
  unfold opsV at HO
  rcases (inOp_iff n).1 h with rfl | rfl | rfl | rfl | rfl | rfl | rfl
  · have k1 : ∀ w, (Op.stringOp .add ⟨#[32]⟩ ⟨#[43]⟩).run Tryz.prog w = .ok (.string ⟨#[32, 43]⟩) w := fun w => cat [32] [43] (by simp) w
    have k2 : ∀ w, (Op.stringOp .add ⟨#[32, 43]⟩ ⟨#[32]⟩).run Tryz.prog w = .ok (.string ⟨#[32, 43, 32]⟩) w := fun w => cat [32, 43] [32] (by simp) w
    have hix := ops_at1
    unfold opsV at hix
    have hif := op_sign
    clear h 
    go_enter Tryz.func144, Tryz.ntmps144
    go_wp2_with fail
    refine HO.mono ?_
    rintro e w1 ⟨rfl, hb1⟩
    have HB1 := Lib.hid hb1
    clear hb1 HO
    go_wp2
    go_ret
    exact ⟨rfl, HB1.out⟩
  · have k1 : ∀ w, (Op.stringOp .add ⟨#[32]⟩ ⟨#[45]⟩).run Tryz.prog w = .ok (.string ⟨#[32, 45]⟩) w := fun w => cat [32] [45] (by simp) w
    have k2 : ∀ w, (Op.stringOp .add ⟨#[32, 45]⟩ ⟨#[32]⟩).run Tryz.prog w = .ok (.string ⟨#[32, 45, 32]⟩) w := fun w => cat [32, 45] [32] (by simp) w
    have hix := ops_at2
    unfold opsV at hix
    have hif := op_sign
    clear h 
    go_enter Tryz.func144, Tryz.ntmps144
    go_wp2_with fail
    refine HO.mono ?_
    rintro e w1 ⟨rfl, hb1⟩
    have HB1 := Lib.hid hb1
    clear hb1 HO
    go_wp2
    go_ret
    exact ⟨rfl, HB1.out⟩
  · have k1 : ∀ w, (Op.stringOp .add ⟨#[32]⟩ ⟨#[42]⟩).run Tryz.prog w = .ok (.string ⟨#[32, 42]⟩) w := fun w => cat [32] [42] (by simp) w
    have k2 : ∀ w, (Op.stringOp .add ⟨#[32, 42]⟩ ⟨#[32]⟩).run Tryz.prog w = .ok (.string ⟨#[32, 42, 32]⟩) w := fun w => cat [32, 42] [32] (by simp) w
    have hix := ops_at3
    unfold opsV at hix
    have hif := op_sign
    clear h 
    go_enter Tryz.func144, Tryz.ntmps144
    go_wp2_with fail
    refine HO.mono ?_
    rintro e w1 ⟨rfl, hb1⟩
    have HB1 := Lib.hid hb1
    clear hb1 HO
    go_wp2
    go_ret
    exact ⟨rfl, HB1.out⟩
  · have k1 : ∀ w, (Op.stringOp .add ⟨#[32]⟩ ⟨#[60]⟩).run Tryz.prog w = .ok (.string ⟨#[32, 60]⟩) w := fun w => cat [32] [60] (by simp) w
    have k2 : ∀ w, (Op.stringOp .add ⟨#[32, 60]⟩ ⟨#[32]⟩).run Tryz.prog w = .ok (.string ⟨#[32, 60, 32]⟩) w := fun w => cat [32, 60] [32] (by simp) w
    have hix := ops_at4
    unfold opsV at hix
    have hif := op_sign
    clear h 
    go_enter Tryz.func144, Tryz.ntmps144
    go_wp2_with fail
    refine HO.mono ?_
    rintro e w1 ⟨rfl, hb1⟩
    have HB1 := Lib.hid hb1
    clear hb1 HO
    go_wp2
    go_ret
    exact ⟨rfl, HB1.out⟩
  · have k1 : ∀ w, (Op.stringOp .add ⟨#[32]⟩ ⟨#[61, 61]⟩).run Tryz.prog w = .ok (.string ⟨#[32, 61, 61]⟩) w := fun w => cat [32] [61, 61] (by simp) w
    have k2 : ∀ w, (Op.stringOp .add ⟨#[32, 61, 61]⟩ ⟨#[32]⟩).run Tryz.prog w = .ok (.string ⟨#[32, 61, 61, 32]⟩) w := fun w => cat [32, 61, 61] [32] (by simp) w
    have hix := ops_at5
    unfold opsV at hix
    have hif := op_sign
    clear h 
    go_enter Tryz.func144, Tryz.ntmps144
    go_wp2_with fail
    refine HO.mono ?_
    rintro e w1 ⟨rfl, hb1⟩
    have HB1 := Lib.hid hb1
    clear hb1 HO
    go_wp2
    go_ret
    exact ⟨rfl, HB1.out⟩
  · have k1 : ∀ w, (Op.stringOp .add ⟨#[32]⟩ ⟨#[38]⟩).run Tryz.prog w = .ok (.string ⟨#[32, 38]⟩) w := fun w => cat [32] [38] (by simp) w
    have k2 : ∀ w, (Op.stringOp .add ⟨#[32, 38]⟩ ⟨#[32]⟩).run Tryz.prog w = .ok (.string ⟨#[32, 38, 32]⟩) w := fun w => cat [32, 38] [32] (by simp) w
    have hix := ops_at6
    unfold opsV at hix
    have hif := op_sign
    clear h 
    go_enter Tryz.func144, Tryz.ntmps144
    go_wp2_with fail
    refine HO.mono ?_
    rintro e w1 ⟨rfl, hb1⟩
    have HB1 := Lib.hid hb1
    clear hb1 HO
    go_wp2
    go_ret
    exact ⟨rfl, HB1.out⟩
  · have k1 : ∀ w, (Op.stringOp .add ⟨#[32]⟩ ⟨#[124]⟩).run Tryz.prog w = .ok (.string ⟨#[32, 124]⟩) w := fun w => cat [32] [124] (by simp) w
    have k2 : ∀ w, (Op.stringOp .add ⟨#[32, 124]⟩ ⟨#[32]⟩).run Tryz.prog w = .ok (.string ⟨#[32, 124, 32]⟩) w := fun w => cat [32, 124] [32] (by simp) w
    have hix := ops_at7
    unfold opsV at hix
    have hif := op_sign
    clear h 
    go_enter Tryz.func144, Tryz.ntmps144
    go_wp2_with fail
    refine HO.mono ?_
    rintro e w1 ⟨rfl, hb1⟩
    have HB1 := Lib.hid hb1
    clear hb1 HO
    go_wp2
    go_ret
    exact ⟨rfl, HB1.out⟩
end Go.Proofs.YtijbaienhaiamaaGreatDoor.Ex
end

/- What is proved here: the program's readOperator. Condition: the reader lies in memory as said. -/
section
namespace Go.Proofs.YtijbaienhaiamaaGreatDoor.Ex
open Go.RowKit

/-- What readOperator ends as. -/
def OperatorEnd (b : Nat) (s : List UInt8) (m : Nat) (e : Ending) (w' : World) : Prop :=
  (∃ n r, inOp n = true ∧ s = signE n ++ r ∧ e = .returned (.tuple #[.int .i64 n, .bool true]) ∧ RdAt w' b TR r m 12 6) ∨ ((∀ n, inOp n = true → ∀ x, s ≠ signE n ++ x) ∧ e = .returned (.tuple #[.int .i64 0, .bool false]) ∧ RdAt w' b TR s m 12 6)
set_option maxHeartbeats 2000000 in
set_option maxRecDepth 100000 in
theorem impl_operator (w : World) (b : Nat) (s : List UInt8) (m : Nat) (h : RdAt w b TR s m 12 6) :
    Calls Tryz.prog 187 #[.pointer (some ⟨b, 0, none⟩)] w fun e w' => OperatorEnd b s m e w' ∧ Only (Just b) w w' := by
  have H0 := Lib.hid h
  clear h
  go_enter Tryz.func187, Tryz.ntmps187
  go_wp2
  go_loopw [4] (fun i wr => ∃ (n : Nat), i = .int .i64 n ∧ 1 ≤ n ∧ n ≤ 8 ∧ Hid (RdAt wr b TR s m 12 6) ∧ Hid (∀ k : Nat, 1 ≤ k → k < n → ∀ x, s ≠ signE (k : Int) ++ x) ∧ Hid (Only (Just b) w wr)) (fun i _ => 8 - (intOf i).toNat)
  case atStart => exact ⟨1, rfl, by omega, by omega, H0, fun k h1 h2 => by omega, Only.refl _ _⟩
  case round =>
    obtain ⟨n, rfl, h1, h8, hR, hno, hO⟩ := hrel
    by_cases hn : n ≤ 7
    · have hin : inOp (n : Int) = true := by unfold inOp; simp only [Bool.and_eq_true, decide_eq_true_eq]; omega
      have HIO := impl_inOp (n : Int) wr
      rw [hin] at HIO
      have HSG := impl_sign (n : Int) hin
      have HSK := fun W (hW : RdAt W b TR s m 12 6) => impl_skip W b TR s (signE (n : Int)) m 12 6 hW
      have HIN := Lib.hid hin
      clear hin
      rcases skip_cases s (signE (n : Int)) with ⟨e1, e2, e3⟩ | ⟨e1, e2⟩
      · have HNO : Hid (∀ k : Nat, 1 ≤ k → k < n + 1 → ∀ x, s ≠ signE (k : Int) ++ x) := fun k k1 k2 => by
          by_cases hk : k = n
          · subst hk; exact e2
          · exact hno.out k k1 (by omega)
        rw [e1, e3] at HSK
        clear e1 e2 e3 hno
        generalize str (signE (n : Int)) = us at *
        have HSG2 := Lib.hid HSG
        have HSK2 := Lib.hid HSK
        clear HSG HSK
        go_wp2_with fail
        refine HIO.mono ?_
        rintro e w1 ⟨rfl, rfl⟩
        clear HIO
        have HD : Hid (Below w1.heap.size w1 w1.drew) := (Below.refl _ _).drew
        go_wp2
        go_region_held3 (fun _ => True)
          (first
            | go_keep
            | trivial
            | fail "no arm")
          (first
            | (go_at_call 144; (with_reducible refine (HSG2.out w1.drew).mono ?_); rintro e w2 ⟨rfl, hb2⟩; have HB2 : Hid (Below w1.heap.size w1 w2) := Below.trans HD.out (hb2.mono HD.out.size); have HR2 := Lib.hid (RdAt.below (w := w1) (w' := w2) hR.out HB2.out); clear hb2)
            | (go_at_call 106; (with_reducible refine (HSK2.out w2 HR2.out).mono ?_); rintro e w3 ⟨rfl, hR3, hO3⟩; have HR3 := Lib.hid hR3; have HO3 : Hid (Only (Just b) w w3) := (hO.out.trans (Only.of_below HB2.out)).trans hO3; clear hR3 hO3)
            | fail "no arm")
        go_wp2
        go_roundw
        case rel => exact ⟨n + 1, by go_num, by omega, by omega, HR3, HNO, HO3⟩
        case measure => simp [intOf]; omega
      · rw [e1] at HSK
        generalize skipped s (signE (n : Int)) = r at *
        have HEQ := Lib.hid e2
        clear e1 e2 hno
        generalize str (signE (n : Int)) = us at *
        have HSG2 := Lib.hid HSG
        have HSK2 := Lib.hid HSK
        clear HSG HSK
        go_wp2_with fail
        refine HIO.mono ?_
        rintro e w1 ⟨rfl, rfl⟩
        clear HIO
        have HD : Hid (Below w1.heap.size w1 w1.drew) := (Below.refl _ _).drew
        go_wp2
        go_region_held3 (fun _ => True)
          (first
            | go_keep
            | trivial
            | fail "no arm")
          (first
            | (go_at_call 144; (with_reducible refine (HSG2.out w1.drew).mono ?_); rintro e w2 ⟨rfl, hb2⟩; have HB2 : Hid (Below w1.heap.size w1 w2) := Below.trans HD.out (hb2.mono HD.out.size); have HR2 := Lib.hid (RdAt.below (w := w1) (w' := w2) hR.out HB2.out); clear hb2)
            | (go_at_call 106; (with_reducible refine (HSK2.out w2 HR2.out).mono ?_); rintro e w3 ⟨rfl, hR3, hO3⟩; have HR3 := Lib.hid hR3; have HO3 : Hid (Only (Just b) w w3) := (hO.out.trans (Only.of_below HB2.out)).trans hO3; clear hR3 hO3)
            | fail "no arm")
        go_wp2
        go_ret2
        exact ⟨.inl ⟨n, r, HIN.out, HEQ.out, rfl, HR3.out⟩, HO3.out⟩
    · obtain rfl : n = 8 := by omega
      have hin : inOp ((8 : Nat) : Int) = false := by decide
      have HIO := impl_inOp ((8 : Nat) : Int) wr
      rw [hin] at HIO
      have HNO : Hid (∀ n, inOp n = true → ∀ x, s ≠ signE n ++ x) := fun n hn x => by
        rcases (inOp_iff n).1 hn with rfl | rfl | rfl | rfl | rfl | rfl | rfl
        · exact hno.out 1 (by omega) (by omega) x
        · exact hno.out 2 (by omega) (by omega) x
        · exact hno.out 3 (by omega) (by omega) x
        · exact hno.out 4 (by omega) (by omega) x
        · exact hno.out 5 (by omega) (by omega) x
        · exact hno.out 6 (by omega) (by omega) x
        · exact hno.out 7 (by omega) (by omega) x
      clear hno hin
      go_wp2_with fail
      refine HIO.mono ?_
      rintro e w1 ⟨rfl, rfl⟩
      clear HIO
      go_wp2
      go_ret2
      exact ⟨.inr ⟨HNO.out, rfl, hR.out⟩, hO.out⟩
end Go.Proofs.YtijbaienhaiamaaGreatDoor.Ex
end

/- What is proved here: the program's readOp. Condition: read answers as said at the next depth. -/
section
namespace Go.Proofs.YtijbaienhaiamaaGreatDoor.Ex
open Go.RowKit

abbrev boxOf (p : PatD) (v : Value) : Obj := .cells #[.int .i64 p.k, .int .i64 p.n, .string p.t, v] TP
set_option maxHeartbeats 2000000 in
set_option maxRecDepth 100000 in
theorem impl_readOp (b d : Nat) (HR : ReadOk b (d + 1)) (w : World) (r : List UInt8) (m : Nat) (hm : m + 1 ≤ 12) (hd : d ≤ 6) (h : RdAt w b TR r (m + 1) 12 6) (hl : r.length ≤ 1048576) (hk : KeepsE b w) :
    Calls Tryz.prog 146 #[.pointer (some ⟨b, 0, none⟩), .int .i64 (d : Int)] w fun e w' => Ans w b (40 :: r) m d e w' ∧ Only (Just b) w w' := by
  have hlt := h.lt
  obtain ⟨w1, hw1⟩ : ∃ w1, w1 = w.alloc zeroBox := ⟨_, rfl⟩
  have hb1 : PBox w1 w.heap.size 0 0 ⟨#[]⟩ (.slice none 0 0) := by rw [hw1]; exact heap_at_new w _
  have hB1 : Only (Just b) w w1 := by rw [hw1]; exact (Only.refl _ _).more _
  have hR1 : RdAt w1 b TR r (m + 1) 12 6 := by rw [hw1]; exact h.below ((Below.refl _ _).alloc (Nat.le_refl _) _)
  have hs1 : w1.heap.size = w.heap.size + 1 := by rw [hw1]; exact Array.size_push _
  have HR' : ∀ w2 s2 m2, RdAt w2 b TR s2 m2 12 6 → m2 ≤ 12 → s2.length ≤ 1048576 → KeepsE b w2 → Calls Tryz.prog 84 #[.pointer (some ⟨b, 0, none⟩), .int .i64 ((d : Int) + 1)] w2 fun e w' => Ans w2 b s2 m2 (d + 1) e w' ∧ Only (Just b) w2 w' :=
    fun w2 s2 m2 h1 h2 h3 h4 => HR w2 s2 m2 h1 h2 h3 h4
  have HRead := Lib.hid HR'
  have HC1 := Lib.hid (HR' w1 r (m + 1) hR1 hm hl (hk.on hB1))
  have HW1 := Lib.hid hw1
  have H1 : Hid (PBox w1 w.heap.size 0 0 ⟨#[]⟩ (.slice none 0 0) ∧ Only (Just b) w w1 ∧ w1.heap.size = w.heap.size + 1 ∧ b < w.heap.size ∧ KeepsE b w ∧ r.length ≤ 1048576 ∧ m + 1 ≤ 12) := ⟨hb1, hB1, hs1, hlt, hk, hl, hm⟩
  clear hw1 HR HR' hb1 hB1 hR1 hs1 hlt hk hl hm h
  go_enter Tryz.func146, Tryz.ntmps146
  go_wp2_with fail
  rw [← HW1.out]
  refine HC1.out.mono ?_
  clear HC1
  rintro e w2 ⟨hAns, hO2⟩
  obtain ⟨a1, a2, a3, a4, a5, a6, a7⟩ := H1.out
  have hs2 := hO2.size
  have hb2 : PBox w2 w.heap.size 0 0 ⟨#[]⟩ (.slice none 0 0) := (hO2.block _ (by omega) (by show ¬ (w.heap.size = b); omega)).trans a1
  have hO2' := a2.trans hO2
  clear HW1 H1 hO2
  rcases hAns with ⟨p, s2, m2, v, bs, rfl, ho, hnd, hbs, hR2, hP⟩ | ⟨s2, m2, rfl, hR2, hP⟩
  rotate_left
  · -- the first is none
    have hb3 : PBox (w2.alloc zeroBox) w.heap.size 0 0 ⟨#[]⟩ (.slice none 0 0) := (Below.heap_alloc _ _ _ (Array.getElem?_eq_some_iff.1 hb2).1).trans hb2
    have H3 : Hid (PBox (w2.alloc zeroBox) w.heap.size 0 0 ⟨#[]⟩ (.slice none 0 0) ∧ RdAt w2 b TR s2 m2 12 6 ∧ NoneP 12 (40 :: r) m d ∧ Only (Just b) w w2 ∧ b < w.heap.size) := ⟨hb3, hR2, op_none1 hP, hO2', a4⟩
    obtain ⟨x0, x1, x2, x3, f0, f1, f2, f3⟩ := four_cells hb3
    clear hb3 hb2 hP hR2 hO2' a1 a2 a3 a4 a5 a6 a7 hs2
    go_wp2
    refine bodyPost_ret (results_row_tmp rfl _ _ w.heap.size _ _ _ _ rfl (set4_box H3.out.1 _ _ _ _) Tryz.underlying54 rfl (by kernel_rfl)) rfl ?_
    have q3 := H3.out.2.2.2.2
    exact ans_none rfl (H3.out.2.1.below ((Below.refl _ _).alloc (Nat.le_refl _) _)) H3.out.2.2.1 (H3.out.2.2.2.1.more _) (Nat.le_refl _) (by omega)
  obtain ⟨p2, cap2, rfl, _, _⟩ := ho.reads
  obtain ⟨w3, hw3⟩ : ∃ w3, w3 = w2.alloc (boxOf p (.slice p2 p.F.length cap2)) := ⟨_, rfl⟩
  have hB3 : Below w2.heap.size w2 w3 := by rw [hw3]; exact (Below.refl _ _).alloc (Nat.le_refl _) _
  have hn3 : w3.heap[w2.heap.size]? = some (boxOf p (.slice p2 p.F.length cap2)) := by rw [hw3]; exact heap_at_new w2 _
  have hs3 : w3.heap.size = w2.heap.size + 1 := by rw [hw3]; exact Array.size_push _
  have hR3 := hR2.below hB3
  have HS := Lib.hid (impl_operator w3 b s2 m2 hR3)
  have hb3 := (hB3.block _ (Array.getElem?_eq_some_iff.1 hb2).1).trans hb2
  have hO3 := hO2'.trans (Only.of_below (F := Just b) hB3)
  have ho3 := ho.keep (fun c hc => hB3.block c (hbs c hc).2)
  have HW3 := Lib.hid hw3
  obtain ⟨z0, z1, z2, z3, j0, j1, j2, j3⟩ := four_cells (heap_at_new w2 (boxOf p (.slice p2 p.F.length cap2)))
  have hsl : s2.length ≤ r.length := by have := congrArg List.length hP.text; rw [List.length_append] at this; omega
  have H3 : Hid (PBox w3 w.heap.size 0 0 ⟨#[]⟩ (.slice none 0 0) ∧ Only (Just b) w w3 ∧ b < w.heap.size ∧ KeepsE b w ∧ s2.length ≤ 1048576 ∧ m + 1 ≤ 12 ∧ w3.heap.size = w2.heap.size + 1 ∧ w.heap.size + 1 ≤ w2.heap.size) := ⟨hb3, hO3, a4, a5, by omega, a7, hs3, by omega⟩
  have H3b : Hid (OwnV w3 (.slice p2 p.F.length cap2) p.F bs ∧ bs.Nodup ∧ (∀ c ∈ bs, w1.heap.size ≤ c ∧ c < w2.heap.size) ∧ OkP 12 r (m + 1) (d + 1) p s2 m2 ∧ w3.heap[w2.heap.size]? = some (boxOf p (.slice p2 p.F.length cap2)) ∧ w1.heap.size = w.heap.size + 1) := ⟨ho3, hnd, hbs, hP, hn3, a3⟩
  clear hw3 hB3 hn3 hs3 hR3 hb3 hO3 ho3 ho hnd hbs hR2 hP hb2 hO2' a1 a2 a3 a4 a5 a6 a7 hs2 hsl
  go_wp2_with fail
  rw [← HW3.out]
  refine HS.out.mono ?_
  clear HS
  rintro e w4 ⟨hOp, hO4⟩
  rcases hOp with ⟨n, r1, hop, rfl, rfl, hR4⟩ | ⟨hno, rfl, hR4⟩
  rotate_left
  · -- no operator
    have HN := Lib.hid (op_none2 H3b.out.2.2.2.1 hno)
    clear hno HRead
    have hb4 : PBox w4 w.heap.size 0 0 ⟨#[]⟩ (.slice none 0 0) := (hO4.block _ (by have := H3.out; omega) (by have := H3.out.2.2.1; show ¬ (w.heap.size = b); omega)).trans H3.out.1
    have H4 : Hid (PBox w4 w.heap.size 0 0 ⟨#[]⟩ (.slice none 0 0) ∧ RdAt w4 b TR s2 m2 12 6 ∧ Only (Just b) w w4) := ⟨hb4, hR4, H3.out.2.1.trans hO4⟩
    clear z0 z1 z2 z3 j0 j1 j2 j3
    obtain ⟨x0, x1, x2, x3, f0, f1, f2, f3⟩ := four_cells hb4
    clear hb4 hR4 hO4
    go_wp2
    refine bodyPost_ret (results_row_tmp rfl _ _ w.heap.size _ _ _ _ rfl (set4_box H4.out.1 _ _ _ _) Tryz.underlying54 rfl (by kernel_rfl)) rfl ?_
    have q3 := H3.out.2.2.1
    exact ans_none rfl H4.out.2.1 HN.out H4.out.2.2 (Nat.le_refl _) (by omega)
  · have HOP : Hid (inOp n = true) := hop
    have hsg : r1.length ≤ (signE n ++ r1).length := by rw [List.length_append]; omega
    clear z0 z1 z2 z3 j0 j1 j2 j3 hop
    obtain ⟨a1, a2, a3, a4, a5, a6, a7, a8⟩ := H3.out
    obtain ⟨c1, c2, c3, c4, c5, c6⟩ := H3b.out
    have hs4 := hO4.size
    have k4 : ∀ c, c < w3.heap.size → c ≠ b → w4.heap[c]? = w3.heap[c]? := fun c hc hn => hO4.block c hc hn
    have hm2 : m2 ≤ 12 := by have h1 := c4.nodes; have h2 := c4.fits.1; omega
    have hr1 : r1.length ≤ 1048576 := by omega
    have HC4 := Lib.hid (HRead.out w4 r1 m2 hR4 hm2 hr1 ((a4.on a2).on hO4))
    have H4 : Hid (PBox w4 w.heap.size 0 0 ⟨#[]⟩ (.slice none 0 0) ∧ Only (Just b) w w4 ∧ w3.heap.size ≤ w4.heap.size ∧ w4.heap[w2.heap.size]? = some (boxOf p (.slice p2 p.F.length cap2)) ∧ OwnV w4 (.slice p2 p.F.length cap2) p.F bs) :=
      ⟨(k4 _ (by omega) (by omega)).trans a1, a2.trans hO4, hs4, (k4 _ (by omega) (by omega)).trans c5, c1.keep (fun c hc => k4 c (by have := c3 c hc; omega) (by have := c3 c hc; omega))⟩
    clear a1 a2 a3 a4 a5 a6 a7 a8 c1 c2 c3 c4 c5 c6 hs4 k4 hm2 hr1 hsg HRead hR4 hO4
    go_wp2_with fail
    refine HC4.out.mono ?_
    clear HC4
    rintro e w5 ⟨hAns, hO5⟩
    obtain ⟨a1, a2, a3, a4, a5, a6, a7, a8⟩ := H3.out
    obtain ⟨c1, c2, c3, c4, c5⟩ := H4.out
    have hs5 := hO5.size
    have k5 : ∀ c, c < w4.heap.size → c ≠ b → w5.heap[c]? = w4.heap[c]? := fun c hc hn => hO5.block c hc hn
    have hb5 : PBox w5 w.heap.size 0 0 ⟨#[]⟩ (.slice none 0 0) := (k5 _ (by omega) (by omega)).trans c1
    have hx5 := (k5 w2.heap.size (by omega) (by omega)).trans c4
    have ho5 := c5.keep (fun c hc => k5 c (by have := H3b.out.2.2.1 c hc; omega) (by have := H3b.out.2.2.1 c hc; have := H3b.out.2.2.2.2.2; omega))
    have hO5' := c2.trans hO5
    rcases hAns with ⟨q, s5, m5, u, bs2, rfl, hq, hnd2, hbs2, hR5, hQ⟩ | ⟨s5, m5, rfl, hR5, hQ⟩
    rotate_left
    · have hb6 : PBox (w5.alloc zeroBox) w.heap.size 0 0 ⟨#[]⟩ (.slice none 0 0) := (Below.heap_alloc _ _ _ (Array.getElem?_eq_some_iff.1 hb5).1).trans hb5
      have H6 : Hid (PBox (w5.alloc zeroBox) w.heap.size 0 0 ⟨#[]⟩ (.slice none 0 0) ∧ RdAt w5 b TR s5 m5 12 6 ∧ NoneP 12 (40 :: r) m d ∧ Only (Just b) w w5 ∧ b < w.heap.size) := ⟨hb6, hR5, op_none3 HOP.out H3b.out.2.2.2.1 hQ, hO5', a3⟩
      obtain ⟨x0, x1, x2, x3, f0, f1, f2, f3⟩ := four_cells hb6
      clear hb6 hb5 hQ hR5 hO5' a1 a2 a3 a4 a5 a6 a7 a8 c1 c2 c3 c4 c5 hs5 k5 hx5 ho5 hO5
      go_wp2
      refine bodyPost_ret (results_row_tmp rfl _ _ w.heap.size _ _ _ _ rfl (set4_box H6.out.1 _ _ _ _) Tryz.underlying54 rfl (by kernel_rfl)) rfl ?_
      have q3 := H6.out.2.2.2.2
      exact ans_none rfl (H6.out.2.1.below ((Below.refl _ _).alloc (Nat.le_refl _) _)) H6.out.2.2.1 (H6.out.2.2.2.1.more _) (Nat.le_refl _) (by omega)
    obtain ⟨p4, cap4, rfl, _, _⟩ := hq.reads
    obtain ⟨w6, hw6⟩ : ∃ w6, w6 = w5.alloc (boxOf q (.slice p4 q.F.length cap4)) := ⟨_, rfl⟩
    have hB6 : Below w5.heap.size w5 w6 := by rw [hw6]; exact (Below.refl _ _).alloc (Nat.le_refl _) _
    have hn6 : w6.heap[w5.heap.size]? = some (boxOf q (.slice p4 q.F.length cap4)) := by rw [hw6]; exact heap_at_new w5 _
    have hs6 : w6.heap.size = w5.heap.size + 1 := by rw [hw6]; exact Array.size_push _
    have HS := impl_skip w6 b TR s5 [41] m5 12 6 (hR5.below hB6)
    obtain ⟨z0, z1, z2, z3, j0, j1, j2, j3⟩ := four_cells (heap_at_new w5 (boxOf q (.slice p4 q.F.length cap4)))
    have k6 : ∀ c, c < w5.heap.size → w6.heap[c]? = w5.heap[c]? := fun c hc => hB6.block c hc
    have H6 : Hid (PBox w6 w.heap.size 0 0 ⟨#[]⟩ (.slice none 0 0) ∧ Only (Just b) w w6 ∧ w6.heap[w2.heap.size]? = some (boxOf p (.slice p2 p.F.length cap2)) ∧ w6.heap[w5.heap.size]? = some (boxOf q (.slice p4 q.F.length cap4)) ∧ w6.heap.size = w5.heap.size + 1 ∧ w4.heap.size ≤ w5.heap.size ∧ w3.heap.size ≤ w4.heap.size) :=
      ⟨(k6 _ (by omega)).trans hb5, hO5'.trans (Only.of_below hB6), (k6 _ (by omega)).trans hx5, hn6, hs6, hs5, c3⟩
    have H6b : Hid (OwnV w6 (.slice p2 p.F.length cap2) p.F bs ∧ OwnV w6 (.slice p4 q.F.length cap4) q.F bs2 ∧ bs2.Nodup ∧ (∀ c ∈ bs2, w4.heap.size ≤ c ∧ c < w5.heap.size) ∧ OkP 12 r1 m2 (d + 1) q s5 m5) :=
      ⟨ho5.keep (fun c hc => k6 c (by have := H3b.out.2.2.1 c hc; omega)), hq.keep (fun c hc => k6 c (hbs2 c hc).2), hnd2, hbs2, hQ⟩
    have HW6 := Lib.hid hw6
    clear hw6 hB6 hn6 hs6 k6 a1 a2 a3 a4 a5 a6 a7 a8 c1 c2 c3 c4 c5 hs5 k5 hx5 ho5 hO5 hb5 hq hnd2 hbs2 hR5 hQ hO5'
    go_wp2_with fail
    rw [← HW6.out]
    rcases skip_cases s5 [41] with ⟨e1, e2, e3⟩ | ⟨e1, e2⟩
    · rw [e1, e3] at HS
      have HN := Lib.hid (op_none4 HOP.out H3b.out.2.2.2.1 H6b.out.2.2.2.2 (fun x => e2 x))
      clear e1 e2 e3
      refine HS.mono ?_
      rintro e w7 ⟨rfl, hR7, hO7⟩
      have hb7 : PBox w7 w.heap.size 0 0 ⟨#[]⟩ (.slice none 0 0) := (hO7.block _ (by have := H3.out; have := H6.out; omega) (by have := H3.out.2.2.1; show ¬ (w.heap.size = b); omega)).trans H6.out.1
      have H7 : Hid (PBox w7 w.heap.size 0 0 ⟨#[]⟩ (.slice none 0 0) ∧ RdAt w7 b TR s5 m5 12 6 ∧ Only (Just b) w w7) := ⟨hb7, hR7, H6.out.2.1.trans hO7⟩
      clear z0 z1 z2 z3 j0 j1 j2 j3
      obtain ⟨x0, x1, x2, x3, f0, f1, f2, f3⟩ := four_cells hb7
      clear hb7 hR7 hO7 HS
      go_wp2
      refine bodyPost_ret (results_row_tmp rfl _ _ w.heap.size _ _ _ _ rfl (set4_box H7.out.1 _ _ _ _) Tryz.underlying54 rfl (by kernel_rfl)) rfl ?_
      have q3 := H3.out.2.2.1
      exact ans_none rfl H7.out.2.1 HN.out H7.out.2.2 (Nat.le_refl _) (by omega)
    · rw [e1] at HS
      generalize skipped s5 [41] = r2 at *
      have e4 : s5 = 41 :: r2 := e2
      subst e4
      clear e1 e2
      refine HS.mono ?_
      rintro e w7 ⟨rfl, hR7, hO7⟩
      clear z0 z1 z2 z3 j0 j1 j2 j3 HS
      obtain ⟨a1, a2, a3, a4, a5, a6, a7, a8⟩ := H3.out
      obtain ⟨c1, c2, c3, c4, c5, c6, c7⟩ := H6.out
      obtain ⟨g1, g2, g3, g4, g5⟩ := H6b.out
      have hs7 := hO7.size
      have k7 : ∀ c, c < w6.heap.size → c ≠ b → w7.heap[c]? = w6.heap[c]? := fun c hc hn => hO7.block c hc hn
      have hrow := heap_at_new w7 (.cells #[.int .i64 p.k, .int .i64 p.n, .string p.t, .slice p2 p.F.length cap2, .int .i64 q.k, .int .i64 q.n, .string q.t, .slice p4 q.F.length cap4] TP)
      have hB8 : Below w7.heap.size w7 (w7.alloc (.cells #[.int .i64 p.k, .int .i64 p.n, .string p.t, .slice p2 p.F.length cap2, .int .i64 q.k, .int .i64 q.n, .string q.t, .slice p4 q.F.length cap4] TP)) := (Below.refl _ _).alloc (Nat.le_refl _) _
      have hs8 : (w7.alloc (.cells #[.int .i64 p.k, .int .i64 p.n, .string p.t, .slice p2 p.F.length cap2, .int .i64 q.k, .int .i64 q.n, .string q.t, .slice p4 q.F.length cap4] TP)).heap.size = w7.heap.size + 1 := Array.size_push _
      have hb7 : PBox w7 w.heap.size 0 0 ⟨#[]⟩ (.slice none 0 0) := (k7 _ (by omega) (by omega)).trans c1
      obtain ⟨x0, x1, x2, x3, _, _, _, _⟩ := four_cells ((k7 w2.heap.size (by omega) (by omega)).trans c3)
      obtain ⟨y0, y1, y2, y3, _, _, _, _⟩ := four_cells ((k7 w5.heap.size (by omega) (by omega)).trans c4)
      have hb8 := (hB8.block _ (Array.getElem?_eq_some_iff.1 hb7).1).trans hb7
      obtain ⟨i0, i1, i2, i3, f0, f1, f2, f3⟩ := four_cells hb8
      have o1 := (g1.keep (fun c hc => k7 c (by have := H3b.out.2.2.1 c hc; omega) (by have := H3b.out.2.2.1 c hc; have := H3b.out.2.2.2.2.2; omega)))
      have o2 := (g2.keep (fun c hc => k7 c (by have := g4 c hc; omega) (by have := g4 c hc; omega)))
      have l1 : ∀ c ∈ bs, c < w7.heap.size := fun c hc => by have := H3b.out.2.2.1 c hc; omega
      have l2 : ∀ c ∈ bs2, c < w7.heap.size := fun c hc => by have := g4 c hc; omega
      have H8 := Lib.hid (And.intro hb8 (own_two hrow (o1.keep (fun c hc => hB8.block c (l1 c hc))) (o2.keep (fun c hc => hB8.block c (l2 c hc)))))
      have H8b : Hid (RdAt (w7.alloc (.cells #[.int .i64 p.k, .int .i64 p.n, .string p.t, .slice p2 p.F.length cap2, .int .i64 q.k, .int .i64 q.n, .string q.t, .slice p4 q.F.length cap4] TP)) b TR r2 m5 12 6 ∧ Only (Just b) w (w7.alloc (.cells #[.int .i64 p.k, .int .i64 p.n, .string p.t, .slice p2 p.F.length cap2, .int .i64 q.k, .int .i64 q.n, .string q.t, .slice p4 q.F.length cap4] TP)) ∧ w6.heap.size ≤ w7.heap.size ∧ (w7.alloc (.cells #[.int .i64 p.k, .int .i64 p.n, .string p.t, .slice p2 p.F.length cap2, .int .i64 q.k, .int .i64 q.n, .string q.t, .slice p4 q.F.length cap4] TP)).heap.size = w7.heap.size + 1) :=
        ⟨hR7.below hB8, (c2.trans hO7).more _, hs7, hs8⟩
      clear a1 a2 a3 a4 a5 a6 a7 a8 c1 c2 c3 c4 c5 c6 c7 g1 g2 g3 g4 g5 hs7 k7 hrow hB8 hs8 hb7 hb8 o1 o2 l1 l2 hR7 hO7
      go_wp2
      refine bodyPost_ret (results_row_tmp rfl _ _ w.heap.size _ _ _ _ rfl (set4_box H8.out.1 _ _ _ _) Tryz.underlying54 rfl (by kernel_rfl)) rfl ?_
      obtain ⟨a1, a2, a3, a4, a5, a6, a7, a8⟩ := H3.out
      obtain ⟨c1, c2, c3, c4, c5, c6, c7⟩ := H6.out
      obtain ⟨b1, b2, b3, b4, b5, b6⟩ := H3b.out
      obtain ⟨g1, g2, g3, g4, g5⟩ := H6b.out
      obtain ⟨t1, t2, t3, t4⟩ := H8b.out
      refine ans_some (p := ⟨3, n, ⟨#[]⟩, p.one (q.one .nil)⟩) rfl H8.out.2 (List.nodup_cons.2 ⟨fun hc => ?_, List.nodup_append.2 ⟨b2, g3, fun x hx y hy e => ?_⟩⟩) (fun c hc => ?_) (fun c hc => ?_) t1 (op_ok HOP.out b4 g5) t2 (Nat.le_refl _) (by omega)
      · rcases List.mem_append.1 hc with hc | hc
        · have := b3 _ hc; omega
        · have := g4 _ hc; omega
      · have := b3 _ hx; have := g4 _ hy; omega
      · rcases List.mem_cons.1 hc with rfl | hc
        · exact ⟨by omega, Nat.lt_of_lt_of_eq (Nat.lt_succ_self _) t4.symm⟩
        · rcases List.mem_append.1 hc with hc | hc
          · have := b3 _ hc; exact ⟨by omega, Nat.lt_of_lt_of_eq (m := w7.heap.size + 1) (by omega) t4.symm⟩
          · have := g4 _ hc; exact ⟨by omega, Nat.lt_of_lt_of_eq (m := w7.heap.size + 1) (by omega) t4.symm⟩
      · rcases List.mem_cons.1 hc with rfl | hc
        · omega
        · rcases List.mem_append.1 hc with hc | hc
          · have := b3 _ hc; omega
          · have := g4 _ hc; omega
end Go.Proofs.YtijbaienhaiamaaGreatDoor.Ex
end
