/- What is proved here: a piece of the proof of YtijbaienhaiamaaGreatDoorGuards (Base, Cursor, Big, Reads, SigBase, Trees). Condition: none beyond what each part says. -/
import Derived.Test.YtijbaienhaiamaaGreatDoorRows
import Derived.ProofKit
import Derived.Carry
import Derived.Test.YtijbaienhaiamaaGreatDoorProg
import Derived.WalkKit
import Derived.OpenShut
import Derived.Below
import Derived.Laws.AppendOwn
import Derived.Deep.Draws
import Derived.Deep.QuietTactic
import Derived.BigQuiet
import Derived.WalkLawsBesides
import Derived.WalkSpells
import Derived.Outline
import Derived.Lib.Hide
import Derived.Lib.Walk
import Derived.OwnWalk
import Derived.Laws.BitsLemmas
import Derived.Maps.AppendAt
import Derived.Maps.RangeWalk
import Derived.Laws.OwnMore
import Derived.Laws.MakeOwn

/- What is proved here: small closed facts of this program and of integers. No condition. -/
section
namespace Go.Proofs.YtijbaienhaiamaaGreatDoor
open Go.ChangeShapes Go.WideShapes Go.ChangeAt Go.RowKit

theorem own : ownKnob Tryz.prog.godebug = none := by kernel_rfl
theorem laidOut : laidOutB Tryz.prog = true := by kernel_rfl
theorem wf_i64 {n : Int} (h : (Lit.int .i64 n).wf = true) : -9223372036854775808 ≤ n ∧ n ≤ 9223372036854775807 := by
  have e1 : IntKind.i64.min = -9223372036854775808 := by decide
  have e2 : IntKind.i64.max = 9223372036854775807 := by decide
  simp only [Lit.wf, Bool.and_eq_true, decide_eq_true_eq, e1, e2] at h
  exact h
theorem wf_u8 {n : Int} (h : (Lit.int .u8 n).wf = true) : 0 ≤ n ∧ n ≤ 255 := by
  have e1 : IntKind.u8.min = 0 := by decide
  have e2 : IntKind.u8.max = 255 := by decide
  simp only [Lit.wf, Bool.and_eq_true, decide_eq_true_eq, e1, e2] at h
  exact h
end Go.Proofs.YtijbaienhaiamaaGreatDoor
end

/- What is proved here: the cursor of package spec (l1New, l1Byte, l1Below) returns, changes no block but its own, and its numbers lie within their bounds. Condition: the cursor's block holds a cursor. -/
section
namespace Go.Proofs.YtijbaienhaiamaaGreatDoor
open Go.RowKit

/-- What the walk is told of a slice of integers that came in. -/
def IsRow (k : IntKind) (w : World) (a : Option Addr) (len cap : Nat) (zs : List Int) : Prop :=
  (a = none ∧ len = 0 ∧ cap = 0 ∧ zs = []) ∨
  ∃ x, a = some x ∧ len ≤ cap ∧ cap ≤ maxLen ∧ zs.length = cap ∧ (∀ i, i < zs.length → w.cell? (x.add i) = some (.int k (zs.getD i 0))) ∧ ∀ n ∈ zs, (Lit.int k n).wf = true

/-- Block N is a cursor over bytes. -/
structure IsCur (N : Nat) (w : World) (a : Option Addr) (len cap : Nat) (zs : List Int) (i : Nat) (h : Int) : Prop where
  block : w.heap[N]? = some (.cells #[.slice a len cap, .int .i64 (i : Int), .int .i64 h] 123 (0, 0))
  row : IsRow .u8 w a len cap zs
  at_le : i ≤ len
  far : ∀ x, a = some x → 0 < cap → x.block < N
  lo : -9223372036854775808 ≤ h
  hi : h ≤ 9223372036854775807

theorem add_block (x : Addr) (i : Nat) : (x.add i).block = x.block := by unfold Addr.add; split <;> rfl

theorem i64_and255 (n : Int) : bits .and .i64 n 255 = n % 256 := by
  have h255 : (BitVec.ofInt 64 255).toNat = 2 ^ 8 - 1 := by decide
  have key : (BitVec.ofInt 64 n &&& BitVec.ofInt 64 255).toNat = (n % ((2 ^ 64 : Nat) : Int)).toNat % 2 ^ 8 := by
    rw [BitVec.toNat_and, BitVec.toNat_ofInt, h255, Nat.and_two_pow_sub_one_eq_mod]
  show IntKind.i64.wrap ((BitVec.ofInt 64 n &&& BitVec.ofInt 64 255).toNat : Nat) = n % 256
  rw [key, IntKind.wrap_i64]
  omega
theorem i64_and30 (n : Int) : bits .and .i64 n 1073741823 = n % 1073741824 := by
  have h30 : (BitVec.ofInt 64 1073741823).toNat = 2 ^ 30 - 1 := by decide
  have key : (BitVec.ofInt 64 n &&& BitVec.ofInt 64 1073741823).toNat = (n % ((2 ^ 64 : Nat) : Int)).toNat % 2 ^ 30 := by
    rw [BitVec.toNat_and, BitVec.toNat_ofInt, h30, Nat.and_two_pow_sub_one_eq_mod]
  show IntKind.i64.wrap ((BitVec.ofInt 64 n &&& BitVec.ofInt 64 1073741823).toNat : Nat) = n % 1073741824
  rw [key, IntKind.wrap_i64]
  omega

theorem set_block (w : World) (N : Nat) (x y z v : Value) (T : TypeId) (hb : w.heap[N]? = some (.cells #[x, y, z] T (0, 0))) : (w.setCell ⟨N, 2, none⟩ v).heap[N]? = some (.cells #[x, y, v] T (0, 0)) := by
  simp [World.setCell, Array.getElem?_modify, hb]
theorem set_block1 (w : World) (N : Nat) (x y z v : Value) (T : TypeId) (hb : w.heap[N]? = some (.cells #[x, y, z] T (0, 0))) : (w.setCell ⟨N, 1, none⟩ v).heap[N]? = some (.cells #[x, v, z] T (0, 0)) := by
  simp [World.setCell, Array.getElem?_modify, hb]
theorem grown_set (w : World) (N o : Nat) (v : Value) : w.grownBy (w.setCell ⟨N, o, none⟩ v) (some N) :=
  ⟨rfl, rfl, rfl, by simp [World.setCell], fun k _ hne => Below.heap_setCell w ⟨N, o, none⟩ v k (fun e => hne (by rw [e]))⟩
theorem grown_drewN (w : World) (n : Nat) (row : Option Nat) : w.grownBy (w.drewN n) row := ⟨rfl, rfl, rfl, Nat.le_refl _, fun _ _ _ => rfl⟩

theorem cur_cells {w : World} {N : Nat} {x y z : Value} {T : TypeId} (hb : w.heap[N]? = some (.cells #[x, y, z] T (0, 0))) :
    w.cell? ⟨N, 0, none⟩ = some x ∧ w.cell? ⟨N, 1, none⟩ = some y ∧ w.cell? ⟨N, 2, none⟩ = some z ∧ ∀ o, w.frozen? ⟨N, o, none⟩ = false := by
  refine ⟨?_, ?_, ?_, fun o => ?_⟩ <;> simp [World.cell?, World.frozen?, hb]

/-- Block N is a cursor, whatever it holds. -/
def Cur (N : Nat) (w : World) : Prop := ∃ a len cap zs i h, IsCur N w a len cap zs i h
/-- What the cursor's functions do to the world. -/
def CurStep (N : Nat) (w w' : World) : Prop := Cur N w' ∧ w.grownBy w' (some N)
theorem CurStep.trans {N : Nat} {a b c : World} (h : CurStep N a b) (k : CurStep N b c) : CurStep N a c := ⟨k.1, h.2.trans k.2⟩

theorem row_lt {k : IntKind} {w : World} {a : Option Addr} {len cap : Nat} {zs : List Int} (h : IsRow k w a len cap zs) : ∀ x, a = some x → 0 < cap → x.block < w.heap.size := by
  intro x hx hc
  rcases h with ⟨_, _, e, _⟩ | ⟨y, rfl, h1, h2, h3, h4, h5⟩
  · omega
  · injection hx with hx
    subst hx
    have hcell := h4 0 (by omega)
    rcases Nat.lt_or_ge y.block w.heap.size with h | h
    · exact h
    · have e : (y.add 0).block = y.block := add_block y 0
      simp [World.cell?, e, Array.getElem?_eq_none h] at hcell
theorem row_stays {k : IntKind} {w w' : World} {a : Option Addr} {len cap : Nat} {zs : List Int} {row : Option Nat} (h : IsRow k w a len cap zs) (hg : w.grownBy w' row) (hne : ∀ x, a = some x → 0 < cap → some x.block ≠ row) : IsRow k w' a len cap zs := by
  have hlt := row_lt h
  rcases h with h | ⟨x, rfl, h1, h2, h3, h4, h5⟩
  · exact .inl h
  · refine .inr ⟨x, rfl, h1, h2, h3, fun i hi => ?_, h5⟩
    rw [← h4 i hi]
    have e := add_block x i
    exact World.cell?_of_block (by rw [e]; exact hg.block x.block (hlt x rfl (by omega)) (hne x rfl (by omega)))

/-- The cursor stays where nothing touches its block. -/
theorem Cur.stays {N : Nat} {w w' : World} (h : Cur N w) (hg : w.grownBy w' none) : Cur N w' := by
  obtain ⟨a, len, cap, zs, i, h', hc⟩ := h
  have hN : N < w.heap.size := by
    rcases Nat.lt_or_ge N w.heap.size with h | h
    · exact h
    · have := hc.block
      rw [Array.getElem?_eq_none h] at this
      cases this
  exact ⟨a, len, cap, zs, i, h', ⟨by rw [hg.block N hN (by simp)]; exact hc.block, row_stays hc.row hg (fun x _ _ => by simp), hc.at_le, hc.far, hc.lo, hc.hi⟩⟩

theorem isCur_step {N : Nat} {w w' : World} {a : Option Addr} {len cap : Nat} {zs : List Int} {i j : Nat} {h h' : Int} (hc : IsCur N w a len cap zs i h) (hg : w.grownBy w' (some N))
    (hb : w'.heap[N]? = some (.cells #[.slice a len cap, .int .i64 (j : Int), .int .i64 h'] 123 (0, 0))) (hj : j ≤ len) (h0 : -9223372036854775808 ≤ h') (h1 : h' ≤ 9223372036854775807) : CurStep N w w' := by
  have hN : N < w.heap.size := by
    rcases Nat.lt_or_ge N w.heap.size with h | h
    · exact h
    · have := hc.block
      rw [Array.getElem?_eq_none h] at this
      cases this
  exact ⟨⟨a, len, cap, zs, j, h', ⟨hb, row_stays hc.row hg (fun x e h0 => by have := hc.far x e h0; intro he; injection he with he; omega), hj, hc.far, h0, h1⟩⟩, hg⟩

/-- A number below b comes back, and the cursor's step is done. -/
def NumBelow (N : Nat) (b : Int) (w : World) (e : Ending) (w' : World) : Prop := ∃ n : Int, 0 ≤ n ∧ n < b ∧ e = .returned (.int .i64 n) ∧ CurStep N w w'

set_option maxHeartbeats 1000000 in
set_option maxRecDepth 100000 in
theorem byte_end (N : Nat) (w : World) (a : Option Addr) (len cap : Nat) (zs : List Int) (i : Nat) (h : Int) (hc : IsCur N w a len cap zs i h) (hlen : ¬ i < len) :
    Calls Tryz.prog 158 #[.pointer (some ⟨N, 0, none⟩)] w (NumBelow N 256 w) := by
  have hb := hc.block
  obtain ⟨c0, c1, c2, f0⟩ := cur_cells hb
  have l0 := hc.lo
  have l1 := hc.hi
  have HB := Lib.hid hb
  clear hb
  have HC := Lib.hid hc
  have hat := hc.at_le
  have hil : decide ((i : Int) < (len : Int)) = false := by simpa using hlen
  clear hc
  go_enter Tryz.func158, Tryz.ntmps158
  go_wp2
  generalize hh : wrap64 (wrap64 (h * 6364136223846793005) + 1442695040888963407) = h'
  have hr : -9223372036854775808 ≤ h' ∧ h' ≤ 9223372036854775807 := by rw [← hh]; unfold wrap64; omega
  have HH := Lib.hid hh
  clear hh c0 c1 c2 f0
  have hb1 := set_block w N _ _ _ (.int .i64 h') _ HB.out
  have hg1 := grown_set w N 2 (.int .i64 h')
  generalize w.setCell ⟨N, 2, none⟩ (.int .i64 h') = w1 at hb1 hg1
  obtain ⟨c0, c1, c2, f0⟩ := cur_cells hb1
  have HB1 := Lib.hid hb1
  have HG1 := Lib.hid hg1
  clear hb1 hg1
  obtain ⟨r0, r1⟩ := hr
  go_quiet (fail)
  rw [i64_and255]
  generalize bits BinOp.xor IntKind.i64 (h' / 8589934592) (h' / 35184372088832) = x
  go_wp2
  go_quiet (fail)
  go_wp2
  go_ret
  refine ⟨x % 256, by omega, by omega, rfl, isCur_step HC.out ((HG1.out.trans (grown_drewN _ _ _)).trans (grown_drewN _ _ _)) HB1.out hat r0 r1⟩

set_option maxHeartbeats 1000000 in
set_option maxRecDepth 100000 in
theorem byte_more (N : Nat) (w : World) (a : Option Addr) (len cap : Nat) (zs : List Int) (i : Nat) (h : Int) (hc : IsCur N w a len cap zs i h) (hlen : i < len) :
    Calls Tryz.prog 158 #[.pointer (some ⟨N, 0, none⟩)] w (NumBelow N 256 w) := by
  have hb := hc.block
  obtain ⟨c0, c1, c2, f0⟩ := cur_cells hb
  have l0 := hc.lo
  have l1 := hc.hi
  have HB := Lib.hid hb
  clear hb
  have HC := Lib.hid hc
  have hat := hc.at_le
  have hil : decide ((i : Int) < (len : Int)) = true := by simpa using hlen
  obtain ⟨y, rfl, hcap⟩ : ∃ y, a = some y ∧ cap ≤ maxLen := by
    rcases hc.row with ⟨_, e, _⟩ | ⟨x, e, _, hm, _⟩
    · omega
    · exact ⟨x, e, hm⟩
  unfold maxLen at hcap
  have hrow : len ≤ cap ∧ zs.length = cap ∧ (∀ i, i < zs.length → w.cell? (y.add i) = some (.int .u8 (zs.getD i 0))) ∧ ∀ n ∈ zs, (Lit.int .u8 n).wf = true := by
    rcases hc.row with ⟨e, _⟩ | ⟨x, e, h1, h2, h3, h4, h5⟩
    · cases e
    · injection e with e
      subst e
      exact ⟨h1, h3, h4, h5⟩
  obtain ⟨hlc, hzl, hcell, hwf⟩ := hrow
  have hfar := hc.far y rfl (by omega)
  have cb := hcell i (by omega)
  have hz0 : 0 ≤ zs.getD i 0 ∧ zs.getD i 0 ≤ 255 := by
    have hm : zs.getD i 0 ∈ zs := by
      rw [List.getD_eq_getElem?_getD, List.getElem?_eq_getElem (by omega)]
      exact List.getElem_mem _
    have hw := hwf _ hm
    have e1 : IntKind.u8.min = 0 := by decide
    have e2 : IntKind.u8.max = 255 := by decide
    simpa only [Lit.wf, Bool.and_eq_true, decide_eq_true_eq, e1, e2] using hw
  generalize zs.getD i 0 = z at cb hz0
  obtain ⟨z0, z1⟩ := hz0
  have hlm : len ≤ 9223372036854775807 := by omega
  have HR := Lib.hid cb
  clear hc hcell hwf hzl cb
  go_enter Tryz.func158, Tryz.ntmps158
  go_wp2
  generalize hh : wrap64 (wrap64 (h * 6364136223846793005) + 1442695040888963407) = h'
  have hr : -9223372036854775808 ≤ h' ∧ h' ≤ 9223372036854775807 := by rw [← hh]; unfold wrap64; omega
  have HH := Lib.hid hh
  clear hh c0 c1 c2 f0
  have hb1 := set_block w N _ _ _ (.int .i64 h') _ HB.out
  have hg1 := grown_set w N 2 (.int .i64 h')
  have cb1 : (w.setCell ⟨N, 2, none⟩ (.int .i64 h')).cell? (y.add i) = some (.int .u8 z) := by
    rw [← HR.out]
    have e := add_block y i
    exact World.cell?_of_block (Below.heap_setCell w ⟨N, 2, none⟩ _ _ (by rw [e]; show y.block ≠ N; omega))
  generalize w.setCell ⟨N, 2, none⟩ (.int .i64 h') = w1 at hb1 hg1 cb1
  obtain ⟨c0, c1, c2, f0⟩ := cur_cells hb1
  have HB1 := Lib.hid hb1
  have HG1 := Lib.hid hg1
  clear hb1 hg1
  obtain ⟨r0, r1⟩ := hr
  go_quiet (fail)
  rw [i64_and255]
  generalize bits BinOp.xor IntKind.i64 (h' / 8589934592) (h' / 35184372088832) = x
  go_wp2
  go_quiet (fail)
  go_wp2
  go_quiet (fail)
  rw [i64_and255]
  go_wp2
  go_ret
  have hb2 := set_block1 _ N _ _ _ (.int .i64 ((i + 1 : Nat) : Int)) _ HB1.out
  have g := HG1.out.trans (grown_set w1 N 1 (.int .i64 ((i + 1 : Nat) : Int)))
  refine ⟨(x % 256 + z) % 256, by omega, by omega, rfl, ?_⟩
  exact isCur_step HC.out ⟨g.os, g.tape, g.output, g.size, g.block⟩ hb2 hlen r0 r1

/-- spec.l1Byte. -/
theorem byte_any (N : Nat) (w : World) (hc : Cur N w) : Calls Tryz.prog 158 #[.pointer (some ⟨N, 0, none⟩)] w (NumBelow N 256 w) := by
  obtain ⟨a, len, cap, zs, i, h, hc⟩ := hc
  by_cases hl : i < len
  · exact byte_more N w a len cap zs i h hc hl
  · exact byte_end N w a len cap zs i h hc hl

set_option maxHeartbeats 1000000 in
set_option maxRecDepth 100000 in
theorem below_small (N : Nat) (n : Int) (h0 : 0 < n) (h1 : n ≤ 256) (w : World) (hc : Cur N w) : Calls Tryz.prog 100 #[.pointer (some ⟨N, 0, none⟩), .int .i64 n] w (NumBelow N n w) := by
  go_enter Tryz.func100, Tryz.ntmps100
  go_wp2_with fail
  refine (byte_any N _ hc).mono ?_
  rintro e w1 ⟨x, x0, x1, rfl, hs⟩
  go_wp2
  go_ret
  exact ⟨x % n, Int.emod_nonneg _ (by omega), Int.emod_lt_of_pos _ h0, rfl, hs⟩

set_option maxHeartbeats 1000000 in
set_option maxRecDepth 100000 in
theorem below_great (N : Nat) (n : Int) (h0 : 256 < n) (h1 : n ≤ 9223372036854775807) (w : World) (hc : Cur N w) : Calls Tryz.prog 100 #[.pointer (some ⟨N, 0, none⟩), .int .i64 n] w (NumBelow N n w) := by
  go_enter Tryz.func100, Tryz.ntmps100
  go_wp2_with fail
  refine (byte_any N _ hc).mono ?_
  rintro e w1 ⟨x, x0, x1, rfl, hs1⟩
  go_wp2_with fail
  refine (byte_any N _ hs1.1).mono ?_
  rintro e w2 ⟨y, y0, y1, rfl, hs2⟩
  go_wp2_with fail
  refine (byte_any N _ hs2.1).mono ?_
  rintro e w3 ⟨z, z0, z1, rfl, hs3⟩
  go_wp2_with fail
  refine (byte_any N _ hs3.1).mono ?_
  rintro e w4 ⟨v, v0, v1, rfl, hs4⟩
  go_wp2
  go_ret
  exact ⟨(x * 16777216 + y * 65536 + z * 256 + v) % n, Int.emod_nonneg _ (by omega), Int.emod_lt_of_pos _ (by omega), rfl, hs1.trans (hs2.trans (hs3.trans hs4))⟩

/-- spec.l1Below, above 0. -/
theorem below_any (N : Nat) (n : Int) (h0 : 0 < n) (h1 : n ≤ 9223372036854775807) (w : World) (hc : Cur N w) : Calls Tryz.prog 100 #[.pointer (some ⟨N, 0, none⟩), .int .i64 n] w (NumBelow N n w) := by
  by_cases h : n ≤ 256
  · exact below_small N n h0 h w hc
  · exact below_great N n (by omega) h1 w hc

theorem cells_at {w : World} {M : Nat} {l : List Value} {T : TypeId} (hM : w.heap[M]? = some (.cells l.toArray T (0, 0))) (j : Nat) (hj : j < l.length) : w.cell? ⟨M, j, none⟩ = some l[j] := by
  simp [World.cell?, hM, hj]

theorem CurStep.alloc {N : Nat} {w : World} (h : Cur N w) (o : Obj) : CurStep N w (w.alloc o) := ⟨h.stays (World.grownBy_alloc w o none), World.grownBy_alloc w o (some N)⟩
theorem CurStep.below {N B : Nat} {a w w' : World} (h : CurStep N w w') (hb : Below B a w) (hB : B ≤ w.heap.size) (hN : B ≤ N) : Below B a w' :=
  hb.grown h.2 hB (fun k e => by injection e with e; omega)
theorem CurStep.size {N : Nat} {w w' : World} (h : CurStep N w w') : w.heap.size ≤ w'.heap.size := h.2.size
theorem Cur.lt {N : Nat} {w : World} (h : Cur N w) : N < w.heap.size := by
  obtain ⟨a, len, cap, zs, i, h', hc⟩ := h
  rcases Nat.lt_or_ge N w.heap.size with h | h
  · exact h
  · have := hc.block
    rw [Array.getElem?_eq_none h] at this
    cases this
theorem Cur.below {N B : Nat} {w w' : World} (h : Cur N w) (hb : Below B w w') (hs : B = w.heap.size) : CurStep N w w' :=
  ⟨h.stays ⟨hb.os, hb.tape, hb.output, by have := hb.size; omega, fun k hk _ => hb.block k (by omega)⟩, ⟨hb.os, hb.tape, hb.output, by have := hb.size; omega, fun k hk _ => hb.block k (by omega)⟩⟩

/-- A new cursor comes back. -/
def NewCur (w : World) (e : Ending) (w' : World) : Prop := ∃ N, w.heap.size ≤ N ∧ e = .returned (.pointer (some ⟨N, 0, none⟩)) ∧ Cur N w' ∧ Below w.heap.size w w'

theorem row_at {w : World} {a : Option Addr} {len cap : Nat} {zs : List Int} (hr : IsRow .u8 w a len cap zs) (k : Nat) (hk : k < len) : ∃ y z, a = some y ∧ w.cell? (y.add k) = some (.int .u8 z) ∧ 0 ≤ z ∧ z ≤ 255 := by
  rcases hr with ⟨_, e, _⟩ | ⟨y, rfl, h1, h2, h3, h4, h5⟩
  · omega
  · refine ⟨y, zs.getD k 0, rfl, h4 k (by omega), ?_⟩
    have hm : zs.getD k 0 ∈ zs := by
      rw [List.getD_eq_getElem?_getD, List.getElem?_eq_getElem (by omega)]
      exact List.getElem_mem _
    have hw := h5 _ hm
    have e1 : IntKind.u8.min = 0 := by decide
    have e2 : IntKind.u8.max = 255 := by decide
    simpa only [Lit.wf, Bool.and_eq_true, decide_eq_true_eq, e1, e2] using hw

theorem heap_new (w : World) (o : Obj) : (w.alloc o).heap[w.heap.size]? = some o := by
  show (w.heap.push o)[w.heap.size]? = _
  simp

/-- A new cursor, made in a new block. -/
theorem cur_new {w : World} {a : Option Addr} {len cap : Nat} {zs : List Int} {x : Int} (hr : IsRow .u8 w a len cap zs) (x0 : 0 ≤ x) (x1 : x ≤ 1099511627776) :
    Cur w.heap.size (w.alloc (.cells #[.slice a len cap, .int .i64 0, .int .i64 x] 123)) := by
  refine ⟨a, len, cap, zs, 0, x, ⟨heap_new _ _, ?_, Nat.zero_le _, row_lt hr, by omega, by omega⟩⟩
  exact row_stays hr (World.grownBy_alloc w _ none) (fun x _ _ => by simp)

set_option maxHeartbeats 1000000 in
set_option maxRecDepth 100000 in
/-- spec.l1New. -/
theorem new_any (w : World) (a : Option Addr) (len cap : Nat) (zs : List Int) (hr : IsRow .u8 w a len cap zs) (hlen : len ≤ 1048576) :
    Calls Tryz.prog 45 #[.slice a len cap] w (NewCur w) := by
  have HR := Lib.hid hr
  clear hr
  go_enter Tryz.func45, Tryz.ntmps45
  go_wp2
  go_loop [3, 4] (fun h i => ∃ (k : Nat) (x : Int), k ≤ len ∧ i = .int .i64 k ∧ h = .int .i64 x ∧ 0 ≤ x ∧ x ≤ 1099511627776) (fun _ i => len - (intOf i).toNat)
  case atStart => exact ⟨0, _, Nat.zero_le _, rfl, rfl, by omega, by omega⟩
  case round =>
    obtain ⟨k, x, hk, rfl, rfl, x0, x1⟩ := hrel
    by_cases hlt : k < len ∧ k < 4000
    · obtain ⟨hk1, hk2⟩ := hlt
      obtain ⟨y, z, rfl, cb, z0, z1⟩ := row_at HR.out k hk1
      go_wp2
      rw [i64_and30]
      go_round
      case rel => exact ⟨k + 1, _, by omega, by go_num, rfl, by omega, by omega⟩
      case measure => simp [intOf]; omega
    · by_cases hk1 : k < len
      · have hk2 : ¬ k < 4000 := fun h => hlt ⟨hk1, h⟩
        clear hlt
        go_wp2
        go_ret
        exact ⟨w.heap.size, Nat.le_refl _, rfl, cur_new HR.out x0 x1, (Below.refl _ _).alloc (Nat.le_refl _) _⟩
      · clear hlt
        go_wp2
        go_ret
        exact ⟨w.heap.size, Nat.le_refl _, rfl, cur_new HR.out x0 x1, (Below.refl _ _).alloc (Nat.le_refl _) _⟩
end Go.Proofs.YtijbaienhaiamaaGreatDoor
end

/- What is proved here: the laws' bound on the code's length (big). Condition: the length is an int. -/
section
namespace Go.Proofs.YtijbaienhaiamaaGreatDoor
open Go.RowKit

theorem big_any (a : Option Addr) (len cap : Nat) (hc : len ≤ 9223372036854775807) (w : World) :
    Calls Tryz.prog 6 #[.slice a len cap] w fun e w' => e = .returned (.bool (decide (1048576 < len))) ∧ w = w' := by
  by_cases h : 1048576 < len
  · rw [decide_eq_true h]
    have e : decide (1048576 < (len : Int)) = true := by simp; omega
    go_enter Tryz.func6, Tryz.ntmps6
    go_wp2
    go_ret
    exact ⟨rfl, rfl⟩
  · rw [decide_eq_false h]
    have e : decide (1048576 < (len : Int)) = false := by simp; omega
    go_enter Tryz.func6, Tryz.ntmps6
    go_wp2
    go_ret
    exact ⟨rfl, rfl⟩

theorem row_len {k : IntKind} {w : World} {a : Option Addr} {len cap : Nat} {zs : List Int} (h : IsRow k w a len cap zs) : len ≤ 9223372036854775807 := by
  rcases h with ⟨_, h, _⟩ | ⟨x, _, h1, h2, _⟩
  · omega
  · unfold maxLen at h2
    omega
theorem row_below {k : IntKind} {w w' : World} {a : Option Addr} {len cap : Nat} {zs : List Int} (h : IsRow k w a len cap zs) (hb : Below w.heap.size w w') : IsRow k w' a len cap zs :=
  row_stays (row := none) h ⟨hb.os, hb.tape, hb.output, hb.size, fun k hk _ => hb.block k hk⟩ (fun _ _ _ => by simp)
end Go.Proofs.YtijbaienhaiamaaGreatDoor
end

/- What is proved here: lists of texts as they lie in memory. No condition. -/
section
namespace Go.Proofs.YtijbaienhaiamaaGreatDoor
open Go.RowKit

theorem below_drewN {B : Nat} {a w : World} (h : Below B a w) (n : Nat) : Below B a (w.drewN n) := ⟨h.os, h.tape, h.output, h.size, h.block⟩

/-- The slice at a reads as the texts xs. -/
def Reads (w : World) (a : Option Addr) (xs : List ByteArray) : Prop := ∀ j (h : j < xs.length), ∃ y, a = some y ∧ w.cell? (y.add j) = some (.string xs[j])

def total (xs : List ByteArray) : Nat := (xs.map ByteArray.size).sum
theorem total_take (xs : List ByteArray) (k : Nat) (h : k < xs.length) : total (xs.take (k + 1)) = total (xs.take k) + xs[k].size := by
  unfold total
  rw [List.take_succ_eq_append_getElem h, List.map_append, List.sum_append]
  simp only [List.map_cons, List.map_nil, List.sum_cons, List.sum_nil, Nat.add_zero]
theorem total_take_le (xs : List ByteArray) (k : Nat) : total (xs.take k) ≤ total xs := by
  have e : total xs = total (xs.take k) + total (xs.drop k) := by
    unfold total
    rw [← List.sum_append, ← List.map_append, List.take_append_drop]
  omega


theorem reads_drewN {w : World} {a : Option Addr} {xs : List ByteArray} (h : Reads w a xs) (n : Nat) : Reads (w.drewN n) a xs := h

theorem addr_block (x : Addr) (i : Nat) : (x.add i).block = x.block := by unfold Addr.add; split <;> rfl
theorem reads_below {w w' : World} {a : Option Addr} {xs : List ByteArray} (h : Reads w a xs) (hb : Below w.heap.size w w') : Reads w' a xs := by
  intro j hj
  obtain ⟨y, rfl, hc⟩ := h j hj
  refine ⟨y, rfl, ?_⟩
  rw [← hc]
  have hlt : (y.add j).block < w.heap.size := by
    rcases Nat.lt_or_ge (y.add j).block w.heap.size with h | h
    · exact h
    · simp [World.cell?, Array.getElem?_eq_none h] at hc
  exact World.cell?_of_block (hb.block _ hlt)
theorem reads_new {w : World} {g : Nat} {T : TypeId} {xs : List ByteArray} (hb : w.heap[g]? = some (.cells (xs.map Value.string).toArray T (0, 0))) : Reads w (some ⟨g, 0, none⟩) xs := by
  intro j hj
  refine ⟨_, rfl, ?_⟩
  have e : (⟨g, 0, none⟩ : Addr).add j = ⟨g, j, none⟩ := by simp [Addr.add]; intro h; omega
  rw [e]
  simp [World.cell?, hb, hj]
theorem cells_set {w : World} {g : Nat} {T : TypeId} {l : List Value} (hb : w.heap[g]? = some (.cells l.toArray T (0, 0))) (k : Nat) (v : Value) : (w.setCell ⟨g, k, none⟩ v).heap[g]? = some (.cells (l.set k v).toArray T (0, 0)) := by
  simp [World.setCell, Array.getElem?_modify, hb]
theorem cells_cell {w : World} {g : Nat} {T : TypeId} {l : List Value} (hb : w.heap[g]? = some (.cells l.toArray T (0, 0))) (k : Nat) (hk : k < l.length) : w.cell? ⟨g, k, none⟩ = some l[k] := by
  simp [World.cell?, hb, hk]
theorem cells_free {w : World} {g : Nat} {T : TypeId} {l : List Value} (hb : w.heap[g]? = some (.cells l.toArray T (0, 0))) (k : Nat) : w.frozen? ⟨g, k, none⟩ = false := by
  simp [World.frozen?, hb]
theorem heap_at_new (w : World) (o : Obj) : (w.alloc o).heap[w.heap.size]? = some o := by
  show (w.heap.push o)[w.heap.size]? = _
  simp

end Go.Proofs.YtijbaienhaiamaaGreatDoor
end

/- What is proved here: a signature (declared types, their constructors, the constructors' arguments) as it lies in memory, and its size. No condition. -/
section
namespace Go.Proofs.YtijbaienhaiamaaGreatDoor
open Go.RowKit

structure ConD where
  name : ByteArray
  args : List ByteArray
structure TypeD where
  name : ByteArray
  cons : List ConD

/-- The row at a holds the elements of l, two cells each; R says what the cells of an element are. -/
def Row2 {α : Type} (R : World → α → Value → Value → Prop) (w : World) (a : Option Addr) (l : List α) : Prop := ∀ j (h : j < l.length), ∃ y u v, a = some y ∧ w.cell? (y.add (j * 2)) = some u ∧ w.cell? ⟨(y.add (j * 2)).block, (y.add (j * 2)).off + 1, none⟩ = some v ∧ R w l[j] u v
def ConAt (w : World) (c : ConD) (u v : Value) : Prop := ∃ a cap, u = .string c.name ∧ v = .slice a c.args.length cap ∧ Reads w a c.args
def TypeAt (w : World) (t : TypeD) (u v : Value) : Prop := ∃ a cap, u = .string t.name ∧ v = .slice a t.cons.length cap ∧ Row2 ConAt w a t.cons

theorem cell_below {w w' : World} {p : Addr} {v : Value} (h : w.cell? p = some v) (hb : Below w.heap.size w w') : w'.cell? p = some v := by
  rw [← h]
  have hlt : p.block < w.heap.size := by
    rcases Nat.lt_or_ge p.block w.heap.size with h1 | h1
    · exact h1
    · simp [World.cell?, Array.getElem?_eq_none h1] at h
  exact World.cell?_of_block (hb.block _ hlt)
theorem row2_below {α : Type} {R : World → α → Value → Value → Prop} (hR : ∀ w w' x u v, R w x u v → Below w.heap.size w w' → R w' x u v) {w w' : World} {a : Option Addr} {l : List α} (h : Row2 R w a l) (hb : Below w.heap.size w w') : Row2 R w' a l := by
  intro j hj
  obtain ⟨y, u, v, rfl, h1, h2, h3⟩ := h j hj
  exact ⟨y, u, v, rfl, cell_below h1 hb, cell_below h2 hb, hR _ _ _ _ _ h3 hb⟩
theorem con_below (w w' : World) (c : ConD) (u v : Value) (h : ConAt w c u v) (hb : Below w.heap.size w w') : ConAt w' c u v := by
  obtain ⟨a, cap, h1, h2, h3⟩ := h
  exact ⟨a, cap, h1, h2, reads_below h3 hb⟩
theorem type_below (w w' : World) (t : TypeD) (u v : Value) (h : TypeAt w t u v) (hb : Below w.heap.size w w') : TypeAt w' t u v := by
  obtain ⟨a, cap, h1, h2, h3⟩ := h
  exact ⟨a, cap, h1, h2, row2_below con_below h3 hb⟩

theorem below_of_drew {w w' : World} (h : Below w.drew.heap.size w.drew w') : Below w.heap.size w w' := ⟨h.os, h.tape, h.output, h.size, h.block⟩
theorem con_drew {w : World} {c : ConD} {u v : Value} (h : ConAt w c u v) : ConAt w.drew c u v := h
theorem type_drew {w : World} {t : TypeD} {u v : Value} (h : TypeAt w t u v) : TypeAt w.drew t u v := h

def sumBy {α : Type} (f : α → Nat) (l : List α) : Nat := (l.map f).sum
theorem sumBy_take {α : Type} (f : α → Nat) (l : List α) (k : Nat) (h : k < l.length) : sumBy f (l.take (k + 1)) = sumBy f (l.take k) + f l[k] := by
  unfold sumBy
  rw [List.take_succ_eq_append_getElem h, List.map_append, List.sum_append]
  simp
theorem sumBy_take_le {α : Type} (f : α → Nat) (l : List α) (k : Nat) : sumBy f (l.take k) ≤ sumBy f l := by
  have e : sumBy f l = sumBy f (l.take k) + sumBy f (l.drop k) := by
    unfold sumBy
    rw [← List.sum_append, ← List.map_append, List.take_append_drop]
  omega

def ConD.size (c : ConD) : Nat := c.name.size + (c.args.length + total c.args)
def TypeD.size (t : TypeD) : Nat := t.name.size + (t.cons.length + sumBy ConD.size t.cons)
def sigSize (s : List TypeD) : Nat := s.length + sumBy TypeD.size s

/-- What a bound of L places leaves behind n of them: -1 where they do not fit. -/
def left (L n : Nat) : Int := if n ≤ L then ((L - n : Nat) : Int) else -1
theorem left_yes {L n : Nat} (h : n ≤ L) : left L n = ((L - n : Nat) : Int) := if_pos h
theorem left_no {L n : Nat} (h : ¬ n ≤ L) : left L n = -1 := if_neg h

/-- Every length is one that a machine's slice or string can have. -/
def ConD.fits (c : ConD) : Prop := c.name.size ≤ maxLen ∧ c.args.length ≤ maxLen ∧ ∀ x ∈ c.args, x.size ≤ maxLen
def TypeD.fits (t : TypeD) : Prop := t.name.size ≤ maxLen ∧ t.cons.length ≤ maxLen ∧ ∀ c ∈ t.cons, c.fits
def sigFits (s : List TypeD) : Prop := s.length ≤ maxLen ∧ ∀ t ∈ s, t.fits
end Go.Proofs.YtijbaienhaiamaaGreatDoor
end

/- What is proved here: rows of nodes (a kind, a number, a text, and a row of nodes below) as they lie in memory: values, and whatever has their form. No condition. -/
section
namespace Go.Proofs.YtijbaienhaiamaaGreatDoor
open Go.RowKit

/-- A row of nodes. -/
inductive Trees where
  | nil : Trees
  | cons (kind num : Int) (text : ByteArray) (args rest : Trees) : Trees
namespace Trees
def length : Trees → Nat
  | .nil => 0
  | .cons _ _ _ _ r => r.length + 1
def append : Trees → Trees → Trees
  | .nil, b => b
  | .cons k n t ar r, b => .cons k n t ar (r.append b)
/-- One more at the end. -/
def snoc (a : Trees) (k n : Int) (t : ByteArray) (ar : Trees) : Trees := a.append (.cons k n t ar .nil)
theorem append_length (a b : Trees) : (a.append b).length = a.length + b.length := by
  induction a with
  | nil => simp [append, length]
  | cons k n t ar r _ ih => simp [append, length, ih]; omega
theorem append_nil (a : Trees) : a.append .nil = a := by
  induction a with
  | nil => rfl
  | cons k n t ar r _ ih => simp [append, ih]
theorem append_assoc (a b c : Trees) : (a.append b).append c = a.append (b.append c) := by
  induction a with
  | nil => rfl
  | cons k n t ar r _ ih => simp [append, ih]
theorem snoc_append (a b : Trees) (k n : Int) (t : ByteArray) (ar : Trees) : (a.snoc k n t ar).append b = a.append (.cons k n t ar b) := by
  unfold snoc
  rw [append_assoc]
  rfl
theorem snoc_length (a : Trees) (k n : Int) (t : ByteArray) (ar : Trees) : (a.snoc k n t ar).length = a.length + 1 := by
  unfold snoc
  rw [append_length]
  rfl
/-- Of the rows below the nodes of a row. -/
def All (P : Trees → Prop) : Trees → Prop
  | .nil => True
  | .cons _ _ _ ar r => P ar ∧ r.All P
theorem ind {P : Trees → Prop} (h : ∀ F : Trees, F.All P → P F) : ∀ F, P F := fun F => by
  have h2 : F.All P := by
    induction F with
    | nil => trivial
    | cons k n t ar r ih1 ih2 => exact ⟨h ar ih1, ih2⟩
  exact h F h2
/-- Every number and every length is one that a machine has. -/
def fits : Trees → Prop
  | .nil => True
  | .cons k n t ar r => (-9223372036854775808 ≤ k ∧ k ≤ 9223372036854775807) ∧ (-9223372036854775808 ≤ n ∧ n ≤ 9223372036854775807) ∧ t.size ≤ maxLen ∧ ar.length ≤ maxLen ∧ ar.fits ∧ r.fits
/-- The places that it takes: a node one, and the bytes of its text. -/
def size : Trees → Nat
  | .nil => 0
  | .cons _ _ t ar r => t.size + 1 + ar.size + r.size
/-- The nodes. -/
def count : Trees → Nat
  | .nil => 0
  | .cons _ _ _ ar r => 1 + ar.count + r.count
/-- The most nodes one below the other. -/
def deep : Trees → Nat
  | .nil => 0
  | .cons _ _ _ ar r => max (ar.deep + 1) r.deep
theorem length_le_size (F : Trees) : F.length ≤ F.size := by
  induction F with
  | nil => simp [length, size]
  | cons k n t ar r _ ih => simp [length, size]; omega
theorem length_le_count (F : Trees) : F.length ≤ F.count := by
  induction F with
  | nil => simp [length, count]
  | cons k n t ar r _ ih => simp [length, count]; omega
theorem count_le_size (F : Trees) : F.count ≤ F.size := by
  induction F with
  | nil => simp [count, size]
  | cons k n t ar r ih1 ih => simp [count, size]; omega
theorem deep_le_count (F : Trees) : F.deep ≤ F.count := by
  induction F with
  | nil => simp [deep, count]
  | cons k n t ar r ih1 ih => simp [deep, count]; omega
end Trees

/-- The fields behind the first of a node. -/
abbrev fieldAt (y : Addr) (i j : Nat) : Addr := { block := (y.add (i * 4)).block, off := (y.add (i * 4)).off + j }
/-- The row at a, from its i-th node on, reads as said. -/
def TreesAt (w : World) : Trees → Option Addr → Nat → Prop
  | .nil, _, _ => True
  | .cons k n t ar r, a, i => (∃ y p cap, a = some y ∧ w.cell? (y.add (i * 4)) = some (.int .i64 k) ∧ w.cell? (fieldAt y i 1) = some (.int .i64 n) ∧ w.cell? (fieldAt y i 2) = some (.string t) ∧ w.cell? (fieldAt y i 3) = some (.slice p ar.length cap) ∧ ar.length ≤ cap ∧ TreesAt w ar p 0) ∧ TreesAt w r a (i + 1)
theorem TreesAt.keep {w w' : World} (hc : ∀ p v, w.cell? p = some v → w'.cell? p = some v) : ∀ (F : Trees) (a : Option Addr) (i : Nat), TreesAt w F a i → TreesAt w' F a i := by
  intro F
  induction F with
  | nil => intro _ _ _; trivial
  | cons k n t ar r ih1 ih2 =>
    rintro a i ⟨⟨y, p, cap, h1, h2, h3, h4, h5, hl, h6⟩, h7⟩
    exact ⟨⟨y, p, cap, h1, hc _ _ h2, hc _ _ h3, hc _ _ h4, hc _ _ h5, hl, ih1 _ _ h6⟩, ih2 _ _ h7⟩
theorem TreesAt.below {w w' : World} {F : Trees} {a : Option Addr} {i : Nat} (h : TreesAt w F a i) (hb : Below w.heap.size w w') : TreesAt w' F a i :=
  TreesAt.keep (fun _ _ hc => cell_below hc hb) F a i h
theorem TreesAt.drew {w : World} {F : Trees} {a : Option Addr} {i : Nat} (h : TreesAt w F a i) : TreesAt w.drew F a i :=
  TreesAt.keep (w := w) (w' := w.drew) (fun _ _ hc => hc) F a i h
/-- The same row behind a world whose blocks below B lie as they lay, where the row's blocks are below B. -/
theorem TreesAt.low {w w' : World} {F : Trees} {a : Option Addr} {i B : Nat} (hB : B = w.heap.size) (h : TreesAt w F a i) (hk : ∀ b, b < B → w'.heap[b]? = w.heap[b]?) : TreesAt w' F a i := by
  subst hB
  refine TreesAt.keep (fun p v hc => ?_) F a i h
  rw [← hc]
  have hlt : p.block < w.heap.size := by
    rcases Nat.lt_or_ge p.block w.heap.size with h1 | h1
    · exact h1
    · simp [World.cell?, Array.getElem?_eq_none h1] at hc
  exact World.cell?_of_block (hk _ hlt)
/-- What is read of the i-th node. -/
theorem TreesAt.open {w : World} {k n : Int} {t : ByteArray} {ar r : Trees} {a : Option Addr} {i : Nat} (h : TreesAt w (.cons k n t ar r) a i) :
    ∃ y p cap, a = some y ∧ w.cell? (y.add (i * 4)) = some (.int .i64 k) ∧ w.cell? (fieldAt y i 1) = some (.int .i64 n) ∧ w.cell? (fieldAt y i 2) = some (.string t) ∧ w.cell? (fieldAt y i 3) = some (.slice p ar.length cap) ∧ TreesAt w ar p 0 ∧ TreesAt w r a (i + 1) := by
  obtain ⟨⟨y, p, cap, h1, h2, h3, h4, h5, _, h6⟩, h7⟩ := h
  exact ⟨y, p, cap, h1, h2, h3, h4, h5, h6, h7⟩
/-- Without the nodes of the row itself. -/
def Trees.inner : Trees → Nat
  | .nil => 0
  | .cons _ _ t ar r => t.size + ar.size + r.inner
theorem Trees.size_eq (F : Trees) : F.size = F.length + F.inner := by
  induction F with
  | nil => rfl
  | cons k n t ar r _ ih => simp [Trees.size, Trees.length, Trees.inner, ih]; omega

theorem Trees.append_count (A B : Trees) : (A.append B).count = A.count + B.count := by
  induction A with
  | nil => simp [Trees.append, Trees.count]
  | cons k n t ar r _ ih => simp [Trees.append, Trees.count, ih]; omega
end Go.Proofs.YtijbaienhaiamaaGreatDoor
end
