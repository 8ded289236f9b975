/- What is proved here: the cursor of package spec (l1New, l1Byte, l1Below) returns, changes no block but its own, and its numbers lie within their bounds. Condition: the cursor's block holds a cursor. -/
import Derived.Test.YtcalgjggmgnofaaDoorProg
import Derived.WalkKit
import Derived.ProofKit
import Derived.OpenShut
import Derived.Below
import Derived.Laws.AppendOwn
import Derived.Deep.Draws
import Derived.Deep.QuietTactic
import Derived.BigQuiet
import Derived.WalkLawsBesides
import Derived.WalkSpells
import Derived.Outline
import Derived.Lib.Hide
import Derived.Lib.Walk
import Derived.OwnWalk
import Derived.Laws.BitsLemmas
import Derived.Maps.AppendAt
import Derived.Maps.RangeWalk
namespace Go.Proofs.YtcalgjggmgnofaaDoor
open Go.RowKit

/-- What the walk is told of a slice of integers that came in. -/
def IsRow (k : IntKind) (w : World) (a : Option Addr) (len cap : Nat) (zs : List Int) : Prop :=
  (a = none ∧ len = 0 ∧ cap = 0 ∧ zs = []) ∨
  ∃ x, a = some x ∧ len ≤ cap ∧ cap ≤ maxLen ∧ zs.length = cap ∧ (∀ i, i < zs.length → w.cell? (x.add i) = some (.int k (zs.getD i 0))) ∧ ∀ n ∈ zs, (Lit.int k n).wf = true

/-- Block N is a cursor over bytes. -/
structure IsCur (N : Nat) (w : World) (a : Option Addr) (len cap : Nat) (zs : List Int) (i : Nat) (h : Int) : Prop where
  block : w.heap[N]? = some (.cells #[.slice a len cap, .int .i64 (i : Int), .int .i64 h] 88 (0, 0))
  row : IsRow .u8 w a len cap zs
  at_le : i ≤ len
  far : ∀ x, a = some x → 0 < cap → x.block < N
  lo : -9223372036854775808 ≤ h
  hi : h ≤ 9223372036854775807

theorem add_block (x : Addr) (i : Nat) : (x.add i).block = x.block := by unfold Addr.add; split <;> rfl

theorem i64_and255 (n : Int) : bits .and .i64 n 255 = n % 256 := by
  have h255 : (BitVec.ofInt 64 255).toNat = 2 ^ 8 - 1 := by decide
  have key : (BitVec.ofInt 64 n &&& BitVec.ofInt 64 255).toNat = (n % ((2 ^ 64 : Nat) : Int)).toNat % 2 ^ 8 := by
    rw [BitVec.toNat_and, BitVec.toNat_ofInt, h255, Nat.and_two_pow_sub_one_eq_mod]
  show IntKind.i64.wrap ((BitVec.ofInt 64 n &&& BitVec.ofInt 64 255).toNat : Nat) = n % 256
  rw [key, IntKind.wrap_i64]
  omega
theorem i64_and30 (n : Int) : bits .and .i64 n 1073741823 = n % 1073741824 := by
  have h30 : (BitVec.ofInt 64 1073741823).toNat = 2 ^ 30 - 1 := by decide
  have key : (BitVec.ofInt 64 n &&& BitVec.ofInt 64 1073741823).toNat = (n % ((2 ^ 64 : Nat) : Int)).toNat % 2 ^ 30 := by
    rw [BitVec.toNat_and, BitVec.toNat_ofInt, h30, Nat.and_two_pow_sub_one_eq_mod]
  show IntKind.i64.wrap ((BitVec.ofInt 64 n &&& BitVec.ofInt 64 1073741823).toNat : Nat) = n % 1073741824
  rw [key, IntKind.wrap_i64]
  omega

theorem set_block (w : World) (N : Nat) (x y z v : Value) (T : TypeId) (hb : w.heap[N]? = some (.cells #[x, y, z] T (0, 0))) : (w.setCell ⟨N, 2, none⟩ v).heap[N]? = some (.cells #[x, y, v] T (0, 0)) := by
  simp [World.setCell, Array.getElem?_modify, hb]
theorem set_block1 (w : World) (N : Nat) (x y z v : Value) (T : TypeId) (hb : w.heap[N]? = some (.cells #[x, y, z] T (0, 0))) : (w.setCell ⟨N, 1, none⟩ v).heap[N]? = some (.cells #[x, v, z] T (0, 0)) := by
  simp [World.setCell, Array.getElem?_modify, hb]
theorem grown_set (w : World) (N o : Nat) (v : Value) : w.grownBy (w.setCell ⟨N, o, none⟩ v) (some N) :=
  ⟨rfl, rfl, rfl, by simp [World.setCell], fun k _ hne => Below.heap_setCell w ⟨N, o, none⟩ v k (fun e => hne (by rw [e]))⟩
theorem grown_drewN (w : World) (n : Nat) (row : Option Nat) : w.grownBy (w.drewN n) row := ⟨rfl, rfl, rfl, Nat.le_refl _, fun _ _ _ => rfl⟩

theorem cur_cells {w : World} {N : Nat} {x y z : Value} {T : TypeId} (hb : w.heap[N]? = some (.cells #[x, y, z] T (0, 0))) :
    w.cell? ⟨N, 0, none⟩ = some x ∧ w.cell? ⟨N, 1, none⟩ = some y ∧ w.cell? ⟨N, 2, none⟩ = some z ∧ ∀ o, w.frozen? ⟨N, o, none⟩ = false := by
  refine ⟨?_, ?_, ?_, fun o => ?_⟩ <;> simp [World.cell?, World.frozen?, hb]

/-- Block N is a cursor, whatever it holds. -/
def Cur (N : Nat) (w : World) : Prop := ∃ a len cap zs i h, IsCur N w a len cap zs i h
/-- What the cursor's functions do to the world. -/
def CurStep (N : Nat) (w w' : World) : Prop := Cur N w' ∧ w.grownBy w' (some N)
theorem CurStep.trans {N : Nat} {a b c : World} (h : CurStep N a b) (k : CurStep N b c) : CurStep N a c := ⟨k.1, h.2.trans k.2⟩

theorem row_lt {k : IntKind} {w : World} {a : Option Addr} {len cap : Nat} {zs : List Int} (h : IsRow k w a len cap zs) : ∀ x, a = some x → 0 < cap → x.block < w.heap.size := by
  intro x hx hc
  rcases h with ⟨_, _, e, _⟩ | ⟨y, rfl, h1, h2, h3, h4, h5⟩
  · omega
  · injection hx with hx
    subst hx
    have hcell := h4 0 (by omega)
    rcases Nat.lt_or_ge y.block w.heap.size with h | h
    · exact h
    · have e : (y.add 0).block = y.block := add_block y 0
      simp [World.cell?, e, Array.getElem?_eq_none h] at hcell
theorem row_stays {k : IntKind} {w w' : World} {a : Option Addr} {len cap : Nat} {zs : List Int} {row : Option Nat} (h : IsRow k w a len cap zs) (hg : w.grownBy w' row) (hne : ∀ x, a = some x → 0 < cap → some x.block ≠ row) : IsRow k w' a len cap zs := by
  have hlt := row_lt h
  rcases h with h | ⟨x, rfl, h1, h2, h3, h4, h5⟩
  · exact .inl h
  · refine .inr ⟨x, rfl, h1, h2, h3, fun i hi => ?_, h5⟩
    rw [← h4 i hi]
    have e := add_block x i
    exact World.cell?_of_block (by rw [e]; exact hg.block x.block (hlt x rfl (by omega)) (hne x rfl (by omega)))

/-- The cursor stays where nothing touches its block. -/
theorem Cur.stays {N : Nat} {w w' : World} (h : Cur N w) (hg : w.grownBy w' none) : Cur N w' := by
  obtain ⟨a, len, cap, zs, i, h', hc⟩ := h
  have hN : N < w.heap.size := by
    rcases Nat.lt_or_ge N w.heap.size with h | h
    · exact h
    · have := hc.block
      rw [Array.getElem?_eq_none h] at this
      cases this
  exact ⟨a, len, cap, zs, i, h', ⟨by rw [hg.block N hN (by simp)]; exact hc.block, row_stays hc.row hg (fun x _ _ => by simp), hc.at_le, hc.far, hc.lo, hc.hi⟩⟩

theorem isCur_step {N : Nat} {w w' : World} {a : Option Addr} {len cap : Nat} {zs : List Int} {i j : Nat} {h h' : Int} (hc : IsCur N w a len cap zs i h) (hg : w.grownBy w' (some N))
    (hb : w'.heap[N]? = some (.cells #[.slice a len cap, .int .i64 (j : Int), .int .i64 h'] 88 (0, 0))) (hj : j ≤ len) (h0 : -9223372036854775808 ≤ h') (h1 : h' ≤ 9223372036854775807) : CurStep N w w' := by
  have hN : N < w.heap.size := by
    rcases Nat.lt_or_ge N w.heap.size with h | h
    · exact h
    · have := hc.block
      rw [Array.getElem?_eq_none h] at this
      cases this
  exact ⟨⟨a, len, cap, zs, j, h', ⟨hb, row_stays hc.row hg (fun x e h0 => by have := hc.far x e h0; intro he; injection he with he; omega), hj, hc.far, h0, h1⟩⟩, hg⟩

/-- A number below b comes back, and the cursor's step is done. -/
def NumBelow (N : Nat) (b : Int) (w : World) (e : Ending) (w' : World) : Prop := ∃ n : Int, 0 ≤ n ∧ n < b ∧ e = .returned (.int .i64 n) ∧ CurStep N w w'

set_option maxHeartbeats 1000000 in
set_option maxRecDepth 100000 in
theorem byte_end (N : Nat) (w : World) (a : Option Addr) (len cap : Nat) (zs : List Int) (i : Nat) (h : Int) (hc : IsCur N w a len cap zs i h) (hlen : ¬ i < len) :
    Calls Tryd.prog 65 #[.pointer (some ⟨N, 0, none⟩)] w (NumBelow N 256 w) := by
  have hb := hc.block
  obtain ⟨c0, c1, c2, f0⟩ := cur_cells hb
  have l0 := hc.lo
  have l1 := hc.hi
  have HB := Lib.hid hb
  clear hb
  have HC := Lib.hid hc
  have hat := hc.at_le
  have hil : decide ((i : Int) < (len : Int)) = false := by simpa using hlen
  clear hc
  go_enter Tryd.func65, Tryd.ntmps65
  go_wp2
  generalize hh : wrap64 (wrap64 (h * 6364136223846793005) + 1442695040888963407) = h'
  have hr : -9223372036854775808 ≤ h' ∧ h' ≤ 9223372036854775807 := by rw [← hh]; unfold wrap64; omega
  have HH := Lib.hid hh
  clear hh c0 c1 c2 f0
  have hb1 := set_block w N _ _ _ (.int .i64 h') _ HB.out
  have hg1 := grown_set w N 2 (.int .i64 h')
  generalize w.setCell ⟨N, 2, none⟩ (.int .i64 h') = w1 at hb1 hg1
  obtain ⟨c0, c1, c2, f0⟩ := cur_cells hb1
  have HB1 := Lib.hid hb1
  have HG1 := Lib.hid hg1
  clear hb1 hg1
  obtain ⟨r0, r1⟩ := hr
  go_quiet (fail)
  rw [i64_and255]
  generalize bits BinOp.xor IntKind.i64 (h' / 8589934592) (h' / 35184372088832) = x
  go_wp2
  go_quiet (fail)
  go_wp2
  go_ret
  refine ⟨x % 256, by omega, by omega, rfl, isCur_step HC.out ((HG1.out.trans (grown_drewN _ _ _)).trans (grown_drewN _ _ _)) HB1.out hat r0 r1⟩

set_option maxHeartbeats 1000000 in
set_option maxRecDepth 100000 in
theorem byte_more (N : Nat) (w : World) (a : Option Addr) (len cap : Nat) (zs : List Int) (i : Nat) (h : Int) (hc : IsCur N w a len cap zs i h) (hlen : i < len) :
    Calls Tryd.prog 65 #[.pointer (some ⟨N, 0, none⟩)] w (NumBelow N 256 w) := by
  have hb := hc.block
  obtain ⟨c0, c1, c2, f0⟩ := cur_cells hb
  have l0 := hc.lo
  have l1 := hc.hi
  have HB := Lib.hid hb
  clear hb
  have HC := Lib.hid hc
  have hat := hc.at_le
  have hil : decide ((i : Int) < (len : Int)) = true := by simpa using hlen
  obtain ⟨y, rfl, hcap⟩ : ∃ y, a = some y ∧ cap ≤ maxLen := by
    rcases hc.row with ⟨_, e, _⟩ | ⟨x, e, _, hm, _⟩
    · omega
    · exact ⟨x, e, hm⟩
  unfold maxLen at hcap
  have hrow : len ≤ cap ∧ zs.length = cap ∧ (∀ i, i < zs.length → w.cell? (y.add i) = some (.int .u8 (zs.getD i 0))) ∧ ∀ n ∈ zs, (Lit.int .u8 n).wf = true := by
    rcases hc.row with ⟨e, _⟩ | ⟨x, e, h1, h2, h3, h4, h5⟩
    · cases e
    · injection e with e
      subst e
      exact ⟨h1, h3, h4, h5⟩
  obtain ⟨hlc, hzl, hcell, hwf⟩ := hrow
  have hfar := hc.far y rfl (by omega)
  have cb := hcell i (by omega)
  have hz0 : 0 ≤ zs.getD i 0 ∧ zs.getD i 0 ≤ 255 := by
    have hm : zs.getD i 0 ∈ zs := by
      rw [List.getD_eq_getElem?_getD, List.getElem?_eq_getElem (by omega)]
      exact List.getElem_mem _
    have hw := hwf _ hm
    have e1 : IntKind.u8.min = 0 := by decide
    have e2 : IntKind.u8.max = 255 := by decide
    simpa only [Lit.wf, Bool.and_eq_true, decide_eq_true_eq, e1, e2] using hw
  generalize zs.getD i 0 = z at cb hz0
  obtain ⟨z0, z1⟩ := hz0
  have hlm : len ≤ 9223372036854775807 := by omega
  have HR := Lib.hid cb
  clear hc hcell hwf hzl cb
  go_enter Tryd.func65, Tryd.ntmps65
  go_wp2
  generalize hh : wrap64 (wrap64 (h * 6364136223846793005) + 1442695040888963407) = h'
  have hr : -9223372036854775808 ≤ h' ∧ h' ≤ 9223372036854775807 := by rw [← hh]; unfold wrap64; omega
  have HH := Lib.hid hh
  clear hh c0 c1 c2 f0
  have hb1 := set_block w N _ _ _ (.int .i64 h') _ HB.out
  have hg1 := grown_set w N 2 (.int .i64 h')
  have cb1 : (w.setCell ⟨N, 2, none⟩ (.int .i64 h')).cell? (y.add i) = some (.int .u8 z) := by
    rw [← HR.out]
    have e := add_block y i
    exact World.cell?_of_block (Below.heap_setCell w ⟨N, 2, none⟩ _ _ (by rw [e]; show y.block ≠ N; omega))
  generalize w.setCell ⟨N, 2, none⟩ (.int .i64 h') = w1 at hb1 hg1 cb1
  obtain ⟨c0, c1, c2, f0⟩ := cur_cells hb1
  have HB1 := Lib.hid hb1
  have HG1 := Lib.hid hg1
  clear hb1 hg1
  obtain ⟨r0, r1⟩ := hr
  go_quiet (fail)
  rw [i64_and255]
  generalize bits BinOp.xor IntKind.i64 (h' / 8589934592) (h' / 35184372088832) = x
  go_wp2
  go_quiet (fail)
  go_wp2
  go_quiet (fail)
  rw [i64_and255]
  go_wp2
  go_ret
  have hb2 := set_block1 _ N _ _ _ (.int .i64 ((i + 1 : Nat) : Int)) _ HB1.out
  have g := HG1.out.trans (grown_set w1 N 1 (.int .i64 ((i + 1 : Nat) : Int)))
  refine ⟨(x % 256 + z) % 256, by omega, by omega, rfl, ?_⟩
  exact isCur_step HC.out ⟨g.os, g.tape, g.output, g.size, g.block⟩ hb2 hlen r0 r1

/-- spec.l1Byte. -/
theorem byte_any (N : Nat) (w : World) (hc : Cur N w) : Calls Tryd.prog 65 #[.pointer (some ⟨N, 0, none⟩)] w (NumBelow N 256 w) := by
  obtain ⟨a, len, cap, zs, i, h, hc⟩ := hc
  by_cases hl : i < len
  · exact byte_more N w a len cap zs i h hc hl
  · exact byte_end N w a len cap zs i h hc hl

set_option maxHeartbeats 1000000 in
set_option maxRecDepth 100000 in
theorem below_small (N : Nat) (n : Int) (h0 : 0 < n) (h1 : n ≤ 256) (w : World) (hc : Cur N w) : Calls Tryd.prog 47 #[.pointer (some ⟨N, 0, none⟩), .int .i64 n] w (NumBelow N n w) := by
  go_enter Tryd.func47, Tryd.ntmps47
  go_wp2_with fail
  refine (byte_any N _ hc).mono ?_
  rintro e w1 ⟨x, x0, x1, rfl, hs⟩
  go_wp2
  go_ret
  exact ⟨x % n, Int.emod_nonneg _ (by omega), Int.emod_lt_of_pos _ h0, rfl, hs⟩

set_option maxHeartbeats 1000000 in
set_option maxRecDepth 100000 in
theorem below_great (N : Nat) (n : Int) (h0 : 256 < n) (h1 : n ≤ 9223372036854775807) (w : World) (hc : Cur N w) : Calls Tryd.prog 47 #[.pointer (some ⟨N, 0, none⟩), .int .i64 n] w (NumBelow N n w) := by
  go_enter Tryd.func47, Tryd.ntmps47
  go_wp2_with fail
  refine (byte_any N _ hc).mono ?_
  rintro e w1 ⟨x, x0, x1, rfl, hs1⟩
  go_wp2_with fail
  refine (byte_any N _ hs1.1).mono ?_
  rintro e w2 ⟨y, y0, y1, rfl, hs2⟩
  go_wp2_with fail
  refine (byte_any N _ hs2.1).mono ?_
  rintro e w3 ⟨z, z0, z1, rfl, hs3⟩
  go_wp2_with fail
  refine (byte_any N _ hs3.1).mono ?_
  rintro e w4 ⟨v, v0, v1, rfl, hs4⟩
  go_wp2
  go_ret
  exact ⟨(x * 16777216 + y * 65536 + z * 256 + v) % n, Int.emod_nonneg _ (by omega), Int.emod_lt_of_pos _ (by omega), rfl, hs1.trans (hs2.trans (hs3.trans hs4))⟩

/-- spec.l1Below, above 0. -/
theorem below_any (N : Nat) (n : Int) (h0 : 0 < n) (h1 : n ≤ 9223372036854775807) (w : World) (hc : Cur N w) : Calls Tryd.prog 47 #[.pointer (some ⟨N, 0, none⟩), .int .i64 n] w (NumBelow N n w) := by
  by_cases h : n ≤ 256
  · exact below_small N n h0 h w hc
  · exact below_great N n (by omega) h1 w hc

theorem cells_at {w : World} {M : Nat} {l : List Value} {T : TypeId} (hM : w.heap[M]? = some (.cells l.toArray T (0, 0))) (j : Nat) (hj : j < l.length) : w.cell? ⟨M, j, none⟩ = some l[j] := by
  simp [World.cell?, hM, hj]

theorem CurStep.alloc {N : Nat} {w : World} (h : Cur N w) (o : Obj) : CurStep N w (w.alloc o) := ⟨h.stays (World.grownBy_alloc w o none), World.grownBy_alloc w o (some N)⟩
theorem CurStep.below {N B : Nat} {a w w' : World} (h : CurStep N w w') (hb : Below B a w) (hB : B ≤ w.heap.size) (hN : B ≤ N) : Below B a w' :=
  hb.grown h.2 hB (fun k e => by injection e with e; omega)
theorem CurStep.size {N : Nat} {w w' : World} (h : CurStep N w w') : w.heap.size ≤ w'.heap.size := h.2.size
theorem Cur.lt {N : Nat} {w : World} (h : Cur N w) : N < w.heap.size := by
  obtain ⟨a, len, cap, zs, i, h', hc⟩ := h
  rcases Nat.lt_or_ge N w.heap.size with h | h
  · exact h
  · have := hc.block
    rw [Array.getElem?_eq_none h] at this
    cases this
theorem Cur.below {N B : Nat} {w w' : World} (h : Cur N w) (hb : Below B w w') (hs : B = w.heap.size) : CurStep N w w' :=
  ⟨h.stays ⟨hb.os, hb.tape, hb.output, by have := hb.size; omega, fun k hk _ => hb.block k (by omega)⟩, ⟨hb.os, hb.tape, hb.output, by have := hb.size; omega, fun k hk _ => hb.block k (by omega)⟩⟩

/-- A new cursor comes back. -/
def NewCur (w : World) (e : Ending) (w' : World) : Prop := ∃ N, w.heap.size ≤ N ∧ e = .returned (.pointer (some ⟨N, 0, none⟩)) ∧ Cur N w' ∧ Below w.heap.size w w'

theorem row_at {w : World} {a : Option Addr} {len cap : Nat} {zs : List Int} (hr : IsRow .u8 w a len cap zs) (k : Nat) (hk : k < len) : ∃ y z, a = some y ∧ w.cell? (y.add k) = some (.int .u8 z) ∧ 0 ≤ z ∧ z ≤ 255 := by
  rcases hr with ⟨_, e, _⟩ | ⟨y, rfl, h1, h2, h3, h4, h5⟩
  · omega
  · refine ⟨y, zs.getD k 0, rfl, h4 k (by omega), ?_⟩
    have hm : zs.getD k 0 ∈ zs := by
      rw [List.getD_eq_getElem?_getD, List.getElem?_eq_getElem (by omega)]
      exact List.getElem_mem _
    have hw := h5 _ hm
    have e1 : IntKind.u8.min = 0 := by decide
    have e2 : IntKind.u8.max = 255 := by decide
    simpa only [Lit.wf, Bool.and_eq_true, decide_eq_true_eq, e1, e2] using hw

theorem heap_new (w : World) (o : Obj) : (w.alloc o).heap[w.heap.size]? = some o := by
  show (w.heap.push o)[w.heap.size]? = _
  simp

/-- A new cursor, made in a new block. -/
theorem cur_new {w : World} {a : Option Addr} {len cap : Nat} {zs : List Int} {x : Int} (hr : IsRow .u8 w a len cap zs) (x0 : 0 ≤ x) (x1 : x ≤ 1099511627776) :
    Cur w.heap.size (w.alloc (.cells #[.slice a len cap, .int .i64 0, .int .i64 x] 88)) := by
  refine ⟨a, len, cap, zs, 0, x, ⟨heap_new _ _, ?_, Nat.zero_le _, row_lt hr, by omega, by omega⟩⟩
  exact row_stays hr (World.grownBy_alloc w _ none) (fun x _ _ => by simp)

set_option maxHeartbeats 1000000 in
set_option maxRecDepth 100000 in
/-- spec.l1New. -/
theorem new_any (w : World) (a : Option Addr) (len cap : Nat) (zs : List Int) (hr : IsRow .u8 w a len cap zs) (hlen : len ≤ 1048576) :
    Calls Tryd.prog 36 #[.slice a len cap] w (NewCur w) := by
  have HR := Lib.hid hr
  clear hr
  go_enter Tryd.func36, Tryd.ntmps36
  go_wp2
  go_loop [3, 4] (fun h i => ∃ (k : Nat) (x : Int), k ≤ len ∧ i = .int .i64 k ∧ h = .int .i64 x ∧ 0 ≤ x ∧ x ≤ 1099511627776) (fun _ i => len - (intOf i).toNat)
  case atStart => exact ⟨0, _, Nat.zero_le _, rfl, rfl, by omega, by omega⟩
  case round =>
    obtain ⟨k, x, hk, rfl, rfl, x0, x1⟩ := hrel
    by_cases hlt : k < len ∧ k < 4000
    · obtain ⟨hk1, hk2⟩ := hlt
      obtain ⟨y, z, rfl, cb, z0, z1⟩ := row_at HR.out k hk1
      go_wp2
      rw [i64_and30]
      go_round
      case rel => exact ⟨k + 1, _, by omega, by go_num, rfl, by omega, by omega⟩
      case measure => simp [intOf]; omega
    · by_cases hk1 : k < len
      · have hk2 : ¬ k < 4000 := fun h => hlt ⟨hk1, h⟩
        clear hlt
        go_wp2
        go_ret
        exact ⟨w.heap.size, Nat.le_refl _, rfl, cur_new HR.out x0 x1, (Below.refl _ _).alloc (Nat.le_refl _) _⟩
      · clear hlt
        go_wp2
        go_ret
        exact ⟨w.heap.size, Nat.le_refl _, rfl, cur_new HR.out x0 x1, (Below.refl _ _).alloc (Nat.le_refl _) _⟩
end Go.Proofs.YtcalgjggmgnofaaDoor
