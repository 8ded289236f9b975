/- What is proved here: a piece of the proof of YtdilegbigaahnaaGreatExactIsValueOf (SigEq, TreeEq, BoxAt, ExactIsValueOfWalk, SigOpen). Condition: none beyond what each part says. -/
import Derived.Test.YtdilegbigaahnaaGreatVo01
import Derived.Deep.RegionHeld3
import Derived.Test.YtdilegbigaahnaaGreatVo02
import Derived.Test.YtdilegbigaahnaaGreatVo13
import Derived.Test.YtdilegbigaahnaaGreatVo15
import Derived.Test.YtdilegbigaahnaaGreatVo16
import Derived.Test.YtdilegbigaahnaaGreatVo07
import Derived.Test.YtdilegbigaahnaaGreatRows
import Derived.SliceStrings
import Derived.Deep.SlicePairs
import Derived.ChangeSame

/- What is proved here: the laws' comparison of two signatures (eqSignature and what it calls) returns true where both read alike. Condition: they lie in memory as said. -/
section
namespace Go.Proofs.YtdilegbigaahnaaGreat
open Go.RowKit

set_option maxHeartbeats 1000000 in
set_option maxRecDepth 100000 in
theorem eqCon_same (w : World) (c : ConD) (u v u2 v2 : Value) (hx : ConAt w c u v) (hy : ConAt w c u2 v2) (hm : c.args.length ≤ maxLen) :
    Calls Tryz.prog 105 #[.agg #[u, v], .agg #[u2, v2]] w fun e w' => e = .returned (.bool true) ∧ Below w.heap.size w w' := by
  obtain ⟨a, cap, rfl, rfl, hr⟩ := hx
  obtain ⟨b, cap2, rfl, rfl, hr2⟩ := hy
  have HR := Lib.hid hr
  have HR2 := Lib.hid hr2
  have HM := Lib.hid hm
  clear hr hr2 hm
  have hb : Below w.heap.size w ((w.alloc (.cells #[.string c.name, .slice a c.args.length cap] 73)).alloc (.cells #[.string c.name, .slice b c.args.length cap2] 73)) := ((Below.refl _ _).alloc (Nat.le_refl _) _).alloc (by simp) _
  have HB := Lib.hid hb
  clear hb
  have he : (c.name.toList == c.name.toList) = true := by simp
  go_enter Tryz.func105, Tryz.ntmps105
  go_wp2_with fail
  refine (eqS_same _ a b cap cap2 c.args (reads_below HR.out HB.out) (reads_below HR2.out HB.out) HM.out).mono ?_
  rintro e w1 ⟨rfl, q, rfl⟩
  go_wp2
  go_ret
  exact ⟨rfl, below_drewN HB.out q⟩

set_option maxHeartbeats 1000000 in
set_option maxRecDepth 100000 in
theorem eqConS_same (w : World) (a b : Option Addr) (cap cap2 : Nat) (cs : List ConD) (hx : Row2 ConAt w a cs) (hy : Row2 ConAt w b cs) (hm : cs.length ≤ maxLen) (hs : ∀ c ∈ cs, c.args.length ≤ maxLen) :
    Calls Tryz.prog 82 #[.slice a cs.length cap, .slice b cs.length cap2] w fun e w' => e = .returned (.bool true) ∧ Below w.heap.size w w' := by
  unfold maxLen at hm
  have HX := Lib.hid hx
  have HY := Lib.hid hy
  have HS := Lib.hid hs
  clear hx hy hs
  generalize hn : cs.length = n at *
  have HN := Lib.hid hn
  clear hn
  go_enter Tryz.func82, Tryz.ntmps82
  go_wp2
  go_loopw [5] (fun i wr => ∃ (k : Nat), k ≤ n ∧ i = .int .i64 k ∧ Hid (Below w.heap.size w wr)) (fun i _ => n - (intOf i).toNat)
  case atStart => exact ⟨0, Nat.zero_le _, rfl, Below.refl _ _⟩
  case round =>
    obtain ⟨k, hk, rfl, hB⟩ := hrel
    by_cases hlt : k < n
    · have hk' : k < cs.length := by rw [HN.out]; exact hlt
      obtain ⟨y, u, v, rfl, hc0, hc1, hr⟩ := row2_below con_below HX.out hB.out k hk'
      obtain ⟨z, u2, v2, rfl, hd0, hd1, hr2⟩ := row2_below con_below HY.out hB.out k hk'
      have hcm := HS.out _ (List.getElem_mem hk')
      generalize cs[k]'hk' = c at hr hr2 hcm
      have H := fun w' h1 h2 => eqCon_same w' c u v u2 v2 h1 h2 hcm
      clear hcm
      have HR := Lib.hid hr
      have HR2 := Lib.hid hr2
      clear hr hr2
      go_wp2
      go_region_held3 (fun w' => w'.cell? (y.add (k * 2)) = some u ∧ w'.cell? ⟨(y.add (k * 2)).block, (y.add (k * 2)).off + 1, none⟩ = some v ∧ w'.cell? (z.add (k * 2)) = some u2 ∧ w'.cell? ⟨(z.add (k * 2)).block, (z.add (k * 2)).off + 1, none⟩ = some v2)
        (first
          | go_keep
          | (refine ⟨cell_below ?_ hbl, cell_below ?_ hbl, cell_below ?_ hbl, cell_below ?_ hbl⟩ <;> assumption))
        (first
          | (go_at_call 105; refine (H _ (con_drew HR.out) (con_drew HR2.out)).mono ?_; rintro e w1 ⟨rfl, hbl⟩))
      have HB1 : Hid (Below w.heap.size w w1) := hB.out.trans ((below_of_drew hbl).mono hB.out.size)
      clear hbl H
      go_wp2
      go_roundw
      case rel => exact ⟨k + 1, by omega, by go_num, HB1⟩
      case measure => simp [intOf]; omega
    · go_wp2
      go_ret
      exact ⟨rfl, hB.out⟩

set_option maxHeartbeats 1000000 in
set_option maxRecDepth 100000 in
theorem eqTypeDecl_same (w : World) (c : TypeD) (u v u2 v2 : Value) (hx : TypeAt w c u v) (hy : TypeAt w c u2 v2) (hm : c.cons.length ≤ maxLen) (hm2 : ∀ d ∈ c.cons, d.args.length ≤ maxLen) :
    Calls Tryz.prog 57 #[.agg #[u, v], .agg #[u2, v2]] w fun e w' => e = .returned (.bool true) ∧ Below w.heap.size w w' := by
  obtain ⟨a, cap, rfl, rfl, hr⟩ := hx
  obtain ⟨b, cap2, rfl, rfl, hr2⟩ := hy
  have HR := Lib.hid hr
  have HR2 := Lib.hid hr2
  have HM := Lib.hid hm
  have HM2 := Lib.hid hm2
  clear hr hr2 hm hm2
  have hb : Below w.heap.size w ((w.alloc (.cells #[.string c.name, .slice a c.cons.length cap] 71)).alloc (.cells #[.string c.name, .slice b c.cons.length cap2] 71)) := ((Below.refl _ _).alloc (Nat.le_refl _) _).alloc (by simp) _
  have HB := Lib.hid hb
  clear hb
  have he : (c.name.toList == c.name.toList) = true := by simp
  go_enter Tryz.func57, Tryz.ntmps57
  go_wp2_with fail
  refine (eqConS_same _ a b cap cap2 c.cons (row2_below con_below HR.out HB.out) (row2_below con_below HR2.out HB.out) HM.out HM2.out).mono ?_
  rintro e w1 ⟨rfl, hb1⟩
  have HB1 : Hid (Below w.heap.size w w1) := HB.out.trans (hb1.mono HB.out.size)
  clear hb1
  go_wp2
  go_ret
  exact ⟨rfl, HB1.out⟩

set_option maxHeartbeats 1000000 in
set_option maxRecDepth 100000 in
theorem eqTypeDeclS_same (w : World) (a b : Option Addr) (cap cap2 : Nat) (cs : List TypeD) (hx : Row2 TypeAt w a cs) (hy : Row2 TypeAt w b cs) (hm : cs.length ≤ maxLen) (hs : ∀ c ∈ cs, c.cons.length ≤ maxLen ∧ ∀ d ∈ c.cons, d.args.length ≤ maxLen) :
    Calls Tryz.prog 29 #[.slice a cs.length cap, .slice b cs.length cap2] w fun e w' => e = .returned (.bool true) ∧ Below w.heap.size w w' := by
  unfold maxLen at hm
  have HX := Lib.hid hx
  have HY := Lib.hid hy
  have HS := Lib.hid hs
  clear hx hy hs
  generalize hn : cs.length = n at *
  have HN := Lib.hid hn
  clear hn
  go_enter Tryz.func29, Tryz.ntmps29
  go_wp2
  go_loopw [5] (fun i wr => ∃ (k : Nat), k ≤ n ∧ i = .int .i64 k ∧ Hid (Below w.heap.size w wr)) (fun i _ => n - (intOf i).toNat)
  case atStart => exact ⟨0, Nat.zero_le _, rfl, Below.refl _ _⟩
  case round =>
    obtain ⟨k, hk, rfl, hB⟩ := hrel
    by_cases hlt : k < n
    · have hk' : k < cs.length := by rw [HN.out]; exact hlt
      obtain ⟨y, u, v, rfl, hc0, hc1, hr⟩ := row2_below type_below HX.out hB.out k hk'
      obtain ⟨z, u2, v2, rfl, hd0, hd1, hr2⟩ := row2_below type_below HY.out hB.out k hk'
      have hcm := HS.out _ (List.getElem_mem hk')
      generalize cs[k]'hk' = c at hr hr2 hcm
      have H := fun w' h1 h2 => eqTypeDecl_same w' c u v u2 v2 h1 h2 hcm.1 hcm.2
      clear hcm
      have HR := Lib.hid hr
      have HR2 := Lib.hid hr2
      clear hr hr2
      go_wp2
      go_region_held3 (fun w' => w'.cell? (y.add (k * 2)) = some u ∧ w'.cell? ⟨(y.add (k * 2)).block, (y.add (k * 2)).off + 1, none⟩ = some v ∧ w'.cell? (z.add (k * 2)) = some u2 ∧ w'.cell? ⟨(z.add (k * 2)).block, (z.add (k * 2)).off + 1, none⟩ = some v2)
        (first
          | go_keep
          | (refine ⟨cell_below ?_ hbl, cell_below ?_ hbl, cell_below ?_ hbl, cell_below ?_ hbl⟩ <;> assumption))
        (first
          | (go_at_call 57; refine (H _ (type_drew HR.out) (type_drew HR2.out)).mono ?_; rintro e w1 ⟨rfl, hbl⟩))
      have HB1 : Hid (Below w.heap.size w w1) := hB.out.trans ((below_of_drew hbl).mono hB.out.size)
      clear hbl H
      go_wp2
      go_roundw
      case rel => exact ⟨k + 1, by omega, by go_num, HB1⟩
      case measure => simp [intOf]; omega
    · go_wp2
      go_ret
      exact ⟨rfl, hB.out⟩

set_option maxHeartbeats 1000000 in
set_option maxRecDepth 100000 in
theorem eqSig_same (w : World) (a b : Option Addr) (cap cap2 : Nat) (s : List TypeD) (hx : Row2 TypeAt w a s) (hy : Row2 TypeAt w b s) (hm : s.length ≤ maxLen) (hs : ∀ c ∈ s, c.cons.length ≤ maxLen ∧ ∀ d ∈ c.cons, d.args.length ≤ maxLen) :
    Calls Tryz.prog 11 #[.agg #[.slice a s.length cap], .agg #[.slice b s.length cap2]] w fun e w' => e = .returned (.bool true) ∧ Below w.heap.size w w' := by
  have HX := Lib.hid hx
  have HY := Lib.hid hy
  have HM := Lib.hid hm
  have HS := Lib.hid hs
  clear hx hy hm hs
  have hb : Below w.heap.size w ((w.alloc (.cells #[.slice a s.length cap] 33)).alloc (.cells #[.slice b s.length cap2] 33)) := ((Below.refl _ _).alloc (Nat.le_refl _) _).alloc (by simp) _
  have HB := Lib.hid hb
  clear hb
  go_enter Tryz.func11, Tryz.ntmps11
  go_wp2_with fail
  refine (eqTypeDeclS_same _ a b cap cap2 s (row2_below type_below HX.out HB.out) (row2_below type_below HY.out HB.out) HM.out HS.out).mono ?_
  rintro e w1 ⟨rfl, hb1⟩
  have HB1 : Hid (Below w.heap.size w w1) := HB.out.trans (hb1.mono HB.out.size)
  clear hb1
  go_wp2
  go_ret
  exact ⟨rfl, HB1.out⟩
end Go.Proofs.YtdilegbigaahnaaGreat
end

/- What is proved here: the laws' comparison of two values (eqValue and eqValueS) returns true where both read alike. Condition: they lie in memory as said. -/
section
namespace Go.Proofs.YtdilegbigaahnaaGreat
open Go.RowKit

set_option maxHeartbeats 1000000 in
set_option maxRecDepth 100000 in
theorem eqNode (w : World) (k n : Int) (t : ByteArray) (c : Nat) (p p2 : Option Addr) (cap cap2 : Nat)
    (H : ∀ w', Below w.heap.size w w' → Calls Tryz.prog 30 #[.slice p c cap, .slice p2 c cap2] w' fun e w'' => e = .returned (.bool true) ∧ Below w'.heap.size w' w'') :
    Calls Tryz.prog 12 #[.agg #[.int .i64 k, .int .i64 n, .string t, .slice p c cap], .agg #[.int .i64 k, .int .i64 n, .string t, .slice p2 c cap2]] w fun e w' => e = .returned (.bool true) ∧ Below w.heap.size w w' := by
  have hb : Below w.heap.size w ((w.alloc (.cells #[.int .i64 k, .int .i64 n, .string t, .slice p c cap] 37)).alloc (.cells #[.int .i64 k, .int .i64 n, .string t, .slice p2 c cap2] 37)) := ((Below.refl _ _).alloc (Nat.le_refl _) _).alloc (by simp) _
  have HB := Lib.hid hb
  clear hb
  have he : (t.toList == t.toList) = true := by simp
  go_enter Tryz.func12, Tryz.ntmps12
  go_wp2_with fail
  refine (H _ HB.out).mono ?_
  rintro e w1 ⟨rfl, hb1⟩
  have HB1 : Hid (Below w.heap.size w w1) := HB.out.trans (hb1.mono HB.out.size)
  clear hb1 H
  go_wp2
  go_ret
  exact ⟨rfl, HB1.out⟩

set_option maxHeartbeats 1000000 in
set_option maxRecDepth 100000 in
theorem eqValueS_same : ∀ F : Trees, F.fits → F.length ≤ maxLen → ∀ (w : World) (a b : Option Addr) (cap cap2 : Nat), TreesAt w F a 0 → TreesAt w F b 0 →
    Calls Tryz.prog 30 #[.slice a F.length cap, .slice b F.length cap2] w fun e w' => e = .returned (.bool true) ∧ Below w.heap.size w w' := by
  refine Trees.ind fun F hall hfit hm w a b cap cap2 hx hy => ?_
  unfold maxLen at hm
  have HX := Lib.hid hx
  have HY := Lib.hid hy
  have HALL := Lib.hid hall
  have HF := Lib.hid hfit
  clear hx hy hall hfit
  generalize hn : F.length = n at *
  have HN := Lib.hid hn
  clear hn
  go_enter Tryz.func30, Tryz.ntmps30
  go_wp2
  go_loopw [5] (fun i wr => ∃ (k : Nat) (rest : Trees), i = .int .i64 k ∧ k + rest.length = n ∧ Hid (TreesAt w rest a k) ∧ Hid (TreesAt w rest b k) ∧ Hid (rest.All (fun G => G.fits → G.length ≤ maxLen → ∀ (w : World) (a b : Option Addr) (cap cap2 : Nat), TreesAt w G a 0 → TreesAt w G b 0 →
    Calls Tryz.prog 30 #[.slice a G.length cap, .slice b G.length cap2] w fun e w' => e = .returned (.bool true) ∧ Below w.heap.size w w')) ∧ Hid rest.fits ∧ Hid (Below w.heap.size w wr)) (fun i _ => n - (intOf i).toNat)
  case atStart => exact ⟨0, F, rfl, by rw [HN.out]; omega, HX, HY, HALL, HF, Below.refl _ _⟩
  case round =>
    obtain ⟨k, rest, rfl, hkn, hxr, hyr, hall, hfr, hB⟩ := hrel
    cases rest with
    | cons kd nu t ar r =>
      have hkl : k < n := by simp only [Trees.length] at hkn; omega
      have hkn2 : k + 1 + r.length = n := by simp only [Trees.length] at hkn; omega
      obtain ⟨y, p, cp, rfl, h1, h2, h3, h4, hs, hr⟩ := (hxr.out.below hB.out).open
      obtain ⟨z, p2, cp2, rfl, j1, j2, j3, j4, hs2, hr2⟩ := (hyr.out.below hB.out).open
      obtain ⟨hfk, hfn, hft, hfl, hfa, hfr2⟩ := hfr.out
      obtain ⟨ha1, ha2⟩ := hall.out
      have hxr2 : Hid (TreesAt w r (some y) (k + 1)) := hxr.out.2
      have hyr2 : Hid (TreesAt w r (some z) (k + 1)) := hyr.out.2
      have H := fun (w' : World) (h : Below wr.heap.size wr w') => eqNode w' kd nu t ar.length p p2 cp cp2 (fun w'' hbw => ha1 hfa hfl w'' p p2 cp cp2 ((hs.below h).below hbw) ((hs2.below h).below hbw))
      have HR2 := Lib.hid hfr2
      have HA2 := Lib.hid ha2
      clear hxr hyr hall hfr hs hr hs2 hr2 hfk hfn hft hfl hfa hfr2 ha1 ha2 hkn
      go_wp2
      go_region_held3 (fun w' => (w'.cell? (y.add (k * 4)) = some (.int .i64 kd) ∧ w'.cell? (fieldAt y k 1) = some (.int .i64 nu) ∧ w'.cell? (fieldAt y k 2) = some (.string t) ∧ w'.cell? (fieldAt y k 3) = some (.slice p ar.length cp)) ∧ w'.cell? (z.add (k * 4)) = some (.int .i64 kd) ∧ w'.cell? (fieldAt z k 1) = some (.int .i64 nu) ∧ w'.cell? (fieldAt z k 2) = some (.string t) ∧ w'.cell? (fieldAt z k 3) = some (.slice p2 ar.length cp2))
        (first
          | go_keep
          | (refine ⟨⟨cell_below ?_ hbl, cell_below ?_ hbl, cell_below ?_ hbl, cell_below ?_ hbl⟩, cell_below ?_ hbl, cell_below ?_ hbl, cell_below ?_ hbl, cell_below ?_ hbl⟩ <;> assumption))
        (first
          | (go_at_call 12; refine (H _ ((Below.refl _ _).drew)).mono ?_; rintro e w1 ⟨rfl, hbl⟩))
      have HB1 : Hid (Below w.heap.size w w1) := hB.out.trans ((below_of_drew hbl).mono hB.out.size)
      clear hbl H
      go_wp2
      go_roundw
      case rel => exact ⟨k + 1, r, by go_num, hkn2, hxr2, hyr2, HA2, HR2, HB1⟩
      case measure => simp [intOf]; omega
    | nil =>
      obtain rfl : k = n := by simp only [Trees.length] at hkn; omega
      clear hxr hyr hall hfr
      go_wp2
      go_ret
      exact ⟨rfl, hB.out⟩

theorem eqValue_same (w : World) (k n : Int) (t : ByteArray) (ar : Trees) (p p2 : Option Addr) (cap cap2 : Nat) (hf : ar.fits) (hm : ar.length ≤ maxLen) (hx : TreesAt w ar p 0) (hy : TreesAt w ar p2 0) :
    Calls Tryz.prog 12 #[.agg #[.int .i64 k, .int .i64 n, .string t, .slice p ar.length cap], .agg #[.int .i64 k, .int .i64 n, .string t, .slice p2 ar.length cap2]] w fun e w' => e = .returned (.bool true) ∧ Below w.heap.size w w' :=
  eqNode w k n t ar.length p p2 cap cap2 (fun w' hb => eqValueS_same ar hf hm w' p p2 cap cap2 (hx.below hb) (hy.below hb))
end Go.Proofs.YtdilegbigaahnaaGreat
end

/- What is proved here: a node in a block of its own. No condition. -/
section
namespace Go.Proofs.YtdilegbigaahnaaGreat
open Go.RowKit

/-- The cells of a node in a block of its own. -/
def BoxAt (w : World) (b : Nat) (k n : Int) (t : ByteArray) (a : Option Addr) (l c : Nat) (T : TypeId) : Prop := w.heap[b]? = some (.cells #[.int .i64 k, .int .i64 n, .string t, .slice a l c] T (0, 0))
theorem BoxAt.below {w w' : World} {b : Nat} {k n : Int} {t : ByteArray} {a : Option Addr} {l c : Nat} {T : TypeId} (h : BoxAt w b k n t a l c T) (hb : Below w.heap.size w w') : BoxAt w' b k n t a l c T :=
  (hb.block b (Array.getElem?_eq_some_iff.1 h).1).trans h
theorem BoxAt.cells {w : World} {b : Nat} {k n : Int} {t : ByteArray} {a : Option Addr} {l c : Nat} {T : TypeId} (h : BoxAt w b k n t a l c T) : w.cell? ⟨b, 0, none⟩ = some (.int .i64 k) ∧ w.cell? ⟨b, 1, none⟩ = some (.int .i64 n) ∧ w.cell? ⟨b, 2, none⟩ = some (.string t) ∧ w.cell? ⟨b, 3, none⟩ = some (.slice a l c) := by
  obtain ⟨h0, h1, h2, h3, _⟩ := four_cells h
  exact ⟨h0, h1, h2, h3⟩

/-- One value in a block of its own. -/
def OneAt (w : World) (b : Nat) (v : Value) : Prop := w.cell? ⟨b, 0, none⟩ = some v ∧ b < w.heap.size
theorem OneAt.below {w w' : World} {b : Nat} {v : Value} (h : OneAt w b v) (hb : Below w.heap.size w w') : OneAt w' b v :=
  ⟨(World.cell?_of_block (hb.block b h.2)).trans h.1, Nat.lt_of_lt_of_le h.2 hb.size⟩
theorem one_at {w : World} {b : Nat} {v : Value} {T : TypeId} {fr : Nat × Nat} (h : w.heap[b]? = some (.cells #[v] T fr)) : w.cell? ⟨b, 0, none⟩ = some v := by
  simp [World.cell?, h]
theorem OneAt.new (w : World) (v : Value) (T : TypeId) : OneAt (w.alloc (.cells #[v] T)) w.heap.size v := by
  refine ⟨?_, by simp⟩
  exact one_at (heap_at_new w (.cells #[v] T))
end Go.Proofs.YtdilegbigaahnaaGreat
end

/- What is proved here: the text of FnExactIsValueOf returns true for every signature, value and text. Condition: none. -/
section
namespace Go.Proofs.YtdilegbigaahnaaGreat
open Go.RowKit

set_option maxHeartbeats 4000000 in
set_option maxRecDepth 100000 in
theorem fnExactIsValueOf_walk (a0 : Option Addr) (cap0 : Nat) (s : List TypeD) (k n : Int) (t : ByteArray) (F : Trees) (a1 : Option Addr) (cap1 : Nat) (nm : ByteArray) (hbs : nm.size ≤ maxLen) (w : World) (hx : Row2 TypeAt w a0 s) (hf : sigFits s)
    (hy : TreesAt w F a1 0) (hfv : F.fits) (hmv : F.length ≤ maxLen) (_hk : -9223372036854775808 ≤ k ∧ k ≤ 9223372036854775807) (_hn : -9223372036854775808 ≤ n ∧ n ≤ 9223372036854775807) (ht : t.size ≤ maxLen) :
    Calls Tryz.prog 3 #[.agg #[.slice a0 s.length cap0], .agg #[.int .i64 k, .int .i64 n, .string t, .slice a1 F.length cap1], .string nm] w fun e w' => e = .returned (.bool true) ∧ Below w.heap.size w w' := by
  obtain ⟨hp0, hp1, hB0, hs0⟩ := two_allocs w (.cells #[.slice a0 s.length cap0] 24) (.cells #[.int .i64 k, .int .i64 n, .string t, .slice a1 F.length cap1] 27)
  obtain ⟨w0, hw0⟩ : ∃ w0, w0 = (w.alloc (.cells #[.slice a0 s.length cap0] 24)).alloc (.cells #[.int .i64 k, .int .i64 n, .string t, .slice a1 F.length cap1] 27) := ⟨_, rfl⟩
  rw [← hw0] at hp0 hp1 hB0 hs0
  have HA0 : Hid (OneAt w0 w.heap.size (.slice a0 s.length cap0)) := ⟨(one_cell hp0).1, by omega⟩
  have HC0 : Hid (BoxAt w0 (w.heap.size + 1) k n t a1 F.length cap1 27) := hp1
  have HB0 := Lib.hid hB0
  have HW0 := Lib.hid hw0
  have HX := Lib.hid (row2_below type_below hx hB0)
  have HY := Lib.hid (hy.below hB0)
  unfold maxLen at hbs
  have v0 := HA0.out.1
  obtain ⟨u0, u1, u2, u3⟩ := HC0.out.cells
  clear _hk _hn hp0 hp1 hs0 hx hy hw0 hB0
  by_cases hbig : 1048576 < nm.size
  · go_enter Tryz.func3, Tryz.ntmps3
    go_wp2
    rw [← HW0.out]
    go_ret
    exact ⟨rfl, HB0.out⟩
  have H0 := szSig_any 1048576 (Nat.le_refl _) w0 a0 cap0 s HX.out hf
  by_cases hsz : sigSize s ≤ 1048576
  rotate_left
  · rw [left_no hsz] at H0
    clear hsz hf hfv hmv ht
    go_enter Tryz.func3, Tryz.ntmps3
    go_wp2_with fail
    rw [← HW0.out]
    refine H0.mono ?_
    rintro e w1 ⟨rfl, hb1⟩
    have HB1 := Lib.hid hb1
    clear hb1 H0
    go_wp2
    go_ret
    exact ⟨rfl, HB0.out.trans (HB1.out.mono HB0.out.size)⟩
  rw [left_yes hsz] at H0
  have hL1 : 1048576 - sigSize s ≤ 1048576 := by omega
  have hsm := smalls_of hsz
  have HSM := Lib.hid hsm
  have HMX := Lib.hid (bigs_of hsm)
  generalize 1048576 - sigSize s = L1 at *
  have H1 := fun w' (hb : Below w0.heap.size w0 w') => szValue_any L1 hL1 w' k n t F a1 cap1 ht hfv hmv (HY.out.below hb)
  by_cases hsz2 : t.size + F.size ≤ L1
  rotate_left
  · rw [left_no hsz2] at H1
    have HH1 := Lib.hid H1
    clear hsz hf hfv hmv ht hsz2 hsm H1
    go_enter Tryz.func3, Tryz.ntmps3
    go_wp2_with fail
    rw [← HW0.out]
    refine H0.mono ?_
    rintro e w1 ⟨rfl, hb1⟩
    have HB1 := Lib.hid hb1
    have HC1 : Hid (BoxAt w1 (w.heap.size + 1) k n t a1 F.length cap1 27) := HC0.out.below hb1
    clear v0 u0 u1 u2 u3 hb1 H0
    obtain ⟨u0, u1, u2, u3⟩ := HC1.out.cells
    go_wp2_with fail
    refine (HH1.out w1 HB1.out).mono ?_
    rintro e w2 ⟨rfl, hb2⟩
    have HB2 : Hid (Below w0.heap.size w0 w2) := HB1.out.trans (hb2.mono HB1.out.size)
    clear hb2
    go_wp2
    go_ret
    exact ⟨rfl, HB0.out.trans (HB2.out.mono HB0.out.size)⟩
  rw [left_yes hsz2] at H1
  have hL2 : L1 - (t.size + F.size) ≤ 1048576 := by omega
  have hfs : F.size ≤ 1048576 := by omega
  generalize L1 - (t.size + F.size) = L2 at *
  have HTA := Lib.hid (fun w' (hb : Below w0.heap.size w0 w') => toSig_any w' a0 cap0 s (row2_below type_below HX.out hb) HSM.out.1 HSM.out.2)
  have HTB := Lib.hid (fun w' (hb : Below w0.heap.size w0 w') => toValue_any w' k n t F a1 cap1 hfv hfs (HY.out.below hb))
  have HS := fun w' p c a cap (hx : TreesAt w' F p 0) (hsg : Row2 TypeAt w' a s) => spec_value_of w' k n t F p c a cap s nm hfv hfs ht hx hf hsm.1 hsm.2 hsg
  have HI := fun S w' p c a cap (hlc : F.length ≤ c) (hx : TreesAt w' F p 0) (hO : OwnSig S w' (.slice a s.length cap) s) (hS : ∀ b, S b → b < w'.heap.size) => impl_value_of w' k n t F p c a cap s nm hfv hfs ht hx hf hsm.1 hsm.2 S hlc hO hS
  have HEA := Lib.hid (fun w' a b c d (hx : Row2 TypeAt w' a s) (hy : Row2 TypeAt w' b s) => eqSig_same w' a b c d s hx hy HMX.out.1 HMX.out.2)
  have HEB := Lib.hid (fun w' p p2 cp cp2 (hx : TreesAt w' F p 0) (hy : TreesAt w' F p2 0) => eqValue_same w' k n t F p p2 cp cp2 hfv hmv hx hy)
  generalize valueOf s k n t F nm = z at HS HI
  have HHS := Lib.hid HS
  have HHI := Lib.hid HI
  have HH1 := Lib.hid H1
  clear HS HI H1 hsz hsz2 hfs hf hfv hmv ht hsm
  go_enter Tryz.func3, Tryz.ntmps3
  go_wp2_with fail
  rw [← HW0.out]
  refine H0.mono ?_
  rintro e w1 ⟨rfl, hb1⟩
  have HB1 := Lib.hid hb1
  have HA1 : Hid (OneAt w1 w.heap.size (.slice a0 s.length cap0)) := HA0.out.below hb1
  have HC1 : Hid (BoxAt w1 (w.heap.size + 1) k n t a1 F.length cap1 27) := HC0.out.below hb1
  clear v0 u0 u1 u2 u3 hb1 H0
  have v0 := HA1.out.1
  obtain ⟨u0, u1, u2, u3⟩ := HC1.out.cells
  go_wp2_with fail
  refine (HH1.out w1 HB1.out).mono ?_
  rintro e w2 ⟨rfl, hb2⟩
  have HB2 : Hid (Below w0.heap.size w0 w2) := HB1.out.trans (hb2.mono HB1.out.size)
  have HA2 : Hid (OneAt w2 w.heap.size (.slice a0 s.length cap0)) := HA1.out.below hb2
  have HC2 : Hid (BoxAt w2 (w.heap.size + 1) k n t a1 F.length cap1 27) := HC1.out.below hb2
  have HA2d : Hid (OneAt w2.drew w.heap.size (.slice a0 s.length cap0)) := HA2.out
  have HC2d : Hid (BoxAt w2.drew (w.heap.size + 1) k n t a1 F.length cap1 27) := HC2.out
  have HB2d : Hid (Below w0.heap.size w0 w2.drew) := HB2.out.drew
  clear v0 u0 u1 u2 u3 hb2 HH1
  have v0 := HA2.out.1
  obtain ⟨u0, u1, u2, u3⟩ := HC2.out.cells
  have HTT : Hid (∀ wa, Hid (OneAt wa w.heap.size (.slice a0 s.length cap0)) → ∀ wb, Below wa.heap.size wa wb → Hid (OneAt wb w.heap.size (.slice a0 s.length cap0))) := fun _ h _ hb => h.out.below hb
  have HTU : Hid (∀ wa, Hid (BoxAt wa (w.heap.size + 1) k n t a1 F.length cap1 27) → ∀ wb, Below wa.heap.size wa wb → Hid (BoxAt wb (w.heap.size + 1) k n t a1 F.length cap1 27)) := fun _ h _ hb => h.out.below hb
  have HTV : Hid (∀ wa, Hid (Below w0.heap.size w0 wa) → ∀ wb, Below wa.heap.size wa wb → Hid (Below w0.heap.size w0 wb)) := fun _ h _ hb => h.out.trans (hb.mono h.out.size)
  have HTT2 : Hid (∀ wb, Below w2.drew.heap.size w2.drew wb → Hid (OneAt wb w.heap.size (.slice a0 s.length cap0))) := fun wb hb => HTT.out w2.drew HA2d wb hb
  have HTU2 : Hid (∀ wb, Below w2.drew.heap.size w2.drew wb → Hid (BoxAt wb (w.heap.size + 1) k n t a1 F.length cap1 27)) := fun wb hb => HTU.out w2.drew HC2d wb hb
  have HTV2 : Hid (∀ wb, Below w2.drew.heap.size w2.drew wb → Hid (Below w0.heap.size w0 wb)) := fun wb hb => HTV.out w2.drew HB2d wb hb
  go_wp2
  go_region_held3 (fun w' => w'.cell? ⟨w.heap.size, 0, none⟩ = some (.slice a0 s.length cap0) ∧ w'.cell? ⟨w.heap.size + 1, 0, none⟩ = some (.int .i64 k) ∧ w'.cell? ⟨w.heap.size + 1, 1, none⟩ = some (.int .i64 n) ∧ w'.cell? ⟨w.heap.size + 1, 2, none⟩ = some (.string t) ∧ w'.cell? ⟨w.heap.size + 1, 3, none⟩ = some (.slice a1 F.length cap1))
    (first
      | go_keep
      | (obtain ⟨b0, b1, b2, b3⟩ := HCE.out.cells; exact ⟨HAE.out.1, b0, b1, b2, b3⟩)
      | (obtain ⟨b0, b1, b2, b3⟩ := HCB.out.cells; exact ⟨HAB.out.1, b0, b1, b2, b3⟩)
      | (obtain ⟨b0, b1, b2, b3⟩ := HCA.out.cells; exact ⟨HAA.out.1, b0, b1, b2, b3⟩))
    (first
      | (go_at_call 8; with_reducible refine (HTA.out w2.drew HB2d.out).mono ?_; rintro e wa ⟨⟨va, rfl, hoa⟩, hba⟩; obtain ⟨pa, ca, rfl, hra⟩ := hoa.reads; have HRA := Lib.hid hra; have HAA := HTT2.out wa hba; have HCA := HTU2.out wa hba; have HBA := HTV2.out wa hba; clear hoa hra)
      | (go_at_call 9; with_reducible refine (HTB.out w2.drew HB2d.out).mono ?_; rintro e wb ⟨⟨vb, bb, rfl, hob, _, _⟩, hbb⟩; obtain ⟨pb, cb, rfl, _, hrb⟩ := hob.reads; have HRB := Lib.hid hrb; have HAB := HTT2.out wb hbb; have HCB := HTU2.out wb hbb; have HBB := HTV2.out wb hbb; clear hob hrb)
      | (go_at_call 9; with_reducible refine (HTB.out wa HBA.out).mono ?_; rintro e wb ⟨⟨vb, bb, rfl, hob, _, _⟩, hbb⟩; obtain ⟨pb, cb, rfl, _, hrb⟩ := hob.reads; have HRB := Lib.hid hrb; have HRA2 := Lib.hid (row2_below type_below HRA.out hbb); have HAB := HTT.out wa HAA wb hbb; have HCB := HTU.out wa HCA wb hbb; have HBB := HTV.out wa HBA wb hbb; clear hob hrb)
      | (go_at_call 8; with_reducible refine (HTA.out wb HBB.out).mono ?_; rintro e wa ⟨⟨va, rfl, hoa⟩, hba⟩; obtain ⟨pa, ca, rfl, hra⟩ := hoa.reads; have HRA := Lib.hid hra; have HRB2 := Lib.hid (HRB.out.below hba); have HAA := HTT.out wb HAB wa hba; have HCA := HTU.out wb HCB wa hba; have HBA := HTV.out wb HBB wa hba; clear hoa hra)
      | (go_at_call 7; with_reducible refine (HHS.out wb pb cb pa ca HRB.out HRA2.out).mono ?_; rintro e we ⟨rfl, hbe⟩; have HAE := HTT.out wb HAB we hbe; have HCE := HTU.out wb HCB we hbe; have HBE := HTV.out wb HBB we hbe; clear hbe)
      | (go_at_call 7; with_reducible refine (HHS.out wa pb cb pa ca HRB2.out HRA.out).mono ?_; rintro e we ⟨rfl, hbe⟩; have HAE := HTT.out wa HAA we hbe; have HCE := HTU.out wa HCA we hbe; have HBE := HTV.out wa HBA we hbe; clear hbe))
  clear v0 u0 u1 u2 u3 hba hbb
  have v0 := HAE.out.1
  obtain ⟨u0, u1, u2, u3⟩ := HCE.out.cells
  go_wp2_with fail
  refine (HTA.out we HBE.out).mono ?_
  rintro e w3 ⟨⟨vc, rfl, hoc⟩, hb3⟩
  obtain ⟨a4, cap4, rfl, hrc⟩ := hoc.reads
  have HA3 := HTT.out we HAE w3 hb3
  have HC3 := HTU.out we HCE w3 hb3
  have HB3 := HTV.out we HBE w3 hb3
  have hB4 : Below w3.heap.size w3 (w3.alloc (.cells #[.slice a4 s.length cap4] 33)) := (Below.refl _ _).alloc (Nat.le_refl _) _
  have HA4 := HTT.out w3 HA3 _ hB4
  have HC4 := HTU.out w3 HC3 _ hB4
  have HB4 := HTV.out w3 HB3 _ hB4
  have HX4 := Lib.hid (OneAt.new w3 (.slice a4 s.length cap4) 33)
  have HO4 := Lib.hid (hoc.keep keeps_type (w' := w3.alloc (.cells #[.slice a4 s.length cap4] 33)) (fun b hb => hB4.block b hb.2))
  have HS4 : Hid (∀ b, Came we w3 b → b < (w3.alloc (.cells #[.slice a4 s.length cap4] 33)).heap.size) := fun b hb => Nat.lt_of_lt_of_le hb.2 hB4.size
  have HR4 := Lib.hid (row2_below type_below hrc hB4)
  clear v0 u0 u1 u2 u3 hb3 hB4 hoc hrc
  have v0 := HA4.out.1
  obtain ⟨u0, u1, u2, u3⟩ := HC4.out.cells
  have x0 := HX4.out.1
  go_wp2_with fail
  generalize w3.alloc (.cells #[.slice a4 s.length cap4] 33) = w4 at *
  generalize w3.heap.size = n9 at *
  refine (HTB.out w4 HB4.out).mono ?_
  rintro e w5 ⟨⟨vd, bd, rfl, hod, _, _⟩, hb5⟩
  obtain ⟨pc, cc, rfl, hld, hrd⟩ := hod.reads
  have hB6 : Below w5.heap.size w5 (w5.alloc (.cells #[.int .i64 k, .int .i64 n, .string t, .slice pc F.length cc] 37)) := (Below.refl _ _).alloc (Nat.le_refl _) _
  have hB46 : Below w4.heap.size w4 (w5.alloc (.cells #[.int .i64 k, .int .i64 n, .string t, .slice pc F.length cc] 37)) := hb5.trans (hB6.mono hb5.size)
  have HA6 := HTT.out w4 HA4 _ hB46
  have HC6 := HTU.out w4 HC4 _ hB46
  have HB6 := HTV.out w4 HB4 _ hB46
  have HX6 : Hid (OneAt (w5.alloc (.cells #[.int .i64 k, .int .i64 n, .string t, .slice pc F.length cc] 37)) n9 (.slice a4 s.length cap4)) := HX4.out.below hB46
  have HY6 : Hid (BoxAt (w5.alloc (.cells #[.int .i64 k, .int .i64 n, .string t, .slice pc F.length cc] 37)) w5.heap.size k n t pc F.length cc 37) := heap_at_new w5 _
  have HR6 := Lib.hid (row2_below type_below HR4.out hB46)
  have HO6 := Lib.hid (HO4.out.keep keeps_type (w' := w5.alloc (.cells #[.int .i64 k, .int .i64 n, .string t, .slice pc F.length cc] 37)) (fun b hb => hB46.block b (HS4.out b hb)))
  have HS6 : Hid (∀ b, Came we w3 b → b < (w5.alloc (.cells #[.int .i64 k, .int .i64 n, .string t, .slice pc F.length cc] 37)).heap.size) := fun b hb => Nat.lt_of_lt_of_le (HS4.out b hb) hB46.size
  have HT6 := Lib.hid (hrd.below hB6)
  have HLD := Lib.hid hld
  clear v0 u0 u1 u2 u3 x0 hb5 hB6 hB46 hod hrd hld
  have v0 := HA6.out.1
  obtain ⟨u0, u1, u2, u3⟩ := HC6.out.cells
  have x0 := HX6.out.1
  obtain ⟨y0, y1, y2, y3⟩ := HY6.out.cells
  go_wp2_with fail
  generalize w5.alloc (.cells #[.int .i64 k, .int .i64 n, .string t, .slice pc F.length cc] 37) = w6 at *
  generalize w5.heap.size = n10 at *
  refine (HHI.out _ w6 pc cc a4 cap4 HLD.out HT6.out HO6.out HS6.out).mono ?_
  rintro e w7 ⟨rfl, hb7⟩
  have HA7 := HTT.out w6 HA6 w7 hb7
  have HC7 := HTU.out w6 HC6 w7 hb7
  have HB7 := HTV.out w6 HB6 w7 hb7
  have HX7 : Hid (OneAt w7 n9 (.slice a4 s.length cap4)) := HX6.out.below hb7
  have HY7 : Hid (BoxAt w7 n10 k n t pc F.length cc 37) := HY6.out.below hb7
  have HR7 := Lib.hid (row2_below type_below HR6.out hb7)
  have HT7 := Lib.hid (HT6.out.below hb7)
  clear v0 u0 u1 u2 u3 x0 y0 y1 y2 y3 hb7 HHI HHS HO6 HS6 HO4 HS4
  have v0 := HA7.out.1
  obtain ⟨u0, u1, u2, u3⟩ := HC7.out.cells
  have x0 := HX7.out.1
  obtain ⟨y0, y1, y2, y3⟩ := HY7.out.cells
  have HTX : Hid (∀ wa, Hid (OneAt wa n9 (.slice a4 s.length cap4)) → ∀ wb, Below wa.heap.size wa wb → Hid (OneAt wb n9 (.slice a4 s.length cap4))) := fun _ h _ hb => h.out.below hb
  have HTY : Hid (∀ wa, Hid (BoxAt wa n10 k n t pc F.length cc 37) → ∀ wb, Below wa.heap.size wa wb → Hid (BoxAt wb n10 k n t pc F.length cc 37)) := fun _ h _ hb => h.out.below hb
  have HTR : Hid (∀ wa, Hid (Row2 TypeAt wa a4 s) → ∀ wb, Below wa.heap.size wa wb → Hid (Row2 TypeAt wb a4 s)) := fun _ h _ hb => row2_below type_below h.out hb
  have HTS : Hid (∀ wa, Hid (TreesAt wa F pc 0) → ∀ wb, Below wa.heap.size wa wb → Hid (TreesAt wb F pc 0)) := fun _ h _ hb => h.out.below hb
  have HA7d : Hid (OneAt w7.drew w.heap.size (.slice a0 s.length cap0)) := HA7
  have HC7d : Hid (BoxAt w7.drew (w.heap.size + 1) k n t a1 F.length cap1 27) := HC7
  have HX7d : Hid (OneAt w7.drew n9 (.slice a4 s.length cap4)) := HX7
  have HY7d : Hid (BoxAt w7.drew n10 k n t pc F.length cc 37) := HY7
  have HB7d : Hid (Below w0.heap.size w0 w7.drew) := HB7.out.drew
  have HR7d : Hid (Row2 TypeAt w7.drew a4 s) := HR7
  have HT7d : Hid (TreesAt w7.drew F pc 0) := HT7.out.drew
  go_wp2
  go_region_held3 (fun w' => w'.cell? ⟨w.heap.size, 0, none⟩ = some (.slice a0 s.length cap0) ∧ w'.cell? ⟨n9, 0, none⟩ = some (.slice a4 s.length cap4))
    (first
      | go_keep
      | exact ⟨HA9.out.1, HX9.out.1⟩
      | exact ⟨HA8.out.1, HX8.out.1⟩)
    (first
      | (go_at_call 8; refine (HTA.out w7.drew HB7d.out).mono ?_; rintro e w8 ⟨⟨ve, rfl, hoe⟩, hb8⟩; obtain ⟨pe, ce, rfl, hre⟩ := hoe.reads; have HRE := Lib.hid hre; have HA8 := HTT.out w7.drew HA7d w8 hb8; have HC8 := HTU.out w7.drew HC7d w8 hb8; have HX8 := HTX.out w7.drew HX7d w8 hb8; have HY8 := HTY.out w7.drew HY7d w8 hb8; have HB8 := HTV.out w7.drew HB7d w8 hb8; have HR8 := HTR.out w7.drew HR7d w8 hb8; have HT8 := HTS.out w7.drew HT7d w8 hb8; clear hoe hre)
      | (go_at_call 11; refine (HEA.out w8 a4 pe cap4 ce HR8.out HRE.out).mono ?_; rintro e w9 ⟨rfl, hb9⟩; have HA9 := HTT.out w8 HA8 w9 hb9; have HC9 := HTU.out w8 HC8 w9 hb9; have HX9 := HTX.out w8 HX8 w9 hb9; have HY9 := HTY.out w8 HY8 w9 hb9; have HB9 := HTV.out w8 HB8 w9 hb9; have HT9 := HTS.out w8 HT8 w9 hb9))
  clear v0 u0 u1 u2 u3 x0 y0 y1 y2 y3 hb8 hb9
  obtain ⟨u0, u1, u2, u3⟩ := HC9.out.cells
  obtain ⟨y0, y1, y2, y3⟩ := HY9.out.cells
  have HC9d : Hid (BoxAt w9.drew (w.heap.size + 1) k n t a1 F.length cap1 27) := HC9
  have HY9d : Hid (BoxAt w9.drew n10 k n t pc F.length cc 37) := HY9
  have HB9d : Hid (Below w0.heap.size w0 w9.drew) := HB9.out.drew
  have HT9d : Hid (TreesAt w9.drew F pc 0) := HT9.out.drew
  go_wp2
  go_region_held3 (fun w' => (w'.cell? ⟨w.heap.size + 1, 0, none⟩ = some (.int .i64 k) ∧ w'.cell? ⟨w.heap.size + 1, 1, none⟩ = some (.int .i64 n) ∧ w'.cell? ⟨w.heap.size + 1, 2, none⟩ = some (.string t) ∧ w'.cell? ⟨w.heap.size + 1, 3, none⟩ = some (.slice a1 F.length cap1)) ∧ w'.cell? ⟨n10, 0, none⟩ = some (.int .i64 k) ∧ w'.cell? ⟨n10, 1, none⟩ = some (.int .i64 n) ∧ w'.cell? ⟨n10, 2, none⟩ = some (.string t) ∧ w'.cell? ⟨n10, 3, none⟩ = some (.slice pc F.length cc))
    (first
      | go_keep
      | (obtain ⟨a0, a1, a2, a3⟩ := HC11.out.cells; obtain ⟨b0, b1, b2, b3⟩ := HY11.out.cells; exact ⟨⟨a0, a1, a2, a3⟩, b0, b1, b2, b3⟩)
      | (obtain ⟨a0, a1, a2, a3⟩ := HC10.out.cells; obtain ⟨b0, b1, b2, b3⟩ := HY10.out.cells; exact ⟨⟨a0, a1, a2, a3⟩, b0, b1, b2, b3⟩))
    (first
      | (go_at_call 9; refine (HTB.out w9.drew HB9d.out).mono ?_; rintro e w10 ⟨⟨vf, bf, rfl, hof, _, _⟩, hb10⟩; obtain ⟨pf, cf, rfl, _, hrf⟩ := hof.reads; have HRF := Lib.hid hrf; have HC10 := HTU.out w9.drew HC9d w10 hb10; have HY10 := HTY.out w9.drew HY9d w10 hb10; have HB10 := HTV.out w9.drew HB9d w10 hb10; have HT10 := HTS.out w9.drew HT9d w10 hb10; clear hof hrf)
      | (go_at_call 12; refine (HEB.out w10 pc pf cc cf HT10.out HRF.out).mono ?_; rintro e w11 ⟨rfl, hb11⟩; have HC11 := HTU.out w10 HC10 w11 hb11; have HY11 := HTY.out w10 HY10 w11 hb11; have HB11 := HTV.out w10 HB10 w11 hb11))
  clear hb10 hb11 u0 u1 u2 u3 y0 y1 y2 y3
  go_wp2
  go_ret
  exact ⟨rfl, HB0.out.trans (HB11.out.mono HB0.out.size)⟩
end Go.Proofs.YtdilegbigaahnaaGreat
end

/- What is proved here: an argument of type Signature is a list of declared types in memory, whose lengths a machine can have. No condition. -/
section
namespace Go.Proofs.YtdilegbigaahnaaGreat
open Go.RowKit Go.ChangeShapes Go.WideShapes Go.Deep

section
variable {H : Type} {enc : TypeId × Value → H} {w : World} {base : Nat} {spare : Nat → Bool} {held : Bool}

theorem open_texts {fuel : Nat} {v : Value} {x : DataW H × List MemPlace} (h : DataW.trod enc Tryz.prog w base spare held fuel 67 [v] = some x) :
    ∃ a cap xs, v = .slice a xs.length cap ∧ Reads w a xs ∧ xs.length ≤ maxLen ∧ ∀ s ∈ xs, s.size ≤ maxLen := by
  rcases open_strings Tryz.underlying67 Tryz.underlying9 (by kernel_rfl) h with ⟨hcs, _⟩ | ⟨a, l, c, ss, hcs, _, hl, hm, hz, _, hcell, hs⟩
  · simp at hcs
    subst hcs
    exact ⟨none, 0, [], rfl, fun j hj => absurd hj (by simp), by simp, by simp⟩
  · simp at hcs
    subst hcs
    have hlen : l ≤ ss.length := by rw [hz]; split <;> omega
    refine ⟨some a, c, ss.take l, by simp; omega, fun j hj => ⟨_, rfl, ?_⟩, by simp; omega, fun x hx => hs x (List.mem_of_mem_take hx)⟩
    have hj2 : j < ss.length := by simp at hj; omega
    rw [hcell j hj2, List.getElem_take, List.getD_eq_getElem?_getD, List.getElem?_eq_getElem hj2]
    rfl

theorem add_two (a : Addr) (i : Nat) : (⟨(a.add (i * 2)).block, (a.add (i * 2)).off + 1, none⟩ : Addr) = a.add (i * 2 + 1) := by
  unfold Addr.add
  rw [if_neg (show ¬ i * 2 + 1 = 0 by omega)]
  by_cases h : i * 2 = 0
  · rw [if_pos h, h]
  · rw [if_neg h]; rfl

theorem open_row2 {α : Type} [Inhabited α] {R : World → α → Value → Value → Prop} {ok : α → Prop} {t e : TypeId} {f0 f1 : Field} (ht : Tryz.prog.underlying t = some (.slice e)) (he : Tryz.prog.underlying e = some (.struct #[f0, f1]))
    (ce : Tryz.prog.cellsOf e = 2) (o0 : f0.offset = 0) (o1 : f1.offset = 1) (c0 : Tryz.prog.cellsOf f0.type = 1) (c1 : Tryz.prog.cellsOf f1.type = 1)
    (hE : ∀ n u v y0 y1, DataW.trod enc Tryz.prog w base spare held n f0.type [u] = some y0 → DataW.trod enc Tryz.prog w base spare held n f1.type [v] = some y1 → ∃ x, R w x u v ∧ ok x)
    {fuel : Nat} {v : Value} {x : DataW H × List MemPlace} (h : DataW.trod enc Tryz.prog w base spare held fuel t [v] = some x) :
    ∃ a cap l, v = .slice a l.length cap ∧ Row2 R w a l ∧ l.length ≤ maxLen ∧ ∀ x ∈ l, ok x := by
  rcases open_slice_pairs ht he ce o0 o1 c0 c1 h with ⟨hcs, _⟩ | ⟨a, len, cap, m, n, V0, V1, D0, D1, P0, P1, hcs, _, hl, hm, hmm, _, hi⟩
  · simp at hcs
    subst hcs
    exact ⟨none, 0, [], rfl, fun j hj => absurd hj (by simp), by simp, by simp⟩
  · simp at hcs
    subst hcs
    have hlm : len ≤ m := by rw [hmm]; split <;> omega
    obtain ⟨f, hf⟩ := choose_lt (p := fun i x => R w x (V0 i) (V1 i) ∧ ok x) (fun i (him : i < len) => by
      obtain ⟨_, _, h3, h4⟩ := hi i (by omega)
      exact hE n _ _ _ _ h3 h4)
    refine ⟨some a, cap, (List.range len).map f, by simp, fun j hj => ?_, by simp; omega, fun x hx => ?_⟩
    · have hj2 : j < len := by simpa using hj
      obtain ⟨h1, h2, _, _⟩ := hi j (by omega)
      refine ⟨a, V0 j, V1 j, rfl, h1, ?_, ?_⟩
      · rw [add_two]
        exact h2
      · have e : ((List.range len).map f)[j] = f j := by simp
        rw [e]
        exact (hf j hj2).1
    · obtain ⟨i, hi2, rfl⟩ := List.mem_map.1 hx
      exact (hf i (List.mem_range.1 hi2)).2

instance : Inhabited ConD := ⟨⟨ByteArray.empty, []⟩⟩
instance : Inhabited TypeD := ⟨⟨ByteArray.empty, []⟩⟩

set_option maxRecDepth 100000 in
theorem open_cons {fuel : Nat} {v : Value} {x : DataW H × List MemPlace} (h : DataW.trod enc Tryz.prog w base spare held fuel 64 [v] = some x) :
    ∃ a cap cs, v = .slice a cs.length cap ∧ Row2 ConAt w a cs ∧ cs.length ≤ maxLen ∧ ∀ c ∈ cs, c.fits := by
  refine open_row2 Tryz.underlying64 Tryz.underlying126 (by kernel_rfl) (by kernel_rfl) (by kernel_rfl) (by kernel_rfl) (by kernel_rfl) (fun n u v y0 y1 h0 h1 => ?_) h
  obtain ⟨nm, hu, _, hn⟩ := DataW.trod_string Tryz.underlying9 h0
  obtain ⟨a, cap, xs, rfl, hr, hm, hs⟩ := open_texts h1
  simp at hu
  subst hu
  exact ⟨⟨nm, xs⟩, ⟨a, cap, rfl, rfl, hr⟩, hn, hm, hs⟩

set_option maxRecDepth 100000 in
theorem open_types {fuel : Nat} {v : Value} {x : DataW H × List MemPlace} (h : DataW.trod enc Tryz.prog w base spare held fuel 22 [v] = some x) :
    ∃ a cap s, v = .slice a s.length cap ∧ Row2 TypeAt w a s ∧ s.length ≤ maxLen ∧ ∀ t ∈ s, t.fits := by
  refine open_row2 Tryz.underlying22 Tryz.underlying66 (by kernel_rfl) (by kernel_rfl) (by kernel_rfl) (by kernel_rfl) (by kernel_rfl) (fun n u v y0 y1 h0 h1 => ?_) h
  obtain ⟨nm, hu, _, hn⟩ := DataW.trod_string Tryz.underlying9 h0
  obtain ⟨a, cap, xs, rfl, hr, hm, hs⟩ := open_cons h1
  simp at hu
  subst hu
  exact ⟨⟨nm, xs⟩, ⟨a, cap, rfl, rfl, hr⟩, hn, hm, hs⟩

set_option maxRecDepth 100000 in
theorem open_sig {r : Reach} {b0 : Nat} {v : Value} {d : DataW H} {p : List MemPlace} (hv : Value.okWide Tryz.prog w r b0 24 v) (h : DataW.Trod enc Tryz.prog w base spare held 24 v d p) :
    ∃ a cap s, v = .agg #[.slice a s.length cap] ∧ Row2 TypeAt w a s ∧ sigFits s := by
  obtain ⟨cs, rfl, hsz⟩ := okWide_struct Tryz.underlying24 hv
  obtain ⟨l⟩ := cs
  have hC : Tryz.prog.cellsOf 24 = 1 := by kernel_rfl
  match l, hsz.trans hC with
  | [c0], _ =>
    obtain ⟨fuel, hf⟩ := h
    obtain ⟨xs, n, _, _, _, hlen, hg⟩ := DataW.trod_struct Tryz.underlying24 hf
    match xs, hlen with
    | [y0], _ =>
      have g0 := hg 0 _ rfl
      have hC1 : Tryz.prog.cellsOf 22 = 1 := by kernel_rfl
      obtain ⟨a, cap, s, rfl, hr, hm, hs⟩ := open_types (v := c0) (x := y0) (fuel := n) (by simpa [Value.cells, hC1] using g0)
      exact ⟨a, cap, s, rfl, hr, hm, hs⟩
end
end Go.Proofs.YtdilegbigaahnaaGreat
end
