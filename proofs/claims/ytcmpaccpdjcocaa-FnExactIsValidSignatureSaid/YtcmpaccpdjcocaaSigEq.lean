/- What is proved here: the laws' comparison of two signatures (eqSignature and what it calls) returns true where both read alike. Condition: they lie in memory as said. -/
import Derived.Test.YtcmpaccpdjcocaaSig
import Derived.Deep.RegionHeld3
namespace Go.Proofs.Ytcmpaccpdjcocaa
open Go.RowKit

set_option maxHeartbeats 1000000 in
set_option maxRecDepth 100000 in
theorem eqCon_same (w : World) (c : ConD) (u v u2 v2 : Value) (hx : ConAt w c u v) (hy : ConAt w c u2 v2) (hm : c.args.length ≤ maxLen) :
    Calls Try.prog 18 #[.agg #[u, v], .agg #[u2, v2]] w fun e w' => e = .returned (.bool true) ∧ Below w.heap.size w w' := by
  obtain ⟨a, cap, rfl, rfl, hr⟩ := hx
  obtain ⟨b, cap2, rfl, rfl, hr2⟩ := hy
  have HR := Lib.hid hr
  have HR2 := Lib.hid hr2
  have HM := Lib.hid hm
  clear hr hr2 hm
  have hb : Below w.heap.size w ((w.alloc (.cells #[.string c.name, .slice a c.args.length cap] 42)).alloc (.cells #[.string c.name, .slice b c.args.length cap2] 42)) := ((Below.refl _ _).alloc (Nat.le_refl _) _).alloc (by simp) _
  have HB := Lib.hid hb
  clear hb
  have he : (c.name.toList == c.name.toList) = true := by simp
  go_enter Try.func18, Try.ntmps18
  go_wp2_with fail
  refine (eqS_same _ a b cap cap2 c.args (reads_below HR.out HB.out) (reads_below HR2.out HB.out) HM.out).mono ?_
  rintro e w1 ⟨rfl, q, rfl⟩
  go_wp2
  go_ret
  exact ⟨rfl, below_drewN HB.out q⟩

set_option maxHeartbeats 1000000 in
set_option maxRecDepth 100000 in
theorem eqConS_same (w : World) (a b : Option Addr) (cap cap2 : Nat) (cs : List ConD) (hx : Row2 ConAt w a cs) (hy : Row2 ConAt w b cs) (hm : cs.length ≤ maxLen) (hs : ∀ c ∈ cs, c.args.length ≤ maxLen) :
    Calls Try.prog 29 #[.slice a cs.length cap, .slice b cs.length cap2] w fun e w' => e = .returned (.bool true) ∧ Below w.heap.size w w' := by
  unfold maxLen at hm
  have HX := Lib.hid hx
  have HY := Lib.hid hy
  have HS := Lib.hid hs
  clear hx hy hs
  generalize hn : cs.length = n at *
  have HN := Lib.hid hn
  clear hn
  go_enter Try.func29, Try.ntmps29
  go_wp2
  go_loopw [5] (fun i wr => ∃ (k : Nat), k ≤ n ∧ i = .int .i64 k ∧ Hid (Below w.heap.size w wr)) (fun i _ => n - (intOf i).toNat)
  case atStart => exact ⟨0, Nat.zero_le _, rfl, Below.refl _ _⟩
  case round =>
    obtain ⟨k, hk, rfl, hB⟩ := hrel
    by_cases hlt : k < n
    · have hk' : k < cs.length := by rw [HN.out]; exact hlt
      obtain ⟨y, u, v, rfl, hc0, hc1, hr⟩ := row2_below con_below HX.out hB.out k hk'
      obtain ⟨z, u2, v2, rfl, hd0, hd1, hr2⟩ := row2_below con_below HY.out hB.out k hk'
      have hcm := HS.out _ (List.getElem_mem hk')
      generalize cs[k]'hk' = c at hr hr2 hcm
      have H := fun w' h1 h2 => eqCon_same w' c u v u2 v2 h1 h2 hcm
      clear hcm
      have HR := Lib.hid hr
      have HR2 := Lib.hid hr2
      clear hr hr2
      go_wp2
      go_region_held3 (fun w' => w'.cell? (y.add (k * 2)) = some u ∧ w'.cell? ⟨(y.add (k * 2)).block, (y.add (k * 2)).off + 1, none⟩ = some v ∧ w'.cell? (z.add (k * 2)) = some u2 ∧ w'.cell? ⟨(z.add (k * 2)).block, (z.add (k * 2)).off + 1, none⟩ = some v2)
        (first
          | go_keep
          | (refine ⟨cell_below ?_ hbl, cell_below ?_ hbl, cell_below ?_ hbl, cell_below ?_ hbl⟩ <;> assumption))
        (first
          | (go_at_call 18; refine (H _ (con_drew HR.out) (con_drew HR2.out)).mono ?_; rintro e w1 ⟨rfl, hbl⟩))
      have HB1 : Hid (Below w.heap.size w w1) := hB.out.trans ((below_of_drew hbl).mono hB.out.size)
      clear hbl H
      go_wp2
      go_roundw
      case rel => exact ⟨k + 1, by omega, by go_num, HB1⟩
      case measure => simp [intOf]; omega
    · go_wp2
      go_ret
      exact ⟨rfl, hB.out⟩

set_option maxHeartbeats 1000000 in
set_option maxRecDepth 100000 in
theorem eqTypeDecl_same (w : World) (c : TypeD) (u v u2 v2 : Value) (hx : TypeAt w c u v) (hy : TypeAt w c u2 v2) (hm : c.cons.length ≤ maxLen) (hm2 : ∀ d ∈ c.cons, d.args.length ≤ maxLen) :
    Calls Try.prog 11 #[.agg #[u, v], .agg #[u2, v2]] w fun e w' => e = .returned (.bool true) ∧ Below w.heap.size w w' := by
  obtain ⟨a, cap, rfl, rfl, hr⟩ := hx
  obtain ⟨b, cap2, rfl, rfl, hr2⟩ := hy
  have HR := Lib.hid hr
  have HR2 := Lib.hid hr2
  have HM := Lib.hid hm
  have HM2 := Lib.hid hm2
  clear hr hr2 hm hm2
  have hb : Below w.heap.size w ((w.alloc (.cells #[.string c.name, .slice a c.cons.length cap] 28)).alloc (.cells #[.string c.name, .slice b c.cons.length cap2] 28)) := ((Below.refl _ _).alloc (Nat.le_refl _) _).alloc (by simp) _
  have HB := Lib.hid hb
  clear hb
  have he : (c.name.toList == c.name.toList) = true := by simp
  go_enter Try.func11, Try.ntmps11
  go_wp2_with fail
  refine (eqConS_same _ a b cap cap2 c.cons (row2_below con_below HR.out HB.out) (row2_below con_below HR2.out HB.out) HM.out HM2.out).mono ?_
  rintro e w1 ⟨rfl, hb1⟩
  have HB1 : Hid (Below w.heap.size w w1) := HB.out.trans (hb1.mono HB.out.size)
  clear hb1
  go_wp2
  go_ret
  exact ⟨rfl, HB1.out⟩

set_option maxHeartbeats 1000000 in
set_option maxRecDepth 100000 in
theorem eqTypeDeclS_same (w : World) (a b : Option Addr) (cap cap2 : Nat) (cs : List TypeD) (hx : Row2 TypeAt w a cs) (hy : Row2 TypeAt w b cs) (hm : cs.length ≤ maxLen) (hs : ∀ c ∈ cs, c.cons.length ≤ maxLen ∧ ∀ d ∈ c.cons, d.args.length ≤ maxLen) :
    Calls Try.prog 30 #[.slice a cs.length cap, .slice b cs.length cap2] w fun e w' => e = .returned (.bool true) ∧ Below w.heap.size w w' := by
  unfold maxLen at hm
  have HX := Lib.hid hx
  have HY := Lib.hid hy
  have HS := Lib.hid hs
  clear hx hy hs
  generalize hn : cs.length = n at *
  have HN := Lib.hid hn
  clear hn
  go_enter Try.func30, Try.ntmps30
  go_wp2
  go_loopw [5] (fun i wr => ∃ (k : Nat), k ≤ n ∧ i = .int .i64 k ∧ Hid (Below w.heap.size w wr)) (fun i _ => n - (intOf i).toNat)
  case atStart => exact ⟨0, Nat.zero_le _, rfl, Below.refl _ _⟩
  case round =>
    obtain ⟨k, hk, rfl, hB⟩ := hrel
    by_cases hlt : k < n
    · have hk' : k < cs.length := by rw [HN.out]; exact hlt
      obtain ⟨y, u, v, rfl, hc0, hc1, hr⟩ := row2_below type_below HX.out hB.out k hk'
      obtain ⟨z, u2, v2, rfl, hd0, hd1, hr2⟩ := row2_below type_below HY.out hB.out k hk'
      have hcm := HS.out _ (List.getElem_mem hk')
      generalize cs[k]'hk' = c at hr hr2 hcm
      have H := fun w' h1 h2 => eqTypeDecl_same w' c u v u2 v2 h1 h2 hcm.1 hcm.2
      clear hcm
      have HR := Lib.hid hr
      have HR2 := Lib.hid hr2
      clear hr hr2
      go_wp2
      go_region_held3 (fun w' => w'.cell? (y.add (k * 2)) = some u ∧ w'.cell? ⟨(y.add (k * 2)).block, (y.add (k * 2)).off + 1, none⟩ = some v ∧ w'.cell? (z.add (k * 2)) = some u2 ∧ w'.cell? ⟨(z.add (k * 2)).block, (z.add (k * 2)).off + 1, none⟩ = some v2)
        (first
          | go_keep
          | (refine ⟨cell_below ?_ hbl, cell_below ?_ hbl, cell_below ?_ hbl, cell_below ?_ hbl⟩ <;> assumption))
        (first
          | (go_at_call 11; refine (H _ (type_drew HR.out) (type_drew HR2.out)).mono ?_; rintro e w1 ⟨rfl, hbl⟩))
      have HB1 : Hid (Below w.heap.size w w1) := hB.out.trans ((below_of_drew hbl).mono hB.out.size)
      clear hbl H
      go_wp2
      go_roundw
      case rel => exact ⟨k + 1, by omega, by go_num, HB1⟩
      case measure => simp [intOf]; omega
    · go_wp2
      go_ret
      exact ⟨rfl, hB.out⟩

set_option maxHeartbeats 1000000 in
set_option maxRecDepth 100000 in
theorem eqSig_same (w : World) (a b : Option Addr) (cap cap2 : Nat) (s : List TypeD) (hx : Row2 TypeAt w a s) (hy : Row2 TypeAt w b s) (hm : s.length ≤ maxLen) (hs : ∀ c ∈ s, c.cons.length ≤ maxLen ∧ ∀ d ∈ c.cons, d.args.length ≤ maxLen) :
    Calls Try.prog 12 #[.agg #[.slice a s.length cap], .agg #[.slice b s.length cap2]] w fun e w' => e = .returned (.bool true) ∧ Below w.heap.size w w' := by
  have HX := Lib.hid hx
  have HY := Lib.hid hy
  have HM := Lib.hid hm
  have HS := Lib.hid hs
  clear hx hy hm hs
  have hb : Below w.heap.size w ((w.alloc (.cells #[.slice a s.length cap] 33)).alloc (.cells #[.slice b s.length cap2] 33)) := ((Below.refl _ _).alloc (Nat.le_refl _) _).alloc (by simp) _
  have HB := Lib.hid hb
  clear hb
  go_enter Try.func12, Try.ntmps12
  go_wp2_with fail
  refine (eqTypeDeclS_same _ a b cap cap2 s (row2_below type_below HX.out HB.out) (row2_below type_below HY.out HB.out) HM.out HS.out).mono ?_
  rintro e w1 ⟨rfl, hb1⟩
  have HB1 : Hid (Below w.heap.size w w1) := HB.out.trans (hb1.mono HB.out.size)
  clear hb1
  go_wp2
  go_ret
  exact ⟨rfl, HB1.out⟩
end Go.Proofs.Ytcmpaccpdjcocaa
