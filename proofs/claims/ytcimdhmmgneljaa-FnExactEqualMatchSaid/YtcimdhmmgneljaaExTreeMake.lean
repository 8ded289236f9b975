/- What is proved here: the laws' copy of an expression (toValue and toValueS) is the same value in memory of its own. Condition: it lies in memory as said, and is small. -/
import Derived.Test.YtcimdhmmgneljaaExTreeOwn
import Derived.Test.YtcimdhmmgneljaaTreeCells
import Derived.Laws.Rows
namespace Go.Proofs.Ytcimdhmmgneljaa.Ex
open Go.RowKit

theorem three4 (w : World) (o0 o1 o2 : Obj) : (((w.alloc o0).alloc o1).alloc o2).heap.size = w.heap.size + 3 ∧ (((w.alloc o0).alloc o1).alloc o2).heap[w.heap.size + 1]? = some o1 ∧ (((w.alloc o0).alloc o1).alloc o2).heap[w.heap.size + 1 + 1]? = some o2 ∧ Below w.heap.size w (((w.alloc o0).alloc o1).alloc o2) := by
  have s1 : (w.alloc o0).heap.size = w.heap.size + 1 := Array.size_push _
  have s2 : ((w.alloc o0).alloc o1).heap.size = (w.alloc o0).heap.size + 1 := Array.size_push _
  have s3 : (((w.alloc o0).alloc o1).alloc o2).heap.size = ((w.alloc o0).alloc o1).heap.size + 1 := Array.size_push _
  have e1 := heap_at_new (w.alloc o0) o1
  have e2 := heap_at_new ((w.alloc o0).alloc o1) o2
  rw [s1] at e1
  rw [s2, s1] at e2
  refine ⟨by omega, ?_, e2, (((Below.refl _ _).alloc (Nat.le_refl _) _).alloc (by omega) _).alloc (by omega) _⟩
  rw [Below.heap_alloc _ _ _ (by omega)]
  exact e1

/-- A new slice of nodes. -/
theorem make_Value (n : Nat) (hn : n ≤ 1048576) (W : World) : ∃ cs : Array Value, cs.size = n * 4 ∧
    (Instr.makeSlice 36 (.int .i64 (n : Int)) (.int .i64 (n : Int))).run Try.prog W = .ok (.slice (some ⟨W.heap.size, 0, none⟩) n n) (W.alloc (.cells cs 38)) := by
  have hi : (Try.prog.info? 38).map (fun i => (i.zero, i.size, i.bytes)) = some (some (.agg #[.int .i64 0, .int .i64 0, .string ⟨#[]⟩, .slice none 0 0]), 4, 56) := by kernel_rfl
  obtain ⟨i0, hi, hz0, hz1, hz2⟩ := info_parts hi
  have hr := run_make (P := Try.prog) W 36 38 i0 _ Try.underlying36 hi hz0 .i64 .i64 n n (by omega) (by omega) (by rw [hz2]; omega) (by omega)
  rw [hr]
  simp only [Int.toNat_natCast]
  exact ⟨_, by rw [hz1]; simp [madeCells], rfl⟩

set_option maxHeartbeats 1000000 in
set_option maxRecDepth 100000 in
theorem toNode (w : World) (k n : Int) (t : ByteArray) (ar : Trees) (p : Option Addr) (cap : Nat)
    (H : ∀ w', Below w.heap.size w w' → Calls Try.prog 34 #[.slice p ar.length cap] w' fun e w'' => (∃ v bs, e = .returned v ∧ OwnV w'' v ar bs ∧ bs.Nodup ∧ ∀ b ∈ bs, w'.heap.size ≤ b ∧ b < w''.heap.size) ∧ Below w'.heap.size w' w'') :
    Calls Try.prog 24 #[.agg #[.int .i64 k, .int .i64 n, .string t, .slice p ar.length cap]] w fun e w' => (∃ v bs, e = .returned (.agg #[.int .i64 k, .int .i64 n, .string t, v]) ∧ OwnV w' v ar bs ∧ bs.Nodup ∧ ∀ b ∈ bs, w.heap.size ≤ b ∧ b < w'.heap.size) ∧ Below w.heap.size w w' := by
  obtain ⟨w3, h3⟩ : ∃ w3, w3 = ((w.alloc (.cells #[.int .i64 k, .int .i64 n, .string t, .slice p ar.length cap] 53)).alloc (.cells #[.int .i64 0, .int .i64 0, .string ⟨#[]⟩, .slice none 0 0] 38)).alloc (.cells #[.int .i64 k, .int .i64 n, .string t, .slice none 0 0] 38) := ⟨_, rfl⟩
  have h := three4 w (.cells #[.int .i64 k, .int .i64 n, .string t, .slice p ar.length cap] 53) (.cells #[.int .i64 0, .int .i64 0, .string ⟨#[]⟩, .slice none 0 0] 38) (.cells #[.int .i64 k, .int .i64 n, .string t, .slice none 0 0] 38)
  rw [← h3] at h
  obtain ⟨hs3, hp1, hp2, hB⟩ := h
  have HB := Lib.hid hB
  have HS := Lib.hid hs3
  have HP1 := Lib.hid hp1
  have HP2 := Lib.hid hp2
  have H3 := Lib.hid h3
  clear hB hs3 hp1 hp2 h3
  go_enter Try.func24, Try.ntmps24
  go_wp2_with fail
  rw [← H3.out]
  refine (H w3 HB.out).mono ?_
  rintro e w1 ⟨⟨v1, bs, rfl, hO, hnd, hbs⟩, hb1⟩
  have hs := HS.out
  obtain ⟨p2, cap2, rfl, _, _⟩ := hO.reads
  have HO := Lib.hid hO
  have HBS := Lib.hid hbs
  have HND := Lib.hid hnd
  clear hO hbs hnd
  have hr1 := (hb1.block (w.heap.size + 1) (by omega)).trans HP1.out
  have HR1 := Lib.hid hr1
  obtain ⟨q1, q2, q3, q4, q5, q6, q7, q8⟩ := four_cells hr1
  obtain ⟨g1, g2, g3, g4, g5, g6, g7, g8⟩ := four_cells ((hb1.block (w.heap.size + 1 + 1) (by omega)).trans HP2.out)
  have HB1 : Hid (Below w.heap.size w w1) := HB.out.trans (hb1.mono (by omega))
  have HS1 : Hid (w.heap.size + 3 ≤ w1.heap.size) := by unfold Hid; have := hb1.size; omega
  clear hb1 HB HP1 HP2 hr1 H
  go_wp2
  have hz1 : (w1.setCell ⟨w.heap.size + 1 + 1, 3, none⟩ (.slice p2 ar.length cap2)).heap[w.heap.size + 1]? = some (.cells #[.int .i64 0, .int .i64 0, .string ⟨#[]⟩, .slice none 0 0] 38 (0, 0)) := by
    rw [Below.heap_setCell _ _ _ _ (by show w.heap.size + 1 ≠ w.heap.size + 1 + 1; omega)]
    exact HR1.out
  refine bodyPost_ret (results_cell_row rfl _ _ (w.heap.size + 1) _ _ _ _ rfl (four_set (four_set (four_set (four_set hz1 _).1 _).2.1 _).2.2.1 _).2.2.2 Try.underlying38 rfl (by kernel_rfl)) rfl ?_
  have hag : ∀ b ∈ bs, w.heap.size + 3 ≤ b ∧ b < w1.heap.size := fun b hb => by have := HBS.out b hb; omega
  refine ⟨⟨_, bs, rfl, HO.out.keep (fun b hb => ?_), HND.out, fun b hb => ?_⟩, ((((HB1.out.setCell (by show _ ≤ w.heap.size + 1 + 1; omega) _).setCell (by show _ ≤ w.heap.size + 1; omega) _).setCell (by show _ ≤ w.heap.size + 1; omega) _).setCell (by show _ ≤ w.heap.size + 1; omega) _).setCell (by show _ ≤ w.heap.size + 1; omega) _⟩
  · have := hag b hb
    rw [Below.heap_setCell _ _ _ _ (by show b ≠ w.heap.size + 1; omega), Below.heap_setCell _ _ _ _ (by show b ≠ w.heap.size + 1; omega), Below.heap_setCell _ _ _ _ (by show b ≠ w.heap.size + 1; omega), Below.heap_setCell _ _ _ _ (by show b ≠ w.heap.size + 1; omega), Below.heap_setCell _ _ _ _ (by show b ≠ w.heap.size + 1 + 1; omega)]
  · have := hag b hb
    exact ⟨by omega, by simpa [World.setCell] using this.2⟩

set_option maxHeartbeats 1000000 in
set_option maxRecDepth 100000 in
theorem toValueS_any : ∀ F : Trees, F.fits → F.length ≤ 1048576 → F.size ≤ 1048576 → ∀ (w : World) (a : Option Addr) (cap : Nat), TreesAt w F a 0 →
    Calls Try.prog 34 #[.slice a F.length cap] w fun e w' => (∃ v bs, e = .returned v ∧ OwnV w' v F bs ∧ bs.Nodup ∧ ∀ b ∈ bs, w.heap.size ≤ b ∧ b < w'.heap.size) ∧ Below w.heap.size w w' := by
  refine Trees.ind fun F hall hfit hm hsz w a cap hx => ?_
  obtain ⟨cs, hcs, hmk⟩ := make_Value F.length hm w
  have HX := Lib.hid hx
  have HALL := Lib.hid hall
  have HF := Lib.hid hfit
  have HSZ := Lib.hid hsz
  clear hx hall hfit hsz
  go_enter Try.func34, Try.ntmps34
  go_wp2
  clear hmk
  have hb0 := heap_at_new w (.cells cs 38)
  have hB0 : Below w.heap.size w (w.alloc (.cells cs 38)) := (Below.refl _ _).alloc (Nat.le_refl _) _
  have hst : (w.alloc (.cells cs 38)).heap.size = w.heap.size + 1 := Array.size_push _
  generalize w.alloc (.cells cs 38) = w0 at hb0 hB0 hst ⊢
  generalize hn : F.length = n at *
  have HN := Lib.hid hn
  have HI : Hid (FillIn w w.heap.size n .nil w0) := ⟨cs, [], hb0, hcs, rfl, List.nodup_nil, fun b hb => absurd hb (by simp), hB0, Nat.le_refl _, by omega⟩
  clear hb0 hB0 hst hcs hn
  go_loopw [4] (fun i wr => ∃ (k : Nat) (pre rest : Trees), i = .int .i64 k ∧ pre.length = k ∧ k + rest.length = n ∧ Hid (pre.append rest = F) ∧ Hid (TreesAt w rest a k) ∧ Hid (rest.All (fun G => G.fits → G.length ≤ 1048576 → G.size ≤ 1048576 → ∀ (w : World) (a : Option Addr) (cap : Nat), TreesAt w G a 0 →
    Calls Try.prog 34 #[.slice a G.length cap] w fun e w' => (∃ v bs, e = .returned v ∧ OwnV w' v G bs ∧ bs.Nodup ∧ ∀ b ∈ bs, w.heap.size ≤ b ∧ b < w'.heap.size) ∧ Below w.heap.size w w')) ∧ Hid rest.fits ∧ Hid (rest.size ≤ 1048576) ∧ Hid (FillIn w w.heap.size n pre wr)) (fun i _ => n - (intOf i).toNat)
  case atStart => exact ⟨0, .nil, F, rfl, rfl, by rw [HN.out]; omega, rfl, HX, HALL, HF, HSZ, HI⟩
  case round =>
    obtain ⟨k, pre, rest, rfl, hpk, hkn, hpr, hxr, hall, hfr, hsr, hI⟩ := hrel
    cases rest with
    | cons kd nu t ar r =>
      have hkl : k < n := by simp only [Trees.length] at hkn; omega
      have hkn2 : k + 1 + r.length = n := by simp only [Trees.length] at hkn; omega
      obtain ⟨y, p, cp, rfl, h1, h2, h3, h4, hs, hr⟩ := (hxr.out.below hI.out.below).open
      obtain ⟨hfk, hfn, hft, hfl, hfa, hfr2⟩ := hfr.out
      obtain ⟨ha1, ha2⟩ := hall.out
      have hsr2 := hsr.out
      simp only [Trees.size] at hsr2
      have hal := ar.length_le_size
      have hxr2 : Hid (TreesAt w r (some y) (k + 1)) := hxr.out.2
      have H := toNode wr kd nu t ar p cp (fun w' hb => ha1 hfa (by omega) (by omega) w' p cp (hs.below hb))
      have HR2 := Lib.hid hfr2
      have HA2 := Lib.hid ha2
      have HS2 : Hid (r.size ≤ 1048576) := by unfold Hid; omega
      have HPR2 : Hid ((pre.snoc kd nu t ar).append r = F) := by unfold Hid; rw [Trees.snoc_append]; exact hpr.out
      clear hxr hall hfr hs hr hfk hfn hft hfl hfa hfr2 ha1 ha2 hkn hsr hsr2 hal hpr
      go_wp2_with fail
      refine H.mono ?_
      clear H
      rintro e w1 ⟨⟨v', bs, rfl, ho, hnd, hbs⟩, hb1⟩
      obtain ⟨p2, cap2, hv2, _, _⟩ := ho.reads
      subst hv2
      obtain ⟨x0, x1, x2, x3, c0, c1, c2, c3, f0, f1, f2, f3, hF2⟩ := FillIn.step (k := kd) (m := nu) (t := t) hI.out (by omega) hb1 ho hnd hbs
      have hpl := Trees.snoc_length pre kd nu t ar
      generalize pre.snoc kd nu t ar = pre2 at *
      rw [hpk] at c0 c1 c2 c3 f0 f1 f2 f3 hF2 hpl
      have HF2 := Lib.hid hF2
      clear hF2 ho hb1 hbs hnd hI
      go_wp2
      go_roundw
      case rel => exact ⟨k + 1, pre2, r, by go_num, hpl, hkn2, HPR2, hxr2, HA2, HR2, HS2, HF2⟩
      case measure => simp [intOf]; omega
    | nil =>
      obtain rfl : k = n := by simp only [Trees.length] at hkn; omega
      have hp := hpr.out
      rw [Trees.append_nil] at hp
      subst hp
      clear hxr hall hfr hsr
      go_wp2
      go_ret
      obtain ⟨bs, ho, hnd, hbs⟩ := hI.out.done hpk k (Nat.le_refl _)
      exact ⟨⟨_, bs, rfl, ho, hnd, hbs⟩, hI.out.below⟩

theorem toValue_any (w : World) (k n : Int) (t : ByteArray) (ar : Trees) (p : Option Addr) (cap : Nat) (hf : ar.fits) (hm : ar.size ≤ 1048576) (hx : TreesAt w ar p 0) :
    Calls Try.prog 24 #[.agg #[.int .i64 k, .int .i64 n, .string t, .slice p ar.length cap]] w fun e w' => (∃ v bs, e = .returned (.agg #[.int .i64 k, .int .i64 n, .string t, v]) ∧ OwnV w' v ar bs ∧ bs.Nodup ∧ ∀ b ∈ bs, w.heap.size ≤ b ∧ b < w'.heap.size) ∧ Below w.heap.size w w' :=
  toNode w k n t ar p cap (fun w' hb => toValueS_any ar hf (by have := ar.length_le_size; omega) hm w' p cap (hx.below hb))
end Go.Proofs.Ytcimdhmmgneljaa.Ex
