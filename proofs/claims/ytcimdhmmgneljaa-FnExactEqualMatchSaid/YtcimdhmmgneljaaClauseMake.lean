/- What is proved here: the laws' copy of clauses and of a match (toClause, toClauseS, toMatch) is the same row in memory of its own. Condition: it lies in memory as said, and is small. -/
import Derived.Test.YtcimdhmmgneljaaClauses
import Derived.Test.YtcimdhmmgneljaaPtTreeMake
import Derived.Test.YtcimdhmmgneljaaExTreeMake
namespace Go.Proofs.Ytcimdhmmgneljaa
open Go.RowKit

/-- A new slice of clauses. -/
theorem make_Clause (n : Nat) (hn : n ≤ 1048576) (W : World) : ∃ cs : Array Value, cs.size = n * 9 ∧
    (Instr.makeSlice 27 (.int .i64 (n : Int)) (.int .i64 (n : Int))).run Try.prog W = .ok (.slice (some ⟨W.heap.size, 0, none⟩) n n) (W.alloc (.cells cs 40)) := by
  have hi : (Try.prog.info? 40).map (fun i => (i.zero, i.size, i.bytes)) = some (some (.agg #[.int .i64 0, .int .i64 0, .string ⟨#[]⟩, .slice none 0 0, .bool false, .int .i64 0, .int .i64 0, .string ⟨#[]⟩, .slice none 0 0]), 9, 120) := by kernel_rfl
  obtain ⟨i0, hi, hz0, hz1, hz2⟩ := info_parts hi
  have hr := run_make (P := Try.prog) W 27 40 i0 _ Try.underlying27 hi hz0 .i64 .i64 n n (by omega) (by omega) (by rw [hz2]; omega) (by omega)
  rw [hr]
  simp only [Int.toNat_natCast]
  exact ⟨_, by rw [hz1]; simp [madeCells], rfl⟩

set_option maxHeartbeats 4000000 in
set_option maxRecDepth 100000 in
theorem toClause_any (w : World) (x : ClauseD) (p : Option Addr) (cap : Nat) (q : Option Addr) (cq : Nat) (hf : x.fits) (hsz : x.pF.size ≤ 1048576) (hsz2 : x.eF.size ≤ 1048576) (hx : TreesAt w x.pF p 0) (hy : TreesAt w x.eF q 0) :
    Calls Try.prog 17 #[.agg #[.int .i64 x.pk, .int .i64 x.pn, .string x.pt, .slice p x.pF.length cap, .bool x.gd, .int .i64 x.ek, .int .i64 x.en, .string x.et, .slice q x.eF.length cq]] w fun e w' => (∃ v bs v2 bs2, e = .returned (.agg #[.int .i64 x.pk, .int .i64 x.pn, .string x.pt, v, .bool x.gd, .int .i64 x.ek, .int .i64 x.en, .string x.et, v2]) ∧ Pt.OwnV w' v x.pF bs ∧ (∀ b ∈ bs, w.heap.size ≤ b ∧ b < w'.heap.size) ∧ Ex.OwnV w' v2 x.eF bs2 ∧ ∀ b ∈ bs2, w.heap.size ≤ b ∧ b < w'.heap.size) ∧ Below w.heap.size w w' := by
  obtain ⟨pk, pn, pt, pF, gd, ek, en, et, eF⟩ := x
  have H := Lib.hid (fun w' (hb : Below w.heap.size w w') => Pt.toValue_any w' pk pn pt pF p cap hf.1.2.2.2.2 hsz (hx.below hb))
  have H2 := Lib.hid (fun w' (hb : Below w.heap.size w w') => Ex.toValue_any w' ek en et eF q cq hf.2.2.2.2.2 hsz2 (hy.below hb))
  dsimp only at *
  obtain ⟨w3, hw3⟩ : ∃ w3, w3 = ((w.alloc (.cells #[.int .i64 pk, .int .i64 pn, .string pt, .slice p pF.length cap, .bool gd, .int .i64 ek, .int .i64 en, .string et, .slice q eF.length cq] 55)).alloc (.cells #[.int .i64 0, .int .i64 0, .string ⟨#[]⟩, .slice none 0 0, .bool false, .int .i64 0, .int .i64 0, .string ⟨#[]⟩, .slice none 0 0] 40)).alloc (.cells #[.int .i64 0, .int .i64 0, .string ⟨#[]⟩, .slice none 0 0, .bool false, .int .i64 0, .int .i64 0, .string ⟨#[]⟩, .slice none 0 0] 40) := ⟨_, rfl⟩
  have h := Pt.three4 w (.cells #[.int .i64 pk, .int .i64 pn, .string pt, .slice p pF.length cap, .bool gd, .int .i64 ek, .int .i64 en, .string et, .slice q eF.length cq] 55) (.cells #[.int .i64 0, .int .i64 0, .string ⟨#[]⟩, .slice none 0 0, .bool false, .int .i64 0, .int .i64 0, .string ⟨#[]⟩, .slice none 0 0] 40) (.cells #[.int .i64 0, .int .i64 0, .string ⟨#[]⟩, .slice none 0 0, .bool false, .int .i64 0, .int .i64 0, .string ⟨#[]⟩, .slice none 0 0] 40)
  rw [← hw3] at h
  obtain ⟨hs3, hp1, hp2, hB⟩ := h
  have hp0 : w3.heap[w.heap.size]? = some (.cells #[.int .i64 pk, .int .i64 pn, .string pt, .slice p pF.length cap, .bool gd, .int .i64 ek, .int .i64 en, .string et, .slice q eF.length cq] 55 (0, 0)) := by
    have s1 : (w.alloc (.cells #[.int .i64 pk, .int .i64 pn, .string pt, .slice p pF.length cap, .bool gd, .int .i64 ek, .int .i64 en, .string et, .slice q eF.length cq] 55)).heap.size = w.heap.size + 1 := Array.size_push _
    have s2 : ((w.alloc (.cells #[.int .i64 pk, .int .i64 pn, .string pt, .slice p pF.length cap, .bool gd, .int .i64 ek, .int .i64 en, .string et, .slice q eF.length cq] 55)).alloc (.cells #[.int .i64 0, .int .i64 0, .string ⟨#[]⟩, .slice none 0 0, .bool false, .int .i64 0, .int .i64 0, .string ⟨#[]⟩, .slice none 0 0] 40)).heap.size = (w.alloc (.cells #[.int .i64 pk, .int .i64 pn, .string pt, .slice p pF.length cap, .bool gd, .int .i64 ek, .int .i64 en, .string et, .slice q eF.length cq] 55)).heap.size + 1 := Array.size_push _
    rw [hw3, Below.heap_alloc _ _ _ (by omega), Below.heap_alloc _ _ _ (by omega)]
    exact heap_at_new w _
  have HB := Lib.hid hB
  have HS := Lib.hid hs3
  have HP0 := Lib.hid hp0
  have HP1 := Lib.hid hp1
  have HP2 := Lib.hid hp2
  have H3 := Lib.hid hw3
  obtain ⟨h0, h1, h2, h3, h4, h5, h6, h7, h8, _⟩ := nine_cells hp0
  rw [hw3] at h0 h1 h2 h3 h4 h5 h6 h7 h8
  clear hB hs3 hp0 hp1 hp2 hw3 hx hy hf hsz hsz2
  go_enter Try.func17, Try.ntmps17
  go_wp2_with fail
  rw [← H3.out]
  refine (H.out w3 HB.out).mono ?_
  clear h0 h1 h2 h3 h4 h5 h6 h7 h8
  rintro e w1 ⟨⟨v1, bs, rfl, hO, hnd, hbs⟩, hb1⟩
  have hs := HS.out
  obtain ⟨p2, cap2, rfl, _, _⟩ := hO.reads
  have hs1 := hb1.size
  have hr0 := (hb1.block w.heap.size (by omega)).trans HP0.out
  have hr1 := (hb1.block (w.heap.size + 1) (by omega)).trans HP1.out
  have hr2 := (hb1.block (w.heap.size + 1 + 1) (by omega)).trans HP2.out
  obtain ⟨w1s, hw1s⟩ : ∃ W, W = (((((w1.setCell ⟨w.heap.size + 1 + 1, 0, none⟩ (.int .i64 pk)).setCell ⟨w.heap.size + 1 + 1, 1, none⟩ (.int .i64 pn)).setCell ⟨w.heap.size + 1 + 1, 2, none⟩ (.string pt)).setCell ⟨w.heap.size + 1 + 1, 3, none⟩ (.slice p2 pF.length cap2)).setCell ⟨w.heap.size + 1 + 1, 4, none⟩ (.bool gd)) := ⟨_, rfl⟩
  have hot : ∀ b, b ≠ w.heap.size + 1 + 1 → w1s.heap[b]? = w1.heap[b]? := fun b hne => by
    rw [hw1s, Below.heap_setCell _ _ _ _ hne, Below.heap_setCell _ _ _ _ hne, Below.heap_setCell _ _ _ _ hne, Below.heap_setCell _ _ _ _ hne, Below.heap_setCell _ _ _ _ hne]
  have hsz1 : w1s.heap.size = w1.heap.size := by rw [hw1s]; simp [World.setCell]
  have hk2 : w1s.heap[w.heap.size + 1 + 1]? = some (.cells #[.int .i64 pk, .int .i64 pn, .string pt, .slice p2 pF.length cap2, .bool gd, .int .i64 0, .int .i64 0, .string ⟨#[]⟩, .slice none 0 0] 40 (0, 0)) := by
    rw [hw1s]
    exact (nine_set (nine_set (nine_set (nine_set (nine_set hr2 _).1 _).2.1 _).2.2.1 _).2.2.2.1 _).2.2.2.2.1
  have hB1 : Below w.heap.size w w1s := by
    rw [hw1s]
    exact ((((((HB.out.trans (hb1.mono (by omega))).setCell (by show _ ≤ w.heap.size + 1 + 1; omega) _).setCell (by show _ ≤ w.heap.size + 1 + 1; omega) _).setCell (by show _ ≤ w.heap.size + 1 + 1; omega) _).setCell (by show _ ≤ w.heap.size + 1 + 1; omega) _).setCell (by show _ ≤ w.heap.size + 1 + 1; omega) _)
  have HR1 : Hid (w1s.heap[w.heap.size + 1]? = some (.cells #[.int .i64 0, .int .i64 0, .string ⟨#[]⟩, .slice none 0 0, .bool false, .int .i64 0, .int .i64 0, .string ⟨#[]⟩, .slice none 0 0] 40 (0, 0))) := (hot _ (by omega)).trans hr1
  have HR2 := Lib.hid hk2
  have HO : Hid (Pt.OwnV w1s (.slice p2 pF.length cap2) pF bs) := hO.keep (fun b hb => hot b (by have := hbs b hb; omega))
  have HBS : Hid (∀ b ∈ bs, w.heap.size + 3 ≤ b ∧ b < w1s.heap.size) := fun b hb => by have := hbs b hb; omega
  have HB1 := Lib.hid hB1
  have HS1 : Hid (w.heap.size + 3 ≤ w1s.heap.size) := by unfold Hid; omega
  have HR0 : Hid (w1s.heap[w.heap.size]? = some (.cells #[.int .i64 pk, .int .i64 pn, .string pt, .slice p pF.length cap, .bool gd, .int .i64 ek, .int .i64 en, .string et, .slice q eF.length cq] 55 (0, 0))) := (hot _ (by omega)).trans hr0
  have HW1S := Lib.hid hw1s
  obtain ⟨h0, h1, h2, h3, h4, h5, h6, h7, h8, _⟩ := nine_cells hr0
  obtain ⟨g0, g1, g2, g3, g4, g5, g6, g7, g8, g9, g10, g11, g12, g13, g14, g15, g16, g17⟩ := nine_cells hr2
  obtain ⟨k0, k1, k2, k3, k4, k5, k6, k7, k8, _⟩ := nine_cells HR0.out
  rw [hw1s] at k0 k1 k2 k3 k4 k5 k6 k7 k8
  clear hO hbs hnd hr0 hr1 hr2 hw1s hot hsz1 hk2 hB1 hb1 hs hs1 H HB HS HP0 HP1 HP2 H3
  go_wp2_with fail
  rw [← HW1S.out]
  refine (H2.out w1s HB1.out).mono ?_
  clear h0 h1 h2 h3 h4 h5 h6 h7 h8 g0 g1 g2 g3 g4 g5 g6 g7 g8 g9 g10 g11 g12 g13 g14 g15 g16 g17 k0 k1 k2 k3 k4 k5 k6 k7 k8
  rintro e w2 ⟨⟨v2, bs2, rfl, hO2, hnd2, hbs2⟩, hb2⟩
  obtain ⟨q2, cq2, rfl, _, _⟩ := hO2.reads
  have hs2 := hb2.size
  have hs1 := HS1.out
  have hr1 := (hb2.block (w.heap.size + 1) (by omega)).trans HR1.out
  have hr2 := (hb2.block (w.heap.size + 1 + 1) (by omega)).trans HR2.out
  obtain ⟨g0, g1, g2, g3, g4, g5, g6, g7, g8, g9, g10, g11, g12, g13, g14, g15, g16, g17⟩ := nine_cells hr1
  obtain ⟨k0, k1, k2, k3, k4, k5, k6, k7, k8, k9, k10, k11, k12, k13, k14, k15, k16, k17⟩ := nine_cells hr2
  have HQ1 := Lib.hid hr1
  have HO1 : Hid (Pt.OwnV w2 (.slice p2 pF.length cap2) pF bs) := HO.out.keep (fun b hb => hb2.block b (HBS.out b hb).2)
  have HO2 := Lib.hid hO2
  have HBS2 : Hid (∀ b ∈ bs2, w.heap.size + 3 ≤ b ∧ b < w2.heap.size) := fun b hb => by have := hbs2 b hb; omega
  have HBS1 : Hid (∀ b ∈ bs, w.heap.size + 3 ≤ b ∧ b < w2.heap.size) := fun b hb => by have := HBS.out b hb; omega
  have HB2 : Hid (Below w.heap.size w w2) := HB1.out.trans (hb2.mono (by omega))
  clear hO2 hnd2 hbs2 hs2 hs1 hr1 hr2 HR0 HR1 HR2 HO HBS HB1 HS1 hb2 H2 HW1S
  go_wp2
  have hz1 : ((((w2.setCell ⟨w.heap.size + 1 + 1, 5, none⟩ (.int .i64 ek)).setCell ⟨w.heap.size + 1 + 1, 6, none⟩ (.int .i64 en)).setCell ⟨w.heap.size + 1 + 1, 7, none⟩ (.string et)).setCell ⟨w.heap.size + 1 + 1, 8, none⟩ (.slice q2 eF.length cq2)).heap[w.heap.size + 1]? = some (.cells #[.int .i64 0, .int .i64 0, .string ⟨#[]⟩, .slice none 0 0, .bool false, .int .i64 0, .int .i64 0, .string ⟨#[]⟩, .slice none 0 0] 40 (0, 0)) := by
    rw [Below.heap_setCell _ _ _ _ (by show w.heap.size + 1 ≠ w.heap.size + 1 + 1; omega), Below.heap_setCell _ _ _ _ (by show w.heap.size + 1 ≠ w.heap.size + 1 + 1; omega), Below.heap_setCell _ _ _ _ (by show w.heap.size + 1 ≠ w.heap.size + 1 + 1; omega), Below.heap_setCell _ _ _ _ (by show w.heap.size + 1 ≠ w.heap.size + 1 + 1; omega)]
    exact HQ1.out
  refine bodyPost_ret (results_cell_row rfl _ _ (w.heap.size + 1) _ _ _ _ rfl (nine_set (nine_set (nine_set (nine_set (nine_set (nine_set (nine_set (nine_set (nine_set hz1 _).1 _).2.1 _).2.2.1 _).2.2.2.1 _).2.2.2.2.1 _).2.2.2.2.2.1 _).2.2.2.2.2.2.1 _).2.2.2.2.2.2.2.1 _).2.2.2.2.2.2.2.2 Try.underlying40 rfl (by kernel_rfl)) rfl ?_
  refine ⟨⟨_, bs, _, bs2, rfl, HO1.out.keep (fun b hb => ?_), fun b hb => ?_, HO2.out.keep (fun b hb => ?_), fun b hb => ?_⟩, (((((((((((((HB2.out.setCell (by show _ ≤ w.heap.size + 1 + 1; omega) _).setCell (by show _ ≤ w.heap.size + 1 + 1; omega) _).setCell (by show _ ≤ w.heap.size + 1 + 1; omega) _).setCell (by show _ ≤ w.heap.size + 1 + 1; omega) _).setCell (by show _ ≤ w.heap.size + 1; omega) _).setCell (by show _ ≤ w.heap.size + 1; omega) _).setCell (by show _ ≤ w.heap.size + 1; omega) _).setCell (by show _ ≤ w.heap.size + 1; omega) _).setCell (by show _ ≤ w.heap.size + 1; omega) _).setCell (by show _ ≤ w.heap.size + 1; omega) _).setCell (by show _ ≤ w.heap.size + 1; omega) _).setCell (by show _ ≤ w.heap.size + 1; omega) _).setCell (by show _ ≤ w.heap.size + 1; omega) _)⟩
  · have := HBS1.out b hb
    rw [Below.heap_setCell _ _ _ _ (by show b ≠ w.heap.size + 1; omega), Below.heap_setCell _ _ _ _ (by show b ≠ w.heap.size + 1; omega), Below.heap_setCell _ _ _ _ (by show b ≠ w.heap.size + 1; omega), Below.heap_setCell _ _ _ _ (by show b ≠ w.heap.size + 1; omega), Below.heap_setCell _ _ _ _ (by show b ≠ w.heap.size + 1; omega), Below.heap_setCell _ _ _ _ (by show b ≠ w.heap.size + 1; omega), Below.heap_setCell _ _ _ _ (by show b ≠ w.heap.size + 1; omega), Below.heap_setCell _ _ _ _ (by show b ≠ w.heap.size + 1; omega), Below.heap_setCell _ _ _ _ (by show b ≠ w.heap.size + 1; omega), Below.heap_setCell _ _ _ _ (by show b ≠ w.heap.size + 1 + 1; omega), Below.heap_setCell _ _ _ _ (by show b ≠ w.heap.size + 1 + 1; omega), Below.heap_setCell _ _ _ _ (by show b ≠ w.heap.size + 1 + 1; omega), Below.heap_setCell _ _ _ _ (by show b ≠ w.heap.size + 1 + 1; omega)]
  · have := HBS1.out b hb
    exact ⟨by omega, by simpa [World.setCell] using this.2⟩
  · have := HBS2.out b hb
    rw [Below.heap_setCell _ _ _ _ (by show b ≠ w.heap.size + 1; omega), Below.heap_setCell _ _ _ _ (by show b ≠ w.heap.size + 1; omega), Below.heap_setCell _ _ _ _ (by show b ≠ w.heap.size + 1; omega), Below.heap_setCell _ _ _ _ (by show b ≠ w.heap.size + 1; omega), Below.heap_setCell _ _ _ _ (by show b ≠ w.heap.size + 1; omega), Below.heap_setCell _ _ _ _ (by show b ≠ w.heap.size + 1; omega), Below.heap_setCell _ _ _ _ (by show b ≠ w.heap.size + 1; omega), Below.heap_setCell _ _ _ _ (by show b ≠ w.heap.size + 1; omega), Below.heap_setCell _ _ _ _ (by show b ≠ w.heap.size + 1; omega), Below.heap_setCell _ _ _ _ (by show b ≠ w.heap.size + 1 + 1; omega), Below.heap_setCell _ _ _ _ (by show b ≠ w.heap.size + 1 + 1; omega), Below.heap_setCell _ _ _ _ (by show b ≠ w.heap.size + 1 + 1; omega), Below.heap_setCell _ _ _ _ (by show b ≠ w.heap.size + 1 + 1; omega)]
  · have := HBS2.out b hb
    exact ⟨by omega, by simpa [World.setCell] using this.2⟩

set_option maxHeartbeats 2000000 in
set_option maxRecDepth 100000 in
theorem toClauseS_any (l : List ClauseD) (hfit : ∀ x ∈ l, x.fits) (hm : l.length ≤ 1048576) (hsz : clausesSize l ≤ 1048576) (w : World) (a : Option Addr) (cap : Nat) (hx : ClausesAt w l a 0) :
    Calls Try.prog 12 #[.slice a l.length cap] w fun e w' => (∃ b c, e = .returned (.slice b l.length c) ∧ l.length ≤ c ∧ ∀ W : World, (∀ k, w.heap.size ≤ k → k < w'.heap.size → W.heap[k]? = w'.heap[k]?) → ClausesAt W l b 0) ∧ Below w.heap.size w w' := by
  obtain ⟨cs, hcs, hmk⟩ := make_Clause l.length hm w
  have HX := Lib.hid hx
  have HF := Lib.hid hfit
  have HSZ : Hid (∀ x ∈ l, x.pF.size ≤ 1048576 ∧ x.eF.size ≤ 1048576) := fun x hxm => by
    have h1 : x.size ≤ clausesIn l := by
      unfold clausesIn
      obtain ⟨A, B, rfl⟩ := List.append_of_mem hxm
      simp
      omega
    unfold clausesSize at hsz
    unfold ClauseD.size at h1
    omega
  clear hx hfit hsz
  go_enter Try.func12, Try.ntmps12
  go_wp2
  clear hmk
  have hb0 := heap_at_new w (.cells cs 40)
  have hB0 : Below w.heap.size w (w.alloc (.cells cs 40)) := (Below.refl _ _).alloc (Nat.le_refl _) _
  have hst : (w.alloc (.cells cs 40)).heap.size = w.heap.size + 1 := Array.size_push _
  generalize w.alloc (.cells cs 40) = w0 at hb0 hB0 hst ⊢
  generalize hn : l.length = n at *
  have HN := Lib.hid hn
  have HI : Hid (FillC w w.heap.size n [] w0) := ⟨cs, hb0, hcs, fun _ _ _ => trivial, hB0, Nat.le_refl _, by omega⟩
  clear hb0 hB0 hst hcs hn
  go_loopw [4] (fun i wr => ∃ (k : Nat) (pre rest : List ClauseD), i = .int .i64 k ∧ pre.length = k ∧ k + rest.length = n ∧ Hid (pre ++ rest = l) ∧ Hid (ClausesAt w rest a k) ∧ Hid (∀ x ∈ rest, ClauseD.fits x ∧ x.pF.size ≤ 1048576 ∧ x.eF.size ≤ 1048576) ∧ Hid (FillC w w.heap.size n pre wr)) (fun i _ => n - (intOf i).toNat)
  case atStart => exact ⟨0, [], l, rfl, rfl, by rw [HN.out]; omega, rfl, HX, fun x hxm => ⟨HF.out x hxm, HSZ.out x hxm⟩, HI⟩
  case round =>
    obtain ⟨k, pre, rest, rfl, hpk, hkn, hpr, hxr, hfr, hI⟩ := hrel
    cases rest with
    | cons x r =>
      have hkl : k < n := by simp only [List.length_cons] at hkn; omega
      have hkn2 : k + 1 + r.length = n := by simp only [List.length_cons] at hkn; omega
      obtain ⟨⟨y, p, cp, q, cq, rfl, ⟨h0, h1, h2, h3, h4, h5, h6, h7, h8⟩, hl, hl2, hs, hs2⟩, hr⟩ := hxr.out.below hI.out.below
      have hfx := hfr.out x (by simp)
      have HR2 : Hid (∀ u ∈ r, ClauseD.fits u ∧ u.pF.size ≤ 1048576 ∧ u.eF.size ≤ 1048576) := fun u hu => hfr.out u (by simp [hu])
      have hxr2 : Hid (ClausesAt w r (some y) (k + 1)) := hxr.out.2
      have H := toClause_any wr x p cp q cq hfx.1 hfx.2.1 hfx.2.2 hs hs2
      have HPR2 : Hid ((pre ++ [x]) ++ r = l) := by unfold Hid; rw [← hpr.out]; simp
      have HST : Hid (∀ w1 v v2 b1 b2, Below wr.heap.size wr w1 → Pt.OwnV w1 v x.pF b1 → (∀ b ∈ b1, wr.heap.size ≤ b ∧ b < w1.heap.size) → Ex.OwnV w1 v2 x.eF b2 → (∀ b ∈ b2, wr.heap.size ≤ b ∧ b < w1.heap.size) → _) := fun w1 v v2 b1 b2 hb ho hnew ho2 hnew2 => FillC.step (x := x) hI.out (by omega) hb ho hnew ho2 hnew2
      rw [hpk] at HST
      obtain ⟨pk, pn, pt, pF, gd, ek, en, et, eF⟩ := x
      clear hxr hfr hs hs2 hr hfx hkn hl hl2 hpr hI
      dsimp only at *
      go_wp2_with fail
      refine H.mono ?_
      clear H
      rintro e w1 ⟨⟨v', bs, v2', bs2, rfl, ho, hbs, ho2, hbs2⟩, hb1⟩
      obtain ⟨p2, cap2, hv2, _, _⟩ := ho.reads
      subst hv2
      obtain ⟨q2, cap3, hv3, _, _⟩ := ho2.reads
      subst hv3
      obtain ⟨x0, x1, x2, x3, x4, x5, x6, x7, x8, c0, c1, c2, c3, c4, c5, c6, c7, c8, f0, f1, f2, f3, f4, f5, f6, f7, f8, hF2⟩ := HST.out _ _ _ _ _ hb1 ho hbs ho2 hbs2
      have hpl : (pre ++ [ClauseD.mk pk pn pt pF gd ek en et eF]).length = k + 1 := by rw [List.length_append, hpk]; rfl
      generalize pre ++ [ClauseD.mk pk pn pt pF gd ek en et eF] = pre2 at *
      have HF2 := Lib.hid hF2
      clear hF2 ho hb1 hbs ho2 hbs2 HST
      go_wp2
      go_roundw
      case rel => exact ⟨k + 1, pre2, r, by go_num, hpl, hkn2, HPR2, hxr2, HR2, HF2⟩
      case measure => simp [intOf]; omega
    | nil =>
      obtain rfl : k = n := by simp only [List.length_nil] at hkn; omega
      have hp := hpr.out
      rw [List.append_nil] at hp
      subst hp
      clear hxr hfr
      go_wp2
      go_ret
      exact ⟨⟨_, k, by rw [hpk]; rfl, by omega, hI.out.reads⟩, hI.out.below⟩

set_option maxHeartbeats 1000000 in
set_option maxRecDepth 100000 in
theorem toMatch_any (w : World) (ty : ByteArray) (l : List ClauseD) (hfit : ∀ x ∈ l, x.fits) (hm : l.length ≤ 1048576) (hsz : clausesSize l ≤ 1048576) (a : Option Addr) (cap : Nat) (hx : ClausesAt w l a 0) :
    Calls Try.prog 6 #[.agg #[.string ty, .slice a l.length cap]] w fun e w' => (∃ b c, e = .returned (.agg #[.string ty, .slice b l.length c]) ∧ l.length ≤ c ∧ ClausesAt w' l b 0) ∧ Below w.heap.size w w' := by
  have H := fun w' (hb : Below w.heap.size w w') => toClauseS_any l hfit hm hsz w' a cap (hx.below hb)
  obtain ⟨w3, h3⟩ : ∃ w3, w3 = ((w.alloc (.cells #[.string ty, .slice a l.length cap] 24)).alloc (.cells #[.string ⟨#[]⟩, .slice none 0 0] 29)).alloc (.cells #[.string ty, .slice none 0 0] 29) := ⟨_, rfl⟩
  have h := Pt.three4 w (.cells #[.string ty, .slice a l.length cap] 24) (.cells #[.string ⟨#[]⟩, .slice none 0 0] 29) (.cells #[.string ty, .slice none 0 0] 29)
  rw [← h3] at h
  obtain ⟨hs3, hp1, hp2, hB⟩ := h
  have HB := Lib.hid hB
  have HS := Lib.hid hs3
  have HP1 := Lib.hid hp1
  have HP2 := Lib.hid hp2
  have H3 := Lib.hid h3
  clear hB hs3 hp1 hp2 h3 hx hfit hm hsz
  go_enter Try.func6, Try.ntmps6
  go_wp2_with fail
  rw [← H3.out]
  refine (H w3 HB.out).mono ?_
  rintro e w1 ⟨⟨b, c, rfl, hlc, hx1⟩, hb1⟩
  have hs := HS.out
  have hr1 := (hb1.block (w.heap.size + 1) (by omega)).trans HP1.out
  have hr2 := (hb1.block (w.heap.size + 1 + 1) (by omega)).trans HP2.out
  obtain ⟨q1, q2, q3, q4⟩ := pair_cells hr1
  obtain ⟨g1, g2, g3, g4⟩ := pair_cells hr2
  have HR1 := Lib.hid hr1
  have HX1 := Lib.hid hx1
  have HLC := Lib.hid hlc
  have HB1 : Hid (Below w.heap.size w w1) := HB.out.trans (hb1.mono (by omega))
  have HS1 : Hid (w.heap.size + 3 ≤ w1.heap.size) := by unfold Hid; have := hb1.size; omega
  clear hb1 HB HP1 HP2 hr1 hr2 H hx1 hlc
  go_wp2
  have hz1 : (w1.setCell ⟨w.heap.size + 1 + 1, 1, none⟩ (.slice b l.length c)).heap[w.heap.size + 1]? = some (.cells #[.string ⟨#[]⟩, .slice none 0 0] 29 (0, 0)) := by
    rw [Below.heap_setCell _ _ _ _ (by show w.heap.size + 1 ≠ w.heap.size + 1 + 1; omega)]
    exact HR1.out
  refine bodyPost_ret (results_cell_row rfl _ _ (w.heap.size + 1) _ _ _ _ rfl (pair_set (pair_set hz1 _).1 _).2 Try.underlying29 rfl (by kernel_rfl)) rfl ?_
  refine ⟨⟨_, _, rfl, HLC.out, HX1.out _ (fun k hk _ => ?_)⟩, ((HB1.out.setCell (by show _ ≤ w.heap.size + 1 + 1; omega) _).setCell (by show _ ≤ w.heap.size + 1; omega) _).setCell (by show _ ≤ w.heap.size + 1; omega) _⟩
  have := HS.out
  rw [Below.heap_setCell _ _ _ _ (by show k ≠ w.heap.size + 1; omega), Below.heap_setCell _ _ _ _ (by show k ≠ w.heap.size + 1; omega), Below.heap_setCell _ _ _ _ (by show k ≠ w.heap.size + 1 + 1; omega)]
end Go.Proofs.Ytcimdhmmgneljaa
