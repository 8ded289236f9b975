/- What is proved here: the laws' copy of bindings (toBinding and toBindingS) is the same row in memory of its own. Condition: it lies in memory as said, and is small. -/
import Derived.Test.YtdifefgigcjgeaaBinds
import Derived.Test.YtdifefgigcjgeaaTreeMake
namespace Go.Proofs.Ytdifefgigcjgeaa
open Go.RowKit

/-- A new slice of bindings. -/
theorem make_Binding (n : Nat) (hn : n ≤ 1048576) (W : World) : ∃ cs : Array Value, cs.size = n * 5 ∧
    (Instr.makeSlice 53 (.int .i64 (n : Int)) (.int .i64 (n : Int))).run Try.prog W = .ok (.slice (some ⟨W.heap.size, 0, none⟩) n n) (W.alloc (.cells cs 88)) := by
  have hi : (Try.prog.info? 88).map (fun i => (i.zero, i.size, i.bytes)) = some (some (.agg #[.string ⟨#[]⟩, .int .i64 0, .int .i64 0, .string ⟨#[]⟩, .slice none 0 0]), 5, 72) := by kernel_rfl
  obtain ⟨i0, hi, hz0, hz1, hz2⟩ := info_parts hi
  have hr := run_make (P := Try.prog) W 53 88 i0 _ Try.underlying53 hi hz0 .i64 .i64 n n (by omega) (by omega) (by rw [hz2]; omega) (by omega)
  rw [hr]
  simp only [Int.toNat_natCast]
  exact ⟨_, by rw [hz1]; simp [madeCells], rfl⟩

set_option maxHeartbeats 1000000 in
set_option maxRecDepth 100000 in
theorem toBind (w : World) (x : BindD) (p : Option Addr) (cap : Nat) (hf : x.fits) (hsz : x.F.size ≤ 1048576) (hx : TreesAt w x.F p 0) :
    Calls Try.prog 59 #[.agg #[.string x.nm, .int .i64 x.k, .int .i64 x.n, .string x.t, .slice p x.F.length cap]] w fun e w' => (∃ v bs, e = .returned (.agg #[.string x.nm, .int .i64 x.k, .int .i64 x.n, .string x.t, v]) ∧ OwnV w' v x.F bs ∧ bs.Nodup ∧ ∀ b ∈ bs, w.heap.size ≤ b ∧ b < w'.heap.size) ∧ Below w.heap.size w w' := by
  obtain ⟨nm, k, n, t, F⟩ := x
  have H := fun w' (hb : Below w.heap.size w w') => toValue_any w' k n t F p cap hf.2.2.2.2.2 hsz (hx.below hb)
  obtain ⟨w3, h3⟩ : ∃ w3, w3 = ((w.alloc (.cells #[.string nm, .int .i64 k, .int .i64 n, .string t, .slice p F.length cap] 83)).alloc (.cells #[.string ⟨#[]⟩, .int .i64 0, .int .i64 0, .string ⟨#[]⟩, .slice none 0 0] 88)).alloc (.cells #[.string nm, .int .i64 0, .int .i64 0, .string ⟨#[]⟩, .slice none 0 0] 88) := ⟨_, rfl⟩
  have h := three4 w (.cells #[.string nm, .int .i64 k, .int .i64 n, .string t, .slice p F.length cap] 83) (.cells #[.string ⟨#[]⟩, .int .i64 0, .int .i64 0, .string ⟨#[]⟩, .slice none 0 0] 88) (.cells #[.string nm, .int .i64 0, .int .i64 0, .string ⟨#[]⟩, .slice none 0 0] 88)
  rw [← h3] at h
  obtain ⟨hs3, hp1, hp2, hB⟩ := h
  have HB := Lib.hid hB
  have HS := Lib.hid hs3
  have HP1 := Lib.hid hp1
  have HP2 := Lib.hid hp2
  have H3 := Lib.hid h3
  clear hB hs3 hp1 hp2 h3 hx hf hsz
  dsimp only at *
  go_enter Try.func59, Try.ntmps59
  go_wp2_with fail
  rw [← H3.out]
  refine (H w3 HB.out).mono ?_
  rintro e w1 ⟨⟨v1, bs, rfl, hO, hnd, hbs⟩, hb1⟩
  have hs := HS.out
  obtain ⟨p2, cap2, rfl, _, _⟩ := hO.reads
  have HO := Lib.hid hO
  have HBS := Lib.hid hbs
  have HND := Lib.hid hnd
  clear hO hbs hnd
  have hr1 := (hb1.block (w.heap.size + 1) (by omega)).trans HP1.out
  have HR1 := Lib.hid hr1
  obtain ⟨q1, q2, q3, q4, q5, q6, q7, q8, q9, q10⟩ := five_cells hr1
  obtain ⟨g1, g2, g3, g4, g5, g6, g7, g8, g9, g10⟩ := five_cells ((hb1.block (w.heap.size + 1 + 1) (by omega)).trans HP2.out)
  have HB1 : Hid (Below w.heap.size w w1) := HB.out.trans (hb1.mono (by omega))
  have HS1 : Hid (w.heap.size + 3 ≤ w1.heap.size) := by unfold Hid; have := hb1.size; omega
  clear hb1 HB HP1 HP2 hr1 H
  go_wp2
  have hz1 : ((((w1.setCell ⟨w.heap.size + 1 + 1, 1, none⟩ (.int .i64 k)).setCell ⟨w.heap.size + 1 + 1, 2, none⟩ (.int .i64 n)).setCell ⟨w.heap.size + 1 + 1, 3, none⟩ (.string t)).setCell ⟨w.heap.size + 1 + 1, 4, none⟩ (.slice p2 F.length cap2)).heap[w.heap.size + 1]? = some (.cells #[.string ⟨#[]⟩, .int .i64 0, .int .i64 0, .string ⟨#[]⟩, .slice none 0 0] 88 (0, 0)) := by
    rw [Below.heap_setCell _ _ _ _ (by show w.heap.size + 1 ≠ w.heap.size + 1 + 1; omega), Below.heap_setCell _ _ _ _ (by show w.heap.size + 1 ≠ w.heap.size + 1 + 1; omega), Below.heap_setCell _ _ _ _ (by show w.heap.size + 1 ≠ w.heap.size + 1 + 1; omega), Below.heap_setCell _ _ _ _ (by show w.heap.size + 1 ≠ w.heap.size + 1 + 1; omega)]
    exact HR1.out
  refine bodyPost_ret (results_cell_row rfl _ _ (w.heap.size + 1) _ _ _ _ rfl (five_set (five_set (five_set (five_set (five_set hz1 _).1 _).2.1 _).2.2.1 _).2.2.2.1 _).2.2.2.2 Try.underlying88 rfl (by kernel_rfl)) rfl ?_
  have hag : ∀ b ∈ bs, w.heap.size + 3 ≤ b ∧ b < w1.heap.size := fun b hb => by have := HBS.out b hb; omega
  refine ⟨⟨_, bs, rfl, HO.out.keep (fun b hb => ?_), HND.out, fun b hb => ?_⟩, ((((((((HB1.out.setCell (by show _ ≤ w.heap.size + 1 + 1; omega) _).setCell (by show _ ≤ w.heap.size + 1 + 1; omega) _).setCell (by show _ ≤ w.heap.size + 1 + 1; omega) _).setCell (by show _ ≤ w.heap.size + 1 + 1; omega) _).setCell (by show _ ≤ w.heap.size + 1; omega) _).setCell (by show _ ≤ w.heap.size + 1; omega) _).setCell (by show _ ≤ w.heap.size + 1; omega) _).setCell (by show _ ≤ w.heap.size + 1; omega) _).setCell (by show _ ≤ w.heap.size + 1; omega) _⟩
  · have := hag b hb
    rw [Below.heap_setCell _ _ _ _ (by show b ≠ w.heap.size + 1; omega), Below.heap_setCell _ _ _ _ (by show b ≠ w.heap.size + 1; omega), Below.heap_setCell _ _ _ _ (by show b ≠ w.heap.size + 1; omega), Below.heap_setCell _ _ _ _ (by show b ≠ w.heap.size + 1; omega), Below.heap_setCell _ _ _ _ (by show b ≠ w.heap.size + 1; omega), Below.heap_setCell _ _ _ _ (by show b ≠ w.heap.size + 1 + 1; omega), Below.heap_setCell _ _ _ _ (by show b ≠ w.heap.size + 1 + 1; omega), Below.heap_setCell _ _ _ _ (by show b ≠ w.heap.size + 1 + 1; omega), Below.heap_setCell _ _ _ _ (by show b ≠ w.heap.size + 1 + 1; omega)]
  · have := hag b hb
    exact ⟨by omega, by simpa [World.setCell] using this.2⟩

set_option maxHeartbeats 1000000 in
set_option maxRecDepth 100000 in
theorem toBindS_any (l : List BindD) (hfit : ∀ x ∈ l, x.fits) (hm : l.length ≤ 1048576) (hsz : bindsSize l ≤ 1048576) (w : World) (a : Option Addr) (cap : Nat) (hx : BindsAt w l a 0) :
    Calls Try.prog 28 #[.slice a l.length cap] w fun e w' => (∃ v bs, e = .returned v ∧ OwnB w' v l bs ∧ bs.Nodup ∧ ∀ b ∈ bs, w.heap.size ≤ b ∧ b < w'.heap.size) ∧ Below w.heap.size w w' := by
  obtain ⟨cs, hcs, hmk⟩ := make_Binding l.length hm w
  have HX := Lib.hid hx
  have HF := Lib.hid hfit
  have HSZ : Hid (∀ x ∈ l, x.F.size ≤ 1048576) := fun x hxm => by
    have h1 : x.size ≤ bindsIn l := by
      unfold bindsIn
      obtain ⟨A, B, rfl⟩ := List.append_of_mem hxm
      simp
      omega
    unfold bindsSize at hsz
    unfold BindD.size at h1
    omega
  clear hx hfit hsz
  go_enter Try.func28, Try.ntmps28
  go_wp2
  clear hmk
  have hb0 := heap_at_new w (.cells cs 88)
  have hB0 : Below w.heap.size w (w.alloc (.cells cs 88)) := (Below.refl _ _).alloc (Nat.le_refl _) _
  have hst : (w.alloc (.cells cs 88)).heap.size = w.heap.size + 1 := Array.size_push _
  generalize w.alloc (.cells cs 88) = w0 at hb0 hB0 hst ⊢
  generalize hn : l.length = n at *
  have HN := Lib.hid hn
  have HI : Hid (FillB w w.heap.size n [] w0) := ⟨cs, [], hb0, hcs, rfl, List.nodup_nil, fun b hb => absurd hb (by simp), hB0, Nat.le_refl _, by omega⟩
  clear hb0 hB0 hst hcs hn
  go_loopw [4] (fun i wr => ∃ (k : Nat) (pre rest : List BindD), i = .int .i64 k ∧ pre.length = k ∧ k + rest.length = n ∧ Hid (pre ++ rest = l) ∧ Hid (BindsAt w rest a k) ∧ Hid (∀ x ∈ rest, BindD.fits x ∧ x.F.size ≤ 1048576) ∧ Hid (FillB w w.heap.size n pre wr)) (fun i _ => n - (intOf i).toNat)
  case atStart => exact ⟨0, [], l, rfl, rfl, by rw [HN.out]; omega, rfl, HX, fun x hxm => ⟨HF.out x hxm, HSZ.out x hxm⟩, HI⟩
  case round =>
    obtain ⟨k, pre, rest, rfl, hpk, hkn, hpr, hxr, hfr, hI⟩ := hrel
    cases rest with
    | cons x r =>
      have hkl : k < n := by simp only [List.length_cons] at hkn; omega
      have hkn2 : k + 1 + r.length = n := by simp only [List.length_cons] at hkn; omega
      obtain ⟨⟨y, p, cp, rfl, h1, h2, h3, h4, h5, hl, hs⟩, hr⟩ := hxr.out.below hI.out.below
      have hfx := hfr.out x (by simp)
      have HR2 : Hid (∀ u ∈ r, BindD.fits u ∧ u.F.size ≤ 1048576) := fun u hu => hfr.out u (by simp [hu])
      have hxr2 : Hid (BindsAt w r (some y) (k + 1)) := hxr.out.2
      have H := toBind wr x p cp hfx.1 hfx.2 hs
      have HPR2 : Hid ((pre ++ [x]) ++ r = l) := by unfold Hid; rw [← hpr.out]; simp
      have HST : Hid (∀ w1 v b1, Below wr.heap.size wr w1 → OwnV w1 v x.F b1 → b1.Nodup → (∀ b ∈ b1, wr.heap.size ≤ b ∧ b < w1.heap.size) → _) := fun w1 v b1 hb ho hnd hnew => FillB.step (x := x) hI.out (by omega) hb ho hnd hnew
      rw [hpk] at HST
      obtain ⟨nm, kd, nu, t, F⟩ := x
      clear hxr hfr hs hr hfx hkn hl hpr hI
      dsimp only at *
      go_wp2_with fail
      refine H.mono ?_
      clear H
      rintro e w1 ⟨⟨v', bs, rfl, ho, hnd, hbs⟩, hb1⟩
      obtain ⟨p2, cap2, hv2, _, _⟩ := ho.reads
      subst hv2
      obtain ⟨x0, x1, x2, x3, x4, c0, c1, c2, c3, c4, f0, f1, f2, f3, f4, hF2⟩ := HST.out _ _ _ hb1 ho hnd hbs
      have hpl : (pre ++ [BindD.mk nm kd nu t F]).length = k + 1 := by rw [List.length_append, hpk]; rfl
      generalize pre ++ [BindD.mk nm kd nu t F] = pre2 at *
      have HF2 := Lib.hid hF2
      clear hF2 ho hb1 hbs hnd HST
      go_wp2
      go_roundw
      case rel => exact ⟨k + 1, pre2, r, by go_num, hpl, hkn2, HPR2, hxr2, HR2, HF2⟩
      case measure => simp [intOf]; omega
    | nil =>
      obtain rfl : k = n := by simp only [List.length_nil] at hkn; omega
      have hp := hpr.out
      rw [List.append_nil] at hp
      subst hp
      clear hxr hfr
      go_wp2
      go_ret
      obtain ⟨bs, ho, hnd, hbs⟩ := hI.out.done hpk k (Nat.le_refl _)
      exact ⟨⟨_, bs, rfl, ho, hnd, hbs⟩, hI.out.below⟩
end Go.Proofs.Ytdifefgigcjgeaa
