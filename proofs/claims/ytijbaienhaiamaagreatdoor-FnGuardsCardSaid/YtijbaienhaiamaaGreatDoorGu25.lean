/- What is proved here: a piece of the proof of YtijbaienhaiamaaGreatDoorGuards (ExImplVars, GuardPure). Condition: none beyond what each part says. -/
import Derived.Test.YtijbaienhaiamaaGreatDoorGu20
import Derived.Test.YtijbaienhaiamaaGreatDoorGu24
import Derived.Test.YtijbaienhaiamaaGreatDoorGu22

/- What is proved here: the program's VarsOfExpr gives the sorted names of an expression's variables. Condition: the pattern lies in memory as said, and is small. -/
section
namespace Go.Proofs.YtijbaienhaiamaaGreatDoor.Ex
open Go.RowKit Go.Shelf

attribute [local go_sem] Oper.semAt_some

theorem ApartI.grownV {n₀ : Nat} {M : Nat → Prop} {W W' : World} {o : Option Nat} (h : W.grownBy W' o) (h1 : ∀ g, o = some g → n₀ ≤ g ∧ ¬ M g) : ApartI n₀ M W W' :=
  ⟨h.size, fun b hb hc => h.block b hb (fun e => by have := h1 b e.symm; exact hc.elim (fun h => by omega) (fun h => this.2 h))⟩
/-- What holds between two rounds: the names so far, in a row of the call's own. -/
def VarsInv (w w3 : World) (seq : List Part) (j : Nat) (M : Nat → Prop) (W : World) : Prop :=
  ∃ v, W.cell? ⟨w.heap.size + 1, 0, none⟩ = some v ∧ W.frozen? ⟨w.heap.size + 1, 0, none⟩ = false ∧ W.ownsRow w3.heap.size 9 1 v ((seq.take j).flatMap partVarsE).length (((seq.take j).flatMap partVarsE).map Value.string) ∧ (∀ g, v.ownBlock = some g → ¬ M g) ∧ Below w.heap.size w W
theorem VarsInv.off {w w3 : World} {seq : List Part} {j : Nat} {M M' : Nat → Prop} {A C : World} (hw : w.heap.size + 2 < w3.heap.size) (hM : ∀ b, M b → w3.heap.size ≤ b) (hA : w3.heap.size ≤ A.heap.size) (h : VarsInv w w3 seq j M A) (ho : Off M A C) (hM' : ∀ b, M' b → M b ∨ A.heap.size ≤ b) : VarsInv w w3 seq j M' C := by
  obtain ⟨v, h1, h2, h3, h4, h5⟩ := h
  have hb := ho.below hM hA
  refine ⟨v, (hb.cell (p := ⟨w.heap.size + 1, 0, none⟩) (by show w.heap.size + 1 < _; omega)).trans h1, (hb.frozen (p := ⟨w.heap.size + 1, 0, none⟩) (by show w.heap.size + 1 < _; omega)).trans h2, owns_same h3 (fun g hg => ho.block g (h3.lt g hg).2 (h4 g hg)), fun g hg hm => ?_, h5.trans (hb.mono (by omega))⟩
  rcases hM' g hm with h | h
  · exact h4 g hg h
  · have := (h3.lt g hg).2; omega

set_option maxHeartbeats 2000000 in
set_option maxRecDepth 100000 in
theorem impl_vars (w : World) (k nu : Int) (t : ByteArray) (F : Trees) (p : Option Addr) (cap : Nat) (hc : F.count ≤ 1048576) (hx : TreesAt w F p 0) (hcap : F.length ≤ cap) :
    Calls Tryz.prog 42 #[.agg #[.int .i64 k, .int .i64 nu, .string t, .slice p F.length cap]] w (OutT w (sorted (nodeVarsE k t ++ F.varsE))) := by
  refine (callsIn_wide (n := 9)).1 ?_
  have hi : (Tryz.prog.info? 9).map (fun i => (i.zero, i.size, i.bytes)) = some (some (.string ⟨#[]⟩), 1, 16) := by kernel_rfl
  obtain ⟨i0, hi, hz0, hz1, hz2⟩ := info_parts hi
  refine callsIn_of_wp_marks Tryz.func42 rfl trivial ?_ rfl
  simp only [Tryz.ntmps42, List.size_toArray, List.length_cons, List.length_nil, Nat.reduceAdd, Nat.reduceSub, Array.replicate_succ, Array.replicate_zero, List.push_toArray, List.append_toArray, List.nil_append, List.cons_append]
  gi_wp2_with fail
  refine ⟨trivial, ?_⟩
  gi_at_call 97
  refine (parts_of _ k nu t p F.length cap _).mono ?_
  rintro e w' ⟨rfl, rfl⟩
  gi_wp2_with fail
  obtain ⟨w3, hw3⟩ : ∃ w3, w3 = ((w.alloc (.cells #[.int .i64 k, .int .i64 nu, .string t, .slice p F.length cap] 54)).alloc (.cells #[.slice none 0 0] 45)).alloc (.cells #[.int .i64 k, .int .i64 nu, .string t, .slice p F.length cap] 54) := ⟨_, rfl⟩
  obtain ⟨hs3, hp1, hp2, hB⟩ := three4 w (.cells #[.int .i64 k, .int .i64 nu, .string t, .slice p F.length cap] 54) (.cells #[.slice none 0 0] 45) (.cells #[.int .i64 k, .int .i64 nu, .string t, .slice p F.length cap] 54)
  rw [← hw3] at hs3 hp1 hp2 hB ⊢
  have hseq := parts_own (9 - 1) k nu t F p cap (w.heap.size + 1 + 1) w.heap.size w3 hp2 (TreesOn.keep (fun b hb => hB.block b hb) _ _ _ (TreesOn.of _ _ _ hx)) (by omega) hc hcap
  have hlen : ((1, k, nu, t, F.length) :: F.pre 2 : List Part).length = 1 + F.count := by rw [List.length_cons, Trees.pre_length]; omega
  have hall := seq_varsE k nu t F
  generalize nodeVarsE k t ++ F.varsE = xs at *
  generalize (1, k, nu, t, F.length) :: F.pre 2 = seq at *
  have HS3 : Hid (w3.heap.size = w.heap.size + 3) := hs3
  have HI0 := Lib.hid hi
  have HC : Hid (seq.length ≤ 1048577) := by unfold Hid; omega
  clear hw3 hx hp2 hs3 hc
  refine wpIn_rangeFunc_own rfl (by omega) (gf := 154) (lb := #[.pointer (some ⟨w.heap.size + 1 + 1, 0, none⟩)]) rfl trivial (enters_of Tryz.func154 (by kernel_rfl) rfl)
    hseq (Below.refl _ _) (by have := HS3.out; omega) (fun _ => rfl)
    (fun j M W => VarsInv w w3 seq j M W) (fun _ _ => False)
    (fun j M M' A C hM hA h ho hM' => h.off (by have := HS3.out; omega) hM hA ho hM') (fun _ _ _ hs _ => hs)
    ⟨.slice none 0 0, (one_cell4 hp1).1, (one_cell4 hp1).2, ⟨rfl, .inl ⟨rfl, rfl⟩⟩, (fun g hg => nomatch hg), hB⟩
    (fun x h => { tmps := #[.agg #[.int .i64 k, .int .i64 nu, .string t, .slice p F.length cap], .pointer (some ⟨w.heap.size, 0, none⟩), .slice none 0 0, .pointer (some ⟨w.heap.size + 1, 0, none⟩), undef, .pointer (some ⟨h, 0, none⟩), .agg #[.int .i64 k, .int .i64 nu, .string t, .slice p F.length cap], .func (.func 154) #[] #[.pointer (some ⟨w.heap.size + 1 + 1, 0, none⟩)], .int .i64 (x.d : Int), x.val, undef, undef, undef, undef, undef, undef, undef, undef, undef, undef], defers := [] })
    (fun x W => W.alloc (.cells #[.int .i64 x.k, .int .i64 x.n, .string x.t, .slice x.p x.l x.c] 54))
    (fun x W => (Below.refl _ _).alloc (Nat.le_refl _) _) ?assign ?body ?done ?stop
  case assign =>
    intro l x W K hK
    simp only [List.zip_toArray, List.foldl_toArray, List.zip_cons_cons, List.zip_nil_right, List.foldl_cons, List.foldl_nil, List.setIfInBounds_toArray, List.set_cons_succ, List.set_cons_zero]
    unfold PartX.val at hK ⊢
    gi_wp2
    simpa using hK
  case body =>
    rintro l j ⟨d, vk, vn, vt, vp, vl, vc⟩ M W0 W hj hM hinv hws hsz hnew
    have hbox := (hnew W0.heap.size (Nat.le_refl _)).trans (heap_at_new W0 _)
    dsimp only at hbox
    obtain ⟨x0, x1, x2, x3, _⟩ := four_cells hbox
    have htk := take_varsE seq j _ hj
    dsimp only [PartX.key, partVarsE] at htk
    have hjl : j < seq.length := (List.getElem?_eq_some_iff.1 hj).1
    have hjm : ((seq.take j).flatMap partVarsE).length ≤ 1048577 := by have := take_varsE_len seq j; have := HC.out; omega
    have hsW : W.heap.size = W0.heap.size + 1 := by rw [hsz]; simp
    obtain ⟨v, hc1, hf1, hown, hvM, hBW⟩ := hinv
    have hnM : ¬ M (w.heap.size + 1) := fun h => by have := (hM _ h).1; have := HS3.out; omega
    have HTK := Lib.hid htk
    have HNEXT : Hid (∀ v' W', W'.cell? ⟨w.heap.size + 1, 0, none⟩ = some v' → W'.frozen? ⟨w.heap.size + 1, 0, none⟩ = false → W'.ownsRow w3.heap.size 9 1 v' ((seq.take j).flatMap partVarsE ++ nodeVarsE vk vt).length (((seq.take j).flatMap partVarsE ++ nodeVarsE vk vt).map Value.string) → (∀ g, v'.ownBlock = some g → ¬ M g) → Below w.heap.size w W' → VarsInv w w3 seq (j + 1) M W') :=
      fun v' W' a b c d e => ⟨v', a, b, by rw [HTK.out]; exact c, d, e⟩
    clear hbox hnew hsz hj hjl hseq hlen hall htk HTK
    generalize (seq.take j).flatMap partVarsE = ys at *
    by_cases hkv : vk = 2
    · have hnv : nodeVarsE vk vt = [vt] := by unfold nodeVarsE; rw [if_pos hkv]
      rw [hnv] at HNEXT
      have hD1 := cell_one_new W (.string vt) 9
      have HD1 := Lib.hid hD1
      have HD2 : Hid (∀ u ∈ [Value.string vt], u.oneCell' = true) := by intro u hu; simp at hu; subst hu; rfl
      have HD3 : Hid (ys.length + 1 ≤ maxLen) := by unfold Hid maxLen; omega
      have HD4 : Hid ((ys.length + 1) * 16 ≤ 140737488355328) := by unfold Hid; omega
      have HD5 : Hid (w3.heap.size ≤ (W.alloc (.cells #[.string vt] 9)).heap.size) := by unfold Hid; simp; omega
      have HOWN := Lib.hid hown
      have HFIN : Hid (∀ v2 w5, w5.ownsRow w3.heap.size 9 1 v2 (ys.length + 1) (ys.map Value.string ++ [.string vt]) → (W.alloc (.cells #[.string vt] 9)).grownBy w5 v.ownBlock → (v2.ownBlock = v.ownBlock ∨ v2.ownBlock = some (W.heap.size + 1)) →
          w5.cell? ⟨w.heap.size + 1, 0, none⟩ = some v ∧ w5.frozen? ⟨w.heap.size + 1, 0, none⟩ = false ∧ ApartI w.heap.size M W (w5.setCell ⟨w.heap.size + 1, 0, none⟩ v2) ∧ VarsInv w w3 seq (j + 1) M (w5.setCell ⟨w.heap.size + 1, 0, none⟩ v2)) := by
        intro v2 w5 ho hg hat
        have hvo : ∀ g, v.ownBlock = some g → w3.heap.size ≤ g := fun g hg => (hown.lt g hg).1
        have hb5 : Below w3.heap.size W w5 := ((Below.refl _ _).alloc (by omega) _).grown hg (by simp; omega) hvo
        have hs3 := HS3.out
        have e1 := (hb5.cell (p := ⟨w.heap.size + 1, 0, none⟩) (by show w.heap.size + 1 < _; omega)).trans hc1
        have e2 := (hb5.frozen (p := ⟨w.heap.size + 1, 0, none⟩) (by show w.heap.size + 1 < _; omega)).trans hf1
        have hv2 : ∀ g, v2.ownBlock = some g → ¬ M g := fun g hg hm => by
          rcases hat with h | h
          · exact hvM g (h ▸ hg) hm
          · rw [h] at hg
            injection hg with hg
            have := (hM g hm).2
            omega
        have ho2 : (w5.setCell ⟨w.heap.size + 1, 0, none⟩ v2).ownsRow w3.heap.size 9 1 v2 (ys.length + 1) (ys.map Value.string ++ [.string vt]) := owns_same ho (fun g hg => Below.heap_setCell _ _ _ _ (by have := (ho.lt g hg).1; show g ≠ w.heap.size + 1; omega))
        refine ⟨e1, e2, ((ApartI.of_below ((Below.refl _ _).alloc (Nat.le_refl _) _)).trans (ApartI.grownV hg (fun g hg => ⟨by have := hvo g hg; omega, hvM g hg⟩))).trans (ApartI.setCell _ _ _ (by show _ ≤ w.heap.size + 1; omega) hnM), HNEXT.out v2 _ (World.cell?_setCell_same' _ _ _ (by rw [e1]; rfl)) (by rw [World.frozen?_setCell]; exact e2) ?_ hv2 ((hBW.trans (hb5.mono (by omega))).setCell (by show _ ≤ w.heap.size + 1; omega) _)⟩
        rw [List.length_append, List.map_append]
        exact ho2
      clear hown hvM hBW hnM hM hnv hjm hsW hws HNEXT hD1
      generalize ys.length = m at *
      subst hkv
      gi_wp2_with (gi_at_builtin; refine wpListIn_append_own_at _ rfl _ _ 45 rfl w3.heap.size 9 i0 (.string ⟨#[]⟩) 1 16 Tryz.underlying45 HI0.out hz0 hz1 hz2 rfl (by decide) _ _ _ rfl (HOWN.out.alloc _) ⟨W.heap.size, 0, none⟩ 1 1 [.string vt] rfl rfl HD1.out HD2.out HD3.out HD4.out HD5.out ?_)
      intro v2 w5 hown5 hgrow5 _ hat5
      obtain ⟨r1, r2, hfin⟩ := HFIN.out v2 w5 hown5 hgrow5 hat5
      have HF := Lib.hid hfin
      obtain ⟨g2, c2, rfl⟩ := ownsRow_succ hown5
      clear hfin hown5 hgrow5 hat5 hc1 hf1 x0 x1 x2 x3
      gi_wp2
      exact HF.out
    · have hnv : nodeVarsE vk vt = [] := by unfold nodeVarsE; rw [if_neg hkv]
      rw [hnv, List.append_nil] at HNEXT
      have h2 : (vk == 2) = false := by simpa using hkv
      have HF : Hid (VarsInv w w3 seq (j + 1) M W) := HNEXT.out v W hc1 hf1 hown hvM hBW
      clear hown hvM hBW hnM hM hnv hjm hsW hws HNEXT hkv
      gi_wp2
      exact ⟨ApartI.refl _ _ _, HF.out⟩
  case done =>
    rintro D M W hD ⟨v, hc1, hf1, hown, hvM, hBW⟩ hMD hK
    have hxl : xs.length ≤ 1048577 := by have h1 := take_varsE_len seq seq.length; rw [List.take_length, hall] at h1; have := HC.out; omega
    rw [List.take_length, hall] at hown
    have HB := Lib.hid hBW
    have HK := Lib.hid hK
    have hDl : D < W.heap.size := (Array.getElem?_eq_some_iff.1 hK).1
    have HO : Hid (∀ e W2, OutT W (sorted xs) e W2 → W2.heap[D]? = some (.deferred (some [])) ∧ OutT w (sorted xs) e (W2.putObj D (.deferred none))) := by
      intro e W2 h
      rcases h with ⟨g, c, rest, h1, h2, h3, h4⟩ | ⟨h1, h2, h4⟩
      · refine ⟨(h4.block D hDl).trans hK, .inl ⟨g, c, rest, by have := hBW.size; omega, h2, ?_, (hBW.trans (h4.mono hBW.size)).trans (Below.putObj' _ D (by have := HS3.out; omega) _)⟩⟩
        unfold Block
        rw [World.putObj_heap_other (by omega)]
        exact h3
      · exact ⟨(h4.block D hDl).trans hK, .inr ⟨h1, h2, (hBW.trans (h4.mono hBW.size)).trans (Below.putObj' _ D (by have := HS3.out; omega) _)⟩⟩
    rcases hown.2 with ⟨rfl, e2⟩ | ⟨g, cp, cur, rfl, _⟩
    · have e3 : xs = [] := List.eq_nil_of_length_eq_zero e2
      have HE : Hid (sorted xs = []) := by unfold Hid; rw [e3]; exact List.eq_nil_of_length_eq_zero (by have := sorted_length_le ([] : List ByteArray); simpa using this)
      clear hown hvM hBW hseq hall hlen hK
      gi_wp2_with fail
      refine ⟨trivial, ?_⟩
      gi_at_call 68
      refine (callsIn_wide.2 (impl_sort_nil W)).mono ?_
      rintro e W2 ⟨rfl, rfl⟩
      obtain ⟨hK2, hO2⟩ := HO.out (.returned (.slice none 0 0)) W2 (.inr ⟨HE.out, rfl, Below.refl _ _⟩)
      have HO2 := Lib.hid hO2
      clear hO2
      gi_wp2
      refine ⟨by simp, .inl ⟨_, _, rfl, run_takeDeferred hK2, ?_⟩⟩
      refine ⟨.slice none 0 0, ?_, HO2.out⟩
      simp [results, Tryz.f42, go_sem]
    · have hown' := hown
      obtain ⟨g2, cap2, rest, hv2, hg2, hblk, _⟩ := block_of_owned hown (by simp)
      cases hv2
      have hsort := impl_sort_big W g cp xs hblk.reads hxl
      clear hown hown' hvM hBW hseq hall hlen hK hblk
      gi_wp2_with fail
      refine ⟨trivial, ?_⟩
      gi_at_call 68
      refine (callsIn_wide.2 hsort).mono ?_
      rintro e W2 hout
      obtain ⟨hK2, hO2⟩ := HO.out e W2 (.inl hout)
      obtain ⟨g3, c3, rest3, _, rfl, _, _⟩ := hout
      have HO2 := Lib.hid hO2
      clear hO2
      gi_wp2
      refine ⟨by simp, .inl ⟨_, _, rfl, run_takeDeferred hK2, ?_⟩⟩
      refine ⟨.slice (some ⟨g3, 0, none⟩) (sorted xs).length c3, ?_, HO2.out⟩
      simp [results, Tryz.f42, go_sem]
  case stop =>
    rintro D c W _ h _
    exact h.elim
end Go.Proofs.YtijbaienhaiamaaGreatDoor.Ex
end

/- What is proved here: the value of an expression depends only on the bindings of its variables (pure). No condition. -/
section
namespace Go.Proofs.YtijbaienhaiamaaGreatDoor.Ex
open Go.RowKit

theorem varV_filter (keep : ByteArray → Bool) (t : ByteArray) (h : keep t = true) : ∀ env : List BindD, varV (env.filter fun x => keep x.nm) t = varV env t
  | [] => rfl
  | x :: r => by
    have ih := varV_filter keep t h r
    by_cases hx : (x.nm.toList == t.toList) = true
    · have e : x.nm = t := by
        have h1 : x.nm.toList = t.toList := by simpa using hx
        rw [ByteArray.toList_eq, ByteArray.toList_eq] at h1
        exact ByteArray.ext (Array.toList_inj.1 h1)
      have hk : keep x.nm = true := by rw [e]; exact h
      rw [List.filter_cons, if_pos hk]
      simp only [varV, if_pos hx]
    · have h1 : varV (x :: r) t = varV r t := by
        show (if (x.nm.toList == t.toList) = true then _ else _) = _
        rw [if_neg hx]
      rw [h1, List.filter_cons]
      split
      · show (if (x.nm.toList == t.toList) = true then _ else _) = _
        rw [if_neg hx]; exact ih
      · exact ih
theorem node_filter (keep : ByteArray → Bool) (env : List BindD) (k n : Int) (t : ByteArray) (vs : List Int) (h : ∀ x ∈ nodeVarsE k t, keep x = true) : nodeI (env.filter fun x => keep x.nm) k n t vs = nodeI env k n t vs := by
  unfold nodeI
  by_cases h2 : k = 2
  · have := varV_filter keep t (h t (by unfold nodeVarsE; rw [if_pos h2]; exact List.mem_singleton.2 rfl)) env
    rw [this]
  · rw [if_neg h2, if_neg h2]
theorem vals_filter (keep : ByteArray → Bool) (env : List BindD) (F : Trees) (h : ∀ x ∈ F.varsE, keep x = true) : F.vals (env.filter fun x => keep x.nm) = F.vals env := by
  induction F with
  | nil => rfl
  | cons k n t ar r ih1 ih2 =>
    simp only [Trees.varsE, List.mem_append] at h
    simp only [Trees.vals]
    rw [ih1 (fun x hx => h x (by simp [hx])), ih2 (fun x hx => h x (by simp [hx])), node_filter keep env k n t _ (fun x hx => h x (by simp [hx]))]
theorem exprV_filter (keep : ByteArray → Bool) (env : List BindD) (k n : Int) (t : ByteArray) (F : Trees) (h : ∀ x ∈ nodeVarsE k t ++ F.varsE, keep x = true) : exprV (env.filter fun x => keep x.nm) k n t F = exprV env k n t F := by
  unfold exprV
  rw [vals_filter keep env F (fun x hx => h x (List.mem_append_right _ hx)), node_filter keep env k n t _ (fun x hx => h x (List.mem_append_left _ hx))]
end Go.Proofs.YtijbaienhaiamaaGreatDoor.Ex
end
