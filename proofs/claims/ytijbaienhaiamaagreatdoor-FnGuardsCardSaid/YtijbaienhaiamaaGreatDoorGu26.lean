/- What is proved here: a piece of the proof of YtijbaienhaiamaaGreatDoorGuards (SpecSort, Told). Condition: none beyond what each part says. -/
import Derived.Test.YtijbaienhaiamaaGreatDoorGu24
import Derived.Sort.Walk0

/- What is proved here: the model's SortNames (package spec) gives the texts sorted, each once, in a block of its own. Condition: at most 1048576 texts. -/
section
namespace Go.Proofs.YtijbaienhaiamaaGreatDoor
open Go.RowKit

theorem sortOf_len {xs ys : List ByteArray} (h : SortOf xs ys) : ys.length ≤ xs.length := nodup_length ys xs (rising_nodup h.1) (fun x hx => (h.2 x).1 hx)
theorem sortOf_dup {xs ys : List ByteArray} {k : Nat} (hk : k < xs.length) (h : SortOf (xs.take k) ys) (hd : xs[k] ∈ ys) : SortOf (xs.take (k + 1)) ys := by
  refine ⟨h.1, fun x => ?_⟩
  rw [h.2, List.take_succ_eq_append_getElem hk, List.mem_append, List.mem_singleton]
  constructor
  · exact .inl
  · rintro (h1 | h1)
    · exact h1
    · rw [h1]; exact (h.2 _).1 hd
theorem sortOf_ins {xs ys : List ByteArray} {k a : Nat} (hk : k < xs.length) (h : SortOf (xs.take k) ys) (ha : a ≤ ys.length) (hb : ∀ j (hj : j < ys.length), j < a → key ys[j] < key xs[k]) (hn : ∀ hl : a < ys.length, ¬ key ys[a] < key xs[k] ∧ ys[a] ≠ xs[k]) :
    SortOf (xs.take (k + 1)) (ys.take a ++ [xs[k]] ++ ys.drop a) := by
  refine ⟨insert_rising h.1 ha hb hn, fun x => ?_⟩
  rw [insert_mem, h.2, List.take_succ_eq_append_getElem hk, List.mem_append, List.mem_singleton]
theorem owns_mono {w : World} {B M n : Nat} {T : TypeId} {v : Value} {l : List Value} (h : w.ownsRow M T 1 v n l) (hb : B ≤ M) : w.ownsRow B T 1 v n l := by
  refine ⟨h.1, h.2.imp id ?_⟩
  rintro ⟨g, cap, cur, hv, hg, r⟩
  exact ⟨g, cap, cur, hv, Nat.le_trans hb hg, r⟩
theorem owned_cell {w : World} {B n c g : Nat} {T : TypeId} {ys : List ByteArray} (h : w.ownsRow B T 1 (.slice (some ⟨g, 0, none⟩) n c) n (ys.map Value.string)) (j : Nat) (hj : j < ys.length) : w.cell? ⟨g, j, none⟩ = some (.string ys[j]) := by
  have hn : ys.length = n := by simpa using h.1
  rw [h.cellAt j (by omega)]
  simp [hj]
theorem owned_facts {w : World} {B n c g : Nat} {T : TypeId} {l : List Value} (h : w.ownsRow B T 1 (.slice (some ⟨g, 0, none⟩) n c) n l) : B ≤ g ∧ g < w.heap.size ∧ n ≤ c ∧ c ≤ maxLen := by
  rcases h.2 with ⟨h1, _⟩ | ⟨g', cap, cur, hv, hb, hg, h1, h2, _⟩
  · cases h1
  · cases hv
    refine ⟨hb, ?_, h1, h2⟩
    rcases Nat.lt_or_ge g w.heap.size with h | h
    · exact h
    · rw [Array.getElem?_eq_none h] at hg
      cases hg

theorem less_key (a b : ByteArray) : Op.bytesLess a.toList b.toList = decide (key a < key b) := by
  rw [ByteArray.toList_eq, ByteArray.toList_eq]
  exact bytesLess_eq _ _
theorem owned_shape {w : World} {B n : Nat} {T : TypeId} {v : Value} {l : List Value} (h : w.ownsRow B T 1 v n l) (hv : v ≠ .slice none 0 0) : ∃ g cap, v = .slice (some ⟨g, 0, none⟩) n cap := by
  rcases h.2 with ⟨h1, _⟩ | ⟨g, cap, cur, h1, _⟩
  · exact absurd h1 hv
  · exact ⟨g, cap, h1⟩

set_option maxHeartbeats 4000000 in
set_option maxRecDepth 100000 in
theorem spec_sort_big (w : World) (a : Option Addr) (cap : Nat) (xs : List ByteArray) (hx : Reads w a xs) (hm : xs.length ≤ 1048577) :
    Calls Tryz.prog 75 #[.slice a xs.length cap] w fun e w' => ∃ ys, SortOf xs ys ∧ OutTexts w ys e w' := by
  have hi : (Tryz.prog.info? 9).map (fun i => (i.zero, i.size, i.bytes)) = some (some (.string ⟨#[]⟩), 1, 16) := by kernel_rfl
  obtain ⟨i0, hi, hz0, hz1, hz2⟩ := info_parts hi
  have HX := Lib.hid hx
  clear hx
  generalize hn : xs.length = n at *
  have HN := Lib.hid hn
  clear hn
  go_enter Tryz.func75, Tryz.ntmps75
  go_wp2
  go_loopw [3, 4] (fun v i wr => ∃ (k g c : Nat) (ys : List ByteArray), k ≤ n ∧ i = .int .i64 k ∧ v = .slice (some ⟨g, 0, none⟩) ys.length c ∧ SortOf (xs.take k) ys ∧ wr.ownsRow w.heap.size 9 1 (.slice (some ⟨g, 0, none⟩) ys.length c) ys.length (ys.map Value.string) ∧ Below w.heap.size w wr) (fun _ i _ => n - (intOf i).toNat)
  case atStart =>
    refine ⟨0, w.heap.size, 0, [], Nat.zero_le _, rfl, rfl, ⟨List.Pairwise.nil, by simp⟩, ?_, (Below.refl _ _).alloc (Nat.le_refl _) _⟩
    exact World.ownsRow_lit w #[] 0 (Nat.le_refl _) (by unfold maxLen; omega) rfl
  case round =>
    obtain ⟨k, g, c, ys, hk, rfl, rfl, hS, hown, hB⟩ := hrel
    by_cases hlt : k < n
    · have hk' : k < xs.length := by rw [HN.out]; exact hlt
      obtain ⟨y0, rfl, hcx⟩ := reads_below HX.out hB k hk'
      obtain ⟨x, hxe⟩ : ∃ x, xs[k] = x := ⟨_, rfl⟩
      rw [hxe] at hcx
      have HXE := Lib.hid hxe
      have HS := Lib.hid hS
      have HO := Lib.hid hown
      have hyl := sortOf_len hS
      have hyl2 : ys.length ≤ k := by rw [List.length_take] at hyl; omega
      clear hxe hS hown hyl
      go_wp2
      go_loopw [5] (fun t w2 => ∃ (p q : Nat), p ≤ ys.length ∧ t = .int .i64 p ∧ w2 = wr.drewN q ∧ ∀ j (h : j < ys.length), j < p → key ys[j] < key x) (fun t _ => ys.length - (intOf t).toNat)
      case atStart => exact ⟨0, 0, Nat.zero_le _, rfl, rfl, fun j _ h => by omega⟩
      case round =>
        obtain ⟨p, q, hp, rfl, rfl, hless⟩ := hrel
        have HL := Lib.hid hless
        clear hless
        by_cases hpl : p < ys.length
        · have hcy := owned_cell HO.out p hpl
          obtain ⟨y, hye⟩ : ∃ y, ys[p] = y := ⟨_, rfl⟩
          rw [hye] at hcy
          have HYE := Lib.hid hye
          clear hye
          by_cases hyx : key y < key x
          · have h1 : Op.bytesLess y.toList x.toList = true := by rw [less_key]; exact decide_eq_true hyx
            have HYX := Lib.hid hyx
            clear hyx
            go_wp2
            go_quiet (fail)
            go_wp2
            go_roundw
            case rel =>
              refine ⟨p + 1, _, by omega, by go_num, rfl, fun j hj h => ?_⟩
              rcases Nat.lt_or_ge j p with h3 | h3
              · exact HL.out j hj h3
              · obtain rfl : j = p := by omega
                rw [HYE.out]
                exact HYX.out
            case measure => simp [intOf]; omega
          · have h1 : Op.bytesLess y.toList x.toList = false := by rw [less_key]; exact decide_eq_false hyx
            by_cases hex : y = x
            · subst hex
              have h2 : (y.toList == y.toList) = true := by simp
              have hd : SortOf (xs.take (k + 1)) ys := sortOf_dup hk' HS.out (by rw [HXE.out, ← HYE.out]; exact List.getElem_mem hpl)
              have HD := Lib.hid hd
              clear hd hyx
              go_wp2
              go_quiet (fail)
              go_wp2
              go_quiet (fail)
              go_wp2
              go_roundw
              case rel => exact ⟨k + 1, g, c, ys, by omega, by go_num, rfl, HD.out, HO.out, below_drewN hB _⟩
              case measure => simp [intOf]; omega
            · have h2 : (y.toList == x.toList) = false := (Lib.bytes_beq_false_iff _ _).2 hex
              have HINS : Hid (SortOf (xs.take (k + 1)) (ys.take p ++ [xs[k]] ++ ys.drop p)) :=
                sortOf_ins hk' HS.out hp (fun j hj h => by rw [HXE.out]; exact HL.out j hj h) (fun hl => by rw [HYE.out, HXE.out]; exact ⟨hyx, hex⟩)
              clear hyx hex
              go_wp2
              go_quiet (fail)
              go_wp2
              obtain ⟨q1, hq1⟩ : ∃ q1, (wr.drewN q).drewN nq = wr.drewN q1 := ⟨_, World.drewN_drewN _ _ _⟩
              rw [hq1]
              clear hq1
              go_quiet (fail)
              clear hcy
              obtain ⟨q2, hq2⟩ : ∃ q2, (wr.drewN q1).drewN nq = wr.drewN q2 := ⟨_, World.drewN_drewN _ _ _⟩
              rw [hq2]
              clear hq2
              have hOW : (wr.drewN q2).ownsRow w.heap.size 9 1 (.slice (some ⟨g, 0, none⟩) ys.length c) ys.length (ys.map Value.string) := HO.out
              have hcxW : (wr.drewN q2).cell? (y0.add k) = some (.string x) := hcx
              have hBW : Below w.heap.size w (wr.drewN q2) := below_drewN hB q2
              clear hcx hB
              generalize wr.drewN q2 = W at hOW hcxW hBW ⊢
              have hltx := World.block_lt_of_cell? W _ hcxW
              obtain ⟨_, hgW, hycW, hcW⟩ := owned_facts hOW
              unfold maxLen at hcW
              have hcells := owned_cell hOW
              have HC := Lib.hid hcells
              clear hcells hOW
              have hlit := World.ownsRow_lit (base := W.heap.size) (e := 9) (size := 1) W #[] 0 (Nat.le_refl _) (by unfold maxLen; omega) rfl
              have hltk : (ys.take p).length = p := by rw [List.length_take]; omega
              have k0 : ((ys.take p).map Value.string).length = p * 1 := by rw [List.length_map, hltk, Nat.mul_one]
              have k1 : ∀ j u, ((ys.take p).map Value.string)[j]? = some u → (W.alloc (.cells #[] 9)).cell? ((⟨g, 0, none⟩ : Addr).add j) = some u := by
                intro j u hj
                obtain ⟨hj1, hj2⟩ := List.getElem?_eq_some_iff.1 hj
                rw [List.length_map, hltk] at hj1
                have e1 : (⟨g, 0, none⟩ : Addr).add j = ⟨g, j, none⟩ := by simp [Addr.add]; intro h; omega
                rw [e1, ← hj2, List.getElem_map, List.getElem_take, ← HC.out j (by omega)]
                exact ((Below.refl W.heap.size W).alloc (Nat.le_refl _) _).cell (p := ⟨g, j, none⟩) hgW
              have k2 : ∀ u ∈ (ys.take p).map Value.string, u.oneCell' = true := by intro u hu; obtain ⟨_, _, rfl⟩ := List.mem_map.1 hu; rfl
              have K0 := Lib.hid k0
              have K1 := Lib.hid k1
              have K2 := Lib.hid k2
              clear k0 k1 k2
              go_wp2_with (at_builtin; refine wpList_append_own _ rfl _ _ 45 rfl W.heap.size 9 i0 (.string ⟨#[]⟩) 1 16 Tryz.underlying45 hi hz0 hz1 hz2 rfl (by decide) _ _ _ rfl hlit ⟨g, 0, none⟩ p _ ((ys.take p).map Value.string) rfl K0.out K1.out K2.out (by unfold maxLen; omega) (by omega) (by simp) ?_)
              intro v1 w1 hown1 hg1 hnil1
              have hB1 : Below W.heap.size W w1 := ((Below.refl _ _).alloc (Nat.le_refl _) _).grown hg1 (by simp) (fun j hj => (hlit.lt j hj).1)
              have hv1 : v1 ≠ .slice none 0 0 := hnil1
              have hown1' : w1.ownsRow W.heap.size 9 1 v1 p ((ys.take p).map Value.string) := by simpa using hown1
              have hcx1 : w1.cell? (y0.add k) = some (.string x) := by rw [hB1.cell (p := y0.add k) hltx]; exact hcxW
              clear hown1 hg1 hnil1 hlit hcxW
              go_wp2_with (at_builtin; refine wpList_append_own _ rfl _ _ 45 rfl W.heap.size 9 i0 (.string ⟨#[]⟩) 1 16 Tryz.underlying45 hi hz0 hz1 hz2 rfl (by decide) _ _ _ rfl (hown1'.alloc _) ⟨w1.heap.size, 0, none⟩ 1 1 [.string x] rfl rfl ?d1 ?d2 ?d3 ?d4 ?d5 ?_)
              case d1 =>
                intro j u hj
                match j, hj with
                | 0, hj => simp at hj; subst hj; simp [Addr.add, World.cell?_alloc_new]
              case d2 => intro u hu; simp at hu; subst hu; rfl
              case d3 => unfold maxLen; omega
              case d4 => omega
              case d5 => have := hB1.size; simp; omega
              intro v2 w2 hown2 hg2 hnil2
              have hB2 : Below W.heap.size W w2 := (hB1.alloc (by have := hB1.size; omega) _).grown hg2 (by have := hB1.size; simp; omega) (fun j hj => (hown1'.lt j hj).1)
              have hv2 : v2 ≠ .slice none 0 0 := hnil2
              have HC2 : Hid (∀ j (hj : j < ys.length), w2.cell? ⟨g, j, none⟩ = some (.string ys[j])) := fun j hj => by rw [hB2.cell (p := ⟨g, j, none⟩) hgW]; exact HC.out j hj
              clear hown1' hg2 hnil2 hv1 hcx1
              have k0 : ((ys.drop p).map Value.string).length = (ys.length - p) * 1 := by rw [List.length_map, List.length_drop, Nat.mul_one]
              have k1 : ∀ j u, ((ys.drop p).map Value.string)[j]? = some u → w2.cell? ((⟨g, p, none⟩ : Addr).add j) = some u := by
                intro j u hj
                obtain ⟨hj1, hj2⟩ := List.getElem?_eq_some_iff.1 hj
                rw [List.length_map, List.length_drop] at hj1
                have e1 : (⟨g, p, none⟩ : Addr).add j = ⟨g, p + j, none⟩ := by simp [Addr.add] <;> omega
                rw [e1, ← hj2, List.getElem_map, List.getElem_drop, ← HC2.out (p + j) (by omega)]
              have k2 : ∀ u ∈ (ys.drop p).map Value.string, u.oneCell' = true := by intro u hu; obtain ⟨_, _, rfl⟩ := List.mem_map.1 hu; rfl
              have K0 := Lib.hid k0
              have K1 := Lib.hid k1
              have K2 := Lib.hid k2
              clear k0 k1 k2
              go_wp2_with (at_builtin; refine wpList_append_own _ rfl _ _ 45 rfl W.heap.size 9 i0 (.string ⟨#[]⟩) 1 16 Tryz.underlying45 hi hz0 hz1 hz2 rfl (by decide) _ _ _ rfl hown2 ⟨g, p, none⟩ (ys.length - p) _ ((ys.drop p).map Value.string) rfl K0.out K1.out K2.out (by unfold maxLen; omega) (by omega) (by have := hB2.size; omega) ?_)
              intro v3 w3 hown3 hg3 hnil3
              have hB3 : Below W.heap.size W w3 := hB2.grown hg3 (by have := hB2.size; omega) (fun j hj => (hown2.lt j hj).1)
              have hv3 : v3 ≠ .slice none 0 0 := by first | exact hnil3 | exact fun h => hv2 (hnil3.1 h).1 | exact fun h => hv2 (hnil3 h).1
              obtain ⟨zs, hzs⟩ : ∃ zs, ys.take p ++ [x] ++ ys.drop p = zs := ⟨_, rfl⟩
              have hzl : zs.length = ys.length + 1 := by rw [← hzs]; exact insert_length ys x p
              have hown4 : w3.ownsRow W.heap.size 9 1 v3 zs.length (zs.map Value.string) := by
                have e1 : p + 1 + (ys.length - p) = zs.length := by omega
                have e2 : (ys.map Value.string).take p ++ Value.string x :: (ys.map Value.string).drop p = zs.map Value.string := by rw [← hzs]; simp
                rw [e1, e2] at hown3
                exact hown3
              obtain ⟨g3, c3, rfl⟩ := owned_shape hown4 hv3
              have hown5 := owns_mono hown4 hBW.size
              have hB5 : Below w.heap.size w w3 := hBW.trans (hB3.mono hBW.size)
              have HI2 : Hid (SortOf (xs.take (k + 1)) zs) := by
                unfold Hid
                rw [← hzs, ← HXE.out]
                exact HINS.out
              clear hown2 hown3 hown4 hg3 hnil3 hv2 hv3 hB1 hB2 hB3 hzs
              go_wp2
              go_roundw
              case rel => exact ⟨k + 1, g3, c3, zs, by omega, by go_num, rfl, HI2.out, hown5, hB5⟩
              case measure => simp [intOf]; omega
        · have HINS : Hid (SortOf (xs.take (k + 1)) (ys.take p ++ [xs[k]] ++ ys.drop p)) :=
            sortOf_ins hk' HS.out hp (fun j hj h => by rw [HXE.out]; exact HL.out j hj h) (fun hl => absurd hl hpl)
          by_cases hcp : c = p
          · go_wp2
            go_quiet (fail)
            go_wp2
            obtain ⟨q1, hq1⟩ : ∃ q1, (wr.drewN q).drewN nq = wr.drewN q1 := ⟨_, World.drewN_drewN _ _ _⟩
            rw [hq1]
            clear hq1
            go_quiet (fail)
            obtain ⟨q2, hq2⟩ : ∃ q2, (wr.drewN q1).drewN nq = wr.drewN q2 := ⟨_, World.drewN_drewN _ _ _⟩
            rw [hq2]
            clear hq2
            have hOW : (wr.drewN q2).ownsRow w.heap.size 9 1 (.slice (some ⟨g, 0, none⟩) ys.length c) ys.length (ys.map Value.string) := HO.out
            have hcxW : (wr.drewN q2).cell? (y0.add k) = some (.string x) := hcx
            have hBW : Below w.heap.size w (wr.drewN q2) := below_drewN hB q2
            clear hcx hB
            generalize wr.drewN q2 = W at hOW hcxW hBW ⊢
            have hltx := World.block_lt_of_cell? W _ hcxW
            obtain ⟨_, hgW, hycW, hcW⟩ := owned_facts hOW
            unfold maxLen at hcW
            have hcells := owned_cell hOW
            have HC := Lib.hid hcells
            clear hcells hOW
            have hlit := World.ownsRow_lit (base := W.heap.size) (e := 9) (size := 1) W #[] 0 (Nat.le_refl _) (by unfold maxLen; omega) rfl
            have hltk : (ys.take p).length = p := by rw [List.length_take]; omega
            have k0 : ((ys.take p).map Value.string).length = p * 1 := by rw [List.length_map, hltk, Nat.mul_one]
            have k1 : ∀ j u, ((ys.take p).map Value.string)[j]? = some u → (W.alloc (.cells #[] 9)).cell? ((⟨g, 0, none⟩ : Addr).add j) = some u := by
              intro j u hj
              obtain ⟨hj1, hj2⟩ := List.getElem?_eq_some_iff.1 hj
              rw [List.length_map, hltk] at hj1
              have e1 : (⟨g, 0, none⟩ : Addr).add j = ⟨g, j, none⟩ := by simp [Addr.add]; intro h; omega
              rw [e1, ← hj2, List.getElem_map, List.getElem_take, ← HC.out j (by omega)]
              exact ((Below.refl W.heap.size W).alloc (Nat.le_refl _) _).cell (p := ⟨g, j, none⟩) hgW
            have k2 : ∀ u ∈ (ys.take p).map Value.string, u.oneCell' = true := by intro u hu; obtain ⟨_, _, rfl⟩ := List.mem_map.1 hu; rfl
            have K0 := Lib.hid k0
            have K1 := Lib.hid k1
            have K2 := Lib.hid k2
            clear k0 k1 k2
            go_wp2_with (at_builtin; refine wpList_append_own _ rfl _ _ 45 rfl W.heap.size 9 i0 (.string ⟨#[]⟩) 1 16 Tryz.underlying45 hi hz0 hz1 hz2 rfl (by decide) _ _ _ rfl hlit ⟨g, 0, none⟩ p _ ((ys.take p).map Value.string) rfl K0.out K1.out K2.out (by unfold maxLen; omega) (by omega) (by simp) ?_)
            intro v1 w1 hown1 hg1 hnil1
            have hB1 : Below W.heap.size W w1 := ((Below.refl _ _).alloc (Nat.le_refl _) _).grown hg1 (by simp) (fun j hj => (hlit.lt j hj).1)
            have hv1 : v1 ≠ .slice none 0 0 := hnil1
            have hown1' : w1.ownsRow W.heap.size 9 1 v1 p ((ys.take p).map Value.string) := by simpa using hown1
            have hcx1 : w1.cell? (y0.add k) = some (.string x) := by rw [hB1.cell (p := y0.add k) hltx]; exact hcxW
            clear hown1 hg1 hnil1 hlit hcxW
            go_wp2_with (at_builtin; refine wpList_append_own _ rfl _ _ 45 rfl W.heap.size 9 i0 (.string ⟨#[]⟩) 1 16 Tryz.underlying45 hi hz0 hz1 hz2 rfl (by decide) _ _ _ rfl (hown1'.alloc _) ⟨w1.heap.size, 0, none⟩ 1 1 [.string x] rfl rfl ?d1 ?d2 ?d3 ?d4 ?d5 ?_)
            case d1 =>
              intro j u hj
              match j, hj with
              | 0, hj => simp at hj; subst hj; simp [Addr.add, World.cell?_alloc_new]
            case d2 => intro u hu; simp at hu; subst hu; rfl
            case d3 => unfold maxLen; omega
            case d4 => omega
            case d5 => have := hB1.size; simp; omega
            intro v2 w2 hown2 hg2 hnil2
            have hB2 : Below W.heap.size W w2 := (hB1.alloc (by have := hB1.size; omega) _).grown hg2 (by have := hB1.size; simp; omega) (fun j hj => (hown1'.lt j hj).1)
            have hv2 : v2 ≠ .slice none 0 0 := hnil2
            have HC2 : Hid (∀ j (hj : j < ys.length), w2.cell? ⟨g, j, none⟩ = some (.string ys[j])) := fun j hj => by rw [hB2.cell (p := ⟨g, j, none⟩) hgW]; exact HC.out j hj
            clear hown1' hg2 hnil2 hv1 hcx1
            have k0 : ((ys.drop p).map Value.string).length = (ys.length - p) * 1 := by rw [List.length_map, List.length_drop, Nat.mul_one]
            have k1 : ∀ j u, ((ys.drop p).map Value.string)[j]? = some u → w2.cell? ((⟨g, 0, none⟩ : Addr).add j) = some u := by
              intro j u hj
              obtain ⟨hj1, hj2⟩ := List.getElem?_eq_some_iff.1 hj
              rw [List.length_map, List.length_drop] at hj1
              omega
            have k2 : ∀ u ∈ (ys.drop p).map Value.string, u.oneCell' = true := by intro u hu; obtain ⟨_, _, rfl⟩ := List.mem_map.1 hu; rfl
            have K0 := Lib.hid k0
            have K1 := Lib.hid k1
            have K2 := Lib.hid k2
            clear k0 k1 k2
            go_wp2_with (at_builtin; refine wpList_append_own _ rfl _ _ 45 rfl W.heap.size 9 i0 (.string ⟨#[]⟩) 1 16 Tryz.underlying45 hi hz0 hz1 hz2 rfl (by decide) _ _ _ rfl hown2 ⟨g, 0, none⟩ (ys.length - p) _ ((ys.drop p).map Value.string) rfl K0.out K1.out K2.out (by unfold maxLen; omega) (by omega) (by have := hB2.size; omega) ?_)
            intro v3 w3 hown3 hg3 hnil3
            have hB3 : Below W.heap.size W w3 := hB2.grown hg3 (by have := hB2.size; omega) (fun j hj => (hown2.lt j hj).1)
            have hv3 : v3 ≠ .slice none 0 0 := by first | exact hnil3 | exact fun h => hv2 (hnil3.1 h).1 | exact fun h => hv2 (hnil3 h).1
            obtain ⟨zs, hzs⟩ : ∃ zs, ys.take p ++ [x] ++ ys.drop p = zs := ⟨_, rfl⟩
            have hzl : zs.length = ys.length + 1 := by rw [← hzs]; exact insert_length ys x p
            have hown4 : w3.ownsRow W.heap.size 9 1 v3 zs.length (zs.map Value.string) := by
              have e1 : p + 1 + (ys.length - p) = zs.length := by omega
              have e2 : (ys.map Value.string).take p ++ Value.string x :: (ys.map Value.string).drop p = zs.map Value.string := by rw [← hzs]; simp
              rw [e1, e2] at hown3
              exact hown3
            obtain ⟨g3, c3, rfl⟩ := owned_shape hown4 hv3
            have hown5 := owns_mono hown4 hBW.size
            have hB5 : Below w.heap.size w w3 := hBW.trans (hB3.mono hBW.size)
            have HI2 : Hid (SortOf (xs.take (k + 1)) zs) := by
              unfold Hid
              rw [← hzs, ← HXE.out]
              exact HINS.out
            clear hown2 hown3 hown4 hg3 hnil3 hv2 hv3 hB1 hB2 hB3 hzs
            go_wp2
            go_roundw
            case rel => exact ⟨k + 1, g3, c3, zs, by omega, by go_num, rfl, HI2.out, hown5, hB5⟩
            case measure => simp [intOf]; omega
          · go_wp2
            go_quiet (fail)
            go_wp2
            obtain ⟨q1, hq1⟩ : ∃ q1, (wr.drewN q).drewN nq = wr.drewN q1 := ⟨_, World.drewN_drewN _ _ _⟩
            rw [hq1]
            clear hq1
            go_quiet (fail)
            obtain ⟨q2, hq2⟩ : ∃ q2, (wr.drewN q1).drewN nq = wr.drewN q2 := ⟨_, World.drewN_drewN _ _ _⟩
            rw [hq2]
            clear hq2
            have hOW : (wr.drewN q2).ownsRow w.heap.size 9 1 (.slice (some ⟨g, 0, none⟩) ys.length c) ys.length (ys.map Value.string) := HO.out
            have hcxW : (wr.drewN q2).cell? (y0.add k) = some (.string x) := hcx
            have hBW : Below w.heap.size w (wr.drewN q2) := below_drewN hB q2
            clear hcx hB
            generalize wr.drewN q2 = W at hOW hcxW hBW ⊢
            have hltx := World.block_lt_of_cell? W _ hcxW
            obtain ⟨_, hgW, hycW, hcW⟩ := owned_facts hOW
            unfold maxLen at hcW
            have hcells := owned_cell hOW
            have HC := Lib.hid hcells
            clear hcells hOW
            have hlit := World.ownsRow_lit (base := W.heap.size) (e := 9) (size := 1) W #[] 0 (Nat.le_refl _) (by unfold maxLen; omega) rfl
            have hltk : (ys.take p).length = p := by rw [List.length_take]; omega
            have k0 : ((ys.take p).map Value.string).length = p * 1 := by rw [List.length_map, hltk, Nat.mul_one]
            have k1 : ∀ j u, ((ys.take p).map Value.string)[j]? = some u → (W.alloc (.cells #[] 9)).cell? ((⟨g, 0, none⟩ : Addr).add j) = some u := by
              intro j u hj
              obtain ⟨hj1, hj2⟩ := List.getElem?_eq_some_iff.1 hj
              rw [List.length_map, hltk] at hj1
              have e1 : (⟨g, 0, none⟩ : Addr).add j = ⟨g, j, none⟩ := by simp [Addr.add]; intro h; omega
              rw [e1, ← hj2, List.getElem_map, List.getElem_take, ← HC.out j (by omega)]
              exact ((Below.refl W.heap.size W).alloc (Nat.le_refl _) _).cell (p := ⟨g, j, none⟩) hgW
            have k2 : ∀ u ∈ (ys.take p).map Value.string, u.oneCell' = true := by intro u hu; obtain ⟨_, _, rfl⟩ := List.mem_map.1 hu; rfl
            have K0 := Lib.hid k0
            have K1 := Lib.hid k1
            have K2 := Lib.hid k2
            clear k0 k1 k2
            go_wp2_with (at_builtin; refine wpList_append_own _ rfl _ _ 45 rfl W.heap.size 9 i0 (.string ⟨#[]⟩) 1 16 Tryz.underlying45 hi hz0 hz1 hz2 rfl (by decide) _ _ _ rfl hlit ⟨g, 0, none⟩ p _ ((ys.take p).map Value.string) rfl K0.out K1.out K2.out (by unfold maxLen; omega) (by omega) (by simp) ?_)
            intro v1 w1 hown1 hg1 hnil1
            have hB1 : Below W.heap.size W w1 := ((Below.refl _ _).alloc (Nat.le_refl _) _).grown hg1 (by simp) (fun j hj => (hlit.lt j hj).1)
            have hv1 : v1 ≠ .slice none 0 0 := hnil1
            have hown1' : w1.ownsRow W.heap.size 9 1 v1 p ((ys.take p).map Value.string) := by simpa using hown1
            have hcx1 : w1.cell? (y0.add k) = some (.string x) := by rw [hB1.cell (p := y0.add k) hltx]; exact hcxW
            clear hown1 hg1 hnil1 hlit hcxW
            go_wp2_with (at_builtin; refine wpList_append_own _ rfl _ _ 45 rfl W.heap.size 9 i0 (.string ⟨#[]⟩) 1 16 Tryz.underlying45 hi hz0 hz1 hz2 rfl (by decide) _ _ _ rfl (hown1'.alloc _) ⟨w1.heap.size, 0, none⟩ 1 1 [.string x] rfl rfl ?d1 ?d2 ?d3 ?d4 ?d5 ?_)
            case d1 =>
              intro j u hj
              match j, hj with
              | 0, hj => simp at hj; subst hj; simp [Addr.add, World.cell?_alloc_new]
            case d2 => intro u hu; simp at hu; subst hu; rfl
            case d3 => unfold maxLen; omega
            case d4 => omega
            case d5 => have := hB1.size; simp; omega
            intro v2 w2 hown2 hg2 hnil2
            have hB2 : Below W.heap.size W w2 := (hB1.alloc (by have := hB1.size; omega) _).grown hg2 (by have := hB1.size; simp; omega) (fun j hj => (hown1'.lt j hj).1)
            have hv2 : v2 ≠ .slice none 0 0 := hnil2
            have HC2 : Hid (∀ j (hj : j < ys.length), w2.cell? ⟨g, j, none⟩ = some (.string ys[j])) := fun j hj => by rw [hB2.cell (p := ⟨g, j, none⟩) hgW]; exact HC.out j hj
            clear hown1' hg2 hnil2 hv1 hcx1
            have k0 : ((ys.drop p).map Value.string).length = (ys.length - p) * 1 := by rw [List.length_map, List.length_drop, Nat.mul_one]
            have k1 : ∀ j u, ((ys.drop p).map Value.string)[j]? = some u → w2.cell? ((⟨g, p, none⟩ : Addr).add j) = some u := by
              intro j u hj
              obtain ⟨hj1, hj2⟩ := List.getElem?_eq_some_iff.1 hj
              rw [List.length_map, List.length_drop] at hj1
              have e1 : (⟨g, p, none⟩ : Addr).add j = ⟨g, p + j, none⟩ := by simp [Addr.add] <;> omega
              rw [e1, ← hj2, List.getElem_map, List.getElem_drop, ← HC2.out (p + j) (by omega)]
            have k2 : ∀ u ∈ (ys.drop p).map Value.string, u.oneCell' = true := by intro u hu; obtain ⟨_, _, rfl⟩ := List.mem_map.1 hu; rfl
            have K0 := Lib.hid k0
            have K1 := Lib.hid k1
            have K2 := Lib.hid k2
            clear k0 k1 k2
            go_wp2_with (at_builtin; refine wpList_append_own _ rfl _ _ 45 rfl W.heap.size 9 i0 (.string ⟨#[]⟩) 1 16 Tryz.underlying45 hi hz0 hz1 hz2 rfl (by decide) _ _ _ rfl hown2 ⟨g, p, none⟩ (ys.length - p) _ ((ys.drop p).map Value.string) rfl K0.out K1.out K2.out (by unfold maxLen; omega) (by omega) (by have := hB2.size; omega) ?_)
            intro v3 w3 hown3 hg3 hnil3
            have hB3 : Below W.heap.size W w3 := hB2.grown hg3 (by have := hB2.size; omega) (fun j hj => (hown2.lt j hj).1)
            have hv3 : v3 ≠ .slice none 0 0 := by first | exact hnil3 | exact fun h => hv2 (hnil3.1 h).1 | exact fun h => hv2 (hnil3 h).1
            obtain ⟨zs, hzs⟩ : ∃ zs, ys.take p ++ [x] ++ ys.drop p = zs := ⟨_, rfl⟩
            have hzl : zs.length = ys.length + 1 := by rw [← hzs]; exact insert_length ys x p
            have hown4 : w3.ownsRow W.heap.size 9 1 v3 zs.length (zs.map Value.string) := by
              have e1 : p + 1 + (ys.length - p) = zs.length := by omega
              have e2 : (ys.map Value.string).take p ++ Value.string x :: (ys.map Value.string).drop p = zs.map Value.string := by rw [← hzs]; simp
              rw [e1, e2] at hown3
              exact hown3
            obtain ⟨g3, c3, rfl⟩ := owned_shape hown4 hv3
            have hown5 := owns_mono hown4 hBW.size
            have hB5 : Below w.heap.size w w3 := hBW.trans (hB3.mono hBW.size)
            have HI2 : Hid (SortOf (xs.take (k + 1)) zs) := by
              unfold Hid
              rw [← hzs, ← HXE.out]
              exact HINS.out
            clear hown2 hown3 hown4 hg3 hnil3 hv2 hv3 hB1 hB2 hB3 hzs
            go_wp2
            go_roundw
            case rel => exact ⟨k + 1, g3, c3, zs, by omega, by go_num, rfl, HI2.out, hown5, hB5⟩
            case measure => simp [intOf]; omega
    · obtain rfl : k = n := by omega
      have e : xs.take k = xs := List.take_of_length_le (by have := HN.out; omega)
      rw [e] at hS
      obtain ⟨g', c', rest, hv, hg, hb, _⟩ := block_of_owned hown (by simp)
      cases hv
      have HS := Lib.hid hS
      have HBL := Lib.hid hb
      clear hS hown hb e
      go_wp2
      go_ret
      exact ⟨ys, HS.out, g, c, rest, hg, rfl, HBL.out, hB⟩

theorem spec_sort (w : World) (a : Option Addr) (cap : Nat) (xs : List ByteArray) (hx : Reads w a xs) (hm : xs.length ≤ 1048576) :
    Calls Tryz.prog 75 #[.slice a xs.length cap] w fun e w' => ∃ ys, SortOf xs ys ∧ OutTexts w ys e w' := spec_sort_big w a cap xs hx (by omega)
end Go.Proofs.YtijbaienhaiamaaGreatDoor
end

/- What is proved here: the laws' helpers sameTexts and rising return true on slices that read alike, on a slice that reads as a strictly ascending list. Condition: the slices read as the lists. -/
section
namespace Go.Proofs.YtijbaienhaiamaaGreatDoor
open Go.RowKit

set_option maxHeartbeats 1000000 in
set_option maxRecDepth 100000 in
theorem same_texts (w : World) (a b : Option Addr) (c d : Nat) (xs : List ByteArray) (hx : Reads w a xs) (hy : Reads w b xs) (hm : xs.length ≤ maxLen) :
    Calls Tryz.prog 25 #[.slice a xs.length c, .slice b xs.length d] w fun e w' => e = .returned (.bool true) ∧ ∃ n, w' = w.drewN n := by
  unfold maxLen at hm
  have HX := Lib.hid hx
  have HY := Lib.hid hy
  clear hx hy
  generalize hn : xs.length = n at *
  have HN := Lib.hid hn
  clear hn
  go_enter Tryz.func25, Tryz.ntmps25
  go_wp2
  go_loopw [5] (fun i wr => ∃ (k q : Nat), k ≤ n ∧ i = .int .i64 k ∧ wr = w.drewN q) (fun i _ => n - (intOf i).toNat)
  case atStart => exact ⟨0, 0, Nat.zero_le _, rfl, rfl⟩
  case round =>
    obtain ⟨k, q, hk, rfl, rfl⟩ := hrel
    by_cases hlt : k < n
    · obtain ⟨y, rfl, hc⟩ := HX.out k (by rw [HN.out]; exact hlt)
      obtain ⟨z, rfl, hd⟩ := HY.out k (by rw [HN.out]; exact hlt)
      generalize xs[k]'(by rw [HN.out]; exact hlt) = x at hc hd
      go_wp2
      go_quiet (fail)
      go_wp2
      go_roundw
      case rel => exact ⟨k + 1, _, by omega, by go_num, rfl⟩
      case measure => simp [intOf]; omega
    · go_wp2
      go_ret
      exact ⟨rfl, q, rfl⟩

theorem reads_cell {w : World} {g : Nat} {xs : List ByteArray} (hx : Reads w (some ⟨g, 0, none⟩) xs) (j : Nat) (h : j < xs.length) : w.cell? ⟨g, j, none⟩ = some (.string xs[j]) := by
  obtain ⟨y, hy, hc⟩ := hx j h
  injection hy with hy
  subst hy
  have e1 : (⟨g, 0, none⟩ : Addr).add j = ⟨g, j, none⟩ := by simp [Addr.add]; intro h; omega
  rwa [e1] at hc

set_option maxHeartbeats 1000000 in
set_option maxRecDepth 100000 in
theorem rising_any (w : World) (g c : Nat) (xs : List ByteArray) (hx : Reads w (some ⟨g, 0, none⟩) xs) (hr : Rising xs) (hm : xs.length ≤ maxLen) :
    Calls Tryz.prog 24 #[.slice (some ⟨g, 0, none⟩) xs.length c] w fun e w' => e = .returned (.bool true) ∧ ∃ n, w' = w.drewN n := by
  unfold maxLen at hm
  have HX := Lib.hid hx
  have HR := Lib.hid hr
  clear hx hr
  generalize hn : xs.length = n at *
  have HN := Lib.hid hn
  clear hn
  go_enter Tryz.func24, Tryz.ntmps24
  go_wp2
  go_loopw [3] (fun i wr => ∃ (k q : Nat), i = .int .i64 ((k : Int) + 1) ∧ (k = 0 ∨ k < n) ∧ wr = w.drewN q) (fun i _ => n - (intOf i).toNat)
  case atStart => exact ⟨0, 0, rfl, .inl rfl, rfl⟩
  case round =>
    obtain ⟨k, q, rfl, hk, rfl⟩ := hrel
    by_cases hlt : k + 1 < n
    · have h1 : k < xs.length := by rw [HN.out]; omega
      have h2 : k + 1 < xs.length := by rw [HN.out]; omega
      have hc := reads_cell HX.out k h1
      have hd := reads_cell HX.out (k + 1) h2
      have hrs := (List.pairwise_iff_getElem.1 HR.out) k (k + 1) h1 h2 (by omega)
      generalize xs[k] = x at hc hrs
      generalize xs[k + 1] = y at hd hrs
      have hb : Op.bytesLess x.toList y.toList = true := by rw [less_key]; exact decide_eq_true hrs
      clear hrs hk
      go_wp2
      go_quiet (fail)
      go_wp2
      go_roundw
      case rel => exact ⟨k + 1, _, by go_num, .inr (by omega), rfl⟩
      case measure => simp [intOf]; omega
    · clear hk
      go_wp2
      go_ret
      exact ⟨rfl, q, rfl⟩
end Go.Proofs.YtijbaienhaiamaaGreatDoor
end
