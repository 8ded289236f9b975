/- What is proved here: the model's FindCon (package spec) finds the first constructor of a name, and copies it. Condition: the signature lies in memory as said, and is small. -/
import Derived.Test.YtcmpaccpdjcocaaSpecFind
namespace Go.Proofs.Ytcmpaccpdjcocaa
open Go.RowKit

/-- What FindCon hands back: a copy of the first constructor, its type's name and true, or zero values and false. -/
def FoundCon (w : World) (s : List TypeD) (nm : ByteArray) (e : Ending) (w' : World) : Prop :=
  Below w.heap.size w w' ∧ ((∃ c tn u v, theCon s nm = some (c, tn) ∧ e = .returned (.tuple #[.agg #[u, v], .string tn, .bool true]) ∧ OwnCon (Came w w') w' c u v) ∨ (theCon s nm = none ∧ e = .returned (.tuple #[.agg #[.string ⟨#[]⟩, .slice none 0 0], .string ⟨#[]⟩, .bool false])))

theorem theCon_at {s : List TypeD} {nm : ByteArray} {k i : Nat} {t : TypeD} {c : ConD} (ht : s[k]? = some t) (hc : t.cons[i]? = some c) (hn : ConD.named nm c = true) (h1 : ∀ (j : Nat) y, j < k → s[j]? = some y → hasCon nm y = false) (h2 : ∀ (j : Nat) y, j < i → t.cons[j]? = some y → ConD.named nm y = false) : theCon s nm = some (c, t.name) := by
  have e2 : t.cons.find? (ConD.named nm) = some c := find_at _ _ i c hc hn h2
  have e1 : s.find? (hasCon nm) = some t := find_at _ _ k t ht (by unfold hasCon; rw [e2]; rfl) h1
  unfold theCon
  rw [e1]
  simp [e2]
theorem theCon_no {s : List TypeD} {nm : ByteArray} (h1 : ∀ (j : Nat) y, s[j]? = some y → hasCon nm y = false) : theCon s nm = none := by
  unfold theCon
  rw [find_no _ _ h1]
  rfl
theorem hasCon_no {t : TypeD} {nm : ByteArray} (h : ∀ (j : Nat) y, t.cons[j]? = some y → ConD.named nm y = false) : hasCon nm t = false := by
  unfold hasCon
  rw [find_no _ _ h]
  rfl
theorem before_succ {α : Type} {p : α → Prop} {l : List α} {k : Nat} {x : α} (h : ∀ (j : Nat) y, j < k → l[j]? = some y → p y) (hx : l[k]? = some x) (hp : p x) : ∀ (j : Nat) y, j < k + 1 → l[j]? = some y → p y := by
  intro j y hj hy
  rcases Nat.lt_or_ge j k with h3 | h3
  · exact h j y h3 hy
  · obtain rfl : j = k := by omega
    rw [hx] at hy
    obtain rfl := Option.some.inj hy
    exact hp

set_option maxHeartbeats 2000000 in
set_option maxRecDepth 100000 in
theorem spec_findCon (w : World) (a : Option Addr) (cap : Nat) (s : List TypeD) (nm : ByteArray) (hx : Row2 TypeAt w a s) (hm : s.length ≤ 1048576) (hs : ∀ c ∈ s, c.cons.length ≤ 1048576 ∧ ∀ d ∈ c.cons, d.args.length ≤ 1048576) :
    Calls Try.prog 16 #[.agg #[.slice a s.length cap], .string nm] w (FoundCon w s nm) := by
  have HX := Lib.hid hx
  have HS := Lib.hid hs
  clear hx hs
  obtain ⟨w2, h2⟩ : ∃ w2, w2 = (w.alloc (.cells #[.slice a s.length cap] 33)).alloc (.cells #[.string ⟨#[]⟩, .slice none 0 0] 42) := ⟨_, rfl⟩
  have h := two_alloc w (.cells #[.slice a s.length cap] 33) (.cells #[.string ⟨#[]⟩, .slice none 0 0] 42)
  rw [← h2] at h
  obtain ⟨hw2, hp0, hp1, hB⟩ := h
  have H2 := Lib.hid h2
  have HB := Lib.hid hB
  have HP1 := Lib.hid hp1
  obtain ⟨q0, _⟩ := one_cell hp0
  obtain ⟨p1, p2, p3, p4⟩ := two_cells hp1
  have HW2 := Lib.hid hw2
  clear h2 hB hp0 hp1 hw2
  generalize hn : s.length = n at *
  have HN := Lib.hid hn
  clear hn
  go_enter Try.func16, Try.ntmps16
  go_wp2
  rw [← H2.out]
  go_loop [7] (fun i => ∃ (k : Nat), k ≤ n ∧ i = .int .i64 k ∧ Hid (∀ (j : Nat) y, j < k → s[j]? = some y → hasCon nm y = false)) (fun i => n - (intOf i).toNat)
  case atStart => exact ⟨0, Nat.zero_le _, rfl, fun j _ h => by omega⟩
  case round =>
    obtain ⟨k, hk, rfl, hne⟩ := hrel
    by_cases hlt : k < n
    · have hk' : k < s.length := by rw [HN.out]; exact hlt
      obtain ⟨y, u1, v1, rfl, hc0, hc1, hr1⟩ := row2_below type_below HX.out HB.out k hk'
      have hyb : (y.add (k * 2)).block < w.heap.size := by
        obtain ⟨y', u', v', hy', hd, _, _⟩ := HX.out k hk'
        obtain rfl := Option.some.inj hy'
        exact block_of_cell hd
      have HYB := Lib.hid hyb
      clear hyb
      have hltz : (k : Int) < (n : Int) := by omega
      have hx : s[k]? = some s[k] := List.getElem?_eq_getElem hk'
      have hq := HS.out _ (List.getElem_mem hk')
      generalize s[k] = x at hx hr1 hq
      have HXE := Lib.hid hx
      obtain ⟨ta, tc, hu, hv, hr2⟩ := hr1
      subst hu
      subst hv
      have HR2 := Lib.hid hr2
      have HQ := Lib.hid hq.2
      have hq1 := hq.1
      clear hx hr2 hq
      generalize hn2 : x.cons.length = n2 at *
      have HN2 := Lib.hid hn2
      clear hn2
      go_wp2
      go_loop [8] (fun i => ∃ (i2 : Nat), i2 ≤ n2 ∧ i = .int .i64 i2 ∧ Hid (∀ (j : Nat) y, j < i2 → x.cons[j]? = some y → ConD.named nm y = false)) (fun i => n2 - (intOf i).toNat)
      case atStart => exact ⟨0, Nat.zero_le _, rfl, fun j _ h => by omega⟩
      case round =>
        obtain ⟨i, hi, rfl, hne2⟩ := hrel
        by_cases hlt2 : i < n2
        · have hi' : i < x.cons.length := by rw [HN2.out]; exact hlt2
          obtain ⟨y2, u2, v2, rfl, hd0, hd1, hr3⟩ := HR2.out i hi'
          have hltz2 : (i : Int) < (n2 : Int) := by omega
          have hx2 : x.cons[i]? = some x.cons[i] := List.getElem?_eq_getElem hi'
          have hq2 := HQ.out _ (List.getElem_mem hi')
          generalize x.cons[i] = c at hx2 hr3 hq2
          have HCE := Lib.hid hx2
          clear hx2
          have H := l3Con_any w2.drew c u2 v2 hr3 hq2
          obtain ⟨ca, cc, hu, hv, _⟩ := hr3
          subst hu
          subst hv
          by_cases he : (c.name.toList == nm.toList) = true
          · have HT : Hid (theCon s nm = some (c, x.name)) := theCon_at HXE.out HCE.out he hne.out hne2.out
            go_wp2
            go_region_law (first
              | (go_simp; go_at_call 34; refine H.mono ?_
                 rintro e w3 ⟨⟨u3, v3, rfl, ho⟩, hb3⟩
                 have ho2 := ho
                 obtain ⟨rfl, a3, cap3, rfl, _⟩ := ho2
                 have hb3' := below_of_drew hb3
                 have hr3 := (hb3'.block (w.heap.size + 1) (by have := HW2.out; omega)).trans HP1.out
                 obtain ⟨r1, r2, r3, r4⟩ := two_cells hr3
                 have r5 := cell_below q0 hb3'
                 have r6 := cell_below hc0 hb3'
                 have r7 : ((w3.setCell ⟨w.heap.size + 1, 0, none⟩ (.string c.name)).setCell ⟨w.heap.size + 1, 1, none⟩ (.slice a3 c.args.length cap3)).cell? (y.add (k * 2)) = some (.string x.name) := by
                   have := HYB.out
                   rw [← r6]
                   exact World.cell?_of_block (by rw [Below.heap_setCell _ _ _ _ (by show (y.add (k * 2)).block ≠ w.heap.size + 1; omega), Below.heap_setCell _ _ _ _ (by show (y.add (k * 2)).block ≠ w.heap.size + 1; omega)])
                 have HR3 := Lib.hid hr3
                 have HO := Lib.hid ho
                 have HB3 : Hid (Below w.heap.size w w3) := HB.out.trans (hb3'.mono HB.out.size)
                 clear hb3 hb3' ho hr3))
            all_goals
              go_wp2
              refine bodyPost_ret (results_row_tmp2 rfl _ _ (w.heap.size + 1) _ _ _ _ rfl (two_set (two_set HR3.out _).1 _).2 Try.underlying42 rfl (by kernel_rfl)) rfl ?_
              refine ⟨(HB3.out.setCell (by show _ ≤ w.heap.size + 1; omega) _).setCell (by show _ ≤ w.heap.size + 1; omega) _, .inl ⟨c, x.name, _, _, HT.out, rfl, rfl, (HO.out.2.keep ?_).wider ?_⟩⟩
              · rintro b ⟨hb1, _⟩
                have hh : w2.drew.heap.size = w2.heap.size := rfl
                have := HW2.out
                rw [Below.heap_setCell _ _ _ _ (by show b ≠ w.heap.size + 1; omega), Below.heap_setCell _ _ _ _ (by show b ≠ w.heap.size + 1; omega)]
              · rintro b ⟨hb1, hb2⟩
                have hh : w2.drew.heap.size = w2.heap.size := rfl
                have := HW2.out
                exact ⟨by omega, by simpa [World.setCell] using hb2⟩
          · have he2 : (c.name.toList == nm.toList) = false := by simpa using he
            clear he H
            go_wp2
            go_round
            case rel => exact ⟨i + 1, by omega, by go_num, before_succ hne2.out HCE.out he2⟩
            case measure => simp [intOf]; omega
        · have HNC : Hid (hasCon nm x = false) := hasCon_no (fun j z hz => hne2.out j z (by have := (List.getElem?_eq_some_iff.1 hz).1; have := HN2.out; omega) hz)
          go_wp2
          go_round
          case rel => exact ⟨k + 1, by omega, by go_num, before_succ hne.out HXE.out HNC.out⟩
          case measure => simp [intOf]; omega
    · have HT : Hid (theCon s nm = none) := theCon_no (fun j z hz => hne.out j z (by have := (List.getElem?_eq_some_iff.1 hz).1; have := HN.out; omega) hz)
      go_wp2
      refine bodyPost_ret (results_row_tmp2 rfl _ _ (w.heap.size + 1) _ _ _ _ rfl (two_set (two_set HP1.out _).1 _).2 Try.underlying42 rfl (by kernel_rfl)) rfl ?_
      exact ⟨(HB.out.setCell (by show _ ≤ w.heap.size + 1; omega) _).setCell (by show _ ≤ w.heap.size + 1; omega) _, .inr ⟨HT.out, rfl⟩⟩
end Go.Proofs.Ytcmpaccpdjcocaa
