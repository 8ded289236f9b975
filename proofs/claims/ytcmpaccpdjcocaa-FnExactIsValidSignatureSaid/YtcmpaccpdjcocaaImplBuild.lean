/- What is proved here: the program's tests whether a constructor, a type can be built from a set of types (isBuildable, hasBuildableCon, with the library's ContainsFunc). Condition: they lie in memory as said, and are small. -/
import Derived.Test.YtcmpaccpdjcocaaInhab
import Derived.Test.YtcmpaccpdjcocaaImplIsType
import Derived.Test.YtcmpaccpdjcocaaMapSets
namespace Go.Proofs.Ytcmpaccpdjcocaa
open Go.RowKit

set_option maxHeartbeats 1000000 in
set_option maxRecDepth 100000 in
theorem impl_buildable (w : World) (c : ConD) (u v : Value) (b n0 : Nat) (S : ByteArray → Prop) (hx : ConAt w c u v) (hf : c.fits) (hm : c.args.length ≤ 1048576) (hset : HasSet w b n0 S) :
    Calls Try.prog 83 #[.agg #[u, v], .map (some b)] w fun e w' => e = .returned (.bool (bl (conOk S c))) ∧ Below w.heap.size w w' := by
  obtain ⟨a2, cap2, rfl, rfl, hr⟩ := hx
  obtain ⟨w2, h2⟩ : ∃ w2, w2 = w.alloc (.cells #[.string c.name, .slice a2 c.args.length cap2] 42) := ⟨_, rfl⟩
  have hB : Below w.heap.size w w2 := by rw [h2]; exact (Below.refl _ _).alloc (Nat.le_refl _) _
  have hp0 : w2.heap[w.heap.size]? = some (.cells #[.string c.name, .slice a2 c.args.length cap2] 42 (0, 0)) := by rw [h2]; exact heap_at_new w _
  obtain ⟨_, q0, _, _⟩ := two_cells hp0
  have HR := Lib.hid (reads_below hr hB)
  have HL := Lib.hid (HasSet.look (hset.below hB))
  have HF := Lib.hid hf.2.2
  have HB := Lib.hid hB
  have H2 := Lib.hid h2
  clear hr hB hp0 h2 hset hf
  generalize hn : c.args.length = n at *
  have HN := Lib.hid hn
  clear hn
  go_enter Try.func83, Try.ntmps83
  go_wp2
  rw [← H2.out]
  go_loop [10] (fun i => ∃ (k : Nat), k ≤ n ∧ i = .int .i64 k ∧ Hid (∀ (j : Nat) y, j < k → c.args[j]? = some y → argOk S y)) (fun i => n - (intOf i).toNat)
  case atStart => exact ⟨0, Nat.zero_le _, rfl, fun j _ h => by omega⟩
  case round =>
    obtain ⟨k, hk, rfl, hne⟩ := hrel
    by_cases hlt : k < n
    · have hk' : k < c.args.length := by rw [HN.out]; exact hlt
      obtain ⟨y, rfl, hc⟩ := HR.out k hk'
      have hltz : (k : Int) < (n : Int) := by omega
      have hx : c.args[k]? = some c.args[k] := List.getElem?_eq_getElem hk'
      have hfx := HF.out _ (List.getElem_mem hk')
      generalize c.args[k] = x at hx hc hfx
      have HXE := Lib.hid hx
      have hlk := HL.out x hfx
      clear hx
      cases hb : isBasic x with
      | true =>
        have HA : Hid (argOk S x) := .inl hb
        have HBS := Lib.hid hb
        clear hb hlk
        go_wp2_with fail
        refine (impl_basic x w2).mono ?_
        rintro e w3 ⟨rfl, rfl⟩
        rw [HBS.out]
        go_wp2
        go_round
        case rel => exact ⟨k + 1, by omega, by go_num, before_succ' hne.out HXE.out HA.out⟩
        case measure => simp [intOf]; omega
      | false =>
        have HBS := Lib.hid hb
        clear hb
        by_cases hm2 : S x
        · rw [bl_true hm2] at hlk
          have HA : Hid (argOk S x) := .inr hm2
          clear hm2
          go_wp2_with fail
          refine (impl_basic x w2).mono ?_
          rintro e w3 ⟨rfl, rfl⟩
          rw [HBS.out]
          go_wp2
          go_round
          case rel => exact ⟨k + 1, by omega, by go_num, before_succ' hne.out HXE.out HA.out⟩
          case measure => simp [intOf]; omega
        · rw [bl_false hm2] at hlk
          have HRES : Hid (bl (conOk S c) = false) := bl_false (fun h => by
            obtain ⟨h4, h5⟩ := List.getElem?_eq_some_iff.1 HXE.out
            rcases h x (h5 ▸ List.getElem_mem h4) with h6 | h6
            · have := HBS.out
              rw [h6] at this; cases this
            · exact hm2 h6)
          clear hm2
          go_wp2_with fail
          refine (impl_basic x w2).mono ?_
          rintro e w3 ⟨rfl, rfl⟩
          rw [HBS.out]
          go_wp2
          go_ret
          exact ⟨by rw [HRES.out]; rfl, HB.out⟩
    · have HRES : Hid (bl (conOk S c) = true) := bl_true (fun x hx => by
        obtain ⟨j, hj, e⟩ := List.mem_iff_getElem.1 hx
        exact hne.out j x (by have := HN.out; omega) (by rw [List.getElem?_eq_getElem hj, e]))
      go_wp2
      go_ret
      exact ⟨by rw [HRES.out]; rfl, HB.out⟩

/-- The closure of hasBuildableCon: the set lies in a cell of the caller's. -/
theorem test_buildable (S : ByteArray → Prop) (b n0 B : Nat) (w : World) (hc : w.cell? ⟨B, 0, none⟩ = some (.map (some b))) (hset : HasSet w b n0 S) : TestAt (fun W c u v => ConAt W c u v ∧ c.fits ∧ c.args.length ≤ 1048576) 82 #[.pointer (some ⟨B, 0, none⟩)] (fun c => bl (conOk S c)) w := by
  intro W c u v hb ⟨hr, hf, hm⟩
  have hal : Below W.heap.size W (W.alloc (.cells #[u, v] 42)) := (Below.refl _ _).alloc (Nat.le_refl _) _
  have hne : (W.alloc (.cells #[u, v] 42)).cell? ⟨B, 0, none⟩ = some (.map (some b)) := cell_below (cell_below hc hb) hal
  have H := impl_buildable (W.alloc (.cells #[u, v] 42)) c u v b n0 S (con_below _ _ _ _ _ hr hal) hf hm ((hset.below hb).below hal)
  have HA := Lib.hid hal
  obtain ⟨q1, q2, _, _⟩ := two_cells (heap_at_new W (.cells #[u, v] 42))
  clear hb hc hset hal hf hm hr
  show Calls Try.prog 82 #[.agg #[u, v], .pointer (some ⟨B, 0, none⟩)] W fun e w' => e = .returned (.bool (bl (conOk S c))) ∧ Below W.heap.size W w'
  generalize bl (conOk S c) = q at *
  go_enter Try.func82, Try.ntmps82
  go_wp2_with fail
  refine H.mono ?_
  rintro e w1 ⟨rfl, hb1⟩
  have HB1 : Hid (Below W.heap.size W w1) := HA.out.trans (hb1.mono HA.out.size)
  clear hb1 H
  go_wp2
  go_ret
  exact ⟨rfl, HB1.out⟩

set_option maxHeartbeats 1000000 in
set_option maxRecDepth 100000 in
theorem index_cons (g : Nat) (lb : Array Value) (p : ConD → Bool) (w : World) (a : Option Addr) (cap : Nat) (s : List ConD) (eg : ∀ args w, (callFunc g args).run Try.prog w = .ok (.enter g args) w) (hp : TestAt (fun W c u v => ConAt W c u v ∧ c.fits ∧ c.args.length ≤ 1048576) g lb p w) (hx : Row2 ConAt w a s) (hm : s.length ≤ 1048576) (hs : ∀ c ∈ s, c.fits ∧ c.args.length ≤ 1048576) :
    Calls Try.prog 97 #[.slice a s.length cap, .func (.func g) #[] lb] w fun e w' => (∃ z : Int, e = .returned (.int .i64 z) ∧ -1 ≤ z ∧ z ≤ 1048576 ∧ decide (0 ≤ z) = s.any p) ∧ Below w.heap.size w w' := by
  have HX := Lib.hid hx
  have HP := Lib.hid hp
  clear hx hp
  have HSS := Lib.hid hs
  clear hs
  generalize hn : s.length = n at *
  have HN := Lib.hid hn
  clear hn
  go_enter Try.func97, Try.ntmps97
  go_wp2
  go_loopw [5, 8] (fun _ i wr => ∃ (k : Nat), k ≤ n ∧ i = .int .i64 k ∧ Hid (Below w.heap.size w wr) ∧ Hid (∀ (j : Nat) y, j < k → s[j]? = some y → p y = false)) (fun _ i _ => n - (intOf i).toNat)
  case atStart => exact ⟨0, Nat.zero_le _, rfl, Below.refl _ _, fun j _ h => by omega⟩
  case round =>
    obtain ⟨k, hk, rfl, hB, hne⟩ := hrel
    by_cases hlt : k < n
    · have hk' : k < s.length := by rw [HN.out]; exact hlt
      obtain ⟨y, u1, v1, rfl, hc0, hc1, hr1⟩ := row2_below con_below HX.out hB.out k hk'
      have hltz : (k : Int) < (n : Int) := by omega
      have hx : s[k]? = some s[k] := List.getElem?_eq_getElem hk'
      have hq9 := HSS.out _ (List.getElem_mem hk')
      generalize s[k] = x at hx hr1 hq9
      have HXE := Lib.hid hx
      have hcall := HP.out wr x u1 v1 hB.out ⟨hr1, hq9.1, hq9.2⟩
      clear hx hr1 hq9
      cases hq : p x with
      | true =>
        rw [hq] at hcall
        have HA : Hid (s.any p = true) := by
          unfold Hid
          rw [List.any_eq_true]
          obtain ⟨h1, h2⟩ := List.getElem?_eq_some_iff.1 HXE.out
          exact ⟨x, h2 ▸ List.getElem_mem h1, hq⟩
        clear hq
        go_wp2_with fail
        refine hcall.mono ?_
        rintro e w1 ⟨rfl, hb1⟩
        have HB1 := Lib.hid hb1
        clear hb1 hcall
        go_wp2
        go_ret
        exact ⟨⟨k, rfl, by omega, by omega, by rw [HA.out]; simp⟩, hB.out.trans (HB1.out.mono hB.out.size)⟩
      | false =>
        rw [hq] at hcall
        have HQ := Lib.hid hq
        clear hq
        go_wp2_with fail
        refine hcall.mono ?_
        rintro e w1 ⟨rfl, hb1⟩
        have HB1 := Lib.hid hb1
        clear hb1 hcall
        go_wp2
        go_roundw
        case rel =>
          refine ⟨k + 1, by omega, by go_num, hB.out.trans (HB1.out.mono hB.out.size), fun j z hj hz => ?_⟩
          rcases Nat.lt_or_ge j k with h3 | h3
          · exact hne.out j z h3 hz
          · obtain rfl : j = k := by omega
            have := HXE.out
            rw [this] at hz
            obtain rfl := Option.some.inj hz
            exact HQ.out
        case measure => simp [intOf]; omega
    · have HA : Hid (s.any p = false) := by
        unfold Hid
        rw [List.any_eq_false]
        intro x hx
        obtain ⟨j, hj, e⟩ := List.mem_iff_getElem.1 hx
        simp [hne.out j x (by have := HN.out; omega) (by rw [List.getElem?_eq_getElem hj, e])]
      go_wp2
      go_ret
      exact ⟨⟨-1, rfl, by omega, by omega, by rw [HA.out]; rfl⟩, hB.out⟩

set_option maxRecDepth 100000 in
theorem any_cons (g : Nat) (lb : Array Value) (p : ConD → Bool) (w : World) (a : Option Addr) (cap : Nat) (s : List ConD) (eg : ∀ args w, (callFunc g args).run Try.prog w = .ok (.enter g args) w) (hp : TestAt (fun W c u v => ConAt W c u v ∧ c.fits ∧ c.args.length ≤ 1048576) g lb p w) (hx : Row2 ConAt w a s) (hm : s.length ≤ 1048576) (hs : ∀ c ∈ s, c.fits ∧ c.args.length ≤ 1048576) :
    Calls Try.prog 81 #[.slice a s.length cap, .func (.func g) #[] lb] w fun e w' => e = .returned (.bool (s.any p)) ∧ Below w.heap.size w w' := by
  have H := index_cons g lb p w a cap s eg hp hx hm hs
  clear hp hx hs
  generalize s.any p = b at *
  go_enter Try.func81, Try.ntmps81
  go_wp2_with fail
  refine H.mono ?_
  rintro e w1 ⟨⟨z, rfl, h1, h2, h3⟩, hb⟩
  have HB := Lib.hid hb
  clear hb
  go_wp2
  go_ret
  exact ⟨rfl, HB.out⟩

set_option maxHeartbeats 1000000 in
set_option maxRecDepth 100000 in
theorem impl_hasBuildable (w : World) (t : TypeD) (u v : Value) (b n0 : Nat) (S : ByteArray → Prop) (hx : TypeAt w t u v) (hf : t.fits) (hm : t.cons.length ≤ 1048576) (hm2 : ∀ d ∈ t.cons, d.args.length ≤ 1048576) (hset : HasSet w b n0 S) :
    Calls Try.prog 73 #[.agg #[u, v], .map (some b)] w fun e w' => e = .returned (.bool (bl (typeOk S t))) ∧ Below w.heap.size w w' := by
  obtain ⟨a, cap, rfl, rfl, hr⟩ := hx
  obtain ⟨w2, h2⟩ : ∃ w2, w2 = (w.alloc (.cells #[.string t.name, .slice a t.cons.length cap] 28)).alloc (.cells #[.map (some b)] 78) := ⟨_, rfl⟩
  have h := two_alloc w (.cells #[.string t.name, .slice a t.cons.length cap] 28) (.cells #[.map (some b)] 78)
  rw [← h2] at h
  obtain ⟨hsz, hp0, hp1, hB⟩ := h
  have eg : ∀ args w, (callFunc 82 args).run Try.prog w = .ok (.enter 82 args) w := call_enters Try.func82 (by kernel_rfl) rfl
  have H := any_cons 82 #[.pointer (some ⟨w.heap.size + 1, 0, none⟩)] (fun c => bl (conOk S c)) w2 a cap t.cons eg (test_buildable S b n0 (w.heap.size + 1) w2 (one_cell hp1).1 (hset.below hB)) (row2_below con_below hr hB) hm (fun c hc => ⟨hf.2.2 c hc, hm2 c hc⟩)
  have e1 : (t.cons.any fun c => bl (conOk S c)) = bl (typeOk S t) := by
    by_cases ho : typeOk S t
    · rw [bl_true ho, List.any_eq_true]
      obtain ⟨c, hc, hco⟩ := ho
      exact ⟨c, hc, bl_true hco⟩
    · rw [bl_false ho, List.any_eq_false]
      intro c hc
      rw [bl_false (fun hco => ho ⟨c, hc, hco⟩)]
      simp
  rw [e1] at H
  have H2 := Lib.hid h2
  have HB := Lib.hid hB
  obtain ⟨_, q0, _, _⟩ := two_cells hp0
  clear hr hp0 hp1 hsz h2 hB e1 eg hset hf hm2
  generalize bl (typeOk S t) = q at *
  go_enter Try.func73, Try.ntmps73
  go_wp2_with fail
  rw [← H2.out]
  refine H.mono ?_
  rintro e w4 ⟨rfl, hb4⟩
  have HB4 : Hid (Below w.heap.size w w4) := HB.out.trans (hb4.mono HB.out.size)
  clear hb4 H
  go_wp2
  go_ret
  exact ⟨rfl, HB4.out⟩
end Go.Proofs.Ytcmpaccpdjcocaa
