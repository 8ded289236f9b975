/- What is proved here: a piece of the proof of YtdilegbigaahnaaGreatExactIsValueOf (ImplBuild, ImplInhSet, SpecRound). Condition: none beyond what each part says. -/
import Derived.Test.YtdilegbigaahnaaGreatVo09
import Derived.Test.YtdilegbigaahnaaGreatVo08
import Derived.Test.YtdilegbigaahnaaGreatVo10
import Derived.Deep.LoopGhost
import Derived.Deep.AppendLies

/- What is proved here: the program's tests whether a constructor, a type can be built from a set of types (isBuildable, hasBuildableCon, with the library's ContainsFunc). Condition: they lie in memory as said, and are small. -/
section
namespace Go.Proofs.YtdilegbigaahnaaGreat
open Go.RowKit

set_option maxHeartbeats 1000000 in
set_option maxRecDepth 100000 in
theorem impl_buildable (w : World) (c : ConD) (u v : Value) (b n0 : Nat) (S : ByteArray → Prop) (hx : ConAt w c u v) (hf : c.fits) (hm : c.args.length ≤ 1048576) (hset : HasSet w b n0 S) :
    Calls Tryz.prog 118 #[.agg #[u, v], .map (some b)] w fun e w' => e = .returned (.bool (bl (conOk S c))) ∧ Below w.heap.size w w' := by
  obtain ⟨a2, cap2, rfl, rfl, hr⟩ := hx
  obtain ⟨w2, h2⟩ : ∃ w2, w2 = w.alloc (.cells #[.string c.name, .slice a2 c.args.length cap2] 73) := ⟨_, rfl⟩
  have hB : Below w.heap.size w w2 := by rw [h2]; exact (Below.refl _ _).alloc (Nat.le_refl _) _
  have hp0 : w2.heap[w.heap.size]? = some (.cells #[.string c.name, .slice a2 c.args.length cap2] 73 (0, 0)) := by rw [h2]; exact heap_at_new w _
  obtain ⟨_, q0, _, _⟩ := two_cells hp0
  have HR := Lib.hid (reads_below hr hB)
  have HL := Lib.hid (HasSet.look (hset.below hB))
  have HF := Lib.hid hf.2.2
  have HB := Lib.hid hB
  have H2 := Lib.hid h2
  clear hr hB hp0 h2 hset hf
  generalize hn : c.args.length = n at *
  have HN := Lib.hid hn
  clear hn
  go_enter Tryz.func118, Tryz.ntmps118
  go_wp2
  rw [← H2.out]
  go_loop [10] (fun i => ∃ (k : Nat), k ≤ n ∧ i = .int .i64 k ∧ Hid (∀ (j : Nat) y, j < k → c.args[j]? = some y → argOk S y)) (fun i => n - (intOf i).toNat)
  case atStart => exact ⟨0, Nat.zero_le _, rfl, fun j _ h => by omega⟩
  case round =>
    obtain ⟨k, hk, rfl, hne⟩ := hrel
    by_cases hlt : k < n
    · have hk' : k < c.args.length := by rw [HN.out]; exact hlt
      obtain ⟨y, rfl, hc⟩ := HR.out k hk'
      have hltz : (k : Int) < (n : Int) := by omega
      have hx : c.args[k]? = some c.args[k] := List.getElem?_eq_getElem hk'
      have hfx := HF.out _ (List.getElem_mem hk')
      generalize c.args[k] = x at hx hc hfx
      have HXE := Lib.hid hx
      have hlk := HL.out x hfx
      clear hx
      cases hb : isBasic x with
      | true =>
        have HA : Hid (argOk S x) := .inl hb
        have HBS := Lib.hid hb
        clear hb hlk
        go_wp2_with fail
        refine (impl_basic x w2).mono ?_
        rintro e w3 ⟨rfl, rfl⟩
        rw [HBS.out]
        go_wp2
        go_round
        case rel => exact ⟨k + 1, by omega, by go_num, before_succ' hne.out HXE.out HA.out⟩
        case measure => simp [intOf]; omega
      | false =>
        have HBS := Lib.hid hb
        clear hb
        by_cases hm2 : S x
        · rw [bl_true hm2] at hlk
          have HA : Hid (argOk S x) := .inr hm2
          clear hm2
          go_wp2_with fail
          refine (impl_basic x w2).mono ?_
          rintro e w3 ⟨rfl, rfl⟩
          rw [HBS.out]
          go_wp2
          go_round
          case rel => exact ⟨k + 1, by omega, by go_num, before_succ' hne.out HXE.out HA.out⟩
          case measure => simp [intOf]; omega
        · rw [bl_false hm2] at hlk
          have HRES : Hid (bl (conOk S c) = false) := bl_false (fun h => by
            obtain ⟨h4, h5⟩ := List.getElem?_eq_some_iff.1 HXE.out
            rcases h x (h5 ▸ List.getElem_mem h4) with h6 | h6
            · have := HBS.out
              rw [h6] at this; cases this
            · exact hm2 h6)
          clear hm2
          go_wp2_with fail
          refine (impl_basic x w2).mono ?_
          rintro e w3 ⟨rfl, rfl⟩
          rw [HBS.out]
          go_wp2
          go_ret
          exact ⟨by rw [HRES.out]; rfl, HB.out⟩
    · have HRES : Hid (bl (conOk S c) = true) := bl_true (fun x hx => by
        obtain ⟨j, hj, e⟩ := List.mem_iff_getElem.1 hx
        exact hne.out j x (by have := HN.out; omega) (by rw [List.getElem?_eq_getElem hj, e]))
      go_wp2
      go_ret
      exact ⟨by rw [HRES.out]; rfl, HB.out⟩

/-- The closure of hasBuildableCon: the set lies in a cell of the caller's. -/
theorem test_buildable (S : ByteArray → Prop) (b n0 B : Nat) (w : World) (hc : w.cell? ⟨B, 0, none⟩ = some (.map (some b))) (hset : HasSet w b n0 S) : TestAt (fun W c u v => ConAt W c u v ∧ c.fits ∧ c.args.length ≤ 1048576) 117 #[.pointer (some ⟨B, 0, none⟩)] (fun c => bl (conOk S c)) w := by
  intro W c u v hb ⟨hr, hf, hm⟩
  have hal : Below W.heap.size W (W.alloc (.cells #[u, v] 73)) := (Below.refl _ _).alloc (Nat.le_refl _) _
  have hne : (W.alloc (.cells #[u, v] 73)).cell? ⟨B, 0, none⟩ = some (.map (some b)) := cell_below (cell_below hc hb) hal
  have H := impl_buildable (W.alloc (.cells #[u, v] 73)) c u v b n0 S (con_below _ _ _ _ _ hr hal) hf hm ((hset.below hb).below hal)
  have HA := Lib.hid hal
  obtain ⟨q1, q2, _, _⟩ := two_cells (heap_at_new W (.cells #[u, v] 73))
  clear hb hc hset hal hf hm hr
  show Calls Tryz.prog 117 #[.agg #[u, v], .pointer (some ⟨B, 0, none⟩)] W fun e w' => e = .returned (.bool (bl (conOk S c))) ∧ Below W.heap.size W w'
  generalize bl (conOk S c) = q at *
  go_enter Tryz.func117, Tryz.ntmps117
  go_wp2_with fail
  refine H.mono ?_
  rintro e w1 ⟨rfl, hb1⟩
  have HB1 : Hid (Below W.heap.size W w1) := HA.out.trans (hb1.mono HA.out.size)
  clear hb1 H
  go_wp2
  go_ret
  exact ⟨rfl, HB1.out⟩

set_option maxHeartbeats 1000000 in
set_option maxRecDepth 100000 in
theorem index_cons (g : Nat) (lb : Array Value) (p : ConD → Bool) (w : World) (a : Option Addr) (cap : Nat) (s : List ConD) (eg : ∀ args w, (callFunc g args).run Tryz.prog w = .ok (.enter g args) w) (hp : TestAt (fun W c u v => ConAt W c u v ∧ c.fits ∧ c.args.length ≤ 1048576) g lb p w) (hx : Row2 ConAt w a s) (hm : s.length ≤ 1048576) (hs : ∀ c ∈ s, c.fits ∧ c.args.length ≤ 1048576) :
    Calls Tryz.prog 85 #[.slice a s.length cap, .func (.func g) #[] lb] w fun e w' => (∃ z : Int, e = .returned (.int .i64 z) ∧ -1 ≤ z ∧ z ≤ 1048576 ∧ decide (0 ≤ z) = s.any p) ∧ Below w.heap.size w w' := by
  have HX := Lib.hid hx
  have HP := Lib.hid hp
  clear hx hp
  have HSS := Lib.hid hs
  clear hs
  generalize hn : s.length = n at *
  have HN := Lib.hid hn
  clear hn
  go_enter Tryz.func85, Tryz.ntmps85
  go_wp2
  go_loopw [5, 8] (fun _ i wr => ∃ (k : Nat), k ≤ n ∧ i = .int .i64 k ∧ Hid (Below w.heap.size w wr) ∧ Hid (∀ (j : Nat) y, j < k → s[j]? = some y → p y = false)) (fun _ i _ => n - (intOf i).toNat)
  case atStart => exact ⟨0, Nat.zero_le _, rfl, Below.refl _ _, fun j _ h => by omega⟩
  case round =>
    obtain ⟨k, hk, rfl, hB, hne⟩ := hrel
    by_cases hlt : k < n
    · have hk' : k < s.length := by rw [HN.out]; exact hlt
      obtain ⟨y, u1, v1, rfl, hc0, hc1, hr1⟩ := row2_below con_below HX.out hB.out k hk'
      have hltz : (k : Int) < (n : Int) := by omega
      have hx : s[k]? = some s[k] := List.getElem?_eq_getElem hk'
      have hq9 := HSS.out _ (List.getElem_mem hk')
      generalize s[k] = x at hx hr1 hq9
      have HXE := Lib.hid hx
      have hcall := HP.out wr x u1 v1 hB.out ⟨hr1, hq9.1, hq9.2⟩
      clear hx hr1 hq9
      cases hq : p x with
      | true =>
        rw [hq] at hcall
        have HA : Hid (s.any p = true) := by
          unfold Hid
          rw [List.any_eq_true]
          obtain ⟨h1, h2⟩ := List.getElem?_eq_some_iff.1 HXE.out
          exact ⟨x, h2 ▸ List.getElem_mem h1, hq⟩
        clear hq
        go_wp2_with fail
        refine hcall.mono ?_
        rintro e w1 ⟨rfl, hb1⟩
        have HB1 := Lib.hid hb1
        clear hb1 hcall
        go_wp2
        go_ret
        exact ⟨⟨k, rfl, by omega, by omega, by rw [HA.out]; simp⟩, hB.out.trans (HB1.out.mono hB.out.size)⟩
      | false =>
        rw [hq] at hcall
        have HQ := Lib.hid hq
        clear hq
        go_wp2_with fail
        refine hcall.mono ?_
        rintro e w1 ⟨rfl, hb1⟩
        have HB1 := Lib.hid hb1
        clear hb1 hcall
        go_wp2
        go_roundw
        case rel =>
          refine ⟨k + 1, by omega, by go_num, hB.out.trans (HB1.out.mono hB.out.size), fun j z hj hz => ?_⟩
          rcases Nat.lt_or_ge j k with h3 | h3
          · exact hne.out j z h3 hz
          · obtain rfl : j = k := by omega
            have := HXE.out
            rw [this] at hz
            obtain rfl := Option.some.inj hz
            exact HQ.out
        case measure => simp [intOf]; omega
    · have HA : Hid (s.any p = false) := by
        unfold Hid
        rw [List.any_eq_false]
        intro x hx
        obtain ⟨j, hj, e⟩ := List.mem_iff_getElem.1 hx
        simp [hne.out j x (by have := HN.out; omega) (by rw [List.getElem?_eq_getElem hj, e])]
      go_wp2
      go_ret
      exact ⟨⟨-1, rfl, by omega, by omega, by rw [HA.out]; rfl⟩, hB.out⟩

set_option maxRecDepth 100000 in
theorem any_cons (g : Nat) (lb : Array Value) (p : ConD → Bool) (w : World) (a : Option Addr) (cap : Nat) (s : List ConD) (eg : ∀ args w, (callFunc g args).run Tryz.prog w = .ok (.enter g args) w) (hp : TestAt (fun W c u v => ConAt W c u v ∧ c.fits ∧ c.args.length ≤ 1048576) g lb p w) (hx : Row2 ConAt w a s) (hm : s.length ≤ 1048576) (hs : ∀ c ∈ s, c.fits ∧ c.args.length ≤ 1048576) :
    Calls Tryz.prog 116 #[.slice a s.length cap, .func (.func g) #[] lb] w fun e w' => e = .returned (.bool (s.any p)) ∧ Below w.heap.size w w' := by
  have H := index_cons g lb p w a cap s eg hp hx hm hs
  clear hp hx hs
  generalize s.any p = b at *
  go_enter Tryz.func116, Tryz.ntmps116
  go_wp2_with fail
  refine H.mono ?_
  rintro e w1 ⟨⟨z, rfl, h1, h2, h3⟩, hb⟩
  have HB := Lib.hid hb
  clear hb
  go_wp2
  go_ret
  exact ⟨rfl, HB.out⟩

set_option maxHeartbeats 1000000 in
set_option maxRecDepth 100000 in
theorem impl_hasBuildable (w : World) (t : TypeD) (u v : Value) (b n0 : Nat) (S : ByteArray → Prop) (hx : TypeAt w t u v) (hf : t.fits) (hm : t.cons.length ≤ 1048576) (hm2 : ∀ d ∈ t.cons, d.args.length ≤ 1048576) (hset : HasSet w b n0 S) :
    Calls Tryz.prog 103 #[.agg #[u, v], .map (some b)] w fun e w' => e = .returned (.bool (bl (typeOk S t))) ∧ Below w.heap.size w w' := by
  obtain ⟨a, cap, rfl, rfl, hr⟩ := hx
  obtain ⟨w2, h2⟩ : ∃ w2, w2 = (w.alloc (.cells #[.string t.name, .slice a t.cons.length cap] 71)).alloc (.cells #[.map (some b)] 111) := ⟨_, rfl⟩
  have h := two_alloc w (.cells #[.string t.name, .slice a t.cons.length cap] 71) (.cells #[.map (some b)] 111)
  rw [← h2] at h
  obtain ⟨hsz, hp0, hp1, hB⟩ := h
  have eg : ∀ args w, (callFunc 117 args).run Tryz.prog w = .ok (.enter 117 args) w := call_enters Tryz.func117 (by kernel_rfl) rfl
  have H := any_cons 117 #[.pointer (some ⟨w.heap.size + 1, 0, none⟩)] (fun c => bl (conOk S c)) w2 a cap t.cons eg (test_buildable S b n0 (w.heap.size + 1) w2 (one_cell hp1).1 (hset.below hB)) (row2_below con_below hr hB) hm (fun c hc => ⟨hf.2.2 c hc, hm2 c hc⟩)
  have e1 : (t.cons.any fun c => bl (conOk S c)) = bl (typeOk S t) := by
    by_cases ho : typeOk S t
    · rw [bl_true ho, List.any_eq_true]
      obtain ⟨c, hc, hco⟩ := ho
      exact ⟨c, hc, bl_true hco⟩
    · rw [bl_false ho, List.any_eq_false]
      intro c hc
      rw [bl_false (fun hco => ho ⟨c, hc, hco⟩)]
      simp
  rw [e1] at H
  have H2 := Lib.hid h2
  have HB := Lib.hid hB
  obtain ⟨_, q0, _, _⟩ := two_cells hp0
  clear hr hp0 hp1 hsz h2 hB e1 eg hset hf hm2
  generalize bl (typeOk S t) = q at *
  go_enter Tryz.func103, Tryz.ntmps103
  go_wp2_with fail
  rw [← H2.out]
  refine H.mono ?_
  rintro e w4 ⟨rfl, hb4⟩
  have HB4 : Hid (Below w.heap.size w w4) := HB.out.trans (hb4.mono HB.out.size)
  clear hb4 H
  go_wp2
  go_ret
  exact ⟨rfl, HB4.out⟩
end Go.Proofs.YtdilegbigaahnaaGreat
end

/- What is proved here: the program's inhabitedSet hands back the set of the types that have values. Condition: the signature lies in memory as said, and is small. -/
section
namespace Go.Proofs.YtdilegbigaahnaaGreat
open Go.RowKit

/-- The world of inhabitedSet: the set so far, the box of the signature. -/
def InhW (w : World) (s : List TypeD) (a : Option Addr) (n cap bi ni : Nat) (S : ByteArray → Prop) (wr : World) : Prop := HasSet wr bi ni S ∧ Below w.heap.size w wr ∧ wr.cell? ⟨w.heap.size, 0, none⟩ = some (.slice a n cap) ∧ ∀ x, S x → Inh s x
theorem InhW.below {w : World} {s : List TypeD} {a : Option Addr} {n cap bi ni : Nat} {S : ByteArray → Prop} {wr w' : World} (h : InhW w s a n cap bi ni S wr) (hb : Below wr.heap.size wr w') : InhW w s a n cap bi ni S w' :=
  ⟨h.1.below hb, h.2.1.trans (hb.mono h.2.1.size), cell_below h.2.2.1 hb, h.2.2.2⟩
theorem InhW.grown {w : World} {s : List TypeD} {a : Option Addr} {n cap bi ni : Nat} {S : ByteArray → Prop} {wr w' : World} {b : Nat} (h : InhW w s a n cap bi ni S wr) (hg : wr.grownBy w' (some b)) (h1 : bi ≠ b) (h2 : w.heap.size < b) : InhW w s a n cap bi ni S w' :=
  ⟨h.1.kept hg (fun e => h1 (Option.some.inj e)), h.2.1.grown hg h.2.1.size (fun k e => by have := Option.some.inj e; omega), hg.cell h.2.2.1 (fun e => by have := Option.some.inj e; simp at this; omega), h.2.2.2⟩

set_option maxHeartbeats 4000000 in
set_option maxRecDepth 100000 in
theorem impl_inhSet (w : World) (a : Option Addr) (cap : Nat) (s : List TypeD) (hx : Row2 TypeAt w a s) (hf : sigFits s) (hm : s.length ≤ 1048576) (hs : ∀ c ∈ s, c.cons.length ≤ 1048576 ∧ ∀ d ∈ c.cons, d.args.length ≤ 1048576) :
    Calls Tryz.prog 77 #[.agg #[.slice a s.length cap]] w fun e w' => (∃ bi ni S, e = .returned (.map (some bi)) ∧ HasSet w' bi ni S ∧ ∀ x, S x ↔ Inh s x) ∧ Below w.heap.size w w' := by
  have hmm := @run_makeMap Tryz.prog
  have HX := Lib.hid hx
  have HS := Lib.hid hs
  have HF := Lib.hid hf.2
  have s1 : (w.alloc (.cells #[.slice a s.length cap] 33)).heap.size = w.heap.size + 1 := Array.size_push _
  have hbA : Below w.heap.size w (w.alloc (.cells #[.slice a s.length cap] 33)) := (Below.refl _ _).alloc (Nat.le_refl _) _
  have hc0 := (one_cell (heap_at_new w (.cells #[.slice a s.length cap] 33))).1
  generalize hw1 : w.alloc (.cells #[.slice a s.length cap] 33) = w1 at *
  have hb2 : Below w1.heap.size w1 (w1.alloc (.map #[] 0)) := (Below.refl _ _).alloc (Nat.le_refl _) _
  have s2 : (w1.alloc (.map #[] 0)).heap.size = w1.heap.size + 1 := Array.size_push _
  have hi2 := (isSet_made w1).has
  have hb3 : Below (w1.alloc (.map #[] 0)).heap.size (w1.alloc (.map #[] 0)) ((w1.alloc (.map #[] 0)).alloc (.map #[] 0)) := (Below.refl _ _).alloc (Nat.le_refl _) _
  have hf3 := isSet_made (w1.alloc (.map #[] 0))
  have hRest : InhW w s a s.length cap (w.heap.size + 1) 0 (· ∈ ([] : List ByteArray)) ((w1.alloc (.map #[] 0)).alloc (.map #[] 0)) := by
    rw [s1] at hi2
    exact ⟨hi2.below hb3, (hbA.trans (hb2.mono hbA.size)).trans (hb3.mono (by omega)), cell_below (cell_below hc0 hb2) hb3, fun x hx => by cases hx⟩
  rw [s2, s1] at hf3
  have HRS := Lib.hid hRest
  have HFS := Lib.hid hf3
  have HW1 := Lib.hid hw1
  have HMS := Lib.hid (missing_le s (· ∈ ([] : List ByteArray)))
  clear hx hs hf s1 s2 hbA hc0 hb2 hi2 hb3 hf3 hRest hw1
  generalize hn : s.length = n at *
  have HN := Lib.hid hn
  clear hn
  go_enter Tryz.func77, Tryz.ntmps77
  go_wp2
  rw [HW1.out]
  generalize (w1.alloc (.map #[] 0)).alloc (.map #[] 0) = w3 at *
  clear hmm
  go_loopg [13] (n + 1) (fun gg _ wr => ∃ (ni nf : Nat) (S : ByteArray → Prop) (fs : List ByteArray), Aside (InhW w s a n cap (w.heap.size + 1) ni S wr) ∧ Aside (IsSet wr (w.heap.size + 1 + 1) nf fs) ∧ Aside (missing s S + 1 ≤ gg) ∧ Aside (ni + gg * 1048576 ≤ 1099513724928))
  case atStart => exact ⟨0, 0, _, [], HRS.out, HFS.out, by have := HMS.out; show _ + 1 ≤ n + 1; omega, by show _ ≤ _; omega⟩
  case round =>
    obtain ⟨ni, nf, S, fs, hR, hFF, hM, hC⟩ := hrel
    have hset := hFF.out
    go_wp2_with (refine wpList_clear rfl _ rfl (w.heap.size + 1 + 1) nf fs rfl hset ?_; intro w4 hs4 hg4; have HR4 : Hid (InhW w s a n cap (w.heap.size + 1) ni S w4) := hR.out.grown hg4 (by omega) (by omega); have c4 := HR4.out.2.2.1)
    have HF4 := Lib.hid hs4
    have HI := Lib.hid hR.out.2.2.2
    clear hset hs4 hg4 hR hFF c4
    go_loopw [13] (fun i wr => ∃ (k : Nat) (fs : List ByteArray), k ≤ n ∧ i = .int .i64 k ∧ Hid (InhW w s a n cap (w.heap.size + 1) ni S wr) ∧ Hid (IsSet wr (w.heap.size + 1 + 1) k fs) ∧ Hid (∀ x ∈ fs, ¬ S x ∧ Inh s x) ∧ Hid (∀ (j : Nat) t, j < k → s[j]? = some t → typeOk S t → S t.name ∨ t.name ∈ fs)) (fun i _ => n - (intOf i).toNat)
    case atStart => exact ⟨0, [], Nat.zero_le _, rfl, HR4.out, HF4.out, (fun x hx => absurd hx (by simp)), (fun j _ h => by omega)⟩
    case round =>
      obtain ⟨k, fs, hk, rfl, hR, hFF, hA, hD⟩ := hrel
      by_cases hlt : k < n
      · have hk' : k < s.length := by rw [HN.out]; exact hlt
        have hltz : (k : Int) < (n : Int) := by omega
        obtain ⟨y, u1, v1, rfl, hc0, hc1, hr1⟩ := row2_below type_below HX.out hR.out.2.1 k hk'
        have hx : s[k]? = some s[k] := List.getElem?_eq_getElem hk'
        have hq := HS.out _ (List.getElem_mem hk')
        have hfx := HF.out _ (List.getElem_mem hk')
        have hmem : s[k] ∈ s := List.getElem_mem hk'
        generalize s[k] = t at hx hr1 hq hfx hmem
        have hr2 := hr1
        obtain ⟨ta, tc, hu, hv, _⟩ := hr2
        subst hu
        subst hv
        have HXE := Lib.hid hx
        have HME := Lib.hid hmem
        have hbD : Below wr.heap.size wr (wr.alloc (.cells #[.string t.name, .slice ta t.cons.length tc] 71)) := (Below.refl _ _).alloc (Nat.le_refl _) _
        have HR5 := Lib.hid (hR.out.below hbD)
        have HF5 := Lib.hid (hFF.out.below hbD)
        have hlk := HR5.out.1.look t.name hfx.1
        have H := impl_hasBuildable _ t _ _ (w.heap.size + 1) ni S (type_below _ _ _ _ _ hr1 hbD) hfx hq.1 hq.2 HR5.out.1
        obtain ⟨e1, e2, _, _⟩ := two_cells (heap_at_new wr (.cells #[.string t.name, .slice ta t.cons.length tc] 71))
        have HT := Lib.hid hfx.1
        clear hx hr1 hq hfx hmem hbD
        by_cases hin : S t.name
        · rw [bl_true hin] at hlk
          have HIN := Lib.hid hin
          clear hin H
          go_wp2
          go_roundw
          case rel => exact ⟨k + 1, fs, by omega, by go_num, HR5.out, World.ownsMap.mono HF5.out (Nat.le_succ k), hA, before_succ' (p := fun t => typeOk S t → S t.name ∨ t.name ∈ fs) hD.out HXE.out (fun _ => .inl HIN.out)⟩
          case measure => simp [intOf]; omega
        · rw [bl_false hin] at hlk
          have HIN := Lib.hid hin
          clear hin
          by_cases hok : typeOk S t
          · rw [bl_true hok] at H
            have HOK := Lib.hid hok
            clear hok
            go_wp2_with fail
            generalize wr.alloc (.cells #[.string t.name, .slice ta t.cons.length tc] 71) = w5 at *
            refine H.mono ?_
            rintro e w6 ⟨rfl, hb6⟩
            have HR6 := Lib.hid (HR5.out.below hb6)
            have hf6 := HF5.out.below hb6
            have d1 := cell_below e1 hb6
            obtain ⟨w7, hput, hf7, hg7⟩ := hf6.put (by unfold maxLen; omega) t.name HT.out
            have HR7 : Hid (InhW w s (some y) n cap (w.heap.size + 1) ni S w7) := HR6.out.grown hg7 (by omega) (by omega)
            have HF7 := Lib.hid hf7
            clear hb6 hf6 hf7 hg7 H hlk e1 e2
            go_wp2
            go_roundw
            case rel =>
              refine ⟨k + 1, fs ++ [t.name], by omega, by go_num, HR7.out, HF7.out, fun x hx => ?_, ?_⟩
              · rcases List.mem_append.1 hx with h | h
                · exact hA.out x h
                · simp at h
                  subst h
                  exact ⟨HIN.out, inh_step hR.out.2.2.2 HME.out HOK.out⟩
              · exact before_succ' (p := fun t => typeOk S t → S t.name ∨ t.name ∈ _) (fun j z hj hz ho => (hD.out j z hj hz ho).imp id (fun h => List.mem_append_left _ h)) HXE.out (fun _ => .inr (by simp))
            case measure => simp [intOf]; omega
          · rw [bl_false hok] at H
            have HOK := Lib.hid hok
            clear hok
            go_wp2_with fail
            generalize wr.alloc (.cells #[.string t.name, .slice ta t.cons.length tc] 71) = w5 at *
            refine H.mono ?_
            rintro e w6 ⟨rfl, hb6⟩
            have HR6 := Lib.hid (HR5.out.below hb6)
            have HF6 := Lib.hid (HF5.out.below hb6)
            clear hb6 H hlk e1 e2
            go_wp2
            go_roundw
            case rel => exact ⟨k + 1, fs, by omega, by go_num, HR6.out, World.ownsMap.mono HF6.out (Nat.le_succ k), hA, before_succ' (p := fun t => typeOk S t → S t.name ∨ t.name ∈ fs) hD.out HXE.out (fun h => absurd h HOK.out)⟩
            case measure => simp [intOf]; omega
      · obtain rfl : k = n := by omega
        have hfs := hFF.out
        unfold IsSet at hfs
        have hzz := size_setOf fs
        have c0 := hR.out.2.2.1
        by_cases hnil : fs = []
        · have hz1 : ((Maps.size (Maps.setOf yes (fs.map strLit)) : Nat) : Int) = 0 := by rw [hzz.2 hnil]; rfl
          have HCL : Hid (∀ x, S x ↔ Inh s x) := by
            refine inh_closed (fun t ht ho => ?_) HI.out
            obtain ⟨j, hj, e2⟩ := List.mem_iff_getElem.1 ht
            rcases hD.out j t (by have := HN.out; omega) (by rw [List.getElem?_eq_getElem hj, e2]) ho with h | h
            · exact h
            · rw [hnil] at h
              cases h
          clear hzz hnil
          go_wp2_with (refine wpList_len_own _ rfl _ 111 rfl 9 4 Tryz.underlying111 (plainElem (H := Unit) Tryz.prog 4) (w.heap.size + 1 + 1) k _ rfl hfs ?_; rw [hz1])
          go_ret
          exact ⟨⟨_, ni, S, rfl, hR.out.1, HCL.out⟩, hR.out.2.1⟩
        · have hz1 : ∃ q : Nat, Maps.size (Maps.setOf yes (fs.map strLit)) = q ∧ (((q : Nat) : Int) == 0) = false := ⟨_, rfl, by have := fun h => hnil (hzz.1 h); simpa using this⟩
          obtain ⟨q, hq1, hq2⟩ := hz1
          have hqk : Maps.size (Maps.setOf yes (fs.map strLit)) ≤ k := World.ownsMap.size_le hfs
          rw [hq1] at hqk
          have HMM : Hid (missing s (fun x => S x ∨ x ∈ fs) < missing s S) := by
            refine (missing_less (fun x h => .inl h)).2 ?_
            cases hfs2 : fs with
            | nil => exact absurd hfs2 hnil
            | cons z r =>
              have hz := hA.out z (by rw [hfs2]; simp)
              exact ⟨z, inh_name hz.2, hz.1, .inr (by simp)⟩
          have hC' := hC.out
          have hM' := hM.out
          have hgk : 1 ≤ gk := by omega
          have H := copy_sets (w.heap.size + 1) (w.heap.size + 1 + 1) ni k S fs wr hR.out.1 hFF.out (by omega) (by unfold maxLen; omega)
          clear hzz hnil
          have HC' := Lib.hid hC'
          have HM' := Lib.hid hM'
          clear hC' hM'
          go_wp2_with (first | (refine wpList_len_own _ rfl _ 111 rfl 9 4 Tryz.underlying111 (plainElem (H := Unit) Tryz.prog 4) (w.heap.size + 1 + 1) k _ rfl hfs ?_; rw [hq1]) | fail)
          refine H.mono ?_
          rintro e w8 ⟨rfl, h8, hf8, hg8⟩
          have hB8 : Below w.heap.size w w8 := hR.out.2.1.grown hg8 hR.out.2.1.size (fun b e => by have := Option.some.inj e; omega)
          have c8 := hg8.cell c0 (fun e => by have := Option.some.inj e; simp at this)
          have HR8 : Hid (InhW w s a k cap (w.heap.size + 1) (ni + k) (fun x => S x ∨ x ∈ fs) w8) := ⟨h8, hB8, c8, fun x hx => hx.elim (HI.out x) (fun h => (hA.out x h).2)⟩
          have HF8 := Lib.hid hf8
          clear h8 hf8 hg8 hB8 c8 H hfs c0
          go_wp2
          go_roundg (gk - 1)
          case measure => omega
          case rel =>
            have := HC'.out
            have := HM'.out
            have := HMM.out
            exact ⟨ni + k, k, _, fs, HR8.out, HF8.out, (by show _ + 1 ≤ gk - 1; omega), (by show _ ≤ _; omega)⟩
end Go.Proofs.YtdilegbigaahnaaGreat
end

/- What is proved here: the model's l3Round (package spec): one round adds names of types that have values, and where it adds none the list is closed. Condition: the signature lies in memory as said, and is small. -/
section
namespace Go.Proofs.YtdilegbigaahnaaGreat
open Go.RowKit

/-- The world of a round: the list of names as it grows, in a row of the call's own; the box of the signature. -/
structure Rnd (wb w : World) (B : Nat) (s : List TypeD) (a : Option Addr) (cap n0 : Nat) (xs cs : List ByteArray) (v : Value) (wr : World) : Prop where
  own : wr.ownsRow B 9 1 v cs.length (cs.map Value.string)
  low : Below B w wr
  base : Below wb.heap.size wb wr
  box : wr.cell? ⟨n0, 0, none⟩ = some (.slice a s.length cap)
  apart : v.ownBlock ≠ some n0
  le : B ≤ wr.heap.size
  lt : n0 < wr.heap.size
  stage : Stage s cs
  more : ∃ zs, cs = xs ++ zs
theorem Rnd.below {wb w : World} {B : Nat} {s : List TypeD} {a : Option Addr} {cap n0 : Nat} {xs cs : List ByteArray} {v : Value} {wr w' : World} (h : Rnd wb w B s a cap n0 xs cs v wr) (hb : Below wr.heap.size wr w') : Rnd wb w B s a cap n0 xs cs v w' :=
  ⟨h.own.kept (row := none) ⟨hb.os, hb.tape, hb.output, hb.size, fun k hk _ => hb.block k hk⟩ (by cases hv : v.ownBlock <;> simp), h.low.trans (hb.mono h.le), h.base.trans (hb.mono h.base.size), cell_below h.box hb, h.apart, Nat.le_trans h.le hb.size, Nat.lt_of_lt_of_le h.lt hb.size, h.stage, h.more⟩
theorem Rnd.append {wb w : World} {B : Nat} {s : List TypeD} {a : Option Addr} {cap n0 : Nat} {xs cs : List ByteArray} {v : Value} {wr w' : World} {x : ByteArray} (h : Rnd wb w B s a cap n0 xs cs v wr) (hB : wb.heap.size ≤ B) (hx : ¬ x ∈ cs) (hi : Inh s x) {g c : Nat} (ho : w'.ownsRow B 9 1 (.slice (some ⟨g, 0, none⟩) (cs.length + 1) c) (cs.length + 1) (cs.map Value.string ++ [.string x])) (hg : wr.grownBy w' v.ownBlock) (hat : v.ownBlock = some g ∨ g = wr.heap.size) :
    Rnd wb w B s a cap n0 xs (cs ++ [x]) (.slice (some ⟨g, 0, none⟩) (cs.length + 1) c) w' := by
  have hr : ∀ k, v.ownBlock = some k → B ≤ k := fun k hk => (h.own.lt k hk).1
  refine ⟨?_, h.low.grown hg h.le hr, h.base.grown hg h.base.size (fun k hk => Nat.le_trans hB (hr k hk)), hg.cell h.box (fun e => h.apart e.symm), ?_, Nat.le_trans h.le hg.size, Nat.lt_of_lt_of_le h.lt hg.size, h.stage.add hx hi, ?_⟩
  · rw [List.length_append, List.map_append]
    exact ho
  · intro e
    have e1 : g = n0 := Option.some.inj e
    rcases hat with h1 | h1
    · exact h.apart (by rw [h1, e1])
    · have := h.lt
      omega
  · obtain ⟨zs, hz⟩ := h.more
    exact ⟨zs ++ [x], by rw [hz, List.append_assoc]⟩
theorem Rnd.grew {wb w : World} {B : Nat} {s : List TypeD} {a : Option Addr} {cap n0 : Nat} {xs cs : List ByteArray} {v : Value} {wr : World} (h : Rnd wb w B s a cap n0 xs cs v wr) (x : ByteArray) : cs ++ [x] ≠ xs := by
  obtain ⟨zs, hz⟩ := h.more
  intro e
  have := congrArg List.length e
  rw [hz] at this
  simp at this

set_option maxHeartbeats 2000000 in
set_option maxRecDepth 100000 in
theorem spec_round (wb w : World) (B : Nat) (a : Option Addr) (cap : Nat) (s : List TypeD) (v : Value) (xs : List ByteArray) (hx : Row2 TypeAt wb a s) (hm : s.length ≤ 1048576) (hs : ∀ c ∈ s, c.cons.length ≤ 1048576 ∧ ∀ d ∈ c.cons, d.args.length ≤ 1048576) (hB : wb.heap.size ≤ B) (hb : Below wb.heap.size wb w) (hBw : B ≤ w.heap.size) (hown : w.ownsRow B 9 1 v xs.length (xs.map Value.string)) (hst : Stage s xs) :
    Calls Tryz.prog 71 #[.agg #[.slice a s.length cap], v] w fun e w' => ∃ v' ys, e = .returned v' ∧ w'.ownsRow B 9 1 v' ys.length (ys.map Value.string) ∧ Below B w w' ∧ Stage s ys ∧ (∃ zs, ys = xs ++ zs) ∧ (ys = xs → Closed s (· ∈ xs)) := by
  have HX := Lib.hid hx
  have HS := Lib.hid hs
  have HBB := Lib.hid hB
  have hnv : v.ownBlock ≠ some w.heap.size := fun e => by have := (hown.lt _ e).2; omega
  have hbA : Below w.heap.size w (w.alloc (.cells #[.slice a s.length cap] 33)) := (Below.refl _ _).alloc (Nat.le_refl _) _
  have HR0 : Hid (Rnd wb w B s a cap w.heap.size xs xs v (w.alloc (.cells #[.slice a s.length cap] 33))) :=
    ⟨hown.alloc _, hbA.mono hBw, hb.trans (hbA.mono hb.size), (one_cell (heap_at_new w _)).1, hnv, Nat.le_trans hBw hbA.size, by have : (w.alloc (.cells #[.slice a s.length cap] 33)).heap.size = w.heap.size + 1 := Array.size_push _; omega, hst, ⟨[], by simp⟩⟩
  obtain ⟨i0, hi, hz0, hz1, hz2⟩ := info_parts (show (Tryz.prog.info? 9).map (fun i => (i.zero, i.size, i.bytes)) = some (some (.string ⟨#[]⟩), 1, 16) by kernel_rfl)
  clear hx hs hB hnv hbA hown hst hb
  generalize hn : s.length = n at *
  have HN := Lib.hid hn
  clear hn
  go_enter Tryz.func71, Tryz.ntmps71
  go_wp2
  generalize w.alloc (.cells #[.slice a n cap] 33) = w0 at *
  go_loopw [1, 5] (fun v i wr => ∃ (k : Nat) (cs : List ByteArray), k ≤ n ∧ i = .int .i64 k ∧ Hid (Rnd wb w B s a cap w.heap.size xs cs v wr) ∧ Hid (cs = xs → ∀ (j : Nat) t, j < k → s[j]? = some t → typeOk (· ∈ xs) t → t.name ∈ xs)) (fun _ i _ => n - (intOf i).toNat)
  case atStart => exact ⟨0, xs, Nat.zero_le _, rfl, HR0, fun _ j _ h => by omega⟩
  case round =>
    obtain ⟨k, cs, hk, rfl, hR, hD⟩ := hrel
    have c0 := hR.out.box
    rw [HN.out] at c0
    by_cases hlt : k < n
    · have hk' : k < s.length := by rw [HN.out]; exact hlt
      have hltz : (k : Int) < (n : Int) := by omega
      have hx : s[k]? = some s[k] := List.getElem?_eq_getElem hk'
      have hq := HS.out _ (List.getElem_mem hk')
      obtain ⟨y, u9, v9, rfl, hc0, hc1, hr1⟩ := row2_below type_below HX.out hR.out.base k hk'
      generalize s[k] = t at hx hq hr1
      obtain ⟨ta, tc, hu, hv, hr2⟩ := hr1
      subst hu
      subst hv
      have HXE := Lib.hid hx
      have HQ := Lib.hid hq.2
      have hq1 := hq.1
      clear hx hq hr2
      generalize hn2 : t.cons.length = n2 at *
      have HN2 := Lib.hid hn2
      clear hn2
      go_wp2
      go_loopw [1, 6] (fun v i wr => ∃ (i2 : Nat) (cs : List ByteArray), i2 ≤ n2 ∧ i = .int .i64 i2 ∧ Hid (Rnd wb w B s (some y) cap w.heap.size xs cs v wr) ∧ Hid (cs = xs → ∀ (j : Nat) t, j < k → s[j]? = some t → typeOk (· ∈ xs) t → t.name ∈ xs) ∧ Hid (cs = xs → ∀ (j : Nat) c, j < i2 → t.cons[j]? = some c → conOk (· ∈ xs) c → t.name ∈ xs)) (fun _ i _ => n2 - (intOf i).toNat)
      case atStart => exact ⟨0, cs, Nat.zero_le _, rfl, hR, hD, fun _ j _ h => by omega⟩
      case round =>
        clear c0 hc0 hc1 hR hD
        obtain ⟨i, cs, hi2, rfl, hR, hD, hE⟩ := hrel
        have c0 := hR.out.box
        rw [HN.out] at c0
        obtain ⟨y', u9, v9, hy', hc0, hc1, hr1⟩ := row2_below type_below HX.out hR.out.base k hk'
        obtain rfl := Option.some.inj hy'
        have hst : s[k] = t := by
          have := HXE.out
          rw [List.getElem?_eq_getElem hk'] at this
          exact Option.some.inj this
        rw [hst] at hr1
        obtain ⟨ta', tc', rfl, rfl, hr2⟩ := hr1
        rw [HN2.out] at hc1
        clear hst hy'
        by_cases hlt2 : i < n2
        · have hi' : i < t.cons.length := by rw [HN2.out]; exact hlt2
          have hltz2 : (i : Int) < (n2 : Int) := by omega
          have hx2 : t.cons[i]? = some t.cons[i] := List.getElem?_eq_getElem hi'
          have hq2 := HQ.out _ (List.getElem_mem hi')
          obtain ⟨y2, u2, v2, rfl, hd0, hd1, hr3⟩ := hr2 i hi'
          generalize t.cons[i] = c at hx2 hq2 hr3
          have HCE := Lib.hid hx2
          obtain ⟨hl1, la, lc, rfl, hlr⟩ := owned_reads hR.out.own
          have hsl := hR.out.stage.length
          have H := spec_lives wr c u2 v2 la lc cs hr3 hq2 hlr (by have := HN.out; omega)
          clear hx2 hr2 hl1 hr3
          have hHl := hlr
          clear hlr
          by_cases hco : conOk (· ∈ cs) c
          · rw [bl_true hco] at H
            have HCO := Lib.hid hco
            clear hco
            have HHL := Lib.hid hHl
            clear hHl
            have hidx := idx_mem cs t.name
            have hlo := idx_lo cs t.name
            have HI := fun w' hr => spec_index w' la lc cs t.name hr (by have := HN.out; unfold maxLen; omega)
            go_wp2_with fail
            refine H.mono ?_
            rintro e w1 ⟨rfl, hb1⟩
            have HR1 := Lib.hid (hR.out.below hb1)
            have H2 := HI w1 (reads_below HHL.out hb1)
            have e0 := cell_below c0 hb1
            have e1 := cell_below hc0 hb1
            by_cases hz : Lib.idxOfS cs t.name < 0
            · have HNM := Lib.hid (hidx.1 hz)
              have hz' : decide (Lib.idxOfS cs t.name < 0) = true := decide_eq_true hz
              clear hidx hz H hb1 HI
              generalize Lib.idxOfS cs t.name = z at *
              go_wp2_with fail
              refine H2.mono ?_
              rintro e w2 ⟨rfl, rfl⟩
              have HR1 : Hid (Rnd wb w B s (some y) cap w.heap.size xs cs (.slice la cs.length lc) (w2.alloc (.cells #[.string t.name] 9))) := HR1.out.below ((Below.refl _ _).alloc (Nat.le_refl _) _)
              have how := HR1.out.own
              have hle := HR1.out.le
              have hsz : (w2.alloc (.cells #[.string t.name] 9)).heap.size = w2.heap.size + 1 := Array.size_push _
              go_wp2_with (at_builtin; refine wpList_append_lies _ rfl _ _ 67 rfl B 9 i0 (.string ⟨#[]⟩) 1 16 Tryz.underlying67 hi hz0 hz1 hz2 rfl (by decide) _ cs.length (cs.map Value.string) rfl how ⟨w2.heap.size, 0, none⟩ 1 1 [.string t.name] rfl rfl (cell_one_new _ _ _) ?d1 (by decide) ?d2 ?d3 hle _ rfl ?_)
              case d1 => intro u hu; simp at hu; subst hu; rfl
              case d2 => unfold maxLen; have := HN.out; omega
              case d3 => have := HN.out; omega
              intro g cap3 w4 hown hgrow hat hlt4
              have ht : t ∈ s := by
                obtain ⟨h4, h5⟩ := List.getElem?_eq_some_iff.1 HXE.out
                exact h5 ▸ List.getElem_mem h4
              have hc : c ∈ t.cons := by
                obtain ⟨h4, h5⟩ := List.getElem?_eq_some_iff.1 HCE.out
                exact h5 ▸ List.getElem_mem h4
              have HR4 : Hid (Rnd wb w B s (some y) cap w.heap.size xs (cs ++ [t.name]) (.slice (some ⟨g, 0, none⟩) (cs.length + 1) cap3) w4) := HR1.out.append HBB.out HNM.out (inh_step HR1.out.stage.2 ht ⟨c, hc, HCO.out⟩) hown hgrow (hat.imp id (fun h => by rw [hsz]; exact h))
              have HGW := Lib.hid (HR1.out.grew t.name)
              clear how hle hown hgrow hat ht hc hlt4
              go_wp2
              go_roundw
              case rel => exact ⟨i + 1, cs ++ [t.name], by omega, by go_num, HR4, fun e => absurd e HGW.out, fun e => absurd e HGW.out⟩
              case measure => simp [intOf]; omega
            · have HNM : Hid (t.name ∈ cs) := Classical.not_not.1 (fun h => hz (hidx.2 h))
              have hz' : decide (Lib.idxOfS cs t.name < 0) = false := decide_eq_false hz
              clear hidx hz H hb1 HI
              generalize Lib.idxOfS cs t.name = z at *
              go_wp2_with fail
              refine H2.mono ?_
              rintro e w2 ⟨rfl, rfl⟩
              go_wp2
              go_roundw
              case rel => exact ⟨i + 1, cs, by omega, by go_num, HR1, hD, fun e => before_succ' (p := fun c => conOk (· ∈ xs) c → t.name ∈ xs) (hE.out e) HCE.out (fun _ => e ▸ HNM.out)⟩
              case measure => simp [intOf]; omega
          · rw [bl_false hco] at H
            have HCO := Lib.hid hco
            clear hco hHl
            go_wp2_with fail
            refine H.mono ?_
            rintro e w1 ⟨rfl, hb1⟩
            have HR1 := Lib.hid (hR.out.below hb1)
            clear hb1 H
            go_wp2
            go_roundw
            case rel => exact ⟨i + 1, cs, by omega, by go_num, HR1, hD, fun e => before_succ' (p := fun c => conOk (· ∈ xs) c → t.name ∈ xs) (hE.out e) HCE.out (fun h => absurd (e ▸ h) HCO.out)⟩
            case measure => simp [intOf]; omega
        · have HNX : Hid (cs = xs → typeOk (· ∈ xs) t → t.name ∈ xs) := fun e h => by
            obtain ⟨c, hc, hco⟩ := h
            obtain ⟨j, hj, e2⟩ := List.mem_iff_getElem.1 hc
            exact hE.out e j c (by have := HN2.out; omega) (by rw [List.getElem?_eq_getElem hj, e2]) hco
          go_wp2
          go_roundw
          case rel => exact ⟨k + 1, cs, by omega, by go_num, hR, fun e => before_succ' (p := fun t => typeOk (· ∈ xs) t → t.name ∈ xs) (hD.out e) HXE.out (HNX.out e)⟩
          case measure => simp [intOf]; omega
    · have HCL : Hid (cs = xs → Closed s (· ∈ xs)) := fun e t ht h => by
        obtain ⟨j, hj, e2⟩ := List.mem_iff_getElem.1 ht
        exact hD.out e j t (by have := HN.out; omega) (by rw [List.getElem?_eq_getElem hj, e2]) h
      go_wp2
      go_ret
      exact ⟨_, cs, rfl, hR.out.own, hR.out.low, hR.out.stage, hR.out.more, HCL.out⟩
end Go.Proofs.YtdilegbigaahnaaGreat
end
