/- What is proved here: a piece of the proof of YtdilegbigaahnaaGreatExactIsValueOf (SpecCon, SpecType, Shelf, ImplCopy, ImplCopyType, SpecFind). Condition: none beyond what each part says. -/
import Derived.Test.YtdilegbigaahnaaGreatVo01
import Derived.Deep.AppendLies
import Derived.Deep.RegionLaw
import Derived.Shelf.Small.Bits
import Derived.Shelf.Strconv.Itoa0
import Derived.Shelf.Sort.Plain
import Derived.Ground.Names2Prog
import Derived.Shelf.Slices.Clone
import Derived.Shelf.Slices.CompactS
import Derived.Shelf.Slices.Cells
import Derived.Shelf.Slices.In.SortNone
import Derived.Ground.SlgnProg
import Derived.Shelf.SlicesE.Clone
import Derived.Test.YtdilegbigaahnaaGreatProg
import Derived.Test.YtdilegbigaahnaaGreatVo02
import Derived.Laws.ResultCell

/- What is proved here: the model's copy of a constructor (package spec, l3Con). Condition: it lies in memory as said, and is small. -/
section
namespace Go.Proofs.YtdilegbigaahnaaGreat
open Go.RowKit

theorem texts_one (xs : List ByteArray) : ∀ u ∈ xs.map Value.string, u.oneCell' = true := by
  intro u hu
  obtain ⟨x, _, rfl⟩ := List.mem_map.1 hu
  rfl
theorem reads_news {w : World} {y : Addr} {xs : List ByteArray} (h : Reads w (some y) xs) : ∀ j u, (xs.map Value.string)[j]? = some u → w.cell? (y.add j) = some u := by
  intro j u hj
  rw [List.getElem?_map] at hj
  by_cases hl : j < xs.length
  · rw [List.getElem?_eq_getElem hl] at hj
    obtain rfl : Value.string xs[j] = u := Option.some.inj hj
    obtain ⟨y', hy, hc⟩ := h j hl
    obtain rfl := Option.some.inj hy
    exact hc
  · rw [List.getElem?_eq_none (by omega)] at hj
    cases hj
theorem three0 (w : World) (o0 o1 o2 : Obj) : (((w.alloc o0).alloc o1).alloc o2).heap[w.heap.size]? = some o0 := by
  have s1 : (w.alloc o0).heap.size = w.heap.size + 1 := Array.size_push _
  have s2 : ((w.alloc o0).alloc o1).heap.size = (w.alloc o0).heap.size + 1 := Array.size_push _
  rw [Below.heap_alloc _ _ _ (by omega), Below.heap_alloc _ _ _ (by omega)]
  exact heap_at_new w o0
theorem three_mid (w : World) (o0 o1 o2 : Obj) : (((w.alloc o0).alloc o1).alloc o2).drew.heap[w.heap.size + 1]? = some o1 := (three w o0 o1 o2).2.1
theorem three_grown {w w3 : World} {o0 o1 : Obj} {p : Prop} (h : w3.heap.size = w.heap.size + 3 ∧ w3.heap[w.heap.size + 1]? = some o1 ∧ p ∧ Below w.heap.size w w3) (h0 : w3.heap[w.heap.size]? = some o0) (w1 : World) (r : Option Nat) (hg : w3.drew.grownBy w1 r) (hr : r = some (w.heap.size + 1 + 1)) : w1.heap[w.heap.size + 1]? = some o1 ∧ w1.heap[w.heap.size]? = some o0 ∧ Below w.heap.size w w1 := by
  obtain ⟨h1, h2, _, h4⟩ := h
  subst hr
  have hs : w3.drew.heap.size = w3.heap.size := rfl
  exact ⟨(hg.block (w.heap.size + 1) (by omega) (fun e => by have := Option.some.inj e; omega)).trans h2, (hg.block w.heap.size (by omega) (fun e => by have := Option.some.inj e; omega)).trans h0, h4.drew.grown hg (by omega) (fun k e => by have := Option.some.inj e; omega)⟩
/-- What 'ownsRow' says of texts. -/
theorem owns_owned {w : World} {B : Nat} {g cap : Nat} {n : Nat} {xs : List ByteArray} (h : w.ownsRow B 9 1 (.slice (some ⟨g, 0, none⟩) n cap) n (xs.map Value.string)) : OwnS (fun b => b = g) w (.slice (some ⟨g, 0, none⟩) n cap) xs := by
  obtain ⟨g2, cap2, rest, hv, _, hb, hn⟩ := block_of_owned h (by intro e; cases e)
  injection hv with h1 h2 h3
  injection h1 with h1
  injection h1 with h1
  subst h1
  subst hn
  exact ⟨_, _, rfl, .inr ⟨g, rest, rfl, rfl, hb⟩⟩

set_option maxHeartbeats 1000000 in
set_option maxRecDepth 100000 in
theorem l3Con_any (w : World) (c : ConD) (u v : Value) (hx : ConAt w c u v) (hm : c.args.length ≤ 1048576) :
    Calls Tryz.prog 72 #[.agg #[u, v]] w fun e w' => (∃ u' v', e = .returned (.agg #[u', v']) ∧ OwnCon (Came w w') w' c u' v') ∧ Below w.heap.size w w' := by
  obtain ⟨a, cap, rfl, rfl, hr⟩ := hx
  by_cases h0 : c.args = []
  · have HR := Lib.hid h0
    have hl : c.args.length = 0 := by simp [h0]
    rw [hl]
    have HL := Lib.hid hl
    clear hr hl h0
    cases a
    all_goals
      go_enter Tryz.func72, Tryz.ntmps72
      go_wp2
      go_region
      go_wp2
      refine bodyPost_ret (results_cell_row rfl _ _ (w.heap.size + 1) _ _ _ _ rfl (three_mid _ _ _ _) Tryz.underlying73 rfl (by kernel_rfl)) rfl ?_
      exact ⟨⟨_, _, rfl, rfl, _, _, by rw [HL.out], .inl HR.out⟩, (three _ _ _ _).2.2.2.drew⟩
  · obtain ⟨y, rfl⟩ : ∃ y, a = some y := by
      obtain ⟨y, hy, _⟩ := hr 0 (List.length_pos_iff.2 h0)
      exact ⟨y, hy⟩
    have hi : (Tryz.prog.info? 9).map (fun i => (i.zero, i.size, i.bytes)) = some (some (.string ⟨#[]⟩), 1, 16) := by kernel_rfl
    obtain ⟨i0, hi, hz0, hz1, hz2⟩ := info_parts hi
    have hpos : 0 < c.args.length := List.length_pos_iff.2 h0
    have h3 := three w (.cells #[.string c.name, .slice (some y) c.args.length cap] 73) (.cells #[.string ⟨#[]⟩, .slice none 0 0] 73) (.cells #[] 9)
    have how := World.ownsRow_made (base := w.heap.size) (e := 9) (size := 1) ((w.alloc (.cells #[.string c.name, .slice (some y) c.args.length cap] 73)).alloc (.cells #[.string ⟨#[]⟩, .slice none 0 0] 73)) #[] 0 (by simp; omega) (by decide) (by simp)
    have hsz : ((w.alloc (.cells #[.string c.name, .slice (some y) c.args.length cap] 73)).alloc (.cells #[.string ⟨#[]⟩, .slice none 0 0] 73)).heap.size = w.heap.size + 1 + 1 := by simp
    rw [hsz] at how
    have HO := Lib.hid how.drew
    have HG := Lib.hid (three_grown h3 (three0 _ _ _ _))
    have H3 := Lib.hid h3
    have HR := Lib.hid hr
    clear h0 h3 hr how hsz
    go_enter Tryz.func72, Tryz.ntmps72
    go_wp2
    go_region_law (first
      | (refine step_append_lies _ rfl _ _ 67 rfl w.heap.size 9 i0 (.string ⟨#[]⟩) 1 16 Tryz.underlying67 hi hz0 hz1 hz2 rfl (by decide) _ 0 [] rfl HO.out y c.args.length cap (c.args.map Value.string) rfl (by simp) (reads_news (reads_below HR.out H3.out.2.2.2.drew)) (texts_one _) hpos (by unfold maxLen; omega) (by omega) (by simp; omega) (w.heap.size + 3) H3.out.1 ?_
         intro g cap2 w1 hown hgrow hat hlt
         obtain ⟨hq, hq0, hb1⟩ := HG.out w1 _ hgrow rfl
         obtain ⟨q5, q6, q7, q8⟩ := two_cells hq0
         obtain ⟨q1, q2, q3, q4⟩ := two_cells hq
         have HQ := Lib.hid hq
         have HB1 := Lib.hid hb1
         rw [Nat.zero_add] at hown
         have HRR := Lib.hid (owns_owned hown)
         have hg : w.heap.size + 1 ≠ g := by
           rcases hat with h | h
           · injection (show some (w.heap.size + 1 + 1) = some g from h) with h
             omega
           · omega
         have hg2 : w.heap.size ≤ g := by
           rcases hat with h | h
           · injection (show some (w.heap.size + 1 + 1) = some g from h) with h
             omega
           · omega
         clear hown hgrow hat hq hq0 hb1))
    all_goals
      go_wp2
      refine bodyPost_ret (results_cell_row rfl _ _ (w.heap.size + 1) _ _ _ _ rfl (two_set (two_set HQ.out _).1 _).2 Tryz.underlying73 rfl (by kernel_rfl)) rfl ?_
      refine ⟨⟨_, _, rfl, rfl, (HRR.out.keep ?_).wider ?_⟩, (HB1.out.setCell (by show _ ≤ w.heap.size + 1; omega) _).setCell (by show _ ≤ w.heap.size + 1; omega) _⟩
      · rintro b rfl
        rw [Below.heap_setCell _ _ _ _ (fun e => hg e.symm), Below.heap_setCell _ _ _ _ (fun e => hg e.symm)]
      · rintro b rfl
        exact ⟨hg2, by simpa [World.setCell] using hlt⟩
end Go.Proofs.YtdilegbigaahnaaGreat
end

/- What is proved here: the model's copy of a declared type (package spec, l3Type). Condition: it lies in memory as said, and is small. -/
section
namespace Go.Proofs.YtdilegbigaahnaaGreat
open Go.RowKit

theorem news_two (w : World) (x y : Value) (T : TypeId) (N : Nat) (hN : w.heap.size = N) : ∀ j u, [x, y][j]? = some u → (w.alloc (.cells #[x, y] T)).cell? ((⟨N, 0, none⟩ : Addr).add j) = some u := by
  subst hN
  have h := two_cells (heap_at_new w (.cells #[x, y] T))
  intro j u hj
  match j, hj with
  | 0, hj => simp at hj; subst hj; exact h.1
  | 1, hj => simp at hj; subst hj; exact h.2.1

/-- The copy of a type as it grows: its box, the result's cell, the copy. -/
def Copying (w : World) (t : TypeD) (a : Option Addr) (cap k : Nat) (v : Value) (wr : World) : Prop :=
  wr.heap[w.heap.size]? = some (.cells #[.string t.name, .slice a t.cons.length cap] 71 (0, 0)) ∧ wr.heap[w.heap.size + 1]? = some (.cells #[.string ⟨#[]⟩, .slice none 0 0] 71 (0, 0)) ∧
    wr.heap[w.heap.size + 1 + 1]? = some (.cells #[.string t.name, v] 71 (0, 0)) ∧ Growing 73 OwnCon (w.heap.size + 3) t.cons k v wr ∧ Below w.heap.size w wr

theorem Copying.next {w : World} {t : TypeD} {a : Option Addr} {cap k : Nat} {v v' : Value} {wr w4 : World} (h : Copying w t a cap k v wr) (hG : Growing 73 OwnCon (w.heap.size + 3) t.cons (k + 1) v' w4) (hold : ∀ b, b < w.heap.size + 3 → w4.heap[b]? = wr.heap[b]?)
    (h1 : w4.os = wr.os) (h2 : w4.tape = wr.tape) (h3 : w4.output = wr.output) (h4 : wr.heap.size ≤ w4.heap.size) :
    w4.cell? ⟨w.heap.size + 1 + 1, 1, none⟩ = some v ∧ w4.frozen? ⟨w.heap.size + 1 + 1, 1, none⟩ = false ∧ Copying w t a cap (k + 1) v' (w4.setCell ⟨w.heap.size + 1 + 1, 1, none⟩ v') := by
  obtain ⟨c0, c1, c2, c3, c4⟩ := h
  have d0 := (hold w.heap.size (by omega)).trans c0
  have d1 := (hold (w.heap.size + 1) (by omega)).trans c1
  have d2 := (hold (w.heap.size + 1 + 1) (by omega)).trans c2
  obtain ⟨_, q1, _, q2⟩ := two_cells d2
  refine ⟨q1, q2, ?_, ?_, (two_set d2 _).2, hG.keep keeps_con (by simp [World.setCell]) (fun b hb _ => Below.heap_setCell _ _ _ _ (by show b ≠ w.heap.size + 1 + 1; omega)), Below.setCell (p := ⟨w.heap.size + 1 + 1, 1, none⟩) (c4.trans ⟨h1, h2, h3, h4, fun b hb => hold b (by omega)⟩) (by show w.heap.size ≤ w.heap.size + 1 + 1; omega) _⟩
  · rw [Below.heap_setCell _ _ _ _ (by show w.heap.size ≠ w.heap.size + 1 + 1; omega)]
    exact d0
  · rw [Below.heap_setCell _ _ _ _ (by show w.heap.size + 1 ≠ w.heap.size + 1 + 1; omega)]
    exact d1

set_option maxHeartbeats 1000000 in
set_option maxRecDepth 100000 in
theorem l3Type_any (w : World) (t : TypeD) (u v : Value) (hx : TypeAt w t u v) (hm : t.cons.length ≤ 1048576) (hm2 : ∀ d ∈ t.cons, d.args.length ≤ 1048576) :
    Calls Tryz.prog 83 #[.agg #[u, v]] w fun e w' => (∃ u' v', e = .returned (.agg #[u', v']) ∧ OwnType (Came w w') w' t u' v') ∧ Below w.heap.size w w' := by
  obtain ⟨a, cap, rfl, rfl, hr⟩ := hx
  have HR := Lib.hid hr
  have HS := Lib.hid hm2
  obtain ⟨w3, h3⟩ : ∃ w3, w3 = ((w.alloc (.cells #[.string t.name, .slice a t.cons.length cap] 71)).alloc (.cells #[.string ⟨#[]⟩, .slice none 0 0] 71)).alloc (.cells #[.string t.name, .slice none 0 0] 71) := ⟨_, rfl⟩
  have hC : Copying w t a cap 0 (.slice none 0 0) w3 := by
    have h := three w (.cells #[.string t.name, .slice a t.cons.length cap] 71) (.cells #[.string ⟨#[]⟩, .slice none 0 0] 71) (.cells #[.string t.name, .slice none 0 0] 71)
    have h0 := three0 w (.cells #[.string t.name, .slice a t.cons.length cap] 71) (.cells #[.string ⟨#[]⟩, .slice none 0 0] 71) (.cells #[.string t.name, .slice none 0 0] 71)
    rw [← h3] at h h0
    exact ⟨h0, h.2.1, h.2.2.1, Growing.start (World.ownsRow_nil _ _ _ _) (by omega), h.2.2.2⟩
  have HC := Lib.hid hC
  have H3 := Lib.hid h3
  clear hr hm2 h3 hC
  generalize hn : t.cons.length = n at *
  have HN := Lib.hid hn
  clear hn
  go_enter Tryz.func83, Tryz.ntmps83
  go_wp2
  rw [← H3.out]
  go_loopw [4] (fun i wr => ∃ (k : Nat) (v : Value), k ≤ n ∧ i = .int .i64 k ∧ Hid (Copying w t a cap k v wr)) (fun i _ => n - (intOf i).toNat)
  case atStart => exact ⟨0, _, Nat.zero_le _, rfl, HC⟩
  case round =>
    obtain ⟨k, v, hk, rfl, hC⟩ := hrel
    have hC' := hC.out
    obtain ⟨c0, _, c2, HGW, c4⟩ := hC'
    rw [HN.out] at c0
    obtain ⟨_, e1, _, _⟩ := two_cells c0
    have HC4 := Lib.hid c4
    have HG4 := Lib.hid HGW
    have HC2 := Lib.hid c2
    clear c0 c4 HGW
    by_cases hlt : k < n
    · have hk' : k < t.cons.length := by rw [HN.out]; exact hlt
      obtain ⟨y, u1, v1, rfl, hc0, hc1, hr1⟩ := row2_below con_below HR.out HC4.out k hk'
      have hx : t.cons[k]? = some t.cons[k] := List.getElem?_eq_getElem hk'
      have H := l3Con_any wr.drew t.cons[k] u1 v1 hr1 (HS.out _ (List.getElem_mem hk'))
      generalize t.cons[k] = c at hx hr1 H
      have HX := Lib.hid hx
      have hltz : (k : Int) < (n : Int) := by omega
      obtain ⟨_, e2, _, _⟩ := two_cells c2
      obtain ⟨i0, hi, hz0, hz1, hz2⟩ := zero_Con
      clear hr1 hx c2
      go_wp2
      go_region_law (first
        | (go_simp; go_at_call 72; refine H.mono ?_
           rintro e w1 ⟨⟨u2, v2, rfl, ho⟩, hb1⟩
           have ho2 := ho
           obtain ⟨rfl, a2, cap2, rfl, _⟩ := ho2
           have HO := Lib.hid ho
           have hb1' : Below wr.heap.size wr w1 := below_of_drew hb1
           have HB1 := Lib.hid hb1'
           obtain ⟨_, e3, _, _⟩ := two_cells ((hb1'.block (w.heap.size + 1 + 1) (by rcases Nat.lt_or_ge (w.heap.size + 1 + 1) wr.heap.size with h | h; exact h; have := HC2.out; rw [Array.getElem?_eq_none h] at this; cases this)).trans HC2.out)
           have e4 : (w1.alloc (.cells #[.string c.name, .slice a2 c.args.length cap2] 73)).cell? ⟨w.heap.size + 1 + 1, 1, none⟩ = some v := cell_below e3 ((Below.refl _ _).alloc (Nat.le_refl _) _)
           clear hb1 hb1' ho)
        | (obtain ⟨ps, how, hBs, hstep⟩ := Growing.step keeps_con HG4.out HX.out HO.out HB1.out ((Below.refl _ _).alloc (Nat.le_refl _) (.cells #[.string c.name, .slice a2 c.args.length cap2] 73))
           refine step_append_lies _ rfl _ _ 69 rfl (w.heap.size + 3) 73 i0 (.agg #[.string ⟨#[]⟩, .slice none 0 0]) 2 40 Tryz.underlying69 hi hz0 hz1 hz2 rfl (by decide) v k (flat ps) rfl how ⟨w1.heap.size, 0, none⟩ 1 1 [.string c.name, .slice a2 c.args.length cap2] rfl rfl (news_two w1 _ _ _ _ rfl) (by intro u hu; simp at hu; rcases hu with rfl | rfl <;> rfl) (by decide) (by unfold maxLen; omega) (by omega) hBs _ rfl ?_
           intro g cap3 w4 hown hgrow hat hlt4
           obtain ⟨hG, hold, ho1, ho2, ho3, ho4⟩ := hstep g cap3 w4 hown hgrow hat
           obtain ⟨f1, f2, hC5⟩ := Copying.next hC.out hG hold ho1 ho2 ho3 ho4
           have HC5 := Lib.hid hC5
           clear how hBs hstep hown hgrow hat hG hold ho1 ho2 ho3 ho4 hC5))
      all_goals
        go_wp2
        go_roundw
        case rel => exact ⟨k + 1, _, by omega, by go_num, HC5⟩
        case measure => simp [intOf]; omega
    · obtain rfl : k = n := by omega
      have hD := HG4.out
      rw [← HN.out] at hD
      have hD2 := hD.done
      have hD3 := hD2
      obtain ⟨a2, cap2, rfl, _⟩ := hD3
      have HD := Lib.hid hD2
      obtain ⟨_, c1, _, _, _⟩ := hC.out
      have HC1 := Lib.hid c1
      obtain ⟨p1, p2, p3, p4⟩ := two_cells c1
      obtain ⟨p5, p6, p7, p8⟩ := two_cells c2
      clear c1 c2 hD hD2 HG4
      go_wp2
      refine bodyPost_ret (results_cell_row rfl _ _ (w.heap.size + 1) _ _ _ _ rfl (two_set (two_set HC1.out _).1 _).2 Tryz.underlying71 rfl (by kernel_rfl)) rfl ?_
      refine ⟨⟨_, _, rfl, rfl, (HD.out.keep keeps_con ?_).wider ?_⟩, (HC4.out.setCell (by show _ ≤ w.heap.size + 1; omega) _).setCell (by show _ ≤ w.heap.size + 1; omega) _⟩
      · rintro b ⟨hb1, _⟩
        rw [Below.heap_setCell _ _ _ _ (by show b ≠ w.heap.size + 1; omega), Below.heap_setCell _ _ _ _ (by show b ≠ w.heap.size + 1; omega)]
      · rintro b ⟨hb1, hb2⟩
        exact ⟨by omega, by simpa [World.setCell] using hb2⟩
end Go.Proofs.YtdilegbigaahnaaGreat
end

/- What is proved here: contracts of Go's library, laid at this program's numbers; each is one application of a theorem of the kit. Its own premises are its conditions. -/
section
namespace Go.Proofs
open Go.Shelf
def Tryz.lays190_ren : Go.Shelf.Ren := ⟨fun | 190 => 101 | 125 => 115 | 258 => 114 | 128 => 130 | 129 => 131 | 302 => 121 | 303 => 122 | 304 => 123 | 305 => 124 | 306 => 125 | 307 => 126 | 308 => 127 | 309 => 128 | 310 => 129 | 333 => 132 | 329 => 133 | 330 => 134 | 334 => 135 | 335 => 136 | 336 => 137 | 344 => 138 | n => n, fun | 31 => 67 | 9 => 9 | 3 => 3 | 46 => 140 | 0 => 0 | 51 => 154 | 53 => 156 | 4 => 4 | 183 => 147 | 182 => 146 | 131 => 101 | 5 => 5 | 218 => 157 | 222 => 161 | 228 => 163 | 229 => 164 | n => n, fun | n => n⟩
theorem Tryz.lays190 : Go.Proofs.Lays.n190 Tryz.prog Tryz.lays190_ren := {
  mixed := by kernel_rfl
  f125 := Tryz.func115.trans (congrArg some (by kernel_rfl))
  f128 := Tryz.func130.trans (congrArg some (by kernel_rfl))
  f129 := Tryz.func131.trans (congrArg some (by kernel_rfl))
  f190 := Tryz.func101.trans (congrArg some (by kernel_rfl))
  f258 := Tryz.func114.trans (congrArg some (by kernel_rfl))
  f302 := Tryz.func121.trans (congrArg some (by kernel_rfl))
  f303 := Tryz.func122.trans (congrArg some (by kernel_rfl))
  f304 := Tryz.func123.trans (congrArg some (by kernel_rfl))
  f305 := Tryz.func124.trans (congrArg some (by kernel_rfl))
  f306 := Tryz.func125.trans (congrArg some (by kernel_rfl))
  f307 := Tryz.func126.trans (congrArg some (by kernel_rfl))
  f308 := Tryz.func127.trans (congrArg some (by kernel_rfl))
  f309 := Tryz.func128.trans (congrArg some (by kernel_rfl))
  f310 := Tryz.func129.trans (congrArg some (by kernel_rfl))
  f329 := Tryz.func133.trans (congrArg some (by kernel_rfl))
  f330 := Tryz.func134.trans (congrArg some (by kernel_rfl))
  f333 := Tryz.func132.trans (congrArg some (by kernel_rfl))
  f334 := Tryz.func135.trans (congrArg some (by kernel_rfl))
  f335 := Tryz.func136.trans (congrArg some (by kernel_rfl))
  f336 := Tryz.func137.trans (congrArg some (by kernel_rfl))
  f344 := Tryz.func138.trans (congrArg some (by kernel_rfl))
  t0 := Tryz.underlying0
  a0 := Tryz.isAgg0
  z0 := Tryz.sizeOf0
  v0 := Tryz.zeroValue0
  t3 := Tryz.underlying3
  a3 := Tryz.isAgg3
  z3 := Tryz.sizeOf3
  v3 := Tryz.zeroValue3
  t4 := Tryz.underlying4
  a4 := Tryz.isAgg4
  z4 := Tryz.sizeOf4
  v4 := Tryz.zeroValue4
  t5 := Tryz.underlying5
  a5 := Tryz.isAgg5
  z5 := Tryz.sizeOf5
  v5 := Tryz.zeroValue5
  t9 := Tryz.underlying9
  a9 := Tryz.isAgg9
  z9 := Tryz.sizeOf9
  v9 := Tryz.zeroValue9
  t31 := Tryz.underlying67
  a31 := Tryz.isAgg67
  z31 := Tryz.sizeOf67
  v31 := Tryz.zeroValue67
  t46 := Tryz.underlying140
  a46 := Tryz.isAgg140
  z46 := Tryz.sizeOf140
  v46 := Tryz.zeroValue140
  t51 := Tryz.underlying154
  a51 := Tryz.isAgg154
  z51 := Tryz.sizeOf154
  v51 := Tryz.zeroValue154
  t53 := Tryz.underlying156
  a53 := Tryz.isAgg156
  z53 := Tryz.sizeOf156
  v53 := Tryz.zeroValue156
  t131 := Tryz.underlying101
  a131 := Tryz.isAgg101
  z131 := Tryz.sizeOf101
  v131 := Tryz.zeroValue101
  t182 := Tryz.underlying146
  a182 := Tryz.isAgg146
  z182 := Tryz.sizeOf146
  v182 := Tryz.zeroValue146
  t183 := Tryz.underlying147
  a183 := Tryz.isAgg147
  z183 := Tryz.sizeOf147
  v183 := Tryz.zeroValue147
  t218 := Tryz.underlying157
  a218 := Tryz.isAgg157
  z218 := Tryz.sizeOf157
  v218 := Tryz.zeroValue157
  t222 := Tryz.underlying161
  a222 := Tryz.isAgg161
  z222 := Tryz.sizeOf161
  v222 := Tryz.zeroValue161
  t228 := Tryz.underlying163
  a228 := Tryz.isAgg163
  z228 := Tryz.sizeOf163
  v228 := Tryz.zeroValue163
  t229 := Tryz.underlying164
  a229 := Tryz.isAgg164
  z229 := Tryz.sizeOf164
  v229 := Tryz.zeroValue164 }
open Go.Sort Go.RowKit in
theorem Tryz.slices_Sort_string (blk off cap : Nat) (ss : List (List UInt8)) (w : World) (hH : Holds encStr w blk off ss.toArray) (hblk : blk < w.heap.size) (hsz : ss.length < 4611686018427387904) :
    Calls Tryz.prog 101 #[.slice (some ⟨blk, off, none⟩) ss.length cap] w fun e w' =>
      e = .returned (.tuple #[]) ∧ ∃ n os, w' = grow (putRow encStr (Sort.ahead w n) blk off (ss.mergeSort fun x y => decide (x ≤ y)).toArray) os := Any.slices_Sort_string Tryz.lays190 blk off cap ss w hH hblk hsz
def Tryz.laysNm216_ren : Go.Shelf.Ren := ⟨fun | 16 => 100 | n => n, fun | 24 => 67 | 9 => 9 | 4 => 4 | n => n, fun | n => n⟩
theorem Tryz.laysNm216 : Go.Proofs.Lays2.n16 Tryz.prog Tryz.laysNm216_ren := {
  mixed := by kernel_rfl
  f16 := Tryz.func100.trans (congrArg some (by kernel_rfl))
  t4 := Tryz.underlying4
  a4 := Tryz.isAgg4
  z4 := Tryz.sizeOf4
  v4 := Tryz.zeroValue4
  t9 := Tryz.underlying9
  a9 := Tryz.isAgg9
  z9 := Tryz.sizeOf9
  v9 := Tryz.zeroValue9
  t24 := Tryz.underlying67
  a24 := Tryz.isAgg67
  z24 := Tryz.sizeOf67
  v24 := Tryz.zeroValue67
  i9 := by kernel_rfl }
open Go.RowKit Go.Lib in
theorem Tryz.slices_Clone_string (b off n c : Nat) (zs : List ByteArray) (w : World) (hz : n ≤ zs.length) (hbig : n * 16 ≤ 140737488355328) (hc : ∀ j, j < zs.length → w.cell? ⟨b, off + j, none⟩ = some (.string (zs.getD j ByteArray.empty))) :
    Calls Tryz.prog 100 #[.slice (some ⟨b, off, none⟩) n c] w fun e w' => ∃ v', e = .returned v' ∧ w'.ownsRow w.heap.size 9 1 v' n ((zs.take n).map (Value.string)) ∧ v' ≠ .slice none 0 0 ∧ Below w.heap.size w w' := Any.slices_Clone_string Tryz.laysNm216 b off n c zs w hz hbig hc
open Go.RowKit Go.Lib in
theorem Tryz.slices_Clone_string_nil (n c : Nat) (w : World) :
    Calls Tryz.prog 100 #[.slice none n c] w fun e w' => e = .returned (.slice none 0 0) ∧ w' = w := Any.slices_Clone_string_nil Tryz.laysNm216 n c w
open Go.RowKit Go.Lib in
theorem Tryz.slices_Clone_string_zero (a : Addr) (c : Nat) (w : World) :
    Calls Tryz.prog 100 #[.slice (some a) 0 c] w fun e w' => ∃ v', e = .returned v' ∧ w'.ownsRow w.heap.size 9 1 v' 0 [] ∧ v' ≠ .slice none 0 0 ∧ Below w.heap.size w w' := Any.slices_Clone_string_zero Tryz.laysNm216 a c w
def Tryz.lays194_ren : Go.Shelf.Ren := ⟨fun | 194 => 102 | n => n, fun | 31 => 67 | 9 => 9 | 3 => 3 | 4 => 4 | 0 => 0 | n => n, fun | n => n⟩
theorem Tryz.lays194 : Go.Proofs.Lays.n194 Tryz.prog Tryz.lays194_ren := {
  mixed := by kernel_rfl
  f194 := Tryz.func102.trans (congrArg some (by kernel_rfl))
  t0 := Tryz.underlying0
  a0 := Tryz.isAgg0
  z0 := Tryz.sizeOf0
  v0 := Tryz.zeroValue0
  t3 := Tryz.underlying3
  a3 := Tryz.isAgg3
  z3 := Tryz.sizeOf3
  v3 := Tryz.zeroValue3
  t4 := Tryz.underlying4
  a4 := Tryz.isAgg4
  z4 := Tryz.sizeOf4
  v4 := Tryz.zeroValue4
  t9 := Tryz.underlying9
  a9 := Tryz.isAgg9
  z9 := Tryz.sizeOf9
  v9 := Tryz.zeroValue9
  t31 := Tryz.underlying67
  a31 := Tryz.isAgg67
  z31 := Tryz.sizeOf67
  v31 := Tryz.zeroValue67 }
open Go.RowKit Go.Lib Go.Sort in
theorem Tryz.slices_Compact_string (blk off cap : Nat) (zs : List (List UInt8)) (w : World) (hH : Holds encStr w blk off zs.toArray) (hsz : zs.length ≤ 9223372036854775807) (hcap : zs.length ≤ cap) :
    Calls Tryz.prog 102 #[.slice (some ⟨blk, off, none⟩) zs.length cap] w fun e w' => e = .returned (.slice (some ⟨blk, off, none⟩) (Lib.compact zs).length cap) ∧ ∃ q, w' = putRow encStr (Sort.ahead w q) blk off (Lib.compact zs ++ List.replicate (zs.length - (Lib.compact zs).length) []).toArray := Any.slices_Compact_string Tryz.lays194 blk off cap zs w hH hsz hcap
open Go.RowKit Go.Lib Go.Sort in
theorem Tryz.slices_Compact_string_empty (a : Option Addr) (cap : Nat) (w : World) :
    Calls Tryz.prog 102 #[.slice a 0 cap] w fun e w' => e = .returned (.slice a 0 cap) ∧ w' = w := Any.slices_Compact_string_empty Tryz.lays194 a cap w
open Go.RowKit Go.Sort in
theorem Tryz.slices_Sort_string_none (p : Option Addr) (cap : Nat) (w : World) :
    Calls Tryz.prog 101 #[.slice p 0 cap] w fun e w' => e = .returned (.tuple #[]) ∧ w' = w := Any.slices_Sort_string_none Tryz.lays190 p cap w
end Go.Proofs
end

/- What is proved here: the program's copies of a constructor and of a type (copyCon, copyType) lie in memory of their own. Condition: what is copied lies in memory as said, and is small. -/
section
namespace Go.Proofs.YtdilegbigaahnaaGreat
open Go.RowKit

theorem clone_any (F : Nat → Prop) (w : World) (v : Value) (xs : List ByteArray) (hO : OwnS F w v xs) (hm : xs.length ≤ 1048576) :
    Calls Tryz.prog 100 #[v] w fun e w' => (∃ a2 cap2, e = .returned (.slice a2 xs.length cap2) ∧ OwnS (Came w w') w' (.slice a2 xs.length cap2) xs) ∧ Below w.heap.size w w' := by
  have own : ∀ (w' : World) (v' : Value), w'.ownsRow w.heap.size 9 1 v' xs.length (xs.map Value.string) → ∃ a2 cap2, v' = .slice a2 xs.length cap2 ∧ OwnS (Came w w') w' (.slice a2 xs.length cap2) xs := by
    intro w' v' h
    rcases h.2 with ⟨e1, e2⟩ | ⟨g, cap, cur, rfl, hb, hg, _⟩
    · exact ⟨none, 0, by rw [e1, e2], none, 0, by rw [e2], .inl (List.eq_nil_of_length_eq_zero e2)⟩
    · refine ⟨_, cap, rfl, (owns_owned h).wider ?_⟩
      rintro b rfl
      refine ⟨hb, ?_⟩
      rcases Nat.lt_or_ge b w'.heap.size with h1 | h1
      · exact h1
      · rw [Array.getElem?_eq_none h1] at hg
        cases hg
  obtain ⟨a, cap, rfl, h0 | ⟨g, rest, rfl, hg, hb⟩⟩ := hO
  · subst h0
    cases a with
    | none =>
      refine (Tryz.slices_Clone_string_nil 0 cap w).mono ?_
      rintro e w' ⟨rfl, rfl⟩
      exact ⟨⟨none, 0, rfl, none, 0, rfl, .inl rfl⟩, Below.refl _ _⟩
    | some y =>
      refine (Tryz.slices_Clone_string_zero y cap w).mono ?_
      rintro e w' ⟨v', rfl, h1, _, hbl⟩
      obtain ⟨a2, cap2, rfl, h2⟩ := own w' v' h1
      exact ⟨⟨a2, cap2, rfl, h2⟩, hbl⟩
  · have hr := hb.reads
    have H := Tryz.slices_Clone_string g 0 xs.length cap xs w (Nat.le_refl _) (by omega) (fun j hj => by
      obtain ⟨y, hy, hc⟩ := hr j hj
      injection hy with hy
      subst hy
      have e1 : (⟨g, 0, none⟩ : Addr).add j = ⟨g, 0 + j, none⟩ := by simp [Addr.add]; intro h; omega
      rw [e1] at hc
      rw [hc, List.getD_eq_getElem?_getD, List.getElem?_eq_getElem hj]
      rfl)
    rw [List.take_length] at H
    refine H.mono ?_
    rintro e w' ⟨v', rfl, h1, _, hbl⟩
    obtain ⟨a2, cap2, rfl, h2⟩ := own w' v' h1
    exact ⟨⟨a2, cap2, rfl, h2⟩, hbl⟩

set_option maxHeartbeats 1000000 in
set_option maxRecDepth 100000 in
theorem copyCon_any (F : Nat → Prop) (w : World) (c : ConD) (u v : Value) (hO : OwnCon F w c u v) (hF : ∀ b, F b → b < w.heap.size) (hm : c.args.length ≤ 1048576) :
    Calls Tryz.prog 79 #[.agg #[u, v]] w fun e w' => (∃ u' v', e = .returned (.agg #[u', v']) ∧ OwnCon (Came w w') w' c u' v') ∧ Below w.heap.size w w' := by
  obtain ⟨rfl, hO⟩ := hO
  obtain ⟨w2, h2⟩ : ∃ w2, w2 = (w.alloc (.cells #[.string c.name, v] 73)).alloc (.cells #[.string ⟨#[]⟩, .slice none 0 0] 73) := ⟨_, rfl⟩
  have h := two_alloc w (.cells #[.string c.name, v] 73) (.cells #[.string ⟨#[]⟩, .slice none 0 0] 73)
  rw [← h2] at h
  obtain ⟨hs, hp0, hp1, hB⟩ := h
  have H := clone_any F w2.drew v c.args (hO.keep (fun b hb => hB.block b (hF b hb))) hm
  obtain ⟨a, cap, rfl, _⟩ := hO
  have H2 := Lib.hid h2
  have HP0 := Lib.hid hp0
  have HP1 := Lib.hid hp1
  have HB := Lib.hid hB
  have HSZ := Lib.hid hs
  obtain ⟨q1, q2, _, _⟩ := two_cells hp0
  clear h2 hp0 hp1 hB hs hF
  go_enter Tryz.func79, Tryz.ntmps79
  go_wp2
  rw [← H2.out]
  go_region_law (first
    | (go_simp; go_at_call 100; refine H.mono ?_
       rintro e w3 ⟨⟨a2, cap2, rfl, ho⟩, hb3⟩
       have hb3' := below_of_drew hb3
       have hr1 := (hb3'.block (w.heap.size + 1) (by have := HSZ.out; omega)).trans HP1.out
       obtain ⟨p1, p2, p3, p4⟩ := two_cells hr1
       obtain ⟨p5, _, _, _⟩ := two_cells ((hb3'.block w.heap.size (by have := HSZ.out; omega)).trans HP0.out)
       have HR1 := Lib.hid hr1
       have HO := Lib.hid ho
       have HB3 : Hid (Below w.heap.size w w3) := HB.out.trans (hb3'.mono HB.out.size)
       clear hb3 hb3' ho hr1))
  all_goals
    go_wp2
    refine bodyPost_ret (results_cell_row rfl _ _ (w.heap.size + 1) _ _ _ _ rfl (two_set (two_set HR1.out _).1 _).2 Tryz.underlying73 rfl (by kernel_rfl)) rfl ?_
    refine ⟨⟨_, _, rfl, rfl, (HO.out.keep ?_).wider ?_⟩, (HB3.out.setCell (by show _ ≤ w.heap.size + 1; omega) _).setCell (by show _ ≤ w.heap.size + 1; omega) _⟩
    · rintro b ⟨hb1, _⟩
      have hh : w2.drew.heap.size = w2.heap.size := rfl
      have := HSZ.out
      rw [Below.heap_setCell _ _ _ _ (by show b ≠ w.heap.size + 1; omega), Below.heap_setCell _ _ _ _ (by show b ≠ w.heap.size + 1; omega)]
    · rintro b ⟨hb1, hb2⟩
      have hh : w2.drew.heap.size = w2.heap.size := rfl
      have := HSZ.out
      exact ⟨by omega, by simpa [World.setCell] using hb2⟩
end Go.Proofs.YtdilegbigaahnaaGreat
end

/- What is proved here: the program's copy of a type (copyType) lies in memory of its own. Condition: what is copied lies in memory as said, and is small. -/
section
namespace Go.Proofs.YtdilegbigaahnaaGreat
open Go.RowKit

/-- One part of an owned row, and its cells. -/
theorem Own2.part {α : Type} {T : TypeId} {E : (Nat → Prop) → World → α → Value → Value → Prop} {F : Nat → Prop} {w : World} {a : Option Addr} {n cap : Nat} {l : List α} (h : Own2 T E F w (.slice a n cap) l) {k : Nat} {x : α} (hx : l[k]? = some x) :
    ∃ y G u v, a = some y ∧ w.cell? (y.add (k * 2)) = some u ∧ w.cell? ⟨(y.add (k * 2)).block, (y.add (k * 2)).off + 1, none⟩ = some v ∧ E G w x u v ∧ ∀ b, G b → F b := by
  obtain ⟨hk, _⟩ := List.getElem?_eq_some_iff.1 hx
  obtain ⟨a2, cap2, hv, h0 | ⟨g, ps, rest, G, rfl, h2, h3, h4, h5⟩⟩ := h
  · subst h0
    simp at hx
  · injection hv with h6 h7 h8
    subst h6
    have hp : ps[k]? = some ps[k] := List.getElem?_eq_getElem (by omega)
    obtain ⟨c1, c2, _, _⟩ := h4.cells k (by omega)
    have e : (⟨g, 0, none⟩ : Addr).add (k * 2) = ⟨g, k * 2, none⟩ := by simp [Addr.add]; intro h; omega
    exact ⟨_, G k, _, _, rfl, by rw [e]; exact c1, by rw [e]; exact c2, h5.2.2 k x _ hk hx hp, fun b hb => (h5.1 k hk b hb).1⟩

def room (n : Nat) : Array Value := madeCells (Value.agg #[.string ⟨#[]⟩, .slice none 0 0]).cells (n * 2)
theorem room_size (n : Nat) : (room n).size = n * 2 := by simp [room, madeCells]
theorem make_room (n : Nat) (hn : n ≤ 1048576) (W : World) :
    (Instr.makeSlice 69 (.int .i64 0) (.int .i64 (n : Int))).run Tryz.prog W = .ok (.slice (some ⟨W.heap.size, 0, none⟩) 0 n) (W.alloc (.cells (room n) 73)) := by
  obtain ⟨i0, hi, hz0, hz1, hz2⟩ := zero_Con
  have hr := run_make (P := Tryz.prog) W 69 73 i0 _ Tryz.underlying69 hi hz0 .i64 .i64 0 n (by omega) (by omega) (by rw [hz2]; omega) (by omega)
  rw [hz1] at hr
  exact hr

/-- The copy of a type as it grows: its box, the result's cell. -/
def Piling (w : World) (t : TypeD) (a : Option Addr) (cap k : Nat) (v : Value) (wr : World) : Prop :=
  wr.heap[w.heap.size]? = some (.cells #[.string t.name, .slice a t.cons.length cap] 71 (0, 0)) ∧ wr.heap[w.heap.size + 1]? = some (.cells #[.string ⟨#[]⟩, .slice none 0 0] 71 (0, 0)) ∧
    Growing 73 OwnCon (w.heap.size + 2) t.cons k v wr ∧ Below w.heap.size w wr

set_option maxHeartbeats 1000000 in
set_option maxRecDepth 100000 in
theorem copyType_any (F : Nat → Prop) (w : World) (t : TypeD) (u v : Value) (hO : OwnType F w t u v) (hF : ∀ b, F b → b < w.heap.size) (hm : t.cons.length ≤ 1048576) (hm2 : ∀ d ∈ t.cons, d.args.length ≤ 1048576) :
    Calls Tryz.prog 84 #[.agg #[u, v]] w fun e w' => (∃ u' v', e = .returned (.agg #[u', v']) ∧ OwnType (Came w w') w' t u' v') ∧ Below w.heap.size w w' := by
  obtain ⟨rfl, hO⟩ := hO
  have hO' := hO
  obtain ⟨a, cap, rfl, _⟩ := hO'
  have HO := Lib.hid hO
  have HF := Lib.hid hF
  have HS := Lib.hid hm2
  obtain ⟨w2, h2⟩ : ∃ w2, w2 = (w.alloc (.cells #[.string t.name, .slice a t.cons.length cap] 71)).alloc (.cells #[.string ⟨#[]⟩, .slice none 0 0] 71) := ⟨_, rfl⟩
  have h := two_alloc w (.cells #[.string t.name, .slice a t.cons.length cap] 71) (.cells #[.string ⟨#[]⟩, .slice none 0 0] 71)
  rw [← h2] at h
  obtain ⟨hs, hp0, hp1, hB⟩ := h
  have hmk := make_room t.cons.length hm
  have hcur := room_size t.cons.length
  generalize room t.cons.length = cur at *
  have hB3 : Below w2.heap.size w2 (w2.alloc (.cells cur 73)) := (Below.refl _ _).alloc (Nat.le_refl _) _
  have how := World.ownsRow_made (base := w.heap.size + 2) (e := 73) (size := 2) w2 cur t.cons.length (by omega) (by unfold maxLen; omega) hcur
  have hPL : Piling w t a cap 0 (.slice (some ⟨w2.heap.size, 0, none⟩) 0 t.cons.length) (w2.alloc (.cells cur 73)) :=
    ⟨(hB3.block _ (by omega)).trans hp0, (hB3.block _ (by omega)).trans hp1, Growing.start how (by have := hB3.size; omega), hB.trans (hB3.mono (by omega))⟩
  rw [hs] at hPL
  have HPL := Lib.hid hPL
  have H2 := Lib.hid h2
  clear hO hF hm2 h2 hs hp0 hp1 hB hcur hB3 how hPL
  generalize hn : t.cons.length = n at *
  have HN := Lib.hid hn
  clear hn
  go_enter Tryz.func84, Tryz.ntmps84
  go_wp2
  clear hmk
  rw [← H2.out]
  generalize w2.alloc (.cells cur 73) = w3 at *
  go_loopw [3, 13] (fun v i wr => ∃ (k : Nat), k ≤ n ∧ i = .int .i64 k ∧ Hid (Piling w t a cap k v wr)) (fun _ i _ => n - (intOf i).toNat)
  case atStart => exact ⟨0, Nat.zero_le _, rfl, HPL⟩
  case round =>
    obtain ⟨k, hk, rfl, hC⟩ := hrel
    by_cases hlt : k < n
    · have hk' : k < t.cons.length := by rw [HN.out]; exact hlt
      have hx : t.cons[k]? = some t.cons[k] := List.getElem?_eq_getElem hk'
      have hcm := HS.out _ (List.getElem_mem hk')
      generalize t.cons[k] = c at hx hcm
      obtain ⟨c0, c1, hGW, hB⟩ := hC.out
      have hO4 : Own2 73 OwnCon F wr (.slice a n cap) t.cons := HO.out.keep keeps_con (fun b hb => hB.block b (HF.out b hb))
      obtain ⟨y, G, u1, v1, rfl, hc0, hc1, hE, hGF⟩ := Own2.part hO4 hx
      have hE2 := hE
      obtain ⟨rfl, a1, cap1, rfl, _⟩ := hE2
      have hbA : Below wr.heap.size wr (wr.alloc (.cells #[.string c.name, .slice a1 c.args.length cap1] 73)) := (Below.refl _ _).alloc (Nat.le_refl _) _
      have hG5 := hGW.keep keeps_con hbA.size (fun b _ hl => hbA.block b hl)
      have H := copyCon_any G (wr.alloc (.cells #[.string c.name, .slice a1 c.args.length cap1] 73)) c _ _ (keeps_con _ _ _ _ _ _ hE (fun b hb => hbA.block b (Nat.lt_of_lt_of_le (HF.out b (hGF b hb)) hB.size))) (fun b hb => Nat.lt_of_lt_of_le (HF.out b (hGF b hb)) (Nat.le_trans hB.size hbA.size)) hcm
      have HB5 : Hid (Below w.heap.size w (wr.alloc (.cells #[.string c.name, .slice a1 c.args.length cap1] 73))) := hB.trans (hbA.mono hB.size)
      have hltg : w.heap.size + 1 < wr.heap.size := by
        rcases Nat.lt_or_ge (w.heap.size + 1) wr.heap.size with h | h
        · exact h
        · rw [Array.getElem?_eq_none h] at c1
          cases c1
      have HD0 := Lib.hid ((hbA.block _ (by omega)).trans c0)
      have HD1 := Lib.hid ((hbA.block _ hltg).trans c1)
      have HG5 := Lib.hid hG5
      have HX := Lib.hid hx
      have hltz : (k : Int) < (n : Int) := by omega
      have hlts : w.heap.size + 1 < (wr.alloc (.cells #[.string c.name, .slice a1 c.args.length cap1] 73)).heap.size := Nat.lt_of_lt_of_le hltg hbA.size
      have HLS := Lib.hid hlts
      obtain ⟨i0, hi, hz0, hz1, hz2⟩ := zero_Con
      clear c0 c1 hGW hB hO4 hE hGF hbA hG5 hx hltg hlts
      go_wp2_with fail
      generalize wr.alloc (.cells #[.string c.name, .slice a1 c.args.length cap1] 73) = w5 at *
      refine H.mono ?_
      rintro e w6 ⟨⟨u6, v6, rfl, ho6⟩, hb6⟩
      have ho7 := ho6
      obtain ⟨rfl, a6, cap6, rfl, _⟩ := ho7
      obtain ⟨ps, how, hBs, hstep⟩ := Growing.step keeps_con HG5.out HX.out ho6 hb6 ((Below.refl _ _).alloc (Nat.le_refl _) (.cells #[.string c.name, .slice a6 c.args.length cap6] 73))
      have HST := Lib.hid hstep
      clear hstep ho6 hb6 H
      go_wp2_with (at_builtin; refine wpList_append_lies _ rfl _ _ 69 rfl (w.heap.size + 2) 73 i0 (.agg #[.string ⟨#[]⟩, .slice none 0 0]) 2 40 Tryz.underlying69 hi hz0 hz1 hz2 rfl (by decide) _ k (flat ps) rfl how ⟨w6.heap.size, 0, none⟩ 1 1 [.string c.name, .slice a6 c.args.length cap6] rfl rfl (news_two w6 _ _ _ _ rfl) ?d1 (by decide) ?d2 ?d3 hBs _ rfl ?_)
      case d1 => intro u hu; simp at hu; rcases hu with rfl | rfl <;> rfl
      case d2 => unfold maxLen; omega
      case d3 => omega
      intro g cap3 w7 hown hgrow hat hlt7
      obtain ⟨hG, hold, ho1, ho2, ho3, ho4⟩ := HST.out g cap3 w7 hown hgrow (hat.imp id (fun h => h.trans (Array.size_push _).symm))
      have HPN : Hid (Piling w t (some y) cap (k + 1) (.slice (some ⟨g, 0, none⟩) (k + 1) cap3) w7) :=
        ⟨(hold _ (by omega)).trans HD0.out, (hold _ (by omega)).trans HD1.out, hG, HB5.out.trans ⟨ho1, ho2, ho3, ho4, fun b hb => hold b (by omega)⟩⟩
      clear how hBs hown hgrow hat hG hold ho1 ho2 ho3 ho4 HST
      go_wp2
      go_roundw
      case rel => exact ⟨k + 1, by omega, by go_num, HPN⟩
      case measure => simp [intOf]; omega
    · obtain rfl : k = n := by omega
      obtain ⟨c0, c1, hGW, hB⟩ := hC.out
      rw [← HN.out] at hGW
      have hD := hGW.done
      have hD2 := hD
      obtain ⟨a2, cap2, rfl, _⟩ := hD2
      have HD := Lib.hid hD
      have HC1 := Lib.hid c1
      have HB := Lib.hid hB
      obtain ⟨q1, _, _, _⟩ := two_cells c0
      obtain ⟨p1, p2, p3, p4⟩ := two_cells c1
      clear c0 c1 hGW hB hD hC
      go_wp2
      refine bodyPost_ret (results_cell_row rfl _ _ (w.heap.size + 1) _ _ _ _ rfl (two_set (two_set HC1.out _).1 _).2 Tryz.underlying71 rfl (by kernel_rfl)) rfl ?_
      refine ⟨⟨_, _, rfl, rfl, (HD.out.keep keeps_con ?_).wider ?_⟩, (HB.out.setCell (by show _ ≤ w.heap.size + 1; omega) _).setCell (by show _ ≤ w.heap.size + 1; omega) _⟩
      · rintro b ⟨hb1, _⟩
        rw [Below.heap_setCell _ _ _ _ (by show b ≠ w.heap.size + 1; omega), Below.heap_setCell _ _ _ _ (by show b ≠ w.heap.size + 1; omega)]
      · rintro b ⟨hb1, hb2⟩
        exact ⟨by omega, by simpa [World.setCell] using hb2⟩
end Go.Proofs.YtdilegbigaahnaaGreat
end

/- What is proved here: the model's FindType and IsType (package spec) find the first declaration, and copy it. Condition: the signature lies in memory as said, and is small. -/
section
namespace Go.Proofs.YtdilegbigaahnaaGreat
open Go.RowKit

/-- What FindType hands back: a copy of the first declaration and true, or the zero TypeDecl and false. -/
def Found (w : World) (s : List TypeD) (nm : ByteArray) (e : Ending) (w' : World) : Prop :=
  Below w.heap.size w w' ∧ ((∃ x u v, theType s nm = some x ∧ e = .returned (.tuple #[.agg #[u, v], .bool true]) ∧ OwnType (Came w w') w' x u v) ∨ (theType s nm = none ∧ e = .returned (.tuple #[.agg #[.string ⟨#[]⟩, .slice none 0 0], .bool false])))

set_option maxHeartbeats 1000000 in
set_option maxRecDepth 100000 in
theorem spec_findType (w : World) (a : Option Addr) (cap : Nat) (s : List TypeD) (nm : ByteArray) (hx : Row2 TypeAt w a s) (hm : s.length ≤ 1048576) (hs : ∀ c ∈ s, c.cons.length ≤ 1048576 ∧ ∀ d ∈ c.cons, d.args.length ≤ 1048576) :
    Calls Tryz.prog 58 #[.agg #[.slice a s.length cap], .string nm] w (Found w s nm) := by
  have HX := Lib.hid hx
  have HS := Lib.hid hs
  clear hx hs
  obtain ⟨w2, h2⟩ : ∃ w2, w2 = (w.alloc (.cells #[.slice a s.length cap] 33)).alloc (.cells #[.string ⟨#[]⟩, .slice none 0 0] 71) := ⟨_, rfl⟩
  have s1 : (w.alloc (.cells #[.slice a s.length cap] 33)).heap.size = w.heap.size + 1 := Array.size_push _
  have hB : Below w.heap.size w w2 := by rw [h2]; exact ((Below.refl _ _).alloc (Nat.le_refl _) _).alloc (by omega) _
  have hp0 : w2.heap[w.heap.size]? = some (.cells #[.slice a s.length cap] 33 (0, 0)) := by
    rw [h2, Below.heap_alloc _ _ _ (by omega)]
    exact heap_at_new w _
  have hp1 : w2.heap[w.heap.size + 1]? = some (.cells #[.string ⟨#[]⟩, .slice none 0 0] 71 (0, 0)) := by
    rw [h2, ← s1]
    exact heap_at_new _ _
  have H2 := Lib.hid h2
  have HB := Lib.hid hB
  have HP1 := Lib.hid hp1
  obtain ⟨q0, _⟩ := one_cell hp0
  obtain ⟨p1, p2, p3, p4⟩ := two_cells hp1
  have hw2 : w2.heap.size = w.heap.size + 1 + 1 := by rw [h2, ← s1]; exact Array.size_push _
  have HW2 := Lib.hid hw2
  clear h2 hB hp0 hp1 s1 hw2
  generalize hn : s.length = n at *
  have HN := Lib.hid hn
  clear hn
  go_enter Tryz.func58, Tryz.ntmps58
  go_wp2
  rw [← H2.out]
  go_loop [6] (fun i => ∃ (k : Nat), k ≤ n ∧ i = .int .i64 k ∧ Hid (∀ (j : Nat) y, j < k → s[j]? = some y → TypeD.named nm y = false)) (fun i => n - (intOf i).toNat)
  case atStart => exact ⟨0, Nat.zero_le _, rfl, fun j _ h => by omega⟩
  case round =>
    obtain ⟨k, hk, rfl, hne⟩ := hrel
    by_cases hlt : k < n
    · have hk' : k < s.length := by rw [HN.out]; exact hlt
      obtain ⟨y, u1, v1, rfl, hc0, hc1, hr1⟩ := row2_below type_below HX.out HB.out k hk'
      have hltz : (k : Int) < (n : Int) := by omega
      have hx : s[k]? = some s[k] := List.getElem?_eq_getElem hk'
      have hq := HS.out _ (List.getElem_mem hk')
      generalize s[k] = x at hx hr1 hq
      have HXE := Lib.hid hx
      clear hx
      have H := l3Type_any w2 x u1 v1 hr1 hq.1 hq.2
      obtain ⟨ta, tc, hu, hv, _⟩ := hr1
      subst hu
      subst hv
      by_cases he : (x.name.toList == nm.toList) = true
      · go_wp2_with fail
        refine H.mono ?_
        rintro e w3 ⟨⟨u2, v2, rfl, ho⟩, hb3⟩
        have ho2 := ho
        obtain ⟨rfl, a2, cap2, rfl, _⟩ := ho2
        have hr3 := (hb3.block (w.heap.size + 1) (by have := HW2.out; omega)).trans HP1.out
        have HR3 := Lib.hid hr3
        obtain ⟨r1, r2, r3, r4⟩ := two_cells hr3
        have HO := Lib.hid ho
        have HB3 : Hid (Below w.heap.size w w3) := HB.out.trans (hb3.mono HB.out.size)
        have HT : Hid (theType s nm = some x) := find_at _ _ k x HXE.out he hne.out
        clear hr3 ho hb3 H he
        go_wp2
        refine bodyPost_ret (results_row_tmp rfl _ _ (w.heap.size + 1) _ _ _ _ rfl (two_set (two_set HR3.out _).1 _).2 Tryz.underlying71 rfl (by kernel_rfl)) rfl ?_
        refine ⟨(HB3.out.setCell (by show _ ≤ w.heap.size + 1; omega) _).setCell (by show _ ≤ w.heap.size + 1; omega) _, .inl ⟨x, _, _, HT.out, rfl, rfl, (HO.out.2.keep keeps_con ?_).wider ?_⟩⟩
        · rintro b ⟨hb1, _⟩
          have := HW2.out
          rw [Below.heap_setCell _ _ _ _ (by show b ≠ w.heap.size + 1; omega), Below.heap_setCell _ _ _ _ (by show b ≠ w.heap.size + 1; omega)]
        · rintro b ⟨hb1, hb2⟩
          have := HW2.out
          exact ⟨by omega, by simpa [World.setCell] using hb2⟩
      · have he2 : (x.name.toList == nm.toList) = false := by simpa using he
        clear he H
        go_wp2
        go_round
        case rel =>
          refine ⟨k + 1, by omega, by go_num, fun j z hj hz => ?_⟩
          rcases Nat.lt_or_ge j k with h3 | h3
          · exact hne.out j z h3 hz
          · obtain rfl : j = k := by omega
            have := HXE.out
            rw [this] at hz
            obtain rfl := Option.some.inj hz
            exact he2
        case measure => simp [intOf]; omega
    · have HT : Hid (theType s nm = none) := find_no _ _ (fun j z hz => hne.out j z (by have := (List.getElem?_eq_some_iff.1 hz).1; have := HN.out; omega) hz)
      go_wp2
      refine bodyPost_ret (results_row_tmp rfl _ _ (w.heap.size + 1) _ _ _ _ rfl (two_set (two_set HP1.out _).1 _).2 Tryz.underlying71 rfl (by kernel_rfl)) rfl ?_
      exact ⟨(HB.out.setCell (by show _ ≤ w.heap.size + 1; omega) _).setCell (by show _ ≤ w.heap.size + 1; omega) _, .inr ⟨HT.out, rfl⟩⟩
end Go.Proofs.YtdilegbigaahnaaGreat
end
