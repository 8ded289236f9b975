/- What is proved here: the program's copy of a value (copyValue). Condition: the value lies in memory as said, and is small. -/
import Derived.Test.YtcalgjggmgnofaaImplClone
import Derived.Test.YtcalgjggmgnofaaMidway
import Derived.Test.YtcalgjggmgnofaaSpecCopy
import Derived.WalkSmall
import Derived.Deep.LoopGhost
namespace Go.Proofs.Ytcalgjggmgnofaa
open Go.RowKit

def workE : List EntV → Nat
  | [] => 0
  | e :: st => 1 + e.2.count + workE st
theorem length_le_workE (st : List EntV) : st.length ≤ workE st := by
  induction st with
  | nil => exact Nat.le_refl _
  | cons e st ih => simp [workE]; omega
theorem workE_append (a b : List EntV) : workE (a ++ b) = workE a + workE b := by
  induction a with
  | nil => simp [workE]
  | cons e a ih => simp [workE, ih]; omega
theorem workE_reverse (a : List EntV) : workE a.reverse = workE a := by
  induction a with
  | nil => rfl
  | cons e a ih => rw [List.reverse_cons, workE_append, ih]; simp [workE]; omega
/-- The slices of a stack (the last first), as they lie. -/
def slicesOf (st : List EntV) : List Value := (st.map (fun e => e.1)).reverse
theorem slicesOf_cons (e : EntV) (st : List EntV) : slicesOf (e :: st) = slicesOf st ++ [e.1] := by simp [slicesOf]
theorem slicesOf_length (st : List EntV) : (slicesOf st).length = st.length := by simp [slicesOf]
/-- A row of slices lies apart from every block of nodes. -/
theorem apart_of {w : World} {B : Nat} {v : Value} {n : Nat} {xs : List Value} (h : w.ownsRow B 27 1 v n xs) {b : Nat} (hb : NodeBlock w b) : v.ownBlock ≠ some b := by
  intro e
  obtain ⟨cs, hcs⟩ := hb
  rcases h.2 with ⟨h1, _⟩ | ⟨g, cap, cur, rfl, _, h2, _⟩
  · subst h1; cases e
  · cases e
    rw [hcs] at h2
    injection h2 with h2
    injection h2 with _ h3
    exact absurd h3 (by decide)
theorem own_block_keep {w w' : World} {base : Nat} {e : TypeId} {size : Nat} {v : Value} {n : Nat} {xs : List Value} (h : w.ownsRow base e size v n xs) (hk : ∀ g, v.ownBlock = some g → w'.heap[g]? = w.heap[g]?) : w'.ownsRow base e size v n xs := by
  refine ⟨h.1, ?_⟩
  rcases h.2 with h | ⟨g, cap, cur, rfl, hb, hg, h1, h2, h3, h4⟩
  · exact .inl h
  · exact .inr ⟨g, cap, cur, rfl, hb, by rw [hk g rfl]; exact hg, h1, h2, h3, h4⟩

theorem owing_start (w0 w4 : World) (g : Nat) (k n : Int) (t : ByteArray) (F : Trees) (p : Option Addr) (c : Nat) (hg : w0.heap.size ≤ g) (hb : w4.heap[g]? = some (.cells #[.int .i64 k, .int .i64 n, .string t, .slice p F.length c] 29 (0, 0))) (hx : TreesAt w0 F p 0) (hc : F.length ≤ c) :
    Owing w0 (.slice (some ⟨g, 0, none⟩) 1 1) (.cons k n t F .nil) w4 [] [(.slice (some ⟨g, 0, none⟩) 1 1, .cons k n t F .nil)] := by
  obtain ⟨c0, c1, c2, c3, _⟩ := four_cells hb
  refine ⟨fun e he => ?_, by simp [stBlocks, EntV.blocks, Value.ownBlock], fun b hb2 => ?_, fun w' bss _ hO => ?_⟩
  · obtain rfl := List.mem_singleton.1 he
    exact ⟨_, 1, rfl, Nat.le_refl _, .inr ⟨g, rfl, ⟨p, c, c0, c1, c2, c3, hc, hx⟩, trivial⟩⟩
  · have e : b = g := by simpa [stBlocks, EntV.blocks, Value.ownBlock] using hb2
    subst e
    exact ⟨hg, _, hb⟩
  · obtain ⟨b, r, rfl, h1, h2⟩ := hO
    have h2' : r = [] := h2
    subst h2'
    exact ⟨b, h1, by simp⟩

set_option maxHeartbeats 8000000 in
set_option maxRecDepth 100000 in
theorem impl_copy (w : World) (k n : Int) (t : ByteArray) (F : Trees) (p : Option Addr) (c : Nat) (hx : TreesAt w F p 0) (hsz : F.count ≤ 1048576) (hc : F.length ≤ c) :
    Calls Try.prog 33 #[.agg #[.int .i64 k, .int .i64 n, .string t, .slice p F.length c]] w (NewValue w k n t F) := by
  have hi : (Try.prog.info? 27).map (fun i => (i.zero, i.size, i.bytes)) = some (some (.slice none 0 0), 1, 24) := by kernel_rfl
  obtain ⟨i0, hi, hz0, hz1, hz2⟩ := info_parts hi
  obtain ⟨w4, hw4⟩ : ∃ w4, w4 = (((w.alloc (.cells #[.int .i64 k, .int .i64 n, .string t, .slice p F.length c] 29)).alloc (.cells #[.int .i64 0, .int .i64 0, .string ⟨#[]⟩, .slice none 0 0] 29)).alloc (.cells #[.int .i64 k, .int .i64 n, .string t, .slice p F.length c] 29)).alloc (.cells #[.slice (some ⟨w.heap.size + 1 + 1, 0, none⟩) 1 1] 27) := ⟨_, rfl⟩
  have HW4 := Lib.hid hw4
  have hmain : ∃ w0, Below w.heap.size w w0 ∧ w0.heap.size = w.heap.size + 2 ∧ w0.heap[w.heap.size + 1]? = some (.cells #[.int .i64 0, .int .i64 0, .string ⟨#[]⟩, .slice none 0 0] 29 (0, 0)) ∧ Below w0.heap.size w0 w4 ∧ Owing w0 (.slice (some ⟨w.heap.size + 1 + 1, 0, none⟩) 1 1) (.cons k n t F .nil) w4 [] [(.slice (some ⟨w.heap.size + 1 + 1, 0, none⟩) 1 1, .cons k n t F .nil)] ∧ w4.ownsRow w0.heap.size 27 1 (.slice (some ⟨w.heap.size + 1 + 1 + 1, 0, none⟩) 1 1) 1 [.slice (some ⟨w.heap.size + 1 + 1, 0, none⟩) 1 1] := by
    obtain ⟨w0, hw0⟩ : ∃ w0, w0 = (w.alloc (.cells #[.int .i64 k, .int .i64 n, .string t, .slice p F.length c] 29)).alloc (.cells #[.int .i64 0, .int .i64 0, .string ⟨#[]⟩, .slice none 0 0] 29) := ⟨_, rfl⟩
    have hb0 : Below w.heap.size w w0 := by rw [hw0]; exact ((Below.refl _ _).alloc (Nat.le_refl _) _).alloc (by simp) _
    have hs0 : w0.heap.size = w.heap.size + 2 := by rw [hw0]; simp
    have hr0 : w0.heap[w.heap.size + 1]? = some (.cells #[.int .i64 0, .int .i64 0, .string ⟨#[]⟩, .slice none 0 0] 29 (0, 0)) := by
      have s1 : (w.alloc (.cells #[.int .i64 k, .int .i64 n, .string t, .slice p F.length c] 29)).heap.size = w.heap.size + 1 := Array.size_push _
      have := heap_at_new (w.alloc (.cells #[.int .i64 k, .int .i64 n, .string t, .slice p F.length c] 29)) (.cells #[.int .i64 0, .int .i64 0, .string ⟨#[]⟩, .slice none 0 0] 29)
      rw [s1] at this
      rw [hw0]
      exact this
    rw [← hw0] at hw4
    obtain ⟨w1, hw1⟩ : ∃ w1, w1 = w0.alloc (.cells #[.int .i64 k, .int .i64 n, .string t, .slice p F.length c] 29) := ⟨_, rfl⟩
    have hg1 : w1.heap[w.heap.size + 1 + 1]? = some (.cells #[.int .i64 k, .int .i64 n, .string t, .slice p F.length c] 29 (0, 0)) := by
      have := heap_at_new w0 (.cells #[.int .i64 k, .int .i64 n, .string t, .slice p F.length c] 29)
      rw [hs0] at this
      rw [hw1]
      exact this
    have hs1 : w1.heap.size = w.heap.size + 1 + 1 + 1 := by rw [hw1]; simp [hs0]
    rw [← hw1] at hw4
    have hown := World.ownsRow_lit (base := w0.heap.size) (e := 27) (size := 1) w1 #[.slice (some ⟨w.heap.size + 1 + 1, 0, none⟩) 1 1] 1 (by omega) (by unfold maxLen; omega) rfl
    rw [← hw4, hs1] at hown
    refine ⟨w0, hb0, hs0, hr0, ?_, owing_start w0 w4 (w.heap.size + 1 + 1) k n t F p c (by omega) ?_ (hx.below hb0) hc, hown⟩
    · rw [hw4]
      have h1 : Below w0.heap.size w0 w1 := by rw [hw1]; exact (Below.refl _ _).alloc (Nat.le_refl _) _
      exact h1.alloc h1.size _
    · rw [hw4, Below.heap_alloc _ _ _ (by omega)]
      exact hg1
  obtain ⟨w0, hB0, hs0, hr0, hB4, hOW, hown⟩ := hmain
  have HB0 := Lib.hid hB0
  have HS0 := Lib.hid hs0
  have HR0 := Lib.hid hr0
  have HB4 := Lib.hid hB4
  have HOW := Lib.hid hOW
  have HOWN := Lib.hid hown
  have HHI := Lib.hid hi
  have hwk : workE [((.slice (some ⟨w.heap.size + 1 + 1, 0, none⟩) 1 1, .cons k n t F .nil) : EntV)] ≤ 1048578 := by simp [workE, Trees.count]; omega
  have HWK := Lib.hid hwk
  clear hx hsz hc hw4 hB0 hs0 hr0 hB4 hOW hown hwk
  go_enter Try.func33, Try.ntmps33
  go_wp2
  rw [← HW4.out]
  clear HW4
  go_loopg [4] 1048578 (fun gg rv wr => ∃ (D : List Nat) (st : List EntV) (s cp : Nat), rv = .slice (some ⟨s, 0, none⟩) st.length cp ∧ Aside (wr.ownsRow w0.heap.size 27 1 rv st.length (slicesOf st)) ∧ Aside (Owing w0 (.slice (some ⟨w.heap.size + 1 + 1, 0, none⟩) 1 1) (.cons k n t F .nil) wr D st) ∧ Aside (Below w0.heap.size w0 wr) ∧ Aside (workE st ≤ gg) ∧ gg ≤ 1048578)
  case atStart => exact ⟨[], [(.slice (some ⟨w.heap.size + 1 + 1, 0, none⟩) 1 1, .cons k n t F .nil)], _, 1, rfl, HOWN.out, HOW.out, HB4.out, HWK.out, Nat.le_refl _⟩
  case round =>
    obtain ⟨D, st, s, cp, rfl, hown, hOW, hB, hwk, hgk⟩ := hrel
    have hsl := length_le_workE st
    have hwk' := hwk.out
    have hslt := (hown.out.lt s rfl).2
    cases st with
    | nil =>
      obtain ⟨bs, ho, hnd, hfr⟩ := hOW.out.done
      obtain ⟨g', cap', b', e1, _, hbs, hN, hrow⟩ : ∃ g cap b', (Value.slice (some ⟨w.heap.size + 1 + 1, 0, none⟩) 1 1) = .slice (some ⟨g, 0, none⟩) 1 cap ∧ 1 ≤ cap ∧ bs = g :: b' ∧ NodeBlock wr g ∧ RowIn wr (.cons k n t F .nil) g 0 b' := by
        rcases ho with ⟨_, _, _, h, _⟩ | ⟨g, cap, b', h1, h2, h3, h4, h5⟩
        · cases h
        · exact ⟨g, cap, b', h1, h2, h3, h4, h5⟩
      injection e1 with e1 _ ec
      subst ec
      injection e1 with e1
      injection e1 with e1
      subst e1
      obtain ⟨v, b1, b2, hb12, c0, c1, c2, c3, hov, hnil⟩ := hrow
      have hov2 : OwnV wr v F b1 := hov
      have hb2 : b2 = [] := hnil
      subst hb2
      rw [List.append_nil] at hb12
      subst hb12
      subst hbs
      have HNDB : Hid (b'.Nodup ∧ ∀ b ∈ b', w.heap.size + 2 ≤ b ∧ b < wr.heap.size) := ⟨(List.nodup_cons.1 hnd).2, fun b hb => by have := hfr b (List.mem_cons_of_mem _ hb); have := HS0.out; omega⟩
      obtain ⟨p2, cap2, rfl, _, _⟩ := hov2.reads
      have HOV := Lib.hid hov2
      have hr1 : wr.heap[w.heap.size + 1]? = some (.cells #[.int .i64 0, .int .i64 0, .string ⟨#[]⟩, .slice none 0 0] 29 (0, 0)) := (hB.out.block _ (by have := HS0.out; omega)).trans HR0.out
      have HR1 := Lib.hid hr1
      obtain ⟨x0, x1, x2, x3, f0, f1, f2, f3⟩ := four_cells hr1
      have HB2 : Hid (Below w.heap.size w wr) := HB0.out.trans (hB.out.mono HB0.out.size)
      rw [Nat.zero_mul] at c0
      rw [Nat.zero_mul, Nat.zero_add] at c1 c2 c3
      clear hown hOW hB hwk hsl hwk' hslt ho hnd hfr hN hov hov2 hr1 hnil
      go_wp2
      refine bodyPost_ret (results_cell_row rfl _ _ (w.heap.size + 1) _ _ _ _ rfl (four_set (four_set (four_set (four_set HR1.out _).1 _).2.1 _).2.2.1 _).2.2.2 Try.underlying29 rfl (by kernel_rfl)) rfl ?_
      refine ⟨⟨_, b', rfl, HOV.out.keep (fun b hb => ?_), HNDB.out.1, fun b hb => ?_⟩, (((HB2.out.setCell (by show _ ≤ w.heap.size + 1; omega) _).setCell (by show _ ≤ w.heap.size + 1; omega) _).setCell (by show _ ≤ w.heap.size + 1; omega) _).setCell (by show _ ≤ w.heap.size + 1; omega) _⟩
      · have := HNDB.out.2 b hb
        rw [Below.heap_setCell _ _ _ _ (by show b ≠ w.heap.size + 1; omega), Below.heap_setCell _ _ _ _ (by show b ≠ w.heap.size + 1; omega), Below.heap_setCell _ _ _ _ (by show b ≠ w.heap.size + 1; omega), Below.heap_setCell _ _ _ _ (by show b ≠ w.heap.size + 1; omega)]
      · have := HNDB.out.2 b hb
        exact ⟨by omega, by simpa [World.setCell] using this.2⟩
    | cons e st =>
      obtain ⟨v, G⟩ := e
      obtain ⟨a, ca, hv, hlc, _⟩ := hOW.out.pend _ (List.mem_cons_self ..)
      simp only at hv hlc
      subst hv
      have hso : slicesOf ((.slice a G.length ca, G) :: st) = slicesOf st ++ [.slice a G.length ca] := slicesOf_cons _ _
      have hsle := slicesOf_length st
      have hown2 := hown.out
      rw [hso] at hown2
      simp only [List.length_cons] at *
      have hc0 : wr.cell? ⟨s, st.length, none⟩ = some (.slice a G.length ca) := by
        rw [hown2.cellAt st.length (by omega), List.getElem?_append_right (by omega), hsle, Nat.sub_self]
        rfl
      have hcap : st.length + 1 ≤ cp := by
        rcases hown2.2 with ⟨h, _⟩ | ⟨g', cap', cur, h, _, _, h1, _⟩
        · cases h
        · cases h; exact h1
      have hpop := ownsRow_pop (n := st.length) (by omega) hown2
      simp only [workE] at hwk' hsl
      have hgl := G.length_le_count
      have hml : st.length ≤ 1048578 := by omega
      have HPOP := Lib.hid hpop
      have HOW2 := Lib.hid hOW.out
      have HB := Lib.hid hB.out
      have HWK2 := Lib.hid hwk'
      clear hown hOW hB hwk hso hsle hown2 hpop hlc
      cases G with
      | nil =>
        have HOW3 := Lib.hid HOW2.out.skip
        have hz : Trees.length .nil = 0 := rfl
        rw [hz] at hc0
        clear HOW2 hgl hz hsl hwk'
        go_wp2
        go_loopw [4, 27] (fun rv i wq => rv = .slice (some ⟨s, 0, none⟩) st.length cp ∧ i = .int .i64 0 ∧ wq = wr) (fun _ _ _ => 0)
        case atStart => exact ⟨rfl, rfl, rfl⟩
        case round =>
          obtain ⟨rfl, rfl, rfl⟩ := hrel
          go_wp2
          go_roundg (gk - 1)
          case rel => exact ⟨D, st, s, cp, rfl, HPOP.out, HOW3.out, HB.out, (by have := HWK2.out; simp only [Trees.count] at this; show _ ≤ _; omega), by omega⟩
          case measure => have := HWK2.out; omega
      | cons kk nn2 tt aa rr =>
        have hne : (Trees.cons kk nn2 tt aa rr) ≠ .nil := by simp
        have hpos : 0 < (Trees.cons kk nn2 tt aa rr).length := by simp [Trees.length]
        generalize (Trees.cons kk nn2 tt aa rr) = G at *
        obtain ⟨g, rfl⟩ : ∃ g, a = some ⟨g, 0, none⟩ := by
          obtain ⟨a2, c2, h1, _, h2⟩ := HOW2.out.pend _ (List.mem_cons_self ..)
          simp only at h1 h2
          injection h1 with h1 _ _
          rcases h2 with h2 | ⟨g, h2, _⟩
          · exact absurd h2 hne
          · exact ⟨g, h1.trans h2⟩
        have HM := Lib.hid (Midway.start HOW2.out hne)
        generalize hn : G.length = nn at *
        have HN := Lib.hid hn
        have hnb : nn ≤ 1048578 := by omega
        clear HOW2 hne hn hsl hwk'
        go_wp2
        generalize hwq : wr = wq at *
        clear hwq
        go_loopw [4, 27] (fun rv i wr => ∃ (j : Nat) (pre r : Trees) (cs : List EntV) (s cp : Nat), i = .int .i64 j ∧ j + r.length = nn ∧ rv = .slice (some ⟨s, 0, none⟩) (cs.length + st.length) cp ∧ Hid (pre.length = j) ∧ Hid (Midway w0 (.slice (some ⟨w.heap.size + 1 + 1, 0, none⟩) 1 1) (.cons k n t F .nil) g ca G D st wr pre r cs) ∧ Hid (wr.ownsRow w0.heap.size 27 1 rv (cs.length + st.length) (slicesOf (cs.reverse ++ st))) ∧ Hid (Below w0.heap.size w0 wr) ∧ Hid (workE cs + r.count + workE st + 1 ≤ gk)) (fun _ i _ => nn - (intOf i).toNat)
        case atStart => exact ⟨0, .nil, G, [], s, cp, rfl, by rw [HN.out]; omega, by simp, rfl, HM, by unfold Hid; simpa using HPOP.out, HB.out, by unfold Hid; have := HWK2.out; simp only [workE]; omega⟩
        case round =>
          obtain ⟨j, pre, r, cs, s, cp, rfl, hjn, rfl, hpj, hM, hO, hB, hW⟩ := hrel
          cases r with
          | nil =>
            obtain rfl : j = nn := by simp only [Trees.length] at hjn; omega
            have HD := Lib.hid hM.out.done
            have hle : (cs.reverse ++ st).length = cs.length + st.length := by simp
            clear hM hpj
            go_wp2
            go_roundg (gk - 1)
            case rel => exact ⟨D ++ [g], cs.reverse ++ st, s, cp, by rw [hle], by rw [hle]; exact hO.out, HD.out, hB.out, (by have := hW.out; rw [workE_append, workE_reverse]; simp only [Trees.count] at this; show _ ≤ _; omega), by omega⟩
            case measure => have := hW.out; omega
          | cons kd nu tx ar r =>
            have hjl : j < nn := by simp only [Trees.length] at hjn; omega
            have hjn2 : j + 1 + r.length = nn := by simp only [Trees.length] at hjn; omega
            have hW2 := hW.out
            simp only [Trees.count] at hW2
            have hal := ar.length_le_count
            obtain ⟨q, cq, hcell, hx, hgl2, hfz⟩ := hM.out.open
            rw [hpj.out] at hcell hfz
            have hcl := impl_clone w0 wr ar q cq hB.out hx (by omega)
            have HCL := Lib.hid hcl
            have hcsl : cs.length + st.length ≤ 1048578 := by have h1 := length_le_workE cs; have h2 := length_le_workE st; omega
            have HW3 : Hid (∀ v, workE (cs ++ [(v, ar)]) + r.count + workE st + 1 ≤ gk) := by intro v; rw [workE_append]; simp only [workE]; omega
            have HGL := Lib.hid hgl2
            clear hcl hx hW hW2 hal hgl2 hjn
            go_wp2_with fail
            refine HCL.out.mono ?_
            rintro e w1 ⟨⟨a1, c1, rfl, hp1, hf1⟩, hb1⟩
            have hM1 := hM.out.below hb1
            have hB1 : Below w0.heap.size w0 w1 := hB.out.trans (hb1.mono hB.out.size)
            have hcell1 := cell_below hcell hb1
            have hfz1 := hM1.block.free (j * 4 + 3)
            have hsh := hM.out.step hb1 hB.out.size hp1 hf1
            rw [hpj.out] at hsh
            have hO1 : w1.ownsRow w0.heap.size 27 1 (.slice (some ⟨s, 0, none⟩) (cs.length + st.length) cp) (cs.length + st.length) (slicesOf (cs.reverse ++ st)) := own_block_keep hO.out (fun b hb => hb1.block b (hO.out.lt b hb).2)
            have hO2 : (w1.setCell ⟨g, j * 4 + 3, none⟩ (.slice a1 ar.length c1)).ownsRow w0.heap.size 27 1 (.slice (some ⟨s, 0, none⟩) (cs.length + st.length) cp) (cs.length + st.length) (slicesOf (cs.reverse ++ st)) := own_block_keep hO1 (fun b hb => Below.heap_setCell _ _ _ _ (by
              intro e
              exact apart_of hO1 hM1.block (by rw [hb]; exact congrArg some e)))
            have hgg : w0.heap.size ≤ g := (hM1.near g (List.mem_append_right _ (List.mem_cons_self ..))).1
            have hB2 : Below w0.heap.size w0 (w1.setCell ⟨g, j * 4 + 3, none⟩ (.slice a1 ar.length c1)) := hB1.setCell hgg _
            have hcell2 : (w1.setCell ⟨g, j * 4 + 3, none⟩ (.slice a1 ar.length c1)).cell? ⟨g, j * 4 + 3, none⟩ = some (.slice a1 ar.length c1) := World.cell?_setCell_same' _ _ _ (by rw [hcell1]; rfl)
            have hz2 : (w1.setCell ⟨g, j * 4 + 3, none⟩ (.slice a1 ar.length c1)).heap.size = w1.heap.size := by simp [World.setCell]
            have HSH := Lib.hid hsh
            have HO2 := Lib.hid hO2
            have HB2 := Lib.hid hB2
            have HO3 : Hid (((w1.setCell ⟨g, j * 4 + 3, none⟩ (.slice a1 ar.length c1)).alloc (.cells #[.slice a1 ar.length c1] 27)).ownsRow w0.heap.size 27 1 (.slice (some ⟨s, 0, none⟩) (cs.length + st.length) cp) (cs.length + st.length) (slicesOf (cs.reverse ++ st))) := hO2.alloc _
            have HN3 : Hid (∀ i u, [Value.slice a1 ar.length c1][i]? = some u → ((w1.setCell ⟨g, j * 4 + 3, none⟩ (.slice a1 ar.length c1)).alloc (.cells #[.slice a1 ar.length c1] 27)).cell? ((⟨w1.heap.size, 0, none⟩ : Addr).add i) = some u) := by
              have := World.news_of_block (heap_at_new (w1.setCell ⟨g, j * 4 + 3, none⟩ (.slice a1 ar.length c1)) (.cells #[.slice a1 ar.length c1] 27))
              rw [hz2] at this
              exact this
            have HZ3 : Hid (w0.heap.size ≤ ((w1.setCell ⟨g, j * 4 + 3, none⟩ (.slice a1 ar.length c1)).alloc (.cells #[.slice a1 ar.length c1] 27)).heap.size) := by have := hB2.size; unfold Hid; simp only [World.alloc, Array.size_push]; omega
            have HZ2 := Lib.hid hz2
            have HN2 : Hid (∀ u ∈ [Value.slice a1 ar.length c1], u.oneCell' = true) := by intro u hu; simp at hu; subst hu; rfl
            clear hM1 hB1 hsh hO1 hO2 hB2 hgg hb1 hp1 hf1 HCL hcell hfz hz2
            go_wp2_with (at_builtin; refine wpList_append_lies _ rfl _ _ 70 rfl w0.heap.size 27 i0 (.slice none 0 0) 1 24 Try.underlying70 hi hz0 hz1 hz2 rfl (by decide) _ _ _ rfl HO3.out ⟨w1.heap.size, 0, none⟩ 1 1 [.slice a1 ar.length c1] rfl rfl HN3.out HN2.out (by decide) (by unfold maxLen; omega) (by omega) HZ3.out (w1.heap.size + 1) (by simp) ?_)
            intro s4 cp4 w4 hown4 hgrow4 hat4 hlt4
            have hal3 : Below (w1.setCell ⟨g, j * 4 + 3, none⟩ (.slice a1 ar.length c1)).heap.size (w1.setCell ⟨g, j * 4 + 3, none⟩ (.slice a1 ar.length c1)) ((w1.setCell ⟨g, j * 4 + 3, none⟩ (.slice a1 ar.length c1)).alloc (.cells #[.slice a1 ar.length c1] 27)) := (Below.refl _ _).alloc (Nat.le_refl _) _
            have hM3 := HSH.out.below hal3
            have hM4 := hM3.keep (w1 := w4) (fun b hb => hgrow4.block b (hM3.near b hb).2.lt (fun e => apart_of HO3.out (hM3.near b hb).2 e.symm))
            have HM4 := Lib.hid hM4
            have hB4 : Below w0.heap.size w0 w4 := (HB2.out.trans (hal3.mono HB2.out.size)).grown hgrow4 HZ3.out (fun b hb => (HO3.out.lt b hb).1)
            have HB4 := Lib.hid hB4
            have hso : slicesOf ((cs ++ [((Value.slice a1 ar.length c1, ar) : EntV)]).reverse ++ st) = slicesOf (cs.reverse ++ st) ++ [.slice a1 ar.length c1] := by
              rw [List.reverse_append, List.reverse_singleton, List.singleton_append, List.cons_append, slicesOf_cons]
            rw [← hso] at hown4
            have hcl : (cs ++ [((Value.slice a1 ar.length c1, ar) : EntV)]).length + st.length = cs.length + st.length + 1 := by simp; omega
            have HCL := Lib.hid hcl
            have HOWN4 := Lib.hid hown4
            have HPL : Hid ((pre.snoc kd nu tx ar).length = j + 1) := by unfold Hid; rw [Trees.snoc_length, hpj.out]
            clear hal3 hM3 hM4 hB4 hso hown4 hgrow4 hat4 hlt4 hcl hO hB hM HO3 HO2 HB2 HSH
            go_wp2
            go_roundw
            case rel => exact ⟨j + 1, pre.snoc kd nu tx ar, r, cs ++ [((Value.slice a1 ar.length c1, ar) : EntV)], s4, cp4, by go_num, hjn2, by rw [HCL.out], HPL, HM4, by unfold Hid; rw [HCL.out]; exact HOWN4.out, HB4, HW3.out _⟩
            case measure => simp [intOf]; omega
end Go.Proofs.Ytcalgjggmgnofaa
