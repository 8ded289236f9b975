/- What is proved here: a piece of the proof of YtijbaienhaiamaaDoorExactParseValue (VaParsed, TreeEq, MarkText, MarkedTrees, TreeMark). Condition: none beyond what each part says. -/
import Derived.Test.YtijbaienhaiamaaDoorPv09
import Derived.Test.YtijbaienhaiamaaDoorPv10
import Derived.Test.YtijbaienhaiamaaDoorPv11
import Derived.Test.YtijbaienhaiamaaDoorPv01
import Derived.Deep.RegionHeld3
import Derived.Lib.ItoaMem
import Derived.Lib.ItoaLen
import Derived.Laws.IdiomStrings
import Derived.Laws.Concat
import Derived.Test.YtijbaienhaiamaaDoorPv02
import Derived.Test.YtijbaienhaiamaaDoorPv04

/- What is proved here: what ParseValue answers, for model and program alike: the one value within the limits whose text it is, or the zero one and false. Conditions: the text has at most 2^20 bytes; for the program: the library's variables read as laid. -/
section
namespace Go.Proofs.YtijbaienhaiamaaDoor.Va
open Go.RowKit

def zeroD : PatD := ⟨0, 0, ⟨#[]⟩, .nil⟩
/-- The answer that a text has. -/
def Want (s : List UInt8) (A : PatD) (B : Bool) : Prop :=
  (B = true ∧ good A ∧ Fits 40 12 0 1 A ∧ text A = s ∧ ∀ q : PatD, good q → Fits 40 12 0 1 q → text q = s → q = A) ∨ (B = false ∧ A = zeroD ∧ ∀ q : PatD, good q → Fits 40 12 0 1 q → text q ≠ s)
/-- An answer in memory of the call's own. -/
def Gives (w : World) (A : PatD) (B : Bool) (e : Ending) (w' : World) : Prop :=
  ∃ v bs, e = .returned (.tuple #[.agg #[.int .i64 A.k, .int .i64 A.n, .string A.t, v], .bool B]) ∧ OwnV w' v A.F bs ∧ bs.Nodup ∧ ∀ c ∈ bs, w.heap.size ≤ c ∧ c < w'.heap.size
theorem form_small {k n : Int} {t : ByteArray} {l : Nat} (h : valForm k n t l = true) : (-9223372036854775808 ≤ k ∧ k ≤ 9223372036854775807) ∧ (-9223372036854775808 ≤ n ∧ n ≤ 9223372036854775807) ∧ t.size ≤ 1048576 ∧ t.size ≤ (headText k n t).length := by
  rcases (valForm_iff k n t l).1 h with ⟨rfl, hi, ht, _⟩ | ⟨rfl, rfl, hv, _⟩ | ⟨rfl, rfl, hw⟩
  · unfold inInt at hi
    simp only [Bool.and_eq_true, decide_eq_true_eq] at hi
    have := (head_ge h).1
    omega
  · have := hv.1
    refine ⟨by omega, by omega, by omega, ?_⟩
    show t.data.toList.length ≤ (34 :: (t.data.toList ++ [34])).length
    simp
    omega
  · have := hw.2.1
    exact ⟨by omega, by omega, by omega, Nat.le_refl _⟩
theorem node_sz {k n : Int} {t : ByteArray} {ar : Trees} (h : valForm k n t ar.length = true) (ih : ar.size ≤ (ar.tail true).length) : t.size + ar.size ≤ (nodeText k n t ar).length := by
  obtain ⟨_, h2⟩ := head_ge h
  obtain ⟨_, _, _, h1⟩ := form_small h
  unfold nodeText
  rw [List.length_append]
  by_cases hk : k = 3
  · rw [if_pos hk, List.length_append]; omega
  · have : ar = .nil := nil_of_len (h2 hk)
    subst this
    simp only [Trees.size]
    omega
theorem tail_sz : ∀ F : Trees, formedV F = true → ∀ b, F.size ≤ (F.tail b).length
  | .nil, _, _ => by simp [Trees.size]
  | .cons k n t ar r, h, b => by
    simp only [formedV, Bool.and_eq_true] at h
    have h1 := node_sz h.1 (tail_sz ar h.2.1 true)
    have h2 := tail_sz r h.2.2 false
    rw [tail_cons, List.length_append, List.length_append]
    simp only [Trees.size]
    have h3 : 1 ≤ (if b = true then [40] else [44, 32] : List UInt8).length := by cases b <;> simp
    omega
theorem good_sz {q : PatD} (h : good q) : q.t.size + q.F.size ≤ (text q).length := node_sz h.1 (tail_sz q.F h.2 true)
theorem formed_fits (F : Trees) (h : formedV F = true) (hc : F.count ≤ 1048576) : F.fits := by
  induction F with
  | nil => trivial
  | cons k n t ar r ih1 ih2 =>
    simp only [formedV, Bool.and_eq_true] at h
    simp only [Trees.count] at hc
    obtain ⟨h1, h2, h3, _⟩ := form_small h.1
    have hl := ar.length_le_count
    exact ⟨h1, h2, by unfold maxLen; omega, by unfold maxLen; omega, ih1 h.2.1 (by omega), ih2 h.2.2 (by omega)⟩
theorem fits_more {q : PatD} (h : Fits 40 12 0 1 q) : Fits 2097152 12 0 1 q := ⟨by have := h.1; omega, h.2⟩

theorem impl_gives (t : ByteArray) (ht : t.size ≤ 1048576) (A : PatD) (B : Bool) (hW : Want t.data.toList A B) (w : World) (hL : LibVars w) (hM : ∀ w', Below w.heap.size w w' → MaxLenVar w') :
    Calls Tryd.prog 5 #[.string t] w fun e w' => Gives w A B e w' ∧ Below w.heap.size w w' := by
  refine (impl_ParseValue t ht w hL hM).mono ?_
  rintro e w' ⟨h, hB⟩
  refine ⟨?_, hB⟩
  rcases h with ⟨p, v, bs, rfl, ho, hnd, hbs, hg, htx, hf⟩ | ⟨rfl, hno⟩
  · rcases hW with ⟨rfl, _, _, _, hu⟩ | ⟨rfl, rfl, hn⟩
    · obtain rfl := hu p hg hf htx
      exact ⟨v, bs, rfl, ho, hnd, hbs⟩
    · exact absurd htx (hn p hg hf)
  · rcases hW with ⟨rfl, hg, hf, htx, _⟩ | ⟨rfl, rfl, hn⟩
    · exact absurd htx (hno A hg hf)
    · exact ⟨_, [], rfl, .inl ⟨none, 0, rfl, rfl, rfl⟩, List.nodup_nil, by simp⟩

set_option maxHeartbeats 4000000 in
set_option maxRecDepth 100000 in
theorem spec_ParseValue (s : ByteArray) (hs : s.size ≤ 1048576) (w : World) :
    Calls Tryd.prog 4 #[.string s] w fun e w' => (∃ A B, Want s.data.toList A B ∧ Gives w A B e w') ∧ Below w.heap.size w w' := by
  obtain ⟨w1, hw1⟩ : ∃ w1, w1 = (w.alloc (.cells #[.int .i64 0, .int .i64 0, .string ⟨#[]⟩, .slice none 0 0] 24)).alloc (.cells #[.string s, .int .i64 0, .bool false] TS) := ⟨_, rfl⟩
  obtain ⟨n1, n2, n3, n4⟩ := two_new w (.cells #[.int .i64 0, .int .i64 0, .string ⟨#[]⟩, .slice none 0 0] 24) (.cells #[.string s, .int .i64 0, .bool false] TS)
  rw [← hw1] at n1 n2 n3 n4
  have hS1 : SAt w1 (w.heap.size + 1) s 0 false := n2
  have hd0 : s.data.toList.drop 0 = s.data.toList := rfl
  have hsl : s.data.toList.length = s.size := rfl
  have HC : Calls Tryd.prog 9 #[.pointer (some ⟨w.heap.size + 1, 0, none⟩), .int .i64 1] w1 fun e w' => SpAns w1 (w.heap.size + 1) s 0 0 1 e w' ∧ Only (Just (w.heap.size + 1)) w1 w' := spec_read_ok (w.heap.size + 1) w1 s 0 0 hS1 hs (by omega) (by omega)
  have hlow : ∀ w', Only (Just (w.heap.size + 1)) w1 w' → Below w.heap.size w w' := fun w' h => n4.trans (h.below (fun b hb => by have : b = w.heap.size + 1 := hb; omega) (by omega))
  have HW1 := Lib.hid hw1
  have H1 : Hid (PBox w1 w.heap.size 0 0 ⟨#[]⟩ (.slice none 0 0) ∧ w1.heap.size = w.heap.size + 2) := ⟨n1, n3⟩
  have HLow := Lib.hid hlow
  have HC1 := Lib.hid HC
  have HSZ := Lib.hid hs
  clear hw1 n1 n2 n3 n4 hS1 hlow HC
  go_enter Tryd.func4, Tryd.ntmps4
  go_wp2_with fail
  rw [← HW1.out]
  refine HC1.out.mono ?_
  clear HC1
  rintro e w2 ⟨hAns, hO2⟩
  have q1 := H1.out.2
  have hb2 : PBox w2 w.heap.size 0 0 ⟨#[]⟩ (.slice none 0 0) := (hO2.block _ (by omega) (by show ¬ (w.heap.size = w.heap.size + 1); omega)).trans H1.out.1
  have H2 : Hid (PBox w2 w.heap.size 0 0 ⟨#[]⟩ (.slice none 0 0) ∧ Below w.heap.size w w2 ∧ w.heap.size + 2 ≤ w2.heap.size) := ⟨hb2, HLow.out w2 hO2, by have := hO2.size; omega⟩
  clear hO2 q1 hb2
  rcases hAns with ⟨p, k2, m2, v, bs, rfl, ho, hnd, hbs, hS2, hk2, hP⟩ | ⟨kk, nn, t, a, l, c, k2, rfl, hS2, hk2, hN⟩
  rotate_left
  · -- it failed
    have HWant : Hid (Want s.data.toList zeroD false) := .inr ⟨rfl, rfl, fun q hq hf e => hN q [] hq (by rw [hd0, e, List.append_nil]) (.inl rfl) (fits_more hf)⟩
    obtain ⟨w3, hw3⟩ : ∃ w3, w3 = w2.alloc (.cells #[.int .i64 kk, .int .i64 nn, .string t, .slice a l c] 24) := ⟨_, rfl⟩
    have hB3 : Below w2.heap.size w2 w3 := by rw [hw3]; exact (Below.refl _ _).alloc (Nat.le_refl _) _
    have hP3 := (hB3.block _ (Array.getElem?_eq_some_iff.1 H2.out.1).1).trans H2.out.1
    obtain ⟨c0, c1, c2, f1, f2⟩ := (hS2.below hB3).cells
    obtain ⟨x0, x1, x2, x3, i0, i1, i2, i3⟩ := four_cells hP3
    have H3 : Hid (PBox w3 w.heap.size 0 0 ⟨#[]⟩ (.slice none 0 0) ∧ Below w.heap.size w w3) := ⟨hP3, H2.out.2.1.trans (hB3.mono H2.out.2.1.size)⟩
    clear hB3 hP3 hS2 hN hk2
    subst hw3
    go_wp2
    refine bodyPost_ret (results_row_tmp rfl _ _ w.heap.size _ _ _ _ rfl (set4_box H3.out.1 _ _ _ _) Tryd.underlying24 rfl (by kernel_rfl)) rfl ?_
    exact ⟨⟨zeroD, false, HWant.out, _, [], rfl, .inl ⟨none, 0, rfl, rfl, rfl⟩, List.nodup_nil, by simp⟩, (((H3.out.2.setCell (Nat.le_refl _) _).setCell (Nat.le_refl _) _).setCell (Nat.le_refl _) _).setCell (Nat.le_refl _) _⟩
  obtain ⟨p2, cap2, rfl, hcp, hread⟩ := ho.reads
  obtain ⟨w3, hw3⟩ : ∃ w3, w3 = w2.alloc (.cells #[.int .i64 p.k, .int .i64 p.n, .string p.t, .slice p2 p.F.length cap2] 24) := ⟨_, rfl⟩
  have hB3 : Below w2.heap.size w2 w3 := by rw [hw3]; exact (Below.refl _ _).alloc (Nat.le_refl _) _
  have hn3 : w3.heap[w2.heap.size]? = some (.cells #[.int .i64 p.k, .int .i64 p.n, .string p.t, .slice p2 p.F.length cap2] 24 (0, 0)) := by rw [hw3]; exact heap_at_new w2 _
  have hs3 : w3.heap.size = w2.heap.size + 1 := by rw [hw3]; exact Array.size_push _
  have hP3 := (hB3.block _ (Array.getElem?_eq_some_iff.1 H2.out.1).1).trans H2.out.1
  have ho3 := ho.keep (fun c hc => hB3.block c (hbs c hc).2)
  have hpl := congrArg List.length hP.text
  rw [List.length_append, List.length_drop, List.length_drop, hsl] at hpl
  have hge := good_ge hP.good
  have hsz0 := good_sz hP.good
  have hfc : p.F.count ≤ 1048576 := by have := HSZ.out; omega
  obtain ⟨_, hnb, htm, _⟩ := form_small hP.good.1
  have hfits := formed_fits _ hP.good.2 hfc
  have hfs : p.F.size ≤ 1048576 := by have := HSZ.out; omega
  have HC := Lib.hid (fun W (hb : Below w3.heap.size w3 W) => spec_count p.F hfc W p.k p.n p.t p2 cap2 ((hread.below hB3).below hb))
  have HD := Lib.hid (fun W (hb : Below w3.heap.size w3 W) => spec_depth p.F hfc W p.k p.n p.t p2 cap2 ((hread.below hB3).below hb))
  have HF := Lib.hid (fun W (hb : Below w3.heap.size w3 W) => spec_format_value p.F hfits hfs W p.k p.n p.t p2 cap2 hnb htm ((hread.below hB3).below hb))
  obtain ⟨c0, c1, c2, f1, f2⟩ := (hS2.below hB3).cells
  obtain ⟨x0, x1, x2, x3, i0, i1, i2, i3⟩ := four_cells hP3
  obtain ⟨y0, y1, y2, y3, _, _, _, _⟩ := four_cells hn3
  have H3 : Hid (PBox w3 w.heap.size 0 0 ⟨#[]⟩ (.slice none 0 0) ∧ Below w.heap.size w w3 ∧ w3.heap[w2.heap.size]? = some (.cells #[.int .i64 p.k, .int .i64 p.n, .string p.t, .slice p2 p.F.length cap2] 24 (0, 0)) ∧ w3.heap.size = w2.heap.size + 1) := ⟨hP3, H2.out.2.1.trans (hB3.mono H2.out.2.1.size), hn3, hs3⟩
  have H3b : Hid (OwnV w3 (.slice p2 p.F.length cap2) p.F bs ∧ bs.Nodup ∧ (∀ c ∈ bs, w1.heap.size ≤ c ∧ c < w2.heap.size) ∧ OkP 2097152 13 s.data.toList 0 1 p (s.data.toList.drop k2) m2) := ⟨ho3, hnd, hbs, hP⟩
  have HKeep : Hid (∀ W, Below w3.heap.size w3 W → PBox W w.heap.size 0 0 ⟨#[]⟩ (.slice none 0 0) ∧ Below w.heap.size w W ∧ W.heap[w2.heap.size]? = some (.cells #[.int .i64 p.k, .int .i64 p.n, .string p.t, .slice p2 p.F.length cap2] 24 (0, 0)) ∧ OwnV W (.slice p2 p.F.length cap2) p.F bs ∧ w2.heap.size ≤ W.heap.size) := fun W hb => ⟨(hb.block _ (Array.getElem?_eq_some_iff.1 H3.out.1).1).trans H3.out.1, H3.out.2.1.trans (hb.mono H3.out.2.1.size), (hb.block _ (by have := H3.out.2.2.2; omega)).trans H3.out.2.2.1, H3b.out.1.keep (fun c hc => hb.block c (by have := H3b.out.2.2.1 c hc; have := H3.out.2.2.2; omega)), by have := hb.size; have := H3.out.2.2.2; omega⟩
  have HW3 := Lib.hid hw3
  clear hB3 hn3 hs3 hP3 ho3 hpl hfc htm hnb hS2 ho hread hcp hnd hbs hP hfits hfs
  by_cases hend : k2 = s.size
  rotate_left
  · -- something is left
    have HWant : Hid (Want s.data.toList zeroD false) := .inr ⟨rfl, rfl, fun q hq hf e => by
      have h0 := (H3b.out.2.2.2.uniq q [] hq (by rw [e, List.append_nil]) (.inl rfl) (fits_more hf)).2
      have h1 := congrArg List.length h0
      rw [List.length_drop, hsl] at h1
      simp at h1
      omega⟩
    have hne : ((k2 : Int) != (s.size : Int)) = true := by simp; omega
    rw [hw3] at c0 c1 c2 f1 f2 x0 x1 x2 x3 i0 i1 i2 i3 y0 y1 y2 y3
    have H4 := H3
    rw [hw3] at H4
    clear hend hge hw3 hk2 HF HC HD hsz0
    go_wp2
    refine bodyPost_ret (results_row_tmp rfl _ _ w.heap.size _ _ _ _ rfl (set4_box H4.out.1 _ _ _ _) Tryd.underlying24 rfl (by kernel_rfl)) rfl ?_
    exact ⟨⟨zeroD, false, HWant.out, _, [], rfl, .inl ⟨none, 0, rfl, rfl, rfl⟩, List.nodup_nil, by simp⟩, (((H4.out.2.1.setCell (Nat.le_refl _) _).setCell (Nat.le_refl _) _).setCell (Nat.le_refl _) _).setCell (Nat.le_refl _) _⟩
  subst hend
  have htext : text p = s.data.toList := by
    have h1 := H3b.out.2.2.2.text
    rw [List.drop_eq_nil_of_le (by omega), List.append_nil] at h1
    exact h1.symm
  have hneq : ((s.size : Int) != (s.size : Int)) = false := by simp
  have HNot : Hid (¬ Fits 40 12 0 1 p → Want s.data.toList zeroD false) := fun hn => .inr ⟨rfl, rfl, fun q hq hf e => by
    have h0 := (H3b.out.2.2.2.uniq q [] hq (by rw [e, List.append_nil]) (.inl rfl) (fits_more hf)).1
    subst h0
    exact hn hf⟩
  have HCnt : Hid (1 + p.F.count = 1 + p.F.count) := rfl
  have HDep : Hid (p.F.deep + 1 = p.F.deep + 1) := rfl
  have HYes : Hid (1 + p.F.count ≤ 40 → p.F.deep + 1 ≤ 12 → Want s.data.toList p true) := fun h1 h2 => .inl ⟨rfl, H3b.out.2.2.2.good, ⟨by omega, by omega⟩, htext, fun q hq hf e => (H3b.out.2.2.2.uniq q [] hq (by rw [e, List.append_nil]) (.inl rfl) (fits_more hf)).1⟩
  have HNo : Hid (¬ (1 + p.F.count ≤ 40 ∧ p.F.deep + 1 ≤ 12) → Want s.data.toList zeroD false) := fun hn => HNot.out (fun hf => hn ⟨by have := hf.1; omega, by have := hf.2; omega⟩)
  have hfm : str (nodeText p.k p.n p.t p.F) = s := by
    show str (text p) = s
    rw [htext, str_data]
  rw [hfm] at HF
  have hbe : (s.toList != s.toList) = false := by simp
  generalize hcc : 1 + p.F.count = cc at HC HYes HNo
  generalize hdd : p.F.deep + 1 = dd at HD HYes HNo
  clear HCnt HDep HNot hcc hdd hfm htext hge hsz0 hk2
  rw [hw3] at c0 c1 c2 f1 f2 y0 y1 y2 y3
  clear hw3 x0 x1 x2 x3 i0 i1 i2 i3
  by_cases hc40 : cc ≤ 40
  rotate_left
  · have HWant := Lib.hid (HNo.out (fun h => hc40 h.1))
    have hcg : (40 : Int) < (cc : Int) := by omega
    clear HF HD HYes HNo hc40
    go_wp2_with fail
    rw [← HW3.out]
    refine (HC.out w3 (Below.refl _ _)).mono ?_
    clear HC c0 c1 c2 f1 f2 y0 y1 y2 y3
    rintro e w4 ⟨rfl, hb4⟩
    obtain ⟨k1, k2, k3, k4, k5⟩ := HKeep.out w4 hb4
    obtain ⟨x0, x1, x2, x3, i0, i1, i2, i3⟩ := four_cells k1
    have H4 : Hid (PBox w4 w.heap.size 0 0 ⟨#[]⟩ (.slice none 0 0) ∧ Below w.heap.size w w4) := ⟨k1, k2⟩
    clear hb4 k1 k2 k3 k4 k5
    go_wp2
    refine bodyPost_ret (results_row_tmp rfl _ _ w.heap.size _ _ _ _ rfl (set4_box H4.out.1 _ _ _ _) Tryd.underlying24 rfl (by kernel_rfl)) rfl ?_
    exact ⟨⟨zeroD, false, HWant.out, _, [], rfl, .inl ⟨none, 0, rfl, rfl, rfl⟩, List.nodup_nil, by simp⟩, (((H4.out.2.setCell (Nat.le_refl _) _).setCell (Nat.le_refl _) _).setCell (Nat.le_refl _) _).setCell (Nat.le_refl _) _⟩
  have hcg : ¬ (40 : Int) < (cc : Int) := by omega
  by_cases hd12 : dd ≤ 12
  rotate_left
  · have HWant := Lib.hid (HNo.out (fun h => hd12 h.2))
    have hdg : (12 : Int) < (dd : Int) := by omega
    clear HF HYes HNo hc40 hd12
    go_wp2_with fail
    rw [← HW3.out]
    refine (HC.out w3 (Below.refl _ _)).mono ?_
    clear HC c0 c1 c2 f1 f2 y0 y1 y2 y3
    rintro e w4 ⟨rfl, hb4⟩
    obtain ⟨k1, k2, k3, k4, k5⟩ := HKeep.out w4 hb4
    obtain ⟨y0, y1, y2, y3, _, _, _, _⟩ := four_cells k3
    have HB4 := Lib.hid hb4
    clear hb4 k1 k2 k3 k4 k5
    go_wp2_with fail
    refine (HD.out w4 HB4.out).mono ?_
    clear HD y0 y1 y2 y3
    rintro e w5 ⟨rfl, hb5⟩
    obtain ⟨k1, k2, k3, k4, k5⟩ := HKeep.out w5 (HB4.out.trans (hb5.mono HB4.out.size))
    obtain ⟨x0, x1, x2, x3, i0, i1, i2, i3⟩ := four_cells k1
    have H4 : Hid (PBox w5 w.heap.size 0 0 ⟨#[]⟩ (.slice none 0 0) ∧ Below w.heap.size w w5) := ⟨k1, k2⟩
    clear hb5 k1 k2 k3 k4 k5
    go_wp2
    refine bodyPost_ret (results_row_tmp rfl _ _ w.heap.size _ _ _ _ rfl (set4_box H4.out.1 _ _ _ _) Tryd.underlying24 rfl (by kernel_rfl)) rfl ?_
    exact ⟨⟨zeroD, false, HWant.out, _, [], rfl, .inl ⟨none, 0, rfl, rfl, rfl⟩, List.nodup_nil, by simp⟩, (((H4.out.2.setCell (Nat.le_refl _) _).setCell (Nat.le_refl _) _).setCell (Nat.le_refl _) _).setCell (Nat.le_refl _) _⟩
  have hdg : ¬ (12 : Int) < (dd : Int) := by omega
  have HWant := Lib.hid (HYes.out hc40 hd12)
  clear HYes HNo hc40 hd12
  go_wp2_with fail
  rw [← HW3.out]
  refine (HC.out w3 (Below.refl _ _)).mono ?_
  clear HC c0 c1 c2 f1 f2 y0 y1 y2 y3
  rintro e w4 ⟨rfl, hb4⟩
  obtain ⟨k1, k2, k3, k4, k5⟩ := HKeep.out w4 hb4
  obtain ⟨y0, y1, y2, y3, _, _, _, _⟩ := four_cells k3
  have HB4 := Lib.hid hb4
  clear hb4 k1 k2 k3 k4 k5
  go_wp2_with fail
  refine (HD.out w4 HB4.out).mono ?_
  clear HD y0 y1 y2 y3
  rintro e w5 ⟨rfl, hb5⟩
  have HB5 := Lib.hid (HB4.out.trans (hb5.mono HB4.out.size))
  obtain ⟨k1, k2, k3, k4, k5⟩ := HKeep.out w5 HB5.out
  obtain ⟨y0, y1, y2, y3, _, _, _, _⟩ := four_cells k3
  clear hb5 k1 k2 k3 k4 k5
  go_wp2_with fail
  refine (HF.out w5 HB5.out).mono ?_
  clear HF y0 y1 y2 y3
  rintro e w6 ⟨rfl, hb6⟩
  obtain ⟨k1, k2, k3, k4, k5⟩ := HKeep.out w6 (HB5.out.trans (hb6.mono HB5.out.size))
  obtain ⟨x0, x1, x2, x3, i0, i1, i2, i3⟩ := four_cells k1
  obtain ⟨y0, y1, y2, y3, _, _, _, _⟩ := four_cells k3
  have H4 : Hid (PBox w6 w.heap.size 0 0 ⟨#[]⟩ (.slice none 0 0) ∧ Below w.heap.size w w6 ∧ OwnV w6 (.slice p2 p.F.length cap2) p.F bs ∧ w2.heap.size ≤ w6.heap.size) := ⟨k1, k2, k4, k5⟩
  clear hb6 k1 k2 k3 k4 k5
  go_wp2
  refine bodyPost_ret (results_row_tmp rfl _ _ w.heap.size _ _ _ _ rfl (set4_box H4.out.1 _ _ _ _) Tryd.underlying24 rfl (by kernel_rfl)) rfl ?_
  have hbs := H3b.out.2.2.1
  have hq1 := H1.out.2
  refine ⟨⟨p, true, HWant.out, _, bs, rfl, H4.out.2.2.1.keep (fun c hc => set4_other _ _ _ _ (by have := hbs c hc; omega)), H3b.out.2.1, fun c hc => ⟨by have := hbs c hc; omega, Nat.lt_of_lt_of_le (hbs c hc).2 (Nat.le_trans H4.out.2.2.2 (Nat.le_of_eq (set4_size _ _ _ _ _ _).symm))⟩⟩, (((H4.out.2.1.setCell (Nat.le_refl _) _).setCell (Nat.le_refl _) _).setCell (Nat.le_refl _) _).setCell (Nat.le_refl _) _⟩
end Go.Proofs.YtijbaienhaiamaaDoor.Va
end

/- What is proved here: the laws' comparison of two values (eqValue and eqValueS) returns true where both read alike. Condition: they lie in memory as said. -/
section
namespace Go.Proofs.YtijbaienhaiamaaDoor
open Go.RowKit

set_option maxHeartbeats 1000000 in
set_option maxRecDepth 100000 in
theorem eqNode (w : World) (k n : Int) (t : ByteArray) (c : Nat) (p p2 : Option Addr) (cap cap2 : Nat)
    (H : ∀ w', Below w.heap.size w w' → Calls Tryd.prog 14 #[.slice p c cap, .slice p2 c cap2] w' fun e w'' => e = .returned (.bool true) ∧ Below w'.heap.size w' w'') :
    Calls Tryd.prog 6 #[.agg #[.int .i64 k, .int .i64 n, .string t, .slice p c cap], .agg #[.int .i64 k, .int .i64 n, .string t, .slice p2 c cap2]] w fun e w' => e = .returned (.bool true) ∧ Below w.heap.size w w' := by
  have hb : Below w.heap.size w ((w.alloc (.cells #[.int .i64 k, .int .i64 n, .string t, .slice p c cap] 24)).alloc (.cells #[.int .i64 k, .int .i64 n, .string t, .slice p2 c cap2] 24)) := ((Below.refl _ _).alloc (Nat.le_refl _) _).alloc (by simp) _
  have HB := Lib.hid hb
  clear hb
  have he : (t.toList == t.toList) = true := by simp
  go_enter Tryd.func6, Tryd.ntmps6
  go_wp2_with fail
  refine (H _ HB.out).mono ?_
  rintro e w1 ⟨rfl, hb1⟩
  have HB1 : Hid (Below w.heap.size w w1) := HB.out.trans (hb1.mono HB.out.size)
  clear hb1 H
  go_wp2
  go_ret
  exact ⟨rfl, HB1.out⟩

set_option maxHeartbeats 1000000 in
set_option maxRecDepth 100000 in
theorem eqValueS_same : ∀ F : Trees, F.fits → F.length ≤ maxLen → ∀ (w : World) (a b : Option Addr) (cap cap2 : Nat), TreesAt w F a 0 → TreesAt w F b 0 →
    Calls Tryd.prog 14 #[.slice a F.length cap, .slice b F.length cap2] w fun e w' => e = .returned (.bool true) ∧ Below w.heap.size w w' := by
  refine Trees.ind fun F hall hfit hm w a b cap cap2 hx hy => ?_
  unfold maxLen at hm
  have HX := Lib.hid hx
  have HY := Lib.hid hy
  have HALL := Lib.hid hall
  have HF := Lib.hid hfit
  clear hx hy hall hfit
  generalize hn : F.length = n at *
  have HN := Lib.hid hn
  clear hn
  go_enter Tryd.func14, Tryd.ntmps14
  go_wp2
  go_loopw [5] (fun i wr => ∃ (k : Nat) (rest : Trees), i = .int .i64 k ∧ k + rest.length = n ∧ Hid (TreesAt w rest a k) ∧ Hid (TreesAt w rest b k) ∧ Hid (rest.All (fun G => G.fits → G.length ≤ maxLen → ∀ (w : World) (a b : Option Addr) (cap cap2 : Nat), TreesAt w G a 0 → TreesAt w G b 0 →
    Calls Tryd.prog 14 #[.slice a G.length cap, .slice b G.length cap2] w fun e w' => e = .returned (.bool true) ∧ Below w.heap.size w w')) ∧ Hid rest.fits ∧ Hid (Below w.heap.size w wr)) (fun i _ => n - (intOf i).toNat)
  case atStart => exact ⟨0, F, rfl, by rw [HN.out]; omega, HX, HY, HALL, HF, Below.refl _ _⟩
  case round =>
    obtain ⟨k, rest, rfl, hkn, hxr, hyr, hall, hfr, hB⟩ := hrel
    cases rest with
    | cons kd nu t ar r =>
      have hkl : k < n := by simp only [Trees.length] at hkn; omega
      have hkn2 : k + 1 + r.length = n := by simp only [Trees.length] at hkn; omega
      obtain ⟨y, p, cp, rfl, h1, h2, h3, h4, hs, hr⟩ := (hxr.out.below hB.out).open
      obtain ⟨z, p2, cp2, rfl, j1, j2, j3, j4, hs2, hr2⟩ := (hyr.out.below hB.out).open
      obtain ⟨hfk, hfn, hft, hfl, hfa, hfr2⟩ := hfr.out
      obtain ⟨ha1, ha2⟩ := hall.out
      have hxr2 : Hid (TreesAt w r (some y) (k + 1)) := hxr.out.2
      have hyr2 : Hid (TreesAt w r (some z) (k + 1)) := hyr.out.2
      have H := fun (w' : World) (h : Below wr.heap.size wr w') => eqNode w' kd nu t ar.length p p2 cp cp2 (fun w'' hbw => ha1 hfa hfl w'' p p2 cp cp2 ((hs.below h).below hbw) ((hs2.below h).below hbw))
      have HR2 := Lib.hid hfr2
      have HA2 := Lib.hid ha2
      clear hxr hyr hall hfr hs hr hs2 hr2 hfk hfn hft hfl hfa hfr2 ha1 ha2 hkn
      go_wp2
      go_region_held3 (fun w' => (w'.cell? (y.add (k * 4)) = some (.int .i64 kd) ∧ w'.cell? (fieldAt y k 1) = some (.int .i64 nu) ∧ w'.cell? (fieldAt y k 2) = some (.string t) ∧ w'.cell? (fieldAt y k 3) = some (.slice p ar.length cp)) ∧ w'.cell? (z.add (k * 4)) = some (.int .i64 kd) ∧ w'.cell? (fieldAt z k 1) = some (.int .i64 nu) ∧ w'.cell? (fieldAt z k 2) = some (.string t) ∧ w'.cell? (fieldAt z k 3) = some (.slice p2 ar.length cp2))
        (first
          | go_keep
          | (refine ⟨⟨cell_below ?_ hbl, cell_below ?_ hbl, cell_below ?_ hbl, cell_below ?_ hbl⟩, cell_below ?_ hbl, cell_below ?_ hbl, cell_below ?_ hbl, cell_below ?_ hbl⟩ <;> assumption))
        (first
          | (go_at_call 6; refine (H _ ((Below.refl _ _).drew)).mono ?_; rintro e w1 ⟨rfl, hbl⟩))
      have HB1 : Hid (Below w.heap.size w w1) := hB.out.trans ((below_of_drew hbl).mono hB.out.size)
      clear hbl H
      go_wp2
      go_roundw
      case rel => exact ⟨k + 1, r, by go_num, hkn2, hxr2, hyr2, HA2, HR2, HB1⟩
      case measure => simp [intOf]; omega
    | nil =>
      obtain rfl : k = n := by simp only [Trees.length] at hkn; omega
      clear hxr hyr hall hfr
      go_wp2
      go_ret
      exact ⟨rfl, hB.out⟩

theorem eqValue_same (w : World) (k n : Int) (t : ByteArray) (ar : Trees) (p p2 : Option Addr) (cap cap2 : Nat) (hf : ar.fits) (hm : ar.length ≤ maxLen) (hx : TreesAt w ar p 0) (hy : TreesAt w ar p2 0) :
    Calls Tryd.prog 6 #[.agg #[.int .i64 k, .int .i64 n, .string t, .slice p ar.length cap], .agg #[.int .i64 k, .int .i64 n, .string t, .slice p2 ar.length cap2]] w fun e w' => e = .returned (.bool true) ∧ Below w.heap.size w w' :=
  eqNode w k n t ar.length p p2 cap cap2 (fun w' hb => eqValueS_same ar hf hm w' p p2 cap cap2 (hx.below hb) (hy.below hb))
end Go.Proofs.YtijbaienhaiamaaDoor
end

/- What is proved here: the laws' helper that makes a marked text (markText). Condition: small numbers. -/
section
namespace Go.Proofs.YtijbaienhaiamaaDoor
open Go.RowKit
open Go.Lib (decDigits nDigits)

theorem conv_digit (d : Nat) (hd : d < 10) (w : World) :
    (convert 62 9 (.slice (some ⟨w.heap.size, 0, none⟩) 1 1)).run Tryd.prog (w.alloc (.cells #[.int .u8 (48 + (d : Int))] 5)) = .ok (.string ⟨#[UInt8.ofNat (48 + d)]⟩) (w.alloc (.cells #[.int .u8 (48 + (d : Int))] 5)) := by
  have h := run_convert_bytes_back (P := Tryd.prog) (w.alloc (.cells #[.int .u8 (48 + (d : Int))] 5)) 62 9 5 ⟨w.heap.size, 0, none⟩ 1 [UInt8.ofNat (48 + d)] Tryd.underlying62 Tryd.underlying5 Tryd.underlying9 (fun j hj => by
    have hj0 : j = 0 := by simpa using hj
    subst hj0
    have e : ((UInt8.ofNat (48 + d)).toNat : Int) = 48 + (d : Int) := by simp; omega
    rw [Lib.add_plain]
    simp only [List.getElem_cons_zero]
    rw [e]
    simp [World.cell?_alloc_new])
  simpa using h
theorem cat_digit (c : UInt8) (L : List UInt8) (h : L.length ≤ 100) (w : World) : (Op.stringOp .add ⟨#[c]⟩ ⟨L.toArray⟩).run Tryd.prog w = .ok (.string ⟨(c :: L).toArray⟩) w := by
  have e1 : (ByteArray.mk #[c]).size = 1 := rfl
  have e2 : (ByteArray.mk L.toArray).size = L.length := by show L.toArray.size = _; simp
  rw [run_string_add_sum w _ _ (by rw [e1, e2]; omega)]
  rfl

/-- The mark of k. -/
def mt (k : Nat) : ByteArray := ⟨(109 :: decDigits k).toArray⟩

set_option maxHeartbeats 400000 in
set_option maxRecDepth 100000 in
theorem markText_any (n : Nat) (hp : 1 ≤ n) (h1 : n ≤ 4294967296) (w : World) :
    Calls Tryd.prog 33 #[.int .i64 (n : Int)] w fun e w' => e = .returned (.string (mt n)) ∧ Below w.heap.size w w' := by
  have hn20 : (decDigits n).length ≤ 20 := by rw [Lib.decDigits_length]; exact Lib.nDigits_le20 n (by omega)
  have hcm := cat_digit 109 (decDigits n) (by omega)
  have HN := Lib.hid hn20
  clear hn20
  go_enter Tryd.func33, Tryd.ntmps33
  go_wp2
  go_loopw [0, 3] (fun a o wr => ∃ (u : Nat) (L : List UInt8), a = .int .i64 u ∧ u ≤ n ∧ o = .string ⟨L.toArray⟩ ∧ L.length ≤ 20 ∧ digitsOf u ++ L = decDigits n ∧ Below w.heap.size w wr) (fun a _ _ => (intOf a).toNat)
  case atStart => exact ⟨n, [], rfl, Nat.le_refl _, rfl, by simp, by simp [digitsOf_pos (show n ≠ 0 by omega)], Below.refl _ _⟩
  case round =>
    obtain ⟨u, L, rfl, hu, rfl, hL, hD, hb⟩ := hrel
    by_cases h0 : u = 0
    · subst h0
      rw [digitsOf_zero] at hD
      simp at hD
      subst hD
      go_wp2
      go_ret
      exact ⟨rfl, hb⟩
    · have hD' := Lib.hid hD
      clear hD
      have hcv := conv_digit (u % 10) (by omega) wr
      have hct := cat_digit (UInt8.ofNat (48 + u % 10)) L (by omega)
      have hpos : 0 < u := by omega
      simp only [Int.natCast_emod, Int.cast_ofNat_Int] at hcv
      go_wp2
      go_roundw
      case rel =>
        refine ⟨u / 10, _, by go_num, by omega, rfl, ?_, ?_, ?_⟩
        · have := hD'.out
          rw [digitsOf_step h0] at this
          have h2 := congrArg List.length this
          have h3 := HN.out
          simp at h2 ⊢
          omega
        · have := hD'.out
          rw [digitsOf_step h0] at this
          simpa using this
        · exact hb.alloc (by have := hb.size; omega) _
      case measure => simp [intOf]; omega
end Go.Proofs.YtijbaienhaiamaaDoor
end

/- What is proved here: a row of nodes as the laws mark it (pure). No condition. -/
section
namespace Go.Proofs.YtijbaienhaiamaaDoor
open Go.RowKit

/-- A row that is marked from k on: three marks a node. -/
def Trees.marked : Trees → Nat → Trees
  | .nil, _ => .nil
  | .cons _ _ _ ar r, k => .cons (k : Int) ((k + 1 : Nat) : Int) (mt (k + 2)) (ar.marked (k + 3)) (r.marked (k + 3 + 3 * ar.count))
theorem Trees.marked_length (F : Trees) : ∀ k, (F.marked k).length = F.length := by
  induction F with
  | nil => intro _; rfl
  | cons _ _ _ ar r _ ih => intro k; simp [Trees.marked, Trees.length, ih]

end Go.Proofs.YtijbaienhaiamaaDoor
end

/- What is proved here: the laws mark every node of a value (markValue). Conditions: the value lies in memory of the call's own; small numbers. -/
section
namespace Go.Proofs.YtijbaienhaiamaaDoor
open Go.RowKit

theorem NodeBlock.set {w : World} {g : Nat} (h : NodeBlock w g) (o : Nat) (u : Value) : NodeBlock (w.setCell ⟨g, o, none⟩ u) g := by
  obtain ⟨cs, h⟩ := h
  exact ⟨cs.setIfInBounds o u, by simp [World.setCell, Array.getElem?_modify, h]⟩
theorem NodeBlock.same {w w' : World} {g : Nat} (h : NodeBlock w g) (e : w'.heap[g]? = w.heap[g]?) : NodeBlock w' g := by
  obtain ⟨cs, h⟩ := h
  exact ⟨cs, e.trans h⟩

theorem cell_other (w : World) (g o o' : Nat) (u : Value) (h : o ≠ o') : (w.setCell ⟨g, o, none⟩ u).cell? ⟨g, o', none⟩ = w.cell? ⟨g, o', none⟩ :=
  World.cell?_setCell_other _ _ _ _ (fun e => h (by injection e))

/-- One node more is marked. -/
theorem RowIn.mark {wr w4 : World} {pre r ar2 : Trees} {g : Nat} {b1 c1 c2 : List Nat} {k n : Int} {t : ByteArray} {v : Value} (hpre : RowIn wr pre g 0 b1) (hr : RowIn wr r g (pre.length + 1) c2)
    (h0 : w4.cell? ⟨g, pre.length * 4, none⟩ = some (.int .i64 k)) (h1 : w4.cell? ⟨g, pre.length * 4 + 1, none⟩ = some (.int .i64 n)) (h2 : w4.cell? ⟨g, pre.length * 4 + 2, none⟩ = some (.string t)) (h3 : w4.cell? ⟨g, pre.length * 4 + 3, none⟩ = some v) (ho : OwnV w4 v ar2 c1)
    (hc : ∀ o, (o < pre.length * 4 ∨ pre.length * 4 + 4 ≤ o) → w4.cell? ⟨g, o, none⟩ = wr.cell? ⟨g, o, none⟩) (hb1 : ∀ b ∈ b1, w4.heap[b]? = wr.heap[b]?) (hb2 : ∀ b ∈ c2, w4.heap[b]? = wr.heap[b]?) :
    RowIn w4 (pre.snoc k n t ar2) g 0 (b1 ++ c1) ∧ RowIn w4 r g (pre.length + 1) c2 := by
  refine ⟨(RowIn.append _ _ _ _ _).2 ⟨b1, c1, rfl, hpre.keep pre g 0 b1 (fun o _ ho2 => hc o (.inl (by omega))) hb1, v, c1, [], by simp, ?_, ?_, ?_, ?_, ho, rfl⟩, hr.keep r g _ c2 (fun o ho1 _ => hc o (.inr (by omega))) hb2⟩
  · rw [Nat.zero_add]; exact h0
  · rw [Nat.zero_add]; exact h1
  · rw [Nat.zero_add]; exact h2
  · rw [Nat.zero_add]; exact h3

def MarksV (F : Trees) : Prop := F.count ≤ 1048576 → ∀ (k : Nat), 1 ≤ k → k + 3 * F.count ≤ 16777216 → ∀ (w : World) (v : Value) (bs : List Nat), OwnV w v F bs → bs.Nodup →
    Calls Tryd.prog 15 #[v, .int .i64 (k : Int)] w fun e w' => e = .returned (.int .i64 ((k + 3 * F.count : Nat) : Int)) ∧ OwnV w' v (F.marked k) bs ∧ Only (fun b => b ∈ bs) w w'

set_option maxHeartbeats 2000000 in
set_option maxRecDepth 100000 in
theorem markValueS_any : ∀ F : Trees, MarksV F := by
  refine Trees.ind fun F hall hc k hk hkc w v bs hO hnd => ?_
  have hlc := F.length_le_count
  generalize hz : k + 3 * F.count = z at *
  rcases hO with ⟨a, cap, rfl, rfl, rfl⟩ | ⟨g, cap, b', rfl, hcap, rfl, hN, hrow⟩
  · obtain rfl : k = z := hz
    go_enter Tryd.func15, Tryd.ntmps15
    go_wp2
    go_loopw [1, 5] (fun q i wr => i = .int .i64 0 ∧ q = .int .i64 (k : Int) ∧ Hid (wr = w)) (fun _ _ _ => 0)
    case atStart => exact ⟨rfl, rfl, rfl⟩
    case round =>
      obtain ⟨rfl, rfl, hw⟩ := hrel
      go_wp2
      go_ret
      rw [hw.out]
      exact ⟨rfl, .inl ⟨a, cap, rfl, rfl, rfl⟩, Only.refl _ _⟩
  · have HALL := Lib.hid hall
    have HROW := Lib.hid hrow
    have HN := Lib.hid hN
    have HND := Lib.hid hnd
    have HZ := Lib.hid hz
    have HCAP := Lib.hid hcap
    clear hall hrow hN hnd hz hcap
    generalize hn : F.length = nn at *
    have HL := Lib.hid hn
    clear hn
    go_enter Tryd.func15, Tryd.ntmps15
    go_wp2
    go_loopw [1, 5] (fun q i wr => ∃ (j m : Nat) (pre rest : Trees) (b1 b2 : List Nat), i = .int .i64 j ∧ q = .int .i64 m ∧ j + rest.length = nn ∧ m + 3 * rest.count = z ∧ 1 ≤ m ∧ Hid (pre.length = j) ∧ Hid (pre.append (rest.marked m) = F.marked k) ∧ Hid (b' = b1 ++ b2) ∧ Hid (RowIn wr pre g 0 b1 ∧ RowIn wr rest g j b2 ∧ NodeBlock wr g) ∧ Hid (rest.count ≤ 1048576) ∧ Hid (rest.All MarksV) ∧ Hid (Only (fun b => b ∈ g :: b') w wr)) (fun _ i _ => nn - (intOf i).toNat)
    case atStart => exact ⟨0, k, .nil, F, [], b', rfl, rfl, by rw [HL.out]; omega, HZ.out, hk, rfl, rfl, rfl, ⟨rfl, HROW.out, HN.out⟩, hc, HALL, Only.refl _ _⟩
    case round =>
      obtain ⟨j, m, pre, rest, b1, b2, rfl, rfl, hjn, hmz, hm1, HPJ, hT, hbb, hR, hcr, hall, hO⟩ := hrel
      cases rest with
      | nil =>
        obtain rfl : j = nn := by simp only [Trees.length] at hjn; omega
        obtain rfl : m = z := by simp only [Trees.count] at hmz; omega
        have hb2 : b2 = [] := hR.out.2.1
        subst hb2
        have HT2 : Hid (pre = F.marked k) := by have := hT.out; rwa [Trees.marked, Trees.append_nil] at this
        have HB2 : Hid (b' = b1) := by have := hbb.out; rwa [List.append_nil] at this
        clear hcr hall hT hbb
        go_wp2
        go_ret
        refine ⟨rfl, .inr ⟨g, cap, b', ?_, ?_, rfl, hR.out.2.2, ?_⟩, hO.out⟩
        · rw [Trees.marked_length, HL.out]
        · rw [Trees.marked_length, HL.out]; exact HCAP.out
        · rw [← HT2.out, HB2.out]; exact hR.out.1
      | cons kd nu tx ar r =>
        have hjl : j < nn := by simp only [Trees.length] at hjn; omega
        have hjn2 : j + 1 + r.length = nn := by simp only [Trees.length] at hjn; omega
        have hcr2 := hcr.out
        simp only [Trees.count] at hcr2
        have hmz2 : m + 3 + 3 * ar.count + 3 * r.count = z := by simp only [Trees.count] at hmz; omega
        obtain ⟨hpre, ⟨v, c1, c2, hb2, h0, h1, h2, h3, hov, hr⟩, hN⟩ := hR.out
        subst hb2
        have hov2 : OwnV wr v ar c1 := hov
        have hnd2 := HND.out
        rw [hbb.out] at hnd2
        have hgb := (List.nodup_cons.1 hnd2).1
        have hnd3 := (List.nodup_cons.1 hnd2).2
        have hnd4 := (List.nodup_append.1 hnd3).2.1
        have hnc1 := (List.nodup_append.1 hnd4).1
        have hgl := hN.lt
        obtain ⟨p2, cap2, hv2, _, _⟩ := hov2.reads
        subst hv2
        -- the worlds of the round
        have d0 := hN.free (j * 4)
        have d1 := hN.free (j * 4 + 1)
        obtain ⟨w1, hw1⟩ : ∃ w1, w1 = (wr.setCell ⟨g, j * 4, none⟩ (.int .i64 (m : Int))).setCell ⟨g, j * 4 + 1, none⟩ (.int .i64 ((m : Int) + 1)) := ⟨_, rfl⟩
        have hN1 : NodeBlock w1 g := by rw [hw1]; exact (hN.set _ _).set _ _
        have s1 : w1.heap.size = wr.heap.size := by rw [hw1]; simp [World.setCell]
        have eo : ∀ o, o ≠ j * 4 → o ≠ j * 4 + 1 → w1.cell? ⟨g, o, none⟩ = wr.cell? ⟨g, o, none⟩ := fun o ha hb => by rw [hw1, cell_other _ _ _ _ _ (Ne.symm hb), cell_other _ _ _ _ _ (Ne.symm ha)]
        have e0 : w1.cell? ⟨g, j * 4, none⟩ = some (.int .i64 (m : Int)) := by rw [hw1, cell_other _ _ _ _ _ (by omega), World.cell?_setCell_same' _ _ _ (by rw [h0]; rfl)]
        have e1 : w1.cell? ⟨g, j * 4 + 1, none⟩ = some (.int .i64 ((m : Int) + 1)) := by rw [hw1, World.cell?_setCell_same' _ _ _ (by rw [cell_other _ _ _ _ _ (by omega), h1]; rfl)]
        have e2 := (eo (j * 4 + 2) (by omega) (by omega)).trans h2
        have e3 := (eo (j * 4 + 3) (by omega) (by omega)).trans h3
        have eb : ∀ b, b ≠ g → w1.heap[b]? = wr.heap[b]? := fun b hb => by rw [hw1, Below.heap_setCell _ _ _ _ hb, Below.heap_setCell _ _ _ _ hb]
        have oW : Only (fun b => b ∈ g :: b') wr w1 := by rw [hw1]; exact (Only.setCell (p := ⟨g, j * 4, none⟩) (by simp) _).trans (Only.setCell (p := ⟨g, j * 4 + 1, none⟩) (by simp) _)
        have HW1 := Lib.hid hw1
        have HN1 := Lib.hid hN1
        have HS1 := Lib.hid s1
        have HEO := Lib.hid eo
        have HE0 := Lib.hid e0
        have HE1 := Lib.hid e1
        have HE2 := Lib.hid e2
        have HE3 := Lib.hid e3
        have HEB := Lib.hid eb
        have HOW1 : Hid (Only (fun b => b ∈ g :: b') w w1) := hO.out.trans oW
        have HPRE := Lib.hid hpre
        have HRR := Lib.hid hr
        have HOV := Lib.hid hov2
        have HGL := Lib.hid hgl
        have HBL : Hid (∀ b ∈ b1 ++ (c1 ++ c2), b < wr.heap.size) := fun b hb => by
          rcases List.mem_append.1 hb with h | h
          · exact (hpre.blocks pre g 0 b1 b h).lt
          · rcases List.mem_append.1 h with h | h
            · exact (hov2.blocks b h).lt
            · exact (hr.blocks r g _ c2 b h).lt
        have HGN : Hid (∀ b ∈ b1 ++ (c1 ++ c2), b ≠ g) := fun b hb e => hgb (e ▸ hb)
        have HND1 := Lib.hid hnc1
        have HD1 : Hid (∀ b ∈ b1, b ∉ c1) := fun b hb hc => (List.nodup_append.1 hnd3).2.2 b hb b (List.mem_append_left _ hc) rfl
        have HD2 : Hid (∀ b ∈ c2, b ∉ c1) := fun b hb hc => (List.nodup_append.1 hnd4).2.2 b hc b hb rfl
        have HMV := Lib.hid hall.out.1
        have HA2 := Lib.hid hall.out.2
        have HCA : Hid (ar.count ≤ 1048576) := by unfold Hid; omega
        have HCR : Hid (r.count ≤ 1048576) := by unfold Hid; omega
        have HKA : Hid (m + 3 + 3 * ar.count ≤ 16777216) := by unfold Hid; omega
        have HM2 := Lib.hid hmz2
        have hmb : m ≤ 16777216 := by omega
        have hT2 := hT.out
        rw [Trees.marked, ← Trees.snoc_append] at hT2
        have HT2 := Lib.hid hT2
        have HBB : Hid (b' = (b1 ++ c1) ++ c2) := by unfold Hid; rw [hbb.out, List.append_assoc]
        have HINC : Hid (∀ b ∈ c1, b ∈ g :: b') := fun b hb => by rw [hbb.out]; simp [hb]
        clear hw1 hN1 s1 eo e0 e1 e2 e3 eb oW hpre hr hov hov2 hgl hgb hnd2 hnd3 hnd4 hnc1 hall hcr hcr2 hmz2 hmz hT hT2 hbb hR hN hO hjn h2 h3
        go_wp2_with fail
        rw [← HW1.out]
        refine (markText_any (m + 2) (by omega) (by omega) _).mono ?_
        rintro e w2 ⟨rfl, hb2⟩
        have hgl2 : g < w1.heap.size := HN1.out.lt
        have k2 := cell_below HE2.out hb2
        have k3 := cell_below HE3.out hb2
        have hN2 : NodeBlock w2 g := HN1.out.same (hb2.block g hgl2)
        have f2 := hN2.free (j * 4 + 2)
        have k3' : (w2.setCell ⟨g, j * 4 + 2, none⟩ (.string (mt (m + 2)))).cell? ⟨g, j * 4 + 3, none⟩ = some (.slice p2 ar.length cap2) := by rw [cell_other _ _ _ _ _ (by omega)]; exact k3
        obtain ⟨w3, hw3⟩ : ∃ w3, w3 = w2.setCell ⟨g, j * 4 + 2, none⟩ (.string (mt (m + 2))) := ⟨_, rfl⟩
        have hs3 : w3.heap.size = w2.heap.size := by rw [hw3]; simp [World.setCell]
        have q3 : ∀ b, b ≠ g → b < wr.heap.size → w3.heap[b]? = wr.heap[b]? := fun b hb hl => by
          rw [hw3, Below.heap_setCell _ _ _ _ hb, hb2.block b (by rw [HS1.out]; exact hl)]
          exact HEB.out b hb
        have qo : ∀ o, (o < j * 4 ∨ j * 4 + 4 ≤ o) → w3.cell? ⟨g, o, none⟩ = wr.cell? ⟨g, o, none⟩ := fun o ho => by
          rw [hw3, cell_other _ _ _ _ _ (by omega), World.cell?_of_block (a := ⟨g, o, none⟩) (hb2.block g hgl2)]
          exact HEO.out o (by omega) (by omega)
        have q0 : w3.cell? ⟨g, j * 4, none⟩ = some (.int .i64 (m : Int)) := by rw [hw3, cell_other _ _ _ _ _ (by omega)]; exact cell_below HE0.out hb2
        have q1 : w3.cell? ⟨g, j * 4 + 1, none⟩ = some (.int .i64 ((m : Int) + 1)) := by rw [hw3, cell_other _ _ _ _ _ (by omega)]; exact cell_below HE1.out hb2
        have q2 : w3.cell? ⟨g, j * 4 + 2, none⟩ = some (.string (mt (m + 2))) := by rw [hw3, World.cell?_setCell_same' _ _ _ (by rw [k2]; rfl)]
        have q4 : w3.cell? ⟨g, j * 4 + 3, none⟩ = some (.slice p2 ar.length cap2) := by rw [hw3]; exact k3'
        have hN3 : NodeBlock w3 g := by rw [hw3]; exact hN2.set _ _
        have HOW3 : Hid (Only (fun b => b ∈ g :: b') w w3) := by
          unfold Hid
          rw [hw3]
          exact (HOW1.out.trans (Only.of_below hb2)).trans (Only.setCell (p := ⟨g, j * 4 + 2, none⟩) (by simp) _)
        have HOV3 : Hid (OwnV w3 (.slice p2 ar.length cap2) ar c1) := HOV.out.keep (fun b hb => q3 b (HGN.out b (by simp [hb])) (HBL.out b (by simp [hb])))
        have HW3 := Lib.hid hw3
        have HQ3 := Lib.hid q3
        have HQO := Lib.hid qo
        have HQ0 := Lib.hid q0
        have HQ1 := Lib.hid q1
        have HQ2 := Lib.hid q2
        have HQ4 := Lib.hid q4
        have HN3 := Lib.hid hN3
        have HSL : Hid (wr.heap.size ≤ w3.heap.size) := by unfold Hid; rw [hs3, ← HS1.out]; exact hb2.size
        clear hw3 hs3 q3 qo q0 q1 q2 q4 hN3 hN2 hb2 k3 hgl2
        go_wp2_with fail
        rw [← HW3.out]
        refine (HMV.out HCA.out (m + 3) (by omega) HKA.out w3 _ c1 HOV3.out HND1.out).mono ?_
        rintro e w4 ⟨rfl, ho4, hon⟩
        have hg3 := HN3.out.lt
        have hgc : ¬ g ∈ c1 := fun h => HGN.out g (by simp [h]) rfl
        have hgk := hon.block g hg3 hgc
        have hRM := RowIn.mark (wr := wr) (w4 := w4) (k := (m : Int)) (n := ((m + 1 : Nat) : Int)) (t := mt (m + 2)) HPRE.out (by rw [HPJ.out]; exact HRR.out)
          (by rw [HPJ.out, World.cell?_of_block (a := ⟨g, j * 4, none⟩) hgk]; exact HQ0.out) (by rw [HPJ.out, World.cell?_of_block (a := ⟨g, j * 4 + 1, none⟩) hgk]; exact HQ1.out) (by rw [HPJ.out, World.cell?_of_block (a := ⟨g, j * 4 + 2, none⟩) hgk]; exact HQ2.out) (by rw [HPJ.out, World.cell?_of_block (a := ⟨g, j * 4 + 3, none⟩) hgk]; exact HQ4.out) ho4
          (fun o ho => by rw [HPJ.out] at ho; rw [World.cell?_of_block (a := ⟨g, o, none⟩) hgk]; exact HQO.out o ho)
          (fun b hb => (hon.block b (Nat.lt_of_lt_of_le (HBL.out b (by simp [hb])) HSL.out) (HD1.out b hb)).trans (HQ3.out b (HGN.out b (by simp [hb])) (HBL.out b (by simp [hb]))))
          (fun b hb => (hon.block b (Nat.lt_of_lt_of_le (HBL.out b (by simp [hb])) HSL.out) (HD2.out b hb)).trans (HQ3.out b (HGN.out b (by simp [hb])) (HBL.out b (by simp [hb]))))
        have HRM : Hid (RowIn w4 (pre.snoc (m : Int) ((m + 1 : Nat) : Int) (mt (m + 2)) (ar.marked (m + 3))) g 0 (b1 ++ c1) ∧ RowIn w4 r g (j + 1) c2 ∧ NodeBlock w4 g) := ⟨hRM.1, by have := hRM.2; rwa [HPJ.out] at this, HN3.out.same hgk⟩
        have HPL : Hid ((pre.snoc (m : Int) ((m + 1 : Nat) : Int) (mt (m + 2)) (ar.marked (m + 3))).length = j + 1) := by unfold Hid; rw [Trees.snoc_length, HPJ.out]
        have HOW4 : Hid (Only (fun b => b ∈ g :: b') w w4) := HOW3.out.trans (hon.wider (fun b hb => HINC.out b hb))
        clear ho4 hon hg3 hgc hgk hRM k3' k2 f2 h0 h1 d0 d1
        generalize pre.snoc (m : Int) ((m + 1 : Nat) : Int) (mt (m + 2)) (ar.marked (m + 3)) = pre2 at *
        generalize hd : 3 * ar.count = d at *
        have hmz3 := HM2.out
        have hkb := HKA.out
        go_wp2
        go_roundw
        case rel => exact ⟨j + 1, m + 3 + d, pre2, r, b1 ++ c1, c2, by go_num, by go_num, hjn2, hmz3, by omega, HPL, HT2, HBB, HRM, HCR, HA2, HOW4⟩
        case measure => simp [intOf]; omega

set_option maxRecDepth 100000 in
theorem markValue_any (w : World) (a n : Int) (t : ByteArray) (F : Trees) (k : Nat) (v : Value) (bs : List Nat) (hc : F.count ≤ 1048576) (hk : 1 ≤ k) (hkc : k + 3 * F.count ≤ 16777216) (hO : OwnV w v F bs) (hnd : bs.Nodup) :
    Calls Tryd.prog 7 #[.agg #[.int .i64 a, .int .i64 n, .string t, v], .int .i64 (k : Int)] w fun e w' => e = .returned (.int .i64 ((k + 3 * F.count : Nat) : Int)) ∧ OwnV w' v (F.marked k) bs ∧ Only (fun b => b ∈ bs) w w' := by
  have hbl : ∀ b ∈ bs, b < w.heap.size := fun b hb => (hO.blocks b hb).lt
  obtain ⟨p, cap, hv, _, _⟩ := hO.reads
  subst hv
  have hB : Below w.heap.size w (w.alloc (.cells #[.int .i64 a, .int .i64 n, .string t, .slice p F.length cap] 24)) := (Below.refl _ _).alloc (Nat.le_refl _) _
  have H := Lib.hid (markValueS_any F hc k hk hkc (w.alloc (.cells #[.int .i64 a, .int .i64 n, .string t, .slice p F.length cap] 24)) (.slice p F.length cap) bs (hO.keep (fun b hb => hB.block b (hbl b hb))) hnd)
  have HB := Lib.hid hB
  clear hO hnd hbl hB
  generalize k + 3 * F.count = z at *
  generalize F.marked k = G at *
  go_enter Tryd.func7, Tryd.ntmps7
  go_wp2_with fail
  refine H.out.mono ?_
  rintro e w1 ⟨rfl, ho, hon⟩
  have HO := Lib.hid ho
  have HON := Lib.hid hon
  clear ho hon H
  go_wp2
  go_ret
  exact ⟨rfl, HO.out, (Only.of_below HB.out).trans HON.out⟩
end Go.Proofs.YtijbaienhaiamaaDoor
end
