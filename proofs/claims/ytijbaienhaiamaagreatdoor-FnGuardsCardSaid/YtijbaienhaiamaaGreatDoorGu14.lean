/- What is proved here: a piece of the proof of YtijbaienhaiamaaGreatDoorGuards (ExRead, ExWord, ExUniq, SReader). Condition: none beyond what each part says. -/
import Derived.Test.YtijbaienhaiamaaGreatDoorGu11
import Derived.Test.YtijbaienhaiamaaGreatDoorGu02
import Derived.Test.YtijbaienhaiamaaGreatDoorGu13
import Derived.Test.YtijbaienhaiamaaGreatDoorGu08
import Derived.Test.YtijbaienhaiamaaGreatDoorGu10

/- What is proved here: what reading an expression answers, and where. No condition. -/
section
namespace Go.Proofs.YtijbaienhaiamaaGreatDoor.Ex
open Go.RowKit

/-- The library's variables stay where only block b changes. -/
def KeepsE (b : Nat) (w : World) : Prop := ∀ w', Only (Just b) w w' → LibVars w'
theorem KeepsE.on {b : Nat} {w w' : World} (h : KeepsE b w) (k : Only (Just b) w w') : KeepsE b w' := fun w2 h2 => h w2 (k.trans h2)
theorem KeepsE.lib {b : Nat} {w : World} (h : KeepsE b w) : LibVars w := h w (Only.refl _ _)
abbrev TR : TypeId := 110
abbrev TP : TypeId := 54
/-- A box of an expression. -/
abbrev PBox (w : World) (g : Nat) (k n : Int) (t : ByteArray) (v : Value) : Prop := w.heap[g]? = some (.cells #[.int .i64 k, .int .i64 n, .string t, v] TP (0, 0))
abbrev zeroBox : Obj := .cells #[.int .i64 0, .int .i64 0, .string ⟨#[]⟩, .slice none 0 0] TP
theorem set4_box {w : World} {g : Nat} {k n : Int} {t : ByteArray} {v : Value} (h : PBox w g k n t v) (k' n' : Int) (t' : ByteArray) (v' : Value) : PBox (set4 w g k' n' t' v') g k' n' t' v' := (four_set (four_set (four_set (four_set h _).1 _).2.1 _).2.2.1 _).2.2.2
/-- What reading an expression ends as, from the text s, m nodes begun, at the depth d. -/
def Ans (w : World) (b : Nat) (s : List UInt8) (m d : Nat) (e : Ending) (w' : World) : Prop :=
  (∃ p s' m' v bs, e = .returned (.tuple #[.agg #[.int .i64 (PatD.k p), .int .i64 p.n, .string p.t, v], .bool true]) ∧ OwnV w' v p.F bs ∧ bs.Nodup ∧ (∀ c ∈ bs, w.heap.size ≤ c ∧ c < w'.heap.size) ∧ RdAt w' b TR s' m' 12 6 ∧ OkP 12 s m d p s' m') ∨
  (∃ s' m', e = .returned (.tuple #[.agg #[.int .i64 0, .int .i64 0, .string ⟨#[]⟩, .slice none 0 0], .bool false]) ∧ RdAt w' b TR s' m' 12 6 ∧ NoneP 12 s m d)
/-- The program's read at the depth d. -/
def ReadOk (b d : Nat) : Prop := ∀ (w : World) (s : List UInt8) (m : Nat), RdAt w b TR s m 12 6 → m ≤ 12 → s.length ≤ 1048576 → KeepsE b w →
  Calls Tryz.prog 84 #[.pointer (some ⟨b, 0, none⟩), .int .i64 (d : Int)] w fun e w' => Ans w b s m d e w' ∧ Only (Just b) w w'

/-- The end of a walk: the zero pattern and false. -/
theorem ans_none {w w' : World} {b g : Nat} {s s' : List UInt8} {m d m' : Nat} {e : Ending} (he : e = .returned (.tuple #[.agg #[.int .i64 0, .int .i64 0, .string ⟨#[]⟩, .slice none 0 0], .bool false])) (hR : RdAt w' b TR s' m' 12 6) (hN : NoneP 12 s m d) (hO : Only (Just b) w w') (hg : w.heap.size ≤ g) (hb : b ≠ g) :
    Ans w b s m d e (Go.Proofs.YtijbaienhaiamaaGreatDoor.set4 w' g 0 0 ⟨#[]⟩ (.slice none 0 0)) ∧ Only (Just b) w (Go.Proofs.YtijbaienhaiamaaGreatDoor.set4 w' g 0 0 ⟨#[]⟩ (.slice none 0 0)) :=
  ⟨.inr ⟨s', m', he, hR.set4 hb _ _ _ _, hN⟩, set4_only hO hg _ _ _ _⟩
/-- The end of a walk: an expression in the box g and true. -/
theorem ans_some {w w' : World} {b g : Nat} {s s' : List UInt8} {m d m' : Nat} {e : Ending} {p : PatD} {v : Value} {bs : List Nat} (he : e = .returned (.tuple #[.agg #[.int .i64 p.k, .int .i64 p.n, .string p.t, v], .bool true])) (ho : OwnV w' v p.F bs) (hnd : bs.Nodup) (hbs : ∀ c ∈ bs, w.heap.size ≤ c ∧ c < w'.heap.size) (hbg : ∀ c ∈ bs, c ≠ g) (hR : RdAt w' b TR s' m' 12 6) (hP : OkP 12 s m d p s' m') (hO : Only (Just b) w w') (hg : w.heap.size ≤ g) (hb : b ≠ g) :
    Ans w b s m d e (Go.Proofs.YtijbaienhaiamaaGreatDoor.set4 w' g p.k p.n p.t v) ∧ Only (Just b) w (Go.Proofs.YtijbaienhaiamaaGreatDoor.set4 w' g p.k p.n p.t v) :=
  ⟨.inl ⟨p, s', m', v, bs, he, ho.keep (fun c hc => set4_other _ _ _ _ (hbg c hc)), hnd, fun c hc => by rw [set4_size]; exact hbs c hc, hR.set4 hb _ _ _ _, hP⟩, set4_only hO hg _ _ _ _⟩
/-- A leaf's end. -/
theorem ans_leaf {w w' : World} {b g : Nat} {s s' : List UInt8} {m d m' : Nat} {e : Ending} {k n : Int} {t : ByteArray} (he : e = .returned (.tuple #[.agg #[.int .i64 k, .int .i64 n, .string t, .slice none 0 0], .bool true])) (hR : RdAt w' b TR s' m' 12 6) (hP : OkP 12 s m d (Go.Proofs.YtijbaienhaiamaaGreatDoor.leaf k n t) s' m') (hO : Only (Just b) w w') (hg : w.heap.size ≤ g) (hb : b ≠ g) :
    Ans w b s m d e (Go.Proofs.YtijbaienhaiamaaGreatDoor.set4 w' g k n t (.slice none 0 0)) ∧ Only (Just b) w (Go.Proofs.YtijbaienhaiamaaGreatDoor.set4 w' g k n t (.slice none 0 0)) :=
  ans_some (p := Go.Proofs.YtijbaienhaiamaaGreatDoor.leaf k n t) he (.inl ⟨Option.none, 0, rfl, rfl, rfl⟩) List.nodup_nil (by simp) (by simp) hR hP hO hg hb
/-! Rows of one and of two expressions. -/
theorem own_one {w : World} {g : Nat} {p : PatD} {v : Value} {bs : List Nat} (hg : PBox w g p.k p.n p.t v) (ho : OwnV w v p.F bs) : OwnV w (.slice (some ⟨g, 0, none⟩) 1 1) (p.one .nil) (g :: bs) := by
  obtain ⟨h0, h1, h2, h3, _⟩ := four_cells hg
  exact .inr ⟨g, 1, bs, rfl, Nat.le_refl _, rfl, ⟨_, hg⟩, v, bs, [], by simp, h0, h1, h2, h3, ho, rfl⟩
theorem own_two {w : World} {g : Nat} {p q : PatD} {v u : Value} {bs cs : List Nat} (hg : w.heap[g]? = some (.cells #[.int .i64 p.k, .int .i64 p.n, .string p.t, v, .int .i64 q.k, .int .i64 q.n, .string q.t, u] TP (0, 0))) (ho : OwnV w v p.F bs) (ko : OwnV w u q.F cs) : OwnV w (.slice (some ⟨g, 0, none⟩) 2 2) (p.one (q.one .nil)) (g :: (bs ++ cs)) := by
  refine .inr ⟨g, 2, bs ++ cs, rfl, Nat.le_refl _, rfl, ⟨_, hg⟩, v, bs, cs, rfl, ?_, ?_, ?_, ?_, ho, u, cs, [], by simp, ?_, ?_, ?_, ?_, ko, rfl⟩ <;> simp [World.cell?, hg]
end Go.Proofs.YtijbaienhaiamaaGreatDoor.Ex
end

/- What is proved here: the program's readWord of an expression. Condition: the reader lies in memory as said. -/
section
namespace Go.Proofs.YtijbaienhaiamaaGreatDoor.Ex
open Go.RowKit

theorem at_word (s : List UInt8) (h33 : ∀ x, s ≠ 33 :: x) (h40 : ∀ x, s ≠ 40 :: x) : AtWord s (lead s) (skipped s (lead s)) := by
  refine ⟨?_, fun x y hx hy he => ?_, h33, h40⟩
  · rcases skip_cases s (lead s) with ⟨e1, _⟩ | ⟨_, e2⟩
    · rw [lead_prefix] at e1; cases e1
    · exact e2
  · rw [he]
    refine lead_all x y (fun c hc => ?_) hy
    rcases hx with ⟨n, rfl⟩ | ⟨t, hN, rfl⟩
    · obtain ⟨_, _, _, _, h⟩ := itoa_head n
      exact h c hc
    · exact word_bytes hN.1 (.inl ⟨rfl, rfl⟩) c hc
set_option maxHeartbeats 2000000 in
set_option maxRecDepth 100000 in
theorem impl_readWord (b d : Nat) (w : World) (s : List UInt8) (m : Nat) (h33 : ∀ x, s ≠ 33 :: x) (h40 : ∀ x, s ≠ 40 :: x) (hm : m + 1 ≤ 12) (hd : d ≤ 6) (h : RdAt w b TR s (m + 1) 12 6) (hl : s.length ≤ 1048576) (hk : KeepsE b w) :
    Calls Tryz.prog 147 #[.pointer (some ⟨b, 0, none⟩)] w fun e w' => Ans w b s m d e w' ∧ Only (Just b) w w' := by
  have hlt := h.lt
  have hA0 := at_word s h33 h40
  have hsl : (lead s).length ≤ s.length := by have := congrArg List.length hA0.eq; rw [List.length_append] at this; omega
  obtain ⟨t, ht⟩ : ∃ t, t = str (lead s) := ⟨_, rfl⟩
  have htd : t.data.toList = lead s := by rw [ht]; simp [str]
  obtain ⟨r, hr⟩ : ∃ r, r = skipped s (lead s) := ⟨_, rfl⟩
  have hA : AtWord s t.data.toList r := by rw [htd, hr]; exact hA0
  have htl : t.size ≤ 1048576 := by have : t.data.toList.length = t.size := rfl; rw [htd] at this; omega
  have htm : t.size ≤ maxLen := by unfold maxLen; omega
  obtain ⟨w1, hw1⟩ : ∃ w1, w1 = w.alloc zeroBox := ⟨_, rfl⟩
  have hb1 : PBox w1 w.heap.size 0 0 ⟨#[]⟩ (.slice none 0 0) := by rw [hw1]; exact heap_at_new w _
  have hB1 : Only (Just b) w w1 := by rw [hw1]; exact (Only.refl _ _).more _
  have hR1 : RdAt w1 b TR s (m + 1) 12 6 := by rw [hw1]; exact h.below ((Below.refl _ _).alloc (Nat.le_refl _) _)
  have hs1 : w1.heap.size = w.heap.size + 1 := by rw [hw1]; exact Array.size_push _
  have HFW := impl_firstWord (str s) w1
  have es : (str s).data.toList = s := by simp [str]
  rw [es, ← ht] at HFW
  have HSk : Hid (∀ w5, RdAt w5 b TR s (m + 1) 12 6 → Calls Tryz.prog 106 #[.pointer (some ⟨b, 0, none⟩), .string t] w5 fun e w' => e = .returned (.bool true) ∧ RdAt w' b TR r (m + 1) 12 6 ∧ Only (Just b) w5 w') := fun w5 h5 => by
    have := impl_skip w5 b TR s (lead s) (m + 1) 12 6 h5
    rw [lead_prefix, ← ht, ← hr] at this
    exact this
  have HP : Hid (∀ w2, Only (Just b) w w2 → _) := fun w2 hO => impl_ParseInt t htl w2 (hk.on hO).lib
  have HNm : Hid (∀ w, _) := fun w => impl_name t htm w
  have HW1 := Lib.hid hw1
  have H1 : Hid (PBox w1 w.heap.size 0 0 ⟨#[]⟩ (.slice none 0 0) ∧ Only (Just b) w w1 ∧ w1.heap.size = w.heap.size + 1 ∧ b < w.heap.size ∧ RdAt w1 b TR s (m + 1) 12 6) := ⟨hb1, hB1, hs1, hlt, hR1⟩
  have HA : Hid (AtWord s t.data.toList r ∧ m + 1 ≤ 12 ∧ d ≤ 6) := ⟨hA, hm, hd⟩
  have z0 : (w.alloc (.cells #[.int .i64 0, .int .i64 0, .string ⟨#[]⟩, .slice none 0 0] 54)).cell? ⟨b, 0, none⟩ = some (.string (str s)) := (four_cells (h.below (w' := w.alloc (.cells #[.int .i64 0, .int .i64 0, .string ⟨#[]⟩, .slice none 0 0] 54)) ((Below.refl _ _).alloc (Nat.le_refl _) _))).1
  generalize str s = us at *
  clear hA h hl hk hR1 hb1 hB1 hs1 hlt hw1 htl htm h33 h40 hm hd hA0 hsl ht htd hr es
  have hin : ∀ n, (-999999999999 ≤ n ∧ n ≤ 999999999999) ↔ inInt n = true := fun n => by simp [inInt]
  -- the box and the reader at a later world
  have HB : Hid (∀ w2 w3, Only (Just b) w1 w2 → RdAt w2 b TR r (m + 1) 12 6 → Below w2.heap.size w2 w3 → PBox w3 w.heap.size 0 0 ⟨#[]⟩ (.slice none 0 0) ∧ RdAt w3 b TR r (m + 1) 12 6 ∧ Only (Just b) w w3) := fun w2 w3 hO hR hb => by
    have hO3 := hO.trans (Only.of_below (F := Just b) hb)
    exact ⟨(hO3.block _ (by have := H1.out.2.2.1; omega) (by have := H1.out.2.2.2.1; show ¬ (w.heap.size = b); omega)).trans H1.out.1, hR.below hb, H1.out.2.1.trans hO3⟩
  cases hRd : readOf (-999999999999) 999999999999 t.data.toList with
  | some n =>
    rw [hRd] at HP
    obtain ⟨i1, i2, i3⟩ := (readOf_iff (by omega) (by omega)).1 hRd
    have HI := Lib.hid (int_ok HA.out.1 HA.out.2.1 HA.out.2.2 ((hin n).1 ⟨i1, i2⟩) i3)
    clear hRd i1 i2 i3 hin HNm
    go_enter Tryz.func147, Tryz.ntmps147
    go_wp2_with fail
    rw [← HW1.out]
    refine HFW.mono ?_
    clear HFW z0
    rintro e w2 ⟨rfl, hb2⟩
    have HS := HSk.out w2 (H1.out.2.2.2.2.below hb2)
    have HO2 : Hid (Only (Just b) w1 w2) := Only.of_below hb2
    clear hb2 HSk
    go_wp2_with fail
    refine HS.mono ?_
    clear HS
    rintro e w3 ⟨rfl, hR3, hO3⟩
    have HO3 : Hid (Only (Just b) w w3 ∧ Only (Just b) w1 w3 ∧ RdAt w3 b TR r (m + 1) 12 6) := ⟨(H1.out.2.1.trans HO2.out).trans hO3, HO2.out.trans hO3, hR3⟩
    clear hR3 hO3 HO2
    go_wp2_with fail
    refine (HP.out w3 HO3.out.1).mono ?_
    rintro e w4 ⟨he, hb⟩
    obtain rfl : e = .returned (.tuple #[.int .i64 n, .bool true]) := he
    have H2 := Lib.hid (HB.out w3 w4 HO3.out.2.1 HO3.out.2.2 hb)
    obtain ⟨x0, x1, x2, x3, f0, f1, f2, f3⟩ := four_cells H2.out.1
    clear HP hb
    go_wp2
    refine bodyPost_ret (results_row_tmp rfl _ _ w.heap.size _ _ _ _ rfl (set4_box H2.out.1 _ _ _ _) Tryz.underlying54 rfl (by kernel_rfl)) rfl ?_
    exact ans_leaf rfl H2.out.2.1 HI.out H2.out.2.2 (Nat.le_refl _) (by have := H1.out.2.2.2.1; omega)
  | none =>
    rw [hRd] at HP
    have HNI : Hid (∀ n, inInt n = true → Lib.itoa n ≠ t.data.toList) := fun n hn he => by
      have := (readOf_iff (by omega) (by omega)).2 ⟨((hin n).2 hn).1, ((hin n).2 hn).2, he⟩
      rw [hRd] at this
      cases this
    clear hRd hin
    by_cases hN : Name t
    · rw [bl_true hN] at HNm
      have HI := Lib.hid (var_ok HA.out.1 hN HA.out.2.1 HA.out.2.2)
      clear hN
      go_enter Tryz.func147, Tryz.ntmps147
      go_wp2_with fail
      rw [← HW1.out]
      refine HFW.mono ?_
      clear HFW z0
      rintro e w2 ⟨rfl, hb2⟩
      have HS := HSk.out w2 (H1.out.2.2.2.2.below hb2)
      have HO2 : Hid (Only (Just b) w1 w2) := Only.of_below hb2
      clear hb2 HSk
      go_wp2_with fail
      refine HS.mono ?_
      clear HS
      rintro e w3 ⟨rfl, hR3, hO3⟩
      have HO3 : Hid (Only (Just b) w w3 ∧ Only (Just b) w1 w3 ∧ RdAt w3 b TR r (m + 1) 12 6) := ⟨(H1.out.2.1.trans HO2.out).trans hO3, HO2.out.trans hO3, hR3⟩
      clear hR3 hO3 HO2
      go_wp2_with fail
      refine (HP.out w3 HO3.out.1).mono ?_
      rintro e w4 ⟨he, hb⟩
      obtain rfl : e = .returned (.tuple #[.int .i64 0, .bool false]) := he
      clear HP
      go_wp2_with fail
      refine (HNm.out _).mono ?_
      rintro e w5 ⟨rfl, hb5⟩
      have H2 := Lib.hid (HB.out w3 w5 HO3.out.2.1 HO3.out.2.2 (hb.trans (hb5.mono hb.size)))
      obtain ⟨x0, x1, x2, x3, f0, f1, f2, f3⟩ := four_cells H2.out.1
      clear hb hb5 HNm
      go_wp2
      refine bodyPost_ret (results_row_tmp rfl _ _ w.heap.size _ _ _ _ rfl (set4_box H2.out.1 _ _ _ _) Tryz.underlying54 rfl (by kernel_rfl)) rfl ?_
      exact ans_leaf rfl H2.out.2.1 HI.out H2.out.2.2 (Nat.le_refl _) (by have := H1.out.2.2.2.1; omega)
    · rw [bl_false hN] at HNm
      have HNO : Hid (NoneP 12 s m d) := word_none HA.out.1 (by rw [str_data]; exact hN) HNI.out
      clear hN
      go_enter Tryz.func147, Tryz.ntmps147
      go_wp2_with fail
      rw [← HW1.out]
      refine HFW.mono ?_
      clear HFW z0
      rintro e w2 ⟨rfl, hb2⟩
      have HS := HSk.out w2 (H1.out.2.2.2.2.below hb2)
      have HO2 : Hid (Only (Just b) w1 w2) := Only.of_below hb2
      clear hb2 HSk
      go_wp2_with fail
      refine HS.mono ?_
      clear HS
      rintro e w3 ⟨rfl, hR3, hO3⟩
      have HO3 : Hid (Only (Just b) w w3 ∧ Only (Just b) w1 w3 ∧ RdAt w3 b TR r (m + 1) 12 6) := ⟨(H1.out.2.1.trans HO2.out).trans hO3, HO2.out.trans hO3, hR3⟩
      clear hR3 hO3 HO2
      go_wp2_with fail
      refine (HP.out w3 HO3.out.1).mono ?_
      rintro e w4 ⟨he, hb⟩
      obtain rfl : e = .returned (.tuple #[.int .i64 0, .bool false]) := he
      clear HP
      go_wp2_with fail
      refine (HNm.out _).mono ?_
      rintro e w5 ⟨rfl, hb5⟩
      have H2 := Lib.hid (HB.out w3 w5 HO3.out.2.1 HO3.out.2.2 (hb.trans (hb5.mono hb.size)))
      obtain ⟨x0, x1, x2, x3, f0, f1, f2, f3⟩ := four_cells H2.out.1
      clear hb hb5 HNm
      go_wp2
      refine bodyPost_ret (results_row_tmp rfl _ _ w.heap.size _ _ _ _ rfl (set4_box H2.out.1 _ _ _ _) Tryz.underlying54 rfl (by kernel_rfl)) rfl ?_
      exact ans_none rfl H2.out.2.1 HNO.out H2.out.2.2 (Nat.le_refl _) (by have := H1.out.2.2.2.1; omega)
end Go.Proofs.YtijbaienhaiamaaGreatDoor.Ex
end

/- What is proved here: a text has at most one expression (pure). No condition. -/
section
namespace Go.Proofs.YtijbaienhaiamaaGreatDoor.Ex
open Go.RowKit

theorem word_ok {q : PatD} {s2 x : List UInt8} (he : Ends s2) (hx : (∃ n, x = Lib.itoa n) ∨ ∃ t : ByteArray, Name t ∧ x = t.data.toList) (hq : good q) (hk : q.k ≠ 3 ∧ q.k ≠ 4) (ht : text q = x) :
    ∃ wd, AtWord (text q ++ s2) wd s2 ∧ wd = x := by
  have h := at_word (text q ++ s2) (fun y e => by obtain ⟨a, rfl, _⟩ := first_33 q hq s2 y e; exact hk.2 rfl) (fun y e => by obtain ⟨n, a, b, rfl, _⟩ := first_40 q hq s2 y e; exact hk.1 rfl)
  have e1 := h.word x s2 hx (ends_stop he) (by rw [ht])
  have e2 : x ++ s2 = text q ++ s2 := by rw [ht]
  have e3 : skipped (text q ++ s2) (lead (text q ++ s2)) = s2 := (List.append_cancel_left ((e2.trans h.eq).trans (congrArg (fun y => y ++ skipped (text q ++ s2) (lead (text q ++ s2))) e1))).symm
  rw [e3] at h
  exact ⟨_, h, e1⟩
theorem complete : ∀ (c : Nat) (q : PatD), good q → q.F.count ≤ c → ∀ (N m d : Nat) (s2 : List UInt8), Ends s2 → Fits N m d q → ∃ m', OkP N (text q ++ s2) m d q s2 m' := by
  intro c
  induction c with
  | zero =>
    intro q hq hc N m d s2 he hf
    rcases good_cases q hq with ⟨n, rfl, hi⟩ | ⟨t, rfl, hN⟩ | ⟨n, a, b, _, _, _, rfl⟩ | ⟨a, _, rfl⟩
    · obtain ⟨wd, h, e⟩ := word_ok he (.inl ⟨n, rfl⟩) hq ⟨by show (1 : Int) ≠ 3; decide, by show (1 : Int) ≠ 4; decide⟩ (text_int n)
      exact ⟨_, int_ok h hf.1 (by have := hf.2; omega) hi e.symm⟩
    · obtain ⟨wd, h, e⟩ := word_ok he (.inr ⟨t, hN, rfl⟩) hq ⟨by show (2 : Int) ≠ 3; decide, by show (2 : Int) ≠ 4; decide⟩ (text_var t)
      subst e
      exact ⟨_, var_ok h hN hf.1 (by have := hf.2; omega)⟩
    · simp [PatD.one, Trees.count] at hc
    · simp [PatD.one, Trees.count] at hc
  | succ c ih =>
    intro q hq hc N m d s2 he hf
    rcases good_cases q hq with ⟨n, rfl, hi⟩ | ⟨t, rfl, hN⟩ | ⟨n, a, b, ha, hb, ho, rfl⟩ | ⟨a, ha, rfl⟩
    · obtain ⟨wd, h, e⟩ := word_ok he (.inl ⟨n, rfl⟩) hq ⟨by show (1 : Int) ≠ 3; decide, by show (1 : Int) ≠ 4; decide⟩ (text_int n)
      exact ⟨_, int_ok h hf.1 (by have := hf.2; omega) hi e.symm⟩
    · obtain ⟨wd, h, e⟩ := word_ok he (.inr ⟨t, hN, rfl⟩) hq ⟨by show (2 : Int) ≠ 3; decide, by show (2 : Int) ≠ 4; decide⟩ (text_var t)
      subst e
      exact ⟨_, var_ok h hN hf.1 (by have := hf.2; omega)⟩
    · simp only [PatD.one, Trees.count] at hc
      obtain ⟨m1, h1⟩ := ih a ha (by omega) N (m + 1) (d + 1) (signE n ++ (text b ++ 41 :: s2)) (ends_sign ho _) (fits_left hf)
      have hm1 := h1.nodes
      obtain ⟨m2, h2⟩ := ih b hb (by omega) N m1 (d + 1) (41 :: s2) (ends_close s2) (by rw [hm1]; exact fits_right hf)
      refine ⟨m2, ?_⟩
      have h3 := op_ok ho h1 h2
      rw [text_op]
      have e : 40 :: (text a ++ (signE n ++ (text b ++ [41]))) ++ s2 = 40 :: (text a ++ (signE n ++ (text b ++ 41 :: s2))) := by simp
      rw [e]
      exact h3
    · simp only [PatD.one, Trees.count] at hc
      obtain ⟨m1, h1⟩ := ih a ha (by omega) N (m + 1) (d + 1) s2 he (fits_not hf)
      exact ⟨m1, by rw [text_not]; exact not_ok h1⟩
theorem text_inj {p q : PatD} (hp : good p) (hq : good q) (hfp : Fits 12 0 1 p) (hfq : Fits 12 0 1 q) (h : text p = text q) : p = q := by
  obtain ⟨m', hk⟩ := complete q.F.count q hq (Nat.le_refl _) 12 0 1 [] (.inl rfl) hfq
  exact (hk.uniq p [] hp (by rw [List.append_nil, List.append_nil, h]) (.inl rfl) hfp).1
end Go.Proofs.YtijbaienhaiamaaGreatDoor.Ex
end

/- What is proved here: the specification's reader of a text: l4Sees, l4Take. Conditions: the reader lies in a block of its own; the text has at most 2^20 bytes. -/
section
namespace Go.Proofs.YtijbaienhaiamaaGreatDoor
open Go.RowKit

abbrev TS : TypeId := 89
/-- The specification's reader: the text, where it stands, whether it failed. -/
def SAt (w : World) (b : Nat) (s : ByteArray) (p : Nat) (bad : Bool) : Prop := w.heap[b]? = some (.cells #[.string s, .int .i64 (p : Int), .bool bad] TS (0, 0))
theorem SAt.lt {w : World} {b : Nat} {s : ByteArray} {p : Nat} {bad : Bool} (h : SAt w b s p bad) : b < w.heap.size := (Array.getElem?_eq_some_iff.1 h).1
theorem SAt.below {w w' : World} {b : Nat} {s : ByteArray} {p : Nat} {bad : Bool} (h : SAt w b s p bad) (hb : Below w.heap.size w w') : SAt w' b s p bad := (hb.block b h.lt).trans h
theorem SAt.cells {w : World} {b : Nat} {s : ByteArray} {p : Nat} {bad : Bool} (h : SAt w b s p bad) : w.cell? ⟨b, 0, none⟩ = some (.string s) ∧ w.cell? ⟨b, 1, none⟩ = some (.int .i64 (p : Int)) ∧ w.cell? ⟨b, 2, none⟩ = some (.bool bad) ∧ w.frozen? ⟨b, 1, none⟩ = false ∧ w.frozen? ⟨b, 2, none⟩ = false := by
  unfold SAt at h
  refine ⟨?_, ?_, ?_, ?_, ?_⟩ <;> simp [World.cell?, World.frozen?, h]
theorem SAt.go {w : World} {b : Nat} {s : ByteArray} {p : Nat} {bad : Bool} (h : SAt w b s p bad) (q : Nat) : SAt (w.setCell ⟨b, 1, none⟩ (.int .i64 (q : Int))) b s q bad := by
  unfold SAt at h ⊢
  simp [World.setCell, Array.getElem?_modify, h]
theorem SAt.fail {w : World} {b : Nat} {s : ByteArray} {p : Nat} {bad : Bool} (h : SAt w b s p bad) (q : Bool) : SAt (w.setCell ⟨b, 2, none⟩ (.bool q)) b s p q := by
  unfold SAt at h ⊢
  simp [World.setCell, Array.getElem?_modify, h]
/-- p is next. -/
def sees (s : ByteArray) (at_ : Nat) (p : List UInt8) : Bool := p.isPrefixOf (s.data.toList.drop at_)

theorem prefix_take (p l : List UInt8) : p.isPrefixOf l = (l.take p.length == p) := by
  rw [Bool.eq_iff_iff, List.isPrefixOf_iff_prefix, beq_iff_eq]
  exact ⟨fun h => (List.prefix_iff_eq_take.1 h).symm, fun h => List.prefix_iff_eq_take.2 h.symm⟩
theorem extract_toList (s : ByteArray) (a b : Nat) : (s.extract a b).data.toList = (s.data.toList.drop a).take (b - a) := by
  rw [ByteArray.data_extract, Array.toList_extract]
set_option maxHeartbeats 1000000 in
set_option maxRecDepth 100000 in
theorem spec_sees (w : World) (b : Nat) (s : ByteArray) (k : Nat) (bad : Bool) (p : List UInt8) (h : SAt w b s k bad) (hs : s.size ≤ 1048576) (hk : k ≤ s.size) (hp : p.length ≤ 16) :
    Calls Tryz.prog 170 #[.pointer (some ⟨b, 0, none⟩), .string (str p)] w fun e w' => e = .returned (.bool (sees s k p)) ∧ Below w.heap.size w w' := by
  obtain ⟨c0, c1, c2, _, _⟩ := h.cells
  have hz := str_size p
  generalize hn : p.length = n at *
  by_cases hle : k + n ≤ s.size
  · have e1 : decide ((k : Int) + (n : Int) ≤ (s.size : Int)) = true := by simp; omega
    have HR : Hid (sees s k p = ((s.extract k (k + n)).toList == (str p).toList)) := by
      unfold Hid sees
      rw [prefix_take, ByteArray.toList_eq, ByteArray.toList_eq, extract_toList, hn, Nat.add_sub_cancel_left]
      rfl
    generalize str p = up at *
    clear h
    go_enter Tryz.func170, Tryz.ntmps170
    go_wp2
    go_quiet (fail)
    go_wp2
    go_ret
    exact ⟨by rw [HR.out]; rfl, below_drewN (Below.refl _ _) _⟩
  · have e1 : decide ((k : Int) + (n : Int) ≤ (s.size : Int)) = false := by simp; omega
    have HR : Hid (sees s k p = false) := by
      unfold Hid sees
      rw [Bool.eq_false_iff]
      intro he
      have h1 := (List.isPrefixOf_iff_prefix.1 he).length_le
      rw [List.length_drop, hn] at h1
      have h2 : s.data.toList.length = s.size := rfl
      omega
    generalize str p = up at *
    clear h
    go_enter Tryz.func170, Tryz.ntmps170
    go_wp2
    go_quiet (fail)
    go_wp2
    go_ret
    exact ⟨by rw [HR.out]; rfl, below_drewN (Below.refl _ _) _⟩

set_option maxHeartbeats 1000000 in
set_option maxRecDepth 100000 in
theorem spec_take (w : World) (b : Nat) (s : ByteArray) (k : Nat) (bad : Bool) (p : List UInt8) (h : SAt w b s k bad) (hs : s.size ≤ 1048576) (hk : k ≤ s.size) (hp : p.length ≤ 16) :
    Calls Tryz.prog 114 #[.pointer (some ⟨b, 0, none⟩), .string (str p)] w fun e w' => e = .returned (.bool (!bad && sees s k p)) ∧ SAt w' b s (if (!bad && sees s k p) = true then k + p.length else k) bad ∧ Only (Just b) w w' := by
  obtain ⟨c0, c1, c2, _, _⟩ := h.cells
  have HS := spec_sees w b s k bad p h hs hk hp
  have hz := str_size p
  cases hb : bad with
  | true =>
    rw [hb] at c2
    have H1 : Hid (SAt w b s k true) := by rw [hb] at h; exact h
    simp only [Bool.not_true, Bool.false_and, Bool.false_eq_true, if_false]
    generalize str p = up at *
    clear h HS hb
    go_enter Tryz.func114, Tryz.ntmps114
    go_wp2
    go_ret
    exact ⟨rfl, H1.out, Only.refl _ _⟩
  | false =>
    rw [hb] at c2
    have H1 : Hid (SAt w b s k false) := by rw [hb] at h; exact h
    simp only [Bool.not_false, Bool.true_and]
    cases hse : sees s k p with
    | false =>
      rw [hse] at HS
      simp only [Bool.false_eq_true, if_false]
      generalize str p = up at *
      clear h hb hse
      go_enter Tryz.func114, Tryz.ntmps114
      go_wp2_with fail
      refine HS.mono ?_
      rintro e w1 ⟨rfl, hb1⟩
      have H2 : Hid (SAt w1 b s k false ∧ Below w.heap.size w w1) := ⟨H1.out.below hb1, hb1⟩
      clear hb1 HS
      go_wp2
      go_ret
      exact ⟨rfl, H2.out.1, just_below H2.out.2⟩
    | true =>
      rw [hse] at HS
      simp only [if_true]
      generalize hn : p.length = n at *
      generalize str p = up at *
      clear h hb hse
      go_enter Tryz.func114, Tryz.ntmps114
      go_wp2_with fail
      refine HS.mono ?_
      rintro e w1 ⟨rfl, hb1⟩
      have h1 := H1.out.below hb1
      have H2 : Hid (SAt w1 b s k false ∧ Below w.heap.size w w1 ∧ SAt (w1.setCell ⟨b, 1, none⟩ (.int .i64 ((k : Int) + (n : Int)))) b s (k + n) false) := ⟨h1, hb1, by have := h1.go (k + n); rwa [Int.natCast_add] at this⟩
      obtain ⟨d0, d1, d2, f1, _⟩ := h1.cells
      clear hb1 h1 HS c0 c1 c2
      go_wp2
      go_ret
      exact ⟨rfl, H2.out.2.2, (just_below H2.out.2.1).trans (Only.setCell (F := Just b) (p := ⟨b, 1, none⟩) rfl _)⟩
end Go.Proofs.YtijbaienhaiamaaGreatDoor
end
