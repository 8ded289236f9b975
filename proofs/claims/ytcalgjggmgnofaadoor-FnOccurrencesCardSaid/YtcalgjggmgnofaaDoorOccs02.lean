/- What is proved here: a piece of the proof of YtcalgjggmgnofaaDoorOccsLaw (OccsWalk, LaidKey, OccsLaw). Condition: none beyond what each part says. -/
import Derived.Test.YtcalgjggmgnofaaDoorBig
import Derived.Test.YtcalgjggmgnofaaDoorDrawOccs
import Derived.Test.YtcalgjggmgnofaaDoorSameInts
import Derived.Test.YtcalgjggmgnofaaDoorOccs01
import Derived.Deep.RegionLaw
import Derived.Test.YtcalgjggmgnofaaDoorRows
import Derived.Test.YtcalgjggmgnofaaDoorTie
import Derived.ProofKit
import Derived.LaidMore
import Derived.OpenShut
import Derived.Stop.Joined
import Derived.Stop.LaidErr
import Derived.Lib.LaidTab
import Derived.Lib.ItoaNum
import Derived.Test.YtcalgjggmgnofaaDoorBase
import Derived.ShutString
import Derived.ChangeOld
import Derived.Carry
import Derived.Below
import Derived.Lay
import Derived.Test.YtcalgjggmgnofaaDoorCards

/- What is proved here: the text of FnOccurrences returns true for every code. Condition: the table of the powers of ten is as listed. -/
section
namespace Go.Proofs.YtcalgjggmgnofaaDoor
open Go.RowKit

theorem at_small (zs : List Int) : ∀ (d e : NodeD), d.at zs = some e → e.args.count ≤ d.args.count ∧ e.args.size ≤ d.args.size := by
  induction zs with
  | nil => intro d e h; cases h; exact ⟨Nat.le_refl _, Nat.le_refl _⟩
  | cons z zs ih =>
    intro d e h
    unfold NodeD.at at h
    split at h
    · cases hp : d.args.pick z.toNat with
      | none => rw [hp] at h; cases h
      | some f =>
        rw [hp] at h
        have h1 := ih f e h
        have h2 := Trees.pick_count hp
        have h3 := Trees.pick_size hp
        exact ⟨by omega, by omega⟩
    · cases h
theorem at_cons (d : NodeD) (z : Int) (zs : List Int) : d.at (z :: zs) = (d.at [z]).bind fun e => e.at zs := by
  simp only [NodeD.at]
  split
  · cases d.args.pick z.toNat <;> rfl
  · rfl

/-- A value comes back that reads as X in memory of the call's own, and ok. -/
def EndAt (w : World) (X : NodeD) (ok : Bool) (e : Ending) (w' : World) : Prop :=
  (∃ p c, e = .returned (.tuple #[.agg #[.int .i64 X.k, .int .i64 X.n, .string X.t, .slice p X.args.length c], .bool ok]) ∧ X.args.length ≤ c ∧ ∀ W : World, (∀ b, w.heap.size ≤ b → b < w'.heap.size → W.heap[b]? = w'.heap[b]?) → TreesAt W X.args p 0) ∧ Below w.heap.size w w'
theorem AtEnd.end {w w' : World} {o : Option NodeD} {e : Ending} (h : AtEnd w o e w') : EndAt w (o.getD zeroD) o.isSome e w' := by
  obtain ⟨⟨v, bs, he, ho, _, hbs⟩, hb⟩ := h
  obtain ⟨p, c, rfl, hl, ht⟩ := ho.reads
  refine ⟨⟨p, c, he, hl, fun W hW => ?_⟩, hb⟩
  obtain ⟨p2, c2, e2, _, h2⟩ := (ho.keep (fun b hm => hW b (hbs b hm).1 (hbs b hm).2)).reads
  injection e2 with e2
  rw [e2]
  exact h2
theorem set_four (w : World) (b : Nat) (u0 u1 u2 u3 : Value) : ∀ c, c ≠ b → ((((w.setCell ⟨b, 0, none⟩ u0).setCell ⟨b, 1, none⟩ u1).setCell ⟨b, 2, none⟩ u2).setCell ⟨b, 3, none⟩ u3).heap[c]? = w.heap[c]? := fun c h => far_box w b c u0 u1 u2 u3 h
theorem small_of {X : NodeD} (h : X.args.count ≤ 100 ∧ X.args.size ≤ 1700) : X.args.length ≤ 1048576 ∧ X.args.size ≤ 1048576 ∧ X.args.count ≤ 1048576 := by
  have := X.args.length_le_count
  omega
theorem at_getD_small (d : NodeD) (zs : List Int) (h : d.args.count ≤ 100 ∧ d.args.size ≤ 1700) : ((d.at zs).getD zeroD).args.count ≤ 100 ∧ ((d.at zs).getD zeroD).args.size ≤ 1700 := by
  cases ho : d.at zs with
  | none => exact ⟨by simp [zeroD, Trees.count], by simp [zeroD, Trees.size]⟩
  | some e =>
    have := at_small zs d e ho
    exact ⟨by simp; omega, by simp; omega⟩
theorem head_same (X : NodeD) : (headEq X.k X.n X.t X.args.length X.k X.n X.t X.args.length && X.args.same X.args) = true := by
  rw [(headEq_iff _ _ _ _ _ _ _ _).2 ⟨rfl, rfl, rfl, rfl⟩, (Trees.same_iff _ _).2 rfl]
  rfl
/-- What the slices of a list of numbers read as. -/
theorem readsI_first {w : World} {a : Option Addr} {z : Int} {zs : List Int} (h : ReadsI w a (z :: zs)) : ReadsI w a [z] := by
  intro j hj
  obtain rfl : j = 0 := by simp at hj; omega
  exact h 0 (by simp)
theorem readsI_rest {w : World} {g : Nat} {z : Int} {zs : List Int} (h : ReadsI w (some ⟨g, 0, none⟩) (z :: zs)) : ReadsI w (some ⟨g, 1, none⟩) zs := by
  intro j hj
  obtain ⟨y, e, hc⟩ := h (j + 1) (by simp; omega)
  cases e
  refine ⟨_, rfl, ?_⟩
  have e1 : (⟨g, 0, none⟩ : Addr).add (j + 1) = ⟨g, j + 1, none⟩ := by simp [Addr.add]
  have e2 : (⟨g, 1, none⟩ : Addr).add j = ⟨g, j + 1, none⟩ := by
    cases j with
    | zero => rfl
    | succ j => simp [Addr.add]; omega
  rw [e2, ← e1]
  simpa using hc

theorem cmp_back (us ws : List Int) : cmpI ws us = IntKind.i64.wrap (0 - cmpI us ws) := by
  rcases cmp_three us ws with ⟨e1, e2, _⟩ | ⟨e1, e2, _⟩ | ⟨e1, e2, _⟩ <;> rw [e1, e2] <;> rfl
theorem cmp_zero (us ws : List Int) : decide (us = ws) = (cmpI us ws == 0) := by
  rcases cmp_three us ws with ⟨e1, _, e3⟩ | ⟨e1, _, e3⟩ | ⟨e1, _, e3⟩ <;> rw [e1] <;> simp [e3]

/-- A goal that several ways end in is proved once. -/
theorem once {G : World → Nat → Option Addr → Nat → Prop} (F : World → Nat → Option Addr → Nat → Prop) {R : Prop} (use : (∀ W b p c, F W b p c → G W b p c) → R) (key : ∀ W b p c, F W b p c → G W b p c) : R := use key

set_option maxHeartbeats 40000000 in
set_option maxRecDepth 100000 in
theorem fnOccurrences_walk (a : Option Addr) (len cap : Nat) (zs : List Int) (w : World) (hr : IsRow .u8 w a len cap zs) (htab : Lib.TabIs Tryd.prog w "internal/strconv.uint64pow10" .u64 Lib.pow10Tab) :
    Calls Tryd.prog 3 #[.slice a len cap] w fun e w' => e = .returned (.bool true) ∧ Below w.heap.size w w' := by
  have hlen := row_len hr
  have HR := Lib.hid hr
  have HT := Lib.hid (fun w' (hb : Below w.heap.size w w') => Go.Joins.tab_stays (g := 0) (by kernel_rfl) htab hb (Nat.le_refl _))
  clear hr htab
  by_cases hbig : 1048576 < len
  · go_enter Tryd.func3, Tryd.ntmps3
    go_wp2_with fail
    refine (big_any a len cap hlen _).mono ?_
    rintro e w1 ⟨rfl, rfl⟩
    rw [decide_eq_true hbig]
    go_wp2
    go_ret
    exact ⟨rfl, Below.refl _ _⟩
  · go_enter Tryd.func3, Tryd.ntmps3
    go_wp2_with fail
    refine (big_any a len cap hlen _).mono ?_
    rintro e w0 ⟨rfl, rfl⟩
    rw [decide_eq_false hbig]
    go_wp2_with fail
    refine (drawValueAt_any w a len cap zs HR.out (by omega)).mono ?_
    rintro e w1 ⟨k, n, t, v, F, B, bs, xs, g, oc, os, rfl, hB, hG, hcn, htm, hoc, hcm, ho4, hob, hro, hb1⟩
    obtain ⟨bl, hown, _, _⟩ := hG.own
    obtain ⟨p1, c1, rfl, hl1, ht1⟩ := hown.reads
    have hsm : F.count ≤ 100 ∧ F.size ≤ 1700 := ⟨hcn, by have := F.tame_size htm; omega⟩
    obtain ⟨d, rfl, rfl, rfl, rfl⟩ : ∃ d : NodeD, k = d.k ∧ n = d.n ∧ t = d.t ∧ F = d.args := ⟨⟨k, n, t, F⟩, rfl, rfl, rfl, rfl⟩
    have hX := at_getD_small d os hsm
    have hfit : fitsI os := fun z hz => by have := hob z hz; omega
    have HVI := fun w' (hb : Below w1.heap.size w1 w') => (impl_valueAt w' d p1 c1 (ht1.below hb) (small_of hsm).2.2 hl1 (some ⟨g, 0, none⟩) oc os (readsI_below hro hb) (by omega)).mono (fun e w'' h => h.end)
    have HVS := fun w' (hb : Below w1.heap.size w1 w') => (spec_valueAt w' d p1 c1 (ht1.below hb) (small_of hsm).2.2 hl1 (some ⟨g, 0, none⟩) oc os (readsI_below hro hb) (by omega)).mono (fun e w'' h => h.end)
    have HFI := fun w' (hb : Below w1.heap.size w1 w') => impl_formatOcc w' (some ⟨g, 0, none⟩) oc os (readsI_below hro hb) hfit (by omega) (HT.out w' (hb1.trans (hb.mono hb1.size)))
    have HFS := fun w' (hb : Below w1.heap.size w1 w') => spec_formatOcc w' (some ⟨g, 0, none⟩) oc os (readsI_below hro hb) hfit (by omega)
    generalize str (occOf os) = st at HFI HFS
    obtain ⟨X, hXX⟩ : ∃ X, (d.at os).getD zeroD = X := ⟨_, rfl⟩
    obtain ⟨ok, hok⟩ : ∃ ok, (d.at os).isSome = ok := ⟨_, rfl⟩
    rw [hXX, hok] at HVI HVS
    rw [hXX] at hX
    have HEQ : Hid (∀ w' p c q c2, TreesAt w' X.args p 0 → TreesAt w' X.args q 0 → Calls Tryd.prog 12 #[.agg #[.int .i64 X.k, .int .i64 X.n, .string X.t, .slice p X.args.length c], .agg #[.int .i64 X.k, .int .i64 X.n, .string X.t, .slice q X.args.length c2]] w' fun e w'' => e = .returned (.bool true) ∧ Below w'.heap.size w' w'') := by
      intro w' p c q c2 h1 h2
      have h := spec_equal X.args (small_of hX).1 (small_of hX).2.1 X.args w' X.k X.n X.t p c X.k X.n X.t q c2 h1 h2
      rw [head_same] at h
      exact h
    have HVI := Lib.hid HVI
    have HVS := Lib.hid HVS
    have HFI := Lib.hid HFI
    have HFS := Lib.hid HFS
    have HXO : Hid ((d.at os).getD zeroD = X ∧ (d.at os).isSome = ok) := ⟨hXX, hok⟩
    have HP : Hid (d.args.length ≤ c1 ∧ (d.args.count ≤ 100 ∧ d.args.size ≤ 1700) ∧ os.length ≤ oc ∧ oc ≤ maxLen ∧ os.length ≤ 4 ∧ TreesAt w1 d.args p1 0 ∧ ReadsI w1 (some ⟨g, 0, none⟩) os) := ⟨hl1, hsm, hoc, hcm, ho4, ht1, hro⟩
    have HB1 := Lib.hid hb1
    have hal := (Below.refl w1.heap.size w1).alloc (Nat.le_refl _) (.cells #[.int .i64 d.k, .int .i64 d.n, .string d.t, .slice p1 d.args.length c1] 26)
    have hv1 : BoxAt _ w1.heap.size d.k d.n d.t p1 d.args.length c1 26 := heap_at_new w1 (.cells #[.int .i64 d.k, .int .i64 d.n, .string d.t, .slice p1 d.args.length c1] 26)
    have HAL := Lib.hid hal
    have HV1 := Lib.hid hv1
    obtain ⟨v0, v1, v2, v3, _⟩ := four_cells hv1
    clear hb1 hB hG hcn htm hoc hcm ho4 hob hro hown hl1 ht1 hsm hX hfit hXX hok hal hv1 HT
    go_wp2_with fail
    refine (HVI.out _ HAL.out).mono ?_
    rintro e w2 ⟨⟨p5, c5, rfl, hl5, ht5'⟩, hb2⟩
    have ht5 := ht5' w2 (fun b _ _ => rfl)
    have hb2' : Below w1.heap.size w1 w2 := HAL.out.trans (hb2.mono HAL.out.size)
    have hal := (Below.refl w2.heap.size w2).alloc (Nat.le_refl _) (.cells #[.int .i64 X.k, .int .i64 X.n, .string X.t, .slice p5 X.args.length c5] 26)
    have hv3 := (HV1.out.below hb2).below hal
    have hv5 : BoxAt _ w2.heap.size X.k X.n X.t p5 X.args.length c5 26 := heap_at_new w2 (.cells #[.int .i64 X.k, .int .i64 X.n, .string X.t, .slice p5 X.args.length c5] 26)
    have HB2 : Hid (Below w1.heap.size w1 (w2.alloc (.cells #[.int .i64 X.k, .int .i64 X.n, .string X.t, .slice p5 X.args.length c5] 26))) := hb2'.alloc hb2'.size _
    have HV3 := Lib.hid hv3
    have HV5 := Lib.hid hv5
    have HT5 : Hid (TreesAt (w2.alloc (.cells #[.int .i64 X.k, .int .i64 X.n, .string X.t, .slice p5 X.args.length c5] 26)) X.args p5 0) := ht5.below hal
    clear v0 v1 v2 v3 hb2 hb2' hal hv5 ht5 ht5' HV1 HAL
    obtain ⟨v0, v1, v2, v3, _⟩ := four_cells hv3
    clear hv3
    go_wp2_with fail
    refine (HVS.out _ HB2.out).mono ?_
    rintro e w3 ⟨⟨p7, c7, rfl, hl7, ht7'⟩, hb3⟩
    have ht7 := ht7' w3 (fun b _ _ => rfl)
    have hb3' : Below w1.heap.size w1 w3 := HB2.out.trans (hb3.mono HB2.out.size)
    have hal := (Below.refl w3.heap.size w3).alloc (Nat.le_refl _) (.cells #[.int .i64 X.k, .int .i64 X.n, .string X.t, .slice p7 X.args.length c7] 26)
    have HV3b := Lib.hid ((HV3.out.below hb3).below hal)
    have hv5 := (HV5.out.below hb3).below hal
    have hv7 : BoxAt _ w3.heap.size X.k X.n X.t p7 X.args.length c7 26 := heap_at_new w3 (.cells #[.int .i64 X.k, .int .i64 X.n, .string X.t, .slice p7 X.args.length c7] 26)
    have HB3 : Hid (Below w1.heap.size w1 (w3.alloc (.cells #[.int .i64 X.k, .int .i64 X.n, .string X.t, .slice p7 X.args.length c7] 26))) := hb3'.alloc hb3'.size _
    have HT5b : Hid (TreesAt (w3.alloc (.cells #[.int .i64 X.k, .int .i64 X.n, .string X.t, .slice p7 X.args.length c7] 26)) X.args p5 0) := (HT5.out.below hb3).below hal
    have HT7 : Hid (TreesAt (w3.alloc (.cells #[.int .i64 X.k, .int .i64 X.n, .string X.t, .slice p7 X.args.length c7] 26)) X.args p7 0) := ht7.below hal
    have HV5b := Lib.hid hv5
    clear v0 v1 v2 v3 hb3 hb3' hal ht7 ht7' HV3 HV5 HT5 HB2
    obtain ⟨v0, v1, v2, v3, _⟩ := four_cells hv5
    obtain ⟨y0, y1, y2, y3, _⟩ := four_cells hv7
    clear hv5 hv7
    go_wp2_with fail
    refine (HEQ.out _ p5 c5 p7 c7 HT5b.out HT7.out).mono ?_
    rintro e w4 ⟨rfl, hb4⟩
    have HB4 : Hid (Below w1.heap.size w1 w4) := HB3.out.trans (hb4.mono HB3.out.size)
    have HV3c := Lib.hid (HV3b.out.below hb4)
    have HV5c := Lib.hid (HV5b.out.below hb4)
    have HT5c := Lib.hid (HT5b.out.below hb4)
    clear v0 v1 v2 v3 y0 y1 y2 y3 hb4 HT7 HT5b HV3b HV5b HB3
    go_wp2_with fail
    refine (HFI.out w4 HB4.out).mono ?_
    rintro e w5 ⟨rfl, hb5⟩
    have HB5 : Hid (Below w1.heap.size w1 w5) := HB4.out.trans (hb5.mono HB4.out.size)
    have HB45 := Lib.hid hb5
    clear hb5
    go_wp2_with fail
    refine (HFS.out w5 HB5.out).mono ?_
    rintro e w6 ⟨rfl, hb6⟩
    have HB6 : Hid (Below w1.heap.size w1 w6) := HB5.out.trans (hb6.mono HB5.out.size)
    have hb46 := HB45.out.trans (hb6.mono HB45.out.size)
    have HV3 := Lib.hid (HV3c.out.below hb46)
    have HV5 := Lib.hid (HV5c.out.below hb46)
    have HT5 := Lib.hid (HT5c.out.below hb46)
    clear hb6 hb46 HB45 HB5 HB4 HV3c HV5c HT5c HFI HFS HVS
    cases os with
    | nil =>
      clear HVI HXO HV3 HV5 HT5 HP HEQ
      have HBT : Hid (Below w.heap.size w w6) := HB1.out.trans (HB6.out.mono HB1.out.size)
      clear HB1 HB6
      go_wp2_with fail
      refine (drawCompare_any w6 a len cap zs (row_below HR.out HBT.out) (by omega)).mono ?_
      rintro e wt ⟨gx, cx, us, gy, cy, ws, rfl, hu4, hw4, hru, hrw, hb⟩
      have HBU : Hid (Below w.heap.size w wt) := HBT.out.trans (hb.mono HBT.out.size)
      have hum : us.length ≤ maxLen := by unfold maxLen; omega
      have hwm : ws.length ≤ maxLen := by unfold maxLen; omega
      have hI1 := impl_compareI wt (some ⟨gx, 0, none⟩) (some ⟨gy, 0, none⟩) cx cy us ws hru hrw hum hwm
      have hI2 := fun w' (hb : Below wt.heap.size wt w') => impl_compareI w' (some ⟨gy, 0, none⟩) (some ⟨gx, 0, none⟩) cy cx ws us (readsI_below hrw hb) (readsI_below hru hb) hwm hum
      have hS1 := spec_compareI wt (some ⟨gx, 0, none⟩) (some ⟨gy, 0, none⟩) cx cy us ws hru hrw hum hwm
      have hS2 := fun w' (hb : Below wt.heap.size wt w') => same_ints w' (some ⟨gx, 0, none⟩) (some ⟨gy, 0, none⟩) cx cy us ws (readsI_below hru hb) (readsI_below hrw hb) hum
      rw [cmp_back us ws] at hI2
      rw [cmp_zero us ws] at hS2
      generalize cmpI us ws = q at hI1 hI2 hS1 hS2
      have HI1 := Lib.hid hI1
      have HI2 := Lib.hid hI2
      have HS1 := Lib.hid hS1
      have HS2 := Lib.hid hS2
      clear hb hru hrw hum hwm hu4 hw4 HBT hI1 hI2 hS1 hS2
      go_wp2_with fail
      refine HI1.out.mono ?_
      rintro e wt2 ⟨rfl, rfl⟩
      go_wp2_with fail
      refine HS1.out.mono ?_
      rintro e wu ⟨rfl, hb⟩
      have HBV := Lib.hid hb
      clear hb
      go_wp2_with fail
      refine (HI2.out wu HBV.out).mono ?_
      rintro e wu2 ⟨rfl, rfl⟩
      go_wp2_with fail
      refine (HS2.out wu HBV.out).mono ?_
      rintro e wv ⟨rfl, hb⟩
      have HBW : Hid (Below w.heap.size w wv) := HBU.out.trans ((HBV.out.trans (hb.mono HBV.out.size)).mono HBU.out.size)
      clear hb
      go_wp2
      go_ret
      exact ⟨rfl, HBW.out⟩
    | cons z os =>
      obtain ⟨q1, q2, q3, q4, q5, q6, q7⟩ := HP.out
      have hU := at_getD_small d [z] q2
      obtain ⟨U, hUU⟩ : ∃ U, (d.at [z]).getD zeroD = U := ⟨_, rfl⟩
      obtain ⟨one, hone⟩ : ∃ one, (d.at [z]).isSome = one := ⟨_, rfl⟩
      rw [hUU] at hU
      obtain ⟨Z, hZZ⟩ : ∃ Z, (U.at os).getD zeroD = Z := ⟨_, rfl⟩
      obtain ⟨two, htwo⟩ : ∃ two, (U.at os).isSome = two := ⟨_, rfl⟩
      have HV1 := fun w' (hb : Below w1.heap.size w1 w') => (impl_valueAt w' d p1 c1 (q6.below hb) (small_of q2).2.2 q1 (some ⟨g, 0, none⟩) oc [z] (readsI_first (readsI_below q7 hb)) (by simp)).mono (fun e w'' h => h.end)
      rw [hUU, hone] at HV1
      have HV2 := fun w' p c A oc' (h1 : TreesAt w' U.args p 0) (h2 : U.args.length ≤ c) (h3 : ReadsI w' A os) => (impl_valueAt w' U p c h1 (small_of hU).2.2 h2 A oc' os h3 (by simp at q5; omega)).mono (fun e w'' h => h.end)
      rw [hZZ, htwo] at HV2
      have hall : (one = false ∧ ok = false) ∨ (one = true ∧ two = ok ∧ Z = X) := by
        have hx := HXO.out
        rw [at_cons] at hx
        cases ho : d.at [z] with
        | none =>
          rw [ho] at hx hone
          exact .inl ⟨hone.symm, hx.2.symm⟩
        | some e =>
          rw [ho] at hx hone hUU
          obtain rfl : e = U := hUU
          exact .inr ⟨hone.symm, htwo.symm.trans hx.2, hZZ.symm.trans hx.1⟩
      have HALL := Lib.hid hall
      have HV1 := Lib.hid HV1
      have HV2 := Lib.hid HV2
      have hoc1 : os.length + 1 ≤ oc := q3
      have hom : oc ≤ maxLen := q4
      have h1c : (1 : Int) ≤ (oc : Int) := by omega
      have h2c : (1 : Int) ≤ (os.length : Int) + 1 := by omega
      have h3c : ((os.length + 1 : Nat) : Int) ≤ (oc : Int) := by omega
      have hos : os.length ≤ 4 := by simp at q5; omega
      have HRO := Lib.hid q7
      clear q1 q2 q3 q4 q5 q6 q7 hU hUU hone hZZ htwo hall HXO HVI HP
      have HBd : Hid (Below w1.heap.size w1 w6.drew) := HB6.out.drew
      have HBe : Hid (Below w1.heap.size w1 (w6.alloc (.cells #[.int .i64 0, .int .i64 0, .string ⟨#[]⟩, .slice none 0 0] 26)).drew) := (HB6.out.alloc HB6.out.size _).drew
      obtain ⟨a0, a1, a2, a3, _⟩ := four_cells (HV3.out.below ((Below.refl w6.heap.size w6).alloc (Nat.le_refl _) (.cells #[.int .i64 0, .int .i64 0, .string ⟨#[]⟩, .slice none 0 0] 26)))
      obtain ⟨v0, v1, v2, v3, _⟩ := four_cells HV3.out
      unfold maxLen at hom
      go_wp2
      apply once (fun W b p c => Hid (Below w1.heap.size w1 W) ∧ Hid (BoxAt W w2.heap.size X.k X.n X.t p5 X.args.length c5 26) ∧ Hid (TreesAt W X.args p5 0) ∧ Hid (BoxAt W b U.k U.n U.t p U.args.length c 26) ∧ Hid (TreesAt W U.args p 0) ∧ U.args.length ≤ c)
      case use =>
        intro KEY
        go_region_law (first
          | (go_simp; go_at_call 10; refine (HV1.out _ HBd.out).mono ?_
             rintro e w7 ⟨⟨p9, c9, rfl, hlU, ht⟩, hb⟩
             have hb7 := below_of_drew hb
             have hal := (Below.refl w7.heap.size w7).alloc (Nat.le_refl _) (.cells #[.int .i64 U.k, .int .i64 U.n, .string U.t, .slice p9 U.args.length c9] 26)
             have hbb := hb7.trans (hal.mono hb7.size)
             have HBN : Hid (Below w1.heap.size w1 (w7.alloc (.cells #[.int .i64 U.k, .int .i64 U.n, .string U.t, .slice p9 U.args.length c9] 26))) := HB6.out.trans (hbb.mono HB6.out.size)
             have HV5N := Lib.hid (HV5.out.below hbb)
             have HT5N := Lib.hid (HT5.out.below hbb)
             have HVN : Hid (BoxAt (w7.alloc (.cells #[.int .i64 U.k, .int .i64 U.n, .string U.t, .slice p9 U.args.length c9] 26)) w7.heap.size U.k U.n U.t p9 U.args.length c9 26) := heap_at_new w7 (.cells #[.int .i64 U.k, .int .i64 U.n, .string U.t, .slice p9 U.args.length c9] 26)
             have HTN : Hid (TreesAt (w7.alloc (.cells #[.int .i64 U.k, .int .i64 U.n, .string U.t, .slice p9 U.args.length c9] 26)) U.args p9 0) := ht _ (fun b h1 h2 => hal.block b h2)
             obtain ⟨x0, x1, x2, x3, _⟩ := four_cells (HV3.out.below hb7)
             obtain ⟨y0, y1, y2, y3, _⟩ := four_cells (HV3.out.below hbb)
             clear hb hb7 hal hbb ht)
          | (go_simp; go_at_call 10; refine (HV1.out _ HBe.out).mono ?_
             rintro e w7 ⟨⟨p9, c9, rfl, hlU, ht⟩, hb⟩
             have hb7 := below_of_drew hb
             have hal := (Below.refl w6.heap.size w6).alloc (Nat.le_refl _) (.cells #[.int .i64 0, .int .i64 0, .string ⟨#[]⟩, .slice none 0 0] 26)
             have hsz : (w6.alloc (.cells #[.int .i64 0, .int .i64 0, .string ⟨#[]⟩, .slice none 0 0] 26)).heap.size = w6.heap.size + 1 := Array.size_push _
             have hbz := hal.trans (hb7.mono hal.size)
             have hbox : BoxAt w7 w6.heap.size 0 0 ⟨#[]⟩ none 0 0 26 := (hb7.block _ (by omega)).trans (heap_at_new w6 _)
             have hbb : Below w6.heap.size w6 ((((w7.setCell ⟨w6.heap.size, 0, none⟩ (.int .i64 U.k)).setCell ⟨w6.heap.size, 1, none⟩ (.int .i64 U.n)).setCell ⟨w6.heap.size, 2, none⟩ (.string U.t)).setCell ⟨w6.heap.size, 3, none⟩ (.slice p9 U.args.length c9)) := (((hbz.setCell (Nat.le_refl _) _).setCell (Nat.le_refl _) _).setCell (Nat.le_refl _) _).setCell (Nat.le_refl _) _
             have HBN : Hid (Below w1.heap.size w1 ((((w7.setCell ⟨w6.heap.size, 0, none⟩ (.int .i64 U.k)).setCell ⟨w6.heap.size, 1, none⟩ (.int .i64 U.n)).setCell ⟨w6.heap.size, 2, none⟩ (.string U.t)).setCell ⟨w6.heap.size, 3, none⟩ (.slice p9 U.args.length c9))) := HB6.out.trans (hbb.mono HB6.out.size)
             have HV5N := Lib.hid (HV5.out.below hbb)
             have HT5N := Lib.hid (HT5.out.below hbb)
             have HVN : Hid (BoxAt ((((w7.setCell ⟨w6.heap.size, 0, none⟩ (.int .i64 U.k)).setCell ⟨w6.heap.size, 1, none⟩ (.int .i64 U.n)).setCell ⟨w6.heap.size, 2, none⟩ (.string U.t)).setCell ⟨w6.heap.size, 3, none⟩ (.slice p9 U.args.length c9)) w6.heap.size U.k U.n U.t p9 U.args.length c9 26) := (four_set (four_set (four_set (four_set hbox _).1 _).2.1 _).2.2.1 _).2.2.2
             have HTN : Hid (TreesAt ((((w7.setCell ⟨w6.heap.size, 0, none⟩ (.int .i64 U.k)).setCell ⟨w6.heap.size, 1, none⟩ (.int .i64 U.n)).setCell ⟨w6.heap.size, 2, none⟩ (.string U.t)).setCell ⟨w6.heap.size, 3, none⟩ (.slice p9 U.args.length c9)) U.args p9 0) := ht _ (fun b h1 h2 => far_box _ _ _ _ _ _ _ (by have h3 : (w6.alloc (.cells #[.int .i64 0, .int .i64 0, .string ⟨#[]⟩, .slice none 0 0] 26)).heap.size ≤ b := h1; omega))
             obtain ⟨x0, x1, x2, x3, _⟩ := four_cells (HV3.out.below hbz)
             obtain ⟨z0, z1, z2, z3, f0, f1, f2, f3⟩ := four_cells hbox
             clear hb hb7 hal hbb hbz hsz hbox ht))
        all_goals
          first
            | (have hck : Hid (Below w1.heap.size w1 (w7.alloc (.cells #[.int .i64 U.k, .int .i64 U.n, .string U.t, .slice p9 U.args.length c9] 26))) := (by with_reducible exact HBN); clear hck; generalize w7.alloc (.cells #[.int .i64 U.k, .int .i64 U.n, .string U.t, .slice p9 U.args.length c9] 26) = W at *; generalize w7.heap.size = b9 at *; exact KEY W b9 p9 c9 ⟨HBN, HV5N, HT5N, HVN, HTN, hlU⟩)
            | (generalize ((((w7.setCell ⟨w6.heap.size, 0, none⟩ (.int .i64 U.k)).setCell ⟨w6.heap.size, 1, none⟩ (.int .i64 U.n)).setCell ⟨w6.heap.size, 2, none⟩ (.string U.t)).setCell ⟨w6.heap.size, 3, none⟩ (.slice p9 U.args.length c9)) = W at *; generalize w6.heap.size = b9 at *; exact KEY W b9 p9 c9 ⟨HBN, HV5N, HT5N, HVN, HTN, hlU⟩)
      case key =>
        intro W b9 p9 c9 ⟨HB6', HV5', HT5', HV9, HT9, hlU⟩
        clear HV5 HT5 HB6 HBd HBe HV3 HV1 v0 v1 v2 v3 a0 a1 a2 a3
        have HB6 := HB6'
        have HV5 := HV5'
        have HT5 := HT5'
        clear HB6' HV5' HT5'
        by_cases hc1 : oc = 1
        · subst hc1
          have hl0 : os = [] := List.eq_nil_of_length_eq_zero (by omega)
          subst hl0
          have HBd : Hid (Below w1.heap.size w1 W.drew) := HB6.out.drew
          have HBe : Hid (Below w1.heap.size w1 (W.alloc (.cells #[.int .i64 0, .int .i64 0, .string ⟨#[]⟩, .slice none 0 0] 26)).drew) := (HB6.out.alloc HB6.out.size _).drew
          obtain ⟨a0, a1, a2, a3, _⟩ := four_cells (HV9.out.below ((Below.refl W.heap.size W).alloc (Nat.le_refl _) (.cells #[.int .i64 0, .int .i64 0, .string ⟨#[]⟩, .slice none 0 0] 26)))
          obtain ⟨v0, v1, v2, v3, _⟩ := four_cells HV9.out
          go_wp2
          apply once (fun W b p c => Hid (Below w1.heap.size w1 W) ∧ Hid (BoxAt W w2.heap.size X.k X.n X.t p5 X.args.length c5 26) ∧ Hid (TreesAt W X.args p5 0) ∧ Hid (BoxAt W b Z.k Z.n Z.t p Z.args.length c 26) ∧ Hid (TreesAt W Z.args p 0) ∧ Z.args.length ≤ c)
          case use =>
            intro KEY
            go_region_law (first
              | (go_simp; go_at_call 10; refine (HV2.out _ p9 c9 (some ⟨g, 0, none⟩) 0 (HT9.out.below ((Below.refl _ _).drew)) hlU (fun j hj => absurd hj (Nat.not_lt_zero _))).mono ?_
                 rintro e w8 ⟨⟨p11, c11, rfl, hlZ, ht⟩, hb⟩
                 have hb7 := below_of_drew hb
                 have hal := (Below.refl w8.heap.size w8).alloc (Nat.le_refl _) (.cells #[.int .i64 Z.k, .int .i64 Z.n, .string Z.t, .slice p11 Z.args.length c11] 26)
                 have hbb := hb7.trans (hal.mono hb7.size)
                 have HBN : Hid (Below w1.heap.size w1 (w8.alloc (.cells #[.int .i64 Z.k, .int .i64 Z.n, .string Z.t, .slice p11 Z.args.length c11] 26))) := HB6.out.trans (hbb.mono HB6.out.size)
                 have HV5N := Lib.hid (HV5.out.below hbb)
                 have HT5N := Lib.hid (HT5.out.below hbb)
                 have HVN : Hid (BoxAt (w8.alloc (.cells #[.int .i64 Z.k, .int .i64 Z.n, .string Z.t, .slice p11 Z.args.length c11] 26)) w8.heap.size Z.k Z.n Z.t p11 Z.args.length c11 26) := heap_at_new w8 (.cells #[.int .i64 Z.k, .int .i64 Z.n, .string Z.t, .slice p11 Z.args.length c11] 26)
                 have HTN : Hid (TreesAt (w8.alloc (.cells #[.int .i64 Z.k, .int .i64 Z.n, .string Z.t, .slice p11 Z.args.length c11] 26)) Z.args p11 0) := ht _ (fun b h1 h2 => hal.block b h2)
                 obtain ⟨x0, x1, x2, x3, _⟩ := four_cells (HV9.out.below hb7)
                 obtain ⟨y0, y1, y2, y3, _⟩ := four_cells (HV9.out.below hbb)
                 clear hb hb7 hal hbb ht)
              | (go_simp; go_at_call 10; refine (HV2.out _ p9 c9 (some ⟨g, 0, none⟩) 0 (HT9.out.below (((Below.refl _ _).alloc (Nat.le_refl _) _).drew)) hlU (fun j hj => absurd hj (Nat.not_lt_zero _))).mono ?_
                 rintro e w8 ⟨⟨p11, c11, rfl, hlZ, ht⟩, hb⟩
                 have hb7 := below_of_drew hb
                 have hal := (Below.refl W.heap.size W).alloc (Nat.le_refl _) (.cells #[.int .i64 0, .int .i64 0, .string ⟨#[]⟩, .slice none 0 0] 26)
                 have hsz : (W.alloc (.cells #[.int .i64 0, .int .i64 0, .string ⟨#[]⟩, .slice none 0 0] 26)).heap.size = W.heap.size + 1 := Array.size_push _
                 have hbz := hal.trans (hb7.mono hal.size)
                 have hbox : BoxAt w8 W.heap.size 0 0 ⟨#[]⟩ none 0 0 26 := (hb7.block _ (by omega)).trans (heap_at_new W _)
                 have hbb : Below W.heap.size W ((((w8.setCell ⟨W.heap.size, 0, none⟩ (.int .i64 Z.k)).setCell ⟨W.heap.size, 1, none⟩ (.int .i64 Z.n)).setCell ⟨W.heap.size, 2, none⟩ (.string Z.t)).setCell ⟨W.heap.size, 3, none⟩ (.slice p11 Z.args.length c11)) := (((hbz.setCell (Nat.le_refl _) _).setCell (Nat.le_refl _) _).setCell (Nat.le_refl _) _).setCell (Nat.le_refl _) _
                 have HBN : Hid (Below w1.heap.size w1 ((((w8.setCell ⟨W.heap.size, 0, none⟩ (.int .i64 Z.k)).setCell ⟨W.heap.size, 1, none⟩ (.int .i64 Z.n)).setCell ⟨W.heap.size, 2, none⟩ (.string Z.t)).setCell ⟨W.heap.size, 3, none⟩ (.slice p11 Z.args.length c11))) := HB6.out.trans (hbb.mono HB6.out.size)
                 have HV5N := Lib.hid (HV5.out.below hbb)
                 have HT5N := Lib.hid (HT5.out.below hbb)
                 have HVN : Hid (BoxAt ((((w8.setCell ⟨W.heap.size, 0, none⟩ (.int .i64 Z.k)).setCell ⟨W.heap.size, 1, none⟩ (.int .i64 Z.n)).setCell ⟨W.heap.size, 2, none⟩ (.string Z.t)).setCell ⟨W.heap.size, 3, none⟩ (.slice p11 Z.args.length c11)) W.heap.size Z.k Z.n Z.t p11 Z.args.length c11 26) := (four_set (four_set (four_set (four_set hbox _).1 _).2.1 _).2.2.1 _).2.2.2
                 have HTN : Hid (TreesAt ((((w8.setCell ⟨W.heap.size, 0, none⟩ (.int .i64 Z.k)).setCell ⟨W.heap.size, 1, none⟩ (.int .i64 Z.n)).setCell ⟨W.heap.size, 2, none⟩ (.string Z.t)).setCell ⟨W.heap.size, 3, none⟩ (.slice p11 Z.args.length c11)) Z.args p11 0) := ht _ (fun b h1 h2 => far_box _ _ _ _ _ _ _ (by have h3 : (W.alloc (.cells #[.int .i64 0, .int .i64 0, .string ⟨#[]⟩, .slice none 0 0] 26)).heap.size ≤ b := h1; omega))
                 obtain ⟨x0, x1, x2, x3, _⟩ := four_cells (HV9.out.below hbz)
                 obtain ⟨z0, z1, z2, z3, f0, f1, f2, f3⟩ := four_cells hbox
                 clear hb hb7 hal hbb hbz hsz hbox ht))
            all_goals
              first
                | (have hck : Hid (Below w1.heap.size w1 (w8.alloc (.cells #[.int .i64 Z.k, .int .i64 Z.n, .string Z.t, .slice p11 Z.args.length c11] 26))) := (by with_reducible exact HBN); clear hck; generalize w8.alloc (.cells #[.int .i64 Z.k, .int .i64 Z.n, .string Z.t, .slice p11 Z.args.length c11] 26) = W2 at *; generalize w8.heap.size = b11 at *; exact KEY W2 b11 p11 c11 ⟨HBN, HV5N, HT5N, HVN, HTN, hlZ⟩)
                | (generalize ((((w8.setCell ⟨W.heap.size, 0, none⟩ (.int .i64 Z.k)).setCell ⟨W.heap.size, 1, none⟩ (.int .i64 Z.n)).setCell ⟨W.heap.size, 2, none⟩ (.string Z.t)).setCell ⟨W.heap.size, 3, none⟩ (.slice p11 Z.args.length c11)) = W2 at *; generalize W.heap.size = b11 at *; exact KEY W2 b11 p11 c11 ⟨HBN, HV5N, HT5N, HVN, HTN, hlZ⟩)
          case key =>
            intro W2 b11 p11 c11 ⟨HB6', HV5', HT5', HV11, HT11, hlZ⟩
            clear HV5 HT5 HB6 HBd HBe HV9 HV2 HT9 v0 v1 v2 v3 a0 a1 a2 a3
            have HB6 := HB6'
            have HV5 := HV5'
            have HT5 := HT5'
            clear HB6' HV5' HT5' hlZ
            rcases HALL.out with ⟨rfl, rfl⟩ | ⟨rfl, rfl, rfl⟩
            · clear HALL HV11 HT11 HV5 HT5 HEQ
              have HBT : Hid (Below w.heap.size w W2) := HB1.out.trans (HB6.out.mono HB1.out.size)
              clear HB1 HB6
              go_wp2_with fail
              refine (drawCompare_any W2 a len cap zs (row_below HR.out HBT.out) (by omega)).mono ?_
              rintro e wt ⟨gx, cx, us, gy, cy, ws, rfl, hu4, hw4, hru, hrw, hb⟩
              have HBU : Hid (Below w.heap.size w wt) := HBT.out.trans (hb.mono HBT.out.size)
              have hum : us.length ≤ maxLen := by unfold maxLen; omega
              have hwm : ws.length ≤ maxLen := by unfold maxLen; omega
              have hI1 := impl_compareI wt (some ⟨gx, 0, none⟩) (some ⟨gy, 0, none⟩) cx cy us ws hru hrw hum hwm
              have hI2 := fun w' (hb : Below wt.heap.size wt w') => impl_compareI w' (some ⟨gy, 0, none⟩) (some ⟨gx, 0, none⟩) cy cx ws us (readsI_below hrw hb) (readsI_below hru hb) hwm hum
              have hS1 := spec_compareI wt (some ⟨gx, 0, none⟩) (some ⟨gy, 0, none⟩) cx cy us ws hru hrw hum hwm
              have hS2 := fun w' (hb : Below wt.heap.size wt w') => same_ints w' (some ⟨gx, 0, none⟩) (some ⟨gy, 0, none⟩) cx cy us ws (readsI_below hru hb) (readsI_below hrw hb) hum
              rw [cmp_back us ws] at hI2
              rw [cmp_zero us ws] at hS2
              generalize cmpI us ws = q at hI1 hI2 hS1 hS2
              have HI1 := Lib.hid hI1
              have HI2 := Lib.hid hI2
              have HS1 := Lib.hid hS1
              have HS2 := Lib.hid hS2
              clear hb hru hrw hum hwm hu4 hw4 HBT hI1 hI2 hS1 hS2
              go_wp2_with fail
              refine HI1.out.mono ?_
              rintro e wt2 ⟨rfl, rfl⟩
              go_wp2_with fail
              refine HS1.out.mono ?_
              rintro e wu ⟨rfl, hb⟩
              have HBV := Lib.hid hb
              clear hb
              go_wp2_with fail
              refine (HI2.out wu HBV.out).mono ?_
              rintro e wu2 ⟨rfl, rfl⟩
              go_wp2_with fail
              refine (HS2.out wu HBV.out).mono ?_
              rintro e wv ⟨rfl, hb⟩
              have HBW : Hid (Below w.heap.size w wv) := HBU.out.trans ((HBV.out.trans (hb.mono HBV.out.size)).mono HBU.out.size)
              clear hb
              go_wp2
              go_ret
              exact ⟨rfl, HBW.out⟩
            · cases two with
              | false =>
                clear HALL HV11 HT11 HV5 HT5 HEQ
                have HBT : Hid (Below w.heap.size w W2) := HB1.out.trans (HB6.out.mono HB1.out.size)
                clear HB1 HB6
                go_wp2_with fail
                refine (drawCompare_any W2 a len cap zs (row_below HR.out HBT.out) (by omega)).mono ?_
                rintro e wt ⟨gx, cx, us, gy, cy, ws, rfl, hu4, hw4, hru, hrw, hb⟩
                have HBU : Hid (Below w.heap.size w wt) := HBT.out.trans (hb.mono HBT.out.size)
                have hum : us.length ≤ maxLen := by unfold maxLen; omega
                have hwm : ws.length ≤ maxLen := by unfold maxLen; omega
                have hI1 := impl_compareI wt (some ⟨gx, 0, none⟩) (some ⟨gy, 0, none⟩) cx cy us ws hru hrw hum hwm
                have hI2 := fun w' (hb : Below wt.heap.size wt w') => impl_compareI w' (some ⟨gy, 0, none⟩) (some ⟨gx, 0, none⟩) cy cx ws us (readsI_below hrw hb) (readsI_below hru hb) hwm hum
                have hS1 := spec_compareI wt (some ⟨gx, 0, none⟩) (some ⟨gy, 0, none⟩) cx cy us ws hru hrw hum hwm
                have hS2 := fun w' (hb : Below wt.heap.size wt w') => same_ints w' (some ⟨gx, 0, none⟩) (some ⟨gy, 0, none⟩) cx cy us ws (readsI_below hru hb) (readsI_below hrw hb) hum
                rw [cmp_back us ws] at hI2
                rw [cmp_zero us ws] at hS2
                generalize cmpI us ws = q at hI1 hI2 hS1 hS2
                have HI1 := Lib.hid hI1
                have HI2 := Lib.hid hI2
                have HS1 := Lib.hid hS1
                have HS2 := Lib.hid hS2
                clear hb hru hrw hum hwm hu4 hw4 HBT hI1 hI2 hS1 hS2
                go_wp2_with fail
                refine HI1.out.mono ?_
                rintro e wt2 ⟨rfl, rfl⟩
                go_wp2_with fail
                refine HS1.out.mono ?_
                rintro e wu ⟨rfl, hb⟩
                have HBV := Lib.hid hb
                clear hb
                go_wp2_with fail
                refine (HI2.out wu HBV.out).mono ?_
                rintro e wu2 ⟨rfl, rfl⟩
                go_wp2_with fail
                refine (HS2.out wu HBV.out).mono ?_
                rintro e wv ⟨rfl, hb⟩
                have HBW : Hid (Below w.heap.size w wv) := HBU.out.trans ((HBV.out.trans (hb.mono HBV.out.size)).mono HBU.out.size)
                clear hb
                go_wp2
                go_ret
                exact ⟨rfl, HBW.out⟩
              | true =>
                obtain ⟨v0, v1, v2, v3, _⟩ := four_cells HV5.out
                obtain ⟨y0, y1, y2, y3, _⟩ := four_cells HV11.out
                go_wp2_with fail
                refine (HEQ.out _ p11 c11 p5 c5 HT11.out HT5.out).mono ?_
                rintro e w9 ⟨rfl, hb⟩
                have HB9 : Hid (Below w1.heap.size w1 w9) := HB6.out.trans (hb.mono HB6.out.size)
                clear hb v0 v1 v2 v3 y0 y1 y2 y3 HALL HV11 HT11 HV5 HT5 HEQ HB6
                have HBT : Hid (Below w.heap.size w w9) := HB1.out.trans (HB9.out.mono HB1.out.size)
                clear HB1 HB9
                go_wp2_with fail
                refine (drawCompare_any w9 a len cap zs (row_below HR.out HBT.out) (by omega)).mono ?_
                rintro e wt ⟨gx, cx, us, gy, cy, ws, rfl, hu4, hw4, hru, hrw, hb⟩
                have HBU : Hid (Below w.heap.size w wt) := HBT.out.trans (hb.mono HBT.out.size)
                have hum : us.length ≤ maxLen := by unfold maxLen; omega
                have hwm : ws.length ≤ maxLen := by unfold maxLen; omega
                have hI1 := impl_compareI wt (some ⟨gx, 0, none⟩) (some ⟨gy, 0, none⟩) cx cy us ws hru hrw hum hwm
                have hI2 := fun w' (hb : Below wt.heap.size wt w') => impl_compareI w' (some ⟨gy, 0, none⟩) (some ⟨gx, 0, none⟩) cy cx ws us (readsI_below hrw hb) (readsI_below hru hb) hwm hum
                have hS1 := spec_compareI wt (some ⟨gx, 0, none⟩) (some ⟨gy, 0, none⟩) cx cy us ws hru hrw hum hwm
                have hS2 := fun w' (hb : Below wt.heap.size wt w') => same_ints w' (some ⟨gx, 0, none⟩) (some ⟨gy, 0, none⟩) cx cy us ws (readsI_below hru hb) (readsI_below hrw hb) hum
                rw [cmp_back us ws] at hI2
                rw [cmp_zero us ws] at hS2
                generalize cmpI us ws = q at hI1 hI2 hS1 hS2
                have HI1 := Lib.hid hI1
                have HI2 := Lib.hid hI2
                have HS1 := Lib.hid hS1
                have HS2 := Lib.hid hS2
                clear hb hru hrw hum hwm hu4 hw4 HBT hI1 hI2 hS1 hS2
                go_wp2_with fail
                refine HI1.out.mono ?_
                rintro e wt2 ⟨rfl, rfl⟩
                go_wp2_with fail
                refine HS1.out.mono ?_
                rintro e wu ⟨rfl, hb⟩
                have HBV := Lib.hid hb
                clear hb
                go_wp2_with fail
                refine (HI2.out wu HBV.out).mono ?_
                rintro e wu2 ⟨rfl, rfl⟩
                go_wp2_with fail
                refine (HS2.out wu HBV.out).mono ?_
                rintro e wv ⟨rfl, hb⟩
                have HBW : Hid (Below w.heap.size w wv) := HBU.out.trans ((HBV.out.trans (hb.mono HBV.out.size)).mono HBU.out.size)
                clear hb
                go_wp2
                go_ret
                exact ⟨rfl, HBW.out⟩
        · have HBd : Hid (Below w1.heap.size w1 W.drew) := HB6.out.drew
          have HBe : Hid (Below w1.heap.size w1 (W.alloc (.cells #[.int .i64 0, .int .i64 0, .string ⟨#[]⟩, .slice none 0 0] 26)).drew) := (HB6.out.alloc HB6.out.size _).drew
          obtain ⟨a0, a1, a2, a3, _⟩ := four_cells (HV9.out.below ((Below.refl W.heap.size W).alloc (Nat.le_refl _) (.cells #[.int .i64 0, .int .i64 0, .string ⟨#[]⟩, .slice none 0 0] 26)))
          obtain ⟨v0, v1, v2, v3, _⟩ := four_cells HV9.out
          go_wp2
          apply once (fun W b p c => Hid (Below w1.heap.size w1 W) ∧ Hid (BoxAt W w2.heap.size X.k X.n X.t p5 X.args.length c5 26) ∧ Hid (TreesAt W X.args p5 0) ∧ Hid (BoxAt W b Z.k Z.n Z.t p Z.args.length c 26) ∧ Hid (TreesAt W Z.args p 0) ∧ Z.args.length ≤ c)
          case use =>
            intro KEY
            go_region_law (first
              | (go_simp; go_at_call 10; refine (HV2.out _ p9 c9 (some ⟨g, 1, none⟩) (oc - 1) (HT9.out.below ((Below.refl _ _).drew)) hlU (readsI_rest (readsI_below HRO.out HBd.out))).mono ?_
                 rintro e w8 ⟨⟨p11, c11, rfl, hlZ, ht⟩, hb⟩
                 have hb7 := below_of_drew hb
                 have hal := (Below.refl w8.heap.size w8).alloc (Nat.le_refl _) (.cells #[.int .i64 Z.k, .int .i64 Z.n, .string Z.t, .slice p11 Z.args.length c11] 26)
                 have hbb := hb7.trans (hal.mono hb7.size)
                 have HBN : Hid (Below w1.heap.size w1 (w8.alloc (.cells #[.int .i64 Z.k, .int .i64 Z.n, .string Z.t, .slice p11 Z.args.length c11] 26))) := HB6.out.trans (hbb.mono HB6.out.size)
                 have HV5N := Lib.hid (HV5.out.below hbb)
                 have HT5N := Lib.hid (HT5.out.below hbb)
                 have HVN : Hid (BoxAt (w8.alloc (.cells #[.int .i64 Z.k, .int .i64 Z.n, .string Z.t, .slice p11 Z.args.length c11] 26)) w8.heap.size Z.k Z.n Z.t p11 Z.args.length c11 26) := heap_at_new w8 (.cells #[.int .i64 Z.k, .int .i64 Z.n, .string Z.t, .slice p11 Z.args.length c11] 26)
                 have HTN : Hid (TreesAt (w8.alloc (.cells #[.int .i64 Z.k, .int .i64 Z.n, .string Z.t, .slice p11 Z.args.length c11] 26)) Z.args p11 0) := ht _ (fun b h1 h2 => hal.block b h2)
                 obtain ⟨x0, x1, x2, x3, _⟩ := four_cells (HV9.out.below hb7)
                 obtain ⟨y0, y1, y2, y3, _⟩ := four_cells (HV9.out.below hbb)
                 clear hb hb7 hal hbb ht)
              | (go_simp; go_at_call 10; refine (HV2.out _ p9 c9 (some ⟨g, 1, none⟩) (oc - 1) (HT9.out.below (((Below.refl _ _).alloc (Nat.le_refl _) _).drew)) hlU (readsI_rest (readsI_below HRO.out HBe.out))).mono ?_
                 rintro e w8 ⟨⟨p11, c11, rfl, hlZ, ht⟩, hb⟩
                 have hb7 := below_of_drew hb
                 have hal := (Below.refl W.heap.size W).alloc (Nat.le_refl _) (.cells #[.int .i64 0, .int .i64 0, .string ⟨#[]⟩, .slice none 0 0] 26)
                 have hsz : (W.alloc (.cells #[.int .i64 0, .int .i64 0, .string ⟨#[]⟩, .slice none 0 0] 26)).heap.size = W.heap.size + 1 := Array.size_push _
                 have hbz := hal.trans (hb7.mono hal.size)
                 have hbox : BoxAt w8 W.heap.size 0 0 ⟨#[]⟩ none 0 0 26 := (hb7.block _ (by omega)).trans (heap_at_new W _)
                 have hbb : Below W.heap.size W ((((w8.setCell ⟨W.heap.size, 0, none⟩ (.int .i64 Z.k)).setCell ⟨W.heap.size, 1, none⟩ (.int .i64 Z.n)).setCell ⟨W.heap.size, 2, none⟩ (.string Z.t)).setCell ⟨W.heap.size, 3, none⟩ (.slice p11 Z.args.length c11)) := (((hbz.setCell (Nat.le_refl _) _).setCell (Nat.le_refl _) _).setCell (Nat.le_refl _) _).setCell (Nat.le_refl _) _
                 have HBN : Hid (Below w1.heap.size w1 ((((w8.setCell ⟨W.heap.size, 0, none⟩ (.int .i64 Z.k)).setCell ⟨W.heap.size, 1, none⟩ (.int .i64 Z.n)).setCell ⟨W.heap.size, 2, none⟩ (.string Z.t)).setCell ⟨W.heap.size, 3, none⟩ (.slice p11 Z.args.length c11))) := HB6.out.trans (hbb.mono HB6.out.size)
                 have HV5N := Lib.hid (HV5.out.below hbb)
                 have HT5N := Lib.hid (HT5.out.below hbb)
                 have HVN : Hid (BoxAt ((((w8.setCell ⟨W.heap.size, 0, none⟩ (.int .i64 Z.k)).setCell ⟨W.heap.size, 1, none⟩ (.int .i64 Z.n)).setCell ⟨W.heap.size, 2, none⟩ (.string Z.t)).setCell ⟨W.heap.size, 3, none⟩ (.slice p11 Z.args.length c11)) W.heap.size Z.k Z.n Z.t p11 Z.args.length c11 26) := (four_set (four_set (four_set (four_set hbox _).1 _).2.1 _).2.2.1 _).2.2.2
                 have HTN : Hid (TreesAt ((((w8.setCell ⟨W.heap.size, 0, none⟩ (.int .i64 Z.k)).setCell ⟨W.heap.size, 1, none⟩ (.int .i64 Z.n)).setCell ⟨W.heap.size, 2, none⟩ (.string Z.t)).setCell ⟨W.heap.size, 3, none⟩ (.slice p11 Z.args.length c11)) Z.args p11 0) := ht _ (fun b h1 h2 => far_box _ _ _ _ _ _ _ (by have h3 : (W.alloc (.cells #[.int .i64 0, .int .i64 0, .string ⟨#[]⟩, .slice none 0 0] 26)).heap.size ≤ b := h1; omega))
                 obtain ⟨x0, x1, x2, x3, _⟩ := four_cells (HV9.out.below hbz)
                 obtain ⟨z0, z1, z2, z3, f0, f1, f2, f3⟩ := four_cells hbox
                 clear hb hb7 hal hbb hbz hsz hbox ht))
            all_goals
              first
                | (have hck : Hid (Below w1.heap.size w1 (w8.alloc (.cells #[.int .i64 Z.k, .int .i64 Z.n, .string Z.t, .slice p11 Z.args.length c11] 26))) := (by with_reducible exact HBN); clear hck; generalize w8.alloc (.cells #[.int .i64 Z.k, .int .i64 Z.n, .string Z.t, .slice p11 Z.args.length c11] 26) = W2 at *; generalize w8.heap.size = b11 at *; exact KEY W2 b11 p11 c11 ⟨HBN, HV5N, HT5N, HVN, HTN, hlZ⟩)
                | (generalize ((((w8.setCell ⟨W.heap.size, 0, none⟩ (.int .i64 Z.k)).setCell ⟨W.heap.size, 1, none⟩ (.int .i64 Z.n)).setCell ⟨W.heap.size, 2, none⟩ (.string Z.t)).setCell ⟨W.heap.size, 3, none⟩ (.slice p11 Z.args.length c11)) = W2 at *; generalize W.heap.size = b11 at *; exact KEY W2 b11 p11 c11 ⟨HBN, HV5N, HT5N, HVN, HTN, hlZ⟩)
          case key =>
            intro W2 b11 p11 c11 ⟨HB6', HV5', HT5', HV11, HT11, hlZ⟩
            clear HV5 HT5 HB6 HBd HBe HV9 HV2 HT9 v0 v1 v2 v3 a0 a1 a2 a3
            have HB6 := HB6'
            have HV5 := HV5'
            have HT5 := HT5'
            clear HB6' HV5' HT5' hlZ
            rcases HALL.out with ⟨rfl, rfl⟩ | ⟨rfl, rfl, rfl⟩
            · clear HALL HV11 HT11 HV5 HT5 HEQ
              have HBT : Hid (Below w.heap.size w W2) := HB1.out.trans (HB6.out.mono HB1.out.size)
              clear HB1 HB6
              go_wp2_with fail
              refine (drawCompare_any W2 a len cap zs (row_below HR.out HBT.out) (by omega)).mono ?_
              rintro e wt ⟨gx, cx, us, gy, cy, ws, rfl, hu4, hw4, hru, hrw, hb⟩
              have HBU : Hid (Below w.heap.size w wt) := HBT.out.trans (hb.mono HBT.out.size)
              have hum : us.length ≤ maxLen := by unfold maxLen; omega
              have hwm : ws.length ≤ maxLen := by unfold maxLen; omega
              have hI1 := impl_compareI wt (some ⟨gx, 0, none⟩) (some ⟨gy, 0, none⟩) cx cy us ws hru hrw hum hwm
              have hI2 := fun w' (hb : Below wt.heap.size wt w') => impl_compareI w' (some ⟨gy, 0, none⟩) (some ⟨gx, 0, none⟩) cy cx ws us (readsI_below hrw hb) (readsI_below hru hb) hwm hum
              have hS1 := spec_compareI wt (some ⟨gx, 0, none⟩) (some ⟨gy, 0, none⟩) cx cy us ws hru hrw hum hwm
              have hS2 := fun w' (hb : Below wt.heap.size wt w') => same_ints w' (some ⟨gx, 0, none⟩) (some ⟨gy, 0, none⟩) cx cy us ws (readsI_below hru hb) (readsI_below hrw hb) hum
              rw [cmp_back us ws] at hI2
              rw [cmp_zero us ws] at hS2
              generalize cmpI us ws = q at hI1 hI2 hS1 hS2
              have HI1 := Lib.hid hI1
              have HI2 := Lib.hid hI2
              have HS1 := Lib.hid hS1
              have HS2 := Lib.hid hS2
              clear hb hru hrw hum hwm hu4 hw4 HBT hI1 hI2 hS1 hS2
              go_wp2_with fail
              refine HI1.out.mono ?_
              rintro e wt2 ⟨rfl, rfl⟩
              go_wp2_with fail
              refine HS1.out.mono ?_
              rintro e wu ⟨rfl, hb⟩
              have HBV := Lib.hid hb
              clear hb
              go_wp2_with fail
              refine (HI2.out wu HBV.out).mono ?_
              rintro e wu2 ⟨rfl, rfl⟩
              go_wp2_with fail
              refine (HS2.out wu HBV.out).mono ?_
              rintro e wv ⟨rfl, hb⟩
              have HBW : Hid (Below w.heap.size w wv) := HBU.out.trans ((HBV.out.trans (hb.mono HBV.out.size)).mono HBU.out.size)
              clear hb
              go_wp2
              go_ret
              exact ⟨rfl, HBW.out⟩
            · cases two with
              | false =>
                clear HALL HV11 HT11 HV5 HT5 HEQ
                have HBT : Hid (Below w.heap.size w W2) := HB1.out.trans (HB6.out.mono HB1.out.size)
                clear HB1 HB6
                go_wp2_with fail
                refine (drawCompare_any W2 a len cap zs (row_below HR.out HBT.out) (by omega)).mono ?_
                rintro e wt ⟨gx, cx, us, gy, cy, ws, rfl, hu4, hw4, hru, hrw, hb⟩
                have HBU : Hid (Below w.heap.size w wt) := HBT.out.trans (hb.mono HBT.out.size)
                have hum : us.length ≤ maxLen := by unfold maxLen; omega
                have hwm : ws.length ≤ maxLen := by unfold maxLen; omega
                have hI1 := impl_compareI wt (some ⟨gx, 0, none⟩) (some ⟨gy, 0, none⟩) cx cy us ws hru hrw hum hwm
                have hI2 := fun w' (hb : Below wt.heap.size wt w') => impl_compareI w' (some ⟨gy, 0, none⟩) (some ⟨gx, 0, none⟩) cy cx ws us (readsI_below hrw hb) (readsI_below hru hb) hwm hum
                have hS1 := spec_compareI wt (some ⟨gx, 0, none⟩) (some ⟨gy, 0, none⟩) cx cy us ws hru hrw hum hwm
                have hS2 := fun w' (hb : Below wt.heap.size wt w') => same_ints w' (some ⟨gx, 0, none⟩) (some ⟨gy, 0, none⟩) cx cy us ws (readsI_below hru hb) (readsI_below hrw hb) hum
                rw [cmp_back us ws] at hI2
                rw [cmp_zero us ws] at hS2
                generalize cmpI us ws = q at hI1 hI2 hS1 hS2
                have HI1 := Lib.hid hI1
                have HI2 := Lib.hid hI2
                have HS1 := Lib.hid hS1
                have HS2 := Lib.hid hS2
                clear hb hru hrw hum hwm hu4 hw4 HBT hI1 hI2 hS1 hS2
                go_wp2_with fail
                refine HI1.out.mono ?_
                rintro e wt2 ⟨rfl, rfl⟩
                go_wp2_with fail
                refine HS1.out.mono ?_
                rintro e wu ⟨rfl, hb⟩
                have HBV := Lib.hid hb
                clear hb
                go_wp2_with fail
                refine (HI2.out wu HBV.out).mono ?_
                rintro e wu2 ⟨rfl, rfl⟩
                go_wp2_with fail
                refine (HS2.out wu HBV.out).mono ?_
                rintro e wv ⟨rfl, hb⟩
                have HBW : Hid (Below w.heap.size w wv) := HBU.out.trans ((HBV.out.trans (hb.mono HBV.out.size)).mono HBU.out.size)
                clear hb
                go_wp2
                go_ret
                exact ⟨rfl, HBW.out⟩
              | true =>
                obtain ⟨v0, v1, v2, v3, _⟩ := four_cells HV5.out
                obtain ⟨y0, y1, y2, y3, _⟩ := four_cells HV11.out
                go_wp2_with fail
                refine (HEQ.out _ p11 c11 p5 c5 HT11.out HT5.out).mono ?_
                rintro e w9 ⟨rfl, hb⟩
                have HB9 : Hid (Below w1.heap.size w1 w9) := HB6.out.trans (hb.mono HB6.out.size)
                clear hb v0 v1 v2 v3 y0 y1 y2 y3 HALL HV11 HT11 HV5 HT5 HEQ HB6
                have HBT : Hid (Below w.heap.size w w9) := HB1.out.trans (HB9.out.mono HB1.out.size)
                clear HB1 HB9
                go_wp2_with fail
                refine (drawCompare_any w9 a len cap zs (row_below HR.out HBT.out) (by omega)).mono ?_
                rintro e wt ⟨gx, cx, us, gy, cy, ws, rfl, hu4, hw4, hru, hrw, hb⟩
                have HBU : Hid (Below w.heap.size w wt) := HBT.out.trans (hb.mono HBT.out.size)
                have hum : us.length ≤ maxLen := by unfold maxLen; omega
                have hwm : ws.length ≤ maxLen := by unfold maxLen; omega
                have hI1 := impl_compareI wt (some ⟨gx, 0, none⟩) (some ⟨gy, 0, none⟩) cx cy us ws hru hrw hum hwm
                have hI2 := fun w' (hb : Below wt.heap.size wt w') => impl_compareI w' (some ⟨gy, 0, none⟩) (some ⟨gx, 0, none⟩) cy cx ws us (readsI_below hrw hb) (readsI_below hru hb) hwm hum
                have hS1 := spec_compareI wt (some ⟨gx, 0, none⟩) (some ⟨gy, 0, none⟩) cx cy us ws hru hrw hum hwm
                have hS2 := fun w' (hb : Below wt.heap.size wt w') => same_ints w' (some ⟨gx, 0, none⟩) (some ⟨gy, 0, none⟩) cx cy us ws (readsI_below hru hb) (readsI_below hrw hb) hum
                rw [cmp_back us ws] at hI2
                rw [cmp_zero us ws] at hS2
                generalize cmpI us ws = q at hI1 hI2 hS1 hS2
                have HI1 := Lib.hid hI1
                have HI2 := Lib.hid hI2
                have HS1 := Lib.hid hS1
                have HS2 := Lib.hid hS2
                clear hb hru hrw hum hwm hu4 hw4 HBT hI1 hI2 hS1 hS2
                go_wp2_with fail
                refine HI1.out.mono ?_
                rintro e wt2 ⟨rfl, rfl⟩
                go_wp2_with fail
                refine HS1.out.mono ?_
                rintro e wu ⟨rfl, hb⟩
                have HBV := Lib.hid hb
                clear hb
                go_wp2_with fail
                refine (HI2.out wu HBV.out).mono ?_
                rintro e wu2 ⟨rfl, rfl⟩
                go_wp2_with fail
                refine (HS2.out wu HBV.out).mono ?_
                rintro e wv ⟨rfl, hb⟩
                have HBW : Hid (Below w.heap.size w wv) := HBU.out.trans ((HBV.out.trans (hb.mono HBV.out.size)).mono HBU.out.size)
                clear hb
                go_wp2
                go_ret
                exact ⟨rfl, HBW.out⟩
end Go.Proofs.YtcalgjggmgnofaaDoor
end

/- What is proved here: what the rows of FormatKey, FormatOccurrence and of the laws on keys and occurrences list gives the table of the powers of ten. No condition. -/
section
namespace Go.Proofs.YtcalgjggmgnofaaDoor
open Go.ChangeShapes Go.WideShapes Go.ChangeAt Go.RowKit

theorem tab_dataK : (Rows.laid_internal_strconv_uint64pow10 : DataW Unit) = Lib.tabData .u64 Lib.pow10Tab := by rfl

theorem tab_of_fnExactFormatKey {W : World} (h : laidMetH Tryd.prog Rows.fnExactFormatKeyRow.laid W) : Lib.TabIs Tryd.prog W "internal/strconv.uint64pow10" .u64 Lib.pow10Tab := by
  rw [MakeChecks.laidMetH_plain _ _ _ (by kernel_rfl)] at h
  have h2 := laidMet.tail (laidMet.tail h)
  rw [tab_dataK] at h2
  exact Lib.tabIs_of_head (g := 0) (t := 161) (e := 146) (n := 20) (by kernel_rfl) (by kernel_rfl) Tryd.underlying161 Tryd.underlying146 (by kernel_rfl) (by kernel_rfl) h2
theorem tab_of_fnExactFormatOccurrence {W : World} (h : laidMetH Tryd.prog Rows.fnExactFormatOccurrenceRow.laid W) : Lib.TabIs Tryd.prog W "internal/strconv.uint64pow10" .u64 Lib.pow10Tab := tab_of_fnExactFormatKey h
theorem tab_of_fnKeys {W : World} (h : laidMetH Tryd.prog Rows.fnKeysRow.laid W) : Lib.TabIs Tryd.prog W "internal/strconv.uint64pow10" .u64 Lib.pow10Tab := tab_of_fnExactFormatKey h
theorem tab_of_fnOccurrences {W : World} (h : laidMetH Tryd.prog Rows.fnOccurrencesRow.laid W) : Lib.TabIs Tryd.prog W "internal/strconv.uint64pow10" .u64 Lib.pow10Tab := tab_of_fnExactFormatKey h
end Go.Proofs.YtcalgjggmgnofaaDoor
end

/- What is proved here: FnOccurrences holds for every argument (the frame round its walk). Condition: none beyond the statement's own (the listed variables read as start-up lays them; the card ties them). -/
section
namespace Go.Proofs.YtcalgjggmgnofaaDoor
open Go.ChangeShapes Go.WideShapes Go.ChangeAt Go.RowKit
open Go.ChangeMaps (open_string shut_string)
set_option maxRecDepth 100000 in
theorem fnOccurrences_lifted (os : Os) (started : os.Started) (H : Type) (enc : TypeId × Value → H) :
    ReturnsInHanded {} Tryd.checked os 3 .any (fun w args => (Rows.fnOccurrencesSpec.pre enc Tryd.prog Tryd.f3 [] false w args ∧ laidMetH Tryd.prog Rows.fnOccurrencesRow.laid w) ∧ sizedMet enc Tryd.prog Tryd.f3 (OpenSpec.ofChange Rows.fnOccurrencesSpec) false w args)
      (Rows.fnOccurrencesSpec.post enc Tryd.prog Tryd.f3 false true false false) := by
  refine returnsInHanded_of_change_and (C := Tryd.checked) (X := fun w _ => laidMetH Tryd.prog Rows.fnOccurrencesRow.laid w) (fun _ _ _ hh h => h.of_heap hh) own started (by kernel_rfl) Tryd.func3
    (ChangeSpec.witness_shaped (enc := enc) (C := Tryd.checked) (os := os) (X := fun w _ => laidMetH Tryd.prog Rows.fnOccurrencesRow.laid w) false (World.laidAll Tryd.prog os Rows.fnOccurrencesRow.laid) #[.slice none 0 0] 8 (World.laidAll_os _ _ _)
      (World.shaped_of_ZipB (by kernel_rfl) (by kernel_rfl)) (by kernel_rfl) (by kernel_rfl) (by kernel_rfl)
      (by rw [MakeChecks.laidMetH_plain _ _ _ (by kernel_rfl)]; exact laidMet_laidAll _ (by kernel_rfl) (by kernel_rfl))) ?_
  intro W base args ds gs before hval0 hW _ hsz hL _
  have hval : ∀ (j : Nat) t v, Tryd.f3.params[j]? = some t → args[j]? = some v → Value.okWide Tryd.prog W .any base t v := hval0
  have hW' := hW
  obtain ⟨p, q, hA0, hV, rfl, hfz, hnd⟩ := hW
  have hA : DataW.TrodAll enc Tryd.prog W 0 (fun _ => true) true Tryd.f3.params.toList args.toList ds p := hA0
  rw [Tryd.params3] at hA hval
  obtain ⟨v0, vs0, d0, ds0, p0, q0, hargs, rfl, rfl, h0, r0⟩ := trodAll_cons hA
  obtain ⟨rfl, rfl, rfl⟩ := trodAll_nil r0
  obtain rfl : args = #[v0] := by cases args; simp_all
  obtain ⟨rfl, rfl⟩ := trodVars_none hV
  obtain ⟨a0, len0, cap0, rfl⟩ := okWide_slice Tryd.underlying22 (hval 0 22 v0 rfl rfl)
  have k0 := h0
  have lt0 : ∀ x ∈ p0, x.block < W.heap.size := by obtain ⟨m, hm⟩ := k0; exact DataW.trod_lt m _ _ _ hm
  obtain ⟨z0, w0⟩ : ∃ zs, IsRow .u8 W a0 len0 cap0 zs := by
    obtain ⟨fuel, hf⟩ := h0
    rcases open_ints Tryd.underlying22 Tryd.underlying5 (by kernel_rfl) hf with ⟨hcs, _⟩ | ⟨x, l, c, zs, hcs, _, hl, hm, hz, _, hcell, hwz⟩
    · simp [Value.cells] at hcs
      obtain ⟨rfl, rfl, rfl⟩ := hcs
      exact ⟨[], .inl ⟨rfl, rfl, rfl, rfl⟩⟩
    · simp [Value.cells] at hcs
      obtain ⟨rfl, rfl, rfl⟩ := hcs
      exact ⟨zs, .inr ⟨_, rfl, hl, hm, by simpa using hz, hcell, hwz⟩⟩
  clear hA0 hval0
  simp only [List.append_nil] at hW'
  refine (fnOccurrences_walk a0 len0 cap0 z0 W w0 (tab_of_fnOccurrences hL)).mono fun e W' ⟨he, bel⟩ => ?_
  subst he
  exact ⟨_, rfl, _, _, _, [], _, [], hW', trodAll_mk1 (shut_bool Tryd.underlying4 _), (trodAll_cons_mk (Below.trod laidOut (by kernel_rfl) (of_decide_eq_true (by kernel_rfl)) k0 bel lt0) trodAll_mk0), rfl, bel.frame _, fun h => by cases h⟩

theorem fnOccurrences_row : Rows.FnOccurrencesSaid :=
  OpenClaim.holds_of_wide 3 Tryd.f3 rfl rfl rfl rfl rfl rfl rfl ⟨rfl, rfl, rfl, rfl, rfl⟩ rfl rfl rfl rfl rfl (by kernel_rfl) Tryd.func3 (by kernel_rfl)
    (of_decide_eq_true (by kernel_rfl)) (by unfold Func.isWrapper; first | (rw [if_pos (by decide +kernel)]; kernel_rfl) | (rw [if_neg (by decide +kernel)]; exact ⟨rfl, rfl⟩))
    (fun os started H enc _ => fnOccurrences_lifted os started H enc)

theorem fnOccurrences_holds : Rows.FnOccurrencesCardSaid :=
  Claim7.holds_tied_plain_at .later [] [.data, .data, .data] true Rows.fnOccurrencesCard.stood.harness true
    fnOccurrences_row (fun _ h => by cases h) (by kernel_rfl) (fun _ h => by cases h) fnOccurrences_row_tie rfl ⟨rfl, rfl⟩ (by kernel_rfl) rfl
    (fun f fn hf hfn => by
      obtain rfl : f = 3 := Option.some.inj ((show Tryd.prog.funcNamed "loop.example/g00519/laws.FnOccurrences" = some 3 by kernel_rfl).symm.trans hf) |>.symm
      obtain rfl : fn = Tryd.f3 := (Option.some.inj (Tryd.func3.symm.trans hfn)).symm
      exact ⟨by kernel_rfl, fun j t ht => by
        rw [Tryd.params3] at ht
        have hm : t ∈ [22] := by simpa using Array.mem_of_getElem? ht
        have hall : ([22].all fun u => !Tryd.prog.wantsStandIn u) = true := by kernel_rfl
        exact (show Tryd.prog.wantsStandIn t = false by simpa using List.all_eq_true.1 hall t hm)⟩)
    (by kernel_rfl)
end Go.Proofs.YtcalgjggmgnofaaDoor
end
