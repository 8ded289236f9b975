/- What is proved here: the program's FormatExpr returns the representation of a valid pattern, and none of others. Condition: the pattern lies in memory as said, and is small; the table of the powers of ten is as listed. -/
import Derived.Test.YtdifefgigcjgeaaDoorExImplText
import Derived.Test.YtdifefgigcjgeaaDoorExImplValid
namespace Go.Proofs.YtdifefgigcjgeaaDoor.Ex
open Go.RowKit

set_option maxHeartbeats 1000000 in
set_option maxRecDepth 100000 in
theorem impl_format_expr (w : World) (k n : Int) (t : ByteArray) (F : Trees) (p : Option Addr) (c : Nat) (hfv : F.fits) (hfc : F.count ≤ 1048576) (ht : t.size ≤ maxLen) (hx : TreesAt w F p 0) (hcap : F.length ≤ c) (htab : Lib.TabIs Tryd.prog w "internal/strconv.uint64pow10" .u64 Lib.pow10Tab) :
    Calls Tryd.prog 15 #[.agg #[.int .i64 k, .int .i64 n, .string t, .slice p F.length c]] w fun e w' => e = .returned (.string (exprFmt k n t F)) ∧ Below w.heap.size w w' := by
  have hB0 : Below w.heap.size w (w.alloc (.cells #[.int .i64 k, .int .i64 n, .string t, .slice p F.length c] 40)) := (Below.refl _ _).alloc (Nat.le_refl _) _
  obtain ⟨c0, c1, c2, c3, _⟩ := four_cells (heap_at_new w (.cells #[.int .i64 k, .int .i64 n, .string t, .slice p F.length c] 40))
  have HX := Lib.hid (hx.below hB0)
  obtain ⟨w0, hw0⟩ : ∃ w0, w0 = w.alloc (.cells #[.int .i64 k, .int .i64 n, .string t, .slice p F.length c] 40) := ⟨_, rfl⟩
  rw [← hw0] at HX hB0 c0 c1 c2 c3
  have HW0 := Lib.hid hw0
  have HB0 := Lib.hid hB0
  have HV := Lib.hid (impl_valid_expr w0 k n t F p c hfv hfc ht HX.out hcap)
  have HTAB := Lib.hid (fun w' (hb : Below w.heap.size w w') => Go.Joins.tab_stays (g := 1) (by kernel_rfl) htab hb (Nat.le_refl _))
  have HP : Hid (validExpr k n t F = true → F.formedE = true ∧ exprForm k n t F.length = true) := fun h => by
    unfold validExpr at h
    simp only [Bool.and_eq_true] at h
    exact ⟨h.2.2, h.2.1⟩
  unfold exprFmt
  cases hv : validExpr k n t F with
  | false =>
    rw [hv] at HV
    rw [if_neg (by simp)]
    clear hw0 hB0 hx hfv hfc ht hv hcap htab
    go_enter Tryd.func15, Tryd.ntmps15
    go_wp2_with fail
    rw [← HW0.out]
    refine HV.out.mono ?_
    rintro e w1 ⟨rfl, hb1⟩
    have HB1 := Lib.hid hb1
    clear hb1
    go_wp2
    go_ret
    exact ⟨rfl, HB0.out.trans (HB1.out.mono HB0.out.size)⟩
  | true =>
    obtain ⟨h1, h2⟩ := HP.out hv
    rw [hv] at HV
    rw [if_pos rfl]
    have HT := Lib.hid (fun W (hb : Below w0.heap.size w0 W) => impl_expr_text F h1 hfc W k n t p c h2 (HX.out.below hb) (HTAB.out W (HB0.out.trans (hb.mono HB0.out.size))))
    generalize str (nodeE k n t F.textsE) = u at *
    clear hw0 hB0 hx hfv hfc ht hv h1 h2 HP hcap htab
    go_enter Tryd.func15, Tryd.ntmps15
    go_wp2_with fail
    rw [← HW0.out]
    refine HV.out.mono ?_
    rintro e w1 ⟨rfl, hb1⟩
    have HB1 := Lib.hid hb1
    have c0 := cell_below c0 hb1
    have c1 := cell_below c1 hb1
    have c2 := cell_below c2 hb1
    have c3 := cell_below c3 hb1
    clear hb1
    go_wp2_with fail
    refine (HT.out w1 HB1.out).mono ?_
    rintro e w2 ⟨rfl, hb2⟩
    have HB2 : Hid (Below w0.heap.size w0 w2) := HB1.out.trans (hb2.mono HB1.out.size)
    clear hb2
    go_wp2
    go_ret
    exact ⟨rfl, HB0.out.trans (HB2.out.mono HB0.out.size)⟩
end Go.Proofs.YtdifefgigcjgeaaDoor.Ex
