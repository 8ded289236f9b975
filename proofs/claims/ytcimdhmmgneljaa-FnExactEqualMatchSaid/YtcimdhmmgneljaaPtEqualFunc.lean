/- What is proved here: slices.EqualFunc with haveEqualFields says whether two rows agree node by node. Condition: the rows lie in memory as said. -/
import Derived.Test.YtcimdhmmgneljaaPtFields
namespace Go.Proofs.Ytcimdhmmgneljaa.Pt
open Go.RowKit

set_option maxHeartbeats 1000000 in
set_option maxRecDepth 100000 in
theorem impl_flat (w : World) (F G : Trees) (a b : Option Addr) (c d : Nat) (hx : TreesAt w F a 0) (hy : TreesAt w G b 0) (hm : F.length ≤ 1048576) :
    Calls Try.prog 35 #[.slice a F.length c, .slice b G.length d, .func (.func 26) #[] #[]] w fun e w' => e = .returned (.bool (F.flatBy hd G)) ∧ Below w.heap.size w w' := by
  by_cases hlen : F.length = G.length
  · have HX := Lib.hid hx
    have HY := Lib.hid hy
    clear hx hy
    rw [← hlen]
    generalize hz : F.flatBy hd G = z
    have HZ := Lib.hid hz
    generalize hn : F.length = n at *
    have HN := Lib.hid hn
    have HL := Lib.hid hlen
    clear hz hn hlen
    go_enter Try.func35, Try.ntmps35
    go_wp2
    go_loopw [17] (fun i wr => ∃ (k : Nat) (r s : Trees), i = .int .i64 k ∧ k + r.length = n ∧ Hid (r.length = s.length) ∧ Hid (r.flatBy hd s = z) ∧ Hid (TreesAt w r a k) ∧ Hid (TreesAt w s b k) ∧ Hid (Below w.heap.size w wr)) (fun i _ => n - (intOf i).toNat)
    case atStart => exact ⟨0, F, G, rfl, by rw [HN.out]; omega, by unfold Hid; rw [HN.out]; exact HL.out, HZ, HX, HY, Below.refl _ _⟩
    case round =>
      obtain ⟨k, r, s, rfl, hkn, hrs, hz, hxr, hyr, hB⟩ := hrel
      cases r with
      | nil =>
        obtain rfl : k = n := by simp only [Trees.length] at hkn; omega
        cases s with
        | cons _ _ _ _ _ => have := hrs.out; simp [Trees.length] at this
        | nil =>
          obtain rfl : true = z := hz.out
          clear hxr hyr
          go_wp2
          go_ret
          exact ⟨rfl, hB.out⟩
      | cons k1 n1 t1 a1 r =>
        cases s with
        | nil => have := hrs.out; simp [Trees.length] at this
        | cons k2 n2 t2 a2 s =>
          have hkl : k < n := by simp only [Trees.length] at hkn; omega
          have hkn2 : k + 1 + r.length = n := by simp only [Trees.length] at hkn; omega
          have HRS : Hid (r.length = s.length) := by have := hrs.out; simp only [Trees.length] at this; unfold Hid; omega
          obtain ⟨y, p, cp, rfl, h1, h2, h3, h4, _, _⟩ := (hxr.out.below hB.out).open
          obtain ⟨y2, p2, cp2, rfl, j1, j2, j3, j4, _, _⟩ := (hyr.out.below hB.out).open
          have hxr2 : Hid (TreesAt w r (some y) (k + 1)) := hxr.out.2
          have hyr2 : Hid (TreesAt w s (some y2) (k + 1)) := hyr.out.2
          have H := fun w' => impl_fields w' k1 n1 t1 p a1.length cp k2 n2 t2 p2 a2.length cp2
          have hz2 := hz.out
          simp only [Trees.flatBy] at hz2
          generalize hd k1 n1 t1 a1.length k2 n2 t2 a2.length = hb at *
          have hal : Below wr.heap.size wr ((wr.alloc (.cells #[.int .i64 k1, .int .i64 n1, .string t1, .slice p a1.length cp] 35)).alloc (.cells #[.int .i64 k2, .int .i64 n2, .string t2, .slice p2 a2.length cp2] 35)) := alloc2 _ _ _
          have hcz := cell_below j1 ((Below.refl _ _).alloc (Nat.le_refl _) (.cells #[.int .i64 k1, .int .i64 n1, .string t1, .slice p a1.length cp] 35))
          have hcz1 := cell_below j2 ((Below.refl _ _).alloc (Nat.le_refl _) (.cells #[.int .i64 k1, .int .i64 n1, .string t1, .slice p a1.length cp] 35))
          have hcz2 := cell_below j3 ((Below.refl _ _).alloc (Nat.le_refl _) (.cells #[.int .i64 k1, .int .i64 n1, .string t1, .slice p a1.length cp] 35))
          have hcz3 := cell_below j4 ((Below.refl _ _).alloc (Nat.le_refl _) (.cells #[.int .i64 k1, .int .i64 n1, .string t1, .slice p a1.length cp] 35))
          have HAL := Lib.hid hal
          clear hxr hyr hz hrs hkn hal
          cases hb with
          | false =>
            obtain rfl : false = z := by simpa using hz2
            clear hz2
            go_wp2_with fail
            refine (H _).mono ?_
            rintro e w1 ⟨rfl, hb1⟩
            have HB1 : Hid (Below w.heap.size w w1) := (hB.out.trans (HAL.out.mono hB.out.size)).trans (hb1.mono (Nat.le_trans hB.out.size HAL.out.size))
            clear hb1 H
            go_wp2
            go_ret
            exact ⟨rfl, HB1.out⟩
          | true =>
            have HZ2 : Hid (r.flatBy hd s = z) := by unfold Hid; simpa using hz2
            clear hz2
            go_wp2_with fail
            refine (H _).mono ?_
            rintro e w1 ⟨rfl, hb1⟩
            have HB1 : Hid (Below w.heap.size w w1) := (hB.out.trans (HAL.out.mono hB.out.size)).trans (hb1.mono (Nat.le_trans hB.out.size HAL.out.size))
            clear hb1 H
            go_wp2
            go_roundw
            case rel => exact ⟨k + 1, r, s, by go_num, hkn2, HRS, HZ2, hxr2, hyr2, HB1⟩
            case measure => simp [intOf]; omega
  · have hz : F.flatBy hd G = false := by
      cases h : F.flatBy hd G with
      | false => rfl
      | true => exact absurd (Trees.flatBy_length hd F G h) hlen
    rw [hz]
    have hne : ((F.length : Int) == (G.length : Int)) = false := by simp; omega
    clear hx hy hz hlen
    go_enter Try.func35, Try.ntmps35
    go_wp2
    go_ret
    exact ⟨rfl, Below.refl _ _⟩
end Go.Proofs.Ytcimdhmmgneljaa.Pt
