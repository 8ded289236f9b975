/- What is proved here: the laws' bound on a signature (szSignature and what it calls) counts its size. Condition: the signature lies in memory as said. -/
import Derived.Test.YtcmpaccpdjcocaaSig
import Derived.Test.YtcmpaccpdjcocaaSizes
namespace Go.Proofs.Ytcmpaccpdjcocaa
open Go.RowKit

theorem szFrom_left (L : Nat) (xs : List ByteArray) : szFrom L xs = left L (xs.length + total xs) := by
  unfold szFrom left
  split <;> omega
theorem szStringS_any (L : Nat) (hL : L ≤ 1048576) (w : World) (a : Option Addr) (cap : Nat) (xs : List ByteArray) (hx : Reads w a xs) (hm : xs.length ≤ maxLen) (hs : ∀ x ∈ xs, x.size ≤ maxLen) :
    Calls Try.prog 84 #[.slice a xs.length cap, .int .i64 (L : Int)] w fun e w' => e = .returned (.int .i64 (left L (xs.length + total xs))) ∧ Below w.heap.size w w' := by
  refine (sz_from L hL w a cap xs hx hm hs).mono ?_
  rintro e w1 ⟨rfl, rfl⟩
  exact ⟨by rw [szFrom_left], Below.refl _ _⟩

set_option maxHeartbeats 1000000 in
set_option maxRecDepth 100000 in
theorem szCon_any (L : Nat) (hL : L ≤ 1048576) (w : World) (c : ConD) (u v : Value) (hx : ConAt w c u v) (hf : c.fits) :
    Calls Try.prog 75 #[.agg #[u, v], .int .i64 (L : Int)] w fun e w' => e = .returned (.int .i64 (left L c.size)) ∧ Below w.heap.size w w' := by
  obtain ⟨a, cap, rfl, rfl, hr⟩ := hx
  obtain ⟨h1, h2, h3⟩ := hf
  have H := fun M hM w hr => szStringS_any M hM w a cap c.args hr h2 h3
  have HR := Lib.hid hr
  clear hr h3
  unfold maxLen at h1 h2
  generalize hN : c.args.length + total c.args = N at H
  have hc : left L c.size = if c.name.size ≤ L then left (L - c.name.size) N else -1 := by unfold left ConD.size; subst hN; split <;> split <;> (try split) <;> omega
  generalize left L c.size = z at hc ⊢
  clear hN
  by_cases hn : c.name.size ≤ L
  · rw [if_pos hn] at hc
    have H1 := H (L - c.name.size) (by omega)
    have hMb : L - c.name.size ≤ 1048576 := by omega
    clear H
    have hM2 : (L : Int) - (c.name.size : Int) = ((L - c.name.size : Nat) : Int) := by omega
    generalize L - c.name.size = M at *
    have HZ := Lib.hid hc
    have HL := Lib.hid hL
    clear hc hL
    have hb : Below w.heap.size w (w.alloc (.cells #[.string c.name, .slice a c.args.length cap] 90)) := (Below.refl _ _).alloc (Nat.le_refl _) _
    have HB := Lib.hid hb
    clear hb
    by_cases hN : N ≤ M
    · rw [left_yes hN] at H1
      have HZ : Hid (z = ((M - N : Nat) : Int)) := by unfold Hid; rw [HZ.out, left_yes hN]
      have hqb : M - N ≤ 1048576 := by omega
      generalize M - N = q at *
      clear hN
      go_enter Try.func75, Try.ntmps75
      go_wp2_with fail
      refine (H1 _ (reads_below HR.out HB.out)).mono ?_
      rintro e w1 ⟨rfl, hb1⟩
      have HB1 : Hid (Below w.heap.size w w1) := HB.out.trans (hb1.mono HB.out.size)
      clear hb1 H1
      go_wp2
      go_ret
      exact ⟨by rw [HZ.out]; rfl, HB1.out⟩
    · rw [left_no hN] at H1
      have HZ : Hid (z = -1) := by unfold Hid; rw [HZ.out, left_no hN]
      clear hN
      go_enter Try.func75, Try.ntmps75
      go_wp2_with fail
      refine (H1 _ (reads_below HR.out HB.out)).mono ?_
      rintro e w1 ⟨rfl, hb1⟩
      have HB1 : Hid (Below w.heap.size w w1) := HB.out.trans (hb1.mono HB.out.size)
      clear hb1 H1
      go_wp2
      go_ret
      exact ⟨by rw [HZ.out]; rfl, HB1.out⟩
  · rw [if_neg hn] at hc
    subst hc
    have hM2 : (L : Int) - (c.name.size : Int) < 0 := by omega
    clear H
    have hb : Below w.heap.size w (w.alloc (.cells #[.string c.name, .slice a c.args.length cap] 90)) := (Below.refl _ _).alloc (Nat.le_refl _) _
    have HB := Lib.hid hb
    clear hb
    go_enter Try.func75, Try.ntmps75
    go_wp2
    go_ret
    exact ⟨rfl, HB.out⟩

set_option maxHeartbeats 1000000 in
set_option maxRecDepth 100000 in
theorem szConS_any (L : Nat) (hL : L ≤ 1048576) (w : World) (a : Option Addr) (cap : Nat) (cs : List ConD) (hx : Row2 ConAt w a cs) (hm : cs.length ≤ maxLen) (hs : ∀ c ∈ cs, c.fits) :
    Calls Try.prog 62 #[.slice a cs.length cap, .int .i64 (L : Int)] w fun e w' => e = .returned (.int .i64 (left L (cs.length + sumBy ConD.size cs))) ∧ Below w.heap.size w w' := by
  unfold maxLen at hm
  have HX := Lib.hid hx
  have HS := Lib.hid hs
  clear hx hs
  generalize hz : left L (cs.length + sumBy ConD.size cs) = z
  have HZ := Lib.hid hz
  clear hz
  generalize hn : cs.length = n at *
  have HN := Lib.hid hn
  clear hn
  by_cases h0 : L < n
  · have HE : Hid (z = -1) := by unfold Hid; rw [← HZ.out]; exact left_no (by omega)
    go_enter Try.func62, Try.ntmps62
    go_wp2
    go_ret
    exact ⟨by rw [HE.out]; rfl, Below.refl _ _⟩
  · have hLn : (L : Int) - (n : Int) = ((L - n : Nat) : Int) := by omega
    have hln0 : n + (L - n) = L := by omega
    generalize L - n = M at *
    go_enter Try.func62, Try.ntmps62
    go_wp2
    go_loopw [1, 5] (fun l i wr => ∃ (k m : Nat), k ≤ n ∧ i = .int .i64 k ∧ l = .int .i64 m ∧ Hid (n + (m + sumBy ConD.size (cs.take k)) = L) ∧ Hid (Below w.heap.size w wr)) (fun _ i _ => n - (intOf i).toNat)
    case atStart => exact ⟨0, M, Nat.zero_le _, rfl, rfl, by unfold Hid; simp [sumBy]; omega, Below.refl _ _⟩
    case round =>
      obtain ⟨k, m, hk, rfl, rfl, hm2, hB⟩ := hrel
      have hmL : m ≤ 1048576 := by have := hm2.out; omega
      by_cases hlt : k < n
      · have hk' : k < cs.length := by rw [HN.out]; exact hlt
        obtain ⟨y, u, v, rfl, hc0, hc1, hr⟩ := row2_below con_below HX.out hB.out k hk'
        have H := szCon_any m hmL wr cs[k] u v hr (HS.out _ (List.getElem_mem hk'))
        have ht := sumBy_take ConD.size cs k hk'
        have hle := sumBy_take_le ConD.size cs (k + 1)
        generalize cs[k].size = s at *
        have HT := Lib.hid ht
        have HLE := Lib.hid hle
        clear hr ht hle
        by_cases hbad : s ≤ m
        · rw [left_yes hbad] at H
          have hq : s + (m - s) = m := by omega
          generalize m - s = q at *
          have HQ := Lib.hid hq
          clear hq
          go_wp2_with fail
          refine H.mono ?_
          rintro e w1 ⟨rfl, hb1⟩
          have HB1 : Hid (Below w.heap.size w w1) := hB.out.trans (hb1.mono hB.out.size)
          clear hb1 H
          go_wp2
          go_roundw
          case rel =>
            have := HT.out
            have := HQ.out
            have := hm2.out
            exact ⟨k + 1, q, by omega, by go_num, rfl, by unfold Hid; omega, HB1⟩
          case measure => simp [intOf]; omega
        · rw [left_no hbad] at H
          have HE : Hid (z = -1) := by
            have := HT.out
            have := HLE.out
            have := hm2.out
            unfold Hid
            rw [← HZ.out]
            exact left_no (by omega)
          clear hbad
          go_wp2_with fail
          refine H.mono ?_
          rintro e w1 ⟨rfl, hb1⟩
          have HB1 : Hid (Below w.heap.size w w1) := hB.out.trans (hb1.mono hB.out.size)
          clear hb1 H
          go_wp2
          go_ret
          exact ⟨by rw [HE.out]; rfl, HB1.out⟩
      · obtain rfl : k = n := by omega
        have HE : Hid (z = m) := by
          have e : cs.take k = cs := List.take_of_length_le (by rw [HN.out]; exact Nat.le_refl _)
          have h2 := hm2.out
          rw [e] at h2
          unfold Hid
          rw [← HZ.out, left_yes (by omega)]
          omega
        go_wp2
        go_ret
        exact ⟨by rw [HE.out]; rfl, hB.out⟩

set_option maxHeartbeats 1000000 in
set_option maxRecDepth 100000 in
theorem szTypeDecl_any (L : Nat) (hL : L ≤ 1048576) (w : World) (c : TypeD) (u v : Value) (hx : TypeAt w c u v) (hf : c.fits) :
    Calls Try.prog 48 #[.agg #[u, v], .int .i64 (L : Int)] w fun e w' => e = .returned (.int .i64 (left L c.size)) ∧ Below w.heap.size w w' := by
  obtain ⟨a, cap, rfl, rfl, hr⟩ := hx
  obtain ⟨h1, h2, h3⟩ := hf
  have H := fun M hM w hr => szConS_any M hM w a cap c.cons hr h2 h3
  have HR := Lib.hid hr
  clear hr h3
  unfold maxLen at h1 h2
  generalize hN : c.cons.length + sumBy ConD.size c.cons = N at H
  have hc : left L c.size = if c.name.size ≤ L then left (L - c.name.size) N else -1 := by unfold left TypeD.size; subst hN; split <;> split <;> (try split) <;> omega
  generalize left L c.size = z at hc ⊢
  clear hN
  by_cases hn : c.name.size ≤ L
  · rw [if_pos hn] at hc
    have H1 := H (L - c.name.size) (by omega)
    have hMb : L - c.name.size ≤ 1048576 := by omega
    clear H
    have hM2 : (L : Int) - (c.name.size : Int) = ((L - c.name.size : Nat) : Int) := by omega
    generalize L - c.name.size = M at *
    have HZ := Lib.hid hc
    have HL := Lib.hid hL
    clear hc hL
    have hb : Below w.heap.size w (w.alloc (.cells #[.string c.name, .slice a c.cons.length cap] 69)) := (Below.refl _ _).alloc (Nat.le_refl _) _
    have HB := Lib.hid hb
    clear hb
    by_cases hN : N ≤ M
    · rw [left_yes hN] at H1
      have HZ : Hid (z = ((M - N : Nat) : Int)) := by unfold Hid; rw [HZ.out, left_yes hN]
      have hqb : M - N ≤ 1048576 := by omega
      generalize M - N = q at *
      clear hN
      go_enter Try.func48, Try.ntmps48
      go_wp2_with fail
      refine (H1 _ (row2_below con_below HR.out HB.out)).mono ?_
      rintro e w1 ⟨rfl, hb1⟩
      have HB1 : Hid (Below w.heap.size w w1) := HB.out.trans (hb1.mono HB.out.size)
      clear hb1 H1
      go_wp2
      go_ret
      exact ⟨by rw [HZ.out]; rfl, HB1.out⟩
    · rw [left_no hN] at H1
      have HZ : Hid (z = -1) := by unfold Hid; rw [HZ.out, left_no hN]
      clear hN
      go_enter Try.func48, Try.ntmps48
      go_wp2_with fail
      refine (H1 _ (row2_below con_below HR.out HB.out)).mono ?_
      rintro e w1 ⟨rfl, hb1⟩
      have HB1 : Hid (Below w.heap.size w w1) := HB.out.trans (hb1.mono HB.out.size)
      clear hb1 H1
      go_wp2
      go_ret
      exact ⟨by rw [HZ.out]; rfl, HB1.out⟩
  · rw [if_neg hn] at hc
    subst hc
    have hM2 : (L : Int) - (c.name.size : Int) < 0 := by omega
    clear H
    have hb : Below w.heap.size w (w.alloc (.cells #[.string c.name, .slice a c.cons.length cap] 69)) := (Below.refl _ _).alloc (Nat.le_refl _) _
    have HB := Lib.hid hb
    clear hb
    go_enter Try.func48, Try.ntmps48
    go_wp2
    go_ret
    exact ⟨rfl, HB.out⟩

set_option maxHeartbeats 1000000 in
set_option maxRecDepth 100000 in
theorem szTypeDeclS_any (L : Nat) (hL : L ≤ 1048576) (w : World) (a : Option Addr) (cap : Nat) (cs : List TypeD) (hx : Row2 TypeAt w a cs) (hm : cs.length ≤ maxLen) (hs : ∀ c ∈ cs, c.fits) :
    Calls Try.prog 25 #[.slice a cs.length cap, .int .i64 (L : Int)] w fun e w' => e = .returned (.int .i64 (left L (cs.length + sumBy TypeD.size cs))) ∧ Below w.heap.size w w' := by
  unfold maxLen at hm
  have HX := Lib.hid hx
  have HS := Lib.hid hs
  clear hx hs
  generalize hz : left L (cs.length + sumBy TypeD.size cs) = z
  have HZ := Lib.hid hz
  clear hz
  generalize hn : cs.length = n at *
  have HN := Lib.hid hn
  clear hn
  by_cases h0 : L < n
  · have HE : Hid (z = -1) := by unfold Hid; rw [← HZ.out]; exact left_no (by omega)
    go_enter Try.func25, Try.ntmps25
    go_wp2
    go_ret
    exact ⟨by rw [HE.out]; rfl, Below.refl _ _⟩
  · have hLn : (L : Int) - (n : Int) = ((L - n : Nat) : Int) := by omega
    have hln0 : n + (L - n) = L := by omega
    generalize L - n = M at *
    go_enter Try.func25, Try.ntmps25
    go_wp2
    go_loopw [1, 5] (fun l i wr => ∃ (k m : Nat), k ≤ n ∧ i = .int .i64 k ∧ l = .int .i64 m ∧ Hid (n + (m + sumBy TypeD.size (cs.take k)) = L) ∧ Hid (Below w.heap.size w wr)) (fun _ i _ => n - (intOf i).toNat)
    case atStart => exact ⟨0, M, Nat.zero_le _, rfl, rfl, by unfold Hid; simp [sumBy]; omega, Below.refl _ _⟩
    case round =>
      obtain ⟨k, m, hk, rfl, rfl, hm2, hB⟩ := hrel
      have hmL : m ≤ 1048576 := by have := hm2.out; omega
      by_cases hlt : k < n
      · have hk' : k < cs.length := by rw [HN.out]; exact hlt
        obtain ⟨y, u, v, rfl, hc0, hc1, hr⟩ := row2_below type_below HX.out hB.out k hk'
        have H := szTypeDecl_any m hmL wr cs[k] u v hr (HS.out _ (List.getElem_mem hk'))
        have ht := sumBy_take TypeD.size cs k hk'
        have hle := sumBy_take_le TypeD.size cs (k + 1)
        generalize cs[k].size = s at *
        have HT := Lib.hid ht
        have HLE := Lib.hid hle
        clear hr ht hle
        by_cases hbad : s ≤ m
        · rw [left_yes hbad] at H
          have hq : s + (m - s) = m := by omega
          generalize m - s = q at *
          have HQ := Lib.hid hq
          clear hq
          go_wp2_with fail
          refine H.mono ?_
          rintro e w1 ⟨rfl, hb1⟩
          have HB1 : Hid (Below w.heap.size w w1) := hB.out.trans (hb1.mono hB.out.size)
          clear hb1 H
          go_wp2
          go_roundw
          case rel =>
            have := HT.out
            have := HQ.out
            have := hm2.out
            exact ⟨k + 1, q, by omega, by go_num, rfl, by unfold Hid; omega, HB1⟩
          case measure => simp [intOf]; omega
        · rw [left_no hbad] at H
          have HE : Hid (z = -1) := by
            have := HT.out
            have := HLE.out
            have := hm2.out
            unfold Hid
            rw [← HZ.out]
            exact left_no (by omega)
          clear hbad
          go_wp2_with fail
          refine H.mono ?_
          rintro e w1 ⟨rfl, hb1⟩
          have HB1 : Hid (Below w.heap.size w w1) := hB.out.trans (hb1.mono hB.out.size)
          clear hb1 H
          go_wp2
          go_ret
          exact ⟨by rw [HE.out]; rfl, HB1.out⟩
      · obtain rfl : k = n := by omega
        have HE : Hid (z = m) := by
          have e : cs.take k = cs := List.take_of_length_le (by rw [HN.out]; exact Nat.le_refl _)
          have h2 := hm2.out
          rw [e] at h2
          unfold Hid
          rw [← HZ.out, left_yes (by omega)]
          omega
        go_wp2
        go_ret
        exact ⟨by rw [HE.out]; rfl, hB.out⟩

set_option maxHeartbeats 1000000 in
set_option maxRecDepth 100000 in
theorem szSig_any (L : Nat) (hL : L ≤ 1048576) (w : World) (a : Option Addr) (cap : Nat) (s : List TypeD) (hx : Row2 TypeAt w a s) (hf : sigFits s) :
    Calls Try.prog 7 #[.agg #[.slice a s.length cap], .int .i64 (L : Int)] w fun e w' => e = .returned (.int .i64 (left L (sigSize s))) ∧ Below w.heap.size w w' := by
  have H := fun w hr => szTypeDeclS_any L hL w a cap s hr hf.1 hf.2
  have HX := Lib.hid hx
  clear hx hf
  have hb : Below w.heap.size w (w.alloc (.cells #[.slice a s.length cap] 24)) := (Below.refl _ _).alloc (Nat.le_refl _) _
  have HB := Lib.hid hb
  clear hb
  unfold sigSize
  generalize s.length + sumBy TypeD.size s = N at *
  by_cases hN : N ≤ L
  · rw [left_yes hN] at H ⊢
    generalize L - N = q at *
    clear hN
    go_enter Try.func7, Try.ntmps7
    go_wp2_with fail
    refine (H _ (row2_below type_below HX.out HB.out)).mono ?_
    rintro e w1 ⟨rfl, hb1⟩
    have HB1 : Hid (Below w.heap.size w w1) := HB.out.trans (hb1.mono HB.out.size)
    clear hb1 H
    go_wp2
    go_ret
    exact ⟨rfl, HB1.out⟩
  · rw [left_no hN] at H ⊢
    clear hN
    go_enter Try.func7, Try.ntmps7
    go_wp2_with fail
    refine (H _ (row2_below type_below HX.out HB.out)).mono ?_
    rintro e w1 ⟨rfl, hb1⟩
    have HB1 : Hid (Below w.heap.size w w1) := HB.out.trans (hb1.mono HB.out.size)
    clear hb1 H
    go_wp2
    go_ret
    exact ⟨rfl, HB1.out⟩
end Go.Proofs.Ytcmpaccpdjcocaa
