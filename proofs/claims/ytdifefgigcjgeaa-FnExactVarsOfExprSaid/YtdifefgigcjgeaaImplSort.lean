/- What is proved here: the program's SortNames gives the texts sorted, each once, in a block of its own; its AllDistinct says whether they are distinct. Condition: at most 1048576 texts, in a block of the call's own. -/
import Derived.Test.YtdifefgigcjgeaaSorted
import Derived.Test.YtdifefgigcjgeaaOwned
import Derived.Test.YtdifefgigcjgeaaShelf
import Derived.Sort.OwnSorted
import Derived.Sort.Grow
import Derived.Lib.OwnBridge
namespace Go.Proofs.Ytdifefgigcjgeaa
open Go.RowKit Go.Sort

theorem reads_cells {w : World} {g : Nat} {xs : List ByteArray} (hx : Reads w (some ⟨g, 0, none⟩) xs) : ∀ j, j < xs.length → w.cell? ⟨g, 0 + j, none⟩ = some (.string (xs.getD j ByteArray.empty)) := by
  intro j hj
  obtain ⟨y, hy, hc⟩ := hx j hj
  injection hy with hy
  subst hy
  have e1 : (⟨g, 0, none⟩ : Addr).add j = ⟨g, 0 + j, none⟩ := by simp [Addr.add]; intro h; omega
  rw [e1] at hc
  rw [hc, getD_at _ _ hj]

/-- Behind slices.Clone and slices.Sort. -/
theorem after_sort {B : Nat} {w w1 w2 : World} {g n cap nn : Nat} {os : Array Obj} {ss zs : List (List UInt8)} (hl : zs.length = ss.length) (hn : ss.length = n) (hown : w1.ownsRow B 9 1 (.slice (some ⟨g, 0, none⟩) n cap) n (ss.map encStr)) (hbel : Below B w w1) (hs : B ≤ w1.heap.size)
    (he : w2 = grow (putRow encStr (Sort.ahead w1 nn) g 0 zs.toArray) os) :
    w2.ownsRow B 9 1 (.slice (some ⟨g, 0, none⟩) n cap) n (zs.map encStr) ∧ Below B w w2 := by
  subst hn
  subst he
  rcases hown.2 with ⟨h0, _⟩ | ⟨g', cap', cur, hv, hbase, hb, h1, h2, h3, h4⟩
  · cases h0
  cases hv
  exact ⟨ownsRow_sorted (n := nn) (os := os) hl hbase hb h1 h2 h3, hbel.grown (grownBy_sorted _) hs (fun j hj => by cases hj; exact hbase)⟩

set_option maxHeartbeats 1000000 in
set_option maxRecDepth 100000 in
theorem impl_sort_big (w : World) (g cap : Nat) (xs : List ByteArray) (hx : Reads w (some ⟨g, 0, none⟩) xs) (hm : xs.length ≤ 1048577) :
    Calls Try.prog 52 #[.slice (some ⟨g, 0, none⟩) xs.length cap] w (OutTexts w (sorted xs)) := by
  have H := Try.slices_Clone_string g 0 xs.length cap xs w (Nat.le_refl _) (by omega) (reads_cells hx)
  rw [List.take_length] at H
  clear hx
  go_enter Try.func52, Try.ntmps52
  go_wp2_with fail
  refine H.mono ?_
  rintro e w1 ⟨v1, rfl, hown, hnn, hbel⟩
  rw [← Lib.map_encStr] at hown
  obtain ⟨g1, cap1, rfl, hbg, hgl, hncap, hcm, hlen, hH⟩ := Lib.holds_of_ownsRow hown hnn
  have hsort := Try.slices_Sort_string g1 0 cap1 (xs.map key) w1 hH hgl (by rw [hlen]; omega)
  rw [hlen] at hsort
  have HO := Lib.hid hown
  have HL := Lib.hid hlen
  have HB := Lib.hid hbel
  clear hown hlen hH hbel hnn H
  have hkey := sorted_key xs
  have hzl := List.length_mergeSort (le := fun x y : List UInt8 => decide (x ≤ y)) (xs.map key)
  generalize (xs.map key).mergeSort (fun x y => decide (x ≤ y)) = zs at hsort hkey hzl
  have HK := Lib.hid hkey
  have HZ := Lib.hid hzl
  clear hkey hzl
  go_wp2_with fail
  refine hsort.mono ?_
  rintro e w2 ⟨rfl, nn, os, he⟩
  obtain ⟨hown2, hB2⟩ := after_sort HZ.out HL.out HO.out HB.out HB.out.size he
  have hz : zs.length = xs.length := HZ.out.trans HL.out
  obtain ⟨_, _, hv2, _, _, _, _, _, hH2⟩ := Lib.holds_of_ownsRow hown2 (by simp)
  cases hv2
  have hcomp := Try.slices_Compact_string g1 0 cap1 zs w2 hH2 (by omega) (by omega)
  rw [hz] at hcomp
  have HO2 := Lib.hid hown2
  have HB2 := Lib.hid hB2
  have HZ2 := Lib.hid hz
  clear hown2 hB2 hz hH2 he hsort
  have hle := Lib.compact_length_le zs
  have hcl : (Lib.compact zs).length = (sorted xs).length := by rw [← HK.out, List.length_map]
  rw [hcl] at hcomp
  have HC := Lib.hid hcl
  have HE := Lib.hid hle
  clear hcl hle
  go_wp2_with fail
  refine hcomp.mono ?_
  rintro e w3 ⟨rfl, q, he⟩
  have hc := Lib.ownsRow_putRow (q := q) (k := (sorted xs).length) (ys := Lib.compact zs ++ List.replicate (xs.length - (sorted xs).length) []) HO2.out (by have := HZ2.out; have := HC.out; have := HE.out; simp; omega) (by have := HZ2.out; have := HC.out; have := HE.out; omega)
  rw [← HC.out, List.take_left, HC.out, ← HK.out, Lib.map_encStr, HK.out, ← he] at hc
  have hB3 : Below w.heap.size w w3 := by rw [he]; exact Lib.below_putRow HB2.out hbg
  obtain ⟨g3, cap3, rest, hv3, hg3, hblk, _⟩ := block_of_owned hc (by simp)
  cases hv3
  have HBL := Lib.hid hblk
  clear hc hcomp he hblk
  go_wp2
  go_ret
  exact ⟨g1, cap1, rest, hbg, rfl, HBL.out, hB3⟩

theorem impl_sort (w : World) (g cap : Nat) (xs : List ByteArray) (hx : Reads w (some ⟨g, 0, none⟩) xs) (hm : xs.length ≤ 1048576) :
    Calls Try.prog 52 #[.slice (some ⟨g, 0, none⟩) xs.length cap] w (OutTexts w (sorted xs)) := impl_sort_big w g cap xs hx (by omega)

end Go.Proofs.Ytdifefgigcjgeaa
