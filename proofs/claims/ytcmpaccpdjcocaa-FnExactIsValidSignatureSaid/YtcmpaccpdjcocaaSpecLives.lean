/- What is proved here: the model's l3Lives and l3Round (package spec): one round adds names of types that have values, and where it adds none the list is closed. Condition: the signature lies in memory as said, and is small. -/
import Derived.Test.YtcmpaccpdjcocaaInhab
namespace Go.Proofs.Ytcmpaccpdjcocaa
open Go.RowKit

/-- What a row of texts of the call's own holds reads. -/
theorem owned_reads {w : World} {B : Nat} {v : Value} {n : Nat} {xs : List ByteArray} (h : w.ownsRow B 9 1 v n (xs.map Value.string)) : n = xs.length ∧ ∃ a cap, v = .slice a xs.length cap ∧ Reads w a xs := by
  have hl : n = xs.length := by simpa using h.1.symm
  refine ⟨hl, ?_⟩
  subst hl
  rcases h.2 with ⟨e1, e2⟩ | ⟨g, cap, cur, rfl, _⟩
  · have e3 : xs = [] := List.eq_nil_of_length_eq_zero e2
    subst e3
    exact ⟨none, 0, e1, fun j hj => absurd hj (by simp)⟩
  · obtain ⟨g2, cap2, rest, hv, _, hb, _⟩ := block_of_owned h (by intro e; cases e)
    injection hv with h1 h2 h3
    injection h1 with h1
    injection h1 with h1
    subst h1
    exact ⟨_, _, rfl, hb.reads⟩

theorem basic_cases (x : ByteArray) : (isBasic x = true ∧ (x.toList == [105, 110, 116]) = true) ∨ (isBasic x = true ∧ (x.toList == [105, 110, 116]) = false ∧ (x.toList == [116, 101, 120, 116]) = true) ∨ (isBasic x = false ∧ (x.toList == [105, 110, 116]) = false ∧ (x.toList == [116, 101, 120, 116]) = false) := by
  unfold isBasic
  cases (x.toList == [105, 110, 116]) <;> cases (x.toList == [116, 101, 120, 116]) <;> simp

set_option maxHeartbeats 1000000 in
set_option maxRecDepth 100000 in
theorem spec_lives (w : World) (c : ConD) (u v : Value) (a : Option Addr) (cap : Nat) (xs : List ByteArray) (hx : ConAt w c u v) (hm : c.args.length ≤ 1048576) (hl : Reads w a xs) (hml : xs.length ≤ 1048576) :
    Calls Try.prog 67 #[.agg #[u, v], .slice a xs.length cap] w fun e w' => e = .returned (.bool (bl (conOk (· ∈ xs) c))) ∧ Below w.heap.size w w' := by
  obtain ⟨a2, cap2, rfl, rfl, hr⟩ := hx
  obtain ⟨w2, h2⟩ : ∃ w2, w2 = w.alloc (.cells #[.string c.name, .slice a2 c.args.length cap2] 42) := ⟨_, rfl⟩
  have hB : Below w.heap.size w w2 := by rw [h2]; exact (Below.refl _ _).alloc (Nat.le_refl _) _
  have hp0 : w2.heap[w.heap.size]? = some (.cells #[.string c.name, .slice a2 c.args.length cap2] 42 (0, 0)) := by rw [h2]; exact heap_at_new w _
  obtain ⟨_, q0, _, _⟩ := two_cells hp0
  have HR := Lib.hid (reads_below hr hB)
  have HI := fun x => spec_index w2 a cap xs x (reads_below hl hB) (by unfold maxLen; omega)
  have HB := Lib.hid hB
  have H2 := Lib.hid h2
  clear hr hB hp0 hl h2
  generalize hn : c.args.length = n at *
  have HN := Lib.hid hn
  clear hn
  go_enter Try.func67, Try.ntmps67
  go_wp2
  rw [← H2.out]
  go_loop [5] (fun i => ∃ (k : Nat), k ≤ n ∧ i = .int .i64 k ∧ Hid (∀ (j : Nat) y, j < k → c.args[j]? = some y → argOk (· ∈ xs) y)) (fun i => n - (intOf i).toNat)
  case atStart => exact ⟨0, Nat.zero_le _, rfl, fun j _ h => by omega⟩
  case round =>
    obtain ⟨k, hk, rfl, hne⟩ := hrel
    by_cases hlt : k < n
    · have hk' : k < c.args.length := by rw [HN.out]; exact hlt
      obtain ⟨y, rfl, hc⟩ := HR.out k hk'
      have hltz : (k : Int) < (n : Int) := by omega
      have hx : c.args[k]? = some c.args[k] := List.getElem?_eq_getElem hk'
      generalize c.args[k] = x at hx hc
      have HXE := Lib.hid hx
      clear hx
      rcases basic_cases x with ⟨hb, h1⟩ | ⟨hb, h1, h3⟩ | ⟨hb, h1, h3⟩
      · have HA : Hid (argOk (· ∈ xs) x) := .inl hb
        clear hb
        go_wp2
        go_round
        case rel => exact ⟨k + 1, by omega, by go_num, before_succ' hne.out HXE.out HA.out⟩
        case measure => simp [intOf]; omega
      · have HA : Hid (argOk (· ∈ xs) x) := .inl hb
        clear hb
        go_wp2
        go_round
        case rel => exact ⟨k + 1, by omega, by go_num, before_succ' hne.out HXE.out HA.out⟩
        case measure => simp [intOf]; omega
      · have H := HI x
        have hmem := idx_mem xs x
        have hlo := idx_lo xs x
        by_cases hz : Lib.idxOfS xs x < 0
        · have HRES : Hid (bl (conOk (· ∈ xs) c) = false) := bl_false (fun h => by
            obtain ⟨h4, h5⟩ := List.getElem?_eq_some_iff.1 HXE.out
            rcases h x (h5 ▸ List.getElem_mem h4) with h6 | h6
            · rw [hb] at h6; cases h6
            · exact (hmem.1 hz) h6)
          have hz' : decide (Lib.idxOfS xs x < 0) = true := decide_eq_true hz
          clear hmem hz hb
          generalize Lib.idxOfS xs x = z at *
          go_wp2_with fail
          refine H.mono ?_
          rintro e w1 ⟨rfl, rfl⟩
          go_wp2
          go_ret
          exact ⟨by rw [HRES.out]; rfl, HB.out⟩
        · have HA : Hid (argOk (· ∈ xs) x) := .inr (Classical.not_not.1 (fun h => hz (hmem.2 h)))
          have hz' : decide (Lib.idxOfS xs x < 0) = false := decide_eq_false hz
          clear hmem hz hb
          generalize Lib.idxOfS xs x = z at *
          go_wp2_with fail
          refine H.mono ?_
          rintro e w1 ⟨rfl, rfl⟩
          go_wp2
          go_round
          case rel => exact ⟨k + 1, by omega, by go_num, before_succ' hne.out HXE.out HA.out⟩
          case measure => simp [intOf]; omega
    · have HRES : Hid (bl (conOk (· ∈ xs) c) = true) := bl_true (fun x hx => by
        obtain ⟨j, hj, e⟩ := List.mem_iff_getElem.1 hx
        exact hne.out j x (by have := HN.out; omega) (by rw [List.getElem?_eq_getElem hj, e]))
      go_wp2
      go_ret
      exact ⟨by rw [HRES.out]; rfl, HB.out⟩
end Go.Proofs.Ytcmpaccpdjcocaa
