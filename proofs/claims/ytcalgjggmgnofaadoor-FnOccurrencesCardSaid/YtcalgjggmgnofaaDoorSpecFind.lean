/- What is proved here: the model's FindType and IsType (package spec) find the first declaration, and copy it. Condition: the signature lies in memory as said, and is small. -/
import Derived.Test.YtcalgjggmgnofaaDoorSpecType
import Derived.Test.YtcalgjggmgnofaaDoorFind
import Derived.Laws.ResultCell
namespace Go.Proofs.YtcalgjggmgnofaaDoor
open Go.RowKit

/-- What FindType hands back: a copy of the first declaration and true, or the zero TypeDecl and false. -/
def Found (w : World) (s : List TypeD) (nm : ByteArray) (e : Ending) (w' : World) : Prop :=
  Below w.heap.size w w' ∧ ((∃ x u v, theType s nm = some x ∧ e = .returned (.tuple #[.agg #[u, v], .bool true]) ∧ OwnType (Came w w') w' x u v) ∨ (theType s nm = none ∧ e = .returned (.tuple #[.agg #[.string ⟨#[]⟩, .slice none 0 0], .bool false])))

set_option maxHeartbeats 1000000 in
set_option maxRecDepth 100000 in
theorem spec_findType (w : World) (a : Option Addr) (cap : Nat) (s : List TypeD) (nm : ByteArray) (hx : Row2 TypeAt w a s) (hm : s.length ≤ 1048576) (hs : ∀ c ∈ s, c.cons.length ≤ 1048576 ∧ ∀ d ∈ c.cons, d.args.length ≤ 1048576) :
    Calls Tryd.prog 80 #[.agg #[.slice a s.length cap], .string nm] w (Found w s nm) := by
  have HX := Lib.hid hx
  have HS := Lib.hid hs
  clear hx hs
  obtain ⟨w2, h2⟩ : ∃ w2, w2 = (w.alloc (.cells #[.slice a s.length cap] 113)).alloc (.cells #[.string ⟨#[]⟩, .slice none 0 0] 108) := ⟨_, rfl⟩
  have s1 : (w.alloc (.cells #[.slice a s.length cap] 113)).heap.size = w.heap.size + 1 := Array.size_push _
  have hB : Below w.heap.size w w2 := by rw [h2]; exact ((Below.refl _ _).alloc (Nat.le_refl _) _).alloc (by omega) _
  have hp0 : w2.heap[w.heap.size]? = some (.cells #[.slice a s.length cap] 113 (0, 0)) := by
    rw [h2, Below.heap_alloc _ _ _ (by omega)]
    exact heap_at_new w _
  have hp1 : w2.heap[w.heap.size + 1]? = some (.cells #[.string ⟨#[]⟩, .slice none 0 0] 108 (0, 0)) := by
    rw [h2, ← s1]
    exact heap_at_new _ _
  have H2 := Lib.hid h2
  have HB := Lib.hid hB
  have HP1 := Lib.hid hp1
  obtain ⟨q0, _⟩ := one_cell hp0
  obtain ⟨p1, p2, p3, p4⟩ := two_cells hp1
  have hw2 : w2.heap.size = w.heap.size + 1 + 1 := by rw [h2, ← s1]; exact Array.size_push _
  have HW2 := Lib.hid hw2
  clear h2 hB hp0 hp1 s1 hw2
  generalize hn : s.length = n at *
  have HN := Lib.hid hn
  clear hn
  go_enter Tryd.func80, Tryd.ntmps80
  go_wp2
  rw [← H2.out]
  go_loop [6] (fun i => ∃ (k : Nat), k ≤ n ∧ i = .int .i64 k ∧ Hid (∀ (j : Nat) y, j < k → s[j]? = some y → TypeD.named nm y = false)) (fun i => n - (intOf i).toNat)
  case atStart => exact ⟨0, Nat.zero_le _, rfl, fun j _ h => by omega⟩
  case round =>
    obtain ⟨k, hk, rfl, hne⟩ := hrel
    by_cases hlt : k < n
    · have hk' : k < s.length := by rw [HN.out]; exact hlt
      obtain ⟨y, u1, v1, rfl, hc0, hc1, hr1⟩ := row2_below type_below HX.out HB.out k hk'
      have hltz : (k : Int) < (n : Int) := by omega
      have hx : s[k]? = some s[k] := List.getElem?_eq_getElem hk'
      have hq := HS.out _ (List.getElem_mem hk')
      generalize s[k] = x at hx hr1 hq
      have HXE := Lib.hid hx
      clear hx
      have H := l3Type_any w2 x u1 v1 hr1 hq.1 hq.2
      obtain ⟨ta, tc, hu, hv, _⟩ := hr1
      subst hu
      subst hv
      by_cases he : (x.name.toList == nm.toList) = true
      · go_wp2_with fail
        refine H.mono ?_
        rintro e w3 ⟨⟨u2, v2, rfl, ho⟩, hb3⟩
        have ho2 := ho
        obtain ⟨rfl, a2, cap2, rfl, _⟩ := ho2
        have hr3 := (hb3.block (w.heap.size + 1) (by have := HW2.out; omega)).trans HP1.out
        have HR3 := Lib.hid hr3
        obtain ⟨r1, r2, r3, r4⟩ := two_cells hr3
        have HO := Lib.hid ho
        have HB3 : Hid (Below w.heap.size w w3) := HB.out.trans (hb3.mono HB.out.size)
        have HT : Hid (theType s nm = some x) := find_at _ _ k x HXE.out he hne.out
        clear hr3 ho hb3 H he
        go_wp2
        refine bodyPost_ret (results_row_tmp rfl _ _ (w.heap.size + 1) _ _ _ _ rfl (two_set (two_set HR3.out _).1 _).2 Tryd.underlying108 rfl (by kernel_rfl)) rfl ?_
        refine ⟨(HB3.out.setCell (by show _ ≤ w.heap.size + 1; omega) _).setCell (by show _ ≤ w.heap.size + 1; omega) _, .inl ⟨x, _, _, HT.out, rfl, rfl, (HO.out.2.keep keeps_con ?_).wider ?_⟩⟩
        · rintro b ⟨hb1, _⟩
          have := HW2.out
          rw [Below.heap_setCell _ _ _ _ (by show b ≠ w.heap.size + 1; omega), Below.heap_setCell _ _ _ _ (by show b ≠ w.heap.size + 1; omega)]
        · rintro b ⟨hb1, hb2⟩
          have := HW2.out
          exact ⟨by omega, by simpa [World.setCell] using hb2⟩
      · have he2 : (x.name.toList == nm.toList) = false := by simpa using he
        clear he H
        go_wp2
        go_round
        case rel =>
          refine ⟨k + 1, by omega, by go_num, fun j z hj hz => ?_⟩
          rcases Nat.lt_or_ge j k with h3 | h3
          · exact hne.out j z h3 hz
          · obtain rfl : j = k := by omega
            have := HXE.out
            rw [this] at hz
            obtain rfl := Option.some.inj hz
            exact he2
        case measure => simp [intOf]; omega
    · have HT : Hid (theType s nm = none) := find_no _ _ (fun j z hz => hne.out j z (by have := (List.getElem?_eq_some_iff.1 hz).1; have := HN.out; omega) hz)
      go_wp2
      refine bodyPost_ret (results_row_tmp rfl _ _ (w.heap.size + 1) _ _ _ _ rfl (two_set (two_set HP1.out _).1 _).2 Tryd.underlying108 rfl (by kernel_rfl)) rfl ?_
      exact ⟨(HB.out.setCell (by show _ ≤ w.heap.size + 1; omega) _).setCell (by show _ ≤ w.heap.size + 1; omega) _, .inr ⟨HT.out, rfl⟩⟩
end Go.Proofs.YtcalgjggmgnofaaDoor
