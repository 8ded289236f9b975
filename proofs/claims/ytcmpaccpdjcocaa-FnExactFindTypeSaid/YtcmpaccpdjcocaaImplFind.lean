/- What is proved here: the program's FindType finds the first declaration, and copies it. Condition: the signature lies in memory as said, and is small. -/
import Derived.Test.YtcmpaccpdjcocaaImplCopyType
import Derived.Test.YtcmpaccpdjcocaaSpecFind
namespace Go.Proofs.Ytcmpaccpdjcocaa
open Go.RowKit

set_option maxHeartbeats 1000000 in
set_option maxRecDepth 100000 in
theorem impl_findType (F : Nat → Prop) (w : World) (a : Option Addr) (cap : Nat) (s : List TypeD) (nm : ByteArray) (hO : OwnSig F w (.slice a s.length cap) s) (hF : ∀ b, F b → b < w.heap.size) (hm : s.length ≤ 1048576) (hs : ∀ c ∈ s, c.cons.length ≤ 1048576 ∧ ∀ d ∈ c.cons, d.args.length ≤ 1048576) :
    Calls Try.prog 10 #[.agg #[.slice a s.length cap], .string nm] w (Found w s nm) := by
  have HO := Lib.hid hO
  have HF := Lib.hid hF
  have HS := Lib.hid hs
  clear hO hs hF
  obtain ⟨w2, h2⟩ : ∃ w2, w2 = (w.alloc (.cells #[.slice a s.length cap] 33)).alloc (.cells #[.string ⟨#[]⟩, .slice none 0 0] 28) := ⟨_, rfl⟩
  have h := two_alloc w (.cells #[.slice a s.length cap] 33) (.cells #[.string ⟨#[]⟩, .slice none 0 0] 28)
  rw [← h2] at h
  obtain ⟨hsz, hp0, hp1, hB⟩ := h
  have H2 := Lib.hid h2
  have HB := Lib.hid hB
  have HP1 := Lib.hid hp1
  have HSZ := Lib.hid hsz
  clear h2 hB hp0 hp1 hsz
  generalize hn : s.length = n at *
  have HN := Lib.hid hn
  clear hn
  go_enter Try.func10, Try.ntmps10
  go_wp2
  rw [← H2.out]
  go_loopw [11] (fun i wr => ∃ (k : Nat), k ≤ n ∧ i = .int .i64 k ∧ Hid (Below w2.heap.size w2 wr) ∧ Hid (∀ (j : Nat) y, j < k → s[j]? = some y → TypeD.named nm y = false)) (fun i _ => n - (intOf i).toNat)
  case atStart => exact ⟨0, Nat.zero_le _, rfl, Below.refl _ _, fun j _ h => by omega⟩
  case round =>
    obtain ⟨k, hk, rfl, hBR, hne⟩ := hrel
    have HBW : Hid (Below w.heap.size w wr) := HB.out.trans (hBR.out.mono HB.out.size)
    have hr1 := (hBR.out.block (w.heap.size + 1) (by have := HSZ.out; omega)).trans HP1.out
    have HR1 := Lib.hid hr1
    by_cases hlt : k < n
    · have hk' : k < s.length := by rw [HN.out]; exact hlt
      have hx : s[k]? = some s[k] := List.getElem?_eq_getElem hk'
      have hq := HS.out _ (List.getElem_mem hk')
      generalize s[k] = x at hx hq
      have hO4 : OwnSig F wr (.slice a n cap) s := HO.out.keep keeps_type (fun b hb => HBW.out.block b (HF.out b hb))
      obtain ⟨y, G, u1, v1, rfl, hc0, hc1, hE, hGF⟩ := Own2.part hO4 hx
      have hE2 := hE
      obtain ⟨rfl, a1, cap1, rfl, _⟩ := hE2
      have HXE := Lib.hid hx
      have hltz : (k : Int) < (n : Int) := by omega
      have hbA : Below wr.heap.size wr (wr.alloc (.cells #[.string x.name, .slice a1 x.cons.length cap1] 28)) := (Below.refl _ _).alloc (Nat.le_refl _) _
      have H := copyType_any G (wr.alloc (.cells #[.string x.name, .slice a1 x.cons.length cap1] 28)) x _ _ (keeps_type _ _ _ _ _ _ hE (fun b hb => hbA.block b (Nat.lt_of_lt_of_le (HF.out b (hGF b hb)) HBW.out.size))) (fun b hb => Nat.lt_of_lt_of_le (HF.out b (hGF b hb)) (Nat.le_trans HBW.out.size hbA.size)) hq.1 hq.2
      have HBA := Lib.hid hbA
      clear hx hO4 hE hGF hbA hr1
      by_cases he : (x.name.toList == nm.toList) = true
      · have HT : Hid (theType s nm = some x) := find_at _ _ k x HXE.out he hne.out
        go_wp2_with fail
        refine H.mono ?_
        rintro e w3 ⟨⟨u2, v2, rfl, ho⟩, hb3⟩
        have ho2 := ho
        obtain ⟨rfl, a2, cap2, rfl, _⟩ := ho2
        have hlt1 : w.heap.size + 1 < wr.heap.size := by have := HSZ.out; have := hBR.out.size; omega
        have hr3 := (hb3.block (w.heap.size + 1) (Nat.lt_of_lt_of_le hlt1 HBA.out.size)).trans ((HBA.out.block _ hlt1).trans HR1.out)
        have HR3 := Lib.hid hr3
        obtain ⟨r1, r2, r3, r4⟩ := two_cells hr3
        have HOO := Lib.hid ho
        have HB4 : Hid (Below w.heap.size w w3) := (HBW.out.trans (HBA.out.mono HBW.out.size)).trans (hb3.mono (Nat.le_trans HBW.out.size HBA.out.size))
        have HLW : Hid (w.heap.size + 1 < (wr.alloc (.cells #[.string x.name, .slice a1 x.cons.length cap1] 28)).heap.size) := Nat.lt_of_lt_of_le hlt1 HBA.out.size
        clear hr3 ho hb3 H he hlt1
        go_wp2
        refine bodyPost_ret (results_row_tmp rfl _ _ (w.heap.size + 1) _ _ _ _ rfl (two_set (two_set HR3.out _).1 _).2 Try.underlying28 rfl (by kernel_rfl)) rfl ?_
        refine ⟨(HB4.out.setCell (by show _ ≤ w.heap.size + 1; omega) _).setCell (by show _ ≤ w.heap.size + 1; omega) _, .inl ⟨x, _, _, HT.out, rfl, rfl, (HOO.out.2.keep keeps_con ?_).wider ?_⟩⟩
        · rintro b ⟨hb1, _⟩
          have := HLW.out
          rw [Below.heap_setCell _ _ _ _ (by show b ≠ w.heap.size + 1; omega), Below.heap_setCell _ _ _ _ (by show b ≠ w.heap.size + 1; omega)]
        · rintro b ⟨hb1, hb2⟩
          have := HLW.out
          exact ⟨by omega, by simpa [World.setCell] using hb2⟩
      · have he2 : (x.name.toList == nm.toList) = false := by simpa using he
        have HBN : Hid (Below w2.heap.size w2 (wr.alloc (.cells #[.string x.name, .slice a1 x.cons.length cap1] 28))) := hBR.out.trans (HBA.out.mono hBR.out.size)
        clear he H
        go_wp2
        go_roundw
        case rel =>
          refine ⟨k + 1, by omega, by go_num, HBN, fun j z hj hz => ?_⟩
          rcases Nat.lt_or_ge j k with h3 | h3
          · exact hne.out j z h3 hz
          · obtain rfl : j = k := by omega
            have := HXE.out
            rw [this] at hz
            obtain rfl := Option.some.inj hz
            exact he2
        case measure => simp [intOf]; omega
    · have HT : Hid (theType s nm = none) := find_no _ _ (fun j z hz => hne.out j z (by have := (List.getElem?_eq_some_iff.1 hz).1; have := HN.out; omega) hz)
      obtain ⟨r1, r2, r3, r4⟩ := two_cells hr1
      clear hr1
      go_wp2
      refine bodyPost_ret (results_row_tmp rfl _ _ (w.heap.size + 1) _ _ _ _ rfl (two_set (two_set HR1.out _).1 _).2 Try.underlying28 rfl (by kernel_rfl)) rfl ?_
      exact ⟨(HBW.out.setCell (by show _ ≤ w.heap.size + 1; omega) _).setCell (by show _ ≤ w.heap.size + 1; omega) _, .inr ⟨HT.out, rfl⟩⟩
end Go.Proofs.Ytcmpaccpdjcocaa
