/- What is proved here: the model's l1Read (package spec) accepts exactly the numerals of the integers of at most 'most' digits. Condition: 'most' is at most 12. -/
import Derived.Test.YtcidmanlijeomaaDoorFormat
import Derived.Test.YtcidmanlijeomaaDoorParse
import Derived.Deep.QuietTactic
import Derived.BigQuiet
namespace Go.Proofs.YtcidmanlijeomaaDoor
open Go.RowKit

/-- What the reader returns. -/
def readEnd (o : Option Int) : Ending :=
  match o with
  | some n => .returned (.tuple #[.int .i64 n, .bool true])
  | none => .returned (.tuple #[.int .i64 0, .bool false])

theorem take_snoc (s : ByteArray) (k : Nat) (h : k < s.size) : s.data.toList.take (k + 1) = s.data.toList.take k ++ [s[k]] := by
  rw [List.take_succ_eq_append_getElem (by simpa using h)]; rfl

theorem mem_at (s : ByteArray) (k : Nat) (h : k < s.size) : s[k] ∈ s.data.toList := by
  have := take_snoc s k h
  exact List.mem_of_mem_take (i := k + 1) (by rw [this]; simp)

theorem spec_read_empty (s : ByteArray) (most : Nat) (h0 : s.size = 0) (w : World) :
    Calls Tryd.prog 33 #[.string s, .int .i64 most] w fun e w' => e = readEnd none ∧ Below w.heap.size w w' := by
  obtain rfl : s = ByteArray.empty := by
    cases s with | mk d => cases d with | mk l => cases l with | nil => rfl | cons c r => simp [ByteArray.size] at h0
  go_enter Tryd.func33, Tryd.ntmps33
  go_wp2
  go_ret2
  exact ⟨rfl, Below.refl _ _⟩

set_option maxHeartbeats 1000000 in
set_option maxRecDepth 100000 in
theorem spec_read_plain (s : ByteArray) (most : Nat) (hm : most ≤ 12) (hm1 : 1 ≤ most) (hs : s.size ≤ maxLen) (h0 : 0 < s.size) (h45 : ¬ s[0].toNat = 45) (w : World) :
    Calls Tryd.prog 33 #[.string s, .int .i64 most] w fun e w' => e = readEnd (specRead most s.data.toList) ∧ Below w.heap.size w w' := by
  unfold maxLen at hs
  have hh : ¬ s.data.toList.head? = some 45 := by
    intro h
    apply h45
    have e : s.data.toList = s[0] :: s.data.toList.tail := by
      have := take_snoc s 0 h0
      cases hl : s.data.toList with
      | nil => simp [hl] at this
      | cons c r => rw [hl] at this; simp at this; rw [this]; rfl
    rw [e] at h
    simp at h
    rw [h]
    rfl
  have hsz : s.data.toList.length = s.size := rfl
  have HH := Lib.hid hh
  have HZ := Lib.hid hsz
  clear hh hsz
  by_cases hlen : most < s.size
  · have hR : specRead most s.data.toList = none := specRead_none_len (by rw [behind_plain HH.out, HZ.out]; exact hlen)
    rw [hR]
    go_enter Tryd.func33, Tryd.ntmps33
    go_wp2
    go_ret2
    exact ⟨rfl, Below.refl _ _⟩
  · go_enter Tryd.func33, Tryd.ntmps33
    go_wp2
    go_loop [8, 9] (fun n i => ∃ k : Nat, k ≤ s.size ∧ i = .int .i64 k ∧ n = .int .i64 (digVal 0 (s.data.toList.take k) : Nat) ∧ ∀ c ∈ s.data.toList.take k, isDig c) (fun _ i => s.size - (intOf i).toNat)
    case atStart => exact ⟨0, Nat.zero_le _, rfl, by rw [List.take_zero, digVal_nil]; rfl, by simp⟩
    case round =>
      obtain ⟨k, hk, rfl, rfl, hd⟩ := hrel
      have hv := digVal_lt_pow (s.data.toList.take k) 12 hd (by simp; omega)
      have HD := Lib.hid hd
      clear hd
      by_cases hlt : k < s.size
      · by_cases hc1 : s[k].toNat < 48
        · have hR : specRead most s.data.toList = none := specRead_none_dig (c := s[k]) (by rw [behind_plain HH.out]; exact mem_at s k hlt) (by unfold isDig; omega)
          have HR := Lib.hid hR
          clear hR
          go_wp2
          go_ret2
          exact ⟨by rw [HR.out]; rfl, Below.refl _ _⟩
        · by_cases hc2 : 57 < s[k].toNat
          · have hR : specRead most s.data.toList = none := specRead_none_dig (c := s[k]) (by rw [behind_plain HH.out]; exact mem_at s k hlt) (by unfold isDig; omega)
            have HR := Lib.hid hR
            clear hR
            go_wp2
            go_ret2
            exact ⟨by rw [HR.out]; rfl, Below.refl _ _⟩
          · have hsn := take_snoc s k hlt
            have hds := digVal_snoc (s.data.toList.take k) s[k]
            have HS : Hid (digVal 0 (s.data.toList.take (k + 1)) = 10 * digVal 0 (s.data.toList.take k) + (s[k].toNat - 48)) := by rw [hsn]; exact hds
            clear hsn hds
            go_wp2
            go_round
            case rel => 
              refine ⟨k + 1, by omega, by go_num, ?_, ?_⟩
              · rw [HS.out]
                go_num
              · rw [take_snoc s k hlt]
                intro c hc
                rcases List.mem_append.1 hc with hc | hc
                · exact HD.out c hc
                · simp at hc
                  subst hc
                  unfold isDig
                  omega
            case measure => simp [intOf]; omega
      · obtain rfl : k = s.size := by omega
        have htk : s.data.toList.take s.size = s.data.toList := List.take_of_length_le (Nat.le_refl _)
        rw [htk] at hv
        rw [htk]
        go_wp2_with fail
        refine (spec_format _ (by omega) (by omega) _).mono ?_
        rintro e w1 ⟨rfl, hb1⟩
        by_cases heq : Lib.itoa (digVal 0 s.data.toList : Nat) = s.data.toList
        · have h1 : (Lib.itoa (digVal 0 s.data.toList : Nat) == s.toList) = true := by rw [ByteArray.toList_eq, heq]; simp
          have HE := Lib.hid heq
          clear heq
          go_wp2
          go_ret2
          refine ⟨?_, hb1⟩
          have hd := HD.out
          rw [htk] at hd
          rw [specRead_some (by rw [behind_plain HH.out, HZ.out]; omega) (by rw [behind_plain HH.out, HZ.out]; omega) (by rw [behind_plain HH.out]; exact hd) (by rw [behind_plain HH.out, signed_plain HH.out]; exact HE.out), behind_plain HH.out, signed_plain HH.out]
          rfl
        · have h1 : (Lib.itoa (digVal 0 s.data.toList : Nat) == s.toList) = false := by rw [ByteArray.toList_eq]; simpa using heq
          have HE := Lib.hid heq
          clear heq
          go_wp2
          go_ret2
          refine ⟨?_, hb1⟩
          rw [specRead_none_ne (by rw [behind_plain HH.out, signed_plain HH.out]; exact HE.out)]
          rfl
theorem tail_facts (s : ByteArray) (h0 : 0 < s.size) (h45 : s[0].toNat = 45) : s.data.toList.head? = some 45 ∧ (s.extract 1 s.size).data.toList = s.data.toList.tail ∧ (s.extract 1 s.size).size = s.size - 1 := by
  have e : s.data.toList = s[0] :: s.data.toList.tail := by
    have := take_snoc s 0 h0
    cases hl : s.data.toList with
    | nil => simp [hl] at this
    | cons c r => rw [hl] at this; simp at this; rw [this]; rfl
  have e45 : s[0] = 45 := by
    apply UInt8.toNat_inj.1
    rw [h45]; rfl
  have e2 : (s.extract 1 s.size).data.toList = s.data.toList.tail := by
    rw [ByteArray.data_extract, Array.toList_extract, List.extract_eq_take_drop]
    have : s.data.toList.length = s.size := rfl
    rw [List.take_of_length_le (by simp), List.drop_one]
  refine ⟨by rw [e, e45]; rfl, e2, ?_⟩
  have h1 : (s.extract 1 s.size).size = (s.extract 1 s.size).data.toList.length := rfl
  rw [h1, e2, List.length_tail]
  rfl

set_option maxHeartbeats 1000000 in
set_option maxRecDepth 100000 in
theorem spec_read_minus (s : ByteArray) (most : Nat) (hm : most ≤ 12) (hm1 : 1 ≤ most) (hs : s.size ≤ maxLen) (h0 : 0 < s.size) (h45 : s[0].toNat = 45) (w : World) :
    Calls Tryd.prog 33 #[.string s, .int .i64 most] w fun e w' => e = readEnd (specRead most s.data.toList) ∧ Below w.heap.size w w' := by
  unfold maxLen at hs
  obtain ⟨hh, htl, htz⟩ := tail_facts s h0 h45
  have HH := Lib.hid hh
  have HT := Lib.hid htl
  have HZ := Lib.hid htz
  clear hh htl htz
  have hq : ((s[0].toNat : Int) == 45) = true := by rw [h45]; rfl
  have H45 := Lib.hid h45
  clear h45
  by_cases hlen : most < s.size - 1
  · have hR : specRead most s.data.toList = none := specRead_none_len (by rw [behind_minus HH.out, ← HT.out]; exact (show _ < (s.extract 1 s.size).size by rw [HZ.out]; exact hlen))
    have HR := Lib.hid hR
    clear hR
    go_enter Tryd.func33, Tryd.ntmps33
    go_wp2
    go_ret2
    exact ⟨by rw [HR.out]; rfl, Below.refl _ _⟩
  · by_cases hone : s.size = 1
    · have hR : specRead most s.data.toList = none := specRead_none_nil (by
        rw [behind_minus HH.out, ← HT.out]
        exact List.eq_nil_of_length_eq_zero (show (s.extract 1 s.size).size = 0 by rw [HZ.out]; omega))
      have HR := Lib.hid hR
      clear hR
      go_enter Tryd.func33, Tryd.ntmps33
      go_wp2
      go_ret2
      exact ⟨by rw [HR.out]; rfl, Below.refl _ _⟩
    · go_enter Tryd.func33, Tryd.ntmps33
      go_wp2
      generalize hgt : s.extract 1 s.size = t
      have htz := HZ.out
      rw [hgt] at htz
      have hts : t.size ≤ 12 := by omega
      have ht1 : 1 ≤ t.size := by omega
      have HG := Lib.hid hgt
      have HZ2 := Lib.hid htz
      clear hgt htz
      go_loop [8, 9] (fun n i => ∃ k : Nat, k ≤ t.size ∧ i = .int .i64 k ∧ n = .int .i64 (digVal 0 (t.data.toList.take k) : Nat) ∧ ∀ c ∈ t.data.toList.take k, isDig c) (fun _ i => t.size - (intOf i).toNat)
      case atStart => exact ⟨0, Nat.zero_le _, rfl, by rw [List.take_zero, digVal_nil]; rfl, by simp⟩
      case round =>
        obtain ⟨k, hk, rfl, rfl, hd⟩ := hrel
        have hv := digVal_lt_pow (t.data.toList.take k) 12 hd (by simp; omega)
        have HD := Lib.hid hd
        clear hd
        by_cases hlt : k < t.size
        · by_cases hc1 : t[k].toNat < 48
          · have hR : specRead most s.data.toList = none := specRead_none_dig (c := t[k]) (by rw [behind_minus HH.out, ← HT.out, HG.out]; exact mem_at t k hlt) (by unfold isDig; omega)
            have HR := Lib.hid hR
            clear hR
            go_wp2
            go_ret2
            exact ⟨by rw [HR.out]; rfl, Below.refl _ _⟩
          · by_cases hc2 : 57 < t[k].toNat
            · have hR : specRead most s.data.toList = none := specRead_none_dig (c := t[k]) (by rw [behind_minus HH.out, ← HT.out, HG.out]; exact mem_at t k hlt) (by unfold isDig; omega)
              have HR := Lib.hid hR
              clear hR
              go_wp2
              go_ret2
              exact ⟨by rw [HR.out]; rfl, Below.refl _ _⟩
            · have hsn := take_snoc t k hlt
              have hds := digVal_snoc (t.data.toList.take k) t[k]
              have HS : Hid (digVal 0 (t.data.toList.take (k + 1)) = 10 * digVal 0 (t.data.toList.take k) + (t[k].toNat - 48)) := by rw [hsn]; exact hds
              clear hsn hds
              go_wp2
              go_round
              case rel =>
                refine ⟨k + 1, by omega, by go_num, ?_, ?_⟩
                · rw [HS.out]
                  go_num
                · rw [take_snoc t k hlt]
                  intro c hc
                  rcases List.mem_append.1 hc with hc | hc
                  · exact HD.out c hc
                  · simp at hc
                    subst hc
                    unfold isDig
                    omega
              case measure => simp [intOf]; omega
        · obtain rfl : k = t.size := by omega
          have htk : t.data.toList.take t.size = t.data.toList := List.take_of_length_le (Nat.le_refl _)
          rw [htk] at hv
          rw [htk]
          go_wp2_with fail
          refine (spec_format _ (by omega) (by omega) _).mono ?_
          rintro e w1 ⟨rfl, hb1⟩
          by_cases heq : Lib.itoa (-(digVal 0 t.data.toList : Nat)) = s.data.toList
          · have h1 : (Lib.itoa (-(digVal 0 t.data.toList : Nat)) == s.toList) = true := by rw [ByteArray.toList_eq, heq]; simp
            have HE := Lib.hid heq
            clear heq
            go_wp2
            go_ret2
            refine ⟨?_, hb1⟩
            have hd := HD.out
            rw [htk, ← HG.out, HT.out, ← behind_minus HH.out] at hd
            have he := HE.out
            rw [← HG.out, HT.out, ← behind_minus HH.out, ← signed_minus HH.out] at he
            have hl : (behind s.data.toList).length = t.size := by rw [behind_minus HH.out, ← HT.out, HG.out]; rfl
            rw [specRead_some (by rw [hl]; omega) (by rw [hl]; have := HZ2.out; omega) hd he, signed_minus HH.out, behind_minus HH.out, ← HT.out, HG.out]
            rfl
          · have h1 : (Lib.itoa (-(digVal 0 t.data.toList : Nat)) == s.toList) = false := by rw [ByteArray.toList_eq]; simpa using heq
            have HE := Lib.hid heq
            clear heq
            go_wp2
            go_ret2
            refine ⟨?_, hb1⟩
            rw [specRead_none_ne (by rw [signed_minus HH.out, behind_minus HH.out, ← HT.out, HG.out]; exact HE.out)]
            rfl

/-- spec.l1Read. -/
theorem spec_read (s : ByteArray) (most : Nat) (hm : most ≤ 12) (hm1 : 1 ≤ most) (hs : s.size ≤ maxLen) (w : World) :
    Calls Tryd.prog 33 #[.string s, .int .i64 most] w fun e w' => e = readEnd (specRead most s.data.toList) ∧ Below w.heap.size w w' := by
  by_cases h0 : s.size = 0
  · have e : s.data.toList = [] := List.eq_nil_of_length_eq_zero h0
    have hR : specRead most s.data.toList = none := by
      rw [e]
      exact specRead_none_nil (by simp [behind])
    rw [hR]
    exact spec_read_empty s most h0 w
  · by_cases h45 : (s[0]'(by omega)).toNat = 45
    · exact spec_read_minus s most hm hm1 hs (by omega) h45 w
    · exact spec_read_plain s most hm hm1 hs (by omega) h45 w
end Go.Proofs.YtcidmanlijeomaaDoor
