/- What is proved here: a piece of the proof of YtdifefgigcjgeaaGreatDoorExactParsePat (SpecRead, ImplParseInt, Keep, PatRead, SReader). Condition: none beyond what each part says. -/
import Derived.Test.YtdifefgigcjgeaaGreatDoorPp06
import Derived.Test.YtdifefgigcjgeaaGreatDoorPp03
import Derived.Deep.QuietTactic
import Derived.BigQuiet
import Derived.Defers
import Derived.Recover
import Derived.Test.YtdifefgigcjgeaaGreatDoorPp04
import Derived.Test.YtdifefgigcjgeaaGreatDoorPp05
import Derived.Test.YtdifefgigcjgeaaGreatDoorPp02

/- What is proved here: the model's l1Read (package spec) accepts exactly the numerals of the integers of at most 'most' digits. Condition: 'most' is at most 12. -/
section
namespace Go.Proofs.YtdifefgigcjgeaaGreatDoor
open Go.RowKit

/-- What the reader returns. -/
def readEnd (o : Option Int) : Ending :=
  match o with
  | some n => .returned (.tuple #[.int .i64 n, .bool true])
  | none => .returned (.tuple #[.int .i64 0, .bool false])

theorem take_snoc (s : ByteArray) (k : Nat) (h : k < s.size) : s.data.toList.take (k + 1) = s.data.toList.take k ++ [s[k]] := by
  rw [List.take_succ_eq_append_getElem (by simpa using h)]; rfl

theorem mem_at (s : ByteArray) (k : Nat) (h : k < s.size) : s[k] ∈ s.data.toList := by
  have := take_snoc s k h
  exact List.mem_of_mem_take (i := k + 1) (by rw [this]; simp)

theorem spec_read_empty (s : ByteArray) (most : Nat) (h0 : s.size = 0) (w : World) :
    Calls Tryz.prog 145 #[.string s, .int .i64 most] w fun e w' => e = readEnd none ∧ Below w.heap.size w w' := by
  obtain rfl : s = ByteArray.empty := by
    cases s with | mk d => cases d with | mk l => cases l with | nil => rfl | cons c r => simp [ByteArray.size] at h0
  go_enter Tryz.func145, Tryz.ntmps145
  go_wp2
  go_ret2
  exact ⟨rfl, Below.refl _ _⟩

set_option maxHeartbeats 1000000 in
set_option maxRecDepth 100000 in
theorem spec_read_plain (s : ByteArray) (most : Nat) (hm : most ≤ 12) (hm1 : 1 ≤ most) (hs : s.size ≤ maxLen) (h0 : 0 < s.size) (h45 : ¬ s[0].toNat = 45) (w : World) :
    Calls Tryz.prog 145 #[.string s, .int .i64 most] w fun e w' => e = readEnd (specRead most s.data.toList) ∧ Below w.heap.size w w' := by
  unfold maxLen at hs
  have hh : ¬ s.data.toList.head? = some 45 := by
    intro h
    apply h45
    have e : s.data.toList = s[0] :: s.data.toList.tail := by
      have := take_snoc s 0 h0
      cases hl : s.data.toList with
      | nil => simp [hl] at this
      | cons c r => rw [hl] at this; simp at this; rw [this]; rfl
    rw [e] at h
    simp at h
    rw [h]
    rfl
  have hsz : s.data.toList.length = s.size := rfl
  have HH := Lib.hid hh
  have HZ := Lib.hid hsz
  clear hh hsz
  by_cases hlen : most < s.size
  · have hR : specRead most s.data.toList = none := specRead_none_len (by rw [behind_plain HH.out, HZ.out]; exact hlen)
    rw [hR]
    go_enter Tryz.func145, Tryz.ntmps145
    go_wp2
    go_ret2
    exact ⟨rfl, Below.refl _ _⟩
  · go_enter Tryz.func145, Tryz.ntmps145
    go_wp2
    go_loop [8, 9] (fun n i => ∃ k : Nat, k ≤ s.size ∧ i = .int .i64 k ∧ n = .int .i64 (digVal 0 (s.data.toList.take k) : Nat) ∧ ∀ c ∈ s.data.toList.take k, isDig c) (fun _ i => s.size - (intOf i).toNat)
    case atStart => exact ⟨0, Nat.zero_le _, rfl, by rw [List.take_zero, digVal_nil]; rfl, by simp⟩
    case round =>
      obtain ⟨k, hk, rfl, rfl, hd⟩ := hrel
      have hv := digVal_lt_pow (s.data.toList.take k) 12 hd (by simp; omega)
      have HD := Lib.hid hd
      clear hd
      by_cases hlt : k < s.size
      · by_cases hc1 : s[k].toNat < 48
        · have hR : specRead most s.data.toList = none := specRead_none_dig (c := s[k]) (by rw [behind_plain HH.out]; exact mem_at s k hlt) (by unfold isDig; omega)
          have HR := Lib.hid hR
          clear hR
          go_wp2
          go_ret2
          exact ⟨by rw [HR.out]; rfl, Below.refl _ _⟩
        · by_cases hc2 : 57 < s[k].toNat
          · have hR : specRead most s.data.toList = none := specRead_none_dig (c := s[k]) (by rw [behind_plain HH.out]; exact mem_at s k hlt) (by unfold isDig; omega)
            have HR := Lib.hid hR
            clear hR
            go_wp2
            go_ret2
            exact ⟨by rw [HR.out]; rfl, Below.refl _ _⟩
          · have hsn := take_snoc s k hlt
            have hds := digVal_snoc (s.data.toList.take k) s[k]
            have HS : Hid (digVal 0 (s.data.toList.take (k + 1)) = 10 * digVal 0 (s.data.toList.take k) + (s[k].toNat - 48)) := by rw [hsn]; exact hds
            clear hsn hds
            go_wp2
            go_round
            case rel => 
              refine ⟨k + 1, by omega, by go_num, ?_, ?_⟩
              · rw [HS.out]
                go_num
              · rw [take_snoc s k hlt]
                intro c hc
                rcases List.mem_append.1 hc with hc | hc
                · exact HD.out c hc
                · simp at hc
                  subst hc
                  unfold isDig
                  omega
            case measure => simp [intOf]; omega
      · obtain rfl : k = s.size := by omega
        have htk : s.data.toList.take s.size = s.data.toList := List.take_of_length_le (Nat.le_refl _)
        rw [htk] at hv
        rw [htk]
        go_wp2_with fail
        refine (spec_format _ (by omega) (by omega) _).mono ?_
        rintro e w1 ⟨rfl, hb1⟩
        by_cases heq : Lib.itoa (digVal 0 s.data.toList : Nat) = s.data.toList
        · have h1 : (Lib.itoa (digVal 0 s.data.toList : Nat) == s.toList) = true := by rw [ByteArray.toList_eq, heq]; simp
          have HE := Lib.hid heq
          clear heq
          go_wp2
          go_ret2
          refine ⟨?_, hb1⟩
          have hd := HD.out
          rw [htk] at hd
          rw [specRead_some (by rw [behind_plain HH.out, HZ.out]; omega) (by rw [behind_plain HH.out, HZ.out]; omega) (by rw [behind_plain HH.out]; exact hd) (by rw [behind_plain HH.out, signed_plain HH.out]; exact HE.out), behind_plain HH.out, signed_plain HH.out]
          rfl
        · have h1 : (Lib.itoa (digVal 0 s.data.toList : Nat) == s.toList) = false := by rw [ByteArray.toList_eq]; simpa using heq
          have HE := Lib.hid heq
          clear heq
          go_wp2
          go_ret2
          refine ⟨?_, hb1⟩
          rw [specRead_none_ne (by rw [behind_plain HH.out, signed_plain HH.out]; exact HE.out)]
          rfl
theorem tail_facts (s : ByteArray) (h0 : 0 < s.size) (h45 : s[0].toNat = 45) : s.data.toList.head? = some 45 ∧ (s.extract 1 s.size).data.toList = s.data.toList.tail ∧ (s.extract 1 s.size).size = s.size - 1 := by
  have e : s.data.toList = s[0] :: s.data.toList.tail := by
    have := take_snoc s 0 h0
    cases hl : s.data.toList with
    | nil => simp [hl] at this
    | cons c r => rw [hl] at this; simp at this; rw [this]; rfl
  have e45 : s[0] = 45 := by
    apply UInt8.toNat_inj.1
    rw [h45]; rfl
  have e2 : (s.extract 1 s.size).data.toList = s.data.toList.tail := by
    rw [ByteArray.data_extract, Array.toList_extract, List.extract_eq_take_drop]
    have : s.data.toList.length = s.size := rfl
    rw [List.take_of_length_le (by simp), List.drop_one]
  refine ⟨by rw [e, e45]; rfl, e2, ?_⟩
  have h1 : (s.extract 1 s.size).size = (s.extract 1 s.size).data.toList.length := rfl
  rw [h1, e2, List.length_tail]
  rfl

set_option maxHeartbeats 1000000 in
set_option maxRecDepth 100000 in
theorem spec_read_minus (s : ByteArray) (most : Nat) (hm : most ≤ 12) (hm1 : 1 ≤ most) (hs : s.size ≤ maxLen) (h0 : 0 < s.size) (h45 : s[0].toNat = 45) (w : World) :
    Calls Tryz.prog 145 #[.string s, .int .i64 most] w fun e w' => e = readEnd (specRead most s.data.toList) ∧ Below w.heap.size w w' := by
  unfold maxLen at hs
  obtain ⟨hh, htl, htz⟩ := tail_facts s h0 h45
  have HH := Lib.hid hh
  have HT := Lib.hid htl
  have HZ := Lib.hid htz
  clear hh htl htz
  have hq : ((s[0].toNat : Int) == 45) = true := by rw [h45]; rfl
  have H45 := Lib.hid h45
  clear h45
  by_cases hlen : most < s.size - 1
  · have hR : specRead most s.data.toList = none := specRead_none_len (by rw [behind_minus HH.out, ← HT.out]; exact (show _ < (s.extract 1 s.size).size by rw [HZ.out]; exact hlen))
    have HR := Lib.hid hR
    clear hR
    go_enter Tryz.func145, Tryz.ntmps145
    go_wp2
    go_ret2
    exact ⟨by rw [HR.out]; rfl, Below.refl _ _⟩
  · by_cases hone : s.size = 1
    · have hR : specRead most s.data.toList = none := specRead_none_nil (by
        rw [behind_minus HH.out, ← HT.out]
        exact List.eq_nil_of_length_eq_zero (show (s.extract 1 s.size).size = 0 by rw [HZ.out]; omega))
      have HR := Lib.hid hR
      clear hR
      go_enter Tryz.func145, Tryz.ntmps145
      go_wp2
      go_ret2
      exact ⟨by rw [HR.out]; rfl, Below.refl _ _⟩
    · go_enter Tryz.func145, Tryz.ntmps145
      go_wp2
      generalize hgt : s.extract 1 s.size = t
      have htz := HZ.out
      rw [hgt] at htz
      have hts : t.size ≤ 12 := by omega
      have ht1 : 1 ≤ t.size := by omega
      have HG := Lib.hid hgt
      have HZ2 := Lib.hid htz
      clear hgt htz
      go_loop [8, 9] (fun n i => ∃ k : Nat, k ≤ t.size ∧ i = .int .i64 k ∧ n = .int .i64 (digVal 0 (t.data.toList.take k) : Nat) ∧ ∀ c ∈ t.data.toList.take k, isDig c) (fun _ i => t.size - (intOf i).toNat)
      case atStart => exact ⟨0, Nat.zero_le _, rfl, by rw [List.take_zero, digVal_nil]; rfl, by simp⟩
      case round =>
        obtain ⟨k, hk, rfl, rfl, hd⟩ := hrel
        have hv := digVal_lt_pow (t.data.toList.take k) 12 hd (by simp; omega)
        have HD := Lib.hid hd
        clear hd
        by_cases hlt : k < t.size
        · by_cases hc1 : t[k].toNat < 48
          · have hR : specRead most s.data.toList = none := specRead_none_dig (c := t[k]) (by rw [behind_minus HH.out, ← HT.out, HG.out]; exact mem_at t k hlt) (by unfold isDig; omega)
            have HR := Lib.hid hR
            clear hR
            go_wp2
            go_ret2
            exact ⟨by rw [HR.out]; rfl, Below.refl _ _⟩
          · by_cases hc2 : 57 < t[k].toNat
            · have hR : specRead most s.data.toList = none := specRead_none_dig (c := t[k]) (by rw [behind_minus HH.out, ← HT.out, HG.out]; exact mem_at t k hlt) (by unfold isDig; omega)
              have HR := Lib.hid hR
              clear hR
              go_wp2
              go_ret2
              exact ⟨by rw [HR.out]; rfl, Below.refl _ _⟩
            · have hsn := take_snoc t k hlt
              have hds := digVal_snoc (t.data.toList.take k) t[k]
              have HS : Hid (digVal 0 (t.data.toList.take (k + 1)) = 10 * digVal 0 (t.data.toList.take k) + (t[k].toNat - 48)) := by rw [hsn]; exact hds
              clear hsn hds
              go_wp2
              go_round
              case rel =>
                refine ⟨k + 1, by omega, by go_num, ?_, ?_⟩
                · rw [HS.out]
                  go_num
                · rw [take_snoc t k hlt]
                  intro c hc
                  rcases List.mem_append.1 hc with hc | hc
                  · exact HD.out c hc
                  · simp at hc
                    subst hc
                    unfold isDig
                    omega
              case measure => simp [intOf]; omega
        · obtain rfl : k = t.size := by omega
          have htk : t.data.toList.take t.size = t.data.toList := List.take_of_length_le (Nat.le_refl _)
          rw [htk] at hv
          rw [htk]
          go_wp2_with fail
          refine (spec_format _ (by omega) (by omega) _).mono ?_
          rintro e w1 ⟨rfl, hb1⟩
          by_cases heq : Lib.itoa (-(digVal 0 t.data.toList : Nat)) = s.data.toList
          · have h1 : (Lib.itoa (-(digVal 0 t.data.toList : Nat)) == s.toList) = true := by rw [ByteArray.toList_eq, heq]; simp
            have HE := Lib.hid heq
            clear heq
            go_wp2
            go_ret2
            refine ⟨?_, hb1⟩
            have hd := HD.out
            rw [htk, ← HG.out, HT.out, ← behind_minus HH.out] at hd
            have he := HE.out
            rw [← HG.out, HT.out, ← behind_minus HH.out, ← signed_minus HH.out] at he
            have hl : (behind s.data.toList).length = t.size := by rw [behind_minus HH.out, ← HT.out, HG.out]; rfl
            rw [specRead_some (by rw [hl]; omega) (by rw [hl]; have := HZ2.out; omega) hd he, signed_minus HH.out, behind_minus HH.out, ← HT.out, HG.out]
            rfl
          · have h1 : (Lib.itoa (-(digVal 0 t.data.toList : Nat)) == s.toList) = false := by rw [ByteArray.toList_eq]; simpa using heq
            have HE := Lib.hid heq
            clear heq
            go_wp2
            go_ret2
            refine ⟨?_, hb1⟩
            rw [specRead_none_ne (by rw [signed_minus HH.out, behind_minus HH.out, ← HT.out, HG.out]; exact HE.out)]
            rfl

/-- spec.l1Read. -/
theorem spec_read (s : ByteArray) (most : Nat) (hm : most ≤ 12) (hm1 : 1 ≤ most) (hs : s.size ≤ maxLen) (w : World) :
    Calls Tryz.prog 145 #[.string s, .int .i64 most] w fun e w' => e = readEnd (specRead most s.data.toList) ∧ Below w.heap.size w w' := by
  by_cases h0 : s.size = 0
  · have e : s.data.toList = [] := List.eq_nil_of_length_eq_zero h0
    have hR : specRead most s.data.toList = none := by
      rw [e]
      exact specRead_none_nil (by simp [behind])
    rw [hR]
    exact spec_read_empty s most h0 w
  · by_cases h45 : (s[0]'(by omega)).toNat = 45
    · exact spec_read_minus s most hm hm1 hs (by omega) h45 w
    · exact spec_read_plain s most hm hm1 hs (by omega) h45 w
end Go.Proofs.YtdifefgigcjgeaaGreatDoor
end

/- What is proved here: impl.ParseInt answers by the integers whose numeral the string is, within their bounds, and with (0, false) where there is none. Conditions: as for the reader. -/
section
namespace Go.Proofs.YtdifefgigcjgeaaGreatDoor
open Go.RowKit

theorem catchParseInt_panicking (u : TypeId) (pv : Value) (older : List PanicEntry) (w : World) :
    CallsD Tryz.prog 166 #[] (.panicking ({ v := .iface u pv, recovered := false } :: older)) w fun e u' w' =>
      e = .returned (.tuple #[]) ∧ u' = .panicking ({ v := .iface u pv, recovered := true } :: older) ∧ w' = w := by
  refine callsD_of_wpS Tryz.func166 rfl fun c₀ cs hu => ?_
  apply wpS_region
  simp [wpOpsS, go_sem, recoverD, hu, Tryz.ntmps166, bodyPostS, results, Tryz.results166]

theorem catchParseInt_idle (w : World) :
    CallsD Tryz.prog 166 #[] .returning w fun e u' w' => e = .returned (.tuple #[]) ∧ u' = .returning ∧ w' = w := by
  refine callsD_of_wpS Tryz.func166 rfl fun c₀ cs hu => ?_
  apply wpS_region
  simp [wpOpsS, go_sem, recoverD, hu, Tryz.ntmps166, bodyPostS, results, Tryz.results166]
  rw [← hu]

set_option maxHeartbeats 1000000 in
set_option maxRecDepth 100000 in
/-- impl.ParseInt. -/
theorem impl_ParseInt (s : ByteArray) (hs : s.size ≤ 1048576) (w : World) (hL : LibVars w) :
    Calls Tryz.prog 137 #[.string s] w fun e w' => e = readEnd (readOf (-999999999999) 999999999999 s.data.toList) ∧ Below w.heap.size w w' := by
  cases hR : readOf (-999999999999) 999999999999 s.data.toList with
  | some n =>
    go_enter_defers Tryz.func137, Tryz.ntmps137
    go_wp2_with fail
    refine (read_int s (-999999999999) 999999999999 (by omega) (by omega) hs _ hL).mono ?_
    rintro e w1 ⟨he, hb⟩
    rw [hR] at he
    obtain rfl : e = .returned (.int .i64 n) := he
    go_wp2
    refine leaves_cons (f := 166) (args := #[]) (by simp) (by simp [go_sem]) ?_
    refine (catchParseInt_idle _).mono ?_
    rintro e u' w'' ⟨rfl, rfl, rfl⟩
    simp [Leaves, settle, results, Tryz.results137, go_sem, readEnd, hb]
  | none =>
    go_enter_defers Tryz.func137, Tryz.ntmps137
    go_wp2_with fail
    refine (read_int s (-999999999999) 999999999999 (by omega) (by omega) hs _ hL).mono ?_
    rintro e w1 ⟨he, hb⟩
    rw [hR] at he
    obtain ⟨u, pv, rfl⟩ : ∃ u pv, e = .panicked [{ v := .iface u pv, recovered := false }] := he
    go_wp2
    refine leaves_cons (f := 166) (args := #[]) (by simp) (by simp [go_sem]) ?_
    refine (catchParseInt_panicking u pv [] _).mono ?_
    rintro e u' w'' ⟨rfl, rfl, rfl⟩
    simp [Leaves, settle, results, Tryz.results137, go_sem, readEnd, hb]

end Go.Proofs.YtdifefgigcjgeaaGreatDoor
end

/- What is proved here: what stays while a reader reads; a box of a node set anew. No condition. -/
section
namespace Go.Proofs.YtdifefgigcjgeaaGreatDoor
open Go.RowKit

/-- The library's variables stay where only block b changes. -/
def Keeps (b : Nat) (w : World) : Prop := ∀ w', Only (Just b) w w' → LibVars w' ∧ MaxLenVar w'
theorem Keeps.on {b : Nat} {w w' : World} (h : Keeps b w) (k : Only (Just b) w w') : Keeps b w' := fun w2 h2 => h w2 (k.trans h2)
theorem Keeps.lib {b : Nat} {w : World} (h : Keeps b w) : LibVars w := (h w (Only.refl _ _)).1
theorem Keeps.mx {b : Nat} {w : World} (h : Keeps b w) : MaxLenVar w := (h w (Only.refl _ _)).2
theorem Only.fresh {F : Nat → Prop} {w w' : World} (h : Only F w w') {g : Nat} (hg : w.heap.size ≤ g) (o : Nat) (v : Value) : Only F w (w'.setCell ⟨g, o, none⟩ v) :=
  ⟨h.os, h.tape, h.output, by simpa [World.setCell] using h.size, fun b hb hn => (Below.heap_setCell _ _ _ _ (by show b ≠ g; omega)).trans (h.block b hb hn)⟩
theorem Only.more {F : Nat → Prop} {w w' : World} (h : Only F w w') (o : Obj) : Only F w (w'.alloc o) :=
  h.trans (Only.of_below ((Below.refl _ _).alloc (Nat.le_refl _) _))

def set4 (w : World) (g : Nat) (k n : Int) (t : ByteArray) (v : Value) : World := (((w.setCell ⟨g, 0, none⟩ (.int .i64 k)).setCell ⟨g, 1, none⟩ (.int .i64 n)).setCell ⟨g, 2, none⟩ (.string t)).setCell ⟨g, 3, none⟩ v
theorem set4_other {w : World} {g b : Nat} (k n : Int) (t : ByteArray) (v : Value) (h : b ≠ g) : (set4 w g k n t v).heap[b]? = w.heap[b]? := by
  unfold set4
  rw [Below.heap_setCell _ _ _ _ (by show b ≠ g; exact h), Below.heap_setCell _ _ _ _ (by show b ≠ g; exact h), Below.heap_setCell _ _ _ _ (by show b ≠ g; exact h), Below.heap_setCell _ _ _ _ (by show b ≠ g; exact h)]
theorem set4_size (w : World) (g : Nat) (k n : Int) (t : ByteArray) (v : Value) : (set4 w g k n t v).heap.size = w.heap.size := by simp [set4, World.setCell]
theorem set4_only {F : Nat → Prop} {w w' : World} (h : Only F w w') {g : Nat} (hg : w.heap.size ≤ g) (k n : Int) (t : ByteArray) (v : Value) : Only F w (set4 w' g k n t v) := (((h.fresh hg _ _).fresh hg _ _).fresh hg _ _).fresh hg _ _

theorem skip_cases (s p : List UInt8) : (p.isPrefixOf s = false ∧ (∀ x, s ≠ p ++ x) ∧ skipped s p = s) ∨ (p.isPrefixOf s = true ∧ s = p ++ skipped s p) := by
  unfold skipped
  cases h : p.isPrefixOf s with
  | false =>
    refine .inl ⟨rfl, fun x e => ?_, by simp⟩
    subst e
    have : p.isPrefixOf (p ++ x) = true := List.isPrefixOf_iff_prefix.2 (List.prefix_append _ _)
    rw [this] at h
    cases h
  | true =>
    obtain ⟨x, rfl⟩ := List.isPrefixOf_iff_prefix.1 h
    exact .inr ⟨rfl, by simp⟩
theorem RdAt.only {w w' : World} {b : Nat} {T : TypeId} {s : List UInt8} {m N D : Nat} (h : RdAt w b T s m N D) (ho : Only (fun _ => False) w w') : RdAt w' b T s m N D := (ho.block b h.lt (fun h => h)).trans h
theorem RdAt.set4 {w : World} {b g : Nat} {T : TypeId} {s : List UInt8} {m N D : Nat} (h : RdAt w b T s m N D) (hg : b ≠ g) (k n : Int) (t : ByteArray) (v : Value) : RdAt (set4 w g k n t v) b T s m N D := (set4_other k n t v hg).trans h
theorem two_new (w : World) (o1 o2 : Obj) : ((w.alloc o1).alloc o2).heap[w.heap.size]? = some o1 ∧ ((w.alloc o1).alloc o2).heap[w.heap.size + 1]? = some o2 ∧ ((w.alloc o1).alloc o2).heap.size = w.heap.size + 2 ∧ Below w.heap.size w ((w.alloc o1).alloc o2) := by
  have s1 : (w.alloc o1).heap.size = w.heap.size + 1 := Array.size_push _
  have s2 : ((w.alloc o1).alloc o2).heap.size = (w.alloc o1).heap.size + 1 := Array.size_push _
  have e1 := heap_at_new w o1
  have e2 := heap_at_new (w.alloc o1) o2
  rw [s1] at e2
  exact ⟨(Below.heap_alloc _ _ _ (by omega)).trans e1, e2, by omega, ((Below.refl _ _).alloc (Nat.le_refl _) _).alloc (by omega) _⟩
end Go.Proofs.YtdifefgigcjgeaaGreatDoor
end

/- What is proved here: what reading a pattern answers, and where. No condition. -/
section
namespace Go.Proofs.YtdifefgigcjgeaaGreatDoor
open Go.RowKit

abbrev TR : TypeId := 85
abbrev TP : TypeId := 49
/-- A box of a pattern. -/
abbrev PBox (w : World) (g : Nat) (k n : Int) (t : ByteArray) (v : Value) : Prop := w.heap[g]? = some (.cells #[.int .i64 k, .int .i64 n, .string t, v] TP (0, 0))
abbrev zeroBox : Obj := .cells #[.int .i64 0, .int .i64 0, .string ⟨#[]⟩, .slice none 0 0] TP
theorem set4_box {w : World} {g : Nat} {k n : Int} {t : ByteArray} {v : Value} (h : PBox w g k n t v) (k' n' : Int) (t' : ByteArray) (v' : Value) : PBox (set4 w g k' n' t' v') g k' n' t' v' := (four_set (four_set (four_set (four_set h _).1 _).2.1 _).2.2.1 _).2.2.2
/-- What reading a pattern ends as, from the text s, m nodes begun, at the depth d. -/
def Ans (w : World) (b : Nat) (s : List UInt8) (m d : Nat) (e : Ending) (w' : World) : Prop :=
  (∃ p s' m' v bs, e = .returned (.tuple #[.agg #[.int .i64 (PatD.k p), .int .i64 p.n, .string p.t, v], .bool true]) ∧ Pt.OwnV w' v p.F bs ∧ bs.Nodup ∧ (∀ c ∈ bs, w.heap.size ≤ c ∧ c < w'.heap.size) ∧ RdAt w' b TR s' m' 24 8 ∧ OkP s m d p s' m') ∨
  (∃ s' m', e = .returned (.tuple #[.agg #[.int .i64 0, .int .i64 0, .string ⟨#[]⟩, .slice none 0 0], .bool false]) ∧ RdAt w' b TR s' m' 24 8 ∧ NoneP s m d)
/-- The program's read at the depth d. -/
def ReadOk (b d : Nat) : Prop := ∀ (w : World) (s : List UInt8) (m : Nat), RdAt w b TR s m 24 8 → m ≤ 24 → s.length ≤ 1048576 → Keeps b w →
  Calls Tryz.prog 61 #[.pointer (some ⟨b, 0, none⟩), .int .i64 (d : Int)] w fun e w' => Ans w b s m d e w' ∧ Only (Just b) w w'

/-- The end of a walk: the zero pattern and false. -/
theorem ans_none {w w' : World} {b g : Nat} {s s' : List UInt8} {m d m' : Nat} {e : Ending} (he : e = .returned (.tuple #[.agg #[.int .i64 0, .int .i64 0, .string ⟨#[]⟩, .slice none 0 0], .bool false])) (hR : RdAt w' b TR s' m' 24 8) (hN : NoneP s m d) (hO : Only (Just b) w w') (hg : w.heap.size ≤ g) (hb : b ≠ g) :
    Ans w b s m d e (Go.Proofs.YtdifefgigcjgeaaGreatDoor.set4 w' g 0 0 ⟨#[]⟩ (.slice none 0 0)) ∧ Only (Just b) w (Go.Proofs.YtdifefgigcjgeaaGreatDoor.set4 w' g 0 0 ⟨#[]⟩ (.slice none 0 0)) :=
  ⟨.inr ⟨s', m', he, hR.set4 hb _ _ _ _, hN⟩, set4_only hO hg _ _ _ _⟩
/-- The end of a walk: a pattern in the box g and true. -/
theorem ans_some {w w' : World} {b g : Nat} {s s' : List UInt8} {m d m' : Nat} {e : Ending} {p : PatD} {v : Value} {bs : List Nat} (he : e = .returned (.tuple #[.agg #[.int .i64 p.k, .int .i64 p.n, .string p.t, v], .bool true])) (ho : Pt.OwnV w' v p.F bs) (hnd : bs.Nodup) (hbs : ∀ c ∈ bs, w.heap.size ≤ c ∧ c < w'.heap.size) (hbg : ∀ c ∈ bs, c ≠ g) (hR : RdAt w' b TR s' m' 24 8) (hP : OkP s m d p s' m') (hO : Only (Just b) w w') (hg : w.heap.size ≤ g) (hb : b ≠ g) :
    Ans w b s m d e (Go.Proofs.YtdifefgigcjgeaaGreatDoor.set4 w' g p.k p.n p.t v) ∧ Only (Just b) w (Go.Proofs.YtdifefgigcjgeaaGreatDoor.set4 w' g p.k p.n p.t v) :=
  ⟨.inl ⟨p, s', m', v, bs, he, ho.keep (fun c hc => set4_other _ _ _ _ (hbg c hc)), hnd, fun c hc => by rw [set4_size]; exact hbs c hc, hR.set4 hb _ _ _ _, hP⟩, set4_only hO hg _ _ _ _⟩
/-- A leaf's end. -/
theorem ans_leaf {w w' : World} {b g : Nat} {s s' : List UInt8} {m d m' : Nat} {e : Ending} {k n : Int} {t : ByteArray} (he : e = .returned (.tuple #[.agg #[.int .i64 k, .int .i64 n, .string t, .slice none 0 0], .bool true])) (hR : RdAt w' b TR s' m' 24 8) (hP : OkP s m d (Go.Proofs.YtdifefgigcjgeaaGreatDoor.leaf k n t) s' m') (hO : Only (Just b) w w') (hg : w.heap.size ≤ g) (hb : b ≠ g) :
    Ans w b s m d e (Go.Proofs.YtdifefgigcjgeaaGreatDoor.set4 w' g k n t (.slice none 0 0)) ∧ Only (Just b) w (Go.Proofs.YtdifefgigcjgeaaGreatDoor.set4 w' g k n t (.slice none 0 0)) :=
  ans_some (p := Go.Proofs.YtdifefgigcjgeaaGreatDoor.leaf k n t) he (.inl ⟨Option.none, 0, rfl, rfl, rfl⟩) List.nodup_nil (by simp) (by simp) hR hP hO hg hb
/-! Rows of one and of two patterns. -/
theorem own_one {w : World} {g : Nat} {p : PatD} {v : Value} {bs : List Nat} (hg : PBox w g p.k p.n p.t v) (ho : Pt.OwnV w v p.F bs) : Pt.OwnV w (.slice (some ⟨g, 0, none⟩) 1 1) (p.one .nil) (g :: bs) := by
  obtain ⟨h0, h1, h2, h3, _⟩ := four_cells hg
  exact .inr ⟨g, 1, bs, rfl, Nat.le_refl _, rfl, ⟨_, hg⟩, v, bs, [], by simp, h0, h1, h2, h3, ho, rfl⟩
theorem own_two {w : World} {g : Nat} {p q : PatD} {v u : Value} {bs cs : List Nat} (hg : w.heap[g]? = some (.cells #[.int .i64 p.k, .int .i64 p.n, .string p.t, v, .int .i64 q.k, .int .i64 q.n, .string q.t, u] TP (0, 0))) (ho : Pt.OwnV w v p.F bs) (ko : Pt.OwnV w u q.F cs) : Pt.OwnV w (.slice (some ⟨g, 0, none⟩) 2 2) (p.one (q.one .nil)) (g :: (bs ++ cs)) := by
  refine .inr ⟨g, 2, bs ++ cs, rfl, Nat.le_refl _, rfl, ⟨_, hg⟩, v, bs, cs, rfl, ?_, ?_, ?_, ?_, ho, u, cs, [], by simp, ?_, ?_, ?_, ?_, ko, rfl⟩ <;> simp [World.cell?, hg]
end Go.Proofs.YtdifefgigcjgeaaGreatDoor
end

/- What is proved here: the specification's reader of a text: l4Sees, l4Take. Conditions: the reader lies in a block of its own; the text has at most 2^20 bytes. -/
section
namespace Go.Proofs.YtdifefgigcjgeaaGreatDoor
open Go.RowKit

abbrev TS : TypeId := 77
/-- The specification's reader: the text, where it stands, whether it failed. -/
def SAt (w : World) (b : Nat) (s : ByteArray) (p : Nat) (bad : Bool) : Prop := w.heap[b]? = some (.cells #[.string s, .int .i64 (p : Int), .bool bad] TS (0, 0))
theorem SAt.lt {w : World} {b : Nat} {s : ByteArray} {p : Nat} {bad : Bool} (h : SAt w b s p bad) : b < w.heap.size := (Array.getElem?_eq_some_iff.1 h).1
theorem SAt.below {w w' : World} {b : Nat} {s : ByteArray} {p : Nat} {bad : Bool} (h : SAt w b s p bad) (hb : Below w.heap.size w w') : SAt w' b s p bad := (hb.block b h.lt).trans h
theorem SAt.cells {w : World} {b : Nat} {s : ByteArray} {p : Nat} {bad : Bool} (h : SAt w b s p bad) : w.cell? ⟨b, 0, none⟩ = some (.string s) ∧ w.cell? ⟨b, 1, none⟩ = some (.int .i64 (p : Int)) ∧ w.cell? ⟨b, 2, none⟩ = some (.bool bad) ∧ w.frozen? ⟨b, 1, none⟩ = false ∧ w.frozen? ⟨b, 2, none⟩ = false := by
  unfold SAt at h
  refine ⟨?_, ?_, ?_, ?_, ?_⟩ <;> simp [World.cell?, World.frozen?, h]
theorem SAt.go {w : World} {b : Nat} {s : ByteArray} {p : Nat} {bad : Bool} (h : SAt w b s p bad) (q : Nat) : SAt (w.setCell ⟨b, 1, none⟩ (.int .i64 (q : Int))) b s q bad := by
  unfold SAt at h ⊢
  simp [World.setCell, Array.getElem?_modify, h]
theorem SAt.fail {w : World} {b : Nat} {s : ByteArray} {p : Nat} {bad : Bool} (h : SAt w b s p bad) (q : Bool) : SAt (w.setCell ⟨b, 2, none⟩ (.bool q)) b s p q := by
  unfold SAt at h ⊢
  simp [World.setCell, Array.getElem?_modify, h]
/-- p is next. -/
def sees (s : ByteArray) (at_ : Nat) (p : List UInt8) : Bool := p.isPrefixOf (s.data.toList.drop at_)

theorem prefix_take (p l : List UInt8) : p.isPrefixOf l = (l.take p.length == p) := by
  rw [Bool.eq_iff_iff, List.isPrefixOf_iff_prefix, beq_iff_eq]
  exact ⟨fun h => (List.prefix_iff_eq_take.1 h).symm, fun h => List.prefix_iff_eq_take.2 h.symm⟩
theorem extract_toList (s : ByteArray) (a b : Nat) : (s.extract a b).data.toList = (s.data.toList.drop a).take (b - a) := by
  rw [ByteArray.data_extract, Array.toList_extract]
set_option maxHeartbeats 1000000 in
set_option maxRecDepth 100000 in
theorem spec_sees (w : World) (b : Nat) (s : ByteArray) (k : Nat) (bad : Bool) (p : List UInt8) (h : SAt w b s k bad) (hs : s.size ≤ 1048576) (hk : k ≤ s.size) (hp : p.length ≤ 16) :
    Calls Tryz.prog 143 #[.pointer (some ⟨b, 0, none⟩), .string (str p)] w fun e w' => e = .returned (.bool (sees s k p)) ∧ Below w.heap.size w w' := by
  obtain ⟨c0, c1, c2, _, _⟩ := h.cells
  have hz := str_size p
  generalize hn : p.length = n at *
  by_cases hle : k + n ≤ s.size
  · have e1 : decide ((k : Int) + (n : Int) ≤ (s.size : Int)) = true := by simp; omega
    have HR : Hid (sees s k p = ((s.extract k (k + n)).toList == (str p).toList)) := by
      unfold Hid sees
      rw [prefix_take, ByteArray.toList_eq, ByteArray.toList_eq, extract_toList, hn, Nat.add_sub_cancel_left]
      rfl
    generalize str p = up at *
    clear h
    go_enter Tryz.func143, Tryz.ntmps143
    go_wp2
    go_quiet (fail)
    go_wp2
    go_ret
    exact ⟨by rw [HR.out]; rfl, below_drewN (Below.refl _ _) _⟩
  · have e1 : decide ((k : Int) + (n : Int) ≤ (s.size : Int)) = false := by simp; omega
    have HR : Hid (sees s k p = false) := by
      unfold Hid sees
      rw [Bool.eq_false_iff]
      intro he
      have h1 := (List.isPrefixOf_iff_prefix.1 he).length_le
      rw [List.length_drop, hn] at h1
      have h2 : s.data.toList.length = s.size := rfl
      omega
    generalize str p = up at *
    clear h
    go_enter Tryz.func143, Tryz.ntmps143
    go_wp2
    go_quiet (fail)
    go_wp2
    go_ret
    exact ⟨by rw [HR.out]; rfl, below_drewN (Below.refl _ _) _⟩

set_option maxHeartbeats 1000000 in
set_option maxRecDepth 100000 in
theorem spec_take (w : World) (b : Nat) (s : ByteArray) (k : Nat) (bad : Bool) (p : List UInt8) (h : SAt w b s k bad) (hs : s.size ≤ 1048576) (hk : k ≤ s.size) (hp : p.length ≤ 16) :
    Calls Tryz.prog 102 #[.pointer (some ⟨b, 0, none⟩), .string (str p)] w fun e w' => e = .returned (.bool (!bad && sees s k p)) ∧ SAt w' b s (if (!bad && sees s k p) = true then k + p.length else k) bad ∧ Only (Just b) w w' := by
  obtain ⟨c0, c1, c2, _, _⟩ := h.cells
  have HS := spec_sees w b s k bad p h hs hk hp
  have hz := str_size p
  cases hb : bad with
  | true =>
    rw [hb] at c2
    have H1 : Hid (SAt w b s k true) := by rw [hb] at h; exact h
    simp only [Bool.not_true, Bool.false_and, Bool.false_eq_true, if_false]
    generalize str p = up at *
    clear h HS hb
    go_enter Tryz.func102, Tryz.ntmps102
    go_wp2
    go_ret
    exact ⟨rfl, H1.out, Only.refl _ _⟩
  | false =>
    rw [hb] at c2
    have H1 : Hid (SAt w b s k false) := by rw [hb] at h; exact h
    simp only [Bool.not_false, Bool.true_and]
    cases hse : sees s k p with
    | false =>
      rw [hse] at HS
      simp only [Bool.false_eq_true, if_false]
      generalize str p = up at *
      clear h hb hse
      go_enter Tryz.func102, Tryz.ntmps102
      go_wp2_with fail
      refine HS.mono ?_
      rintro e w1 ⟨rfl, hb1⟩
      have H2 : Hid (SAt w1 b s k false ∧ Below w.heap.size w w1) := ⟨H1.out.below hb1, hb1⟩
      clear hb1 HS
      go_wp2
      go_ret
      exact ⟨rfl, H2.out.1, just_below H2.out.2⟩
    | true =>
      rw [hse] at HS
      simp only [if_true]
      generalize hn : p.length = n at *
      generalize str p = up at *
      clear h hb hse
      go_enter Tryz.func102, Tryz.ntmps102
      go_wp2_with fail
      refine HS.mono ?_
      rintro e w1 ⟨rfl, hb1⟩
      have h1 := H1.out.below hb1
      have H2 : Hid (SAt w1 b s k false ∧ Below w.heap.size w w1 ∧ SAt (w1.setCell ⟨b, 1, none⟩ (.int .i64 ((k : Int) + (n : Int)))) b s (k + n) false) := ⟨h1, hb1, by have := h1.go (k + n); rwa [Int.natCast_add] at this⟩
      obtain ⟨d0, d1, d2, f1, _⟩ := h1.cells
      clear hb1 h1 HS c0 c1 c2
      go_wp2
      go_ret
      exact ⟨rfl, H2.out.2.2, (just_below H2.out.2.1).trans (Only.setCell (F := Just b) (p := ⟨b, 1, none⟩) rfl _)⟩
end Go.Proofs.YtdifefgigcjgeaaGreatDoor
end
