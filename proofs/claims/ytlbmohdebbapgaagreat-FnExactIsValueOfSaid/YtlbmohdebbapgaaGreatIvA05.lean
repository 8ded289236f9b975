/- What is proved here: a piece of the proof of YtlbmohdebbapgaaGreatExactIsValueOf (ImplTypes, TreeText, ImplKind, Assert, EqualFields). Condition: none beyond what each part says. -/
import Derived.Test.YtlbmohdebbapgaaGreatIvA02
import Derived.Test.YtlbmohdebbapgaaGreatIvA04
import Derived.Test.YtlbmohdebbapgaaGreatIvA01
import Derived.Lib.ItoaMem
import Derived.Lib.ItoaLen
import Derived.Test.YtlbmohdebbapgaaGreatProg
import Derived.WalkKit
import Derived.Below

/- What is proved here: the program tells whether the nodes of a row have the types of a list, given that it tells so of each node (haveTypes, with the library's EqualFunc). Condition: they lie in memory as said; the signature is the call's own. -/
section
namespace Go.Proofs.YtlbmohdebbapgaaGreat
open Go.RowKit

theorem Trees.All.mp {P Q : Trees → Prop} : ∀ F : Trees, F.All (fun G => P G → Q G) → F.All P → F.All Q
  | .nil, _, _ => trivial
  | .cons _ _ _ _ r, h, k => ⟨h.1 k.1, Trees.All.mp r h.2 k.2⟩

/-- The program tells the type of whatever node has the row G below it. -/
def HasAt (s : List TypeD) (G : Trees) : Prop := ∀ (S : Nat → Prop) (w : World) (k n : Int) (t : ByteArray) (p : Option Addr) (c : Nat) (a : Option Addr) (cap : Nat) (nm : ByteArray), t.size ≤ maxLen → TreesAt w G p 0 → OwnSig S w (.slice a s.length cap) s → (∀ b, S b → b < w.heap.size) →
    Calls Tryz.prog 28 #[.agg #[.slice a s.length cap], .agg #[.int .i64 k, .int .i64 n, .string t, .slice p G.length c], .string nm] w fun e w' => e = .returned (.bool (nodeHas s k n t G.length (fun l => G.has s l) nm)) ∧ Below w.heap.size w w'

set_option maxRecDepth 100000 in
theorem closure_has (s : List TypeD) (G : Trees) (H : HasAt s G) (S : Nat → Prop) (w : World) (k n : Int) (t : ByteArray) (p : Option Addr) (c : Nat) (a : Option Addr) (cap : Nat) (nm : ByteArray) (bx : Nat) (ht : t.size ≤ maxLen) (hx : TreesAt w G p 0) (hO : OwnSig S w (.slice a s.length cap) s) (hS : ∀ b, S b → b < w.heap.size) (hb : w.cell? ⟨bx, 0, none⟩ = some (.slice a s.length cap)) :
    Calls Tryz.prog 81 #[.agg #[.int .i64 k, .int .i64 n, .string t, .slice p G.length c], .string nm, .pointer (some ⟨bx, 0, none⟩)] w fun e w' => e = .returned (.bool (nodeHas s k n t G.length (fun l => G.has s l) nm)) ∧ Below w.heap.size w w' := by
  have hB : Below w.heap.size w (w.alloc (.cells #[.int .i64 k, .int .i64 n, .string t, .slice p G.length c] 37)) := (Below.refl _ _).alloc (Nat.le_refl _) _
  have hb1 := cell_below hb hB
  have H1 := Lib.hid (H S (w.alloc (.cells #[.int .i64 k, .int .i64 n, .string t, .slice p G.length c] 37)) k n t p c a cap nm ht (hx.below hB) (hO.keep keeps_type (fun b hb => hB.block b (hS b hb))) (fun b hb => Nat.lt_of_lt_of_le (hS b hb) hB.size))
  have HB := Lib.hid hB
  clear H hx hO hS hB
  go_enter Tryz.func81, Tryz.ntmps81
  go_wp2_with fail
  refine H1.out.mono ?_
  rintro e w1 ⟨rfl, hb1⟩
  have HB1 : Hid (Below w.heap.size w w1) := HB.out.trans (hb1.mono HB.out.size)
  clear hb1
  go_wp2
  go_ret
  exact ⟨rfl, HB1.out⟩

set_option maxHeartbeats 1000000 in
set_option maxRecDepth 100000 in
theorem equal_has (s : List TypeD) (S : Nat → Prop) (w : World) (F : Trees) (xs : List ByteArray) (hall : F.All (HasAt s)) (hf : F.fits) (p q : Option Addr) (c d : Nat) (a : Option Addr) (cap bx : Nat) (hx : TreesAt w F p 0) (hy : Reads w q xs) (hm : F.length ≤ 1048576) (hO : OwnSig S w (.slice a s.length cap) s) (hS : ∀ b, S b → b < w.heap.size) (hb : w.cell? ⟨bx, 0, none⟩ = some (.slice a s.length cap)) :
    Calls Tryz.prog 80 #[.slice p F.length c, .slice q xs.length d, .func (.func 81) #[] #[.pointer (some ⟨bx, 0, none⟩)]] w fun e w' => e = .returned (.bool (decide (xs.length = F.length) && F.has s xs)) ∧ Below w.heap.size w w' := by
  by_cases hlen : xs.length = F.length
  · have hz0 : (decide (xs.length = F.length) && F.has s xs) = F.has s xs := by rw [hlen]; simp
    rw [hz0]
    have HX := Lib.hid hx
    have HY := Lib.hid hy
    have HALL := Lib.hid hall
    have HF := Lib.hid hf
    have HO := Lib.hid hO
    have HS := Lib.hid hS
    have HBX := Lib.hid hb
    have HL := Lib.hid hlen
    rw [hlen]
    generalize hz : F.has s xs = z
    have HZ := Lib.hid hz
    generalize hn : F.length = n at *
    have HN := Lib.hid hn
    clear hz hn hlen hz0 hx hy hall hf hO hS hb
    go_enter Tryz.func80, Tryz.ntmps80
    go_wp2
    go_loopw [17] (fun i wr => ∃ (k : Nat) (r : Trees) (ys : List ByteArray), i = .int .i64 k ∧ k + r.length = n ∧ Hid (ys = xs.drop k) ∧ Hid (r.has s ys = z) ∧ Hid (TreesAt w r p k) ∧ Hid r.fits ∧ Hid (r.All (HasAt s)) ∧ Hid (Below w.heap.size w wr)) (fun i _ => n - (intOf i).toNat)
    case atStart => exact ⟨0, F, xs, rfl, by rw [HN.out]; omega, rfl, HZ, HX, HF, HALL, Below.refl _ _⟩
    case round =>
      obtain ⟨k, r, ys, rfl, hkn, hys, hz, hxr, hfr, hall, hB⟩ := hrel
      cases r with
      | nil =>
        obtain rfl : k = n := by simp only [Trees.length] at hkn; omega
        obtain rfl : true = z := hz.out
        clear hxr hys hz hfr hall
        go_wp2
        go_ret
        exact ⟨rfl, hB.out⟩
      | cons k1 n1 t1 a1 r =>
        have hkl : k < n := by simp only [Trees.length] at hkn; omega
        have hkn2 : k + 1 + r.length = n := by simp only [Trees.length] at hkn; omega
        have hkx : k < xs.length := by rw [HL.out]; exact hkl
        obtain ⟨y, q1, cq, rfl, h1, h2, h3, h4, hs1, _⟩ := (hxr.out.below hB.out).open
        obtain ⟨y2, rfl, j1⟩ := (reads_below HY.out hB.out) k hkx
        have hxr2 : Hid (TreesAt w r (some y) (k + 1)) := hxr.out.2
        have hys2 := hys.out
        rw [List.drop_eq_getElem_cons hkx] at hys2
        generalize xs[k] = nm at *
        subst hys2
        have HFR : Hid r.fits := hfr.out.2.2.2.2.2
        have HA2 := Lib.hid hall.out.2
        have hal : Below wr.heap.size wr (wr.alloc (.cells #[.int .i64 k1, .int .i64 n1, .string t1, .slice q1 a1.length cq] 37)) := (Below.refl _ _).alloc (Nat.le_refl _) _
        have hO1 := HO.out.keep keeps_type (w' := wr.alloc (.cells #[.int .i64 k1, .int .i64 n1, .string t1, .slice q1 a1.length cq] 37)) (fun b hb => (hal.block b (Nat.lt_of_lt_of_le (HS.out b hb) hB.out.size)).trans (hB.out.block b (HS.out b hb)))
        have H := closure_has s a1 hall.out.1 S (wr.alloc (.cells #[.int .i64 k1, .int .i64 n1, .string t1, .slice q1 a1.length cq] 37)) k1 n1 t1 q1 cq a cap nm bx hfr.out.2.2.1 (hs1.below hal) hO1 (fun b hb => Nat.lt_of_lt_of_le (Nat.lt_of_lt_of_le (HS.out b hb) hB.out.size) hal.size) (cell_below (cell_below HBX.out hB.out) hal)
        have j1' := cell_below j1 hal
        have HAL := Lib.hid hal
        have hz2 := hz.out
        simp only [Trees.has] at hz2
        generalize nodeHas s k1 n1 t1 a1.length (fun l => a1.has s l) nm = hb at *
        have HH := Lib.hid H
        clear hxr hys hz hkn hfr hall hs1 hO1 H hal hkx
        cases hb with
        | false =>
          obtain rfl : false = z := by simpa using hz2
          clear hz2
          go_wp2_with fail
          refine HH.out.mono ?_
          rintro e w1 ⟨rfl, hb1⟩
          have HB1 : Hid (Below w.heap.size w w1) := (hB.out.trans (HAL.out.mono hB.out.size)).trans (hb1.mono (Nat.le_trans hB.out.size HAL.out.size))
          clear hb1 HH
          go_wp2
          go_ret
          exact ⟨rfl, HB1.out⟩
        | true =>
          have HZ2 : Hid (r.has s (xs.drop (k + 1)) = z) := by unfold Hid; simpa using hz2
          clear hz2
          go_wp2_with fail
          refine HH.out.mono ?_
          rintro e w1 ⟨rfl, hb1⟩
          have HB1 : Hid (Below w.heap.size w w1) := (hB.out.trans (HAL.out.mono hB.out.size)).trans (hb1.mono (Nat.le_trans hB.out.size HAL.out.size))
          clear hb1 HH
          go_wp2
          go_roundw
          case rel => exact ⟨k + 1, r, xs.drop (k + 1), by go_num, hkn2, rfl, HZ2, hxr2, HFR, HA2, HB1⟩
          case measure => simp [intOf]; omega
  · have hz0 : (decide (xs.length = F.length) && F.has s xs) = false := by rw [decide_eq_false hlen]; rfl
    rw [hz0]
    have hne : ((F.length : Int) == (xs.length : Int)) = false := by simp; omega
    clear hx hy hz0 hall hO hS hb hf hlen
    go_enter Tryz.func80, Tryz.ntmps80
    go_wp2
    go_ret
    exact ⟨rfl, Below.refl _ _⟩

set_option maxRecDepth 100000 in
theorem impl_types (s : List TypeD) (S : Nat → Prop) (w : World) (F : Trees) (xs : List ByteArray) (hall : F.All (HasAt s)) (hf : F.fits) (p q : Option Addr) (c d : Nat) (a : Option Addr) (cap : Nat) (hx : TreesAt w F p 0) (hy : Reads w q xs) (hm : F.length ≤ 1048576) (hO : OwnSig S w (.slice a s.length cap) s) (hS : ∀ b, S b → b < w.heap.size) :
    Calls Tryz.prog 56 #[.agg #[.slice a s.length cap], .slice p F.length c, .slice q xs.length d] w fun e w' => e = .returned (.bool (decide (xs.length = F.length) && F.has s xs)) ∧ Below w.heap.size w w' := by
  have hB : Below w.heap.size w (w.alloc (.cells #[.slice a s.length cap] 33)) := (Below.refl _ _).alloc (Nat.le_refl _) _
  have H := Lib.hid (equal_has s S (w.alloc (.cells #[.slice a s.length cap] 33)) F xs hall hf p q c d a cap w.heap.size (hx.below hB) (reads_below hy hB) hm (hO.keep keeps_type (fun b hb => hB.block b (hS b hb))) (fun b hb => Nat.lt_of_lt_of_le (hS b hb) hB.size) (one_cell (heap_at_new w _)).1)
  have HB := Lib.hid hB
  clear hall hf hx hy hO hS hB
  go_enter Tryz.func56, Tryz.ntmps56
  go_wp2_with fail
  refine H.out.mono ?_
  rintro e w1 ⟨rfl, hb1⟩
  have HB1 : Hid (Below w.heap.size w w1) := HB.out.trans (hb1.mono HB.out.size)
  clear hb1
  go_wp2
  go_ret
  exact ⟨rfl, HB1.out⟩

theorem alloc2v (w : World) (o0 o1 : Obj) : Below w.heap.size w ((w.alloc o0).alloc o1) := ((Below.refl _ _).alloc (Nat.le_refl _) _).alloc (by simp) _
set_option maxRecDepth 100000 in
theorem intValue_value (n : Int) (w : World) : Calls Tryz.prog 60 #[.agg #[.int .i64 n]] w fun e w' => e = .returned (.agg #[.int .i64 1, .int .i64 n, .string ⟨#[]⟩, .slice none 0 0]) ∧ Below w.heap.size w w' := by
  have hs1 : (w.alloc (.cells #[.int .i64 n] 90)).heap.size = w.heap.size + 1 := Array.size_push _
  have hp := heap_at_new (w.alloc (.cells #[.int .i64 n] 90)) (.cells #[.int .i64 1, .int .i64 n, .string ⟨#[]⟩, .slice none 0 0] 37)
  rw [hs1] at hp
  have HB := Lib.hid (alloc2v w (.cells #[.int .i64 n] 90) (.cells #[.int .i64 1, .int .i64 n, .string ⟨#[]⟩, .slice none 0 0] 37))
  have HP := Lib.hid hp
  clear hp hs1
  go_enter Tryz.func60, Tryz.ntmps60
  go_wp2
  refine bodyPost_ret (results_cell_row rfl _ _ (w.heap.size + 1) _ _ _ _ rfl HP.out Tryz.underlying37 rfl (by kernel_rfl)) rfl ?_
  exact ⟨rfl, HB.out⟩

set_option maxRecDepth 100000 in
theorem textValue_value (t : ByteArray) (w : World) : Calls Tryz.prog 61 #[.agg #[.string t]] w fun e w' => e = .returned (.agg #[.int .i64 2, .int .i64 0, .string t, .slice none 0 0]) ∧ Below w.heap.size w w' := by
  have hs1 : (w.alloc (.cells #[.string t] 93)).heap.size = w.heap.size + 1 := Array.size_push _
  have hp := heap_at_new (w.alloc (.cells #[.string t] 93)) (.cells #[.int .i64 2, .int .i64 0, .string t, .slice none 0 0] 37)
  rw [hs1] at hp
  have HB := Lib.hid (alloc2v w (.cells #[.string t] 93) (.cells #[.int .i64 2, .int .i64 0, .string t, .slice none 0 0] 37))
  have HP := Lib.hid hp
  clear hp hs1
  go_enter Tryz.func61, Tryz.ntmps61
  go_wp2
  refine bodyPost_ret (results_cell_row rfl _ _ (w.heap.size + 1) _ _ _ _ rfl HP.out Tryz.underlying37 rfl (by kernel_rfl)) rfl ?_
  exact ⟨rfl, HB.out⟩

set_option maxRecDepth 100000 in
theorem conValue_value (t : ByteArray) (p : Option Addr) (l c : Nat) (w : World) : Calls Tryz.prog 64 #[.agg #[.string t, .slice p l c]] w fun e w' => e = .returned (.agg #[.int .i64 3, .int .i64 0, .string t, .slice p l c]) ∧ Below w.heap.size w w' := by
  have hs1 : (w.alloc (.cells #[.string t, .slice p l c] 95)).heap.size = w.heap.size + 1 := Array.size_push _
  have hp := heap_at_new (w.alloc (.cells #[.string t, .slice p l c] 95)) (.cells #[.int .i64 3, .int .i64 0, .string t, .slice p l c] 37)
  rw [hs1] at hp
  have HB := Lib.hid (alloc2v w (.cells #[.string t, .slice p l c] 95) (.cells #[.int .i64 3, .int .i64 0, .string t, .slice p l c] 37))
  have HP := Lib.hid hp
  clear hp hs1
  go_enter Tryz.func64, Tryz.ntmps64
  go_wp2
  refine bodyPost_ret (results_cell_row rfl _ _ (w.heap.size + 1) _ _ _ _ rfl HP.out Tryz.underlying37 rfl (by kernel_rfl)) rfl ?_
  exact ⟨rfl, HB.out⟩

end Go.Proofs.YtlbmohdebbapgaaGreat
end

/- What is proved here: the representation of a value as bytes, and what a walk with a stack has still to write of it. No condition. -/
section
namespace Go.Proofs.YtlbmohdebbapgaaGreat
open Go.RowKit

/-- A text of these bytes. -/
def str (l : List UInt8) : ByteArray := ⟨l.toArray⟩
theorem str_size (l : List UInt8) : (str l).size = l.length := by show l.toArray.size = _; simp
theorem str_data (t : ByteArray) : str t.data.toList = t := by
  cases t
  simp [str]
theorem str_append (a b : List UInt8) : str a ++ str b = str (a ++ b) := by
  apply ByteArray.ext
  show (str a ++ str b).data = _
  rw [ByteArray.data_append]
  simp [str]
theorem str_inj {a b : List UInt8} (h : str a = str b) : a = b := by
  have : (str a).data.toList = (str b).data.toList := by rw [h]
  simpa [str] using this

/-- A node without what is below it. -/
def headText (k n : Int) (t : ByteArray) : List UInt8 :=
  if k = 1 then Lib.itoa n else if k = 2 then 34 :: (t.data.toList ++ [34]) else if k = 3 then t.data.toList else [63]
def Trees.close : Trees → List UInt8
  | .nil => []
  | .cons _ _ _ _ _ => [41]
/-- The nodes of a row, each behind a separator; the first one behind a parenthesis (b). -/
def Trees.tail : Trees → Bool → List UInt8
  | .nil, _ => []
  | .cons k n t ar r, b => (if b then [40] else [44, 32]) ++ (headText k n t ++ (if k = 3 then ar.tail true ++ ar.close else [])) ++ r.tail false
/-- The representation of a node. -/
def nodeText (k n : Int) (t : ByteArray) (ar : Trees) : List UInt8 := headText k n t ++ (if k = 3 then ar.tail true ++ ar.close else [])
theorem tail_cons (k n : Int) (t : ByteArray) (ar r : Trees) (b : Bool) : (Trees.cons k n t ar r).tail b = (if b then [40] else [44, 32]) ++ nodeText k n t ar ++ r.tail false := rfl
/-- The row without the first separator. -/
def Trees.first : Trees → List UInt8
  | .nil => []
  | .cons k n t ar r => nodeText k n t ar ++ r.tail false
theorem tail_first (F : Trees) (b : Bool) (h : F ≠ .nil) : F.tail b = (if b then [40] else [44, 32]) ++ F.first := by
  cases F with
  | nil => exact absurd rfl h
  | cons k n t ar r => rw [tail_cons, List.append_assoc]; rfl
/-- What is to be written behind the rest of a row, where the rows st (the last first) are open. -/
def after : List Trees → List UInt8
  | [] => []
  | G :: st => [41] ++ G.tail false ++ after st
/-- What a stack has still to write, where its last row has still to begin. -/
def fin : List Trees → List UInt8
  | [] => []
  | F :: st => F.first ++ after st
/-- The marks between a node and the next one of the stack; the stack that is left. -/
def marks2 : List Trees → List UInt8 × List Trees
  | [] => ([], [])
  | .cons k n t ar r :: st => ([44, 32], .cons k n t ar r :: st)
  | .nil :: st => (if st = [] then marks2 st else (41 :: (marks2 st).1, (marks2 st).2))
theorem marks2_fin (st : List Trees) : ∀ F : Trees, F.tail false ++ after st = (marks2 (F :: st)).1 ++ fin (marks2 (F :: st)).2 := by
  induction st with
  | nil =>
    intro F
    cases F with
    | nil => rfl
    | cons k n t ar r => simp [marks2, fin, after, tail_first _ false (by simp : Trees.cons k n t ar r ≠ .nil)]
  | cons G st ih =>
    intro F
    cases F with
    | nil =>
      have h := ih G
      simp only [Trees.tail, marks2, after, List.nil_append]
      rw [if_neg (by simp)]
      simp only [List.cons_append, List.nil_append]
      rw [h]
    | cons k n t ar r => simp [marks2, fin, tail_first _ false (by simp : Trees.cons k n t ar r ≠ .nil)]
/-- A node without a row below: its text, then the marks. -/
theorem fin_leaf (k n : Int) (t : ByteArray) (ar r : Trees) (st : List Trees) (h : k ≠ 3 ∨ ar = .nil) : fin (.cons k n t ar r :: st) = headText k n t ++ (marks2 (r :: st)).1 ++ fin (marks2 (r :: st)).2 := by
  have e : nodeText k n t ar = headText k n t := by
    unfold nodeText
    rcases h with h | rfl
    · rw [if_neg h, List.append_nil]
    · split <;> simp [Trees.tail, Trees.close]
  rw [List.append_assoc, ← marks2_fin]
  simp only [fin, Trees.first, e, List.append_assoc]
/-- A constructor with a row below. -/
theorem fin_node (n : Int) (t : ByteArray) (ar r : Trees) (st : List Trees) (h : ar ≠ .nil) : fin (.cons 3 n t ar r :: st) = headText 3 n t ++ [40] ++ fin (ar :: r :: st) := by
  have e : ar.close = [41] := by
    cases ar with
    | nil => exact absurd rfl h
    | cons _ _ _ _ _ => rfl
  simp only [fin, Trees.first, nodeText, if_true, after, tail_first ar true h, e, List.append_assoc]
theorem fin_one (k n : Int) (t : ByteArray) (ar : Trees) : fin [.cons k n t ar .nil] = nodeText k n t ar := by
  simp [fin, Trees.first, after, Trees.tail]
/-- The stack that the marks leave: what had begun is nowhere empty on top. -/
theorem marks2_top (st : List Trees) : (marks2 st).2 = [] ∨ ∃ k n t ar r st2, (marks2 st).2 = .cons k n t ar r :: st2 := by
  induction st with
  | nil => exact .inl rfl
  | cons F st ih =>
    cases F with
    | cons k n t ar r => exact .inr ⟨k, n, t, ar, r, st, rfl⟩
    | nil =>
      simp only [marks2]
      split
      · exact ih
      · exact ih

/-! Lengths. -/
theorem itoa_len (n : Int) (h0 : -9223372036854775808 ≤ n) (h1 : n ≤ 9223372036854775807) : (Lib.itoa n).length ≤ 21 := Lib.itoa_length_le n h0 h1
theorem headText_len (k n : Int) (t : ByteArray) (hn : -9223372036854775808 ≤ n ∧ n ≤ 9223372036854775807) : (headText k n t).length ≤ 21 + t.size := by
  have h := itoa_len n hn.1 hn.2
  have e : t.data.toList.length = t.size := rfl
  unfold headText
  split
  · omega
  · split
    · simp only [List.length_cons, List.length_append, e]; simp; omega
    · split
      · omega
      · simp; omega
theorem tail_len (F : Trees) (hf : F.fits) : ∀ b, (F.tail b).length ≤ 24 * F.size := by
  induction F with
  | nil => intro b; simp [Trees.tail]
  | cons k n t ar r ih1 ih2 =>
    intro b
    obtain ⟨_, hn, _, _, h4, h5⟩ := hf
    have h := headText_len k n t hn
    have hc : ar.close.length ≤ 1 := by cases ar <;> simp [Trees.close]
    have a1 := ih1 h4 true
    have a2 := ih2 h5 false
    have e : ((if k = 3 then ar.tail true ++ ar.close else []) : List UInt8).length ≤ 24 * ar.size + 1 := by
      split
      · rw [List.length_append]; omega
      · simp
    have e2 : ((if b then [40] else [44, 32]) : List UInt8).length ≤ 2 := by cases b <;> simp
    simp only [Trees.tail, List.length_append, Trees.size]
    omega
theorem nodeText_len (k n : Int) (t : ByteArray) (ar : Trees) (hn : -9223372036854775808 ≤ n ∧ n ≤ 9223372036854775807) (hf : ar.fits) : (nodeText k n t ar).length ≤ 24 * (t.size + ar.size) + 22 := by
  have h := headText_len k n t hn
  have a1 := tail_len ar hf true
  have hc : ar.close.length ≤ 1 := by cases ar <;> simp [Trees.close]
  unfold nodeText
  rw [List.length_append]
  split
  · rw [List.length_append]; omega
  · simp; omega
end Go.Proofs.YtlbmohdebbapgaaGreat
end

/- What is proved here: the program's kindOf makes of a value what its kind says. Condition: none. -/
section
namespace Go.Proofs.YtlbmohdebbapgaaGreat
open Go.RowKit

theorem zero_int (w : World) : (zeroValue 90).run Tryz.prog w = .ok (.agg #[.int .i64 0]) w := by kernel_rfl
theorem zero_text (w : World) : (zeroValue 93).run Tryz.prog w = .ok (.agg #[.string ⟨#[]⟩]) w := by kernel_rfl
theorem zero_con (w : World) : (zeroValue 95).run Tryz.prog w = .ok (.agg #[.string ⟨#[]⟩, .slice none 0 0]) w := by kernel_rfl

/-- A value as one of the three kinds. -/
def kindV (k n : Int) (t : ByteArray) (p : Option Addr) (l c : Nat) : Value :=
  if k = 1 then .iface 90 (.agg #[.int .i64 n]) else if k = 2 then .iface 93 (.agg #[.string t]) else if k = 3 then .iface 95 (.agg #[.string t, .slice p l c]) else .nilIface

set_option maxHeartbeats 1000000 in
set_option maxRecDepth 100000 in
theorem impl_kind (w : World) (k n : Int) (t : ByteArray) (p : Option Addr) (l c : Nat) :
    Calls Tryz.prog 51 #[.agg #[.int .i64 k, .int .i64 n, .string t, .slice p l c]] w fun e w' => e = .returned (kindV k n t p l c) ∧ Below w.heap.size w w' := by
  have HB := Lib.hid ((Below.refl w.heap.size w).alloc (Nat.le_refl _) (.cells #[.int .i64 k, .int .i64 n, .string t, .slice p l c] 37))
  by_cases h1 : k = 1
  · subst h1
    go_enter Tryz.func51, Tryz.ntmps51
    go_wp2
    go_ret
    exact ⟨rfl, HB.out⟩
  · have e1 : (k == 1) = false := by simpa using h1
    by_cases h2 : k = 2
    · subst h2
      go_enter Tryz.func51, Tryz.ntmps51
      go_wp2
      go_ret
      exact ⟨rfl, HB.out⟩
    · have e2 : (k == 2) = false := by simpa using h2
      by_cases h3 : k = 3
      · subst h3
        go_enter Tryz.func51, Tryz.ntmps51
        go_wp2
        go_ret
        exact ⟨rfl, HB.out⟩
      · have e3 : (k == 3) = false := by simpa using h3
        have HK : Hid (kindV k n t p l c = .nilIface) := by unfold Hid kindV; rw [if_neg h1, if_neg h2, if_neg h3]
        clear h1 h2 h3
        go_enter Tryz.func51, Tryz.ntmps51
        go_wp2
        go_ret
        exact ⟨by rw [HK.out]; rfl, HB.out⟩
end Go.Proofs.YtlbmohdebbapgaaGreat
end

/- What is proved here: the model's type assertion with two results, at an interface value whose type is known. No condition. -/
section
namespace Go.Proofs.YtlbmohdebbapgaaGreat
open Go.RowKit

theorem assert_yes {P : Program} {T X : TypeId} {fs : Array Field} (ht : P.underlying T = some (.struct fs)) (v : Value) (w : World) : (Instr.typeAssert (.iface T v) X T true).run P w = .ok (.tuple #[v, .bool true]) w := by
  simp [Instr.typeAssert, run_underlying ht, Result.andThen]
theorem assert_no {P : Program} {T T2 X : TypeId} {fs : Array Field} {z : Value} (ht : P.underlying T = some (.struct fs)) (hz : ∀ w, (zeroValue T).run P w = .ok z w) (hne : T2 ≠ T) (v : Value) (w : World) : (Instr.typeAssert (.iface T2 v) X T true).run P w = .ok (.tuple #[z, .bool false]) w := by
  simp [Instr.typeAssert, run_underlying ht, Result.andThen, hz, hne]
theorem assert_nil {P : Program} {T X : TypeId} {fs : Array Field} {z : Value} (ht : P.underlying T = some (.struct fs)) (hz : ∀ w, (zeroValue T).run P w = .ok z w) (w : World) : (Instr.typeAssert .nilIface X T true).run P w = .ok (.tuple #[z, .bool false]) w := by
  simp [Instr.typeAssert, run_underlying ht, Result.andThen, hz]
end Go.Proofs.YtlbmohdebbapgaaGreat
end

/- What is proved here: when two rows of nodes are the same; the program's haveEqualFields and slices.EqualFunc over it. Condition: the rows lie in memory as said. -/
section
namespace Go.Proofs.YtlbmohdebbapgaaGreat
open Go.RowKit

/-- Two nodes agree but for what is below them. -/
def headEq (k n : Int) (t : ByteArray) (a : Nat) (k2 n2 : Int) (t2 : ByteArray) (a2 : Nat) : Bool := (k == k2) && ((n == n2) && ((t.toList == t2.toList) && ((a : Int) == (a2 : Int))))
/-- Two rows agree node by node, but for what is below. -/
def Trees.flat : Trees → Trees → Bool
  | .nil, .nil => true
  | .cons k n t a r, .cons k2 n2 t2 a2 r2 => headEq k n t a.length k2 n2 t2 a2.length && r.flat r2
  | _, _ => false
def Trees.same : Trees → Trees → Bool
  | .nil, .nil => true
  | .cons k n t a r, .cons k2 n2 t2 a2 r2 => headEq k n t a.length k2 n2 t2 a2.length && a.same a2 && r.same r2
  | _, _ => false
/-- What is below, pair by pair. -/
def Trees.pairs : Trees → Trees → List (Trees × Trees)
  | .cons _ _ _ a r, .cons _ _ _ a2 r2 => (a, a2) :: r.pairs r2
  | _, _ => []
theorem Trees.same_flat (F : Trees) : ∀ G : Trees, F.same G = (F.flat G && (F.pairs G).all fun p => p.1.same p.2) := by
  induction F with
  | nil => intro G; cases G <;> rfl
  | cons k n t a r _ ih =>
    intro G
    cases G with
    | nil => rfl
    | cons k2 n2 t2 a2 r2 =>
      simp only [Trees.same, Trees.flat, Trees.pairs, List.all_cons, ih r2]
      cases headEq k n t a.length k2 n2 t2 a2.length <;> cases a.same a2 <;> cases r.flat r2 <;> simp
theorem Trees.flat_length (F : Trees) : ∀ G : Trees, F.flat G = true → F.length = G.length := by
  induction F with
  | nil => intro G h; cases G with | nil => rfl | cons _ _ _ _ _ => cases h
  | cons k n t a r _ ih =>
    intro G h
    cases G with
    | nil => cases h
    | cons k2 n2 t2 a2 r2 =>
      simp only [Trees.flat, Bool.and_eq_true] at h
      simp only [Trees.length, ih r2 h.2]
theorem Trees.same_length (F G : Trees) (h : F.same G = true) : F.length = G.length := by
  rw [Trees.same_flat] at h
  simp only [Bool.and_eq_true] at h
  exact Trees.flat_length F G h.1
theorem headEq_iff (k n : Int) (t : ByteArray) (a : Nat) (k2 n2 : Int) (t2 : ByteArray) (a2 : Nat) : headEq k n t a k2 n2 t2 a2 = true ↔ k = k2 ∧ n = n2 ∧ t = t2 ∧ a = a2 := by
  unfold headEq
  simp only [Bool.and_eq_true, beq_iff_eq]
  constructor
  · rintro ⟨h1, h2, h3, h4⟩
    exact ⟨h1, h2, by cases t; cases t2; simpa [ByteArray.toList_eq] using h3, by omega⟩
  · rintro ⟨rfl, rfl, rfl, rfl⟩
    exact ⟨rfl, rfl, rfl, rfl⟩
theorem Trees.same_iff (F : Trees) : ∀ G : Trees, F.same G = true ↔ F = G := by
  induction F with
  | nil => intro G; cases G <;> simp [Trees.same]
  | cons k n t a r ih1 ih2 =>
    intro G
    cases G with
    | nil => simp [Trees.same]
    | cons k2 n2 t2 a2 r2 =>
      simp only [Trees.same, Bool.and_eq_true, ih1, ih2, headEq_iff]
      constructor
      · rintro ⟨⟨⟨rfl, rfl, rfl, _⟩, rfl⟩, rfl⟩; rfl
      · intro h; cases h; exact ⟨⟨⟨rfl, rfl, rfl, rfl⟩, rfl⟩, rfl⟩

theorem alloc2 (w : World) (o0 o1 : Obj) : Below w.heap.size w ((w.alloc o0).alloc o1) := ((Below.refl _ _).alloc (Nat.le_refl _) _).alloc (by simp) _

set_option maxHeartbeats 1000000 in
set_option maxRecDepth 100000 in
theorem impl_fields (w : World) (k n : Int) (t : ByteArray) (p : Option Addr) (a c : Nat) (k2 n2 : Int) (t2 : ByteArray) (p2 : Option Addr) (a2 c2 : Nat) :
    Calls Tryz.prog 52 #[.agg #[.int .i64 k, .int .i64 n, .string t, .slice p a c], .agg #[.int .i64 k2, .int .i64 n2, .string t2, .slice p2 a2 c2]] w fun e w' => e = .returned (.bool (headEq k n t a k2 n2 t2 a2)) ∧ Below w.heap.size w w' := by
  have HB := Lib.hid (alloc2 w (.cells #[.int .i64 k, .int .i64 n, .string t, .slice p a c] 37) (.cells #[.int .i64 k2, .int .i64 n2, .string t2, .slice p2 a2 c2] 37))
  have HE : Hid (headEq k n t a k2 n2 t2 a2 = ((k == k2) && ((n == n2) && ((t.toList == t2.toList) && ((a : Int) == (a2 : Int)))))) := rfl
  generalize headEq k n t a k2 n2 t2 a2 = z at *
  generalize h1 : (k == k2) = b1 at *
  generalize h2 : (n == n2) = b2 at *
  generalize h3 : (t.toList == t2.toList) = b3 at *
  generalize h4 : ((a : Int) == (a2 : Int)) = b4 at *
  cases b1 with
  | false =>
    have HZ : Hid (z = false) := by unfold Hid; rw [HE.out]; rfl
    go_enter Tryz.func52, Tryz.ntmps52
    go_wp2
    go_ret
    exact ⟨by rw [HZ.out]; rfl, HB.out⟩
  | true =>
    cases b2 with
    | false =>
      have HZ : Hid (z = false) := by unfold Hid; rw [HE.out]; rfl
      go_enter Tryz.func52, Tryz.ntmps52
      go_wp2
      go_ret
      exact ⟨by rw [HZ.out]; rfl, HB.out⟩
    | true =>
      cases b3 with
      | false =>
        have HZ : Hid (z = false) := by unfold Hid; rw [HE.out]; rfl
        go_enter Tryz.func52, Tryz.ntmps52
        go_wp2
        go_ret
        exact ⟨by rw [HZ.out]; rfl, HB.out⟩
      | true =>
        have HZ : Hid (z = b4) := by unfold Hid; rw [HE.out]; rfl
        go_enter Tryz.func52, Tryz.ntmps52
        go_wp2
        go_ret
        exact ⟨by rw [HZ.out]; rfl, HB.out⟩
end Go.Proofs.YtlbmohdebbapgaaGreat
end
