/- What is proved here: a piece of the proof of YtdifefgigcjgeaaDoorExactParseExpr (Names, BlLen, InInt, ExprForm, Str, ExprText, FirstWord, Num). Condition: none beyond what each part says. -/
import Derived.Test.YtdifefgigcjgeaaDoorPe01
import Derived.Lib.ItoaMem
import Derived.Lib.ItoaLen
import Derived.Laws.RangeAny
import Derived.Laws.RangeString
import Derived.Lib.ItoaNum

/- What is proved here: IsReserved, IsName, IsConName, of the program and of the model, say what a name is. Condition: the text's length is a length. -/
section
namespace Go.Proofs.YtdifefgigcjgeaaDoor
open Go.RowKit

def reserved : List ByteArray := [⟨#[116, 121, 112, 101]⟩, ⟨#[109, 97, 116, 99, 104]⟩, ⟨#[99, 97, 115, 101]⟩, ⟨#[105, 102]⟩, ⟨#[105, 110, 116]⟩, ⟨#[116, 101, 120, 116]⟩]

set_option maxHeartbeats 1000000 in
set_option maxRecDepth 100000 in
theorem impl_reserved (s : ByteArray) (hs : s.size ≤ maxLen) (w : World) :
    Calls Tryd.prog 120 #[.string s] w fun e w' => e = .returned (.bool (bl (s ∈ reserved))) ∧ Below w.heap.size w w' := by
  have hmm := @run_makeMap Tryd.prog
  have h0 := isSet_made w
  have hb0 : Below w.heap.size w (w.alloc (.map #[] 0)) := (Below.refl _ _).alloc (Nat.le_refl _) _
  obtain ⟨w1, e1, h1, g1⟩ := h0.put (by decide) ⟨#[116, 121, 112, 101]⟩ (by decide)
  obtain ⟨w2, e2, h2, g2⟩ := h1.put (by decide) ⟨#[109, 97, 116, 99, 104]⟩ (by decide)
  obtain ⟨w3, e3, h3, g3⟩ := h2.put (by decide) ⟨#[99, 97, 115, 101]⟩ (by decide)
  obtain ⟨w4, e4, h4, g4⟩ := h3.put (by decide) ⟨#[105, 102]⟩ (by decide)
  obtain ⟨w5, e5, h5, g5⟩ := h4.put (by decide) ⟨#[105, 110, 116]⟩ (by decide)
  obtain ⟨w6, e6, h6, g6⟩ := h5.put (by decide) ⟨#[116, 101, 120, 116]⟩ (by decide)
  have hg := ((((g1.trans g2).trans g3).trans g4).trans g5).trans g6
  have hB : Below w.heap.size w w6 := hb0.grown hg hb0.size (fun j hj => by injection hj with hj; omega)
  have hl : (Instr.lookup 158 (.map (some w.heap.size)) (.string s) false).run Tryd.prog w6 = .ok (.bool (bl (s ∈ reserved))) w6 := h6.look s hs
  generalize bl (s ∈ reserved) = q at hl ⊢
  have HB := Lib.hid hB
  have HS := Lib.hid hs
  clear g1 g2 g3 g4 g5 g6 hg h0 h1 h2 h3 h4 h5 h6 hb0 hB hs
  go_enter Tryd.func120, Tryd.ntmps120
  go_wp2
  go_ret
  exact ⟨rfl, HB.out⟩

set_option maxHeartbeats 1000000 in
set_option maxRecDepth 100000 in
theorem spec_reserved (s : ByteArray) (w : World) :
    Calls Tryd.prog 105 #[.string s] w fun e w' => e = .returned (.bool (bl (s ∈ reserved))) ∧ Below w.heap.size w w' := by
  have hM := heap_at_new w (.cells (reserved.map Value.string).toArray 9)
  have hR := reads_new hM
  have hB : Below w.heap.size w (w.alloc (.cells (reserved.map Value.string).toArray 9)) := (Below.refl _ _).alloc (Nat.le_refl _) _
  have HI : Hid (bl (s ∈ reserved) = decide (0 ≤ Lib.idxOfS reserved s)) := by
    unfold Hid
    by_cases h : s ∈ reserved
    · rw [bl_true h, decide_eq_true ((Lib.idxOfS_nonneg_iff _ _).2 h)]
    · rw [bl_false h, decide_eq_false (fun h2 => h ((Lib.idxOfS_nonneg_iff _ _).1 h2))]
  have H := spec_index _ _ 6 reserved s hR (by decide)
  clear hM hR
  go_enter Tryd.func105, Tryd.ntmps105
  go_wp2_with fail
  refine H.mono ?_
  rintro e w1 ⟨rfl, rfl⟩
  generalize Lib.idxOfS reserved s = z at *
  go_wp2
  go_ret
  exact ⟨by rw [HI.out]; rfl, hB⟩

def Name (s : ByteArray) : Prop := Word 97 122 s ∧ ¬ s ∈ reserved

set_option maxRecDepth 100000 in
theorem impl_con (s : ByteArray) (hs : s.size ≤ maxLen) (w : World) :
    Calls Tryd.prog 87 #[.string s] w fun e w' => e = .returned (.bool (bl (Word 65 90 s))) ∧ Below w.heap.size w w' := by
  go_enter Tryd.func87, Tryd.ntmps87
  go_wp2_with fail
  refine (impl_word s 65 90 hs _).mono ?_
  rintro e w1 ⟨rfl, hb⟩
  go_wp2
  go_ret
  exact ⟨rfl, hb⟩

set_option maxRecDepth 100000 in
theorem impl_name (s : ByteArray) (hs : s.size ≤ maxLen) (w : World) :
    Calls Tryd.prog 91 #[.string s] w fun e w' => e = .returned (.bool (bl (Name s))) ∧ Below w.heap.size w w' := by
  by_cases h : Word 97 122 s
  · have hb := bl_true h
    have HN : Hid (bl (Name s) = !bl (s ∈ reserved)) := by
      unfold Hid
      by_cases h2 : s ∈ reserved
      · rw [bl_true h2, bl_false (fun h3 => h3.2 h2)]; rfl
      · rw [bl_false h2, bl_true ⟨h, h2⟩]; rfl
    go_enter Tryd.func91, Tryd.ntmps91
    go_wp2_with fail
    refine (impl_word s 97 122 hs _).mono ?_
    rintro e w1 ⟨rfl, hb1⟩
    rw [hb]
    go_wp2_with fail
    refine (impl_reserved s hs _).mono ?_
    rintro e w2 ⟨rfl, hb2⟩
    have hb3 := hb1.trans (hb2.mono hb1.size)
    go_wp2
    go_ret
    exact ⟨by rw [HN.out]; rfl, hb3⟩
  · have hb := bl_false h
    have HN : Hid (bl (Name s) = false) := bl_false (fun h3 => h h3.1)
    go_enter Tryd.func91, Tryd.ntmps91
    go_wp2_with fail
    refine (impl_word s 97 122 hs _).mono ?_
    rintro e w1 ⟨rfl, hb1⟩
    rw [hb]
    go_wp2
    go_ret
    exact ⟨by rw [HN.out]; rfl, hb1⟩

theorem empty_of (s : ByteArray) (h : s.size = 0) : s = ⟨#[]⟩ := by
  cases s with | mk d => cases d with | mk l => cases l with | nil => rfl | cons c r => simp [ByteArray.size] at h
theorem ne_empty (s : ByteArray) (h : 0 < s.size) : (s.toList == []) = false := by
  rw [ByteArray.toList_eq]
  have : s.data.toList.length = s.size := rfl
  cases hl : s.data.toList with
  | nil => rw [hl] at this; simp at this; omega
  | cons c r => rfl
theorem bl_empty (s : ByteArray) (h : 0 < s.size) : (s.toList == ByteArray.toList ⟨#[]⟩) = false := by
  rw [Lib.bytes_beq_false_iff]
  intro e
  rw [e] at h
  exact absurd h (by decide)

set_option maxHeartbeats 1000000 in
set_option maxRecDepth 100000 in
theorem spec_con (s : ByteArray) (hs : s.size ≤ maxLen) (w : World) :
    Calls Tryd.prog 80 #[.string s] w fun e w' => e = .returned (.bool (bl (Word 65 90 s))) ∧ Below w.heap.size w w' := by
  by_cases h0 : s.size = 0
  · have HN : Hid (bl (Word 65 90 s) = false) := bl_false (fun h => by have := h.1; omega)
    obtain rfl := empty_of s h0
    go_enter Tryd.func80, Tryd.ntmps80
    go_wp2
    go_ret
    exact ⟨by rw [HN.out]; rfl, Below.refl _ _⟩
  · have hp : 0 < s.size := by omega
    have hne := ne_empty s hp
    have hne2 := bl_empty s hp
    by_cases h1 : 65 ≤ s[0].toNat
    · by_cases h2 : s[0].toNat ≤ 90
      · have HN : Hid (bl (Word 65 90 s) = bl (Rest s)) := bl_congr ⟨fun h => ⟨h.1, h.2.1, h.2.2.2⟩, fun h => ⟨h.1, h.2.1, fun _ => ⟨h1, h2⟩, h.2.2⟩⟩
        go_enter Tryd.func80, Tryd.ntmps80
        go_wp2_with fail
        refine (spec_rest s hs _).mono ?_
        rintro e w1 ⟨rfl, hb⟩
        go_wp2
        go_ret
        exact ⟨by rw [HN.out]; rfl, hb⟩
      · have HN : Hid (bl (Word 65 90 s) = false) := bl_false (fun h => h2 (h.2.2.1 hp).2)
        go_enter Tryd.func80, Tryd.ntmps80
        go_wp2
        go_ret
        exact ⟨by rw [HN.out]; rfl, Below.refl _ _⟩
    · have HN : Hid (bl (Word 65 90 s) = false) := bl_false (fun h => h1 (h.2.2.1 hp).1)
      go_enter Tryd.func80, Tryd.ntmps80
      go_wp2
      go_ret
      exact ⟨by rw [HN.out]; rfl, Below.refl _ _⟩

set_option maxHeartbeats 1000000 in
set_option maxRecDepth 100000 in
theorem spec_name (s : ByteArray) (hs : s.size ≤ maxLen) (w : World) :
    Calls Tryd.prog 72 #[.string s] w fun e w' => e = .returned (.bool (bl (Name s))) ∧ Below w.heap.size w w' := by
  by_cases h0 : s.size = 0
  · have HN : Hid (bl (Name s) = false) := bl_false (fun h => by have := h.1.1; omega)
    obtain rfl := empty_of s h0
    go_enter Tryd.func72, Tryd.ntmps72
    go_wp2
    go_ret
    exact ⟨by rw [HN.out]; rfl, Below.refl _ _⟩
  · have hp : 0 < s.size := by omega
    have hne := ne_empty s hp
    have hne2 := bl_empty s hp
    by_cases h1 : 97 ≤ s[0].toNat ∧ s[0].toNat ≤ 122
    · have hb1 := bl_true h1
      by_cases h2 : Rest s
      · have hb2 := bl_true h2
        have HN : Hid (bl (Name s) = !bl (s ∈ reserved)) := by
          unfold Hid
          have hW : Word 97 122 s := ⟨h2.1, h2.2.1, fun _ => h1, h2.2.2⟩
          by_cases h3 : s ∈ reserved
          · rw [bl_true h3, bl_false (fun h => h.2 h3)]; rfl
          · rw [bl_false h3, bl_true ⟨hW, h3⟩]; rfl
        go_enter Tryd.func72, Tryd.ntmps72
        go_wp2_with fail
        refine (spec_lower s[0] _).mono ?_
        rintro e w1 ⟨rfl, rfl⟩
        rw [hb1]
        go_wp2_with fail
        refine (spec_rest s hs _).mono ?_
        rintro e w2 ⟨rfl, hB1⟩
        rw [hb2]
        go_wp2_with fail
        refine (spec_reserved s _).mono ?_
        rintro e w3 ⟨rfl, hB2⟩
        have hB3 := hB1.trans (hB2.mono hB1.size)
        go_wp2
        go_ret
        exact ⟨by rw [HN.out]; rfl, hB3⟩
      · have hb2 := bl_false h2
        have HN : Hid (bl (Name s) = false) := bl_false (fun h => h2 ⟨h.1.1, h.1.2.1, h.1.2.2.2⟩)
        go_enter Tryd.func72, Tryd.ntmps72
        go_wp2_with fail
        refine (spec_lower s[0] _).mono ?_
        rintro e w1 ⟨rfl, rfl⟩
        rw [hb1]
        go_wp2_with fail
        refine (spec_rest s hs _).mono ?_
        rintro e w2 ⟨rfl, hB1⟩
        rw [hb2]
        go_wp2
        go_ret
        exact ⟨by rw [HN.out]; rfl, hB1⟩
    · have hb1 := bl_false h1
      have HN : Hid (bl (Name s) = false) := bl_false (fun h => h1 (h.1.2.2.1 hp))
      go_enter Tryd.func72, Tryd.ntmps72
      go_wp2_with fail
      refine (spec_lower s[0] _).mono ?_
      rintro e w1 ⟨rfl, rfl⟩
      rw [hb1]
      go_wp2
      go_ret
      exact ⟨by rw [HN.out]; rfl, Below.refl _ _⟩
end Go.Proofs.YtdifefgigcjgeaaDoor
end

/- What is proved here: lengths and emptiness as Booleans. No condition. -/
section
namespace Go.Proofs.YtdifefgigcjgeaaDoor
open Go.RowKit

theorem bl_len (l c : Nat) : ((l : Int) == (c : Int)) = bl (l = c) := by
  by_cases h : l = c
  · rw [bl_true h, h]; simp
  · rw [bl_false h]; simp; omega
theorem bl_empty_eq (t : ByteArray) : (t.toList == []) = bl (t.size = 0) := by
  by_cases h : t.size = 0
  · rw [bl_true h, empty_of t h, ByteArray.toList_eq]; rfl
  · rw [bl_false h]; exact ne_empty t (by omega)
end Go.Proofs.YtdifefgigcjgeaaDoor
end

/- What is proved here: whether an integer is within the bounds of the document, as model and program tell it. No condition. -/
section
namespace Go.Proofs.YtdifefgigcjgeaaDoor
open Go.RowKit

def inInt (n : Int) : Bool := decide (-999999999999 ≤ n) && decide (n ≤ 999999999999)
set_option maxRecDepth 100000 in
theorem spec_inInt (n : Int) (w : World) :
    Calls Tryd.prog 96 #[.int .i64 n, .int .i64 (-999999999999), .int .i64 999999999999] w fun e w' => e = .returned (.bool (inInt n)) ∧ w' = w := by
  unfold inInt
  by_cases h1 : -999999999999 ≤ n
  · have e1 : decide (-999999999999 ≤ n) = true := by simpa using h1
    rw [e1]
    clear h1
    go_enter Tryd.func96, Tryd.ntmps96
    go_wp2
    go_ret
    exact ⟨rfl, rfl⟩
  · have e1 : decide (-999999999999 ≤ n) = false := by simpa using h1
    rw [e1]
    clear h1
    go_enter Tryd.func96, Tryd.ntmps96
    go_wp2
    go_ret
    exact ⟨rfl, rfl⟩
end Go.Proofs.YtdifefgigcjgeaaDoor
end

/- What is proved here: the four forms of an expression's node, and when an expression is valid (pure); whether a number is an operator, as model and program tell it. No condition. -/
section
namespace Go.Proofs.YtdifefgigcjgeaaDoor
open Go.RowKit

def inOp (n : Int) : Bool := decide (1 ≤ n) && decide (n ≤ 7)
/-- One of the four forms; l nodes are below. -/
noncomputable def exprForm (k n : Int) (t : ByteArray) (l : Nat) : Bool :=
  if k = 1 then inInt n && (bl (t.size = 0) && bl (l = 0))
  else if k = 2 then (n == 0) && (bl (Name t) && bl (l = 0))
  else if k = 3 then inOp n && (bl (t.size = 0) && bl (l = 2))
  else if k = 4 then (n == 0) && (bl (t.size = 0) && bl (l = 1))
  else false
/-- Every node of a row has one of the forms. -/
noncomputable def Trees.formedE : Trees → Bool
  | .nil => true
  | .cons k n t ar r => exprForm k n t ar.length && (ar.formedE && r.formedE)
theorem formedE_pre (F : Trees) : ∀ d, (F.pre d).all (fun x => exprForm x.2.1 x.2.2.1 x.2.2.2.1 x.2.2.2.2) = F.formedE := by
  induction F with
  | nil => intro d; rfl
  | cons k n t ar r ih1 ih2 => intro d; simp only [Trees.pre, Trees.formedE, List.all_cons, List.all_append, ih1, ih2]
theorem allExpr_node (k n : Int) (t : ByteArray) (F : Trees) : (((1, k, n, t, F.length) :: F.pre 2 : List Part)).all (fun x => exprForm x.2.1 x.2.2.1 x.2.2.2.1 x.2.2.2.2) = (exprForm k n t F.length && F.formedE) := by
  rw [List.all_cons, formedE_pre]
/-- At most 12 nodes, a depth of at most 6, and every node has one of the four forms. -/
noncomputable def validExpr (k n : Int) (t : ByteArray) (F : Trees) : Bool := decide (1 + F.count ≤ 12 ∧ F.deep + 1 ≤ 6) && (exprForm k n t F.length && F.formedE)
set_option maxRecDepth 100000 in
theorem spec_inOp (n : Int) (w : World) :
    Calls Tryd.prog 96 #[.int .i64 n, .int .i64 1, .int .i64 7] w fun e w' => e = .returned (.bool (inOp n)) ∧ w' = w := by
  unfold inOp
  by_cases h1 : 1 ≤ n
  · have e1 : decide (1 ≤ n) = true := by simpa using h1
    rw [e1]
    clear h1
    go_enter Tryd.func96, Tryd.ntmps96
    go_wp2
    go_ret
    exact ⟨rfl, rfl⟩
  · have e1 : decide (1 ≤ n) = false := by simpa using h1
    rw [e1]
    clear h1
    go_enter Tryd.func96, Tryd.ntmps96
    go_wp2
    go_ret
    exact ⟨rfl, rfl⟩
end Go.Proofs.YtdifefgigcjgeaaDoor
end

/- What is proved here: texts as lists of bytes. No condition. -/
section
namespace Go.Proofs.YtdifefgigcjgeaaDoor
open Go.RowKit

/-- A text of these bytes. -/
def str (l : List UInt8) : ByteArray := ⟨l.toArray⟩
theorem str_size (l : List UInt8) : (str l).size = l.length := by show l.toArray.size = _; simp
theorem str_data (t : ByteArray) : str t.data.toList = t := by
  cases t
  simp [str]
theorem str_append (a b : List UInt8) : str a ++ str b = str (a ++ b) := by
  apply ByteArray.ext
  show (str a ++ str b).data = _
  rw [ByteArray.data_append]
  simp [str]
theorem str_inj {a b : List UInt8} (h : str a = str b) : a = b := by
  have : (str a).data.toList = (str b).data.toList := by rw [h]
  simpa [str] using this

theorem itoa_len (n : Int) (h0 : -9223372036854775808 ≤ n) (h1 : n ≤ 9223372036854775807) : (Lib.itoa n).length ≤ 21 := Lib.itoa_length_le n h0 h1
end Go.Proofs.YtdifefgigcjgeaaDoor
end

/- What is proved here: the representation of an expression as bytes (pure). No condition. -/
section
namespace Go.Proofs.YtdifefgigcjgeaaDoor
open Go.RowKit

theorem inOp_iff (n : Int) : inOp n = true ↔ n = 1 ∨ n = 2 ∨ n = 3 ∨ n = 4 ∨ n = 5 ∨ n = 6 ∨ n = 7 := by
  unfold inOp
  simp only [Bool.and_eq_true, decide_eq_true_eq]
  omega
theorem exprForm_iff (k n : Int) (t : ByteArray) (l : Nat) : exprForm k n t l = true ↔ (k = 1 ∧ inInt n = true ∧ t.size = 0 ∧ l = 0) ∨ (k = 2 ∧ n = 0 ∧ Name t ∧ l = 0) ∨ (k = 3 ∧ inOp n = true ∧ t.size = 0 ∧ l = 2) ∨ (k = 4 ∧ n = 0 ∧ t.size = 0 ∧ l = 1) := by
  unfold exprForm
  by_cases h1 : k = 1
  · subst h1; simp [bl_iff]
  by_cases h2 : k = 2
  · subst h2; simp [bl_iff]
  by_cases h3 : k = 3
  · subst h3; simp [bl_iff]
  by_cases h4 : k = 4
  · subst h4; simp [bl_iff]
  simp [h1, h2, h3, h4]
/-- What stands between the two below an operator. -/
def signE (n : Int) : List UInt8 := if n = 1 then [32, 43, 32] else if n = 2 then [32, 45, 32] else if n = 3 then [32, 42, 32] else if n = 4 then [32, 60, 32] else if n = 5 then [32, 61, 61, 32] else if n = 6 then [32, 38, 32] else if n = 7 then [32, 124, 32] else []
theorem signE_len (n : Int) : (signE n).length ≤ 4 := by
  unfold signE
  repeat' split
  all_goals simp
/-- A node, given the representations of what is below it. -/
def nodeE (k n : Int) (t : ByteArray) (xs : List (List UInt8)) : List UInt8 :=
  if k = 1 then Lib.itoa n
  else if k = 2 then t.data.toList
  else if k = 4 then [33] ++ xs.headD []
  else [40] ++ xs.headD [] ++ signE n ++ xs.tail.headD [] ++ [41]
def Trees.textsE : Trees → List (List UInt8)
  | .nil => []
  | .cons k n t ar r => nodeE k n t ar.textsE :: r.textsE
theorem textsE_length (F : Trees) : F.textsE.length = F.length := by
  induction F with
  | nil => rfl
  | cons k n t ar r _ ih => simp [Trees.textsE, Trees.length, ih]
def roomE (xs : List (List UInt8)) : Nat := (xs.map fun x => x.length).sum
theorem headE_room (xs : List (List UInt8)) : (xs.headD []).length + (xs.tail.headD []).length ≤ roomE xs := by
  match xs with
  | [] => simp [roomE]
  | [x] => simp [roomE]
  | x :: y :: r => simp [roomE] <;> omega
theorem nodeE_len (k n : Int) (t : ByteArray) (l : Nat) (xs : List (List UInt8)) (h : exprForm k n t l = true) : (nodeE k n t xs).length ≤ 21 + roomE xs := by
  have e : t.data.toList.length = t.size := rfl
  have h1 := headE_room xs
  have h2 := signE_len n
  unfold nodeE
  rcases (exprForm_iff k n t l).1 h with ⟨rfl, hi, _⟩ | ⟨rfl, _, hN, _⟩ | ⟨rfl, _⟩ | ⟨rfl, _⟩
  · unfold inInt at hi
    simp only [Bool.and_eq_true, decide_eq_true_eq] at hi
    have := itoa_len n (by omega) (by omega)
    simp only [if_true]
    omega
  · have : t.size ≤ 8 := hN.1.2.1
    simp only [show ¬ (2 : Int) = 1 by decide, if_false, if_true]
    omega
  · simp only [show ¬ (3 : Int) = 1 by decide, show ¬ (3 : Int) = 2 by decide, show ¬ (3 : Int) = 4 by decide, if_false, List.length_append, List.length_singleton]
    omega
  · simp only [show ¬ (4 : Int) = 1 by decide, show ¬ (4 : Int) = 2 by decide, if_false, if_true, List.length_append, List.length_singleton]
    omega
theorem textsE_room (F : Trees) (h : F.formedE = true) : roomE F.textsE ≤ 21 * F.count := by
  induction F with
  | nil => simp [Trees.textsE, roomE]
  | cons k n t ar r ih1 ih2 =>
    simp only [Trees.formedE, Bool.and_eq_true] at h
    have h1 := nodeE_len k n t ar.length ar.textsE h.1
    have h2 := ih1 h.2.1
    have h3 := ih2 h.2.2
    simp only [Trees.textsE, Trees.count, roomE, List.map_cons, List.sum_cons] at h1 h2 h3 ⊢
    omega
theorem textE_len (k n : Int) (t : ByteArray) (F : Trees) (h : F.formedE = true) (h0 : exprForm k n t F.length = true) : (nodeE k n t F.textsE).length ≤ 21 * (1 + F.count) := by
  have h1 := nodeE_len k n t F.length F.textsE h0
  have h2 := textsE_room F h
  omega
/-- The representation of an expression; none of what is no valid one. -/
noncomputable def exprFmt (k n : Int) (t : ByteArray) (F : Trees) : ByteArray := if validExpr k n t F = true then str (nodeE k n t F.textsE) else ⟨#[]⟩
end Go.Proofs.YtdifefgigcjgeaaDoor
end

/- What is proved here: the program's firstWord takes the bytes that can stand in a word. Condition: the text's length is a length. -/
section
namespace Go.Proofs.YtdifefgigcjgeaaDoor
open Go.RowKit

/-- A byte (or rune) that can stand in an integer, in a name or for a wildcard. -/
def isWZ (c : Int) : Bool := decide ((97 ≤ c ∧ c ≤ 122) ∨ (65 ≤ c ∧ c ≤ 90) ∨ (48 ≤ c ∧ c ≤ 57) ∨ c = 45 ∨ c = 95)
def isWB (c : UInt8) : Bool := isWZ (c.toNat : Int)
/-- The word at the start. -/
def lead (s : List UInt8) : List UInt8 := s.takeWhile isWB
theorem lead_all (a r : List UInt8) (ha : ∀ c ∈ a, isWB c = true) (hr : ∀ c t, r = c :: t → isWB c = false) : lead (a ++ r) = a := by
  unfold lead
  induction a with
  | nil =>
    cases r with
    | nil => rfl
    | cons c t => rw [List.nil_append, List.takeWhile_cons, hr c t rfl]; rfl
  | cons c a ih =>
    rw [List.cons_append, List.takeWhile_cons, ha c (by simp), if_pos rfl, ih (fun x hx => ha x (by simp [hx]))]
theorem lead_prefix (s : List UInt8) : (lead s).isPrefixOf s = true := by
  rw [List.isPrefixOf_iff_prefix]
  exact List.takeWhile_prefix _
theorem lead_take (s : List UInt8) : s.take (lead s).length = lead s := by
  have h := List.isPrefixOf_iff_prefix.1 (lead_prefix s)
  exact (List.prefix_iff_eq_take.1 h).symm
theorem lead_word (s : List UInt8) : ∀ c ∈ lead s, isWB c = true := by
  unfold lead
  induction s with
  | nil => intro c hc; cases hc
  | cons x r ih =>
    intro c hc
    rw [List.takeWhile_cons] at hc
    cases hx : isWB x with
    | false => rw [hx] at hc; cases hc
    | true =>
      rw [hx] at hc
      rcases List.mem_cons.1 hc with rfl | hc
      · exact hx
      · exact ih c hc
theorem lead_stop (s : List UInt8) (k : Nat) (hk : k < s.length) (h : ∀ j (hj : j < s.length), j < k → isWB s[j] = true) (hn : isWB s[k] = false) : lead s = s.take k := by
  have e : s = s.take k ++ s.drop k := (List.take_append_drop k s).symm
  have h1 := lead_all (s.take k) (s.drop k) (fun c hc => by
    obtain ⟨j, hj, rfl⟩ := List.mem_iff_getElem.1 hc
    rw [List.getElem_take]
    rw [List.length_take] at hj
    exact h j (by omega) (by omega)) (fun c t hct => by
    rw [List.drop_eq_getElem_cons hk] at hct
    injection hct with h1 _
    rw [← h1]
    exact hn)
  rw [← e] at h1
  exact h1
theorem lead_full (s : List UInt8) (h : ∀ j (hj : j < s.length), isWB s[j] = true) : lead s = s := by
  have h1 := lead_all s [] (fun c hc => by
    obtain ⟨j, hj, rfl⟩ := List.mem_iff_getElem.1 hc
    exact h j hj) (fun c t hct => by cases hct)
  rwa [List.append_nil] at h1

set_option maxHeartbeats 1000000 in
set_option maxRecDepth 100000 in
theorem impl_isWordRune (c : Int) (w : World) :
    Calls Tryd.prog 136 #[.int .i32 c] w fun e w' => e = .returned (.bool (isWZ c)) ∧ w' = w := by
  have h : c < 45 ∨ c = 45 ∨ (46 ≤ c ∧ c ≤ 47) ∨ (48 ≤ c ∧ c ≤ 57) ∨ (58 ≤ c ∧ c ≤ 64) ∨ (65 ≤ c ∧ c ≤ 90) ∨ (91 ≤ c ∧ c ≤ 94) ∨ c = 95 ∨ c = 96 ∨ (97 ≤ c ∧ c ≤ 122) ∨ 123 ≤ c := by omega
  rcases h with h | h | h | h | h | h | h | h | h | h | h
  ·
    have hq : isWZ c = false := by unfold isWZ; simp; omega
    have e0 : decide (97 ≤ c) = false := by simp; omega
    have e1 : decide (c ≤ 122) = true := by simp; omega
    have e2 : decide (65 ≤ c) = false := by simp; omega
    have e3 : decide (c ≤ 90) = true := by simp; omega
    have e4 : decide (48 ≤ c) = false := by simp; omega
    have e5 : decide (c ≤ 57) = true := by simp; omega
    have e6 : (c == 45) = false := by simp; omega
    have e7 : (c == 95) = false := by simp; omega
    rw [hq]
    clear h hq
    go_enter Tryd.func136, Tryd.ntmps136
    go_wp2
    go_ret
    exact ⟨rfl, rfl⟩
  ·
    have hq : isWZ c = true := by unfold isWZ; simp; omega
    have e0 : decide (97 ≤ c) = false := by simp; omega
    have e1 : decide (c ≤ 122) = true := by simp; omega
    have e2 : decide (65 ≤ c) = false := by simp; omega
    have e3 : decide (c ≤ 90) = true := by simp; omega
    have e4 : decide (48 ≤ c) = false := by simp; omega
    have e5 : decide (c ≤ 57) = true := by simp; omega
    have e6 : (c == 45) = true := by simp; omega
    have e7 : (c == 95) = false := by simp; omega
    rw [hq]
    clear h hq
    go_enter Tryd.func136, Tryd.ntmps136
    go_wp2
    go_ret
    exact ⟨rfl, rfl⟩
  ·
    have hq : isWZ c = false := by unfold isWZ; simp; omega
    have e0 : decide (97 ≤ c) = false := by simp; omega
    have e1 : decide (c ≤ 122) = true := by simp; omega
    have e2 : decide (65 ≤ c) = false := by simp; omega
    have e3 : decide (c ≤ 90) = true := by simp; omega
    have e4 : decide (48 ≤ c) = false := by simp; omega
    have e5 : decide (c ≤ 57) = true := by simp; omega
    have e6 : (c == 45) = false := by simp; omega
    have e7 : (c == 95) = false := by simp; omega
    rw [hq]
    clear h hq
    go_enter Tryd.func136, Tryd.ntmps136
    go_wp2
    go_ret
    exact ⟨rfl, rfl⟩
  ·
    have hq : isWZ c = true := by unfold isWZ; simp; omega
    have e0 : decide (97 ≤ c) = false := by simp; omega
    have e1 : decide (c ≤ 122) = true := by simp; omega
    have e2 : decide (65 ≤ c) = false := by simp; omega
    have e3 : decide (c ≤ 90) = true := by simp; omega
    have e4 : decide (48 ≤ c) = true := by simp; omega
    have e5 : decide (c ≤ 57) = true := by simp; omega
    have e6 : (c == 45) = false := by simp; omega
    have e7 : (c == 95) = false := by simp; omega
    rw [hq]
    clear h hq
    go_enter Tryd.func136, Tryd.ntmps136
    go_wp2
    go_ret
    exact ⟨rfl, rfl⟩
  ·
    have hq : isWZ c = false := by unfold isWZ; simp; omega
    have e0 : decide (97 ≤ c) = false := by simp; omega
    have e1 : decide (c ≤ 122) = true := by simp; omega
    have e2 : decide (65 ≤ c) = false := by simp; omega
    have e3 : decide (c ≤ 90) = true := by simp; omega
    have e4 : decide (48 ≤ c) = true := by simp; omega
    have e5 : decide (c ≤ 57) = false := by simp; omega
    have e6 : (c == 45) = false := by simp; omega
    have e7 : (c == 95) = false := by simp; omega
    rw [hq]
    clear h hq
    go_enter Tryd.func136, Tryd.ntmps136
    go_wp2
    go_ret
    exact ⟨rfl, rfl⟩
  ·
    have hq : isWZ c = true := by unfold isWZ; simp; omega
    have e0 : decide (97 ≤ c) = false := by simp; omega
    have e1 : decide (c ≤ 122) = true := by simp; omega
    have e2 : decide (65 ≤ c) = true := by simp; omega
    have e3 : decide (c ≤ 90) = true := by simp; omega
    have e4 : decide (48 ≤ c) = true := by simp; omega
    have e5 : decide (c ≤ 57) = false := by simp; omega
    have e6 : (c == 45) = false := by simp; omega
    have e7 : (c == 95) = false := by simp; omega
    rw [hq]
    clear h hq
    go_enter Tryd.func136, Tryd.ntmps136
    go_wp2
    go_ret
    exact ⟨rfl, rfl⟩
  ·
    have hq : isWZ c = false := by unfold isWZ; simp; omega
    have e0 : decide (97 ≤ c) = false := by simp; omega
    have e1 : decide (c ≤ 122) = true := by simp; omega
    have e2 : decide (65 ≤ c) = true := by simp; omega
    have e3 : decide (c ≤ 90) = false := by simp; omega
    have e4 : decide (48 ≤ c) = true := by simp; omega
    have e5 : decide (c ≤ 57) = false := by simp; omega
    have e6 : (c == 45) = false := by simp; omega
    have e7 : (c == 95) = false := by simp; omega
    rw [hq]
    clear h hq
    go_enter Tryd.func136, Tryd.ntmps136
    go_wp2
    go_ret
    exact ⟨rfl, rfl⟩
  ·
    have hq : isWZ c = true := by unfold isWZ; simp; omega
    have e0 : decide (97 ≤ c) = false := by simp; omega
    have e1 : decide (c ≤ 122) = true := by simp; omega
    have e2 : decide (65 ≤ c) = true := by simp; omega
    have e3 : decide (c ≤ 90) = false := by simp; omega
    have e4 : decide (48 ≤ c) = true := by simp; omega
    have e5 : decide (c ≤ 57) = false := by simp; omega
    have e6 : (c == 45) = false := by simp; omega
    have e7 : (c == 95) = true := by simp; omega
    rw [hq]
    clear h hq
    go_enter Tryd.func136, Tryd.ntmps136
    go_wp2
    go_ret
    exact ⟨rfl, rfl⟩
  ·
    have hq : isWZ c = false := by unfold isWZ; simp; omega
    have e0 : decide (97 ≤ c) = false := by simp; omega
    have e1 : decide (c ≤ 122) = true := by simp; omega
    have e2 : decide (65 ≤ c) = true := by simp; omega
    have e3 : decide (c ≤ 90) = false := by simp; omega
    have e4 : decide (48 ≤ c) = true := by simp; omega
    have e5 : decide (c ≤ 57) = false := by simp; omega
    have e6 : (c == 45) = false := by simp; omega
    have e7 : (c == 95) = false := by simp; omega
    rw [hq]
    clear h hq
    go_enter Tryd.func136, Tryd.ntmps136
    go_wp2
    go_ret
    exact ⟨rfl, rfl⟩
  ·
    have hq : isWZ c = true := by unfold isWZ; simp; omega
    have e0 : decide (97 ≤ c) = true := by simp; omega
    have e1 : decide (c ≤ 122) = true := by simp; omega
    have e2 : decide (65 ≤ c) = true := by simp; omega
    have e3 : decide (c ≤ 90) = false := by simp; omega
    have e4 : decide (48 ≤ c) = true := by simp; omega
    have e5 : decide (c ≤ 57) = false := by simp; omega
    have e6 : (c == 45) = false := by simp; omega
    have e7 : (c == 95) = false := by simp; omega
    rw [hq]
    clear h hq
    go_enter Tryd.func136, Tryd.ntmps136
    go_wp2
    go_ret
    exact ⟨rfl, rfl⟩
  ·
    have hq : isWZ c = false := by unfold isWZ; simp; omega
    have e0 : decide (97 ≤ c) = true := by simp; omega
    have e1 : decide (c ≤ 122) = false := by simp; omega
    have e2 : decide (65 ≤ c) = true := by simp; omega
    have e3 : decide (c ≤ 90) = false := by simp; omega
    have e4 : decide (48 ≤ c) = true := by simp; omega
    have e5 : decide (c ≤ 57) = false := by simp; omega
    have e6 : (c == 45) = false := by simp; omega
    have e7 : (c == 95) = false := by simp; omega
    rw [hq]
    clear h hq
    go_enter Tryd.func136, Tryd.ntmps136
    go_wp2
    go_ret
    exact ⟨rfl, rfl⟩

theorem iter_below (w : World) (s : ByteArray) (p : Nat) : Below w.heap.size w (w.iter s p) := (Below.refl _ _).alloc (Nat.le_refl _) _

set_option maxHeartbeats 1000000 in
set_option maxRecDepth 100000 in
theorem impl_firstWord (s : ByteArray) (w : World) :
    Calls Tryd.prog 108 #[.string s] w fun e w' => e = .returned (.string (str (lead s.data.toList))) ∧ Below w.heap.size w w' := by
  have hl : s.data.toList.length = s.size := rfl
  go_enter Tryd.func108, Tryd.ntmps108
  go_wp2
  go_loopw [3] (fun i wr => ∃ pos : Nat, pos ≤ s.size ∧ wr = w.iter s pos ∧ Hid (∀ j (hj : j < s.size), j < pos → isWB s[j] = true)) (fun _ wr => s.size - wr.iterPos w.heap.size)
  case atStart => exact ⟨0, Nat.zero_le _, rfl, fun j hj h => by omega⟩
  case round =>
    obtain ⟨pos, hp, rfl, hw⟩ := hrel
    by_cases hlt : pos < s.size
    · have hnx : ∀ ty, (Instr.next (.pointer (some ⟨w.heap.size, 0, none⟩)) true ty).run Tryd.prog (w.iter s pos) = _ := fun ty => run_next_any w s pos ty hlt
      have HI := fun W => impl_isWordRune (Utf8.decode s pos).1 W
      by_cases ha : s[pos].toNat < 128
      · have hd := decode_ascii s pos hlt ha
        rw [hd] at hnx HI
        have hq : isWZ (s[pos].toNat : Int) = isWB s[pos] := rfl
        simp only [hq] at HI
        cases hb : isWB s[pos] with
        | true =>
          rw [hb] at HI
          have HW : Hid (∀ j (hj : j < s.size), j < pos + 1 → isWB s[j] = true) := fun j hj h => by
            rcases Nat.lt_or_ge j pos with h1 | h1
            · exact hw.out j hj h1
            · obtain rfl : j = pos := by omega
              exact hb
          clear hd hq hb hw ha
          go_wp2_with fail
          refine (HI _).mono ?_
          rintro e w1 ⟨rfl, rfl⟩
          clear HI hnx
          go_wp2
          go_roundw
          case rel => exact ⟨pos + 1, by omega, rfl, HW⟩
          case measure => simp; omega
        | false =>
          rw [hb] at HI
          have HE : Hid (s.extract 0 pos = str (lead s.data.toList)) := by
            unfold Hid
            rw [lead_stop s.data.toList pos (by omega) (fun j hj h => hw.out j (by omega) h) hb]
            apply ByteArray.ext
            apply Array.ext'
            simp [str, ByteArray.data_extract]
          clear hd hq hb hw ha
          go_wp2_with fail
          refine (HI _).mono ?_
          rintro e w1 ⟨rfl, rfl⟩
          clear HI hnx
          go_wp2
          go_ret
          exact ⟨by rw [← HE.out]; rfl, iter_below _ _ _⟩
      · have hd := decode_high s pos hlt (by omega)
        have hq : isWZ ((Utf8.decode s pos).1 : Int) = false := by unfold isWZ; simp; omega
        have hb : isWB s[pos] = false := by unfold isWB isWZ; simp; omega
        have HE : Hid (s.extract 0 pos = str (lead s.data.toList)) := by
          unfold Hid
          rw [lead_stop s.data.toList pos (by omega) (fun j hj h => hw.out j (by omega) h) hb]
          apply ByteArray.ext
          apply Array.ext'
          simp [str, ByteArray.data_extract]
        simp only [hq] at HI
        clear hd hq hb hw ha
        generalize (Utf8.decode s pos).1 = rn at *
        go_wp2_with fail
        refine (HI _).mono ?_
        rintro e w1 ⟨rfl, rfl⟩
        clear HI hnx
        go_wp2
        go_ret
        exact ⟨by rw [← HE.out]; rfl, iter_below _ _ _⟩
    · have hnx : ∀ ty, (Instr.next (.pointer (some ⟨w.heap.size, 0, none⟩)) true ty).run Tryd.prog (w.iter s pos) = _ := fun ty => run_next_end w s pos ty hlt
      have HE : Hid (str (lead s.data.toList) = s) := by
        unfold Hid
        rw [lead_full s.data.toList (fun j hj => hw.out j hj (by omega)), str_data]
      clear hw
      go_wp2
      go_ret
      exact ⟨by rw [HE.out]; rfl, iter_below _ _ _⟩
end Go.Proofs.YtdifefgigcjgeaaDoor
end

/- Plain facts on decimal numerals: the numeral of u is that of u / 10 with the last digit behind it. No condition. -/
section
namespace Go.Proofs.YtdifefgigcjgeaaDoor
open Go.Lib

/-- The digits of u, none for 0. -/
def digitsOf (u : Nat) : List UInt8 := if u = 0 then [] else decDigits u

theorem digitsOf_zero : digitsOf 0 = [] := if_pos rfl
theorem digitsOf_pos {u : Nat} (h : u ≠ 0) : digitsOf u = decDigits u := if_neg h
theorem digitsOf_step {u : Nat} (h : u ≠ 0) : digitsOf u = digitsOf (u / 10) ++ [UInt8.ofNat (48 + u % 10)] := by
  rw [digitsOf_pos h, decDigits]
  by_cases h1 : u < 10
  · rw [dif_pos h1, show u / 10 = 0 by omega, digitsOf_zero, show u % 10 = u by omega]; rfl
  · rw [dif_neg h1, digitsOf_pos (by omega)]
theorem digitsOf_le (u : Nat) : (digitsOf u).length ≤ nDigits u := by
  by_cases h : u = 0
  · rw [h, digitsOf_zero]; simp
  · rw [digitsOf_pos h, decDigits_length]; exact Nat.le_refl _

end Go.Proofs.YtdifefgigcjgeaaDoor
end
