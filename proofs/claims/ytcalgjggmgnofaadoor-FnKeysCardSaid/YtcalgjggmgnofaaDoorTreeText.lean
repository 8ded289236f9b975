/- What is proved here: the representation of a value as bytes, and what a walk with a stack has still to write of it. No condition. -/
import Derived.Test.YtcalgjggmgnofaaDoorTrees
import Derived.Lib.ItoaMem
import Derived.Lib.ItoaLen
namespace Go.Proofs.YtcalgjggmgnofaaDoor
open Go.RowKit

/-- A text of these bytes. -/
def str (l : List UInt8) : ByteArray := ⟨l.toArray⟩
theorem str_size (l : List UInt8) : (str l).size = l.length := by show l.toArray.size = _; simp
theorem str_data (t : ByteArray) : str t.data.toList = t := by
  cases t
  simp [str]
theorem str_append (a b : List UInt8) : str a ++ str b = str (a ++ b) := by
  apply ByteArray.ext
  show (str a ++ str b).data = _
  rw [ByteArray.data_append]
  simp [str]
theorem str_inj {a b : List UInt8} (h : str a = str b) : a = b := by
  have : (str a).data.toList = (str b).data.toList := by rw [h]
  simpa [str] using this

/-- A node without what is below it. -/
def headText (k n : Int) (t : ByteArray) : List UInt8 :=
  if k = 1 then Lib.itoa n else if k = 2 then 34 :: (t.data.toList ++ [34]) else if k = 3 then t.data.toList else [63]
def Trees.close : Trees → List UInt8
  | .nil => []
  | .cons _ _ _ _ _ => [41]
/-- The nodes of a row, each behind a separator; the first one behind a parenthesis (b). -/
def Trees.tail : Trees → Bool → List UInt8
  | .nil, _ => []
  | .cons k n t ar r, b => (if b then [40] else [44, 32]) ++ (headText k n t ++ (if k = 3 then ar.tail true ++ ar.close else [])) ++ r.tail false
/-- The representation of a node. -/
def nodeText (k n : Int) (t : ByteArray) (ar : Trees) : List UInt8 := headText k n t ++ (if k = 3 then ar.tail true ++ ar.close else [])
theorem tail_cons (k n : Int) (t : ByteArray) (ar r : Trees) (b : Bool) : (Trees.cons k n t ar r).tail b = (if b then [40] else [44, 32]) ++ nodeText k n t ar ++ r.tail false := rfl
/-- The row without the first separator. -/
def Trees.first : Trees → List UInt8
  | .nil => []
  | .cons k n t ar r => nodeText k n t ar ++ r.tail false
theorem tail_first (F : Trees) (b : Bool) (h : F ≠ .nil) : F.tail b = (if b then [40] else [44, 32]) ++ F.first := by
  cases F with
  | nil => exact absurd rfl h
  | cons k n t ar r => rw [tail_cons, List.append_assoc]; rfl
/-- What is to be written behind the rest of a row, where the rows st (the last first) are open. -/
def after : List Trees → List UInt8
  | [] => []
  | G :: st => [41] ++ G.tail false ++ after st
/-- What a stack has still to write, where its last row has still to begin. -/
def fin : List Trees → List UInt8
  | [] => []
  | F :: st => F.first ++ after st
/-- The marks between a node and the next one of the stack; the stack that is left. -/
def marks2 : List Trees → List UInt8 × List Trees
  | [] => ([], [])
  | .cons k n t ar r :: st => ([44, 32], .cons k n t ar r :: st)
  | .nil :: st => (if st = [] then marks2 st else (41 :: (marks2 st).1, (marks2 st).2))
theorem marks2_fin (st : List Trees) : ∀ F : Trees, F.tail false ++ after st = (marks2 (F :: st)).1 ++ fin (marks2 (F :: st)).2 := by
  induction st with
  | nil =>
    intro F
    cases F with
    | nil => rfl
    | cons k n t ar r => simp [marks2, fin, after, tail_first _ false (by simp : Trees.cons k n t ar r ≠ .nil)]
  | cons G st ih =>
    intro F
    cases F with
    | nil =>
      have h := ih G
      simp only [Trees.tail, marks2, after, List.nil_append]
      rw [if_neg (by simp)]
      simp only [List.cons_append, List.nil_append]
      rw [h]
    | cons k n t ar r => simp [marks2, fin, tail_first _ false (by simp : Trees.cons k n t ar r ≠ .nil)]
/-- A node without a row below: its text, then the marks. -/
theorem fin_leaf (k n : Int) (t : ByteArray) (ar r : Trees) (st : List Trees) (h : k ≠ 3 ∨ ar = .nil) : fin (.cons k n t ar r :: st) = headText k n t ++ (marks2 (r :: st)).1 ++ fin (marks2 (r :: st)).2 := by
  have e : nodeText k n t ar = headText k n t := by
    unfold nodeText
    rcases h with h | rfl
    · rw [if_neg h, List.append_nil]
    · split <;> simp [Trees.tail, Trees.close]
  rw [List.append_assoc, ← marks2_fin]
  simp only [fin, Trees.first, e, List.append_assoc]
/-- A constructor with a row below. -/
theorem fin_node (n : Int) (t : ByteArray) (ar r : Trees) (st : List Trees) (h : ar ≠ .nil) : fin (.cons 3 n t ar r :: st) = headText 3 n t ++ [40] ++ fin (ar :: r :: st) := by
  have e : ar.close = [41] := by
    cases ar with
    | nil => exact absurd rfl h
    | cons _ _ _ _ _ => rfl
  simp only [fin, Trees.first, nodeText, if_true, after, tail_first ar true h, e, List.append_assoc]
theorem fin_one (k n : Int) (t : ByteArray) (ar : Trees) : fin [.cons k n t ar .nil] = nodeText k n t ar := by
  simp [fin, Trees.first, after, Trees.tail]
/-- The stack that the marks leave: what had begun is nowhere empty on top. -/
theorem marks2_top (st : List Trees) : (marks2 st).2 = [] ∨ ∃ k n t ar r st2, (marks2 st).2 = .cons k n t ar r :: st2 := by
  induction st with
  | nil => exact .inl rfl
  | cons F st ih =>
    cases F with
    | cons k n t ar r => exact .inr ⟨k, n, t, ar, r, st, rfl⟩
    | nil =>
      simp only [marks2]
      split
      · exact ih
      · exact ih

/-! Lengths. -/
theorem itoa_len (n : Int) (h0 : -9223372036854775808 ≤ n) (h1 : n ≤ 9223372036854775807) : (Lib.itoa n).length ≤ 21 := Lib.itoa_length_le n h0 h1
theorem headText_len (k n : Int) (t : ByteArray) (hn : -9223372036854775808 ≤ n ∧ n ≤ 9223372036854775807) : (headText k n t).length ≤ 21 + t.size := by
  have h := itoa_len n hn.1 hn.2
  have e : t.data.toList.length = t.size := rfl
  unfold headText
  split
  · omega
  · split
    · simp only [List.length_cons, List.length_append, e]; simp; omega
    · split
      · omega
      · simp; omega
theorem tail_len (F : Trees) (hf : F.fits) : ∀ b, (F.tail b).length ≤ 24 * F.size := by
  induction F with
  | nil => intro b; simp [Trees.tail]
  | cons k n t ar r ih1 ih2 =>
    intro b
    obtain ⟨_, hn, _, _, h4, h5⟩ := hf
    have h := headText_len k n t hn
    have hc : ar.close.length ≤ 1 := by cases ar <;> simp [Trees.close]
    have a1 := ih1 h4 true
    have a2 := ih2 h5 false
    have e : ((if k = 3 then ar.tail true ++ ar.close else []) : List UInt8).length ≤ 24 * ar.size + 1 := by
      split
      · rw [List.length_append]; omega
      · simp
    have e2 : ((if b then [40] else [44, 32]) : List UInt8).length ≤ 2 := by cases b <;> simp
    simp only [Trees.tail, List.length_append, Trees.size]
    omega
theorem nodeText_len (k n : Int) (t : ByteArray) (ar : Trees) (hn : -9223372036854775808 ≤ n ∧ n ≤ 9223372036854775807) (hf : ar.fits) : (nodeText k n t ar).length ≤ 24 * (t.size + ar.size) + 22 := by
  have h := headText_len k n t hn
  have a1 := tail_len ar hf true
  have hc : ar.close.length ≤ 1 := by cases ar <;> simp [Trees.close]
  unfold nodeText
  rw [List.length_append]
  split
  · rw [List.length_append]; omega
  · simp; omega
end Go.Proofs.YtcalgjggmgnofaaDoor
