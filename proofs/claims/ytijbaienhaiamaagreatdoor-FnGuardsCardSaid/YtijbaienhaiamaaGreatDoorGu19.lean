/- What is proved here: a piece of the proof of YtijbaienhaiamaaGreatDoorGuards (ImplInInt, ExImplForm, SeqGo, SeqOwn). Condition: none beyond what each part says. -/
import Derived.Test.YtijbaienhaiamaaGreatDoorGu08
import Derived.Test.YtijbaienhaiamaaGreatDoorGu17
import Derived.Test.YtijbaienhaiamaaGreatDoorGu02
import Derived.Test.YtijbaienhaiamaaGreatDoorProg
import Derived.RangeFuncKeeps
import Derived.RangeFuncLeaves
import Derived.RangeFuncBound

/- What is proved here: the program tells whether an integer is within the bounds of the document. No condition. -/
section
namespace Go.Proofs.YtijbaienhaiamaaGreatDoor
open Go.RowKit

set_option maxRecDepth 100000 in
theorem impl_inInt (n : Int) (w : World) :
    Calls Tryz.prog 140 #[.int .i64 n] w fun e w' => e = .returned (.bool (inInt n)) ∧ w' = w := by
  unfold inInt
  by_cases h1 : -999999999999 ≤ n
  · have e1 : decide (-999999999999 ≤ n) = true := by simpa using h1
    rw [e1]
    clear h1
    go_enter Tryz.func140, Tryz.ntmps140
    go_wp2
    go_ret
    exact ⟨rfl, rfl⟩
  · have e1 : decide (-999999999999 ≤ n) = false := by simpa using h1
    rw [e1]
    clear h1
    go_enter Tryz.func140, Tryz.ntmps140
    go_wp2
    go_ret
    exact ⟨rfl, rfl⟩
end Go.Proofs.YtijbaienhaiamaaGreatDoor
end

/- What is proved here: the program's hasExprForm says whether a node has one of the four forms. Condition: its text fits. -/
section
namespace Go.Proofs.YtijbaienhaiamaaGreatDoor.Ex
open Go.RowKit

set_option maxHeartbeats 4000000 in
set_option maxRecDepth 100000 in
theorem impl_form (w : World) (k n : Int) (t : ByteArray) (p : Option Addr) (l c : Nat) (ht : t.size ≤ maxLen) :
    Calls Tryz.prog 91 #[.agg #[.int .i64 k, .int .i64 n, .string t, .slice p l c]] w fun e w' => e = .returned (.bool (exprForm k n t l)) ∧ Below w.heap.size w w' := by
  have hB0 : Below w.heap.size w (w.alloc (.cells #[.int .i64 k, .int .i64 n, .string t, .slice p l c] 54)) := (Below.refl _ _).alloc (Nat.le_refl _) _
  obtain ⟨c0, c1, c2, c3, _⟩ := four_cells (heap_at_new w (.cells #[.int .i64 k, .int .i64 n, .string t, .slice p l c] 54))
  obtain ⟨w0, hw0⟩ : ∃ w0, w0 = w.alloc (.cells #[.int .i64 k, .int .i64 n, .string t, .slice p l c] 54) := ⟨_, rfl⟩
  rw [← hw0] at hB0 c0 c1 c2 c3
  have HW0 := Lib.hid hw0
  have HB0 := Lib.hid hB0
  obtain ⟨z, hz⟩ : ∃ z, exprForm k n t l = z := ⟨_, rfl⟩
  rw [hz]
  clear hw0 hB0
  by_cases hk1 : k = 1
  · have hk := hk1
    subst hk1
    clear hk
    have HC : Hid (∀ w, Calls Tryz.prog 140 #[.int .i64 n] w fun e w' => e = .returned (.bool (inInt n)) ∧ Below w.heap.size w w') := fun w => (impl_inInt n w).mono (by rintro e w' ⟨rfl, rfl⟩; exact ⟨rfl, Below.refl _ _⟩)
    cases hq : inInt n with
    | false =>
      simp only [hq] at HC
      have HZ : Hid (z = false) := by unfold Hid; rw [← hz]; unfold exprForm; simp [hq]
      clear hz ht
      go_enter Tryz.func91, Tryz.ntmps91
      go_wp2_with fail
      rw [← HW0.out]
      refine (HC.out w0).mono ?_
      rintro e w1 ⟨rfl, hb1⟩
      have c3 := cell_below c3 hb1
      have c2 := cell_below c2 hb1
      have c1 := cell_below c1 hb1
      have HB1 : Hid (Below w.heap.size w w1) := HB0.out.trans (hb1.mono HB0.out.size)
      clear hb1
      go_wp2
      go_ret
      exact ⟨by rw [HZ.out]; rfl, HB1.out⟩
    | true =>
      simp only [hq] at HC
      by_cases he : t.size = 0
      · have hE := bl_true he
        obtain ⟨q, hl⟩ : ∃ q, bl (l = 0) = q := ⟨_, rfl⟩
        have hl0 : ((l : Int) == 0) = q := by rw [← hl]; exact bl_len l 0
        have HZ : Hid (z = q) := by unfold Hid; rw [← hz]; unfold exprForm; generalize bl (t.size = 0) = e at hE ⊢; subst hE; simp [hq, hl]
        clear hz hE
        obtain rfl := empty_of t he
        clear ht he
        go_enter Tryz.func91, Tryz.ntmps91
        go_wp2_with fail
        rw [← HW0.out]
        refine (HC.out w0).mono ?_
        rintro e w1 ⟨rfl, hb1⟩
        have c3 := cell_below c3 hb1
        have c2 := cell_below c2 hb1
        have c1 := cell_below c1 hb1
        have HB1 : Hid (Below w.heap.size w w1) := HB0.out.trans (hb1.mono HB0.out.size)
        clear hb1
        go_wp2
        go_ret
        exact ⟨by rw [HZ.out]; rfl, HB1.out⟩
      · have hE := bl_false he
        have hne := ne_empty t (by omega)
        have hne2 := bl_empty t (by omega)
        have HZ : Hid (z = false) := by unfold Hid; rw [← hz]; unfold exprForm; generalize bl (t.size = 0) = e at hE ⊢; subst hE; simp [hq]
        clear hz ht
        go_enter Tryz.func91, Tryz.ntmps91
        go_wp2_with fail
        rw [← HW0.out]
        refine (HC.out w0).mono ?_
        rintro e w1 ⟨rfl, hb1⟩
        have c3 := cell_below c3 hb1
        have c2 := cell_below c2 hb1
        have c1 := cell_below c1 hb1
        have HB1 : Hid (Below w.heap.size w w1) := HB0.out.trans (hb1.mono HB0.out.size)
        clear hb1
        go_wp2
        go_ret
        exact ⟨by rw [HZ.out]; rfl, HB1.out⟩
  by_cases hk2 : k = 2
  · have hk := hk2
    subst hk2
    clear hk
    by_cases hn : n = 0
    · subst hn
      have HC : Hid (∀ w, Calls Tryz.prog 139 #[.string t] w fun e w' => e = .returned (.bool (bl (Name t))) ∧ Below w.heap.size w w') := fun w => impl_name t ht w
      cases hq : bl (Name t) with
      | false =>
        simp only [hq] at HC
        have HZ : Hid (z = false) := by unfold Hid; rw [← hz]; unfold exprForm; simp [hq]
        clear hz ht
        go_enter Tryz.func91, Tryz.ntmps91
        go_wp2_with fail
        rw [← HW0.out]
        refine (HC.out w0).mono ?_
        rintro e w1 ⟨rfl, hb1⟩
        have c3 := cell_below c3 hb1
        have c2 := cell_below c2 hb1
        have c1 := cell_below c1 hb1
        have HB1 : Hid (Below w.heap.size w w1) := HB0.out.trans (hb1.mono HB0.out.size)
        clear hb1
        go_wp2
        go_ret
        exact ⟨by rw [HZ.out]; rfl, HB1.out⟩
      | true =>
        simp only [hq] at HC
        obtain ⟨q, hl⟩ : ∃ q, bl (l = 0) = q := ⟨_, rfl⟩
        have hl0 : ((l : Int) == 0) = q := by rw [← hl]; exact bl_len l 0
        have HZ : Hid (z = q) := by unfold Hid; rw [← hz]; unfold exprForm; simp [hq, hl]
        clear hz ht
        go_enter Tryz.func91, Tryz.ntmps91
        go_wp2_with fail
        rw [← HW0.out]
        refine (HC.out w0).mono ?_
        rintro e w1 ⟨rfl, hb1⟩
        have c3 := cell_below c3 hb1
        have c2 := cell_below c2 hb1
        have c1 := cell_below c1 hb1
        have HB1 : Hid (Below w.heap.size w w1) := HB0.out.trans (hb1.mono HB0.out.size)
        clear hb1
        go_wp2
        go_ret
        exact ⟨by rw [HZ.out]; rfl, HB1.out⟩
    · have hn2 : (n == 0) = false := by simpa using hn
      have hn3 : (n != 0) = true := by simpa using hn
      have HZ : Hid (z = false) := by unfold Hid; rw [← hz]; unfold exprForm; simp [hn]
      clear hz ht
      go_enter Tryz.func91, Tryz.ntmps91
      go_wp2
      go_ret
      exact ⟨by rw [HZ.out]; rfl, by first | exact HB0.out | (rw [← HW0.out]; exact HB0.out)⟩
  by_cases hk3 : k = 3
  · have hk := hk3
    subst hk3
    clear hk
    have HC : Hid (∀ w, Calls Tryz.prog 149 #[.int .i64 n] w fun e w' => e = .returned (.bool (inOp n)) ∧ Below w.heap.size w w') := fun w => (impl_inOp n w).mono (by rintro e w' ⟨rfl, rfl⟩; exact ⟨rfl, Below.refl _ _⟩)
    cases hq : inOp n with
    | false =>
      simp only [hq] at HC
      have HZ : Hid (z = false) := by unfold Hid; rw [← hz]; unfold exprForm; simp [hq]
      clear hz ht
      go_enter Tryz.func91, Tryz.ntmps91
      go_wp2_with fail
      rw [← HW0.out]
      refine (HC.out w0).mono ?_
      rintro e w1 ⟨rfl, hb1⟩
      have c3 := cell_below c3 hb1
      have c2 := cell_below c2 hb1
      have c1 := cell_below c1 hb1
      have HB1 : Hid (Below w.heap.size w w1) := HB0.out.trans (hb1.mono HB0.out.size)
      clear hb1
      go_wp2
      go_ret
      exact ⟨by rw [HZ.out]; rfl, HB1.out⟩
    | true =>
      simp only [hq] at HC
      by_cases he : t.size = 0
      · have hE := bl_true he
        obtain ⟨q, hl⟩ : ∃ q, bl (l = 2) = q := ⟨_, rfl⟩
        have hl0 : ((l : Int) == 2) = q := by rw [← hl]; exact bl_len l 2
        have HZ : Hid (z = q) := by unfold Hid; rw [← hz]; unfold exprForm; generalize bl (t.size = 0) = e at hE ⊢; subst hE; simp [hq, hl]
        clear hz hE
        obtain rfl := empty_of t he
        clear ht he
        go_enter Tryz.func91, Tryz.ntmps91
        go_wp2_with fail
        rw [← HW0.out]
        refine (HC.out w0).mono ?_
        rintro e w1 ⟨rfl, hb1⟩
        have c3 := cell_below c3 hb1
        have c2 := cell_below c2 hb1
        have c1 := cell_below c1 hb1
        have HB1 : Hid (Below w.heap.size w w1) := HB0.out.trans (hb1.mono HB0.out.size)
        clear hb1
        go_wp2
        go_ret
        exact ⟨by rw [HZ.out]; rfl, HB1.out⟩
      · have hE := bl_false he
        have hne := ne_empty t (by omega)
        have hne2 := bl_empty t (by omega)
        have HZ : Hid (z = false) := by unfold Hid; rw [← hz]; unfold exprForm; generalize bl (t.size = 0) = e at hE ⊢; subst hE; simp [hq]
        clear hz ht
        go_enter Tryz.func91, Tryz.ntmps91
        go_wp2_with fail
        rw [← HW0.out]
        refine (HC.out w0).mono ?_
        rintro e w1 ⟨rfl, hb1⟩
        have c3 := cell_below c3 hb1
        have c2 := cell_below c2 hb1
        have c1 := cell_below c1 hb1
        have HB1 : Hid (Below w.heap.size w w1) := HB0.out.trans (hb1.mono HB0.out.size)
        clear hb1
        go_wp2
        go_ret
        exact ⟨by rw [HZ.out]; rfl, HB1.out⟩
  by_cases hk4 : k = 4
  · have hk := hk4
    subst hk4
    clear hk
    by_cases hn : n = 0
    · subst hn
      by_cases he : t.size = 0
      · have hE := bl_true he
        obtain ⟨q, hl⟩ : ∃ q, bl (l = 1) = q := ⟨_, rfl⟩
        have hl0 : ((l : Int) == 1) = q := by rw [← hl]; exact bl_len l 1
        have HZ : Hid (z = q) := by unfold Hid; rw [← hz]; unfold exprForm; generalize bl (t.size = 0) = e at hE ⊢; subst hE; simp [hl]
        clear hz hE
        obtain rfl := empty_of t he
        clear ht he
        go_enter Tryz.func91, Tryz.ntmps91
        go_wp2
        go_ret
        exact ⟨by rw [HZ.out]; rfl, by first | exact HB0.out | (rw [← HW0.out]; exact HB0.out)⟩
      · have hE := bl_false he
        have hne := ne_empty t (by omega)
        have hne2 := bl_empty t (by omega)
        have HZ : Hid (z = false) := by unfold Hid; rw [← hz]; unfold exprForm; generalize bl (t.size = 0) = e at hE ⊢; subst hE; simp
        clear hz ht
        go_enter Tryz.func91, Tryz.ntmps91
        go_wp2
        go_ret
        exact ⟨by rw [HZ.out]; rfl, by first | exact HB0.out | (rw [← HW0.out]; exact HB0.out)⟩
    · have hn2 : (n == 0) = false := by simpa using hn
      have hn3 : (n != 0) = true := by simpa using hn
      have HZ : Hid (z = false) := by unfold Hid; rw [← hz]; unfold exprForm; simp [hn]
      clear hz ht
      go_enter Tryz.func91, Tryz.ntmps91
      go_wp2
      go_ret
      exact ⟨by rw [HZ.out]; rfl, by first | exact HB0.out | (rw [← HW0.out]; exact HB0.out)⟩
  have hb1 : (k == 1) = false := by simpa using hk1
  have hb2 : (k == 2) = false := by simpa using hk2
  have hb3 : (k == 3) = false := by simpa using hk3
  have hb4 : (k == 4) = false := by simpa using hk4
  cases hq : (n == 0) with
  | true =>
    have hq2 : (n != 0) = false := by simp [bne, hq]
    have HZ : Hid (z = false) := by unfold Hid; rw [← hz]; unfold exprForm; simp [hk1, hk2, hk3, hk4]
    clear hz ht
    go_enter Tryz.func91, Tryz.ntmps91
    go_wp2
    go_ret
    exact ⟨by rw [HZ.out]; rfl, by first | exact HB0.out | (rw [← HW0.out]; exact HB0.out)⟩
  | false =>
    have hq2 : (n != 0) = true := by simp [bne, hq]
    have HZ : Hid (z = false) := by unfold Hid; rw [← hz]; unfold exprForm; simp [hk1, hk2, hk3, hk4]
    clear hz ht
    go_enter Tryz.func91, Tryz.ntmps91
    go_wp2
    go_ret
    exact ⟨by rw [HZ.out]; rfl, by first | exact HB0.out | (rw [← HW0.out]; exact HB0.out)⟩
end Go.Proofs.YtijbaienhaiamaaGreatDoor.Ex
end

/- What is proved here: a law for a loop over an iterator that keeps a state of its own in memory: what the loop's body owes, what the iterator owes. Condition: the iterator's contract as stated. -/
section
namespace Go.Proofs.YtijbaienhaiamaaGreatDoor
open Go.RowKit

/-- Whatever lies below n₀ or from B on lies as it lay. -/
structure Apart (n₀ B : Nat) (W W' : World) : Prop where
  size : W.heap.size ≤ W'.heap.size
  block : ∀ b, b < W.heap.size → (b < n₀ ∨ B ≤ b) → W'.heap[b]? = W.heap[b]?
theorem Apart.refl (n₀ B : Nat) (W : World) : Apart n₀ B W W := ⟨Nat.le_refl _, fun _ _ _ => rfl⟩
theorem Apart.trans {n₀ B : Nat} {X Y Z : World} (h : Apart n₀ B X Y) (k : Apart n₀ B Y Z) : Apart n₀ B X Z :=
  ⟨Nat.le_trans h.size k.size, fun b hb hc => (k.block b (Nat.lt_of_lt_of_le hb h.size) hc).trans (h.block b hb hc)⟩
theorem Apart.later {n₀ B B' : Nat} {X Y : World} (h : Apart n₀ B X Y) (hB : B ≤ B') : Apart n₀ B' X Y :=
  ⟨h.size, fun b hb hc => h.block b hb (by omega)⟩
theorem Apart.setCell {n₀ B : Nat} (W : World) (p : Addr) (v : Value) (h1 : n₀ ≤ p.block) (h2 : p.block < B) : Apart n₀ B W (W.setCell p v) :=
  ⟨by simp [World.setCell], fun b _ hc => Below.heap_setCell _ _ _ _ (by omega)⟩
theorem Apart.putObj {n₀ B : Nat} (W : World) (l : Nat) (o : Obj) (h1 : n₀ ≤ l) (h2 : l < B) : Apart n₀ B W (W.putObj l o) :=
  ⟨by simp, fun b _ hc => World.putObj_heap_other (by omega)⟩
theorem Apart.alloc {n₀ B : Nat} {X W : World} (h : Apart n₀ B X W) (o : Obj) : Apart n₀ B X (W.alloc o) :=
  h.trans ⟨by simp, fun b hb _ => Below.heap_alloc _ _ _ hb⟩
theorem Apart.of_below {n₀ B : Nat} {X W W' : World} (h : Apart n₀ B X W) (k : Below W.heap.size W W') : Apart n₀ B X W' :=
  h.trans ⟨k.size, fun b hb _ => k.block b hb⟩

/-- The iterator g (with what it has captured, lb) yields the elements whose keys are seq, in order, and stops when a round says so. Its own state lies in blocks that it makes; a round may change no block but those from n₀ to where the iterator began. -/
def SeqGo {α κ : Type} (F : Fence) (n : Nat) (P : Program) (g : Nat) (lb : Array Value) (encs : α → Array Value) (key : α → κ) (n₀ : Nat) (seq : List κ) (w : World) : Prop :=
  ∀ (l : Nat) (J : Nat → World → Prop) (Jx : World → Prop) (W : World), Below w.heap.size w W →
    (∀ k A C, J k A → Below W.heap.size A C → J k C) → (∀ A C, Jx A → Below W.heap.size A C → Jx C) →
    (∀ k x W1, seq[k]? = some (key x) → J k W1 → YieldAt F (n - 1) P l (encs x) W1 fun e W' =>
      (e = .returned (.bool true) ∧ J (k + 1) W' ∧ Apart n₀ W.heap.size W1 W') ∨ (e = .returned (.bool false) ∧ Jx W')) →
    J 0 W →
    CallsIn F n P g (#[.func (.yield l) #[] #[]] ++ lb) W fun e W' => (∃ v, e = .returned v) ∧ (J seq.length W' ∨ Jx W')

/-- How the body of a round may be left. -/
def goPost (n₀ B : Nat) (I : Nat → World → Prop) (Ix : Code → World → Prop) (k : Nat) (W : World) : Exit → Act → World → Prop
  | .normal, _, W' => Apart n₀ B W W' ∧ I k W'
  | .ret, _, W' => Apart n₀ B W W' ∧ Ix .ret W'
  | .exit id, _, W' => Apart n₀ B W W' ∧ Ix (.exit id) W'
  | .goto t, _, W' => Apart n₀ B W W' ∧ Ix (.goto t) W'
  | .panic _, _, _ => False
  | .outgrown, _, _ => False

theorem wpIn_rangeFunc_go {α κ : Type} {F : Fence} {n : Nat} {P : Program} {g : Operand} {ps : Array Tmp} {assign body : Code} {Q : Exit → Act → World → Prop} {a : Act} {w : World}
    (hro : F.round = none) (h1 : 1 ≤ n) {gf : Nat} {lb : Array Value} (hg : a.eval g = .func (.func gf) #[] lb) (hFg : F.fn gf) (eg : ∀ args w, (callFunc gf args).run P w = .ok (.enter gf args) w)
    {encs : α → Array Value} {key : α → κ} {n₀ : Nat} {seq : List κ} {w0 : World} (hseq : SeqGo F (n - 1) P gf lb encs key n₀ seq w0)
    (hb0 : Below w0.heap.size w0 w) (hn0 : n₀ ≤ w.heap.size) (hps : ∀ x, (encs x).size = ps.size)
    (I : Nat → World → Prop) (Ix : Code → World → Prop) (hI : ∀ k A C, I k A → Below w.heap.size A C → I k C) (hIx : ∀ c A C, Ix c A → Below w.heap.size A C → Ix c C) (h0 : I 0 w) (a₁ : α → Act)
    (hassign : ∀ (l : Nat) (x : α) (W : World) (K : Act → World → Prop), K (a₁ x) W →
      assign.wpIn (F.inRound l) (n - 1 - 1) P (Exit.then K (fun _ _ _ => False)) { tmps := (ps.zip (encs x)).foldl (fun t (p, v) => t.setIfInBounds p v) a.tmps, defers := [] } W)
    (hbody : ∀ (l k : Nat) (x : α) (W : World), seq[k]? = some (key x) → I k W → w.heap.size ≤ W.heap.size → body.wpIn (F.inRound l) (n - 1 - 1) P (goPost n₀ w.heap.size I Ix (k + 1) W) (a₁ x) W)
    (hdone : ∀ (D : Nat) (W : World), w.heap.size ≤ D → I seq.length W → W.heap[D]? = some (.deferred (some [])) → Q .normal { a with defers := { target := .collected D, args := #[] } :: a.defers } W)
    (hstop : ∀ (D : Nat) (c : Code) (W : World), w.heap.size ≤ D → Ix c W → W.heap[D]? = some (.deferred (some [])) → c.wpIn F n P Q { a with defers := { target := .collected D, args := #[] } :: a.defers } W) :
    (Code.rangeFunc g ps assign body).wpIn F n P Q a w := by
  refine wpIn_rangeFunc ?_
  intro fn hfn
  rw [hro]
  obtain ⟨rec, hrec⟩ : ∃ rec : LoopState → Option Code → Loop, rec = fun st pe => { state := st, pending := pe, fn, tmps := a.tmps, params := ps, assign, body, defers := w.heap.size } := ⟨_, rfl⟩
  obtain ⟨W1, hW1⟩ : ∃ W1, (w.alloc (.deferred (some []))).alloc (.loop (rec .ready none)) = W1 := ⟨_, rfl⟩
  have hL1 : W1.heap[w.heap.size + 1]? = some (.loop (rec .ready none)) := by
    rw [← hW1]; have := World.alloc_heap_new (w.alloc (.deferred (some []))) (.loop (rec .ready none)); rwa [World.size_alloc] at this
  have hK1 : W1.heap[w.heap.size]? = some (.deferred (some [])) := by
    rw [← hW1]; exact (Below.heap_alloc _ _ _ (by simp)).trans (World.alloc_heap_new w _)
  have hbw : Below w.heap.size w W1 := by
    rw [← hW1]; exact ((Below.refl _ w).alloc (Nat.le_refl _) _).alloc (by simp) _
  have hsz : W1.heap.size = w.heap.size + 2 := by rw [← hW1]; simp
  have hI1 : I 0 W1 := hI _ _ _ h0 hbw
  have hb1 : Below w0.heap.size w0 W1 := hb0.trans (hbw.mono hb0.size)
  have put : ∀ (W : World) (l : Nat) (o : Obj), w.heap.size ≤ l → Below w.heap.size W (W.putObj l o) := fun W l o h => ⟨rfl, rfl, rfl, by simp, fun k hk => World.putObj_heap_other (by omega)⟩
  refine ⟨w.heap.size + 1, [{ target := .collected w.heap.size, args := #[] }], W1, { target := .fn (.func gf) lb, args := #[.func (.yield (w.heap.size + 1)) #[] #[]] }, W1, gf,
    #[.func (.yield (w.heap.size + 1)) #[] #[]] ++ lb, W1, ?_, ?_, ?_, ?_, fun _ => h1, ?_⟩
  · rw [← hW1, hrec]; exact run_enterLoop_outer _ _ _ _ _
  · simp only [resolve, hg]
    simp [go_sem]
  · intro f' hf'; simp [Target.leads] at hf'; subst hf'; exact hFg
  · simp [invoke, go_sem, eg]
  · refine (hseq (w.heap.size + 1)
      (fun k W => I k W ∧ W.heap[w.heap.size + 1]? = some (.loop (rec .ready none)) ∧ W.heap[w.heap.size]? = some (.deferred (some [])) ∧ w.heap.size ≤ W.heap.size)
      (fun W => ∃ c, Ix c W ∧ W.heap[w.heap.size + 1]? = some (.loop (rec .done (some c))) ∧ W.heap[w.heap.size]? = some (.deferred (some [])))
      W1 hb1
      (fun k A C hs hbl => ⟨hI k A C hs.1 (hbl.mono (by omega)), (hbl.block _ (by omega)).trans hs.2.1, (hbl.block _ (by omega)).trans hs.2.2.1, Nat.le_trans hs.2.2.2 hbl.size⟩)
      (fun A C hs hbl => by
        obtain ⟨c, hc, hl, hk⟩ := hs
        exact ⟨c, hIx c A C hc (hbl.mono (by omega)), (hbl.block _ (by omega)).trans hl, (hbl.block _ (by omega)).trans hk⟩)
      ?_ ⟨hI1, hL1, hK1, by omega⟩).mono ?_
    · -- one round
      rintro k x W hx ⟨hi, hl, hk, hws⟩
      have hlt : w.heap.size + 1 < W.heap.size := (Array.getElem?_eq_some_iff.1 hl).1
      have hy := run_yield (P := P) (args := encs x) hl (by rw [hrec]; exact hps x)
      rw [hrec] at hy
      refine ⟨fn, _, assign, body, hy, roundIn_of_wpIn hfn (hassign _ x W _ ⟨_, run_beginRound hl (by rw [hrec]), ?_⟩)⟩
      have hl2 : (W.putObj (w.heap.size + 1) (.loop { rec .ready none with state := .busy })).heap[w.heap.size + 1]? = some (.loop { rec .ready none with state := .busy }) := World.putObj_heap_same hlt
      have hk2 : (W.putObj (w.heap.size + 1) (.loop { rec .ready none with state := .busy })).heap[w.heap.size]? = some (.deferred (some [])) := (World.putObj_heap_other (by omega)).trans hk
      refine wpIn_mono (hbody _ k x _ hx (hI _ _ _ hi (put W (w.heap.size + 1) _ (by omega))) (by simp; omega)) ?_
      have fin : ∀ (jump : Option Code) (W3 : World), Apart n₀ w.heap.size (W.putObj (w.heap.size + 1) (.loop { rec .ready none with state := .busy })) W3 →
          (Instr.endRound (w.heap.size + 1) jump).run P W3 = .ok (.bool jump.isNone) (W3.putObj (w.heap.size + 1) (.loop (rec (if jump.isNone then .ready else .done) jump))) ∧
          (W3.putObj (w.heap.size + 1) (.loop (rec (if jump.isNone then .ready else .done) jump))).heap[w.heap.size + 1]? = some (.loop (rec (if jump.isNone then .ready else .done) jump)) ∧
          (W3.putObj (w.heap.size + 1) (.loop (rec (if jump.isNone then .ready else .done) jump))).heap[w.heap.size]? = some (.deferred (some [])) ∧ W.heap.size ≤ W3.heap.size := fun jump W3 hk3 => by
        have hs3 := hk3.size
        rw [World.putObj_size] at hs3
        have hl3 := (hk3.block (w.heap.size + 1) (by simp; omega) (.inr (by omega))).trans hl2
        have hkk := (hk3.block w.heap.size (by simp; omega) (.inr (by omega))).trans hk2
        have := run_endRound (P := P) jump hl3
        rw [hrec] at this ⊢
        exact ⟨this, World.putObj_heap_same (by omega), (World.putObj_heap_other (by omega)).trans hkk, hs3⟩
      rintro e a3 W3 hp
      cases e with
      | normal =>
        obtain ⟨hk3, hi3⟩ := hp
        obtain ⟨hr, hl4, hk4, hs3⟩ := fin none W3 hk3
        refine ⟨_, _, hr, .inl ⟨rfl, ⟨hI _ _ _ hi3 (put W3 (w.heap.size + 1) _ (by omega)), hl4, hk4, by simp; omega⟩, ?_⟩⟩
        exact ((Apart.putObj W (w.heap.size + 1) _ (by omega) (by omega)).trans (hk3.later (by omega))).trans (Apart.putObj W3 (w.heap.size + 1) _ (by omega) (by omega))
      | ret =>
        obtain ⟨hk3, hi3⟩ := hp
        obtain ⟨hr, hl4, hk4, hs3⟩ := fin (some .ret) W3 hk3
        exact ⟨_, _, hr, .inr ⟨rfl, .ret, hIx _ _ _ hi3 (put W3 (w.heap.size + 1) _ (by omega)), hl4, hk4⟩⟩
      | exit id =>
        obtain ⟨hk3, hi3⟩ := hp
        obtain ⟨hr, hl4, hk4, hs3⟩ := fin (some (.exit id)) W3 hk3
        exact ⟨_, _, hr, .inr ⟨rfl, .exit id, hIx _ _ _ hi3 (put W3 (w.heap.size + 1) _ (by omega)), hl4, hk4⟩⟩
      | goto t =>
        obtain ⟨hk3, hi3⟩ := hp
        obtain ⟨hr, hl4, hk4, hs3⟩ := fin (some (.goto t)) W3 hk3
        exact ⟨_, _, hr, .inr ⟨rfl, .goto t, hIx _ _ _ hi3 (put W3 (w.heap.size + 1) _ (by omega)), hl4, hk4⟩⟩
      | panic ch => exact hp.elim
      | outgrown => exact hp.elim
    · -- behind the iterator
      rintro e W2 ⟨⟨v, rfl⟩, (⟨hi, hl, hk, hws⟩ | ⟨c, hi, hl, hk⟩)⟩
      · exact ⟨none, _, by have := run_endLoop (P := P) hl (by rw [hrec]; simp); rw [hrec] at this; exact this, hdone _ _ (Nat.le_refl _) (hI _ _ _ hi (put W2 (w.heap.size + 1) _ (by omega))) ((World.putObj_heap_other (by omega)).trans hk)⟩
      · exact ⟨some c, _, by have := run_endLoop (P := P) hl (by rw [hrec]; simp); rw [hrec] at this; exact this, hstop _ c _ (Nat.le_refl _) (hIx _ _ _ hi (put W2 (w.heap.size + 1) _ (by omega))) ((World.putObj_heap_other (by omega)).trans hk)⟩
theorem _root_.Go.RowKit.Below.putObj' {B : Nat} (W : World) (D : Nat) (hD : B ≤ D) (o : Obj) : Below B W (W.putObj D o) :=
  ⟨rfl, rfl, rfl, by simp, fun k hk => World.putObj_heap_other (by omega)⟩
end Go.Proofs.YtijbaienhaiamaaGreatDoor
end

/- What is proved here: a law for a loop over an iterator whose state lies in blocks of its own, where a round may change whatever else is its own (also blocks that earlier rounds made). Condition: the iterator's contract as stated. -/
section
namespace Go.Proofs.YtijbaienhaiamaaGreatDoor
open Go.RowKit

/-- Whatever was there lies as it lay, but for the blocks M. -/
structure Off (M : Nat → Prop) (A C : World) : Prop where
  os : C.os = A.os
  tape : C.tape = A.tape
  output : C.output = A.output
  size : A.heap.size ≤ C.heap.size
  block : ∀ b, b < A.heap.size → ¬ M b → C.heap[b]? = A.heap[b]?
theorem Off.of_below {M : Nat → Prop} {A C : World} (h : Below A.heap.size A C) : Off M A C := ⟨h.os, h.tape, h.output, h.size, fun b hb _ => h.block b hb⟩
theorem Off.wider {M M' : Nat → Prop} {A C : World} (h : Off M A C) (hm : ∀ b, M b → M' b) : Off M' A C := ⟨h.os, h.tape, h.output, h.size, fun b hb hn => h.block b hb (fun k => hn (hm b k))⟩
theorem Off.below {M : Nat → Prop} {A C : World} {B : Nat} (h : Off M A C) (hm : ∀ b, M b → B ≤ b) (hB : B ≤ A.heap.size) : Below B A C := ⟨h.os, h.tape, h.output, h.size, fun b hb => h.block b (by omega) (fun k => by have := hm b k; omega)⟩
theorem Off.trans {M : Nat → Prop} {A B C : World} (h : Off M A B) (k : Off M B C) : Off M A C := ⟨k.os.trans h.os, k.tape.trans h.tape, k.output.trans h.output, Nat.le_trans h.size k.size, fun b hb hn => (k.block b (Nat.lt_of_lt_of_le hb h.size) hn).trans (h.block b hb hn)⟩
theorem Off.setCell {M : Nat → Prop} (W : World) (p : Addr) (v : Value) (hp : M p.block) : Off M W (W.setCell p v) := ⟨rfl, rfl, rfl, by simp [World.setCell], fun b _ hn => Below.heap_setCell _ _ _ _ (fun e => hn (by rw [e]; exact hp))⟩
theorem Off.alloc {M : Nat → Prop} (W : World) (o : Obj) : Off M W (W.alloc o) := Off.of_below ((Below.refl _ _).alloc (Nat.le_refl _) o)
theorem Off.grown {M : Nat → Prop} {W W' : World} {g : Nat} (h : W.grownBy W' (some g)) (hg : M g) : Off M W W' := ⟨h.os, h.tape, h.output, h.size, fun b hb hn => h.block b hb (fun e => hn (by injection e with e; rw [e]; exact hg))⟩
/-- Whatever lies below n₀ or in M lies as it lay. -/
structure ApartI (n₀ : Nat) (M : Nat → Prop) (W W' : World) : Prop where
  size : W.heap.size ≤ W'.heap.size
  block : ∀ b, b < W.heap.size → (b < n₀ ∨ M b) → W'.heap[b]? = W.heap[b]?
theorem ApartI.refl (n₀ : Nat) (M : Nat → Prop) (W : World) : ApartI n₀ M W W := ⟨Nat.le_refl _, fun _ _ _ => rfl⟩
theorem ApartI.trans {n₀ : Nat} {M : Nat → Prop} {X Y Z : World} (h : ApartI n₀ M X Y) (k : ApartI n₀ M Y Z) : ApartI n₀ M X Z :=
  ⟨Nat.le_trans h.size k.size, fun b hb hc => (k.block b (Nat.lt_of_lt_of_le hb h.size) hc).trans (h.block b hb hc)⟩
theorem ApartI.narrow {n₀ : Nat} {M M' : Nat → Prop} {X Y : World} (h : ApartI n₀ M X Y) (hm : ∀ b, M' b → M b) : ApartI n₀ M' X Y :=
  ⟨h.size, fun b hb hc => h.block b hb (hc.imp id (hm b))⟩
theorem ApartI.of_below {n₀ : Nat} {M : Nat → Prop} {X Y : World} (h : Below X.heap.size X Y) : ApartI n₀ M X Y := ⟨h.size, fun b hb _ => h.block b hb⟩
theorem ApartI.of_apart {n₀ B : Nat} {M : Nat → Prop} {X Y : World} (h : Apart n₀ B X Y) (hm : ∀ b, M b → B ≤ b) : ApartI n₀ M X Y := ⟨h.size, fun b hb hc => h.block b hb (hc.imp id (hm b))⟩
theorem ApartI.setCell {n₀ : Nat} {M : Nat → Prop} (W : World) (p : Addr) (v : Value) (h1 : n₀ ≤ p.block) (h2 : ¬ M p.block) : ApartI n₀ M W (W.setCell p v) :=
  ⟨by simp [World.setCell], fun b _ hc => Below.heap_setCell _ _ _ _ (fun e => hc.elim (fun h => by omega) (fun h => h2 (e ▸ h)))⟩
theorem ApartI.putObj {n₀ : Nat} {M : Nat → Prop} (W : World) (l : Nat) (o : Obj) (h1 : n₀ ≤ l) (h2 : ¬ M l) : ApartI n₀ M W (W.putObj l o) :=
  ⟨by simp, fun b _ hc => World.putObj_heap_other (fun e => hc.elim (fun h => by omega) (fun h => h2 (e ▸ h)))⟩
theorem ApartI.grown {n₀ : Nat} {M : Nat → Prop} {W W' : World} {g : Nat} (h : W.grownBy W' (some g)) (h1 : n₀ ≤ g) (h2 : ¬ M g) : ApartI n₀ M W W' :=
  ⟨h.size, fun b hb hc => h.block b hb (fun e => by injection e with e; exact hc.elim (fun h => by omega) (fun h => h2 (e ▸ h)))⟩

/-- The iterator g (with what it has captured, lb) yields the elements whose keys are seq, in order, and stops when a round says so. Its own state lies in the blocks M, which it makes; a round leaves these, and the blocks below n₀, as they lie. -/
def SeqOwn {α κ : Type} (F : Fence) (n : Nat) (P : Program) (g : Nat) (lb : Array Value) (encs : α → Array Value) (key : α → κ) (n₀ : Nat) (seq : List κ) (w : World) : Prop :=
  ∀ (l : Nat) (J : Nat → (Nat → Prop) → World → Prop) (Jx : World → Prop) (W : World), Below w.heap.size w W →
    (∀ k M M' A C, (∀ b, M b → W.heap.size ≤ b) → W.heap.size ≤ A.heap.size → J k M A → Off M A C → (∀ b, M' b → M b ∨ A.heap.size ≤ b) → J k M' C) →
    (∀ A C, Jx A → Below W.heap.size A C → Jx C) →
    (∀ k x M W1, seq[k]? = some (key x) → (∀ b, M b → W.heap.size ≤ b ∧ b < W1.heap.size) → W.heap.size ≤ W1.heap.size → J k M W1 → YieldAt F (n - 1) P l (encs x) W1 fun e W' =>
      (e = .returned (.bool true) ∧ J (k + 1) M W' ∧ ApartI n₀ M W1 W') ∨ (e = .returned (.bool false) ∧ Jx W')) →
    J 0 (fun _ => False) W →
    CallsIn F n P g (#[.func (.yield l) #[] #[]] ++ lb) W fun e W' => (∃ v, e = .returned v) ∧ ((∃ M, (∀ b, M b → W.heap.size ≤ b) ∧ J seq.length M W') ∨ Jx W')

theorem SeqOwn.plain {α κ : Type} {F : Fence} {n : Nat} {P : Program} {g : Nat} {lb : Array Value} {encs : α → Array Value} {key : α → κ} {n₀ : Nat} {seq : List κ} {w : World} (h : SeqOwn F n P g lb encs key n₀ seq w) : SeqGo F n P g lb encs key n₀ seq w := by
  intro l J Jx W hW hJ hJx hY h0
  refine (h l (fun k _ A => J k A) Jx W hW (fun k M M' A C hM hA hj ho _ => hJ k A C hj (ho.below hM hA)) hJx
    (fun k x M W1 hx hM _ hj => (hY k x W1 hx hj).mono (fun e w' hr => hr.imp (fun h => ⟨h.1, h.2.1, ApartI.of_apart h.2.2 (fun b hb => (hM b hb).1)⟩) id)) h0).mono ?_
  rintro e W' ⟨hv, (⟨M, _, hj⟩ | hj)⟩
  · exact ⟨hv, .inl hj⟩
  · exact ⟨hv, .inr hj⟩

/-- How the body of a round may be left. -/
def ownPost (n₀ : Nat) (M : Nat → Prop) (I : Nat → (Nat → Prop) → World → Prop) (Ix : Code → World → Prop) (k : Nat) (W : World) : Exit → Act → World → Prop
  | .normal, _, W' => ApartI n₀ M W W' ∧ I k M W'
  | .ret, _, W' => ApartI n₀ M W W' ∧ Ix .ret W'
  | .exit id, _, W' => ApartI n₀ M W W' ∧ Ix (.exit id) W'
  | .goto t, _, W' => ApartI n₀ M W W' ∧ Ix (.goto t) W'
  | .panic _, _, _ => False
  | .outgrown, _, _ => False

theorem wpIn_rangeFunc_own {α κ : Type} {F : Fence} {n : Nat} {P : Program} {g : Operand} {ps : Array Tmp} {assign body : Code} {Q : Exit → Act → World → Prop} {a : Act} {w : World}
    (hro : F.round = none) (h1 : 1 ≤ n) {gf : Nat} {lb : Array Value} (hg : a.eval g = .func (.func gf) #[] lb) (hFg : F.fn gf) (eg : ∀ args w, (callFunc gf args).run P w = .ok (.enter gf args) w)
    {encs : α → Array Value} {key : α → κ} {n₀ : Nat} {seq : List κ} {w0 : World} (hseq : SeqOwn F (n - 1) P gf lb encs key n₀ seq w0)
    (hb0 : Below w0.heap.size w0 w) (hn0 : n₀ ≤ w.heap.size) (hps : ∀ x, (encs x).size = ps.size)
    (I : Nat → (Nat → Prop) → World → Prop) (Ix : Code → World → Prop)
    (hI : ∀ k M M' A C, (∀ b, M b → w.heap.size ≤ b) → w.heap.size ≤ A.heap.size → I k M A → Off M A C → (∀ b, M' b → M b ∨ A.heap.size ≤ b) → I k M' C)
    (hIx : ∀ c A C, Ix c A → Below w.heap.size A C → Ix c C) (h0 : I 0 (fun _ => False) w) (a₁ : α → Nat → Act) (mid : α → World → World) (hmid : ∀ x W, Below W.heap.size W (mid x W))
    (hassign : ∀ (l : Nat) (x : α) (W : World) (K : Act → World → Prop), K (a₁ x W.heap.size) (mid x W) →
      assign.wpIn (F.inRound l) (n - 1 - 1) P (Exit.then K (fun _ _ _ => False)) { tmps := (ps.zip (encs x)).foldl (fun t (p, v) => t.setIfInBounds p v) a.tmps, defers := [] } W)
    (hbody : ∀ (l k : Nat) (x : α) (M : Nat → Prop) (W0 W : World), seq[k]? = some (key x) → (∀ b, M b → w.heap.size ≤ b ∧ b < W0.heap.size) → I k M W → w.heap.size + 1 < W0.heap.size → W.heap.size = (mid x W0).heap.size → (∀ b, W0.heap.size ≤ b → W.heap[b]? = (mid x W0).heap[b]?) →
      body.wpIn (F.inRound l) (n - 1 - 1) P (ownPost n₀ M I Ix (k + 1) W) (a₁ x W0.heap.size) W)
    (hdone : ∀ (D : Nat) (M : Nat → Prop) (W : World), w.heap.size ≤ D → I seq.length M W → M D → W.heap[D]? = some (.deferred (some [])) → Q .normal { a with defers := { target := .collected D, args := #[] } :: a.defers } W)
    (hstop : ∀ (D : Nat) (c : Code) (W : World), w.heap.size ≤ D → Ix c W → W.heap[D]? = some (.deferred (some [])) → c.wpIn F n P Q { a with defers := { target := .collected D, args := #[] } :: a.defers } W) :
    (Code.rangeFunc g ps assign body).wpIn F n P Q a w := by
  refine wpIn_rangeFunc ?_
  intro fn hfn
  rw [hro]
  obtain ⟨rec, hrec⟩ : ∃ rec : LoopState → Option Code → Loop, rec = fun st pe => { state := st, pending := pe, fn, tmps := a.tmps, params := ps, assign, body, defers := w.heap.size } := ⟨_, rfl⟩
  obtain ⟨W1, hW1⟩ : ∃ W1, (w.alloc (.deferred (some []))).alloc (.loop (rec .ready none)) = W1 := ⟨_, rfl⟩
  have hL1 : W1.heap[w.heap.size + 1]? = some (.loop (rec .ready none)) := by
    rw [← hW1]; have := World.alloc_heap_new (w.alloc (.deferred (some []))) (.loop (rec .ready none)); rwa [World.size_alloc] at this
  have hK1 : W1.heap[w.heap.size]? = some (.deferred (some [])) := by
    rw [← hW1]; exact (Below.heap_alloc _ _ _ (by simp)).trans (World.alloc_heap_new w _)
  have hbw : Below w.heap.size w W1 := by
    rw [← hW1]; exact ((Below.refl _ w).alloc (Nat.le_refl _) _).alloc (by simp) _
  have hsz : W1.heap.size = w.heap.size + 2 := by rw [← hW1]; simp
  obtain ⟨two, htwo⟩ : ∃ two : (Nat → Prop) → Nat → Prop, two = fun M b => M b ∨ b = w.heap.size ∨ b = w.heap.size + 1 := ⟨_, rfl⟩
  have hI1 : I 0 (two (fun _ => False)) W1 := hI _ _ _ _ _ (fun b hb => hb.elim) (Nat.le_refl _) h0 (Off.of_below hbw) (fun b hb => by rw [htwo] at hb; exact .inr (hb.elim (fun h => h.elim) (fun h => h.elim (fun h => by omega) (fun h => by omega))))
  have hb1 : Below w0.heap.size w0 W1 := hb0.trans (hbw.mono hb0.size)
  have off : ∀ (M : Nat → Prop) (W : World) (o : Obj), Off (two M) W (W.putObj (w.heap.size + 1) o) := fun M W o => ⟨rfl, rfl, rfl, by simp, fun k _ hn => World.putObj_heap_other (fun e => hn (by rw [htwo]; exact .inr (.inr e)))⟩
  have low : ∀ (W : World) (o : Obj), Below w.heap.size W (W.putObj (w.heap.size + 1) o) := fun W o => ⟨rfl, rfl, rfl, by simp, fun k hk => World.putObj_heap_other (by omega)⟩
  refine ⟨w.heap.size + 1, [{ target := .collected w.heap.size, args := #[] }], W1, { target := .fn (.func gf) lb, args := #[.func (.yield (w.heap.size + 1)) #[] #[]] }, W1, gf,
    #[.func (.yield (w.heap.size + 1)) #[] #[]] ++ lb, W1, ?_, ?_, ?_, ?_, fun _ => h1, ?_⟩
  · rw [← hW1, hrec]; exact run_enterLoop_outer _ _ _ _ _
  · simp only [resolve, hg]
    simp [go_sem]
  · intro f' hf'; simp [Target.leads] at hf'; subst hf'; exact hFg
  · simp [invoke, go_sem, eg]
  · refine (hseq (w.heap.size + 1)
      (fun k M W => I k (two M) W ∧ W.heap[w.heap.size + 1]? = some (.loop (rec .ready none)) ∧ W.heap[w.heap.size]? = some (.deferred (some [])) ∧ w.heap.size ≤ W.heap.size)
      (fun W => ∃ c, Ix c W ∧ W.heap[w.heap.size + 1]? = some (.loop (rec .done (some c))) ∧ W.heap[w.heap.size]? = some (.deferred (some [])))
      W1 hb1
      (fun k M M' A C hM hA hs ho hM' => by
        have hl : ∀ b, b < W1.heap.size → C.heap[b]? = A.heap[b]? := fun b hb => ho.block b (by omega) (fun h => by have := hM b h; omega)
        refine ⟨hI k (two M) (two M') A C (fun b hb => ?_) hs.2.2.2 hs.1 (ho.wider (fun b hb => by rw [htwo]; exact .inl hb)) (fun b hb => ?_), (hl _ (by omega)).trans hs.2.1, (hl _ (by omega)).trans hs.2.2.1, Nat.le_trans hs.2.2.2 ho.size⟩
        · rw [htwo] at hb
          rcases hb with hb | hb | hb
          · have := hM b hb; omega
          · omega
          · omega
        · rw [htwo] at hb ⊢
          rcases hb with hb | hb
          · rcases hM' b hb with h | h
            · exact .inl (.inl h)
            · exact .inr h
          · exact .inl (.inr hb))
      (fun A C hs hbl => by
        obtain ⟨c, hc, hl, hk⟩ := hs
        exact ⟨c, hIx c A C hc (hbl.mono (by omega)), (hbl.block _ (by omega)).trans hl, (hbl.block _ (by omega)).trans hk⟩)
      ?_ ⟨hI1, hL1, hK1, by omega⟩).mono ?_
    · -- one round
      rintro k x M W hx hM hWs ⟨hi, hl, hk, hws⟩
      have hlt0 : w.heap.size + 1 < W.heap.size := (Array.getElem?_eq_some_iff.1 hl).1
      have hM2 : ∀ b, two M b → w.heap.size ≤ b := fun b hb => by
        rw [htwo] at hb
        rcases hb with hb | hb | hb
        · have := (hM b hb).1; omega
        · omega
        · omega
      have hM3 : ∀ b, two M b → w.heap.size ≤ b ∧ b < W.heap.size := fun b hb => ⟨hM2 b hb, by
        rw [htwo] at hb
        rcases hb with hb | hb | hb
        · exact (hM b hb).2
        · omega
        · omega⟩
      have hid : ∀ (A : World) b, two M b → two M b ∨ A.heap.size ≤ b := fun _ b hb => .inl hb
      have hbm := hmid x W
      have hsm := hbm.size
      have hy := run_yield (P := P) (args := encs x) hl (by rw [hrec]; exact hps x)
      rw [hrec] at hy
      have hlm : (mid x W).heap[w.heap.size + 1]? = some (.loop (rec .ready none)) := (hbm.block _ hlt0).trans hl
      have hkm : (mid x W).heap[w.heap.size]? = some (.deferred (some [])) := (hbm.block _ (by omega)).trans hk
      have him : I k (two M) (mid x W) := hI _ _ _ _ _ hM2 hws hi (Off.of_below hbm) (hid _)
      refine ⟨fn, _, assign, body, hy, roundIn_of_wpIn hfn (hassign _ x W _ ⟨_, run_beginRound hlm (by rw [hrec]), ?_⟩)⟩
      obtain ⟨Wm, hWm⟩ : ∃ Wm, mid x W = Wm := ⟨_, rfl⟩
      rw [hWm] at hbm hsm hlm hkm him ⊢
      have hlt : w.heap.size + 1 < Wm.heap.size := by omega
      have hl2 : (Wm.putObj (w.heap.size + 1) (.loop { rec .ready none with state := .busy })).heap[w.heap.size + 1]? = some (.loop { rec .ready none with state := .busy }) := World.putObj_heap_same hlt
      have hk2 : (Wm.putObj (w.heap.size + 1) (.loop { rec .ready none with state := .busy })).heap[w.heap.size]? = some (.deferred (some [])) := (World.putObj_heap_other (by omega)).trans hkm
      refine wpIn_mono (hbody _ k x (two M) W _ hx hM3 (hI _ _ _ _ _ hM2 (by omega) him (off M Wm _) (hid _)) hlt0 (by rw [hWm]; simp) (fun b hb => by rw [hWm]; exact World.putObj_heap_other (by omega))) ?_
      have h2a : two M (w.heap.size + 1) := by rw [htwo]; exact .inr (.inr rfl)
      have h2b : two M w.heap.size := by rw [htwo]; exact .inr (.inl rfl)
      have fin : ∀ (jump : Option Code) (W3 : World), ApartI n₀ (two M) (Wm.putObj (w.heap.size + 1) (.loop { rec .ready none with state := .busy })) W3 →
          (Instr.endRound (w.heap.size + 1) jump).run P W3 = .ok (.bool jump.isNone) (W3.putObj (w.heap.size + 1) (.loop (rec (if jump.isNone then .ready else .done) jump))) ∧
          (W3.putObj (w.heap.size + 1) (.loop (rec (if jump.isNone then .ready else .done) jump))).heap[w.heap.size + 1]? = some (.loop (rec (if jump.isNone then .ready else .done) jump)) ∧
          (W3.putObj (w.heap.size + 1) (.loop (rec (if jump.isNone then .ready else .done) jump))).heap[w.heap.size]? = some (.deferred (some [])) ∧ Wm.heap.size ≤ W3.heap.size := fun jump W3 hk3 => by
        have hs3 := hk3.size
        rw [World.putObj_size] at hs3
        have hl3 := (hk3.block (w.heap.size + 1) (by simp; omega) (.inr h2a)).trans hl2
        have hkk := (hk3.block w.heap.size (by simp; omega) (.inr h2b)).trans hk2
        have := run_endRound (P := P) jump hl3
        rw [hrec] at this ⊢
        exact ⟨this, World.putObj_heap_same (by omega), (World.putObj_heap_other (by omega)).trans hkk, hs3⟩
      have hnM : ¬ M (w.heap.size + 1) := fun h => by have := (hM _ h).1; omega
      rintro e a3 W3 hp
      cases e with
      | normal =>
        obtain ⟨hk3, hi3⟩ := hp
        obtain ⟨hr, hl4, hk4, hs3⟩ := fin none W3 hk3
        refine ⟨_, _, hr, .inl ⟨rfl, ⟨hI _ _ _ _ _ hM2 (by omega) hi3 (off M W3 _) (hid _), hl4, hk4, by simp; omega⟩, ?_⟩⟩
        exact (((ApartI.of_below hbm).trans (ApartI.putObj Wm (w.heap.size + 1) _ (by omega) hnM)).trans (hk3.narrow (fun b hb => by rw [htwo]; exact .inl hb))).trans (ApartI.putObj W3 (w.heap.size + 1) _ (by omega) hnM)
      | ret =>
        obtain ⟨hk3, hi3⟩ := hp
        obtain ⟨hr, hl4, hk4, hs3⟩ := fin (some .ret) W3 hk3
        exact ⟨_, _, hr, .inr ⟨rfl, .ret, hIx _ _ _ hi3 (low W3 _), hl4, hk4⟩⟩
      | exit id =>
        obtain ⟨hk3, hi3⟩ := hp
        obtain ⟨hr, hl4, hk4, hs3⟩ := fin (some (.exit id)) W3 hk3
        exact ⟨_, _, hr, .inr ⟨rfl, .exit id, hIx _ _ _ hi3 (low W3 _), hl4, hk4⟩⟩
      | goto t =>
        obtain ⟨hk3, hi3⟩ := hp
        obtain ⟨hr, hl4, hk4, hs3⟩ := fin (some (.goto t)) W3 hk3
        exact ⟨_, _, hr, .inr ⟨rfl, .goto t, hIx _ _ _ hi3 (low W3 _), hl4, hk4⟩⟩
      | panic ch => exact hp.elim
      | outgrown => exact hp.elim
    · -- behind the iterator
      rintro e W2 ⟨⟨v, rfl⟩, (⟨M, hM, hi, hl, hk, hws⟩ | ⟨c, hi, hl, hk⟩)⟩
      · have hM2 : ∀ b, two M b → w.heap.size ≤ b := fun b hb => by
          rw [htwo] at hb
          rcases hb with hb | hb | hb
          · have := hM b hb; omega
          · omega
          · omega
        exact ⟨none, _, by have := run_endLoop (P := P) hl (by rw [hrec]; simp); rw [hrec] at this; exact this, hdone _ (two M) _ (Nat.le_refl _) (hI _ _ _ _ _ hM2 hws hi (off M W2 _) (fun b hb => .inl hb)) (by rw [htwo]; exact .inr (.inl rfl)) ((World.putObj_heap_other (by omega)).trans hk)⟩
      · exact ⟨some c, _, by have := run_endLoop (P := P) hl (by rw [hrec]; simp); rw [hrec] at this; exact this, hstop _ c _ (Nat.le_refl _) (hIx _ _ _ hi (low W2 _)) ((World.putObj_heap_other (by omega)).trans hk)⟩
end Go.Proofs.YtijbaienhaiamaaGreatDoor
end
