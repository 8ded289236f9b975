/- What is proved here: a law for a loop over an iterator that keeps a state of its own in memory: what the loop's body owes, what the iterator owes. Condition: the iterator's contract as stated. -/
import Derived.Test.YtdifefgigcjgeaaProg
import Derived.RangeFuncKeeps
import Derived.RangeFuncLeaves
namespace Go.Proofs.Ytdifefgigcjgeaa
open Go.RowKit

/-- Whatever lies below n₀ or from B on lies as it lay. -/
structure Apart (n₀ B : Nat) (W W' : World) : Prop where
  size : W.heap.size ≤ W'.heap.size
  block : ∀ b, b < W.heap.size → (b < n₀ ∨ B ≤ b) → W'.heap[b]? = W.heap[b]?
theorem Apart.refl (n₀ B : Nat) (W : World) : Apart n₀ B W W := ⟨Nat.le_refl _, fun _ _ _ => rfl⟩
theorem Apart.trans {n₀ B : Nat} {X Y Z : World} (h : Apart n₀ B X Y) (k : Apart n₀ B Y Z) : Apart n₀ B X Z :=
  ⟨Nat.le_trans h.size k.size, fun b hb hc => (k.block b (Nat.lt_of_lt_of_le hb h.size) hc).trans (h.block b hb hc)⟩
theorem Apart.later {n₀ B B' : Nat} {X Y : World} (h : Apart n₀ B X Y) (hB : B ≤ B') : Apart n₀ B' X Y :=
  ⟨h.size, fun b hb hc => h.block b hb (by omega)⟩
theorem Apart.setCell {n₀ B : Nat} (W : World) (p : Addr) (v : Value) (h1 : n₀ ≤ p.block) (h2 : p.block < B) : Apart n₀ B W (W.setCell p v) :=
  ⟨by simp [World.setCell], fun b _ hc => Below.heap_setCell _ _ _ _ (by omega)⟩
theorem Apart.putObj {n₀ B : Nat} (W : World) (l : Nat) (o : Obj) (h1 : n₀ ≤ l) (h2 : l < B) : Apart n₀ B W (W.putObj l o) :=
  ⟨by simp, fun b _ hc => World.putObj_heap_other (by omega)⟩
theorem Apart.alloc {n₀ B : Nat} {X W : World} (h : Apart n₀ B X W) (o : Obj) : Apart n₀ B X (W.alloc o) :=
  h.trans ⟨by simp, fun b hb _ => Below.heap_alloc _ _ _ hb⟩
theorem Apart.of_below {n₀ B : Nat} {X W W' : World} (h : Apart n₀ B X W) (k : Below W.heap.size W W') : Apart n₀ B X W' :=
  h.trans ⟨k.size, fun b hb _ => k.block b hb⟩

/-- The iterator g (with what it has captured, lb) yields the elements whose keys are seq, in order, and stops when a round says so. Its own state lies in blocks that it makes; a round may change no block but those from n₀ to where the iterator began. -/
def SeqGo {α κ : Type} (F : Fence) (n : Nat) (P : Program) (g : Nat) (lb : Array Value) (encs : α → Array Value) (key : α → κ) (n₀ : Nat) (seq : List κ) (w : World) : Prop :=
  ∀ (l : Nat) (J : Nat → World → Prop) (Jx : World → Prop) (W : World), Below w.heap.size w W →
    (∀ k A C, J k A → Below W.heap.size A C → J k C) → (∀ A C, Jx A → Below W.heap.size A C → Jx C) →
    (∀ k x W1, seq[k]? = some (key x) → J k W1 → YieldAt F (n - 1) P l (encs x) W1 fun e W' =>
      (e = .returned (.bool true) ∧ J (k + 1) W' ∧ Apart n₀ W.heap.size W1 W') ∨ (e = .returned (.bool false) ∧ Jx W')) →
    J 0 W →
    CallsIn F n P g (#[.func (.yield l) #[] #[]] ++ lb) W fun e W' => (∃ v, e = .returned v) ∧ (J seq.length W' ∨ Jx W')

/-- How the body of a round may be left. -/
def goPost (n₀ B : Nat) (I : Nat → World → Prop) (Ix : Code → World → Prop) (k : Nat) (W : World) : Exit → Act → World → Prop
  | .normal, _, W' => Apart n₀ B W W' ∧ I k W'
  | .ret, _, W' => Apart n₀ B W W' ∧ Ix .ret W'
  | .exit id, _, W' => Apart n₀ B W W' ∧ Ix (.exit id) W'
  | .goto t, _, W' => Apart n₀ B W W' ∧ Ix (.goto t) W'
  | .panic _, _, _ => False
  | .outgrown, _, _ => False

theorem wpIn_rangeFunc_go {α κ : Type} {F : Fence} {n : Nat} {P : Program} {g : Operand} {ps : Array Tmp} {assign body : Code} {Q : Exit → Act → World → Prop} {a : Act} {w : World}
    (hro : F.round = none) (h1 : 1 ≤ n) {gf : Nat} {lb : Array Value} (hg : a.eval g = .func (.func gf) #[] lb) (hFg : F.fn gf) (eg : ∀ args w, (callFunc gf args).run P w = .ok (.enter gf args) w)
    {encs : α → Array Value} {key : α → κ} {n₀ : Nat} {seq : List κ} {w0 : World} (hseq : SeqGo F (n - 1) P gf lb encs key n₀ seq w0)
    (hb0 : Below w0.heap.size w0 w) (hn0 : n₀ ≤ w.heap.size) (hps : ∀ x, (encs x).size = ps.size)
    (I : Nat → World → Prop) (Ix : Code → World → Prop) (hI : ∀ k A C, I k A → Below w.heap.size A C → I k C) (hIx : ∀ c A C, Ix c A → Below w.heap.size A C → Ix c C) (h0 : I 0 w) (a₁ : α → Act)
    (hassign : ∀ (l : Nat) (x : α) (W : World) (K : Act → World → Prop), K (a₁ x) W →
      assign.wpIn (F.inRound l) (n - 1 - 1) P (Exit.then K (fun _ _ _ => False)) { tmps := (ps.zip (encs x)).foldl (fun t (p, v) => t.setIfInBounds p v) a.tmps, defers := [] } W)
    (hbody : ∀ (l k : Nat) (x : α) (W : World), seq[k]? = some (key x) → I k W → w.heap.size ≤ W.heap.size → body.wpIn (F.inRound l) (n - 1 - 1) P (goPost n₀ w.heap.size I Ix (k + 1) W) (a₁ x) W)
    (hdone : ∀ (D : Nat) (W : World), w.heap.size ≤ D → I seq.length W → W.heap[D]? = some (.deferred (some [])) → Q .normal { a with defers := { target := .collected D, args := #[] } :: a.defers } W)
    (hstop : ∀ (D : Nat) (c : Code) (W : World), w.heap.size ≤ D → Ix c W → W.heap[D]? = some (.deferred (some [])) → c.wpIn F n P Q { a with defers := { target := .collected D, args := #[] } :: a.defers } W) :
    (Code.rangeFunc g ps assign body).wpIn F n P Q a w := by
  refine wpIn_rangeFunc ?_
  intro fn hfn
  rw [hro]
  obtain ⟨rec, hrec⟩ : ∃ rec : LoopState → Option Code → Loop, rec = fun st pe => { state := st, pending := pe, fn, tmps := a.tmps, params := ps, assign, body, defers := w.heap.size } := ⟨_, rfl⟩
  obtain ⟨W1, hW1⟩ : ∃ W1, (w.alloc (.deferred (some []))).alloc (.loop (rec .ready none)) = W1 := ⟨_, rfl⟩
  have hL1 : W1.heap[w.heap.size + 1]? = some (.loop (rec .ready none)) := by
    rw [← hW1]; have := World.alloc_heap_new (w.alloc (.deferred (some []))) (.loop (rec .ready none)); rwa [World.size_alloc] at this
  have hK1 : W1.heap[w.heap.size]? = some (.deferred (some [])) := by
    rw [← hW1]; exact (Below.heap_alloc _ _ _ (by simp)).trans (World.alloc_heap_new w _)
  have hbw : Below w.heap.size w W1 := by
    rw [← hW1]; exact ((Below.refl _ w).alloc (Nat.le_refl _) _).alloc (by simp) _
  have hsz : W1.heap.size = w.heap.size + 2 := by rw [← hW1]; simp
  have hI1 : I 0 W1 := hI _ _ _ h0 hbw
  have hb1 : Below w0.heap.size w0 W1 := hb0.trans (hbw.mono hb0.size)
  have put : ∀ (W : World) (l : Nat) (o : Obj), w.heap.size ≤ l → Below w.heap.size W (W.putObj l o) := fun W l o h => ⟨rfl, rfl, rfl, by simp, fun k hk => World.putObj_heap_other (by omega)⟩
  refine ⟨w.heap.size + 1, [{ target := .collected w.heap.size, args := #[] }], W1, { target := .fn (.func gf) lb, args := #[.func (.yield (w.heap.size + 1)) #[] #[]] }, W1, gf,
    #[.func (.yield (w.heap.size + 1)) #[] #[]] ++ lb, W1, ?_, ?_, ?_, ?_, fun _ => h1, ?_⟩
  · rw [← hW1, hrec]; exact run_enterLoop_outer _ _ _ _ _
  · simp only [resolve, hg]
    simp [go_sem]
  · intro f' hf'; simp [Target.leads] at hf'; subst hf'; exact hFg
  · simp [invoke, go_sem, eg]
  · refine (hseq (w.heap.size + 1)
      (fun k W => I k W ∧ W.heap[w.heap.size + 1]? = some (.loop (rec .ready none)) ∧ W.heap[w.heap.size]? = some (.deferred (some [])) ∧ w.heap.size ≤ W.heap.size)
      (fun W => ∃ c, Ix c W ∧ W.heap[w.heap.size + 1]? = some (.loop (rec .done (some c))) ∧ W.heap[w.heap.size]? = some (.deferred (some [])))
      W1 hb1
      (fun k A C hs hbl => ⟨hI k A C hs.1 (hbl.mono (by omega)), (hbl.block _ (by omega)).trans hs.2.1, (hbl.block _ (by omega)).trans hs.2.2.1, Nat.le_trans hs.2.2.2 hbl.size⟩)
      (fun A C hs hbl => by
        obtain ⟨c, hc, hl, hk⟩ := hs
        exact ⟨c, hIx c A C hc (hbl.mono (by omega)), (hbl.block _ (by omega)).trans hl, (hbl.block _ (by omega)).trans hk⟩)
      ?_ ⟨hI1, hL1, hK1, by omega⟩).mono ?_
    · -- one round
      rintro k x W hx ⟨hi, hl, hk, hws⟩
      have hlt : w.heap.size + 1 < W.heap.size := (Array.getElem?_eq_some_iff.1 hl).1
      have hy := run_yield (P := P) (args := encs x) hl (by rw [hrec]; exact hps x)
      rw [hrec] at hy
      refine ⟨fn, _, assign, body, hy, roundIn_of_wpIn hfn (hassign _ x W _ ⟨_, run_beginRound hl (by rw [hrec]), ?_⟩)⟩
      have hl2 : (W.putObj (w.heap.size + 1) (.loop { rec .ready none with state := .busy })).heap[w.heap.size + 1]? = some (.loop { rec .ready none with state := .busy }) := World.putObj_heap_same hlt
      have hk2 : (W.putObj (w.heap.size + 1) (.loop { rec .ready none with state := .busy })).heap[w.heap.size]? = some (.deferred (some [])) := (World.putObj_heap_other (by omega)).trans hk
      refine wpIn_mono (hbody _ k x _ hx (hI _ _ _ hi (put W (w.heap.size + 1) _ (by omega))) (by simp; omega)) ?_
      have fin : ∀ (jump : Option Code) (W3 : World), Apart n₀ w.heap.size (W.putObj (w.heap.size + 1) (.loop { rec .ready none with state := .busy })) W3 →
          (Instr.endRound (w.heap.size + 1) jump).run P W3 = .ok (.bool jump.isNone) (W3.putObj (w.heap.size + 1) (.loop (rec (if jump.isNone then .ready else .done) jump))) ∧
          (W3.putObj (w.heap.size + 1) (.loop (rec (if jump.isNone then .ready else .done) jump))).heap[w.heap.size + 1]? = some (.loop (rec (if jump.isNone then .ready else .done) jump)) ∧
          (W3.putObj (w.heap.size + 1) (.loop (rec (if jump.isNone then .ready else .done) jump))).heap[w.heap.size]? = some (.deferred (some [])) ∧ W.heap.size ≤ W3.heap.size := fun jump W3 hk3 => by
        have hs3 := hk3.size
        rw [World.putObj_size] at hs3
        have hl3 := (hk3.block (w.heap.size + 1) (by simp; omega) (.inr (by omega))).trans hl2
        have hkk := (hk3.block w.heap.size (by simp; omega) (.inr (by omega))).trans hk2
        have := run_endRound (P := P) jump hl3
        rw [hrec] at this ⊢
        exact ⟨this, World.putObj_heap_same (by omega), (World.putObj_heap_other (by omega)).trans hkk, hs3⟩
      rintro e a3 W3 hp
      cases e with
      | normal =>
        obtain ⟨hk3, hi3⟩ := hp
        obtain ⟨hr, hl4, hk4, hs3⟩ := fin none W3 hk3
        refine ⟨_, _, hr, .inl ⟨rfl, ⟨hI _ _ _ hi3 (put W3 (w.heap.size + 1) _ (by omega)), hl4, hk4, by simp; omega⟩, ?_⟩⟩
        exact ((Apart.putObj W (w.heap.size + 1) _ (by omega) (by omega)).trans (hk3.later (by omega))).trans (Apart.putObj W3 (w.heap.size + 1) _ (by omega) (by omega))
      | ret =>
        obtain ⟨hk3, hi3⟩ := hp
        obtain ⟨hr, hl4, hk4, hs3⟩ := fin (some .ret) W3 hk3
        exact ⟨_, _, hr, .inr ⟨rfl, .ret, hIx _ _ _ hi3 (put W3 (w.heap.size + 1) _ (by omega)), hl4, hk4⟩⟩
      | exit id =>
        obtain ⟨hk3, hi3⟩ := hp
        obtain ⟨hr, hl4, hk4, hs3⟩ := fin (some (.exit id)) W3 hk3
        exact ⟨_, _, hr, .inr ⟨rfl, .exit id, hIx _ _ _ hi3 (put W3 (w.heap.size + 1) _ (by omega)), hl4, hk4⟩⟩
      | goto t =>
        obtain ⟨hk3, hi3⟩ := hp
        obtain ⟨hr, hl4, hk4, hs3⟩ := fin (some (.goto t)) W3 hk3
        exact ⟨_, _, hr, .inr ⟨rfl, .goto t, hIx _ _ _ hi3 (put W3 (w.heap.size + 1) _ (by omega)), hl4, hk4⟩⟩
      | panic ch => exact hp.elim
      | outgrown => exact hp.elim
    · -- behind the iterator
      rintro e W2 ⟨⟨v, rfl⟩, (⟨hi, hl, hk, hws⟩ | ⟨c, hi, hl, hk⟩)⟩
      · exact ⟨none, _, by have := run_endLoop (P := P) hl (by rw [hrec]; simp); rw [hrec] at this; exact this, hdone _ _ (Nat.le_refl _) (hI _ _ _ hi (put W2 (w.heap.size + 1) _ (by omega))) ((World.putObj_heap_other (by omega)).trans hk)⟩
      · exact ⟨some c, _, by have := run_endLoop (P := P) hl (by rw [hrec]; simp); rw [hrec] at this; exact this, hstop _ c _ (Nat.le_refl _) (hIx _ _ _ hi (put W2 (w.heap.size + 1) _ (by omega))) ((World.putObj_heap_other (by omega)).trans hk)⟩
theorem _root_.Go.RowKit.Below.putObj' {B : Nat} (W : World) (D : Nat) (hD : B ≤ D) (o : Obj) : Below B W (W.putObj D o) :=
  ⟨rfl, rfl, rfl, by simp, fun k hk => World.putObj_heap_other (by omega)⟩
end Go.Proofs.Ytdifefgigcjgeaa
