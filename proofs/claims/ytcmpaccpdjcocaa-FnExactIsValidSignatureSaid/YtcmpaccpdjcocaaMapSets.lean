/- What is proved here: sets of texts kept as maps from string to bool: what a look-up finds, len, clear, and the library's maps.Copy. Conditions: the texts' lengths are lengths. -/
import Derived.Test.YtcmpaccpdjcocaaSets
import Derived.Lib.SlMapMerge
import Derived.Maps.RangeWalk
import Derived.Laws.IdiomRangeMap
namespace Go.Proofs.Ytcmpaccpdjcocaa
open Go.RowKit Go.Maps Go.ChangeMaps

/-- Block b is a map of n entries at most in which the texts of S, and they alone, have true. -/
def HasSet (w : World) (b n : Nat) (S : ByteArray → Prop) : Prop := ∃ D, w.ownsMap Try.prog 9 (plainElem (H := Unit) Try.prog 4) b n D ∧ ∀ s, has D (strLit s) = bl (S s) ∧ D.atKey (strLit s) no = .lit (.bool (bl (S s)))

set_option maxRecDepth 100000 in
theorem HasSet.look {w : World} {b n : Nat} {S : ByteArray → Prop} (h : HasSet w b n S) (s : ByteArray) (hs : s.size ≤ maxLen) : (Instr.lookup 78 (.map (some b)) (.string s) false).run Try.prog w = .ok (.bool (bl (S s))) w := by
  obtain ⟨D, ho, hD⟩ := h
  obtain ⟨v, ps, hrun, hv⟩ := World.ownsMap.lookup ho lawS Try.underlying78 (zeroB w) (plainElem_bool Try.underlying4 false) (keyS hs)
  rw [hrun]
  rw [(hD s).2] at hv
  have hvb : ∀ x : Bool, plainElem (H := Unit) Try.prog 4 v = some (.lit (.bool x), ps) → v = .bool x := by
    intro x h
    unfold plainElem at h
    rw [Try.underlying4] at h
    cases v <;> simp at h
    rw [h.1]
  rw [hvb _ hv]
set_option maxRecDepth 100000 in
theorem HasSet.kept {w w' : World} {b n : Nat} {S : ByteArray → Prop} {row : Option Nat} (h : HasSet w b n S) (hg : w.grownBy w' row) (hne : some b ≠ row) : HasSet w' b n S := by
  obtain ⟨D, ho, hD⟩ := h
  exact ⟨D, World.ownsMap.kept ho hg hne, hD⟩
theorem HasSet.below {w w' : World} {b n : Nat} {S : ByteArray → Prop} (h : HasSet w b n S) (hb : Below w.heap.size w w') : HasSet w' b n S :=
  h.kept (row := none) ⟨hb.os, hb.tape, hb.output, hb.size, fun k hk _ => hb.block k hk⟩ (by simp)
theorem HasSet.lt {w : World} {b n : Nat} {S : ByteArray → Prop} (h : HasSet w b n S) : b < w.heap.size := by
  obtain ⟨D, ho, _⟩ := h
  exact World.ownsMap.lt ho

theorem has_fold (s : ByteArray) : ∀ (xs : List ByteArray) (m : DataW Unit), IsMap m → has ((xs.map strLit).foldl (fun m x => m.put x yes) m) (strLit s) = (bl (s ∈ xs) || has m (strLit s))
  | [], m, _ => by rw [bl_false (by simp)]; simp
  | x :: r, m, hm => by
    rw [List.map_cons, List.foldl_cons, has_fold s r (m.put (strLit x) yes) (hm.put _ _)]
    by_cases hr : s ∈ r
    · rw [bl_true hr, bl_true (List.mem_cons_of_mem _ hr)]
      simp
    · rw [bl_false hr]
      by_cases e : s = x
      · subst e
        rw [has_put_same hm (strLit_key s), bl_true (by simp)]
        simp
      · rw [has_put_other (fun h => e (strLit_inj h)), bl_false (by simp [hr, e])]
theorem has_setOf (s : ByteArray) (xs : List ByteArray) : has (setOf yes (xs.map strLit)) (strLit s) = bl (s ∈ xs) := by
  rw [setOf, has_fold s xs _ isMap_empty]
  have : has (DataW.map [] : DataW Unit) (strLit s) = false := rfl
  rw [this, Bool.or_false]
theorem IsSet.has {w : World} {b n : Nat} {xs : List ByteArray} (h : IsSet w b n xs) : HasSet w b n (· ∈ xs) := ⟨_, h, fun s => ⟨has_setOf s xs, at_setOf s xs⟩⟩
theorem size_setOf (xs : List ByteArray) : Maps.size (setOf yes (xs.map strLit)) = 0 ↔ xs = [] := by
  constructor
  · intro h
    cases xs with
    | nil => rfl
    | cons x r =>
      have h1 := has_setOf x (x :: r)
      rw [bl_true (by simp)] at h1
      generalize setOf yes ((x :: r).map strLit) = D at h h1
      cases D with
      | map es =>
        cases es with
        | nil => cases h1
        | cons p q => simp [Maps.size] at h
      | _ => simp [Maps.has] at h1
  · rintro rfl
    rfl

theorem bl_or (p q : Prop) : bl (p ∨ q) = (bl p || bl q) := by
  by_cases h1 : p
  · rw [bl_true h1, bl_true (Or.inl h1)]
    rfl
  · by_cases h2 : q
    · rw [bl_false h1, bl_true h2, bl_true (Or.inr h2)]
      rfl
    · rw [bl_false h1, bl_false h2, bl_false (fun h => h.elim h1 h2)]
      rfl

/-- clear(m). -/
theorem IsSet.clear {w : World} {b n : Nat} {xs : List ByteArray} (h : IsSet w b n xs) (ty : TypeId) :
    ∃ w', (Builtin.clear_ #[78] ty #[.map (some b)]).run Try.prog w = .ok (.tuple #[]) w' ∧ IsSet w' b 0 [] ∧ w.grownBy w' (some b) := by
  obtain ⟨es, clock, hb, F, _, _⟩ := h
  refine ⟨setBlock w b (.map #[] clock), ?_, ⟨#[], clock, heap_setBlock_same hb _, ⟨by simp, MapKept.stamped_empty _, by simp⟩, Nat.le_refl _, rfl⟩, ⟨rfl, rfl, rfl, by simp [setBlock], fun k _ hne => heap_setBlock_other hb _ (fun e => hne (by rw [e]))⟩⟩
  simp [Builtin.clear_, run_underlying Try.underlying78, MapKept.run_getObj_map hb, MapKept.run_setObj_map _ hb, Result.andThen, setBlock]

theorem wpList_clear {ops : Array Oper} {rest : List Oper} {o : Oper} {a : Act} {w : World} {Q : Exit → Act → World → Prop} (hg : o.guard = none) (m : Operand) (hop : o.op = Op.call { callee := Callee.builtin Builtin.clear, args := #[m], argTypes := #[78] })
    (b n : Nat) (xs : List ByteArray) (hm : a.eval m = .map (some b)) (h : IsSet w b n xs) (hK : ∀ w', IsSet w' b 0 [] → w.grownBy w' (some b) → wpList Try.prog ops Q rest (a.put o.dst (.tuple #[])) w') :
    wpList Try.prog ops Q (o :: rest) a w := by
  refine wpList_plain hg fun K' hK' => ?_
  obtain ⟨w', hrun, r1, r2⟩ := h.clear o.type
  unfold Oper.wp
  simp [execOp, hop, resolve, invoke, builtin, hm, hrun, Result.andThen]
  exact hK' _ _ (hK w' r1 r2)

theorem set_size_le {w : World} {b n : Nat} {xs : List ByteArray} (h : IsSet w b n xs) : Maps.size (setOf yes (xs.map strLit)) ≤ n := World.ownsMap.size_le h

set_option maxHeartbeats 4000000 in
set_option maxRecDepth 100000 in
/-- maps.Copy of one set into another. -/
theorem copy_sets (bd bs nd ns : Nat) (S : ByteArray → Prop) (ys : List ByteArray) (w : World) (hd : HasSet w bd nd S) (hs : IsSet w bs ns ys) (hne : bd ≠ bs) (hroom : nd + ns ≤ maxLen) :
    Calls Try.prog 74 #[.map (some bd), .map (some bs)] w fun e w' => e = .returned (.tuple #[]) ∧ HasSet w' bd (nd + ns) (fun x => S x ∨ x ∈ ys) ∧ IsSet w' bs ns ys ∧ w.grownBy w' (some bd) := by
  obtain ⟨Dd, hd, hDd⟩ := hd
  have hDs := fun s => And.intro (has_setOf s ys) (at_setOf s ys)
  have hsz := set_size_le hs
  have hbd := World.ownsMap.lt hd
  have hbs := World.ownsMap.lt hs
  unfold IsSet at hs ⊢
  generalize setOf yes (ys.map strLit) = Ds at *
  have HD := Lib.hid hDd
  have HE := Lib.hid hDs
  clear hDd hDs
  go_enter Try.func74, Try.ntmps74
  go_wp2_with (first
    | (at_range; refine wpList_range_own _ rfl _ 78 rfl 9 4 lawS Try.underlying78 (plainElem (H := Unit) Try.prog 4) bs ns _ rfl hs ?_; intro w0 hrg0 hg0 hs0)
    | go_in)
  go_frame
  go_loopw [8] (fun _ wr => ∃ (left : Lit → Bool) (cnt : Nat) (Dout : DataW Unit), wr.ranges Try.prog 9 (plainElem (H := Unit) Try.prog 4) bs w.heap.size ns Ds left cnt ∧ cnt ≤ Maps.size Ds ∧
      wr.ownsMap Try.prog 9 (plainElem (H := Unit) Try.prog 4) bd (nd + (Maps.size Ds - cnt)) Dout ∧ Merged Dout Dd Ds left ∧ w.grownBy wr (some bd))
    (fun _ wr => wr.rangeLeft bs w.heap.size)
  case atStart =>
    exact ⟨_, _, Dd, hrg0, Nat.le_refl _, (hd.kept hg0 (by simp)).mono (by omega), merged_start Dd Ds, hg0.but _⟩
  case round =>
    obtain ⟨left, cnt, Dout, hrg, hcs, hout, hM, hgw⟩ := hrel
    go_wp2_with (first
      | (at_next; refine wpList_next_ranges _ rfl _ rfl 9 lawS (plainElem (H := Unit) Try.prog 4) id id (fun key _ _ => ⟨key, rfl⟩) (fun v _ _ => ⟨v, rfl⟩) bs w.heap.size ns _ _ _ rfl hrg ?_ ?_)
      | go_in)
    · intro hc0 hl0
      go_wp2
      go_end0
      subst hc0
      refine ⟨rfl, ⟨Dout, by simpa using hout.mono (by omega), fun s => ?_⟩, hrg.owns, hgw⟩
      have h1 := hM.1 (strLit s)
      have h2 := hM.2 (strLit s) no
      rw [hl0 (strLit s), (HD.out s).1, (HE.out s).1] at h1
      rw [hl0 (strLit s), (HD.out s).2, (HE.out s).1, (HE.out s).2] at h2
      show has Dout (strLit s) = bl (S s ∨ s ∈ ys) ∧ Dout.atKey (strLit s) no = .lit (.bool (bl (S s ∨ s ∈ ys)))
      rw [h1, h2, bl_or]
      generalize bl (S s) = q1
      generalize bl (s ∈ ys) = q2
      cases q1 <;> cases q2 <;> exact ⟨rfl, rfl⟩
    · intro x c kl yd yp w1 cnt1 hkey hlx hv hat hrg1 hlt hg1 hs1 hen
      have hout1 := hout.kept hg1 (fun e => by have := Option.some.inj e; omega)
      go_wp2_with (first
        | (at_mapUpdate; refine wpList_mapUpdate_own _ rfl _ _ _ 78 rfl 9 4 lawS Try.underlying78 (plainElem (H := Unit) Try.prog 4) bd _ _ rfl hout1 (by omega) _ _ _ rfl rfl hkey yd yp hv ?_; intro w2 hout2 hg2; go_frame)
        | go_in)
      have hrg2 := hrg1.kept hg2 (fun e => hne (Option.some.inj e).symm) (fun e => by have := Option.some.inj e; omega)
      go_roundw
      case rel =>
        exact ⟨_, cnt1, _, hrg2, by omega, hout2.mono (by omega), merged_step hM hout.isMap (lawS.key hkey) hat, (hgw.andThen hg1 (fun j hj => .inl (by cases hj; exact Nat.le_refl _))).andThen hg2 (fun j hj => .inr hj)⟩
      case measure => rw [hrg2.left_eq, hrg.left_eq]; exact hlt
end Go.Proofs.Ytcmpaccpdjcocaa
