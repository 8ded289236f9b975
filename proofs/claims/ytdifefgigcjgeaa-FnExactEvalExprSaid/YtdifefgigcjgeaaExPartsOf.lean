/- What is proved here: the program's partsOf hands back its iterator. No condition. -/
import Derived.Test.YtdifefgigcjgeaaExParts
import Derived.Test.YtdifefgigcjgeaaExTreeMake
import Derived.Shelf.Abstract
namespace Go.Proofs.Ytdifefgigcjgeaa.Ex
open Go.RowKit Go.Shelf

attribute [local go_sem] Oper.semAt_some

set_option maxHeartbeats 1000000 in
theorem parts_of (n : Nat) (k nu : Int) (t : ByteArray) (p : Option Addr) (len cap : Nat) (w : World) :
    CallsIn Fence.wide n Try.prog 51 #[.agg #[.int .i64 k, .int .i64 nu, .string t, .slice p len cap]] w fun e w' =>
      e = .returned (.func (.func 72) #[] #[.pointer (some ⟨w.heap.size, 0, none⟩)]) ∧ w' = w.alloc (.cells #[.int .i64 k, .int .i64 nu, .string t, .slice p len cap] 40) := by
  refine callsIn_of_wp Try.func51 rfl trivial ?_ rfl
  simp only [Try.ntmps51, List.size_toArray, List.length_cons, List.length_nil, Nat.reduceAdd, Nat.reduceSub, Array.replicate_succ, Array.replicate_zero, List.push_toArray, List.append_toArray, List.nil_append, List.cons_append]
  gi_wp2
  go_ret
  exact ⟨rfl, rfl⟩

theorem one_cell4 {w : World} {b : Nat} {x : Value} {T : TypeId} (h : w.heap[b]? = some (.cells #[x] T (0, 0))) : w.cell? ⟨b, 0, none⟩ = some x ∧ w.frozen? ⟨b, 0, none⟩ = false := by
  refine ⟨?_, ?_⟩ <;> simp [World.cell?, World.frozen?, h]

end Go.Proofs.Ytdifefgigcjgeaa.Ex
