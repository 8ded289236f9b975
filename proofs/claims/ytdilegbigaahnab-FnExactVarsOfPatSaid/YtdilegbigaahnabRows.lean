/-
  NARROWER THAN 'FOR EVERY INPUT', by the rows' own cells (each row's printed sentence says how): FnExactVarsOfPat: loops.
  DERIVED. THE GIVEN ROWS OF THIS SEAT. 1 by the template 'for every input the law returns true; each argument reads behind the call as it read before'; 0 by the template 'total and deterministic' (their statements: YtdilegbigaahnabTotals.lean).
  GIVEN WITH THE SEED: the statements are not yours to turn. If you find one false, say at which input.
  Laid BY PROGRAM, IN A SANDBOX (cutbox-rows.mjs): the forced cells as the released guide's own fill.sh prints them over the translation ce18ee66db249759… (all of the seat's roots in one cut). By AI agents, Wed Nov 11 2026. No macro, syntax, notation, axiom, sorry.
-/
import Derived.Test.YtdilegbigaahnabChecked
import GoSem.Claim
import GoSem.ClaimJoined
import GoSem.ClaimMapViews
import Derived.JoinedTies
import Derived.KernelRfl
namespace Go.Proofs.Ytdilegbigaahnab
/- THE CELL 'sum', in the pinned program and in every row, IS THE sha256 OF THE DUMP (.gsa) THAT YtdilegbigaahnabProg.lean LOADS. Nothing in Lean hashes anything: it is a label: what it is worth is what the hold of that sum in a sandbox is worth. -/
noncomputable def Try.pinned : Pinned := { name := "ytdilegbigaahnab", sum := "ce18ee66db249759c5eafe9e61cb7cfb5b53e99edc1cd0c4a7e85e72e2e8ad95", checked := Try.checked }
namespace Rows
def none {H : Type} : Left H := { results := [], args := [] }

/-- 'laws.FnExactVarsOfPat': WHATEVER THE INPUT: true; the input reads as it did. -/
def fnExactVarsOfPatSpec : ChangeSpec := { name := "fnExactVarsOfPat", fn := fun _ => fun
  | [d] => { results := [.lit (.bool true)], args := [d] }
  | _ => none }
def fnExactVarsOfPatRow : OpenClaim := { program := "ytdilegbigaahnab", sum := "ce18ee66db249759c5eafe9e61cb7cfb5b53e99edc1cd0c4a7e85e72e2e8ad95", func := "loop.example/g00519/laws.FnExactVarsOfPat", spec := "fnExactVarsOfPat", unfollowed := true, recurses := true, loops := true, apart := false }
def FnExactVarsOfPatSaid : Prop := fnExactVarsOfPatRow.holds Try.pinned (OpenSpec.ofChange fnExactVarsOfPatSpec)

/-- ITS FALSE NEIGHBOUR: 'it returns false'. Refute it at one input. -/
def fnExactVarsOfPatWrong : ChangeSpec := { name := "fnExactVarsOfPat", fn := fun _ => fun
  | [d] => { results := [.lit (.bool false)], args := [d] }
  | _ => none }
def FnExactVarsOfPatWrongFalsely : Prop := fnExactVarsOfPatRow.holds Try.pinned (OpenSpec.ofChange fnExactVarsOfPatWrong)

/- THE SECOND FORM. 'bulk': how many values and letters a reading holds, each counted each time it is reached (what is shared counts as often as it is met; a slice's spare places count too). A statement '..UptoSaid' is the law's where the arguments, and the package variables that the reading takes, are together of bulk at most 1048576: NARROWER than '..Said'. Prove '..Said' where nothing that the law and all that it calls make is longer than what came in: it says more and counts as full. Else prove '..UptoSaid'. A law counts once. -/
mutual
def uptoBulk {H : Type} : DataW H → Nat
  | .lit (.string bytes) => bytes.length + 1
  | .lit _ => 1
  | .nil => 1
  | .ptr d => uptoBulk d + 1
  | .slice elems spare => uptoBulkAll elems + uptoBulkAll spare + 1
  | .agg parts => uptoBulkAll parts + 1
  | .iface _ d => uptoBulk d + 1
  | .map entries => uptoBulkEntries entries + 1
  | .held _ => 1
def uptoBulkAll {H : Type} : List (DataW H) → Nat
  | [] => 0
  | d :: r => uptoBulk d + uptoBulkAll r
def uptoBulkEntries {H : Type} : List (Lit × DataW H) → Nat
  | [] => 0
  | x :: r => uptoBulkEntry x + uptoBulkEntries r
def uptoBulkEntry {H : Type} : Lit × DataW H → Nat
  | (.string bytes, d) => bytes.length + uptoBulk d + 1
  | (_, d) => uptoBulk d + 1
 end
def uptoSmall : (H : Type) → List (DataW H) → Bool := fun _ ds => decide (uptoBulkAll ds ≤ 1048576)
def OpenSpec.upto (s : _root_.Go.ChangeSpec) : _root_.Go.OpenSpec := { _root_.Go.OpenSpec.ofChange s with cond := some uptoSmall }

/-- 'laws.FnExactVarsOfPat', WHERE WHAT IT READS IS OF BULK AT MOST 1048576: true; the input reads as it did. -/
def fnExactVarsOfPatUptoRow : OpenClaim := { program := "ytdilegbigaahnab", sum := "ce18ee66db249759c5eafe9e61cb7cfb5b53e99edc1cd0c4a7e85e72e2e8ad95", func := "loop.example/g00519/laws.FnExactVarsOfPat", spec := "fnExactVarsOfPat", unfollowed := true, recurses := true, loops := true, apart := false, narrowed := true }
def FnExactVarsOfPatUptoSaid : Prop := fnExactVarsOfPatUptoRow.holds Try.pinned (OpenSpec.upto fnExactVarsOfPatSpec)

end Rows
end Go.Proofs.Ytdilegbigaahnab
