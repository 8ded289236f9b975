/-
  NARROWER THAN 'FOR EVERY INPUT', by the rows' own cells (each row's printed sentence says how): FnExactIsValidPat: loops · FnExactIsValidExpr: loops · FnExactVarsOfExpr: loops · FnExactEqualExpr: loops · FnExactEvalExpr: loops.
  DERIVED. THE GIVEN ROWS OF THIS SEAT. 5 by the template 'for every input the law returns true; each argument reads behind the call as it read before'; 0 by the template 'total and deterministic' (their statements: YtdifefgigcjgeaaTotals.lean).
  GIVEN WITH THE SEED: the statements are not yours to turn. If you find one false, say at which input.
  Laid BY PROGRAM, IN A SANDBOX (cutbox-rows.mjs): the forced cells as the released guide's own fill.sh prints them over the translation 22a9fa0bed4404d9… (all of the seat's roots in one cut). By AI agents, Wed Nov 11 2026. No macro, syntax, notation, axiom, sorry.
-/
import Derived.Test.YtdifefgigcjgeaaChecked
import GoSem.Claim
import GoSem.ClaimJoined
import GoSem.ClaimMapViews
import Derived.JoinedTies
import Derived.KernelRfl
namespace Go.Proofs.Ytdifefgigcjgeaa
/- THE CELL 'sum', in the pinned program and in every row, IS THE sha256 OF THE DUMP (.gsa) THAT YtdifefgigcjgeaaProg.lean LOADS. Nothing in Lean hashes anything: it is a label: what it is worth is what the hold of that sum in a sandbox is worth. -/
noncomputable def Try.pinned : Pinned := { name := "ytdifefgigcjgeaa", sum := "22a9fa0bed4404d970d3cee9ccc1657865768b2d55aa1414ca95014e38836b88", checked := Try.checked }
namespace Rows
def none {H : Type} : Left H := { results := [], args := [] }

/-- 'laws.FnExactIsValidPat': WHATEVER THE INPUT: true; the input reads as it did. -/
def fnExactIsValidPatSpec : ChangeSpec := { name := "fnExactIsValidPat", fn := fun _ => fun
  | [d] => { results := [.lit (.bool true)], args := [d] }
  | _ => none }
def fnExactIsValidPatRow : OpenClaim := { program := "ytdifefgigcjgeaa", sum := "22a9fa0bed4404d970d3cee9ccc1657865768b2d55aa1414ca95014e38836b88", func := "loop.example/g00519/laws.FnExactIsValidPat", spec := "fnExactIsValidPat", unfollowed := true, recurses := true, loops := true, apart := false }
def FnExactIsValidPatSaid : Prop := fnExactIsValidPatRow.holds Try.pinned (OpenSpec.ofChange fnExactIsValidPatSpec)

/-- ITS FALSE NEIGHBOUR: 'it returns false'. Refute it at one input. -/
def fnExactIsValidPatWrong : ChangeSpec := { name := "fnExactIsValidPat", fn := fun _ => fun
  | [d] => { results := [.lit (.bool false)], args := [d] }
  | _ => none }
def FnExactIsValidPatWrongFalsely : Prop := fnExactIsValidPatRow.holds Try.pinned (OpenSpec.ofChange fnExactIsValidPatWrong)

/-- 'laws.FnExactIsValidExpr': WHATEVER THE INPUT: true; the input reads as it did. -/
def fnExactIsValidExprSpec : ChangeSpec := { name := "fnExactIsValidExpr", fn := fun _ => fun
  | [d] => { results := [.lit (.bool true)], args := [d] }
  | _ => none }
def fnExactIsValidExprRow : OpenClaim := { program := "ytdifefgigcjgeaa", sum := "22a9fa0bed4404d970d3cee9ccc1657865768b2d55aa1414ca95014e38836b88", func := "loop.example/g00519/laws.FnExactIsValidExpr", spec := "fnExactIsValidExpr", unfollowed := true, recurses := true, loops := true, apart := false }
def FnExactIsValidExprSaid : Prop := fnExactIsValidExprRow.holds Try.pinned (OpenSpec.ofChange fnExactIsValidExprSpec)

/-- ITS FALSE NEIGHBOUR: 'it returns false'. Refute it at one input. -/
def fnExactIsValidExprWrong : ChangeSpec := { name := "fnExactIsValidExpr", fn := fun _ => fun
  | [d] => { results := [.lit (.bool false)], args := [d] }
  | _ => none }
def FnExactIsValidExprWrongFalsely : Prop := fnExactIsValidExprRow.holds Try.pinned (OpenSpec.ofChange fnExactIsValidExprWrong)

/-- 'laws.FnExactVarsOfExpr': WHATEVER THE INPUT: true; the input reads as it did. -/
def fnExactVarsOfExprSpec : ChangeSpec := { name := "fnExactVarsOfExpr", fn := fun _ => fun
  | [d] => { results := [.lit (.bool true)], args := [d] }
  | _ => none }
def fnExactVarsOfExprRow : OpenClaim := { program := "ytdifefgigcjgeaa", sum := "22a9fa0bed4404d970d3cee9ccc1657865768b2d55aa1414ca95014e38836b88", func := "loop.example/g00519/laws.FnExactVarsOfExpr", spec := "fnExactVarsOfExpr", unfollowed := true, recurses := true, loops := true, apart := false }
def FnExactVarsOfExprSaid : Prop := fnExactVarsOfExprRow.holds Try.pinned (OpenSpec.ofChange fnExactVarsOfExprSpec)

/-- ITS FALSE NEIGHBOUR: 'it returns false'. Refute it at one input. -/
def fnExactVarsOfExprWrong : ChangeSpec := { name := "fnExactVarsOfExpr", fn := fun _ => fun
  | [d] => { results := [.lit (.bool false)], args := [d] }
  | _ => none }
def FnExactVarsOfExprWrongFalsely : Prop := fnExactVarsOfExprRow.holds Try.pinned (OpenSpec.ofChange fnExactVarsOfExprWrong)

/-- 'laws.FnExactEqualExpr': WHATEVER THE INPUT: true; the input reads as it did. -/
def fnExactEqualExprSpec : ChangeSpec := { name := "fnExactEqualExpr", fn := fun _ => fun
  | [d1, d2] => { results := [.lit (.bool true)], args := [d1, d2] }
  | _ => none }
def fnExactEqualExprRow : OpenClaim := { program := "ytdifefgigcjgeaa", sum := "22a9fa0bed4404d970d3cee9ccc1657865768b2d55aa1414ca95014e38836b88", func := "loop.example/g00519/laws.FnExactEqualExpr", spec := "fnExactEqualExpr", unfollowed := true, recurses := true, loops := true, apart := false }
def FnExactEqualExprSaid : Prop := fnExactEqualExprRow.holds Try.pinned (OpenSpec.ofChange fnExactEqualExprSpec)

/-- ITS FALSE NEIGHBOUR: 'it returns false'. Refute it at one input. -/
def fnExactEqualExprWrong : ChangeSpec := { name := "fnExactEqualExpr", fn := fun _ => fun
  | [d1, d2] => { results := [.lit (.bool false)], args := [d1, d2] }
  | _ => none }
def FnExactEqualExprWrongFalsely : Prop := fnExactEqualExprRow.holds Try.pinned (OpenSpec.ofChange fnExactEqualExprWrong)

/-- 'laws.FnExactEvalExpr': WHATEVER THE INPUT: true; the input reads as it did. -/
def fnExactEvalExprSpec : ChangeSpec := { name := "fnExactEvalExpr", fn := fun _ => fun
  | [d1, d2] => { results := [.lit (.bool true)], args := [d1, d2] }
  | _ => none }
def fnExactEvalExprRow : OpenClaim := { program := "ytdifefgigcjgeaa", sum := "22a9fa0bed4404d970d3cee9ccc1657865768b2d55aa1414ca95014e38836b88", func := "loop.example/g00519/laws.FnExactEvalExpr", spec := "fnExactEvalExpr", unfollowed := true, recurses := true, loops := true, apart := false }
def FnExactEvalExprSaid : Prop := fnExactEvalExprRow.holds Try.pinned (OpenSpec.ofChange fnExactEvalExprSpec)

/-- ITS FALSE NEIGHBOUR: 'it returns false'. Refute it at one input. -/
def fnExactEvalExprWrong : ChangeSpec := { name := "fnExactEvalExpr", fn := fun _ => fun
  | [d1, d2] => { results := [.lit (.bool false)], args := [d1, d2] }
  | _ => none }
def FnExactEvalExprWrongFalsely : Prop := fnExactEvalExprRow.holds Try.pinned (OpenSpec.ofChange fnExactEvalExprWrong)

/- THE SECOND FORM. 'bulk': how many values and letters a reading holds, each counted each time it is reached (what is shared counts as often as it is met; a slice's spare places count too). A statement '..UptoSaid' is the law's where the arguments, and the package variables that the reading takes, are together of bulk at most 1048576: NARROWER than '..Said'. Prove '..Said' where nothing that the law and all that it calls make is longer than what came in: it says more and counts as full. Else prove '..UptoSaid'. A law counts once. -/
mutual
def uptoBulk {H : Type} : DataW H → Nat
  | .lit (.string bytes) => bytes.length + 1
  | .lit _ => 1
  | .nil => 1
  | .ptr d => uptoBulk d + 1
  | .slice elems spare => uptoBulkAll elems + uptoBulkAll spare + 1
  | .agg parts => uptoBulkAll parts + 1
  | .iface _ d => uptoBulk d + 1
  | .map entries => uptoBulkEntries entries + 1
  | .held _ => 1
def uptoBulkAll {H : Type} : List (DataW H) → Nat
  | [] => 0
  | d :: r => uptoBulk d + uptoBulkAll r
def uptoBulkEntries {H : Type} : List (Lit × DataW H) → Nat
  | [] => 0
  | x :: r => uptoBulkEntry x + uptoBulkEntries r
def uptoBulkEntry {H : Type} : Lit × DataW H → Nat
  | (.string bytes, d) => bytes.length + uptoBulk d + 1
  | (_, d) => uptoBulk d + 1
 end
def uptoSmall : (H : Type) → List (DataW H) → Bool := fun _ ds => decide (uptoBulkAll ds ≤ 1048576)
def OpenSpec.upto (s : _root_.Go.ChangeSpec) : _root_.Go.OpenSpec := { _root_.Go.OpenSpec.ofChange s with cond := some uptoSmall }

/-- 'laws.FnExactIsValidPat', WHERE WHAT IT READS IS OF BULK AT MOST 1048576: true; the input reads as it did. -/
def fnExactIsValidPatUptoRow : OpenClaim := { program := "ytdifefgigcjgeaa", sum := "22a9fa0bed4404d970d3cee9ccc1657865768b2d55aa1414ca95014e38836b88", func := "loop.example/g00519/laws.FnExactIsValidPat", spec := "fnExactIsValidPat", unfollowed := true, recurses := true, loops := true, apart := false, narrowed := true }
def FnExactIsValidPatUptoSaid : Prop := fnExactIsValidPatUptoRow.holds Try.pinned (OpenSpec.upto fnExactIsValidPatSpec)

/-- 'laws.FnExactIsValidExpr', WHERE WHAT IT READS IS OF BULK AT MOST 1048576: true; the input reads as it did. -/
def fnExactIsValidExprUptoRow : OpenClaim := { program := "ytdifefgigcjgeaa", sum := "22a9fa0bed4404d970d3cee9ccc1657865768b2d55aa1414ca95014e38836b88", func := "loop.example/g00519/laws.FnExactIsValidExpr", spec := "fnExactIsValidExpr", unfollowed := true, recurses := true, loops := true, apart := false, narrowed := true }
def FnExactIsValidExprUptoSaid : Prop := fnExactIsValidExprUptoRow.holds Try.pinned (OpenSpec.upto fnExactIsValidExprSpec)

/-- 'laws.FnExactVarsOfExpr', WHERE WHAT IT READS IS OF BULK AT MOST 1048576: true; the input reads as it did. -/
def fnExactVarsOfExprUptoRow : OpenClaim := { program := "ytdifefgigcjgeaa", sum := "22a9fa0bed4404d970d3cee9ccc1657865768b2d55aa1414ca95014e38836b88", func := "loop.example/g00519/laws.FnExactVarsOfExpr", spec := "fnExactVarsOfExpr", unfollowed := true, recurses := true, loops := true, apart := false, narrowed := true }
def FnExactVarsOfExprUptoSaid : Prop := fnExactVarsOfExprUptoRow.holds Try.pinned (OpenSpec.upto fnExactVarsOfExprSpec)

/-- 'laws.FnExactEqualExpr', WHERE WHAT IT READS IS OF BULK AT MOST 1048576: true; the input reads as it did. -/
def fnExactEqualExprUptoRow : OpenClaim := { program := "ytdifefgigcjgeaa", sum := "22a9fa0bed4404d970d3cee9ccc1657865768b2d55aa1414ca95014e38836b88", func := "loop.example/g00519/laws.FnExactEqualExpr", spec := "fnExactEqualExpr", unfollowed := true, recurses := true, loops := true, apart := false, narrowed := true }
def FnExactEqualExprUptoSaid : Prop := fnExactEqualExprUptoRow.holds Try.pinned (OpenSpec.upto fnExactEqualExprSpec)

/-- 'laws.FnExactEvalExpr', WHERE WHAT IT READS IS OF BULK AT MOST 1048576: true; the input reads as it did. -/
def fnExactEvalExprUptoRow : OpenClaim := { program := "ytdifefgigcjgeaa", sum := "22a9fa0bed4404d970d3cee9ccc1657865768b2d55aa1414ca95014e38836b88", func := "loop.example/g00519/laws.FnExactEvalExpr", spec := "fnExactEvalExpr", unfollowed := true, recurses := true, loops := true, apart := false, narrowed := true }
def FnExactEvalExprUptoSaid : Prop := fnExactEvalExprUptoRow.holds Try.pinned (OpenSpec.upto fnExactEvalExprSpec)

end Rows
end Go.Proofs.Ytdifefgigcjgeaa
