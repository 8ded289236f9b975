/-
  No cell of these rows narrows 'for every input' (looked for: loops, veiled, ifaces, maps, wideKeys, modest, calm, conditions, laid).
  DERIVED. THE GIVEN ROWS OF THIS SEAT. 4 by the template 'for every input the law returns true; each argument reads behind the call as it read before'; 0 by the template 'total and deterministic' (their statements: YtcmpaccpdjcocaaTotals.lean).
  GIVEN WITH THE SEED: the statements are not yours to turn. If you find one false, say at which input.
  Laid BY PROGRAM, IN A SANDBOX (cutbox-rows.mjs): the forced cells as the released guide's own fill.sh prints them over the translation adb06a4e80e9eac6… (all of the seat's roots in one cut). By AI agents, Wed Nov 11 2026. No macro, syntax, notation, axiom, sorry.
-/
import Derived.Test.YtcmpaccpdjcocaaChecked
import GoSem.Claim
import GoSem.ClaimJoined
import GoSem.ClaimMapViews
import Derived.JoinedTies
import Derived.KernelRfl
namespace Go.Proofs.Ytcmpaccpdjcocaa
/- THE CELL 'sum', in the pinned program and in every row, IS THE sha256 OF THE DUMP (.gsa) THAT YtcmpaccpdjcocaaProg.lean LOADS. Nothing in Lean hashes anything: it is a label: what it is worth is what the hold of that sum in a sandbox is worth. -/
noncomputable def Try.pinned : Pinned := { name := "ytcmpaccpdjcocaa", sum := "adb06a4e80e9eac67c331c128373c898470a37ff498c3a5f3a9f430313b7e90c", checked := Try.checked }
namespace Rows
def none {H : Type} : Left H := { results := [], args := [] }

/-- 'laws.FnExactFindType': WHATEVER THE INPUT: true; the input reads as it did. -/
def fnExactFindTypeSpec : ChangeSpec := { name := "fnExactFindType", fn := fun _ => fun
  | [d1, d2] => { results := [.lit (.bool true)], args := [d1, d2] }
  | _ => none }
def fnExactFindTypeRow : OpenClaim := { program := "ytcmpaccpdjcocaa", sum := "adb06a4e80e9eac67c331c128373c898470a37ff498c3a5f3a9f430313b7e90c", func := "loop.example/g00519/laws.FnExactFindType", spec := "fnExactFindType", apart := false }
def FnExactFindTypeSaid : Prop := fnExactFindTypeRow.holds Try.pinned (OpenSpec.ofChange fnExactFindTypeSpec)

/-- ITS FALSE NEIGHBOUR: 'it returns false'. Refute it at one input. -/
def fnExactFindTypeWrong : ChangeSpec := { name := "fnExactFindType", fn := fun _ => fun
  | [d1, d2] => { results := [.lit (.bool false)], args := [d1, d2] }
  | _ => none }
def FnExactFindTypeWrongFalsely : Prop := fnExactFindTypeRow.holds Try.pinned (OpenSpec.ofChange fnExactFindTypeWrong)

/-- 'laws.FnExactFindCon': WHATEVER THE INPUT: true; the input reads as it did. -/
def fnExactFindConSpec : ChangeSpec := { name := "fnExactFindCon", fn := fun _ => fun
  | [d1, d2] => { results := [.lit (.bool true)], args := [d1, d2] }
  | _ => none }
def fnExactFindConRow : OpenClaim := { program := "ytcmpaccpdjcocaa", sum := "adb06a4e80e9eac67c331c128373c898470a37ff498c3a5f3a9f430313b7e90c", func := "loop.example/g00519/laws.FnExactFindCon", spec := "fnExactFindCon", apart := false }
def FnExactFindConSaid : Prop := fnExactFindConRow.holds Try.pinned (OpenSpec.ofChange fnExactFindConSpec)

/-- ITS FALSE NEIGHBOUR: 'it returns false'. Refute it at one input. -/
def fnExactFindConWrong : ChangeSpec := { name := "fnExactFindCon", fn := fun _ => fun
  | [d1, d2] => { results := [.lit (.bool false)], args := [d1, d2] }
  | _ => none }
def FnExactFindConWrongFalsely : Prop := fnExactFindConRow.holds Try.pinned (OpenSpec.ofChange fnExactFindConWrong)

/-- 'laws.FnExactIsType': WHATEVER THE INPUT: true; the input reads as it did. -/
def fnExactIsTypeSpec : ChangeSpec := { name := "fnExactIsType", fn := fun _ => fun
  | [d1, d2] => { results := [.lit (.bool true)], args := [d1, d2] }
  | _ => none }
def fnExactIsTypeRow : OpenClaim := { program := "ytcmpaccpdjcocaa", sum := "adb06a4e80e9eac67c331c128373c898470a37ff498c3a5f3a9f430313b7e90c", func := "loop.example/g00519/laws.FnExactIsType", spec := "fnExactIsType", unfollowed := true, recurses := true, apart := false }
def FnExactIsTypeSaid : Prop := fnExactIsTypeRow.holds Try.pinned (OpenSpec.ofChange fnExactIsTypeSpec)

/-- ITS FALSE NEIGHBOUR: 'it returns false'. Refute it at one input. -/
def fnExactIsTypeWrong : ChangeSpec := { name := "fnExactIsType", fn := fun _ => fun
  | [d1, d2] => { results := [.lit (.bool false)], args := [d1, d2] }
  | _ => none }
def FnExactIsTypeWrongFalsely : Prop := fnExactIsTypeRow.holds Try.pinned (OpenSpec.ofChange fnExactIsTypeWrong)

/-- 'laws.FnExactIsValidSignature': WHATEVER THE INPUT: true; the input reads as it did. -/
def fnExactIsValidSignatureSpec : ChangeSpec := { name := "fnExactIsValidSignature", fn := fun _ => fun
  | [d] => { results := [.lit (.bool true)], args := [d] }
  | _ => none }
def fnExactIsValidSignatureRow : OpenClaim := { program := "ytcmpaccpdjcocaa", sum := "adb06a4e80e9eac67c331c128373c898470a37ff498c3a5f3a9f430313b7e90c", func := "loop.example/g00519/laws.FnExactIsValidSignature", spec := "fnExactIsValidSignature", unfollowed := true, recurses := true, apart := false }
def FnExactIsValidSignatureSaid : Prop := fnExactIsValidSignatureRow.holds Try.pinned (OpenSpec.ofChange fnExactIsValidSignatureSpec)

/-- ITS FALSE NEIGHBOUR: 'it returns false'. Refute it at one input. -/
def fnExactIsValidSignatureWrong : ChangeSpec := { name := "fnExactIsValidSignature", fn := fun _ => fun
  | [d] => { results := [.lit (.bool false)], args := [d] }
  | _ => none }
def FnExactIsValidSignatureWrongFalsely : Prop := fnExactIsValidSignatureRow.holds Try.pinned (OpenSpec.ofChange fnExactIsValidSignatureWrong)

/- THE SECOND FORM. 'bulk': how many values and letters a reading holds, each counted each time it is reached (what is shared counts as often as it is met; a slice's spare places count too). A statement '..UptoSaid' is the law's where the arguments, and the package variables that the reading takes, are together of bulk at most 1048576: NARROWER than '..Said'. Prove '..Said' where nothing that the law and all that it calls make is longer than what came in: it says more and counts as full. Else prove '..UptoSaid'. A law counts once. -/
mutual
def uptoBulk {H : Type} : DataW H → Nat
  | .lit (.string bytes) => bytes.length + 1
  | .lit _ => 1
  | .nil => 1
  | .ptr d => uptoBulk d + 1
  | .slice elems spare => uptoBulkAll elems + uptoBulkAll spare + 1
  | .agg parts => uptoBulkAll parts + 1
  | .iface _ d => uptoBulk d + 1
  | .map entries => uptoBulkEntries entries + 1
  | .held _ => 1
def uptoBulkAll {H : Type} : List (DataW H) → Nat
  | [] => 0
  | d :: r => uptoBulk d + uptoBulkAll r
def uptoBulkEntries {H : Type} : List (Lit × DataW H) → Nat
  | [] => 0
  | x :: r => uptoBulkEntry x + uptoBulkEntries r
def uptoBulkEntry {H : Type} : Lit × DataW H → Nat
  | (.string bytes, d) => bytes.length + uptoBulk d + 1
  | (_, d) => uptoBulk d + 1
 end
def uptoSmall : (H : Type) → List (DataW H) → Bool := fun _ ds => decide (uptoBulkAll ds ≤ 1048576)
def OpenSpec.upto (s : _root_.Go.ChangeSpec) : _root_.Go.OpenSpec := { _root_.Go.OpenSpec.ofChange s with cond := some uptoSmall }

/-- 'laws.FnExactFindType', WHERE WHAT IT READS IS OF BULK AT MOST 1048576: true; the input reads as it did. -/
def fnExactFindTypeUptoRow : OpenClaim := { program := "ytcmpaccpdjcocaa", sum := "adb06a4e80e9eac67c331c128373c898470a37ff498c3a5f3a9f430313b7e90c", func := "loop.example/g00519/laws.FnExactFindType", spec := "fnExactFindType", apart := false, narrowed := true }
def FnExactFindTypeUptoSaid : Prop := fnExactFindTypeUptoRow.holds Try.pinned (OpenSpec.upto fnExactFindTypeSpec)

/-- 'laws.FnExactFindCon', WHERE WHAT IT READS IS OF BULK AT MOST 1048576: true; the input reads as it did. -/
def fnExactFindConUptoRow : OpenClaim := { program := "ytcmpaccpdjcocaa", sum := "adb06a4e80e9eac67c331c128373c898470a37ff498c3a5f3a9f430313b7e90c", func := "loop.example/g00519/laws.FnExactFindCon", spec := "fnExactFindCon", apart := false, narrowed := true }
def FnExactFindConUptoSaid : Prop := fnExactFindConUptoRow.holds Try.pinned (OpenSpec.upto fnExactFindConSpec)

/-- 'laws.FnExactIsType', WHERE WHAT IT READS IS OF BULK AT MOST 1048576: true; the input reads as it did. -/
def fnExactIsTypeUptoRow : OpenClaim := { program := "ytcmpaccpdjcocaa", sum := "adb06a4e80e9eac67c331c128373c898470a37ff498c3a5f3a9f430313b7e90c", func := "loop.example/g00519/laws.FnExactIsType", spec := "fnExactIsType", unfollowed := true, recurses := true, apart := false, narrowed := true }
def FnExactIsTypeUptoSaid : Prop := fnExactIsTypeUptoRow.holds Try.pinned (OpenSpec.upto fnExactIsTypeSpec)

/-- 'laws.FnExactIsValidSignature', WHERE WHAT IT READS IS OF BULK AT MOST 1048576: true; the input reads as it did. -/
def fnExactIsValidSignatureUptoRow : OpenClaim := { program := "ytcmpaccpdjcocaa", sum := "adb06a4e80e9eac67c331c128373c898470a37ff498c3a5f3a9f430313b7e90c", func := "loop.example/g00519/laws.FnExactIsValidSignature", spec := "fnExactIsValidSignature", unfollowed := true, recurses := true, apart := false, narrowed := true }
def FnExactIsValidSignatureUptoSaid : Prop := fnExactIsValidSignatureUptoRow.holds Try.pinned (OpenSpec.upto fnExactIsValidSignatureSpec)

end Rows
end Go.Proofs.Ytcmpaccpdjcocaa
