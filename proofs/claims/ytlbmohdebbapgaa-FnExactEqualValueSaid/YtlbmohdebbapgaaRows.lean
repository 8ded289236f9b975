/-
  NARROWER THAN 'FOR EVERY INPUT', by the rows' own cells (each row's printed sentence says how): FnExactCountValue: loops · FnExactDepthOfValue: loops · FnExactEqualValue: loops.
  DERIVED. THE GIVEN ROWS OF THIS SEAT. 4 by the template 'for every input the law returns true; each argument reads behind the call as it read before'; 0 by the template 'total and deterministic' (their statements: YtlbmohdebbapgaaTotals.lean).
  GIVEN WITH THE SEED: the statements are not yours to turn. If you find one false, say at which input.
  Laid BY PROGRAM, IN A SANDBOX (cutbox-rows.mjs): the forced cells as the released guide's own fill.sh prints them over the translation 9fa53e65de091995… (all of the seat's roots in one cut). By AI agents, Wed Nov 11 2026. No macro, syntax, notation, axiom, sorry.
-/
import Derived.Test.YtlbmohdebbapgaaChecked
import GoSem.Claim
import GoSem.ClaimJoined
import GoSem.ClaimMapViews
import Derived.JoinedTies
import Derived.KernelRfl
namespace Go.Proofs.Ytlbmohdebbapgaa
/- THE CELL 'sum', in the pinned program and in every row, IS THE sha256 OF THE DUMP (.gsa) THAT YtlbmohdebbapgaaProg.lean LOADS. Nothing in Lean hashes anything: it is a label: what it is worth is what the hold of that sum in a sandbox is worth. -/
noncomputable def Try.pinned : Pinned := { name := "ytlbmohdebbapgaa", sum := "9fa53e65de091995dac50f2c5fe190695396b888e33e963228a636a40dbd9578", checked := Try.checked }
namespace Rows
def none {H : Type} : Left H := { results := [], args := [] }

/-- 'laws.FnExactCountValue': WHATEVER THE INPUT: true; the input reads as it did. -/
def fnExactCountValueSpec : ChangeSpec := { name := "fnExactCountValue", fn := fun _ => fun
  | [d] => { results := [.lit (.bool true)], args := [d] }
  | _ => none }
def fnExactCountValueRow : OpenClaim := { program := "ytlbmohdebbapgaa", sum := "9fa53e65de091995dac50f2c5fe190695396b888e33e963228a636a40dbd9578", func := "loop.example/g00519/laws.FnExactCountValue", spec := "fnExactCountValue", unfollowed := true, recurses := true, loops := true, apart := false }
def FnExactCountValueSaid : Prop := fnExactCountValueRow.holds Try.pinned (OpenSpec.ofChange fnExactCountValueSpec)

/-- ITS FALSE NEIGHBOUR: 'it returns false'. Refute it at one input. -/
def fnExactCountValueWrong : ChangeSpec := { name := "fnExactCountValue", fn := fun _ => fun
  | [d] => { results := [.lit (.bool false)], args := [d] }
  | _ => none }
def FnExactCountValueWrongFalsely : Prop := fnExactCountValueRow.holds Try.pinned (OpenSpec.ofChange fnExactCountValueWrong)

/-- 'laws.FnExactDepthOfValue': WHATEVER THE INPUT: true; the input reads as it did. -/
def fnExactDepthOfValueSpec : ChangeSpec := { name := "fnExactDepthOfValue", fn := fun _ => fun
  | [d] => { results := [.lit (.bool true)], args := [d] }
  | _ => none }
def fnExactDepthOfValueRow : OpenClaim := { program := "ytlbmohdebbapgaa", sum := "9fa53e65de091995dac50f2c5fe190695396b888e33e963228a636a40dbd9578", func := "loop.example/g00519/laws.FnExactDepthOfValue", spec := "fnExactDepthOfValue", unfollowed := true, recurses := true, loops := true, apart := false }
def FnExactDepthOfValueSaid : Prop := fnExactDepthOfValueRow.holds Try.pinned (OpenSpec.ofChange fnExactDepthOfValueSpec)

/-- ITS FALSE NEIGHBOUR: 'it returns false'. Refute it at one input. -/
def fnExactDepthOfValueWrong : ChangeSpec := { name := "fnExactDepthOfValue", fn := fun _ => fun
  | [d] => { results := [.lit (.bool false)], args := [d] }
  | _ => none }
def FnExactDepthOfValueWrongFalsely : Prop := fnExactDepthOfValueRow.holds Try.pinned (OpenSpec.ofChange fnExactDepthOfValueWrong)

/-- 'laws.FnExactIsValidText': WHATEVER THE INPUT: true; the input reads as it did. -/
def fnExactIsValidTextSpec : ChangeSpec := { name := "fnExactIsValidText", fn := fun _ => fun
  | [d] => { results := [.lit (.bool true)], args := [d] }
  | _ => none }
def fnExactIsValidTextRow : OpenClaim := { program := "ytlbmohdebbapgaa", sum := "9fa53e65de091995dac50f2c5fe190695396b888e33e963228a636a40dbd9578", func := "loop.example/g00519/laws.FnExactIsValidText", spec := "fnExactIsValidText", apart := false }
def FnExactIsValidTextSaid : Prop := fnExactIsValidTextRow.holds Try.pinned (OpenSpec.ofChange fnExactIsValidTextSpec)

/-- ITS FALSE NEIGHBOUR: 'it returns false'. Refute it at one input. -/
def fnExactIsValidTextWrong : ChangeSpec := { name := "fnExactIsValidText", fn := fun _ => fun
  | [d] => { results := [.lit (.bool false)], args := [d] }
  | _ => none }
def FnExactIsValidTextWrongFalsely : Prop := fnExactIsValidTextRow.holds Try.pinned (OpenSpec.ofChange fnExactIsValidTextWrong)

/-- 'laws.FnExactEqualValue': WHATEVER THE INPUT: true; the input reads as it did. -/
def fnExactEqualValueSpec : ChangeSpec := { name := "fnExactEqualValue", fn := fun _ => fun
  | [d1, d2] => { results := [.lit (.bool true)], args := [d1, d2] }
  | _ => none }
def fnExactEqualValueRow : OpenClaim := { program := "ytlbmohdebbapgaa", sum := "9fa53e65de091995dac50f2c5fe190695396b888e33e963228a636a40dbd9578", func := "loop.example/g00519/laws.FnExactEqualValue", spec := "fnExactEqualValue", unfollowed := true, recurses := true, loops := true, apart := false }
def FnExactEqualValueSaid : Prop := fnExactEqualValueRow.holds Try.pinned (OpenSpec.ofChange fnExactEqualValueSpec)

/-- ITS FALSE NEIGHBOUR: 'it returns false'. Refute it at one input. -/
def fnExactEqualValueWrong : ChangeSpec := { name := "fnExactEqualValue", fn := fun _ => fun
  | [d1, d2] => { results := [.lit (.bool false)], args := [d1, d2] }
  | _ => none }
def FnExactEqualValueWrongFalsely : Prop := fnExactEqualValueRow.holds Try.pinned (OpenSpec.ofChange fnExactEqualValueWrong)

/- THE SECOND FORM. 'bulk': how many values and letters a reading holds, each counted each time it is reached (what is shared counts as often as it is met; a slice's spare places count too). A statement '..UptoSaid' is the law's where the arguments, and the package variables that the reading takes, are together of bulk at most 1048576: NARROWER than '..Said'. Prove '..Said' where nothing that the law and all that it calls make is longer than what came in: it says more and counts as full. Else prove '..UptoSaid'. A law counts once. -/
mutual
def uptoBulk {H : Type} : DataW H → Nat
  | .lit (.string bytes) => bytes.length + 1
  | .lit _ => 1
  | .nil => 1
  | .ptr d => uptoBulk d + 1
  | .slice elems spare => uptoBulkAll elems + uptoBulkAll spare + 1
  | .agg parts => uptoBulkAll parts + 1
  | .iface _ d => uptoBulk d + 1
  | .map entries => uptoBulkEntries entries + 1
  | .held _ => 1
def uptoBulkAll {H : Type} : List (DataW H) → Nat
  | [] => 0
  | d :: r => uptoBulk d + uptoBulkAll r
def uptoBulkEntries {H : Type} : List (Lit × DataW H) → Nat
  | [] => 0
  | x :: r => uptoBulkEntry x + uptoBulkEntries r
def uptoBulkEntry {H : Type} : Lit × DataW H → Nat
  | (.string bytes, d) => bytes.length + uptoBulk d + 1
  | (_, d) => uptoBulk d + 1
 end
def uptoSmall : (H : Type) → List (DataW H) → Bool := fun _ ds => decide (uptoBulkAll ds ≤ 1048576)
def OpenSpec.upto (s : _root_.Go.ChangeSpec) : _root_.Go.OpenSpec := { _root_.Go.OpenSpec.ofChange s with cond := some uptoSmall }

/-- 'laws.FnExactCountValue', WHERE WHAT IT READS IS OF BULK AT MOST 1048576: true; the input reads as it did. -/
def fnExactCountValueUptoRow : OpenClaim := { program := "ytlbmohdebbapgaa", sum := "9fa53e65de091995dac50f2c5fe190695396b888e33e963228a636a40dbd9578", func := "loop.example/g00519/laws.FnExactCountValue", spec := "fnExactCountValue", unfollowed := true, recurses := true, loops := true, apart := false, narrowed := true }
def FnExactCountValueUptoSaid : Prop := fnExactCountValueUptoRow.holds Try.pinned (OpenSpec.upto fnExactCountValueSpec)

/-- 'laws.FnExactDepthOfValue', WHERE WHAT IT READS IS OF BULK AT MOST 1048576: true; the input reads as it did. -/
def fnExactDepthOfValueUptoRow : OpenClaim := { program := "ytlbmohdebbapgaa", sum := "9fa53e65de091995dac50f2c5fe190695396b888e33e963228a636a40dbd9578", func := "loop.example/g00519/laws.FnExactDepthOfValue", spec := "fnExactDepthOfValue", unfollowed := true, recurses := true, loops := true, apart := false, narrowed := true }
def FnExactDepthOfValueUptoSaid : Prop := fnExactDepthOfValueUptoRow.holds Try.pinned (OpenSpec.upto fnExactDepthOfValueSpec)

/-- 'laws.FnExactIsValidText', WHERE WHAT IT READS IS OF BULK AT MOST 1048576: true; the input reads as it did. -/
def fnExactIsValidTextUptoRow : OpenClaim := { program := "ytlbmohdebbapgaa", sum := "9fa53e65de091995dac50f2c5fe190695396b888e33e963228a636a40dbd9578", func := "loop.example/g00519/laws.FnExactIsValidText", spec := "fnExactIsValidText", apart := false, narrowed := true }
def FnExactIsValidTextUptoSaid : Prop := fnExactIsValidTextUptoRow.holds Try.pinned (OpenSpec.upto fnExactIsValidTextSpec)

/-- 'laws.FnExactEqualValue', WHERE WHAT IT READS IS OF BULK AT MOST 1048576: true; the input reads as it did. -/
def fnExactEqualValueUptoRow : OpenClaim := { program := "ytlbmohdebbapgaa", sum := "9fa53e65de091995dac50f2c5fe190695396b888e33e963228a636a40dbd9578", func := "loop.example/g00519/laws.FnExactEqualValue", spec := "fnExactEqualValue", unfollowed := true, recurses := true, loops := true, apart := false, narrowed := true }
def FnExactEqualValueUptoSaid : Prop := fnExactEqualValueUptoRow.holds Try.pinned (OpenSpec.upto fnExactEqualValueSpec)

end Rows
end Go.Proofs.Ytlbmohdebbapgaa
