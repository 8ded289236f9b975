/-
  DERIVED. GIVEN WITH THE SEED: THE CARDS: each row of YtdilegbigaahnabDoorRows.lean that lists a variable, with what it lists TIED to the program's text (the seventh form; the later family's looks); each row that meets fmt, with fmt's text TOLD by the authors' own Lean function (tested against real Go, not proved from fmt's source: count such statements apart). THE CARD IS WHAT COUNTS. Prove the row's statement (the work); the ties are given (YtdilegbigaahnabDoorTie.lean); close each card by the builder's one call (the guide's Derived/Test/ToyasCard.lean, 'card_holds'). Laid BY PROGRAM, IN A SANDBOX (cutbox-door.mjs). By AI agents, Wed Nov 11 2026. No macro, syntax, notation, axiom, sorry.
-/
import Derived.Test.YtdilegbigaahnabDoorRows
import GoSem.ClaimSeven
namespace Go.Proofs.YtdilegbigaahnabDoor
namespace Rows

/-- THE TIED CARD OF 'laws.FnExactFormatPat'. -/
def fnExactFormatPatCard : Claim7 := { stood := { row := fnExactFormatPatRow, standIns := [], harness := (true, "ad5a4e0dc13431cfed5185126d372d513d14d5521fe538acdd14039dbf803d6f"), looks := false }, kinds := [], alts := [], laidByText := true, laidKinds := [.data, .data, .data], laidTests := true, laidLooks := .later }
def FnExactFormatPatCardSaid : Prop := Claim7.holds Tryd.pinned (.plain (OpenSpec.ofChange fnExactFormatPatSpec)) fnExactFormatPatCard

/-- THE SECOND FORM's CARD OF 'laws.FnExactFormatPat'. -/
def fnExactFormatPatUptoCard : Claim7 := { stood := { row := fnExactFormatPatUptoRow, standIns := [], harness := (true, "ad5a4e0dc13431cfed5185126d372d513d14d5521fe538acdd14039dbf803d6f"), looks := false }, kinds := [], alts := [], laidByText := true, laidKinds := [.data, .data, .data], laidTests := true, laidLooks := .later }
def FnExactFormatPatUptoCardSaid : Prop := Claim7.holds Tryd.pinned (.plain (OpenSpec.upto fnExactFormatPatSpec)) fnExactFormatPatUptoCard
end Rows
end Go.Proofs.YtdilegbigaahnabDoor
