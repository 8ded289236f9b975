/-
  DERIVED. GIVEN WITH THE SEED: THE CARDS: each row of YtcalgjggmgnofaaDoorRows.lean that lists a variable, with what it lists TIED to the program's text (the seventh form; the later family's looks); each row that meets fmt, with fmt's text TOLD by the authors' own Lean function (tested against real Go, not proved from fmt's source: count such statements apart). THE CARD IS WHAT COUNTS. Prove the row's statement (the work); the ties are given (YtcalgjggmgnofaaDoorTie.lean); close each card by the builder's one call (the guide's Derived/Test/ToyasCard.lean, 'card_holds'). Laid BY PROGRAM, IN A SANDBOX (cutbox-door.mjs). By AI agents, Wed Nov 11 2026. No macro, syntax, notation, axiom, sorry.
-/
import Derived.Test.YtcalgjggmgnofaaDoorRows
import GoSem.ClaimSeven
namespace Go.Proofs.YtcalgjggmgnofaaDoor
namespace Rows

/-- THE TIED CARD OF 'laws.FnOccurrences'. -/
def fnOccurrencesCard : Claim7 := { stood := { row := fnOccurrencesRow, standIns := [], harness := (true, "9fe972d6f93c7fb6f20ff3b4b770fabf6fabce5eac988aefa1792e8b8e1a6a05"), looks := true }, kinds := [], alts := [], laidByText := true, laidKinds := [.data, .data, .data], laidTests := true, laidLooks := .later }
def FnOccurrencesCardSaid : Prop := Claim7.holds Tryd.pinned (.plain (OpenSpec.ofChange fnOccurrencesSpec)) fnOccurrencesCard

/-- THE TIED CARD OF 'laws.FnKeys'. -/
def fnKeysCard : Claim7 := { stood := { row := fnKeysRow, standIns := [], harness := (true, "9fe972d6f93c7fb6f20ff3b4b770fabf6fabce5eac988aefa1792e8b8e1a6a05"), looks := true }, kinds := [], alts := [], laidByText := true, laidKinds := [.data, .data, .data], laidTests := true, laidLooks := .later }
def FnKeysCardSaid : Prop := Claim7.holds Tryd.pinned (.plain (OpenSpec.ofChange fnKeysSpec)) fnKeysCard

/-- THE TIED CARD OF 'laws.FnExactParseValue'. -/
def fnExactParseValueCard : Claim7 := { stood := { row := fnExactParseValueRow, standIns := [], harness := (true, "9fe972d6f93c7fb6f20ff3b4b770fabf6fabce5eac988aefa1792e8b8e1a6a05"), looks := true }, kinds := [], alts := [], laidByText := true, laidKinds := [.data, .data, .data, .sentinel, .sentinel], laidTests := true, laidLooks := .later }
def FnExactParseValueCardSaid : Prop := Claim7.holds Tryd.pinned (.plain (OpenSpec.ofChange fnExactParseValueSpec)) fnExactParseValueCard

/-- THE TIED CARD OF 'laws.FnExactFormatOccurrence'. -/
def fnExactFormatOccurrenceCard : Claim7 := { stood := { row := fnExactFormatOccurrenceRow, standIns := [], harness := (true, "9fe972d6f93c7fb6f20ff3b4b770fabf6fabce5eac988aefa1792e8b8e1a6a05"), looks := true }, kinds := [], alts := [], laidByText := true, laidKinds := [.data, .data, .data], laidTests := true, laidLooks := .later }
def FnExactFormatOccurrenceCardSaid : Prop := Claim7.holds Tryd.pinned (.plain (OpenSpec.ofChange fnExactFormatOccurrenceSpec)) fnExactFormatOccurrenceCard

/-- THE TIED CARD OF 'laws.FnExactFormatKey'. -/
def fnExactFormatKeyCard : Claim7 := { stood := { row := fnExactFormatKeyRow, standIns := [], harness := (true, "9fe972d6f93c7fb6f20ff3b4b770fabf6fabce5eac988aefa1792e8b8e1a6a05"), looks := true }, kinds := [], alts := [], laidByText := true, laidKinds := [.data, .data, .data], laidTests := true, laidLooks := .later }
def FnExactFormatKeyCardSaid : Prop := Claim7.holds Tryd.pinned (.plain (OpenSpec.ofChange fnExactFormatKeySpec)) fnExactFormatKeyCard

/-- THE SECOND FORM's CARD OF 'laws.FnOccurrences'. -/
def fnOccurrencesUptoCard : Claim7 := { stood := { row := fnOccurrencesUptoRow, standIns := [], harness := (true, "9fe972d6f93c7fb6f20ff3b4b770fabf6fabce5eac988aefa1792e8b8e1a6a05"), looks := true }, kinds := [], alts := [], laidByText := true, laidKinds := [.data, .data, .data], laidTests := true, laidLooks := .later }
def FnOccurrencesUptoCardSaid : Prop := Claim7.holds Tryd.pinned (.plain (OpenSpec.upto fnOccurrencesSpec)) fnOccurrencesUptoCard

/-- THE SECOND FORM's CARD OF 'laws.FnKeys'. -/
def fnKeysUptoCard : Claim7 := { stood := { row := fnKeysUptoRow, standIns := [], harness := (true, "9fe972d6f93c7fb6f20ff3b4b770fabf6fabce5eac988aefa1792e8b8e1a6a05"), looks := true }, kinds := [], alts := [], laidByText := true, laidKinds := [.data, .data, .data], laidTests := true, laidLooks := .later }
def FnKeysUptoCardSaid : Prop := Claim7.holds Tryd.pinned (.plain (OpenSpec.upto fnKeysSpec)) fnKeysUptoCard

/-- THE SECOND FORM's CARD OF 'laws.FnExactParseValue'. -/
def fnExactParseValueUptoCard : Claim7 := { stood := { row := fnExactParseValueUptoRow, standIns := [], harness := (true, "9fe972d6f93c7fb6f20ff3b4b770fabf6fabce5eac988aefa1792e8b8e1a6a05"), looks := true }, kinds := [], alts := [], laidByText := true, laidKinds := [.data, .data, .data, .sentinel, .sentinel], laidTests := true, laidLooks := .later }
def FnExactParseValueUptoCardSaid : Prop := Claim7.holds Tryd.pinned (.plain (OpenSpec.upto fnExactParseValueSpec)) fnExactParseValueUptoCard

/-- THE SECOND FORM's CARD OF 'laws.FnExactFormatOccurrence'. -/
def fnExactFormatOccurrenceUptoCard : Claim7 := { stood := { row := fnExactFormatOccurrenceUptoRow, standIns := [], harness := (true, "9fe972d6f93c7fb6f20ff3b4b770fabf6fabce5eac988aefa1792e8b8e1a6a05"), looks := true }, kinds := [], alts := [], laidByText := true, laidKinds := [.data, .data, .data], laidTests := true, laidLooks := .later }
def FnExactFormatOccurrenceUptoCardSaid : Prop := Claim7.holds Tryd.pinned (.plain (OpenSpec.upto fnExactFormatOccurrenceSpec)) fnExactFormatOccurrenceUptoCard

/-- THE SECOND FORM's CARD OF 'laws.FnExactFormatKey'. -/
def fnExactFormatKeyUptoCard : Claim7 := { stood := { row := fnExactFormatKeyUptoRow, standIns := [], harness := (true, "9fe972d6f93c7fb6f20ff3b4b770fabf6fabce5eac988aefa1792e8b8e1a6a05"), looks := true }, kinds := [], alts := [], laidByText := true, laidKinds := [.data, .data, .data], laidTests := true, laidLooks := .later }
def FnExactFormatKeyUptoCardSaid : Prop := Claim7.holds Tryd.pinned (.plain (OpenSpec.upto fnExactFormatKeySpec)) fnExactFormatKeyUptoCard
end Rows
end Go.Proofs.YtcalgjggmgnofaaDoor
