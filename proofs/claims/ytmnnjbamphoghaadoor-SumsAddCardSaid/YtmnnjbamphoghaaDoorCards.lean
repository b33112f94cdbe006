/-
  DERIVED. GIVEN WITH THE SEED: THE CARDS: each row of YtmnnjbamphoghaaDoorRows.lean that lists a variable, with what it lists TIED to the program's text (the seventh form; the later family's looks); each row that meets fmt, with fmt's text TOLD by the authors' own Lean function (tested against real Go, not proved from fmt's source: count such statements apart). THE CARD IS WHAT COUNTS. Prove the row's statement (the work); the ties are given (YtmnnjbamphoghaaDoorTie.lean); close each card by the builder's one call (the guide's Derived/Test/ToyasCard.lean, 'card_holds'). Laid BY PROGRAM, IN A SANDBOX (cutbox-door.mjs). By AI agents, Wed Nov 11 2026. No macro, syntax, notation, axiom, sorry.
-/
import Derived.Test.YtmnnjbamphoghaaDoorRows
import GoSem.ClaimSeven
namespace Go.Proofs.YtmnnjbamphoghaaDoor
namespace Rows

/-- THE TIED CARD OF 'jetsamlaw02.SumsTell'. -/
def sumsTellCard : Claim7 := { stood := { row := sumsTellRow, standIns := [], harness := (true, "9ef38e14fe2f4931390735b7dae91cac4343c9d8f294857d3067935aa5e52e07"), looks := false }, kinds := [], alts := [], laidByText := true, laidKinds := [.wider, .wider, .data, .data, .data, .data], laidTests := true, laidLooks := .later }
def SumsTellCardSaid : Prop := Claim7.holds Tryd.pinned (.plain (OpenSpec.ofChange sumsTellSpec)) sumsTellCard

/-- THE TIED CARD OF 'jetsamlaw02.SumsShift'. -/
def sumsShiftCard : Claim7 := { stood := { row := sumsShiftRow, standIns := [], harness := (true, "9ef38e14fe2f4931390735b7dae91cac4343c9d8f294857d3067935aa5e52e07"), looks := false }, kinds := [], alts := [], laidByText := true, laidKinds := [.wider, .wider, .data, .data, .data, .data], laidTests := true, laidLooks := .later }
def SumsShiftCardSaid : Prop := Claim7.holds Tryd.pinned (.plain (OpenSpec.ofChange sumsShiftSpec)) sumsShiftCard

/-- THE TIED CARD OF 'jetsamlaw02.SumsJoin'. -/
def sumsJoinCard : Claim7 := { stood := { row := sumsJoinRow, standIns := [], harness := (true, "9ef38e14fe2f4931390735b7dae91cac4343c9d8f294857d3067935aa5e52e07"), looks := false }, kinds := [], alts := [], laidByText := true, laidKinds := [.wider, .wider, .data, .data, .data, .data], laidTests := true, laidLooks := .later }
def SumsJoinCardSaid : Prop := Claim7.holds Tryd.pinned (.plain (OpenSpec.ofChange sumsJoinSpec)) sumsJoinCard

/-- THE TIED CARD OF 'jetsamlaw02.SumsSee'. -/
def sumsSeeCard : Claim7 := { stood := { row := sumsSeeRow, standIns := [], harness := (true, "9ef38e14fe2f4931390735b7dae91cac4343c9d8f294857d3067935aa5e52e07"), looks := false }, kinds := [], alts := [], laidByText := true, laidKinds := [.wider, .wider, .data, .data, .data, .data], laidTests := true, laidLooks := .later }
def SumsSeeCardSaid : Prop := Claim7.holds Tryd.pinned (.plain (OpenSpec.ofChange sumsSeeSpec)) sumsSeeCard

/-- THE TIED CARD OF 'jetsamlaw02.SumsMeter'. -/
def sumsMeterCard : Claim7 := { stood := { row := sumsMeterRow, standIns := [], harness := (true, "9ef38e14fe2f4931390735b7dae91cac4343c9d8f294857d3067935aa5e52e07"), looks := false }, kinds := [], alts := [], laidByText := true, laidKinds := [.wider, .wider, .data, .data, .data, .data], laidTests := true, laidLooks := .later }
def SumsMeterCardSaid : Prop := Claim7.holds Tryd.pinned (.plain (OpenSpec.ofChange sumsMeterSpec)) sumsMeterCard

/-- THE TIED CARD OF 'jetsamlaw02.SumsAdd'. -/
def sumsAddCard : Claim7 := { stood := { row := sumsAddRow, standIns := [], harness := (true, "9ef38e14fe2f4931390735b7dae91cac4343c9d8f294857d3067935aa5e52e07"), looks := false }, kinds := [], alts := [], laidByText := true, laidKinds := [.wider, .wider, .data, .data, .data, .data], laidTests := true, laidLooks := .later }
def SumsAddCardSaid : Prop := Claim7.holds Tryd.pinned (.plain (OpenSpec.ofChange sumsAddSpec)) sumsAddCard

/-- THE SECOND FORM's CARD OF 'jetsamlaw02.SumsTell'. -/
def sumsTellUptoCard : Claim7 := { stood := { row := sumsTellUptoRow, standIns := [], harness := (true, "9ef38e14fe2f4931390735b7dae91cac4343c9d8f294857d3067935aa5e52e07"), looks := false }, kinds := [], alts := [], laidByText := true, laidKinds := [.wider, .wider, .data, .data, .data, .data], laidTests := true, laidLooks := .later }
def SumsTellUptoCardSaid : Prop := Claim7.holds Tryd.pinned (.plain (OpenSpec.upto sumsTellSpec)) sumsTellUptoCard

/-- THE SECOND FORM's CARD OF 'jetsamlaw02.SumsShift'. -/
def sumsShiftUptoCard : Claim7 := { stood := { row := sumsShiftUptoRow, standIns := [], harness := (true, "9ef38e14fe2f4931390735b7dae91cac4343c9d8f294857d3067935aa5e52e07"), looks := false }, kinds := [], alts := [], laidByText := true, laidKinds := [.wider, .wider, .data, .data, .data, .data], laidTests := true, laidLooks := .later }
def SumsShiftUptoCardSaid : Prop := Claim7.holds Tryd.pinned (.plain (OpenSpec.upto sumsShiftSpec)) sumsShiftUptoCard

/-- THE SECOND FORM's CARD OF 'jetsamlaw02.SumsJoin'. -/
def sumsJoinUptoCard : Claim7 := { stood := { row := sumsJoinUptoRow, standIns := [], harness := (true, "9ef38e14fe2f4931390735b7dae91cac4343c9d8f294857d3067935aa5e52e07"), looks := false }, kinds := [], alts := [], laidByText := true, laidKinds := [.wider, .wider, .data, .data, .data, .data], laidTests := true, laidLooks := .later }
def SumsJoinUptoCardSaid : Prop := Claim7.holds Tryd.pinned (.plain (OpenSpec.upto sumsJoinSpec)) sumsJoinUptoCard

/-- THE SECOND FORM's CARD OF 'jetsamlaw02.SumsSee'. -/
def sumsSeeUptoCard : Claim7 := { stood := { row := sumsSeeUptoRow, standIns := [], harness := (true, "9ef38e14fe2f4931390735b7dae91cac4343c9d8f294857d3067935aa5e52e07"), looks := false }, kinds := [], alts := [], laidByText := true, laidKinds := [.wider, .wider, .data, .data, .data, .data], laidTests := true, laidLooks := .later }
def SumsSeeUptoCardSaid : Prop := Claim7.holds Tryd.pinned (.plain (OpenSpec.upto sumsSeeSpec)) sumsSeeUptoCard

/-- THE SECOND FORM's CARD OF 'jetsamlaw02.SumsMeter'. -/
def sumsMeterUptoCard : Claim7 := { stood := { row := sumsMeterUptoRow, standIns := [], harness := (true, "9ef38e14fe2f4931390735b7dae91cac4343c9d8f294857d3067935aa5e52e07"), looks := false }, kinds := [], alts := [], laidByText := true, laidKinds := [.wider, .wider, .data, .data, .data, .data], laidTests := true, laidLooks := .later }
def SumsMeterUptoCardSaid : Prop := Claim7.holds Tryd.pinned (.plain (OpenSpec.upto sumsMeterSpec)) sumsMeterUptoCard

/-- THE SECOND FORM's CARD OF 'jetsamlaw02.SumsAdd'. -/
def sumsAddUptoCard : Claim7 := { stood := { row := sumsAddUptoRow, standIns := [], harness := (true, "9ef38e14fe2f4931390735b7dae91cac4343c9d8f294857d3067935aa5e52e07"), looks := false }, kinds := [], alts := [], laidByText := true, laidKinds := [.wider, .wider, .data, .data, .data, .data], laidTests := true, laidLooks := .later }
def SumsAddUptoCardSaid : Prop := Claim7.holds Tryd.pinned (.plain (OpenSpec.upto sumsAddSpec)) sumsAddUptoCard
end Rows
end Go.Proofs.YtmnnjbamphoghaaDoor
