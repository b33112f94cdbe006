/-
  DERIVED. GIVEN WITH THE SEED: THE CARDS: each row of YteklfkpeaadinaaGreatDoorRows.lean that lists a variable, with what it lists TIED to the program's text (the seventh form; the later family's looks); each row that meets fmt, with fmt's text TOLD by the authors' own Lean function (tested against real Go, not proved from fmt's source: count such statements apart). THE CARD IS WHAT COUNTS. Prove the row's statement (the work); the ties are given (YteklfkpeaadinaaGreatDoorTie.lean); close each card by the builder's one call (the guide's Derived/Test/ToyasCard.lean, 'card_holds'). Laid BY PROGRAM, IN A SANDBOX (cutbox-door.mjs). By AI agents, Wed Nov 11 2026. No macro, syntax, notation, axiom, sorry.
-/
import Derived.Test.YteklfkpeaadinaaGreatDoorRows
import GoSem.ClaimSeven
namespace Go.Proofs.YteklfkpeaadinaaGreatDoor
namespace Rows

/-- THE TIED CARD OF 'jetsamlaw07.SubframeBack'. -/
def subframeBackCard : Claim7 := { stood := { row := subframeBackRow, standIns := [], harness := (true, "850a8a7e487f12501a26988e8ed20eb1d978f20789d94562f7ffb64b2d001b6a"), looks := false }, kinds := [], alts := [], laidByText := true, laidKinds := [.data, .data, .data], laidTests := true, laidLooks := .later }
def SubframeBackCardSaid : Prop := Claim7.holds Tryz.pinned (.plain (OpenSpec.ofChange subframeBackSpec)) subframeBackCard

/-- THE TIED CARD OF 'jetsamlaw07.SubframeReads'. -/
def subframeReadsCard : Claim7 := { stood := { row := subframeReadsRow, standIns := [], harness := (true, "850a8a7e487f12501a26988e8ed20eb1d978f20789d94562f7ffb64b2d001b6a"), looks := false }, kinds := [], alts := [], laidByText := true, laidKinds := [.data, .data, .data], laidTests := true, laidLooks := .later }
def SubframeReadsCardSaid : Prop := Claim7.holds Tryz.pinned (.plain (OpenSpec.ofChange subframeReadsSpec)) subframeReadsCard

/-- THE TIED CARD OF 'jetsamlaw07.SubframeBest'. -/
def subframeBestCard : Claim7 := { stood := { row := subframeBestRow, standIns := [], harness := (true, "850a8a7e487f12501a26988e8ed20eb1d978f20789d94562f7ffb64b2d001b6a"), looks := false }, kinds := [], alts := [], laidByText := true, laidKinds := [.data, .data, .data], laidTests := true, laidLooks := .later }
def SubframeBestCardSaid : Prop := Claim7.holds Tryz.pinned (.plain (OpenSpec.ofChange subframeBestSpec)) subframeBestCard

/-- THE SECOND FORM's CARD OF 'jetsamlaw07.SubframeBack'. -/
def subframeBackUptoCard : Claim7 := { stood := { row := subframeBackUptoRow, standIns := [], harness := (true, "850a8a7e487f12501a26988e8ed20eb1d978f20789d94562f7ffb64b2d001b6a"), looks := false }, kinds := [], alts := [], laidByText := true, laidKinds := [.data, .data, .data], laidTests := true, laidLooks := .later }
def SubframeBackUptoCardSaid : Prop := Claim7.holds Tryz.pinned (.plain (OpenSpec.upto subframeBackSpec)) subframeBackUptoCard

/-- THE SECOND FORM's CARD OF 'jetsamlaw07.SubframeReads'. -/
def subframeReadsUptoCard : Claim7 := { stood := { row := subframeReadsUptoRow, standIns := [], harness := (true, "850a8a7e487f12501a26988e8ed20eb1d978f20789d94562f7ffb64b2d001b6a"), looks := false }, kinds := [], alts := [], laidByText := true, laidKinds := [.data, .data, .data], laidTests := true, laidLooks := .later }
def SubframeReadsUptoCardSaid : Prop := Claim7.holds Tryz.pinned (.plain (OpenSpec.upto subframeReadsSpec)) subframeReadsUptoCard

/-- THE SECOND FORM's CARD OF 'jetsamlaw07.SubframeBest'. -/
def subframeBestUptoCard : Claim7 := { stood := { row := subframeBestUptoRow, standIns := [], harness := (true, "850a8a7e487f12501a26988e8ed20eb1d978f20789d94562f7ffb64b2d001b6a"), looks := false }, kinds := [], alts := [], laidByText := true, laidKinds := [.data, .data, .data], laidTests := true, laidLooks := .later }
def SubframeBestUptoCardSaid : Prop := Claim7.holds Tryz.pinned (.plain (OpenSpec.upto subframeBestSpec)) subframeBestUptoCard
end Rows
end Go.Proofs.YteklfkpeaadinaaGreatDoor
