/-
  DERIVED. GIVEN WITH THE SEED: THE CARDS: each row of YteklfkpeaadinaaDoorRows.lean that lists a variable, with what it lists TIED to the program's text (the seventh form; the later family's looks); each row that meets fmt, with fmt's text TOLD by the authors' own Lean function (tested against real Go, not proved from fmt's source: count such statements apart). THE CARD IS WHAT COUNTS. Prove the row's statement (the work); the ties are given (YteklfkpeaadinaaDoorTie.lean); close each card by the builder's one call (the guide's Derived/Test/ToyasCard.lean, 'card_holds'). Laid BY PROGRAM, IN A SANDBOX (cutbox-door.mjs). By AI agents, Wed Nov 11 2026. No macro, syntax, notation, axiom, sorry.
-/
import Derived.Test.YteklfkpeaadinaaDoorRows
import GoSem.ClaimSeven
namespace Go.Proofs.YteklfkpeaadinaaDoor
namespace Rows

/-- THE TIED CARD OF 'jetsamlaw07.SubframeShort'. -/
def subframeShortCard : Claim7 := { stood := { row := subframeShortRow, standIns := [], harness := (true, "ed43b0c18558c8489e1b85bed1cefbede3b5fa191bcf4fc7fd2b159a2e6d14ad"), looks := false }, kinds := [], alts := [], laidByText := true, laidKinds := [.data, .data, .data], laidTests := true, laidLooks := .later }
def SubframeShortCardSaid : Prop := Claim7.holds Tryd.pinned (.plain (OpenSpec.ofChange subframeShortSpec)) subframeShortCard

/-- THE SECOND FORM's CARD OF 'jetsamlaw07.SubframeShort'. -/
def subframeShortUptoCard : Claim7 := { stood := { row := subframeShortUptoRow, standIns := [], harness := (true, "ed43b0c18558c8489e1b85bed1cefbede3b5fa191bcf4fc7fd2b159a2e6d14ad"), looks := false }, kinds := [], alts := [], laidByText := true, laidKinds := [.data, .data, .data], laidTests := true, laidLooks := .later }
def SubframeShortUptoCardSaid : Prop := Claim7.holds Tryd.pinned (.plain (OpenSpec.upto subframeShortSpec)) subframeShortUptoCard
end Rows
end Go.Proofs.YteklfkpeaadinaaDoor
