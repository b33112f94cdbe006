/-
  DERIVED. GIVEN WITH THE SEED: THE CARDS: each row of YtighdjbeddcckaaDoorRows.lean that lists a variable, with what it lists TIED to the program's text (the seventh form; the later family's looks); each row that meets fmt, with fmt's text TOLD by the authors' own Lean function (tested against real Go, not proved from fmt's source: count such statements apart). THE CARD IS WHAT COUNTS. Prove the row's statement (the work); the ties are given (YtighdjbeddcckaaDoorTie.lean); close each card by the builder's one call (the guide's Derived/Test/ToyasCard.lean, 'card_holds'). Laid BY PROGRAM, IN A SANDBOX (cutbox-door.mjs). By AI agents, Wed Nov 11 2026. No macro, syntax, notation, axiom, sorry.
-/
import Derived.Test.YtighdjbeddcckaaDoorRows
import GoSem.ClaimSeven
namespace Go.Proofs.YtighdjbeddcckaaDoor
namespace Rows

/-- THE TIED CARD OF 'jetsamlaw12.BlocksWrites'. -/
def blocksWritesCard : Claim7 := { stood := { row := blocksWritesRow, standIns := [], harness := (true, "a166167d0ccb9eb56b213a30376921621cb7092b07efc74a920139b9dc1d6385"), looks := false }, kinds := [], alts := [], laidByText := true, laidKinds := [.data, .pinned], laidTests := true, laidLooks := .later }
def BlocksWritesCardSaid : Prop := Claim7.holds Tryd.pinned (.plain (OpenSpec.ofChange blocksWritesSpec)) blocksWritesCard

/-- THE TIED CARD OF 'jetsamlaw12.BlocksTurns'. -/
def blocksTurnsCard : Claim7 := { stood := { row := blocksTurnsRow, standIns := [], harness := (true, "a166167d0ccb9eb56b213a30376921621cb7092b07efc74a920139b9dc1d6385"), looks := false }, kinds := [], alts := [], laidByText := true, laidKinds := [.data, .pinned], laidTests := true, laidLooks := .later }
def BlocksTurnsCardSaid : Prop := Claim7.holds Tryd.pinned (.plain (OpenSpec.ofChange blocksTurnsSpec)) blocksTurnsCard

/-- THE SECOND FORM's CARD OF 'jetsamlaw12.BlocksWrites'. -/
def blocksWritesUptoCard : Claim7 := { stood := { row := blocksWritesUptoRow, standIns := [], harness := (true, "a166167d0ccb9eb56b213a30376921621cb7092b07efc74a920139b9dc1d6385"), looks := false }, kinds := [], alts := [], laidByText := true, laidKinds := [.data, .pinned], laidTests := true, laidLooks := .later }
def BlocksWritesUptoCardSaid : Prop := Claim7.holds Tryd.pinned (.plain (OpenSpec.upto blocksWritesSpec)) blocksWritesUptoCard

/-- THE SECOND FORM's CARD OF 'jetsamlaw12.BlocksTurns'. -/
def blocksTurnsUptoCard : Claim7 := { stood := { row := blocksTurnsUptoRow, standIns := [], harness := (true, "a166167d0ccb9eb56b213a30376921621cb7092b07efc74a920139b9dc1d6385"), looks := false }, kinds := [], alts := [], laidByText := true, laidKinds := [.data, .pinned], laidTests := true, laidLooks := .later }
def BlocksTurnsUptoCardSaid : Prop := Claim7.holds Tryd.pinned (.plain (OpenSpec.upto blocksTurnsSpec)) blocksTurnsUptoCard
end Rows
end Go.Proofs.YtighdjbeddcckaaDoor
