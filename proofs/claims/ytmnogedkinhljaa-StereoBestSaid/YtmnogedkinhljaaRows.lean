/-
  No cell of these rows narrows 'for every input' (looked for: loops, veiled, ifaces, maps, wideKeys, modest, calm, conditions, laid).
  DERIVED. THE GIVEN ROWS OF THIS SEAT. 4 by the template 'for every input the law returns true; each argument reads behind the call as it read before'; 0 by the template 'total and deterministic' (their statements: YtmnogedkinhljaaTotals.lean).
  GIVEN WITH THE SEED: the statements are not yours to turn. If you find one false, say at which input.
  Laid BY PROGRAM, IN A SANDBOX (cutbox-rows.mjs): the forced cells as the released guide's own fill.sh prints them over the translation da404dc31d568712… (all of the seat's roots in one cut). By AI agents, Wed Nov 11 2026. No macro, syntax, notation, axiom, sorry.
-/
import Derived.Test.YtmnogedkinhljaaChecked
import GoSem.Claim
import GoSem.ClaimJoined
import GoSem.ClaimMapViews
import Derived.JoinedTies
import Derived.KernelRfl
namespace Go.Proofs.Ytmnogedkinhljaa
/- THE CELL 'sum', in the pinned program and in every row, IS THE sha256 OF THE DUMP (.gsa) THAT YtmnogedkinhljaaProg.lean LOADS. Nothing in Lean hashes anything: it is a label: what it is worth is what the hold of that sum in a sandbox is worth. -/
noncomputable def Try.pinned : Pinned := { name := "ytmnogedkinhljaa", sum := "da404dc31d568712ec72db3b851fd804720c7fd697ef03dfe6dea33b5d4f6219", checked := Try.checked }
namespace Rows
def none {H : Type} : Left H := { results := [], args := [] }

/-- 'jetsamlaw09.StereoParts': WHATEVER THE INPUT: true; the input reads as it did. -/
def stereoPartsSpec : ChangeSpec := { name := "stereoParts", fn := fun _ => fun
  | [d1, d2, d3] => { results := [.lit (.bool true)], args := [d1, d2, d3] }
  | _ => none }
def stereoPartsRow : OpenClaim := { program := "ytmnogedkinhljaa", sum := "da404dc31d568712ec72db3b851fd804720c7fd697ef03dfe6dea33b5d4f6219", func := "jetsam/jetsamlaw09.StereoParts", spec := "stereoParts", unfollowed := true, recurses := true, apart := false }
def StereoPartsSaid : Prop := stereoPartsRow.holds Try.pinned (OpenSpec.ofChange stereoPartsSpec)

/-- ITS FALSE NEIGHBOUR: 'it returns false'. Refute it at one input. -/
def stereoPartsWrong : ChangeSpec := { name := "stereoParts", fn := fun _ => fun
  | [d1, d2, d3] => { results := [.lit (.bool false)], args := [d1, d2, d3] }
  | _ => none }
def StereoPartsWrongFalsely : Prop := stereoPartsRow.holds Try.pinned (OpenSpec.ofChange stereoPartsWrong)

/-- 'jetsamlaw09.StereoBits': WHATEVER THE INPUT: true; the input reads as it did. -/
def stereoBitsSpec : ChangeSpec := { name := "stereoBits", fn := fun _ => fun
  | [d1, d2, d3] => { results := [.lit (.bool true)], args := [d1, d2, d3] }
  | _ => none }
def stereoBitsRow : OpenClaim := { program := "ytmnogedkinhljaa", sum := "da404dc31d568712ec72db3b851fd804720c7fd697ef03dfe6dea33b5d4f6219", func := "jetsam/jetsamlaw09.StereoBits", spec := "stereoBits", unfollowed := true, recurses := true, apart := false }
def StereoBitsSaid : Prop := stereoBitsRow.holds Try.pinned (OpenSpec.ofChange stereoBitsSpec)

/-- ITS FALSE NEIGHBOUR: 'it returns false'. Refute it at one input. -/
def stereoBitsWrong : ChangeSpec := { name := "stereoBits", fn := fun _ => fun
  | [d1, d2, d3] => { results := [.lit (.bool false)], args := [d1, d2, d3] }
  | _ => none }
def StereoBitsWrongFalsely : Prop := stereoBitsRow.holds Try.pinned (OpenSpec.ofChange stereoBitsWrong)

/-- 'jetsamlaw09.StereoBest': WHATEVER THE INPUT: true; the input reads as it did. -/
def stereoBestSpec : ChangeSpec := { name := "stereoBest", fn := fun _ => fun
  | [d1, d2] => { results := [.lit (.bool true)], args := [d1, d2] }
  | _ => none }
def stereoBestRow : OpenClaim := { program := "ytmnogedkinhljaa", sum := "da404dc31d568712ec72db3b851fd804720c7fd697ef03dfe6dea33b5d4f6219", func := "jetsam/jetsamlaw09.StereoBest", spec := "stereoBest", inPlace := ["math/bits.Add64"], unfollowed := true, recurses := true, apart := false }
def StereoBestSaid : Prop := stereoBestRow.holds Try.pinned (OpenSpec.ofChange stereoBestSpec)

/-- ITS FALSE NEIGHBOUR: 'it returns false'. Refute it at one input. -/
def stereoBestWrong : ChangeSpec := { name := "stereoBest", fn := fun _ => fun
  | [d1, d2] => { results := [.lit (.bool false)], args := [d1, d2] }
  | _ => none }
def StereoBestWrongFalsely : Prop := stereoBestRow.holds Try.pinned (OpenSpec.ofChange stereoBestWrong)

/-- 'jetsamlaw09.StereoTurns': WHATEVER THE INPUT: true; the input reads as it did. -/
def stereoTurnsSpec : ChangeSpec := { name := "stereoTurns", fn := fun _ => fun
  | [d1, d2] => { results := [.lit (.bool true)], args := [d1, d2] }
  | _ => none }
def stereoTurnsRow : OpenClaim := { program := "ytmnogedkinhljaa", sum := "da404dc31d568712ec72db3b851fd804720c7fd697ef03dfe6dea33b5d4f6219", func := "jetsam/jetsamlaw09.StereoTurns", spec := "stereoTurns", unfollowed := true, recurses := true, apart := false }
def StereoTurnsSaid : Prop := stereoTurnsRow.holds Try.pinned (OpenSpec.ofChange stereoTurnsSpec)

/-- ITS FALSE NEIGHBOUR: 'it returns false'. Refute it at one input. -/
def stereoTurnsWrong : ChangeSpec := { name := "stereoTurns", fn := fun _ => fun
  | [d1, d2] => { results := [.lit (.bool false)], args := [d1, d2] }
  | _ => none }
def StereoTurnsWrongFalsely : Prop := stereoTurnsRow.holds Try.pinned (OpenSpec.ofChange stereoTurnsWrong)

/- THE SECOND FORM. 'bulk': how many values and letters a reading holds, each counted each time it is reached (what is shared counts as often as it is met; a slice's spare places count too). A statement '..UptoSaid' is the law's where the arguments, and the package variables that the reading takes, are together of bulk at most 1048576: NARROWER than '..Said'. Prove '..Said' where nothing that the law and all that it calls make is longer than what came in: it says more and counts as full. Else prove '..UptoSaid'. A law counts once. -/
mutual
def uptoBulk {H : Type} : DataW H → Nat
  | .lit (.string bytes) => bytes.length + 1
  | .lit _ => 1
  | .nil => 1
  | .ptr d => uptoBulk d + 1
  | .slice elems spare => uptoBulkAll elems + uptoBulkAll spare + 1
  | .agg parts => uptoBulkAll parts + 1
  | .iface _ d => uptoBulk d + 1
  | .map entries => uptoBulkEntries entries + 1
  | .held _ => 1
def uptoBulkAll {H : Type} : List (DataW H) → Nat
  | [] => 0
  | d :: r => uptoBulk d + uptoBulkAll r
def uptoBulkEntries {H : Type} : List (Lit × DataW H) → Nat
  | [] => 0
  | x :: r => uptoBulkEntry x + uptoBulkEntries r
def uptoBulkEntry {H : Type} : Lit × DataW H → Nat
  | (.string bytes, d) => bytes.length + uptoBulk d + 1
  | (_, d) => uptoBulk d + 1
 end
def uptoSmall : (H : Type) → List (DataW H) → Bool := fun _ ds => decide (uptoBulkAll ds ≤ 1048576)
def OpenSpec.upto (s : _root_.Go.ChangeSpec) : _root_.Go.OpenSpec := { _root_.Go.OpenSpec.ofChange s with cond := some uptoSmall }

/-- 'jetsamlaw09.StereoParts', WHERE WHAT IT READS IS OF BULK AT MOST 1048576: true; the input reads as it did. -/
def stereoPartsUptoRow : OpenClaim := { program := "ytmnogedkinhljaa", sum := "da404dc31d568712ec72db3b851fd804720c7fd697ef03dfe6dea33b5d4f6219", func := "jetsam/jetsamlaw09.StereoParts", spec := "stereoParts", unfollowed := true, recurses := true, apart := false, narrowed := true }
def StereoPartsUptoSaid : Prop := stereoPartsUptoRow.holds Try.pinned (OpenSpec.upto stereoPartsSpec)

/-- 'jetsamlaw09.StereoBits', WHERE WHAT IT READS IS OF BULK AT MOST 1048576: true; the input reads as it did. -/
def stereoBitsUptoRow : OpenClaim := { program := "ytmnogedkinhljaa", sum := "da404dc31d568712ec72db3b851fd804720c7fd697ef03dfe6dea33b5d4f6219", func := "jetsam/jetsamlaw09.StereoBits", spec := "stereoBits", unfollowed := true, recurses := true, apart := false, narrowed := true }
def StereoBitsUptoSaid : Prop := stereoBitsUptoRow.holds Try.pinned (OpenSpec.upto stereoBitsSpec)

/-- 'jetsamlaw09.StereoBest', WHERE WHAT IT READS IS OF BULK AT MOST 1048576: true; the input reads as it did. -/
def stereoBestUptoRow : OpenClaim := { program := "ytmnogedkinhljaa", sum := "da404dc31d568712ec72db3b851fd804720c7fd697ef03dfe6dea33b5d4f6219", func := "jetsam/jetsamlaw09.StereoBest", spec := "stereoBest", inPlace := ["math/bits.Add64"], unfollowed := true, recurses := true, apart := false, narrowed := true }
def StereoBestUptoSaid : Prop := stereoBestUptoRow.holds Try.pinned (OpenSpec.upto stereoBestSpec)

/-- 'jetsamlaw09.StereoTurns', WHERE WHAT IT READS IS OF BULK AT MOST 1048576: true; the input reads as it did. -/
def stereoTurnsUptoRow : OpenClaim := { program := "ytmnogedkinhljaa", sum := "da404dc31d568712ec72db3b851fd804720c7fd697ef03dfe6dea33b5d4f6219", func := "jetsam/jetsamlaw09.StereoTurns", spec := "stereoTurns", unfollowed := true, recurses := true, apart := false, narrowed := true }
def StereoTurnsUptoSaid : Prop := stereoTurnsUptoRow.holds Try.pinned (OpenSpec.upto stereoTurnsSpec)

end Rows
end Go.Proofs.Ytmnogedkinhljaa
