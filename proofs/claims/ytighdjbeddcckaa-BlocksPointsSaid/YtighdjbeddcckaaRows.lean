/-
  No cell of these rows narrows 'for every input' (looked for: loops, veiled, ifaces, maps, wideKeys, modest, calm, conditions, laid).
  DERIVED. THE GIVEN ROWS OF THIS SEAT. 6 by the template 'for every input the law returns true; each argument reads behind the call as it read before'; 0 by the template 'total and deterministic' (their statements: YtighdjbeddcckaaTotals.lean).
  GIVEN WITH THE SEED: the statements are not yours to turn. If you find one false, say at which input.
  Laid BY PROGRAM, IN A SANDBOX (cutbox-rows.mjs): the forced cells as the released guide's own fill.sh prints them over the translation 654d8ecbbba5eb14… (all of the seat's roots in one cut). By AI agents, Wed Nov 11 2026. No macro, syntax, notation, axiom, sorry.
-/
import Derived.Test.YtighdjbeddcckaaChecked
import GoSem.Claim
import GoSem.ClaimJoined
import GoSem.ClaimMapViews
import Derived.JoinedTies
import Derived.KernelRfl
namespace Go.Proofs.Ytighdjbeddcckaa
/- THE CELL 'sum', in the pinned program and in every row, IS THE sha256 OF THE DUMP (.gsa) THAT YtighdjbeddcckaaProg.lean LOADS. Nothing in Lean hashes anything: it is a label: what it is worth is what the hold of that sum in a sandbox is worth. -/
noncomputable def Try.pinned : Pinned := { name := "ytighdjbeddcckaa", sum := "654d8ecbbba5eb14e0ed6477f2cadeb6167c7a23dcb63d3f665d9c52b4f40fc7", checked := Try.checked }
namespace Rows
def none {H : Type} : Left H := { results := [], args := [] }

/-- 'jetsamlaw12.BlocksReads': WHATEVER THE INPUT: true; the input reads as it did. -/
def blocksReadsSpec : ChangeSpec := { name := "blocksReads", fn := fun _ => fun
  | [d] => { results := [.lit (.bool true)], args := [d] }
  | _ => none }
def blocksReadsRow : OpenClaim := { program := "ytighdjbeddcckaa", sum := "654d8ecbbba5eb14e0ed6477f2cadeb6167c7a23dcb63d3f665d9c52b4f40fc7", func := "jetsam/jetsamlaw12.BlocksReads", spec := "blocksReads", unfollowed := true, recurses := true, apart := false }
def BlocksReadsSaid : Prop := blocksReadsRow.holds Try.pinned (OpenSpec.ofChange blocksReadsSpec)

/-- ITS FALSE NEIGHBOUR: 'it returns false'. Refute it at one input. -/
def blocksReadsWrong : ChangeSpec := { name := "blocksReads", fn := fun _ => fun
  | [d] => { results := [.lit (.bool false)], args := [d] }
  | _ => none }
def BlocksReadsWrongFalsely : Prop := blocksReadsRow.holds Try.pinned (OpenSpec.ofChange blocksReadsWrong)

/-- 'jetsamlaw12.BlocksBack': WHATEVER THE INPUT: true; the input reads as it did. -/
def blocksBackSpec : ChangeSpec := { name := "blocksBack", fn := fun _ => fun
  | [d1, d2] => { results := [.lit (.bool true)], args := [d1, d2] }
  | _ => none }
def blocksBackRow : OpenClaim := { program := "ytighdjbeddcckaa", sum := "654d8ecbbba5eb14e0ed6477f2cadeb6167c7a23dcb63d3f665d9c52b4f40fc7", func := "jetsam/jetsamlaw12.BlocksBack", spec := "blocksBack", unfollowed := true, recurses := true, apart := false }
def BlocksBackSaid : Prop := blocksBackRow.holds Try.pinned (OpenSpec.ofChange blocksBackSpec)

/-- ITS FALSE NEIGHBOUR: 'it returns false'. Refute it at one input. -/
def blocksBackWrong : ChangeSpec := { name := "blocksBack", fn := fun _ => fun
  | [d1, d2] => { results := [.lit (.bool false)], args := [d1, d2] }
  | _ => none }
def BlocksBackWrongFalsely : Prop := blocksBackRow.holds Try.pinned (OpenSpec.ofChange blocksBackWrong)

/-- 'jetsamlaw12.BlocksPoints': WHATEVER THE INPUT: true; the input reads as it did. -/
def blocksPointsSpec : ChangeSpec := { name := "blocksPoints", fn := fun _ => fun
  | [d1, d2] => { results := [.lit (.bool true)], args := [d1, d2] }
  | _ => none }
def blocksPointsRow : OpenClaim := { program := "ytighdjbeddcckaa", sum := "654d8ecbbba5eb14e0ed6477f2cadeb6167c7a23dcb63d3f665d9c52b4f40fc7", func := "jetsam/jetsamlaw12.BlocksPoints", spec := "blocksPoints", unfollowed := true, recurses := true, apart := false }
def BlocksPointsSaid : Prop := blocksPointsRow.holds Try.pinned (OpenSpec.ofChange blocksPointsSpec)

/-- ITS FALSE NEIGHBOUR: 'it returns false'. Refute it at one input. -/
def blocksPointsWrong : ChangeSpec := { name := "blocksPoints", fn := fun _ => fun
  | [d1, d2] => { results := [.lit (.bool false)], args := [d1, d2] }
  | _ => none }
def BlocksPointsWrongFalsely : Prop := blocksPointsRow.holds Try.pinned (OpenSpec.ofChange blocksPointsWrong)

/-- 'jetsamlaw12.BlocksTable': WHATEVER THE INPUT: true; the input reads as it did. -/
def blocksTableSpec : ChangeSpec := { name := "blocksTable", fn := fun _ => fun
  | [d1, d2] => { results := [.lit (.bool true)], args := [d1, d2] }
  | _ => none }
def blocksTableRow : OpenClaim := { program := "ytighdjbeddcckaa", sum := "654d8ecbbba5eb14e0ed6477f2cadeb6167c7a23dcb63d3f665d9c52b4f40fc7", func := "jetsam/jetsamlaw12.BlocksTable", spec := "blocksTable", unfollowed := true, recurses := true, apart := false }
def BlocksTableSaid : Prop := blocksTableRow.holds Try.pinned (OpenSpec.ofChange blocksTableSpec)

/-- ITS FALSE NEIGHBOUR: 'it returns false'. Refute it at one input. -/
def blocksTableWrong : ChangeSpec := { name := "blocksTable", fn := fun _ => fun
  | [d1, d2] => { results := [.lit (.bool false)], args := [d1, d2] }
  | _ => none }
def BlocksTableWrongFalsely : Prop := blocksTableRow.holds Try.pinned (OpenSpec.ofChange blocksTableWrong)

/-- 'jetsamlaw12.BlocksSeeks': WHATEVER THE INPUT: true; the input reads as it did. -/
def blocksSeeksSpec : ChangeSpec := { name := "blocksSeeks", fn := fun _ => fun
  | [d] => { results := [.lit (.bool true)], args := [d] }
  | _ => none }
def blocksSeeksRow : OpenClaim := { program := "ytighdjbeddcckaa", sum := "654d8ecbbba5eb14e0ed6477f2cadeb6167c7a23dcb63d3f665d9c52b4f40fc7", func := "jetsam/jetsamlaw12.BlocksSeeks", spec := "blocksSeeks", unfollowed := true, recurses := true, apart := false }
def BlocksSeeksSaid : Prop := blocksSeeksRow.holds Try.pinned (OpenSpec.ofChange blocksSeeksSpec)

/-- ITS FALSE NEIGHBOUR: 'it returns false'. Refute it at one input. -/
def blocksSeeksWrong : ChangeSpec := { name := "blocksSeeks", fn := fun _ => fun
  | [d] => { results := [.lit (.bool false)], args := [d] }
  | _ => none }
def BlocksSeeksWrongFalsely : Prop := blocksSeeksRow.holds Try.pinned (OpenSpec.ofChange blocksSeeksWrong)

/-- 'jetsamlaw12.BlocksOthers': WHATEVER THE INPUT: true; the input reads as it did. -/
def blocksOthersSpec : ChangeSpec := { name := "blocksOthers", fn := fun _ => fun
  | [d1, d2] => { results := [.lit (.bool true)], args := [d1, d2] }
  | _ => none }
def blocksOthersRow : OpenClaim := { program := "ytighdjbeddcckaa", sum := "654d8ecbbba5eb14e0ed6477f2cadeb6167c7a23dcb63d3f665d9c52b4f40fc7", func := "jetsam/jetsamlaw12.BlocksOthers", spec := "blocksOthers", unfollowed := true, recurses := true, apart := false }
def BlocksOthersSaid : Prop := blocksOthersRow.holds Try.pinned (OpenSpec.ofChange blocksOthersSpec)

/-- ITS FALSE NEIGHBOUR: 'it returns false'. Refute it at one input. -/
def blocksOthersWrong : ChangeSpec := { name := "blocksOthers", fn := fun _ => fun
  | [d1, d2] => { results := [.lit (.bool false)], args := [d1, d2] }
  | _ => none }
def BlocksOthersWrongFalsely : Prop := blocksOthersRow.holds Try.pinned (OpenSpec.ofChange blocksOthersWrong)

/- THE SECOND FORM. 'bulk': how many values and letters a reading holds, each counted each time it is reached (what is shared counts as often as it is met; a slice's spare places count too). A statement '..UptoSaid' is the law's where the arguments, and the package variables that the reading takes, are together of bulk at most 1048576: NARROWER than '..Said'. Prove '..Said' where nothing that the law and all that it calls make is longer than what came in: it says more and counts as full. Else prove '..UptoSaid'. A law counts once. -/
mutual
def uptoBulk {H : Type} : DataW H → Nat
  | .lit (.string bytes) => bytes.length + 1
  | .lit _ => 1
  | .nil => 1
  | .ptr d => uptoBulk d + 1
  | .slice elems spare => uptoBulkAll elems + uptoBulkAll spare + 1
  | .agg parts => uptoBulkAll parts + 1
  | .iface _ d => uptoBulk d + 1
  | .map entries => uptoBulkEntries entries + 1
  | .held _ => 1
def uptoBulkAll {H : Type} : List (DataW H) → Nat
  | [] => 0
  | d :: r => uptoBulk d + uptoBulkAll r
def uptoBulkEntries {H : Type} : List (Lit × DataW H) → Nat
  | [] => 0
  | x :: r => uptoBulkEntry x + uptoBulkEntries r
def uptoBulkEntry {H : Type} : Lit × DataW H → Nat
  | (.string bytes, d) => bytes.length + uptoBulk d + 1
  | (_, d) => uptoBulk d + 1
 end
def uptoSmall : (H : Type) → List (DataW H) → Bool := fun _ ds => decide (uptoBulkAll ds ≤ 1048576)
def OpenSpec.upto (s : _root_.Go.ChangeSpec) : _root_.Go.OpenSpec := { _root_.Go.OpenSpec.ofChange s with cond := some uptoSmall }

/-- 'jetsamlaw12.BlocksReads', WHERE WHAT IT READS IS OF BULK AT MOST 1048576: true; the input reads as it did. -/
def blocksReadsUptoRow : OpenClaim := { program := "ytighdjbeddcckaa", sum := "654d8ecbbba5eb14e0ed6477f2cadeb6167c7a23dcb63d3f665d9c52b4f40fc7", func := "jetsam/jetsamlaw12.BlocksReads", spec := "blocksReads", unfollowed := true, recurses := true, apart := false, narrowed := true }
def BlocksReadsUptoSaid : Prop := blocksReadsUptoRow.holds Try.pinned (OpenSpec.upto blocksReadsSpec)

/-- 'jetsamlaw12.BlocksBack', WHERE WHAT IT READS IS OF BULK AT MOST 1048576: true; the input reads as it did. -/
def blocksBackUptoRow : OpenClaim := { program := "ytighdjbeddcckaa", sum := "654d8ecbbba5eb14e0ed6477f2cadeb6167c7a23dcb63d3f665d9c52b4f40fc7", func := "jetsam/jetsamlaw12.BlocksBack", spec := "blocksBack", unfollowed := true, recurses := true, apart := false, narrowed := true }
def BlocksBackUptoSaid : Prop := blocksBackUptoRow.holds Try.pinned (OpenSpec.upto blocksBackSpec)

/-- 'jetsamlaw12.BlocksPoints', WHERE WHAT IT READS IS OF BULK AT MOST 1048576: true; the input reads as it did. -/
def blocksPointsUptoRow : OpenClaim := { program := "ytighdjbeddcckaa", sum := "654d8ecbbba5eb14e0ed6477f2cadeb6167c7a23dcb63d3f665d9c52b4f40fc7", func := "jetsam/jetsamlaw12.BlocksPoints", spec := "blocksPoints", unfollowed := true, recurses := true, apart := false, narrowed := true }
def BlocksPointsUptoSaid : Prop := blocksPointsUptoRow.holds Try.pinned (OpenSpec.upto blocksPointsSpec)

/-- 'jetsamlaw12.BlocksTable', WHERE WHAT IT READS IS OF BULK AT MOST 1048576: true; the input reads as it did. -/
def blocksTableUptoRow : OpenClaim := { program := "ytighdjbeddcckaa", sum := "654d8ecbbba5eb14e0ed6477f2cadeb6167c7a23dcb63d3f665d9c52b4f40fc7", func := "jetsam/jetsamlaw12.BlocksTable", spec := "blocksTable", unfollowed := true, recurses := true, apart := false, narrowed := true }
def BlocksTableUptoSaid : Prop := blocksTableUptoRow.holds Try.pinned (OpenSpec.upto blocksTableSpec)

/-- 'jetsamlaw12.BlocksSeeks', WHERE WHAT IT READS IS OF BULK AT MOST 1048576: true; the input reads as it did. -/
def blocksSeeksUptoRow : OpenClaim := { program := "ytighdjbeddcckaa", sum := "654d8ecbbba5eb14e0ed6477f2cadeb6167c7a23dcb63d3f665d9c52b4f40fc7", func := "jetsam/jetsamlaw12.BlocksSeeks", spec := "blocksSeeks", unfollowed := true, recurses := true, apart := false, narrowed := true }
def BlocksSeeksUptoSaid : Prop := blocksSeeksUptoRow.holds Try.pinned (OpenSpec.upto blocksSeeksSpec)

/-- 'jetsamlaw12.BlocksOthers', WHERE WHAT IT READS IS OF BULK AT MOST 1048576: true; the input reads as it did. -/
def blocksOthersUptoRow : OpenClaim := { program := "ytighdjbeddcckaa", sum := "654d8ecbbba5eb14e0ed6477f2cadeb6167c7a23dcb63d3f665d9c52b4f40fc7", func := "jetsam/jetsamlaw12.BlocksOthers", spec := "blocksOthers", unfollowed := true, recurses := true, apart := false, narrowed := true }
def BlocksOthersUptoSaid : Prop := blocksOthersUptoRow.holds Try.pinned (OpenSpec.upto blocksOthersSpec)

end Rows
end Go.Proofs.Ytighdjbeddcckaa
