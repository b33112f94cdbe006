/-
  No cell of these rows narrows 'for every input' (looked for: loops, veiled, ifaces, maps, wideKeys, modest, calm, conditions, laid).
  DERIVED. THE GIVEN ROWS OF THIS SEAT. 6 by the template 'for every input the law returns true; each argument reads behind the call as it read before'; 0 by the template 'total and deterministic' (their statements: YtpgcaijanmpanaaTotals.lean).
  GIVEN WITH THE SEED: the statements are not yours to turn. If you find one false, say at which input.
  Laid BY PROGRAM, IN A SANDBOX (cutbox-rows.mjs): the forced cells as the released guide's own fill.sh prints them over the translation de5864e93dac5473… (all of the seat's roots in one cut). By AI agents, Wed Nov 11 2026. No macro, syntax, notation, axiom, sorry.
-/
import Derived.Test.YtpgcaijanmpanaaChecked
import GoSem.Claim
import GoSem.ClaimJoined
import GoSem.ClaimMapViews
import Derived.JoinedTies
import Derived.KernelRfl
namespace Go.Proofs.Ytpgcaijanmpanaa
/- THE CELL 'sum', in the pinned program and in every row, IS THE sha256 OF THE DUMP (.gsa) THAT YtpgcaijanmpanaaProg.lean LOADS. Nothing in Lean hashes anything: it is a label: what it is worth is what the hold of that sum in a sandbox is worth. -/
noncomputable def Try.pinned : Pinned := { name := "ytpgcaijanmpanaa", sum := "de5864e93dac54736811cc67ab29b53be0c32be7553df2315cc3617e94f29b2c", checked := Try.checked }
namespace Rows
def none {H : Type} : Left H := { results := [], args := [] }

/-- 'jetsamlaw11.InfoWrites': WHATEVER THE INPUT: true; the input reads as it did. -/
def infoWritesSpec : ChangeSpec := { name := "infoWrites", fn := fun _ => fun
  | [d] => { results := [.lit (.bool true)], args := [d] }
  | _ => none }
def infoWritesRow : OpenClaim := { program := "ytpgcaijanmpanaa", sum := "de5864e93dac54736811cc67ab29b53be0c32be7553df2315cc3617e94f29b2c", func := "jetsam/jetsamlaw11.InfoWrites", spec := "infoWrites", unfollowed := true, recurses := true, apart := false }
def InfoWritesSaid : Prop := infoWritesRow.holds Try.pinned (OpenSpec.ofChange infoWritesSpec)

/-- ITS FALSE NEIGHBOUR: 'it returns false'. Refute it at one input. -/
def infoWritesWrong : ChangeSpec := { name := "infoWrites", fn := fun _ => fun
  | [d] => { results := [.lit (.bool false)], args := [d] }
  | _ => none }
def InfoWritesWrongFalsely : Prop := infoWritesRow.holds Try.pinned (OpenSpec.ofChange infoWritesWrong)

/-- 'jetsamlaw11.InfoReads': WHATEVER THE INPUT: true; the input reads as it did. -/
def infoReadsSpec : ChangeSpec := { name := "infoReads", fn := fun _ => fun
  | [d] => { results := [.lit (.bool true)], args := [d] }
  | _ => none }
def infoReadsRow : OpenClaim := { program := "ytpgcaijanmpanaa", sum := "de5864e93dac54736811cc67ab29b53be0c32be7553df2315cc3617e94f29b2c", func := "jetsam/jetsamlaw11.InfoReads", spec := "infoReads", unfollowed := true, recurses := true, apart := false }
def InfoReadsSaid : Prop := infoReadsRow.holds Try.pinned (OpenSpec.ofChange infoReadsSpec)

/-- ITS FALSE NEIGHBOUR: 'it returns false'. Refute it at one input. -/
def infoReadsWrong : ChangeSpec := { name := "infoReads", fn := fun _ => fun
  | [d] => { results := [.lit (.bool false)], args := [d] }
  | _ => none }
def InfoReadsWrongFalsely : Prop := infoReadsRow.holds Try.pinned (OpenSpec.ofChange infoReadsWrong)

/-- 'jetsamlaw11.InfoBack': WHATEVER THE INPUT: true; the input reads as it did. -/
def infoBackSpec : ChangeSpec := { name := "infoBack", fn := fun _ => fun
  | [d1, d2] => { results := [.lit (.bool true)], args := [d1, d2] }
  | _ => none }
def infoBackRow : OpenClaim := { program := "ytpgcaijanmpanaa", sum := "de5864e93dac54736811cc67ab29b53be0c32be7553df2315cc3617e94f29b2c", func := "jetsam/jetsamlaw11.InfoBack", spec := "infoBack", unfollowed := true, recurses := true, apart := false }
def InfoBackSaid : Prop := infoBackRow.holds Try.pinned (OpenSpec.ofChange infoBackSpec)

/-- ITS FALSE NEIGHBOUR: 'it returns false'. Refute it at one input. -/
def infoBackWrong : ChangeSpec := { name := "infoBack", fn := fun _ => fun
  | [d1, d2] => { results := [.lit (.bool false)], args := [d1, d2] }
  | _ => none }
def InfoBackWrongFalsely : Prop := infoBackRow.holds Try.pinned (OpenSpec.ofChange infoBackWrong)

/-- 'jetsamlaw11.InfoOf': WHATEVER THE INPUT: true; the input reads as it did. -/
def infoOfSpec : ChangeSpec := { name := "infoOf", fn := fun _ => fun
  | [d1, d2, d3] => { results := [.lit (.bool true)], args := [d1, d2, d3] }
  | _ => none }
def infoOfRow : OpenClaim := { program := "ytpgcaijanmpanaa", sum := "de5864e93dac54736811cc67ab29b53be0c32be7553df2315cc3617e94f29b2c", func := "jetsam/jetsamlaw11.InfoOf", spec := "infoOf", unfollowed := true, recurses := true, apart := false }
def InfoOfSaid : Prop := infoOfRow.holds Try.pinned (OpenSpec.ofChange infoOfSpec)

/-- ITS FALSE NEIGHBOUR: 'it returns false'. Refute it at one input. -/
def infoOfWrong : ChangeSpec := { name := "infoOf", fn := fun _ => fun
  | [d1, d2, d3] => { results := [.lit (.bool false)], args := [d1, d2, d3] }
  | _ => none }
def InfoOfWrongFalsely : Prop := infoOfRow.holds Try.pinned (OpenSpec.ofChange infoOfWrong)

/-- 'jetsamlaw11.InfoCovers': WHATEVER THE INPUT: true; the input reads as it did. -/
def infoCoversSpec : ChangeSpec := { name := "infoCovers", fn := fun _ => fun
  | [d1, d2] => { results := [.lit (.bool true)], args := [d1, d2] }
  | _ => none }
def infoCoversRow : OpenClaim := { program := "ytpgcaijanmpanaa", sum := "de5864e93dac54736811cc67ab29b53be0c32be7553df2315cc3617e94f29b2c", func := "jetsam/jetsamlaw11.InfoCovers", spec := "infoCovers", unfollowed := true, recurses := true, apart := false }
def InfoCoversSaid : Prop := infoCoversRow.holds Try.pinned (OpenSpec.ofChange infoCoversSpec)

/-- ITS FALSE NEIGHBOUR: 'it returns false'. Refute it at one input. -/
def infoCoversWrong : ChangeSpec := { name := "infoCovers", fn := fun _ => fun
  | [d1, d2] => { results := [.lit (.bool false)], args := [d1, d2] }
  | _ => none }
def InfoCoversWrongFalsely : Prop := infoCoversRow.holds Try.pinned (OpenSpec.ofChange infoCoversWrong)

/-- 'jetsamlaw11.InfoRefuses': WHATEVER THE INPUT: true; the input reads as it did. -/
def infoRefusesSpec : ChangeSpec := { name := "infoRefuses", fn := fun _ => fun
  | [d1, d2] => { results := [.lit (.bool true)], args := [d1, d2] }
  | _ => none }
def infoRefusesRow : OpenClaim := { program := "ytpgcaijanmpanaa", sum := "de5864e93dac54736811cc67ab29b53be0c32be7553df2315cc3617e94f29b2c", func := "jetsam/jetsamlaw11.InfoRefuses", spec := "infoRefuses", unfollowed := true, recurses := true, apart := false }
def InfoRefusesSaid : Prop := infoRefusesRow.holds Try.pinned (OpenSpec.ofChange infoRefusesSpec)

/-- ITS FALSE NEIGHBOUR: 'it returns false'. Refute it at one input. -/
def infoRefusesWrong : ChangeSpec := { name := "infoRefuses", fn := fun _ => fun
  | [d1, d2] => { results := [.lit (.bool false)], args := [d1, d2] }
  | _ => none }
def InfoRefusesWrongFalsely : Prop := infoRefusesRow.holds Try.pinned (OpenSpec.ofChange infoRefusesWrong)

/- THE SECOND FORM. 'bulk': how many values and letters a reading holds, each counted each time it is reached (what is shared counts as often as it is met; a slice's spare places count too). A statement '..UptoSaid' is the law's where the arguments, and the package variables that the reading takes, are together of bulk at most 1048576: NARROWER than '..Said'. Prove '..Said' where nothing that the law and all that it calls make is longer than what came in: it says more and counts as full. Else prove '..UptoSaid'. A law counts once. -/
mutual
def uptoBulk {H : Type} : DataW H → Nat
  | .lit (.string bytes) => bytes.length + 1
  | .lit _ => 1
  | .nil => 1
  | .ptr d => uptoBulk d + 1
  | .slice elems spare => uptoBulkAll elems + uptoBulkAll spare + 1
  | .agg parts => uptoBulkAll parts + 1
  | .iface _ d => uptoBulk d + 1
  | .map entries => uptoBulkEntries entries + 1
  | .held _ => 1
def uptoBulkAll {H : Type} : List (DataW H) → Nat
  | [] => 0
  | d :: r => uptoBulk d + uptoBulkAll r
def uptoBulkEntries {H : Type} : List (Lit × DataW H) → Nat
  | [] => 0
  | x :: r => uptoBulkEntry x + uptoBulkEntries r
def uptoBulkEntry {H : Type} : Lit × DataW H → Nat
  | (.string bytes, d) => bytes.length + uptoBulk d + 1
  | (_, d) => uptoBulk d + 1
 end
def uptoSmall : (H : Type) → List (DataW H) → Bool := fun _ ds => decide (uptoBulkAll ds ≤ 1048576)
def OpenSpec.upto (s : _root_.Go.ChangeSpec) : _root_.Go.OpenSpec := { _root_.Go.OpenSpec.ofChange s with cond := some uptoSmall }

/-- 'jetsamlaw11.InfoWrites', WHERE WHAT IT READS IS OF BULK AT MOST 1048576: true; the input reads as it did. -/
def infoWritesUptoRow : OpenClaim := { program := "ytpgcaijanmpanaa", sum := "de5864e93dac54736811cc67ab29b53be0c32be7553df2315cc3617e94f29b2c", func := "jetsam/jetsamlaw11.InfoWrites", spec := "infoWrites", unfollowed := true, recurses := true, apart := false, narrowed := true }
def InfoWritesUptoSaid : Prop := infoWritesUptoRow.holds Try.pinned (OpenSpec.upto infoWritesSpec)

/-- 'jetsamlaw11.InfoReads', WHERE WHAT IT READS IS OF BULK AT MOST 1048576: true; the input reads as it did. -/
def infoReadsUptoRow : OpenClaim := { program := "ytpgcaijanmpanaa", sum := "de5864e93dac54736811cc67ab29b53be0c32be7553df2315cc3617e94f29b2c", func := "jetsam/jetsamlaw11.InfoReads", spec := "infoReads", unfollowed := true, recurses := true, apart := false, narrowed := true }
def InfoReadsUptoSaid : Prop := infoReadsUptoRow.holds Try.pinned (OpenSpec.upto infoReadsSpec)

/-- 'jetsamlaw11.InfoBack', WHERE WHAT IT READS IS OF BULK AT MOST 1048576: true; the input reads as it did. -/
def infoBackUptoRow : OpenClaim := { program := "ytpgcaijanmpanaa", sum := "de5864e93dac54736811cc67ab29b53be0c32be7553df2315cc3617e94f29b2c", func := "jetsam/jetsamlaw11.InfoBack", spec := "infoBack", unfollowed := true, recurses := true, apart := false, narrowed := true }
def InfoBackUptoSaid : Prop := infoBackUptoRow.holds Try.pinned (OpenSpec.upto infoBackSpec)

/-- 'jetsamlaw11.InfoOf', WHERE WHAT IT READS IS OF BULK AT MOST 1048576: true; the input reads as it did. -/
def infoOfUptoRow : OpenClaim := { program := "ytpgcaijanmpanaa", sum := "de5864e93dac54736811cc67ab29b53be0c32be7553df2315cc3617e94f29b2c", func := "jetsam/jetsamlaw11.InfoOf", spec := "infoOf", unfollowed := true, recurses := true, apart := false, narrowed := true }
def InfoOfUptoSaid : Prop := infoOfUptoRow.holds Try.pinned (OpenSpec.upto infoOfSpec)

/-- 'jetsamlaw11.InfoCovers', WHERE WHAT IT READS IS OF BULK AT MOST 1048576: true; the input reads as it did. -/
def infoCoversUptoRow : OpenClaim := { program := "ytpgcaijanmpanaa", sum := "de5864e93dac54736811cc67ab29b53be0c32be7553df2315cc3617e94f29b2c", func := "jetsam/jetsamlaw11.InfoCovers", spec := "infoCovers", unfollowed := true, recurses := true, apart := false, narrowed := true }
def InfoCoversUptoSaid : Prop := infoCoversUptoRow.holds Try.pinned (OpenSpec.upto infoCoversSpec)

/-- 'jetsamlaw11.InfoRefuses', WHERE WHAT IT READS IS OF BULK AT MOST 1048576: true; the input reads as it did. -/
def infoRefusesUptoRow : OpenClaim := { program := "ytpgcaijanmpanaa", sum := "de5864e93dac54736811cc67ab29b53be0c32be7553df2315cc3617e94f29b2c", func := "jetsam/jetsamlaw11.InfoRefuses", spec := "infoRefuses", unfollowed := true, recurses := true, apart := false, narrowed := true }
def InfoRefusesUptoSaid : Prop := infoRefusesUptoRow.holds Try.pinned (OpenSpec.upto infoRefusesSpec)

end Rows
end Go.Proofs.Ytpgcaijanmpanaa
