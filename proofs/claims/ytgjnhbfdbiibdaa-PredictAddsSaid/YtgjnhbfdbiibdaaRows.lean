/-
  No cell of these rows narrows 'for every input' (looked for: loops, veiled, ifaces, maps, wideKeys, modest, calm, conditions, laid).
  DERIVED. THE GIVEN ROWS OF THIS SEAT. 5 by the template 'for every input the law returns true; each argument reads behind the call as it read before'; 0 by the template 'total and deterministic' (their statements: YtgjnhbfdbiibdaaTotals.lean).
  GIVEN WITH THE SEED: the statements are not yours to turn. If you find one false, say at which input.
  Laid BY PROGRAM, IN A SANDBOX (cutbox-rows.mjs): the forced cells as the released guide's own fill.sh prints them over the translation 310a8828f8e7dd2b… (all of the seat's roots in one cut). By AI agents, Wed Nov 11 2026. No macro, syntax, notation, axiom, sorry.
-/
import Derived.Test.YtgjnhbfdbiibdaaChecked
import GoSem.Claim
import GoSem.ClaimJoined
import GoSem.ClaimMapViews
import Derived.JoinedTies
import Derived.KernelRfl
namespace Go.Proofs.Ytgjnhbfdbiibdaa
/- THE CELL 'sum', in the pinned program and in every row, IS THE sha256 OF THE DUMP (.gsa) THAT YtgjnhbfdbiibdaaProg.lean LOADS. Nothing in Lean hashes anything: it is a label: what it is worth is what the hold of that sum in a sandbox is worth. -/
noncomputable def Try.pinned : Pinned := { name := "ytgjnhbfdbiibdaa", sum := "310a8828f8e7dd2b76a03d23681c9229be0060e7d6ea9e687311e3ae055f209d", checked := Try.checked }
namespace Rows
def none {H : Type} : Left H := { results := [], args := [] }

/-- 'jetsamlaw06.PredictTells': WHATEVER THE INPUT: true; the input reads as it did. -/
def predictTellsSpec : ChangeSpec := { name := "predictTells", fn := fun _ => fun
  | [d1, d2] => { results := [.lit (.bool true)], args := [d1, d2] }
  | _ => none }
def predictTellsRow : OpenClaim := { program := "ytgjnhbfdbiibdaa", sum := "310a8828f8e7dd2b76a03d23681c9229be0060e7d6ea9e687311e3ae055f209d", func := "jetsam/jetsamlaw06.PredictTells", spec := "predictTells", unfollowed := true, recurses := true, apart := false }
def PredictTellsSaid : Prop := predictTellsRow.holds Try.pinned (OpenSpec.ofChange predictTellsSpec)

/-- ITS FALSE NEIGHBOUR: 'it returns false'. Refute it at one input. -/
def predictTellsWrong : ChangeSpec := { name := "predictTells", fn := fun _ => fun
  | [d1, d2] => { results := [.lit (.bool false)], args := [d1, d2] }
  | _ => none }
def PredictTellsWrongFalsely : Prop := predictTellsRow.holds Try.pinned (OpenSpec.ofChange predictTellsWrong)

/-- 'jetsamlaw06.PredictRestores': WHATEVER THE INPUT: true; the input reads as it did. -/
def predictRestoresSpec : ChangeSpec := { name := "predictRestores", fn := fun _ => fun
  | [d1, d2, d3] => { results := [.lit (.bool true)], args := [d1, d2, d3] }
  | _ => none }
def predictRestoresRow : OpenClaim := { program := "ytgjnhbfdbiibdaa", sum := "310a8828f8e7dd2b76a03d23681c9229be0060e7d6ea9e687311e3ae055f209d", func := "jetsam/jetsamlaw06.PredictRestores", spec := "predictRestores", unfollowed := true, recurses := true, apart := false }
def PredictRestoresSaid : Prop := predictRestoresRow.holds Try.pinned (OpenSpec.ofChange predictRestoresSpec)

/-- ITS FALSE NEIGHBOUR: 'it returns false'. Refute it at one input. -/
def predictRestoresWrong : ChangeSpec := { name := "predictRestores", fn := fun _ => fun
  | [d1, d2, d3] => { results := [.lit (.bool false)], args := [d1, d2, d3] }
  | _ => none }
def PredictRestoresWrongFalsely : Prop := predictRestoresRow.holds Try.pinned (OpenSpec.ofChange predictRestoresWrong)

/-- 'jetsamlaw06.PredictBack': WHATEVER THE INPUT: true; the input reads as it did. -/
def predictBackSpec : ChangeSpec := { name := "predictBack", fn := fun _ => fun
  | [d1, d2, d3] => { results := [.lit (.bool true)], args := [d1, d2, d3] }
  | _ => none }
def predictBackRow : OpenClaim := { program := "ytgjnhbfdbiibdaa", sum := "310a8828f8e7dd2b76a03d23681c9229be0060e7d6ea9e687311e3ae055f209d", func := "jetsam/jetsamlaw06.PredictBack", spec := "predictBack", unfollowed := true, recurses := true, apart := false }
def PredictBackSaid : Prop := predictBackRow.holds Try.pinned (OpenSpec.ofChange predictBackSpec)

/-- ITS FALSE NEIGHBOUR: 'it returns false'. Refute it at one input. -/
def predictBackWrong : ChangeSpec := { name := "predictBack", fn := fun _ => fun
  | [d1, d2, d3] => { results := [.lit (.bool false)], args := [d1, d2, d3] }
  | _ => none }
def PredictBackWrongFalsely : Prop := predictBackRow.holds Try.pinned (OpenSpec.ofChange predictBackWrong)

/-- 'jetsamlaw06.PredictFixed': WHATEVER THE INPUT: true; the input reads as it did. -/
def predictFixedSpec : ChangeSpec := { name := "predictFixed", fn := fun _ => fun
  | [d1, d2] => { results := [.lit (.bool true)], args := [d1, d2] }
  | _ => none }
def predictFixedRow : OpenClaim := { program := "ytgjnhbfdbiibdaa", sum := "310a8828f8e7dd2b76a03d23681c9229be0060e7d6ea9e687311e3ae055f209d", func := "jetsam/jetsamlaw06.PredictFixed", spec := "predictFixed", unfollowed := true, recurses := true, apart := false }
def PredictFixedSaid : Prop := predictFixedRow.holds Try.pinned (OpenSpec.ofChange predictFixedSpec)

/-- ITS FALSE NEIGHBOUR: 'it returns false'. Refute it at one input. -/
def predictFixedWrong : ChangeSpec := { name := "predictFixed", fn := fun _ => fun
  | [d1, d2] => { results := [.lit (.bool false)], args := [d1, d2] }
  | _ => none }
def PredictFixedWrongFalsely : Prop := predictFixedRow.holds Try.pinned (OpenSpec.ofChange predictFixedWrong)

/-- 'jetsamlaw06.PredictAdds': WHATEVER THE INPUT: true; the input reads as it did. -/
def predictAddsSpec : ChangeSpec := { name := "predictAdds", fn := fun _ => fun
  | [d1, d2, d3] => { results := [.lit (.bool true)], args := [d1, d2, d3] }
  | _ => none }
def predictAddsRow : OpenClaim := { program := "ytgjnhbfdbiibdaa", sum := "310a8828f8e7dd2b76a03d23681c9229be0060e7d6ea9e687311e3ae055f209d", func := "jetsam/jetsamlaw06.PredictAdds", spec := "predictAdds", unfollowed := true, recurses := true, apart := false }
def PredictAddsSaid : Prop := predictAddsRow.holds Try.pinned (OpenSpec.ofChange predictAddsSpec)

/-- ITS FALSE NEIGHBOUR: 'it returns false'. Refute it at one input. -/
def predictAddsWrong : ChangeSpec := { name := "predictAdds", fn := fun _ => fun
  | [d1, d2, d3] => { results := [.lit (.bool false)], args := [d1, d2, d3] }
  | _ => none }
def PredictAddsWrongFalsely : Prop := predictAddsRow.holds Try.pinned (OpenSpec.ofChange predictAddsWrong)

/- THE SECOND FORM. 'bulk': how many values and letters a reading holds, each counted each time it is reached (what is shared counts as often as it is met; a slice's spare places count too). A statement '..UptoSaid' is the law's where the arguments, and the package variables that the reading takes, are together of bulk at most 1048576: NARROWER than '..Said'. Prove '..Said' where nothing that the law and all that it calls make is longer than what came in: it says more and counts as full. Else prove '..UptoSaid'. A law counts once. -/
mutual
def uptoBulk {H : Type} : DataW H → Nat
  | .lit (.string bytes) => bytes.length + 1
  | .lit _ => 1
  | .nil => 1
  | .ptr d => uptoBulk d + 1
  | .slice elems spare => uptoBulkAll elems + uptoBulkAll spare + 1
  | .agg parts => uptoBulkAll parts + 1
  | .iface _ d => uptoBulk d + 1
  | .map entries => uptoBulkEntries entries + 1
  | .held _ => 1
def uptoBulkAll {H : Type} : List (DataW H) → Nat
  | [] => 0
  | d :: r => uptoBulk d + uptoBulkAll r
def uptoBulkEntries {H : Type} : List (Lit × DataW H) → Nat
  | [] => 0
  | x :: r => uptoBulkEntry x + uptoBulkEntries r
def uptoBulkEntry {H : Type} : Lit × DataW H → Nat
  | (.string bytes, d) => bytes.length + uptoBulk d + 1
  | (_, d) => uptoBulk d + 1
 end
def uptoSmall : (H : Type) → List (DataW H) → Bool := fun _ ds => decide (uptoBulkAll ds ≤ 1048576)
def OpenSpec.upto (s : _root_.Go.ChangeSpec) : _root_.Go.OpenSpec := { _root_.Go.OpenSpec.ofChange s with cond := some uptoSmall }

/-- 'jetsamlaw06.PredictTells', WHERE WHAT IT READS IS OF BULK AT MOST 1048576: true; the input reads as it did. -/
def predictTellsUptoRow : OpenClaim := { program := "ytgjnhbfdbiibdaa", sum := "310a8828f8e7dd2b76a03d23681c9229be0060e7d6ea9e687311e3ae055f209d", func := "jetsam/jetsamlaw06.PredictTells", spec := "predictTells", unfollowed := true, recurses := true, apart := false, narrowed := true }
def PredictTellsUptoSaid : Prop := predictTellsUptoRow.holds Try.pinned (OpenSpec.upto predictTellsSpec)

/-- 'jetsamlaw06.PredictRestores', WHERE WHAT IT READS IS OF BULK AT MOST 1048576: true; the input reads as it did. -/
def predictRestoresUptoRow : OpenClaim := { program := "ytgjnhbfdbiibdaa", sum := "310a8828f8e7dd2b76a03d23681c9229be0060e7d6ea9e687311e3ae055f209d", func := "jetsam/jetsamlaw06.PredictRestores", spec := "predictRestores", unfollowed := true, recurses := true, apart := false, narrowed := true }
def PredictRestoresUptoSaid : Prop := predictRestoresUptoRow.holds Try.pinned (OpenSpec.upto predictRestoresSpec)

/-- 'jetsamlaw06.PredictBack', WHERE WHAT IT READS IS OF BULK AT MOST 1048576: true; the input reads as it did. -/
def predictBackUptoRow : OpenClaim := { program := "ytgjnhbfdbiibdaa", sum := "310a8828f8e7dd2b76a03d23681c9229be0060e7d6ea9e687311e3ae055f209d", func := "jetsam/jetsamlaw06.PredictBack", spec := "predictBack", unfollowed := true, recurses := true, apart := false, narrowed := true }
def PredictBackUptoSaid : Prop := predictBackUptoRow.holds Try.pinned (OpenSpec.upto predictBackSpec)

/-- 'jetsamlaw06.PredictFixed', WHERE WHAT IT READS IS OF BULK AT MOST 1048576: true; the input reads as it did. -/
def predictFixedUptoRow : OpenClaim := { program := "ytgjnhbfdbiibdaa", sum := "310a8828f8e7dd2b76a03d23681c9229be0060e7d6ea9e687311e3ae055f209d", func := "jetsam/jetsamlaw06.PredictFixed", spec := "predictFixed", unfollowed := true, recurses := true, apart := false, narrowed := true }
def PredictFixedUptoSaid : Prop := predictFixedUptoRow.holds Try.pinned (OpenSpec.upto predictFixedSpec)

/-- 'jetsamlaw06.PredictAdds', WHERE WHAT IT READS IS OF BULK AT MOST 1048576: true; the input reads as it did. -/
def predictAddsUptoRow : OpenClaim := { program := "ytgjnhbfdbiibdaa", sum := "310a8828f8e7dd2b76a03d23681c9229be0060e7d6ea9e687311e3ae055f209d", func := "jetsam/jetsamlaw06.PredictAdds", spec := "predictAdds", unfollowed := true, recurses := true, apart := false, narrowed := true }
def PredictAddsUptoSaid : Prop := predictAddsUptoRow.holds Try.pinned (OpenSpec.upto predictAddsSpec)

end Rows
end Go.Proofs.Ytgjnhbfdbiibdaa
