/-
  NARROWER THAN 'FOR EVERY INPUT', by the rows' own cells (each row's printed sentence says how): SumsTell: laid · SumsShift: laid · SumsJoin: laid · SumsSee: laid · SumsMeter: laid · SumsAdd: laid.
  DERIVED. THE GIVEN ROWS OF THIS SEAT. 6 by the template 'for every input the law returns true; each argument reads behind the call as it read before'; 0 by the template 'total and deterministic' (their statements: YtmnnjbamphoghaaDoorTotals.lean).
  GIVEN WITH THE SEED: the statements are not yours to turn. If you find one false, say at which input.
  Laid BY PROGRAM, IN A SANDBOX (cutbox-rows.mjs): the forced cells as the released guide's own fill.sh prints them over the translation c2762c7447d20804… (all of the seat's roots in one cut). By AI agents, Wed Nov 11 2026. No macro, syntax, notation, axiom, sorry.
-/
import Derived.Test.YtmnnjbamphoghaaDoorChecked
import GoSem.Claim
import GoSem.ClaimJoined
import GoSem.ClaimMapViews
import Derived.JoinedTies
import Derived.KernelRfl
namespace Go.Proofs.YtmnnjbamphoghaaDoor
/- THE CELL 'sum', in the pinned program and in every row, IS THE sha256 OF THE DUMP (.gsa) THAT YtmnnjbamphoghaaDoorProg.lean LOADS. Nothing in Lean hashes anything: it is a label: what it is worth is what the hold of that sum in a sandbox is worth. -/
noncomputable def Tryd.pinned : Pinned := { name := "ytmnnjbamphoghaadoor", sum := "c2762c7447d20804b509d58fb3a5dded56fb151b9c8fed6c7dc5b01097524ab2", checked := Tryd.checked }
namespace Rows
def none {H : Type} : Left H := { results := [], args := [] }

/- WHAT THE LISTED PACKAGE-LEVEL VARIABLES READ AS WHEN THE CALL BEGINS. Each datum BY PROGRAM (the guide's laid-datum.mjs) off the statement by which the dump's own 'gosem.cut.vars' lays the variable. In a bare row this is a premise. The card (YtmnnjbamphoghaaDoorCards.lean) ties it to the program's text. -/
def laid_jetsam_sums_eight {H : Type} : DataW H := .agg [.lit (.int .i64 8), .lit (.int .i64 7)]
def laid_jetsam_sums_sixteen {H : Type} : DataW H := .agg [.lit (.int .i64 16), .lit (.int .i64 32773)]
def laid_jetsam_sums_higher8 {H : Type} : DataW H := .agg [.lit (.int .i64 0), .lit (.int .i64 112), .lit (.int .i64 224), .lit (.int .i64 144), .lit (.int .i64 199), .lit (.int .i64 183), .lit (.int .i64 39), .lit (.int .i64 87), .lit (.int .i64 137), .lit (.int .i64 249), .lit (.int .i64 105), .lit (.int .i64 25), .lit (.int .i64 78), .lit (.int .i64 62), .lit (.int .i64 174), .lit (.int .i64 222)]
def laid_jetsam_sums_lower8 {H : Type} : DataW H := .agg [.lit (.int .i64 0), .lit (.int .i64 7), .lit (.int .i64 14), .lit (.int .i64 9), .lit (.int .i64 28), .lit (.int .i64 27), .lit (.int .i64 18), .lit (.int .i64 21), .lit (.int .i64 56), .lit (.int .i64 63), .lit (.int .i64 54), .lit (.int .i64 49), .lit (.int .i64 36), .lit (.int .i64 35), .lit (.int .i64 42), .lit (.int .i64 45)]
def laid_jetsam_sums_higher16 {H : Type} : DataW H := .agg [.lit (.int .i64 0), .lit (.int .i64 32867), .lit (.int .i64 32963), .lit (.int .i64 160), .lit (.int .i64 33155), .lit (.int .i64 480), .lit (.int .i64 320), .lit (.int .i64 33059), .lit (.int .i64 33539), .lit (.int .i64 864), .lit (.int .i64 960), .lit (.int .i64 33699), .lit (.int .i64 640), .lit (.int .i64 33507), .lit (.int .i64 33347), .lit (.int .i64 544)]
def laid_jetsam_sums_lower16 {H : Type} : DataW H := .agg [.lit (.int .i64 0), .lit (.int .i64 32773), .lit (.int .i64 32783), .lit (.int .i64 10), .lit (.int .i64 32795), .lit (.int .i64 30), .lit (.int .i64 20), .lit (.int .i64 32785), .lit (.int .i64 32819), .lit (.int .i64 54), .lit (.int .i64 60), .lit (.int .i64 32825), .lit (.int .i64 40), .lit (.int .i64 32813), .lit (.int .i64 32807), .lit (.int .i64 34)]

/-- 'jetsamlaw02.SumsTell': WHATEVER THE INPUT: true; the input reads as it did. -/
def sumsTellSpec : ChangeSpec := { name := "sumsTell", fn := fun _ => fun
  | [d1, d2] => { results := [.lit (.bool true)], args := [d1, d2] }
  | _ => none }
def sumsTellRow : OpenClaim := { program := "ytmnnjbamphoghaadoor", sum := "c2762c7447d20804b509d58fb3a5dded56fb151b9c8fed6c7dc5b01097524ab2", func := "jetsam/jetsamlaw02.SumsTell", spec := "sumsTell", unfollowed := true, recurses := true, named := ["jetsam/sums.eight", "jetsam/sums.higher8", "jetsam/sums.lower8", "jetsam/sums.sixteen", "jetsam/sums.higher16", "jetsam/sums.lower16"], apart := false, laid := [("jetsam/sums.eight", laid_jetsam_sums_eight), ("jetsam/sums.sixteen", laid_jetsam_sums_sixteen), ("jetsam/sums.higher8", laid_jetsam_sums_higher8), ("jetsam/sums.lower8", laid_jetsam_sums_lower8), ("jetsam/sums.higher16", laid_jetsam_sums_higher16), ("jetsam/sums.lower16", laid_jetsam_sums_lower16)] }
def SumsTellSaid : Prop := sumsTellRow.holds Tryd.pinned (OpenSpec.ofChange sumsTellSpec)

/-- ITS FALSE NEIGHBOUR: 'it returns false'. Refute it at one input. -/
def sumsTellWrong : ChangeSpec := { name := "sumsTell", fn := fun _ => fun
  | [d1, d2] => { results := [.lit (.bool false)], args := [d1, d2] }
  | _ => none }
def SumsTellWrongFalsely : Prop := sumsTellRow.holds Tryd.pinned (OpenSpec.ofChange sumsTellWrong)

/-- 'jetsamlaw02.SumsShift': WHATEVER THE INPUT: true; the input reads as it did. -/
def sumsShiftSpec : ChangeSpec := { name := "sumsShift", fn := fun _ => fun
  | [d1, d2] => { results := [.lit (.bool true)], args := [d1, d2] }
  | _ => none }
def sumsShiftRow : OpenClaim := { program := "ytmnnjbamphoghaadoor", sum := "c2762c7447d20804b509d58fb3a5dded56fb151b9c8fed6c7dc5b01097524ab2", func := "jetsam/jetsamlaw02.SumsShift", spec := "sumsShift", unfollowed := true, recurses := true, named := ["jetsam/sums.eight", "jetsam/sums.higher8", "jetsam/sums.lower8", "jetsam/sums.sixteen", "jetsam/sums.higher16", "jetsam/sums.lower16"], apart := false, laid := [("jetsam/sums.eight", laid_jetsam_sums_eight), ("jetsam/sums.sixteen", laid_jetsam_sums_sixteen), ("jetsam/sums.higher8", laid_jetsam_sums_higher8), ("jetsam/sums.lower8", laid_jetsam_sums_lower8), ("jetsam/sums.higher16", laid_jetsam_sums_higher16), ("jetsam/sums.lower16", laid_jetsam_sums_lower16)] }
def SumsShiftSaid : Prop := sumsShiftRow.holds Tryd.pinned (OpenSpec.ofChange sumsShiftSpec)

/-- ITS FALSE NEIGHBOUR: 'it returns false'. Refute it at one input. -/
def sumsShiftWrong : ChangeSpec := { name := "sumsShift", fn := fun _ => fun
  | [d1, d2] => { results := [.lit (.bool false)], args := [d1, d2] }
  | _ => none }
def SumsShiftWrongFalsely : Prop := sumsShiftRow.holds Tryd.pinned (OpenSpec.ofChange sumsShiftWrong)

/-- 'jetsamlaw02.SumsJoin': WHATEVER THE INPUT: true; the input reads as it did. -/
def sumsJoinSpec : ChangeSpec := { name := "sumsJoin", fn := fun _ => fun
  | [d1, d2] => { results := [.lit (.bool true)], args := [d1, d2] }
  | _ => none }
def sumsJoinRow : OpenClaim := { program := "ytmnnjbamphoghaadoor", sum := "c2762c7447d20804b509d58fb3a5dded56fb151b9c8fed6c7dc5b01097524ab2", func := "jetsam/jetsamlaw02.SumsJoin", spec := "sumsJoin", unfollowed := true, recurses := true, named := ["jetsam/sums.eight", "jetsam/sums.higher8", "jetsam/sums.lower8", "jetsam/sums.sixteen", "jetsam/sums.higher16", "jetsam/sums.lower16"], apart := false, laid := [("jetsam/sums.eight", laid_jetsam_sums_eight), ("jetsam/sums.sixteen", laid_jetsam_sums_sixteen), ("jetsam/sums.higher8", laid_jetsam_sums_higher8), ("jetsam/sums.lower8", laid_jetsam_sums_lower8), ("jetsam/sums.higher16", laid_jetsam_sums_higher16), ("jetsam/sums.lower16", laid_jetsam_sums_lower16)] }
def SumsJoinSaid : Prop := sumsJoinRow.holds Tryd.pinned (OpenSpec.ofChange sumsJoinSpec)

/-- ITS FALSE NEIGHBOUR: 'it returns false'. Refute it at one input. -/
def sumsJoinWrong : ChangeSpec := { name := "sumsJoin", fn := fun _ => fun
  | [d1, d2] => { results := [.lit (.bool false)], args := [d1, d2] }
  | _ => none }
def SumsJoinWrongFalsely : Prop := sumsJoinRow.holds Tryd.pinned (OpenSpec.ofChange sumsJoinWrong)

/-- 'jetsamlaw02.SumsSee': WHATEVER THE INPUT: true; the input reads as it did. -/
def sumsSeeSpec : ChangeSpec := { name := "sumsSee", fn := fun _ => fun
  | [d1, d2, d3] => { results := [.lit (.bool true)], args := [d1, d2, d3] }
  | _ => none }
def sumsSeeRow : OpenClaim := { program := "ytmnnjbamphoghaadoor", sum := "c2762c7447d20804b509d58fb3a5dded56fb151b9c8fed6c7dc5b01097524ab2", func := "jetsam/jetsamlaw02.SumsSee", spec := "sumsSee", unfollowed := true, recurses := true, named := ["jetsam/sums.eight", "jetsam/sums.higher8", "jetsam/sums.lower8", "jetsam/sums.sixteen", "jetsam/sums.higher16", "jetsam/sums.lower16"], apart := false, laid := [("jetsam/sums.eight", laid_jetsam_sums_eight), ("jetsam/sums.sixteen", laid_jetsam_sums_sixteen), ("jetsam/sums.higher8", laid_jetsam_sums_higher8), ("jetsam/sums.lower8", laid_jetsam_sums_lower8), ("jetsam/sums.higher16", laid_jetsam_sums_higher16), ("jetsam/sums.lower16", laid_jetsam_sums_lower16)] }
def SumsSeeSaid : Prop := sumsSeeRow.holds Tryd.pinned (OpenSpec.ofChange sumsSeeSpec)

/-- ITS FALSE NEIGHBOUR: 'it returns false'. Refute it at one input. -/
def sumsSeeWrong : ChangeSpec := { name := "sumsSee", fn := fun _ => fun
  | [d1, d2, d3] => { results := [.lit (.bool false)], args := [d1, d2, d3] }
  | _ => none }
def SumsSeeWrongFalsely : Prop := sumsSeeRow.holds Tryd.pinned (OpenSpec.ofChange sumsSeeWrong)

/-- 'jetsamlaw02.SumsMeter': WHATEVER THE INPUT: true; the input reads as it did. -/
def sumsMeterSpec : ChangeSpec := { name := "sumsMeter", fn := fun _ => fun
  | [d1, d2] => { results := [.lit (.bool true)], args := [d1, d2] }
  | _ => none }
def sumsMeterRow : OpenClaim := { program := "ytmnnjbamphoghaadoor", sum := "c2762c7447d20804b509d58fb3a5dded56fb151b9c8fed6c7dc5b01097524ab2", func := "jetsam/jetsamlaw02.SumsMeter", spec := "sumsMeter", inPlace := ["sync/atomic.LoadUint32", "(*internal/sync.Mutex).Lock", "internal/race.Disable", "sync/atomic.CompareAndSwapInt32", "internal/race.Enable", "internal/race.Acquire", "(*internal/sync.Mutex).lockSlow", "internal/sync.runtime_canSpin", "internal/sync.runtime_doSpin", "internal/sync.throw", "internal/sync.runtime_nanotime", "internal/sync.runtime_SemacquireMutex", "sync/atomic.AddInt32", "(*internal/sync.Mutex).Unlock", "internal/race.ReleaseMerge", "(*internal/sync.Mutex).unlockSlow", "internal/sync.fatal", "internal/sync.runtime_Semrelease", "sync/atomic.StoreUint32", "sync/atomic.AddInt64", "sync/atomic.LoadInt64"], unfollowed := true, recurses := true, named := ["jetsam/sums.eight", "jetsam/sums.higher8", "jetsam/sums.lower8", "jetsam/sums.sixteen", "jetsam/sums.higher16", "jetsam/sums.lower16"], apart := false, laid := [("jetsam/sums.eight", laid_jetsam_sums_eight), ("jetsam/sums.sixteen", laid_jetsam_sums_sixteen), ("jetsam/sums.higher8", laid_jetsam_sums_higher8), ("jetsam/sums.lower8", laid_jetsam_sums_lower8), ("jetsam/sums.higher16", laid_jetsam_sums_higher16), ("jetsam/sums.lower16", laid_jetsam_sums_lower16)] }
def SumsMeterSaid : Prop := sumsMeterRow.holds Tryd.pinned (OpenSpec.ofChange sumsMeterSpec)

/-- ITS FALSE NEIGHBOUR: 'it returns false'. Refute it at one input. -/
def sumsMeterWrong : ChangeSpec := { name := "sumsMeter", fn := fun _ => fun
  | [d1, d2] => { results := [.lit (.bool false)], args := [d1, d2] }
  | _ => none }
def SumsMeterWrongFalsely : Prop := sumsMeterRow.holds Tryd.pinned (OpenSpec.ofChange sumsMeterWrong)

/-- 'jetsamlaw02.SumsAdd': WHATEVER THE INPUT: true; the input reads as it did. -/
def sumsAddSpec : ChangeSpec := { name := "sumsAdd", fn := fun _ => fun
  | [d1, d2, d3] => { results := [.lit (.bool true)], args := [d1, d2, d3] }
  | _ => none }
def sumsAddRow : OpenClaim := { program := "ytmnnjbamphoghaadoor", sum := "c2762c7447d20804b509d58fb3a5dded56fb151b9c8fed6c7dc5b01097524ab2", func := "jetsam/jetsamlaw02.SumsAdd", spec := "sumsAdd", unfollowed := true, recurses := true, named := ["jetsam/sums.eight", "jetsam/sums.higher8", "jetsam/sums.lower8", "jetsam/sums.sixteen", "jetsam/sums.higher16", "jetsam/sums.lower16"], apart := false, laid := [("jetsam/sums.eight", laid_jetsam_sums_eight), ("jetsam/sums.sixteen", laid_jetsam_sums_sixteen), ("jetsam/sums.higher8", laid_jetsam_sums_higher8), ("jetsam/sums.lower8", laid_jetsam_sums_lower8), ("jetsam/sums.higher16", laid_jetsam_sums_higher16), ("jetsam/sums.lower16", laid_jetsam_sums_lower16)] }
def SumsAddSaid : Prop := sumsAddRow.holds Tryd.pinned (OpenSpec.ofChange sumsAddSpec)

/-- ITS FALSE NEIGHBOUR: 'it returns false'. Refute it at one input. -/
def sumsAddWrong : ChangeSpec := { name := "sumsAdd", fn := fun _ => fun
  | [d1, d2, d3] => { results := [.lit (.bool false)], args := [d1, d2, d3] }
  | _ => none }
def SumsAddWrongFalsely : Prop := sumsAddRow.holds Tryd.pinned (OpenSpec.ofChange sumsAddWrong)

/- THE SECOND FORM. 'bulk': how many values and letters a reading holds, each counted each time it is reached (what is shared counts as often as it is met; a slice's spare places count too). A statement '..UptoSaid' is the law's where the arguments, and the package variables that the reading takes, are together of bulk at most 1048576: NARROWER than '..Said'. Prove '..Said' where nothing that the law and all that it calls make is longer than what came in: it says more and counts as full. Else prove '..UptoSaid'. A law counts once. -/
mutual
def uptoBulk {H : Type} : DataW H → Nat
  | .lit (.string bytes) => bytes.length + 1
  | .lit _ => 1
  | .nil => 1
  | .ptr d => uptoBulk d + 1
  | .slice elems spare => uptoBulkAll elems + uptoBulkAll spare + 1
  | .agg parts => uptoBulkAll parts + 1
  | .iface _ d => uptoBulk d + 1
  | .map entries => uptoBulkEntries entries + 1
  | .held _ => 1
def uptoBulkAll {H : Type} : List (DataW H) → Nat
  | [] => 0
  | d :: r => uptoBulk d + uptoBulkAll r
def uptoBulkEntries {H : Type} : List (Lit × DataW H) → Nat
  | [] => 0
  | x :: r => uptoBulkEntry x + uptoBulkEntries r
def uptoBulkEntry {H : Type} : Lit × DataW H → Nat
  | (.string bytes, d) => bytes.length + uptoBulk d + 1
  | (_, d) => uptoBulk d + 1
 end
def uptoSmall : (H : Type) → List (DataW H) → Bool := fun _ ds => decide (uptoBulkAll ds ≤ 1048576)
def OpenSpec.upto (s : _root_.Go.ChangeSpec) : _root_.Go.OpenSpec := { _root_.Go.OpenSpec.ofChange s with cond := some uptoSmall }

/-- 'jetsamlaw02.SumsTell', WHERE WHAT IT READS IS OF BULK AT MOST 1048576: true; the input reads as it did. -/
def sumsTellUptoRow : OpenClaim := { program := "ytmnnjbamphoghaadoor", sum := "c2762c7447d20804b509d58fb3a5dded56fb151b9c8fed6c7dc5b01097524ab2", func := "jetsam/jetsamlaw02.SumsTell", spec := "sumsTell", unfollowed := true, recurses := true, named := ["jetsam/sums.eight", "jetsam/sums.higher8", "jetsam/sums.lower8", "jetsam/sums.sixteen", "jetsam/sums.higher16", "jetsam/sums.lower16"], apart := false, laid := [("jetsam/sums.eight", laid_jetsam_sums_eight), ("jetsam/sums.sixteen", laid_jetsam_sums_sixteen), ("jetsam/sums.higher8", laid_jetsam_sums_higher8), ("jetsam/sums.lower8", laid_jetsam_sums_lower8), ("jetsam/sums.higher16", laid_jetsam_sums_higher16), ("jetsam/sums.lower16", laid_jetsam_sums_lower16)], narrowed := true }
def SumsTellUptoSaid : Prop := sumsTellUptoRow.holds Tryd.pinned (OpenSpec.upto sumsTellSpec)

/-- 'jetsamlaw02.SumsShift', WHERE WHAT IT READS IS OF BULK AT MOST 1048576: true; the input reads as it did. -/
def sumsShiftUptoRow : OpenClaim := { program := "ytmnnjbamphoghaadoor", sum := "c2762c7447d20804b509d58fb3a5dded56fb151b9c8fed6c7dc5b01097524ab2", func := "jetsam/jetsamlaw02.SumsShift", spec := "sumsShift", unfollowed := true, recurses := true, named := ["jetsam/sums.eight", "jetsam/sums.higher8", "jetsam/sums.lower8", "jetsam/sums.sixteen", "jetsam/sums.higher16", "jetsam/sums.lower16"], apart := false, laid := [("jetsam/sums.eight", laid_jetsam_sums_eight), ("jetsam/sums.sixteen", laid_jetsam_sums_sixteen), ("jetsam/sums.higher8", laid_jetsam_sums_higher8), ("jetsam/sums.lower8", laid_jetsam_sums_lower8), ("jetsam/sums.higher16", laid_jetsam_sums_higher16), ("jetsam/sums.lower16", laid_jetsam_sums_lower16)], narrowed := true }
def SumsShiftUptoSaid : Prop := sumsShiftUptoRow.holds Tryd.pinned (OpenSpec.upto sumsShiftSpec)

/-- 'jetsamlaw02.SumsJoin', WHERE WHAT IT READS IS OF BULK AT MOST 1048576: true; the input reads as it did. -/
def sumsJoinUptoRow : OpenClaim := { program := "ytmnnjbamphoghaadoor", sum := "c2762c7447d20804b509d58fb3a5dded56fb151b9c8fed6c7dc5b01097524ab2", func := "jetsam/jetsamlaw02.SumsJoin", spec := "sumsJoin", unfollowed := true, recurses := true, named := ["jetsam/sums.eight", "jetsam/sums.higher8", "jetsam/sums.lower8", "jetsam/sums.sixteen", "jetsam/sums.higher16", "jetsam/sums.lower16"], apart := false, laid := [("jetsam/sums.eight", laid_jetsam_sums_eight), ("jetsam/sums.sixteen", laid_jetsam_sums_sixteen), ("jetsam/sums.higher8", laid_jetsam_sums_higher8), ("jetsam/sums.lower8", laid_jetsam_sums_lower8), ("jetsam/sums.higher16", laid_jetsam_sums_higher16), ("jetsam/sums.lower16", laid_jetsam_sums_lower16)], narrowed := true }
def SumsJoinUptoSaid : Prop := sumsJoinUptoRow.holds Tryd.pinned (OpenSpec.upto sumsJoinSpec)

/-- 'jetsamlaw02.SumsSee', WHERE WHAT IT READS IS OF BULK AT MOST 1048576: true; the input reads as it did. -/
def sumsSeeUptoRow : OpenClaim := { program := "ytmnnjbamphoghaadoor", sum := "c2762c7447d20804b509d58fb3a5dded56fb151b9c8fed6c7dc5b01097524ab2", func := "jetsam/jetsamlaw02.SumsSee", spec := "sumsSee", unfollowed := true, recurses := true, named := ["jetsam/sums.eight", "jetsam/sums.higher8", "jetsam/sums.lower8", "jetsam/sums.sixteen", "jetsam/sums.higher16", "jetsam/sums.lower16"], apart := false, laid := [("jetsam/sums.eight", laid_jetsam_sums_eight), ("jetsam/sums.sixteen", laid_jetsam_sums_sixteen), ("jetsam/sums.higher8", laid_jetsam_sums_higher8), ("jetsam/sums.lower8", laid_jetsam_sums_lower8), ("jetsam/sums.higher16", laid_jetsam_sums_higher16), ("jetsam/sums.lower16", laid_jetsam_sums_lower16)], narrowed := true }
def SumsSeeUptoSaid : Prop := sumsSeeUptoRow.holds Tryd.pinned (OpenSpec.upto sumsSeeSpec)

/-- 'jetsamlaw02.SumsMeter', WHERE WHAT IT READS IS OF BULK AT MOST 1048576: true; the input reads as it did. -/
def sumsMeterUptoRow : OpenClaim := { program := "ytmnnjbamphoghaadoor", sum := "c2762c7447d20804b509d58fb3a5dded56fb151b9c8fed6c7dc5b01097524ab2", func := "jetsam/jetsamlaw02.SumsMeter", spec := "sumsMeter", inPlace := ["sync/atomic.LoadUint32", "(*internal/sync.Mutex).Lock", "internal/race.Disable", "sync/atomic.CompareAndSwapInt32", "internal/race.Enable", "internal/race.Acquire", "(*internal/sync.Mutex).lockSlow", "internal/sync.runtime_canSpin", "internal/sync.runtime_doSpin", "internal/sync.throw", "internal/sync.runtime_nanotime", "internal/sync.runtime_SemacquireMutex", "sync/atomic.AddInt32", "(*internal/sync.Mutex).Unlock", "internal/race.ReleaseMerge", "(*internal/sync.Mutex).unlockSlow", "internal/sync.fatal", "internal/sync.runtime_Semrelease", "sync/atomic.StoreUint32", "sync/atomic.AddInt64", "sync/atomic.LoadInt64"], unfollowed := true, recurses := true, named := ["jetsam/sums.eight", "jetsam/sums.higher8", "jetsam/sums.lower8", "jetsam/sums.sixteen", "jetsam/sums.higher16", "jetsam/sums.lower16"], apart := false, laid := [("jetsam/sums.eight", laid_jetsam_sums_eight), ("jetsam/sums.sixteen", laid_jetsam_sums_sixteen), ("jetsam/sums.higher8", laid_jetsam_sums_higher8), ("jetsam/sums.lower8", laid_jetsam_sums_lower8), ("jetsam/sums.higher16", laid_jetsam_sums_higher16), ("jetsam/sums.lower16", laid_jetsam_sums_lower16)], narrowed := true }
def SumsMeterUptoSaid : Prop := sumsMeterUptoRow.holds Tryd.pinned (OpenSpec.upto sumsMeterSpec)

/-- 'jetsamlaw02.SumsAdd', WHERE WHAT IT READS IS OF BULK AT MOST 1048576: true; the input reads as it did. -/
def sumsAddUptoRow : OpenClaim := { program := "ytmnnjbamphoghaadoor", sum := "c2762c7447d20804b509d58fb3a5dded56fb151b9c8fed6c7dc5b01097524ab2", func := "jetsam/jetsamlaw02.SumsAdd", spec := "sumsAdd", unfollowed := true, recurses := true, named := ["jetsam/sums.eight", "jetsam/sums.higher8", "jetsam/sums.lower8", "jetsam/sums.sixteen", "jetsam/sums.higher16", "jetsam/sums.lower16"], apart := false, laid := [("jetsam/sums.eight", laid_jetsam_sums_eight), ("jetsam/sums.sixteen", laid_jetsam_sums_sixteen), ("jetsam/sums.higher8", laid_jetsam_sums_higher8), ("jetsam/sums.lower8", laid_jetsam_sums_lower8), ("jetsam/sums.higher16", laid_jetsam_sums_higher16), ("jetsam/sums.lower16", laid_jetsam_sums_lower16)], narrowed := true }
def SumsAddUptoSaid : Prop := sumsAddUptoRow.holds Tryd.pinned (OpenSpec.upto sumsAddSpec)

end Rows
end Go.Proofs.YtmnnjbamphoghaaDoor
