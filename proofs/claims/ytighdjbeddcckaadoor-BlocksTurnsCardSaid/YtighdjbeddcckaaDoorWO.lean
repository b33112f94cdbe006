/-
  The door's world: what start-up lays is met.
-/
import Derived.Test.YtighdjbeddcckaaDoorWJ
import Derived.Test.YtighdjbeddcckaaDoorVOB
import Derived.Test.YtighdjbeddcckaaDoorCards
import Derived.ProofKit
import Derived.OpenShut
import Derived.LaidMore
import Derived.Lay
import Derived.LaidHandle
import Derived.Lib.LaidTab
import Derived.Lib.SmallJoins
import Derived.SizedLaws
import Derived.SevenTiedAt
import Derived.Test.YtighdjbeddcckaaDoorTie
namespace Go.Proofs.YtighdjbeddcckaaDoor
open Go.ChangeShapes Go.WideShapes Go.ChangeAt Go.RowKit Go.Joins

abbrev laid12 : List (String × DataW Unit) := Rows.blocksTurnsRow.laid
end Go.Proofs.YtighdjbeddcckaaDoor
