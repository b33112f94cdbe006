/-
  The door's world: what start-up lays is met; the two tables of unicode/utf8.
-/
import Derived.Test.YtphpciglpnbblaaDoorTT
import Derived.Test.YtphpciglpnbblaaDoorTOB
import Derived.Test.YtphpciglpnbblaaDoorCards
import Derived.ProofKit
import Derived.OpenShut
import Derived.LaidMore
import Derived.Lay
import Derived.LaidHandle
import Derived.Lib.LaidTab
import Derived.Lib.LaidU8T
import Derived.Lib.SmallJoins
import Derived.SizedLaws
import Derived.SevenTiedAt
import Derived.Test.YtphpciglpnbblaaDoorTie
namespace Go.Proofs.YtphpciglpnbblaaDoor
open Go.ChangeShapes Go.WideShapes Go.ChangeAt Go.RowKit Go.Joins Go.Shelf

abbrev laid13 : List (String × DataW Unit) := Rows.tagsGetsRow.laid
set_option maxRecDepth 100000 in
theorem tabs_of {w : World} (hL : laidMetH Tryd.prog laid13 w) : Tabs w := by
  rw [MakeChecks.laidMetH_plain _ _ _ (by kernel_rfl)] at hL
  exact utf8Tabs_of_readsT (U8Types.of196 Tryd.lays196) ⟨by kernel_rfl, by kernel_rfl, by kernel_rfl, by kernel_rfl, by kernel_rfl, by kernel_rfl, by kernel_rfl⟩ (Lib.laidMet.reads hL (.tail _ (.head _))) (Lib.laidMet.reads hL (.head _))
end Go.Proofs.YtphpciglpnbblaaDoor
