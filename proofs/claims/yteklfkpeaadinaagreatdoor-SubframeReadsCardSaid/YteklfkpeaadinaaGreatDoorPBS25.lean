/-
  SubframeBack's own: long.
-/
import Derived.Test.YteklfkpeaadinaaGreatDoorPBS24
import Derived.Test.YteklfkpeaadinaaGreatDoorPBG19
namespace Go.Proofs.YteklfkpeaadinaaGreatDoor.S
open Go.RowKit Go.Shelf
open K (linV fx)
theorem Tryz.size_rlin : (Tryz.prog.info? 53).map (·.size) = some 3 := by kernel_rfl
end Go.Proofs.YteklfkpeaadinaaGreatDoor.S
