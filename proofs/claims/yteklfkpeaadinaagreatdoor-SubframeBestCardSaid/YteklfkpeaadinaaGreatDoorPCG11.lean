/-
  The document's answer: Bits of a block.
-/
import Derived.Test.YteklfkpeaadinaaGreatDoorPCG10
import Derived.Deep.RegionHeld3
namespace Go.Proofs.YteklfkpeaadinaaGreatDoor
open Go.RowKit Go.Joins

end Go.Proofs.YteklfkpeaadinaaGreatDoor
namespace Go.Proofs.YteklfkpeaadinaaGreatDoor
open Go.RowKit Go.Joins

set_option maxHeartbeats 1000000 in
theorem plain_any (w : World) (m o : Int) (Ap Ab : Option Addr) (np cp nb cb : Nat) :
    Calls Tryz.prog 53 #[planV m o (.slice Ap np cp) (.slice Ab nb cb)] w fun e w' => e = .returned (planV m o (.slice Ap np cp) (.slice Ab nb cb)) ∧ Only Nix w w' := by
  have HO := Lib.hid ((Only.refl Nix w).alloc (.cells #[iv m, iv o, .slice Ap np cp, .slice Ab nb cb] 26))
  have B0 := Box.new w 26 #[iv m, iv o, .slice Ap np cp, .slice Ab nb cb]
  have d0 := B0.cell 0
  have d1 := B0.cell 1
  have d2 := B0.cell 2
  have d3 := B0.cell 3
  simp only [List.getElem?_toArray, List.getElem?_cons_zero, List.getElem?_cons_succ] at d0 d1 d2 d3
  clear B0
  go_enter Tryz.func53, Tryz.ntmps53
  have HO2 := Lib.hid (HO.out.alloc (.cells #[iv m, iv o, .slice Ap np cp, .slice Ab nb cb] 54))
  go_wp2
  have B2 := Box.new (w.alloc (.cells #[iv m, iv o, .slice Ap np cp, .slice Ab nb cb] 26)) 54 #[iv m, iv o, .slice Ap np cp, .slice Ab nb cb]
  rw [World.size_alloc] at B2
  refine bodyPost_ret ?_ rfl ⟨rfl, HO2.out⟩
  have y0 := B2.cell 0
  have y1 := B2.cell 1
  have y2 := B2.cell 2
  have y3 := B2.cell 3
  simp only [List.getElem?_toArray, List.getElem?_cons_zero, List.getElem?_cons_succ] at y0 y1 y2 y3
  generalize (w.alloc (.cells #[iv m, iv o, .slice Ap np cp, .slice Ab nb cb] 26)).alloc (.cells #[iv m, iv o, .slice Ap np cp, .slice Ab nb cb] 54) = W2 at y0 y1 y2 y3 ⊢
  simp [results, Tryz.f53, go_sem, y0, y1, y2, y3]
end Go.Proofs.YteklfkpeaadinaaGreatDoor
