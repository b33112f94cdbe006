/-
  SubframeBack's own: Few, Same.
-/
import Derived.Test.YteklfkpeaadinaaGreatDoorPCSH
import Derived.Test.YteklfkpeaadinaaGreatDoorPCS3
import Derived.Test.YteklfkpeaadinaaGreatDoorPCG09
namespace Go.Proofs.YteklfkpeaadinaaGreatDoor.S
open Go.RowKit Go.Shelf

set_option maxRecDepth 100000 in
set_option maxHeartbeats 4000000 in
theorem same7 {w : World} (k o wd lp ls m ro : Int) (Ac Ap Ab Ac' Ap' Ab' : Option Addr) (nc cc np cp nb cb nc' cc' np' cp' nb' cb' : Nat) (cs ps bs : List Int) (h1 : ISrc w (.slice Ac nc cc) cs) (h2 : ISrc w (.slice Ap np cp) ps) (h3 : ISrc w (.slice Ab nb cb) bs) (h4 : ISrc w (.slice Ac' nc' cc') cs) (h5 : ISrc w (.slice Ap' np' cp') ps) (h6 : ISrc w (.slice Ab' nb' cb') bs) :
    Calls Tryz.prog 17 #[spV k o wd lp ls (.slice Ac nc cc) m ro (.slice Ap np cp) (.slice Ab nb cb), spV k o wd lp ls (.slice Ac' nc' cc') m ro (.slice Ap' np' cp') (.slice Ab' nb' cb')] w fun e w' => e = .returned (.bool true) ∧ Only Nix w w' := by
  have a0 := ((Only.refl Nix w).alloc (.cells (spC k o wd lp ls (.slice Ac nc cc) m ro (.slice Ap np cp) (.slice Ab nb cb)) 28)).alloc (.cells (spC k o wd lp ls (.slice Ac' nc' cc') m ro (.slice Ap' np' cp') (.slice Ab' nb' cb')) 28)
  have B0 := (Box.new w 28 (spC k o wd lp ls (.slice Ac nc cc) m ro (.slice Ap np cp) (.slice Ab nb cb))).alloc (.cells (spC k o wd lp ls (.slice Ac' nc' cc') m ro (.slice Ap' np' cp') (.slice Ab' nb' cb')) 28)
  have B1 := Box.new (w.alloc (.cells (spC k o wd lp ls (.slice Ac nc cc) m ro (.slice Ap np cp) (.slice Ab nb cb)) 28)) 28 (spC k o wd lp ls (.slice Ac' nc' cc') m ro (.slice Ap' np' cp') (.slice Ab' nb' cb'))
  rw [World.size_alloc] at B1
  obtain ⟨Wa, hWa⟩ : ∃ Wa, (w.alloc (.cells (spC k o wd lp ls (.slice Ac nc cc) m ro (.slice Ap np cp) (.slice Ab nb cb)) 28)).alloc (.cells (spC k o wd lp ls (.slice Ac' nc' cc') m ro (.slice Ap' np' cp') (.slice Ab' nb' cb')) 28) = Wa := ⟨_, rfl⟩
  rw [hWa] at a0 B0 B1
  have HI := Lib.hid (ints_yes (h1.nix a0) (h4.nix a0))
  have HS : Hid (∀ q, Calls Tryz.prog 45 #[planV m ro (.slice Ap np cp) (.slice Ab nb cb), planV m ro (.slice Ap' np' cp') (.slice Ab' nb' cb')] (Wa.drewN q) fun e w' => e = .returned (.bool true) ∧ Only Nix (Wa.drewN q) w') := Lib.hid (fun q => by
    have oq := a0.drewN q
    exact same_plan m ro Ap Ab Ap' Ab' np np' nb nb' cp cb cp' cb' ps bs (h2.nix oq) (h3.nix oq) (h5.nix oq) (h6.nix oq))
  have d0 := B0.cell 0
  have d1 := B0.cell 1
  have d2 := B0.cell 2
  have d3 := B0.cell 3
  have d4 := B0.cell 4
  have d5 := B0.cell 5
  have d6 := B0.cell 6
  have d7 := B0.cell 7
  have d8 := B0.cell 8
  have d9 := B0.cell 9
  simp only [List.getElem?_toArray, List.getElem?_cons_zero, List.getElem?_cons_succ] at d0 d1 d2 d3 d4 d5 d6 d7 d8 d9
  have f0 := B1.cell 0
  have f1 := B1.cell 1
  have f2 := B1.cell 2
  have f3 := B1.cell 3
  have f4 := B1.cell 4
  have f5 := B1.cell 5
  have f6 := B1.cell 6
  have f7 := B1.cell 7
  have f8 := B1.cell 8
  have f9 := B1.cell 9
  simp only [List.getElem?_toArray, List.getElem?_cons_zero, List.getElem?_cons_succ] at f0 f1 f2 f3 f4 f5 f6 f7 f8 f9
  have HA := Lib.hid a0
  clear a0 B0 B1 h1 h2 h3 h4 h5 h6
  go_enter Tryz.func17, Tryz.ntmps17
  go_wp2_with fail
  refine (HI.out).mono ?_
  rintro e w1 ⟨rfl, q, rfl⟩
  go_wp2_with fail
  refine ((HS.out q)).mono ?_
  rintro e w1 ⟨rfl, o1⟩
  have HO := Lib.hid ((HA.out.drewN q).trans o1)
  go_wp2
  go_ret
  exact ⟨rfl, HO.out⟩
end Go.Proofs.YteklfkpeaadinaaGreatDoor.S
