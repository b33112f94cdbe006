/-
  readParting.
-/
import Derived.Test.YteklfkpeaadinaaGreatDoorPCG06
namespace Go.Proofs.YteklfkpeaadinaaGreatDoor
open Go.RowKit

abbrev plan0 : Value := .agg #[iv 0, iv 0, .slice none 0 0, .slice none 0 0]
theorem plan_put {u : World} {N : Nat} {x0 x1 x2 x3 : Value} (b : Box u N 26 #[x0, x1, x2, x3]) (y0 y1 y2 y3 : Value) :
    Box ((((u.setCell ⟨N, 0, none⟩ y0).setCell ⟨N, 1, none⟩ y1).setCell ⟨N, 2, none⟩ y2).setCell ⟨N, 3, none⟩ y3) N 26 #[y0, y1, y2, y3] :=
  (((b.put 0 y0).put 1 y1).put 2 y2).put 3 y3
theorem plan_only {F : Nat → Prop} {w u : World} {N : Nat} (ho : Only F w u) (hN : F N ∨ w.heap.size ≤ N) (y0 y1 y2 y3 : Value) :
    Only F w ((((u.setCell ⟨N, 0, none⟩ y0).setCell ⟨N, 1, none⟩ y1).setCell ⟨N, 2, none⟩ y2).setCell ⟨N, 3, none⟩ y3) :=
  (((ho.setCell (p := ⟨N, 0, none⟩) hN y0).setCell (p := ⟨N, 1, none⟩) hN y1).setCell (p := ⟨N, 2, none⟩) hN y2).setCell (p := ⟨N, 3, none⟩) hN y3
end Go.Proofs.YteklfkpeaadinaaGreatDoor
namespace Go.Proofs.YteklfkpeaadinaaGreatDoor
open Go.RowKit Go.Shelf
attribute [local go_sem] Oper.semAt_some
end Go.Proofs.YteklfkpeaadinaaGreatDoor
