/-
  A region that draws its order, some of whose values are not known ahead: as region_val, each operation shown once; what is not known is told by the invariant.
-/
import Derived.Test.YteklfkpeaadinaaDoorPDG18
namespace Go.Proofs.YteklfkpeaadinaaDoor.K
open Go.RowKit

end Go.Proofs.YteklfkpeaadinaaDoor.K
namespace Go.Proofs.YteklfkpeaadinaaDoor.K
open Go.RowKit

theorem _root_.Go.Proofs.YteklfkpeaadinaaDoor.ISrc.take {w : World} {A : Option Addr} {n c : Nat} {xs : List Int} (h : ISrc w (.slice A n c) xs) (j : Nat) (hj : j ≤ n) : ISrc w (.slice A j c) (xs.take j) := by
  have hl := h.len
  have hc := h.cap
  have hlen : (xs.take j).length = j := by rw [List.length_take]; omega
  refine ⟨⟨A, c, by rw [hlen], by omega, fun i hi => ?_⟩, by have := h.small; omega, fun x hx => h.fits x (List.mem_of_mem_take hx)⟩
  rw [hlen] at hi
  obtain ⟨ad, e, hx⟩ := h.at_ (k := i) (by omega)
  exact ⟨ad, e, by rw [hx]; simp⟩
end Go.Proofs.YteklfkpeaadinaaDoor.K
