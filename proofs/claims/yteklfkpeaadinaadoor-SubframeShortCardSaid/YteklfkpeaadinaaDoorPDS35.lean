/-
  The document's best plan of residuals, and the program's, are the same: plain mathematics.
-/
import Derived.Test.YteklfkpeaadinaaDoorPDG15
import Derived.Test.YteklfkpeaadinaaDoorPDG10
import Derived.Deep.RegionHeld3
import Derived.Deep.AppendLies
import Derived.Test.YteklfkpeaadinaaDoorPDG14
namespace Go.Proofs.YteklfkpeaadinaaDoor
open Go.RowKit Go.Joins

theorem bestE_ok {od : Int} {k : Nat} {l : List Int} (h0 : 0 ≤ od) (h15 : od ≤ 15) (hB : ckB ((l.length : Int) + (k : Int)) k = 0) (hp : ckP 0 (l.length + k) k = 0) : ((∀ x ∈ l, isR x) → bestE od k l = 0) ∧ (¬ (∀ x ∈ l, isR x) → bestE od k l = 10) := by
  have ho : ¬ (od < 0 ∨ 15 < od) := by omega
  have e : bestE od k l = @ite _ (∀ x ∈ l, isR x) (Classical.propDecidable _) 0 10 := by
    unfold bestE
    rw [if_neg ho, hB, Int.toNat_natCast, hp]
    simp
  rw [e]
  exact ⟨fun h => if_pos h, fun h => if_neg h⟩
end Go.Proofs.YteklfkpeaadinaaDoor
