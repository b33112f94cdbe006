/-
  A region that draws its order, walked once in the text's order, over a class of worlds of one's own: what it loads is the same in each of them, and what it calls stays among them.
-/
import Derived.Test.YtpcddacfhmkkbaaMem
namespace Go.Proofs.Ytpcddacfhmkkbaa
open Go.RowKit

/-- a world of the class -/
structure In (G : World → Prop) where
  val : World
  prop : G val

theorem region_class {P : Program} {id : Nat} {Q : Exit → Act → World → Prop} {a : Act} {w : World} {l : List Oper} (G : World → Prop) (hm : P.follows .mixedOrders = true) (hB : Region.lexB .any l.toArray = true) (hG : G w.drew)
    (h : wpQuiet P l.toArray (fun w' => ∃ u : In G, w' = u.val) (fun a' => ∀ w', (∃ u : In G, w' = u.val) → Q .normal a' w') l a) : (Code.region id l.toArray true).wp P Q a w :=
  wp_region_quiet (C := fun w' => ∃ u : In G, w' = u.val) hm hB ⟨⟨w.drew, hG⟩, rfl⟩ (by simpa using h)
/-- a callee that stays in the class -/
theorem class_call {P : Program} {f : FuncId} {args : Array Value} {G : World → Prop} {u : World} {v : Value} (h : Calls P f args u fun e w' => e = .returned v ∧ G w') :
    Calls P f args u fun e w' => e = .returned v ∧ ∃ u : In G, w' = u.val :=
  h.mono fun _ w' hh => ⟨hh.1, ⟨w', hh.2⟩, rfl⟩
end Go.Proofs.Ytpcddacfhmkkbaa
