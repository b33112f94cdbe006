/-
  Structs stored: as a step of a region that draws its order, into a part of a box; a call within such a region.
-/
import Derived.Test.YteklfkpeaadinaaDoorPDSH
import Derived.Test.YteklfkpeaadinaaDoorPDG22
import Derived.Laws.CopyRow
import Derived.Deep.RegionLaw
namespace Go.Proofs.YteklfkpeaadinaaDoor.S
open Go.RowKit
open K (linV)
/-- a struct stored into a part of a box -/
theorem wpList_store_part {P : Program} {w : World} {ops : Array Oper} {rest : List Oper} {o : Oper} {a : Act} {Q : Exit → Act → World → Prop} (hg : o.guard = none) (ty : TypeId) (p x : Operand) (hop : o.op = Op.store ty p x) (hd : o.dst = none)
    (b off : Nat) (t : TypeId) (old cells new : Array Value) (hp : a.eval p = .pointer (some ⟨b, off, none⟩)) (hx : a.eval x = .agg cells) (hB : Box w b t old) (hi : (P.info? ty).map (·.size) = some cells.size) (ho : off + cells.toList.length ≤ old.size) (h1 : cells.all (·.oneCell') = true)
    (hnew : (old.toList.take off ++ cells.toList ++ old.toList.drop (off + cells.toList.length)).toArray = new)
    (h : ∀ w', Box w' b t new → Only (Just b) w w' → wpList P ops Q rest a w') : wpList P ops Q (o :: rest) a w := by
  refine wpList_plain hg fun K hK => ?_
  obtain ⟨h2, h3⟩ := box_setRow hB new
  have hr : (storeVar ty ⟨b, off, none⟩ (.agg cells)).run P w = .ok () (w.setRow b new) := by
    have := run_storeCells_at (P := P) b off t cells.toList 0 old w hB (by simpa using ho) (fun v hv => (Array.all_eq_true_iff_forall_mem.1 h1) v (by simpa using hv))
    rw [Nat.add_zero, hnew] at this
    cases hq : P.info? ty with
    | none => simp [hq] at hi
    | some i =>
      have hs : cells.size = i.size := by simp [hq] at hi; omega
      simpa [storeVar, sizeOf, typeInfo, hq, Value.cells, hs] using this
  unfold Oper.wp execOp
  simp only [hop, Instr.storeAt, Instr.sureAddr, Sem.run_bind, Sem.run_pure, Result.andThen_ok, hp, hx, hr]
  have := hK (a.put o.dst undef) (w.setRow b new) (by rw [hd]; exact h _ h2 h3)
  exact this
end Go.Proofs.YteklfkpeaadinaaDoor.S
