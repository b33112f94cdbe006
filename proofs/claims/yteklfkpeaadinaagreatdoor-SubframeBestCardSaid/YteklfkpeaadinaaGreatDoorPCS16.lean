/-
  Structs stored: as a step of a region that draws its order, into a part of a box; a call within such a region.
-/
import Derived.Test.YteklfkpeaadinaaGreatDoorPCSH
import Derived.Test.YteklfkpeaadinaaGreatDoorPCG22
import Derived.Laws.CopyRow
import Derived.Deep.RegionLaw
namespace Go.Proofs.YteklfkpeaadinaaGreatDoor.S
open Go.RowKit
open K (linV region_gho andV andV_ne andOne_ne)
theorem step_store_row {P : Program} {ops : Array Oper} {o : Oper} {a : Act} {w : World} {K : Act → World → Prop} {Q : Exit → Act → World → Prop} {E : Prop} (hg : o.guard = none) (ty : TypeId) (p x : Operand) (hop : o.op = Op.store ty p x) (hd : o.dst = none)
    (b : Nat) (t : TypeId) (old cells : Array Value) (hp : a.eval p = .pointer (some ⟨b, 0, none⟩)) (hx : a.eval x = .agg cells) (hB : Box w b t old) (hi : (P.info? ty).map (·.size) = some cells.size) (ho : old.size = cells.size) (h1 : cells.all (·.oneCell') = true)
    (h : ∀ w', Box w' b t cells → Only (Just b) w w' → K a w') : if Region.wanted o (yielded ops a.tmps) = true then Oper.wp P o a w K Q else E := by
  have hw : Region.wanted o (yielded ops a.tmps) = true := by simp [Region.wanted, hg]
  rw [if_pos hw]
  obtain ⟨h2, h3⟩ := box_setRow hB cells
  have hr := run_storeVar_row (P := P) w b t ty old cells hB hi ho h1
  unfold Oper.wp execOp
  simp only [hop, Instr.storeAt, Instr.sureAddr, Sem.run_bind, Sem.run_pure, Result.andThen_ok, hp, hx, hr]
  show K (a.put o.dst undef) _
  rw [hd]
  exact h _ h2 h3
/-- a struct stored into a part of a box -/
theorem wpList_store_part {P : Program} {w : World} {ops : Array Oper} {rest : List Oper} {o : Oper} {a : Act} {Q : Exit → Act → World → Prop} (hg : o.guard = none) (ty : TypeId) (p x : Operand) (hop : o.op = Op.store ty p x) (hd : o.dst = none)
    (b off : Nat) (t : TypeId) (old cells new : Array Value) (hp : a.eval p = .pointer (some ⟨b, off, none⟩)) (hx : a.eval x = .agg cells) (hB : Box w b t old) (hi : (P.info? ty).map (·.size) = some cells.size) (ho : off + cells.toList.length ≤ old.size) (h1 : cells.all (·.oneCell') = true)
    (hnew : (old.toList.take off ++ cells.toList ++ old.toList.drop (off + cells.toList.length)).toArray = new)
    (h : ∀ w', Box w' b t new → Only (Just b) w w' → wpList P ops Q rest a w') : wpList P ops Q (o :: rest) a w := by
  refine wpList_plain hg fun K hK => ?_
  obtain ⟨h2, h3⟩ := box_setRow hB new
  have hr : (storeVar ty ⟨b, off, none⟩ (.agg cells)).run P w = .ok () (w.setRow b new) := by
    have := run_storeCells_at (P := P) b off t cells.toList 0 old w hB (by simpa using ho) (fun v hv => (Array.all_eq_true_iff_forall_mem.1 h1) v (by simpa using hv))
    rw [Nat.add_zero, hnew] at this
    cases hq : P.info? ty with
    | none => simp [hq] at hi
    | some i =>
      have hs : cells.size = i.size := by simp [hq] at hi; omega
      simpa [storeVar, sizeOf, typeInfo, hq, Value.cells, hs] using this
  unfold Oper.wp execOp
  simp only [hop, Instr.storeAt, Instr.sureAddr, Sem.run_bind, Sem.run_pure, Result.andThen_ok, hp, hx, hr]
  have := hK (a.put o.dst undef) (w.setRow b new) (by rw [hd]; exact h _ h2 h3)
  exact this
end Go.Proofs.YteklfkpeaadinaaGreatDoor.S
