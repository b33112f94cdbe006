/-
  A struct stored whole; no plan; a Reader that is embedded.
-/
import Derived.Test.YteklfkpeaadinaaGreatDoorPCS4
import Derived.Laws.Tables
namespace Go.Proofs.YteklfkpeaadinaaGreatDoor.S
open Go.RowKit
open K (linV)
theorem box_setRow {w : World} {b : Nat} {t : TypeId} {cs : Array Value} (h : Box w b t cs) (cs' : Array Value) : Box (w.setRow b cs') b t cs' ∧ Only (Just b) w (w.setRow b cs') :=
  ⟨setRow_heap w b cs cs' t (0, 0) h, ⟨rfl, rfl, rfl, by simp, fun k _ hk => setRow_other w b k cs' hk⟩⟩
theorem wpList_store_row {P : Program} {w : World} {ops : Array Oper} {rest : List Oper} {o : Oper} {a : Act} {Q : Exit → Act → World → Prop} (hg : o.guard = none) (ty : TypeId) (p x : Operand) (hop : o.op = Op.store ty p x) (hd : o.dst = none)
    (b : Nat) (t : TypeId) (old cells : Array Value) (hp : a.eval p = .pointer (some ⟨b, 0, none⟩)) (hx : a.eval x = .agg cells) (hB : Box w b t old) (hi : (P.info? ty).map (·.size) = some cells.size) (ho : old.size = cells.size) (h1 : cells.all (·.oneCell') = true)
    (h : ∀ w', Box w' b t cells → Only (Just b) w w' → wpList P ops Q rest a w') : wpList P ops Q (o :: rest) a w := by
  refine wpList_plain hg fun K hK => ?_
  obtain ⟨h2, h3⟩ := box_setRow hB cells
  have hr := run_storeVar_row (P := P) w b t ty old cells hB hi ho h1
  unfold Oper.wp execOp
  simp only [hop, Instr.storeAt, Instr.sureAddr, Sem.run_bind, Sem.run_pure, Result.andThen_ok, hp, hx, hr]
  have := hK (a.put o.dst undef) (w.setRow b cells) (by rw [hd]; exact h _ h2 h3)
  exact this
theorem Tryz.size_plan : (Tryz.prog.info? 28).map (·.size) = some 10 := by kernel_rfl
theorem only_just {F : Nat → Prop} {w u u' : World} {N : Nat} (h : Only F w u) (ho : Only (Just N) u u') (hN : w.heap.size ≤ N) : Only F w u' := h.then ho (fun i e => .inr (by cases e; exact hN))
/-- no plan -/
abbrev zP : Value := spV 0 0 0 0 0 (.slice none 0 0) 0 0 (.slice none 0 0) (.slice none 0 0)
abbrev zC : Array Value := spC 0 0 0 0 0 (.slice none 0 0) 0 0 (.slice none 0 0) (.slice none 0 0)
theorem spC_one (k o wd lp ls : Int) (Ac : Option Addr) (nc cc : Nat) (m ro : Int) (Ap Ab : Option Addr) (np cp nb cb : Nat) : (spC k o wd lp ls (.slice Ac nc cc) m ro (.slice Ap np cp) (.slice Ab nb cb)).all (·.oneCell') = true := by simp [Value.oneCell']
end Go.Proofs.YteklfkpeaadinaaGreatDoor.S
