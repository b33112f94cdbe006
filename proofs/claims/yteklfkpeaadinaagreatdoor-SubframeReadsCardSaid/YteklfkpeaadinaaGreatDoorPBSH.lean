/-
  A struct stored whole; no plan; a Reader that is embedded.
-/
import Derived.Test.YteklfkpeaadinaaGreatDoorPBS4
import Derived.Laws.Tables
namespace Go.Proofs.YteklfkpeaadinaaGreatDoor.S
open Go.RowKit
open K (linV)
theorem box_setRow {w : World} {b : Nat} {t : TypeId} {cs : Array Value} (h : Box w b t cs) (cs' : Array Value) : Box (w.setRow b cs') b t cs' ∧ Only (Just b) w (w.setRow b cs') :=
  ⟨setRow_heap w b cs cs' t (0, 0) h, ⟨rfl, rfl, rfl, by simp, fun k _ hk => setRow_other w b k cs' hk⟩⟩
theorem wpList_store_row {P : Program} {w : World} {ops : Array Oper} {rest : List Oper} {o : Oper} {a : Act} {Q : Exit → Act → World → Prop} (hg : o.guard = none) (ty : TypeId) (p x : Operand) (hop : o.op = Op.store ty p x) (hd : o.dst = none)
    (b : Nat) (t : TypeId) (old cells : Array Value) (hp : a.eval p = .pointer (some ⟨b, 0, none⟩)) (hx : a.eval x = .agg cells) (hB : Box w b t old) (hi : (P.info? ty).map (·.size) = some cells.size) (ho : old.size = cells.size) (h1 : cells.all (·.oneCell') = true)
    (h : ∀ w', Box w' b t cells → Only (Just b) w w' → wpList P ops Q rest a w') : wpList P ops Q (o :: rest) a w := by
  refine wpList_plain hg fun K hK => ?_
  obtain ⟨h2, h3⟩ := box_setRow hB cells
  have hr := run_storeVar_row (P := P) w b t ty old cells hB hi ho h1
  unfold Oper.wp execOp
  simp only [hop, Instr.storeAt, Instr.sureAddr, Sem.run_bind, Sem.run_pure, Result.andThen_ok, hp, hx, hr]
  have := hK (a.put o.dst undef) (w.setRow b cells) (by rw [hd]; exact h _ h2 h3)
  exact this
theorem Tryz.size_plan : (Tryz.prog.info? 28).map (·.size) = some 10 := by kernel_rfl
theorem rd_just {u u' : World} {N r : Nat} {v : Value} {bs : List Nat} {a : Nat} {t : TypeId} {cs : Array Value} (hR : Rd u r v bs a) (b : Box u N t cs) (ht : 5 ≠ t) (hr : N ≠ r) (ho : Only (Just N) u u') : Rd u' r v bs a :=
  hR.keep ho (fun e => hr e.symm) (fun q hq e => owns_box hR.own b ht (by rw [hq]; exact congrArg some e))
theorem only_just {F : Nat → Prop} {w u u' : World} {N : Nat} (h : Only F w u) (ho : Only (Just N) u u') (hN : w.heap.size ≤ N) : Only F w u' := h.then ho (fun i e => .inr (by cases e; exact hN))
/-- a struct out of an array by value -/
theorem run_index_row {P : Program} {t e : TypeId} {n i k : Nat} {cs ys : Array Value} {d : TypeDesc} (hu : P.underlying t = some (.array n e)) (he : P.underlying e = some d) (hd : (match d with | .struct _ | .array _ _ => true | _ => false) = true) (hz : (P.info? e).map (·.size) = some k) (z : Int) (hzi : z = (i : Int)) (hi : i < n) (hy : cs.extract (i * k) (i * k + k) = ys) (w : World) :
    (Instr.index t (.agg cs) (.int .i64 z)).run P w = .ok (.agg ys) w := by
  subst hzi
  cases hq : P.info? e with
  | none => simp [hq] at hz
  | some inf =>
    have hs : inf.size = k := by simpa [hq] using hz
    have hagg : (isAgg e).run P w = .ok true w := by
      unfold isAgg
      rw [Sem.run_bind, run_underlying he w]
      cases d <;> simp_all
    have hb : 0 ≤ (i : Int) ∧ (i : Int) < (n : Int) := by omega
    simp [Instr.index, asIntOf, run_underlying hu, hb, part, hagg, sizeOf, typeInfo, hq, hs, go_sem]
    rw [if_pos (by omega)]
    simp [hy, go_sem]
/-- no plan -/
abbrev zP : Value := spV 0 0 0 0 0 (.slice none 0 0) 0 0 (.slice none 0 0) (.slice none 0 0)
abbrev zC : Array Value := spC 0 0 0 0 0 (.slice none 0 0) 0 0 (.slice none 0 0) (.slice none 0 0)
theorem spC_one (k o wd lp ls : Int) (Ac : Option Addr) (nc cc : Nat) (m ro : Int) (Ap Ab : Option Addr) (np cp nb cb : Nat) : (spC k o wd lp ls (.slice Ac nc cc) m ro (.slice Ap np cp) (.slice Ab nb cb)).all (·.oneCell') = true := by simp [Value.oneCell']
/-- a Reader, embedded -/
abbrev rdV (r : Nat) : Value := .agg #[.pointer (some ⟨r, 0, none⟩)]
end Go.Proofs.YteklfkpeaadinaaGreatDoor.S
