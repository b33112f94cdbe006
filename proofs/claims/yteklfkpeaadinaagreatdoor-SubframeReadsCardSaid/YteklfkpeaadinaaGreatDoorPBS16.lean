/-
  Structs stored: as a step of a region that draws its order, into a part of a box; a call within such a region.
-/
import Derived.Test.YteklfkpeaadinaaGreatDoorPBSH
import Derived.Test.YteklfkpeaadinaaGreatDoorPBG22
import Derived.Laws.CopyRow
import Derived.Deep.RegionLaw
namespace Go.Proofs.YteklfkpeaadinaaGreatDoor.S
open Go.RowKit
open K (linV region_gho andV andV_ne andOne_ne)
theorem step_store_row {P : Program} {ops : Array Oper} {o : Oper} {a : Act} {w : World} {K : Act → World → Prop} {Q : Exit → Act → World → Prop} {E : Prop} (hg : o.guard = none) (ty : TypeId) (p x : Operand) (hop : o.op = Op.store ty p x) (hd : o.dst = none)
    (b : Nat) (t : TypeId) (old cells : Array Value) (hp : a.eval p = .pointer (some ⟨b, 0, none⟩)) (hx : a.eval x = .agg cells) (hB : Box w b t old) (hi : (P.info? ty).map (·.size) = some cells.size) (ho : old.size = cells.size) (h1 : cells.all (·.oneCell') = true)
    (h : ∀ w', Box w' b t cells → Only (Just b) w w' → K a w') : if Region.wanted o (yielded ops a.tmps) = true then Oper.wp P o a w K Q else E := by
  have hw : Region.wanted o (yielded ops a.tmps) = true := by simp [Region.wanted, hg]
  rw [if_pos hw]
  obtain ⟨h2, h3⟩ := box_setRow hB cells
  have hr := run_storeVar_row (P := P) w b t ty old cells hB hi ho h1
  unfold Oper.wp execOp
  simp only [hop, Instr.storeAt, Instr.sureAddr, Sem.run_bind, Sem.run_pure, Result.andThen_ok, hp, hx, hr]
  show K (a.put o.dst undef) _
  rw [hd]
  exact h _ h2 h3
/-- a struct stored into a part of a box -/
theorem wpList_store_part {P : Program} {w : World} {ops : Array Oper} {rest : List Oper} {o : Oper} {a : Act} {Q : Exit → Act → World → Prop} (hg : o.guard = none) (ty : TypeId) (p x : Operand) (hop : o.op = Op.store ty p x) (hd : o.dst = none)
    (b off : Nat) (t : TypeId) (old cells new : Array Value) (hp : a.eval p = .pointer (some ⟨b, off, none⟩)) (hx : a.eval x = .agg cells) (hB : Box w b t old) (hi : (P.info? ty).map (·.size) = some cells.size) (ho : off + cells.toList.length ≤ old.size) (h1 : cells.all (·.oneCell') = true)
    (hnew : (old.toList.take off ++ cells.toList ++ old.toList.drop (off + cells.toList.length)).toArray = new)
    (h : ∀ w', Box w' b t new → Only (Just b) w w' → wpList P ops Q rest a w') : wpList P ops Q (o :: rest) a w := by
  refine wpList_plain hg fun K hK => ?_
  obtain ⟨h2, h3⟩ := box_setRow hB new
  have hr : (storeVar ty ⟨b, off, none⟩ (.agg cells)).run P w = .ok () (w.setRow b new) := by
    have := run_storeCells_at (P := P) b off t cells.toList 0 old w hB (by simpa using ho) (fun v hv => (Array.all_eq_true_iff_forall_mem.1 h1) v (by simpa using hv))
    rw [Nat.add_zero, hnew] at this
    cases hq : P.info? ty with
    | none => simp [hq] at hi
    | some i =>
      have hs : cells.size = i.size := by simp [hq] at hi; omega
      simpa [storeVar, sizeOf, typeInfo, hq, Value.cells, hs] using this
  unfold Oper.wp execOp
  simp only [hop, Instr.storeAt, Instr.sureAddr, Sem.run_bind, Sem.run_pure, Result.andThen_ok, hp, hx, hr]
  have := hK (a.put o.dst undef) (w.setRow b new) (by rw [hd]; exact h _ h2 h3)
  exact this
/-- a function is asked within a region that draws its order (operation 5): a slice so long, and an error, that are known ahead -/
structure AskW (W0 : World) (m : Nat) (E : Int) (G : Option Addr → Nat → World → Prop) (L : Nat → Bool) (vs : Nat → Value) (u : World) : Prop where
  low : L 5 = false → Only Nix W0 u
  got : L 5 = true → ∃ A c, vs 5 = .tuple #[.slice A m c, iv E] ∧ G A c u ∧ (L 6 = true → vs 6 = .tuple #[.slice A m c, iv E]) ∧ (L 7 = true → vs 7 = .slice A m c) ∧ (L 8 = true → vs 8 = iv E) ∧ (L 9 = true → vs 9 = .slice A m c) ∧ (L 10 = true → vs 10 = iv E)
section
variable {W0 u u' : World} {m : Nat} {E : Int} {G : Option Addr → Nat → World → Prop} {L : Nat → Bool} {vs : Nat → Value} {i : Nat} {x : Value}
theorem AskW.lo (h : AskW W0 m E G L vs u) (hL : L 5 = false) (hi : i < 5) (ho : Only Nix u u') : AskW W0 m E G (andOne L i) (andV vs i x) u' :=
  ⟨fun _ => (h.low hL).trans ho, fun e => by rw [andOne_ne (by omega), hL] at e; cases e⟩
theorem AskW.ask (h6 : L 6 = false) (h7 : L 7 = false) (h8 : L 8 = false) (h9 : L 9 = false) (h10 : L 10 = false) (A : Option Addr) (c : Nat) (hx : x = .tuple #[.slice A m c, iv E]) (hG : G A c u') : AskW W0 m E G (andOne L 5) (andV vs 5 x) u' := by
  refine ⟨fun e => by simp [andOne] at e, fun _ => ⟨A, c, by simp [andV, hx], hG, ?_, ?_, ?_, ?_, ?_⟩⟩
  · intro e; rw [andOne_ne (by decide), h6] at e; cases e
  · intro e; rw [andOne_ne (by decide), h7] at e; cases e
  · intro e; rw [andOne_ne (by decide), h8] at e; cases e
  · intro e; rw [andOne_ne (by decide), h9] at e; cases e
  · intro e; rw [andOne_ne (by decide), h10] at e; cases e
theorem AskW.s6 (h : AskW W0 m E G L vs u) (hx : x = vs 5) : AskW W0 m E G (andOne L 6) (andV vs 6 x) u :=
  ⟨fun e => h.low (by rwa [andOne_ne (by decide)] at e), fun e => by
    rw [andOne_ne (by decide)] at e
    obtain ⟨A, c, g5, hG, g6, g7, g8, g9, g10⟩ := h.got e
    refine ⟨A, c, by rw [andV_ne (by decide)]; exact g5, hG, fun _ => by simp [andV, hx, g5], fun e2 => ?_, fun e2 => ?_, fun e2 => ?_, fun e2 => ?_⟩ <;> rw [andOne_ne (by decide)] at e2 <;> rw [andV_ne (by decide)]
    · exact g7 e2
    · exact g8 e2
    · exact g9 e2
    · exact g10 e2⟩
theorem AskW.s7 (h : AskW W0 m E G L vs u) (hx : ∀ A c, vs 5 = .tuple #[.slice A m c, iv E] → x = .slice A m c) : AskW W0 m E G (andOne L 7) (andV vs 7 x) u :=
  ⟨fun e => h.low (by rwa [andOne_ne (by decide)] at e), fun e => by
    rw [andOne_ne (by decide)] at e
    obtain ⟨A, c, g5, hG, g6, g7, g8, g9, g10⟩ := h.got e
    refine ⟨A, c, by rw [andV_ne (by decide)]; exact g5, hG, fun e2 => ?_, fun _ => by simp [andV, hx A c g5], fun e2 => ?_, fun e2 => ?_, fun e2 => ?_⟩ <;> rw [andOne_ne (by decide)] at e2 <;> rw [andV_ne (by decide)]
    · exact g6 e2
    · exact g8 e2
    · exact g9 e2
    · exact g10 e2⟩
theorem AskW.s8 (h : AskW W0 m E G L vs u) (hx : x = iv E) : AskW W0 m E G (andOne L 8) (andV vs 8 x) u :=
  ⟨fun e => h.low (by rwa [andOne_ne (by decide)] at e), fun e => by
    rw [andOne_ne (by decide)] at e
    obtain ⟨A, c, g5, hG, g6, g7, g8, g9, g10⟩ := h.got e
    refine ⟨A, c, by rw [andV_ne (by decide)]; exact g5, hG, fun e2 => ?_, fun e2 => ?_, fun _ => by simp [andV, hx], fun e2 => ?_, fun e2 => ?_⟩ <;> rw [andOne_ne (by decide)] at e2 <;> rw [andV_ne (by decide)]
    · exact g6 e2
    · exact g7 e2
    · exact g9 e2
    · exact g10 e2⟩
theorem AskW.s9 (h : AskW W0 m E G L vs u) (hx : ∀ A c, vs 5 = .tuple #[.slice A m c, iv E] → x = .slice A m c) : AskW W0 m E G (andOne L 9) (andV vs 9 x) u :=
  ⟨fun e => h.low (by rwa [andOne_ne (by decide)] at e), fun e => by
    rw [andOne_ne (by decide)] at e
    obtain ⟨A, c, g5, hG, g6, g7, g8, g9, g10⟩ := h.got e
    refine ⟨A, c, by rw [andV_ne (by decide)]; exact g5, hG, fun e2 => ?_, fun e2 => ?_, fun e2 => ?_, fun _ => by simp [andV, hx A c g5], fun e2 => ?_⟩ <;> rw [andOne_ne (by decide)] at e2 <;> rw [andV_ne (by decide)]
    · exact g6 e2
    · exact g7 e2
    · exact g8 e2
    · exact g10 e2⟩
theorem AskW.s10 (h : AskW W0 m E G L vs u) (hx : x = iv E) : AskW W0 m E G (andOne L 10) (andV vs 10 x) u :=
  ⟨fun e => h.low (by rwa [andOne_ne (by decide)] at e), fun e => by
    rw [andOne_ne (by decide)] at e
    obtain ⟨A, c, g5, hG, g6, g7, g8, g9, g10⟩ := h.got e
    refine ⟨A, c, by rw [andV_ne (by decide)]; exact g5, hG, fun e2 => ?_, fun e2 => ?_, fun e2 => ?_, fun e2 => ?_, fun _ => by simp [andV, hx]⟩ <;> rw [andOne_ne (by decide)] at e2 <;> rw [andV_ne (by decide)]
    · exact g6 e2
    · exact g7 e2
    · exact g8 e2
    · exact g9 e2⟩
end
end Go.Proofs.YteklfkpeaadinaaGreatDoor.S
