/-
  A region's world where a Reader moves on and a header's cells are stored.
-/
import Derived.Test.YteahiigfclabfaaDoorHE
import Derived.Test.YteahiigfclabfaaDoorHQ
namespace Go.Proofs.YteahiigfclabfaaDoor.H
open Go.RowKit

/-- a whole row stored, as one operation -/
theorem wp_store_row {P : Program} {w : World} {o : Oper} {a : Act} {K : Act → World → Prop} {Q : Exit → Act → World → Prop} (ty : TypeId) (p x : Operand) (hop : o.op = Op.store ty p x)
    (b : Nat) (t : TypeId) (old cells : Array Value) (hp : a.eval p = .pointer (some ⟨b, 0, none⟩)) (hx : a.eval x = .agg cells) (hB : Box w b t old) (hi : (P.info? ty).map (·.size) = some cells.size) (ho : old.size = cells.size) (h1 : cells.all (·.oneCell') = true)
    (h : ∀ w', Box w' b t cells → Only (Just b) w w' → K (a.put o.dst undef) w') : o.wp P a w K Q := by
  obtain ⟨h2, h3⟩ := box_setRow hB cells
  have hr := run_storeVar_row (P := P) w b t ty old cells hB hi ho h1
  unfold Oper.wp execOp
  simp only [hop, Instr.storeAt, Instr.sureAddr, Sem.run_bind, Sem.run_pure, Result.andThen_ok, hp, hx, hr]
  exact h _ h2 h3
/-- two blocks -/
def Two (r b k : Nat) : Prop := k = r ∨ k = b
/-- the Reader's position, the header's cells (c: the operation that stores one), the reader's box -/
structure HS2 (W0 : World) (r : Nat) (bs : List Nat) (ps : List (Nat × Nat)) (p : Nat) (b : Nat) (X X' : Array Value) (c : Nat) (rb : Nat) (C : Array Value) (u0 : World) (L : Nat → Bool) (x : World) : Prop where
  rt : Rt W0 r bs (posL ps p L) x
  bx : Box x b 23 (if L c = true then X' else X)
  br : Box x rb 79 C
  on : Only (Two r b) u0 x
section
variable {W0 u0 x x' : World} {r p b c rb i : Nat} {bs : List Nat} {ps : List (Nat × Nat)} {X X' C : Array Value} {L : Nat → Bool}
theorem HS2.nix (h : HS2 W0 r bs ps p b X X' c rb C u0 L x) (ho : Only Nix x x') : HS2 W0 r bs ps p b X X' c rb C u0 L x' :=
  ⟨h.rt.nix ho, h.bx.only ho (fun e => e), h.br.only ho (fun e => e), h.on.trans ho.nix⟩
theorem HS2.same (hi : ((c :: ps.map (·.1)).all fun y => i != y) = true) (h : HS2 W0 r bs ps p b X X' c rb C u0 L x) : HS2 W0 r bs ps p b X X' c rb C u0 (andOne L i) x := by
  simp only [List.all_cons, Bool.and_eq_true, bne_iff_ne, List.all_map] at hi
  refine ⟨?_, ?_, h.br, h.on⟩
  · rw [posL_same hi.2]; exact h.rt
  · rw [andOne_ne (fun e => hi.1 e.symm)]; exact h.bx
theorem HS2.out (h : HS2 W0 r bs ps p b X X' c rb C u0 L x) {q : Nat} (hp : posL ps p L = q) : Rt W0 r bs q x := by rw [← hp]; exact h.rt
/-- the Reader has moved on -/
theorem HS2.took (h : HS2 W0 r bs ps p b X X' c rb C u0 L x) {q : Nat} (hr : Rt W0 r bs q x') (ho : Only (Just r) x x') (hq : posL ps p (andOne L i) = q) (hic : c ≠ i) (hb : r ≠ b) (hrb : r ≠ rb) : HS2 W0 r bs ps p b X X' c rb C u0 (andOne L i) x' := by
  refine ⟨by rw [hq]; exact hr, ?_, h.br.only ho (fun e => hrb e.symm), h.on.trans (ho.mono fun k e => .inl e)⟩
  rw [andOne_ne hic]
  exact h.bx.only ho (fun e => hb e.symm)
/-- a field is stored -/
theorem HS2.put (h : HS2 W0 r bs ps p b X X' c rb C u0 L x) (hL : L c = false) (k : Nat) (v : Value) (hX : X.setIfInBounds k v = X') (hb : r < b) (hrb : rb ≠ b) (hps : (ps.all fun y => c != y.1) = true) : HS2 W0 r bs ps p b X X' c rb C u0 (andOne L c) (x.setCell ⟨b, k, none⟩ v) := by
  have hbx := h.bx
  rw [hL] at hbx
  refine ⟨?_, ?_, h.br.off hrb v, h.on.setCell (.inl (.inr rfl)) v⟩
  · rw [posL_same hps]
    exact h.rt.keep ((Only.refl (Just b) x).setCell (p := ⟨b, k, none⟩) (.inl rfl) v) (fun k e => by rw [show k = b from e]; exact hb)
  · rw [andOne_self, if_pos rfl, ← hX]
    exact hbx.put k v
/-- a whole row is stored -/
theorem HS2.row (h : HS2 W0 r bs ps p b X X' c rb C u0 L x) (_hL : L c = false) (hw : Box x' b 23 X') (ho : Only (Just b) x x') (hb : r < b) (hrb : rb ≠ b) (hps : (ps.all fun y => c != y.1) = true) : HS2 W0 r bs ps p b X X' c rb C u0 (andOne L c) x' := by
  refine ⟨?_, ?_, h.br.only ho (fun e => hrb e), h.on.trans (ho.mono fun k e => .inr e)⟩
  · rw [posL_same hps]
    exact h.rt.keep ho (fun k e => by rw [show k = b from e]; exact hb)
  · rw [andOne_self, if_pos rfl]
    exact hw
end
/-- a slice of one slice, in a block that is neither -/
def LsN (r b : Nat) (A : Option Addr) (n c : Nat) (v : Value) (x : World) : Prop := ∃ g, v = .slice (some ⟨g, 0, none⟩) 1 1 ∧ g ≠ r ∧ g ≠ b ∧ x.cell? ⟨g, 0, none⟩ = some (.slice A n c)
theorem LsN.only {r b : Nat} {A : Option Addr} {n c : Nat} {v : Value} {x x' : World} (h : LsN r b A n c v x) (ho : Only (Two r b) x x') : LsN r b A n c v x' := by
  obtain ⟨g, e, h1, h2, h3⟩ := h
  exact ⟨g, e, h1, h2, U.cell_only ho h3 (fun k => by rcases k with k | k; exact h1 k; exact h2 k)⟩
theorem LsN.lists {r b : Nat} {A : Option Addr} {n c : Nat} {v : Value} {x : World} {bs : List Nat} (h : LsN r b A n c v x) (hs : U.Src x (.slice A n c) bs) : U.Lists x v [bs] := by
  obtain ⟨g, rfl, _, _, h3⟩ := h
  refine U.Lists.of_cells (vs := [.slice A n c]) rfl rfl (by simp) (fun j hj => ?_) (fun j hj => ?_)
  · match j, hj with
    | 0, _ => simpa using h3
  · match j, hj with
    | 0, _ => exact hs
end Go.Proofs.YteahiigfclabfaaDoor.H
