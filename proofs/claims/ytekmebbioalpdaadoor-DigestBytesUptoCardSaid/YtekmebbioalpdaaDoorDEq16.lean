/-
  Two arrays of sixteen bytes are the same.
-/
import Derived.Test.YtekmebbioalpdaaDoorDSrc
import Derived.Laws.StructEq
namespace Go.Proofs.YtekmebbioalpdaaDoor
open Go.RowKit

theorem Tryd.size_byte' : (Tryd.prog.info? 5).map (·.size) = some 1 := by kernel_rfl
theorem run_size_byte (w : World) : (sizeOf 5).run Tryd.prog w = .ok 1 w := by
  have h := Tryd.size_byte'
  cases hq : Tryd.prog.info? 5 with
  | none => simp [hq] at h
  | some i =>
    have hs : i.size = 1 := by simpa [hq] using h
    simp [sizeOf, typeInfo, hq, hs]
theorem run_part_byte (cs : List Value) (i : Nat) (v : Value) (h : cs[i]? = some v) (w : World) : (part 5 cs.toArray i).run Tryd.prog w = .ok v w := by
  have hagg : (isAgg 5).run Tryd.prog w = .ok false w := by
    unfold isAgg
    rw [Sem.run_bind, run_underlying Tryd.underlying5 w]
    rfl
  simp [part, hagg, h]
theorem run_eq_byte (d : Nat) (x : Nat) (w : World) : (Op.equalIn (d + 1) 5 (byt x) (byt x)).run Tryd.prog w = .ok true w := by
  unfold byt
  rw [run_equalIn_int w d 5 .u8 .u8 _ _ Tryd.underlying5]
  simp
theorem run_equalIn_16 (d : Nat) (L : List Nat) (hl : L.length = 16) (w : World) :
    (Op.equalIn (d + 1 + 1) 24 (.agg (L.map byt).toArray) (.agg (L.map byt).toArray)).run Tryd.prog w = .ok true w := by
  have hp : ∀ i x, L[i]? = some x → ∀ w, (part 5 (L.map byt).toArray i).run Tryd.prog w = .ok (byt x) w := fun i x hx w => run_part_byte _ i _ (by rw [List.getElem?_map, hx]; rfl) w
  have hs := run_size_byte
  unfold Op.equalIn
  simp only [Sem.run_bind, run_underlying Tryd.underlying24, Result.andThen_ok, hs, Nat.mul_one]
  rw [Std.Legacy.Range.forIn_eq_forIn_range']
  have key : ∀ (l : List Nat), (∀ i ∈ l, ∃ x, L[i]? = some x) → ∀ w, (forIn l ((none : Option Bool), ()) (fun i (_ : Option Bool × Unit) => do
      let a ← part 5 (L.map byt).toArray i
      let b ← part 5 (L.map byt).toArray i
      let c ← Op.equalIn (d + 1) 5 a b
      if (!c) = true then pure (ForInStep.done (some false, ())) else pure (ForInStep.yield (none, ()))) : Sem (Option Bool × Unit)).run Tryd.prog w = .ok (none, ()) w := by
    intro l
    induction l with
    | nil => intro _ w; simp
    | cons i l ih =>
      intro hl w
      obtain ⟨x, hx⟩ := hl i (List.mem_cons_self ..)
      rw [List.forIn_cons]
      simp only [Sem.run_bind, hp i x hx, Result.andThen_ok, run_eq_byte, Bool.not_true, Bool.false_eq_true, if_false, Sem.run_pure]
      exact ih (fun j hj => hl j (List.mem_cons_of_mem _ hj)) w
  rw [key _ (fun i hi => ⟨_, List.getElem?_eq_getElem (by
    have := List.mem_range'_1.1 hi
    simp at this
    omega)⟩)]
  rfl
theorem run_eql_16 (L : List Nat) (hl : L.length = 16) (w : World) : (binOp .eql 24 (.agg (L.map byt).toArray) (.agg (L.map byt).toArray)).run Tryd.prog w = .ok (.bool true) w := by
  rw [run_eql_struct, run_equalIn_16 9998 L hl w]
  rfl
theorem run_neq_16 (L : List Nat) (hl : L.length = 16) (w : World) : (binOp .neq 24 (.agg (L.map byt).toArray) (.agg (L.map byt).toArray)).run Tryd.prog w = .ok (.bool false) w := by
  rw [run_neq_struct, run_equalIn_16 9998 L hl w]
  rfl
end Go.Proofs.YtekmebbioalpdaaDoor
