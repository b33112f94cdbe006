/-
  Two headers that are the same.
-/
import Derived.Test.YteahiigfclabfaaDoorHQ
import Derived.Laws.StructEq
namespace Go.Proofs.YteahiigfclabfaaDoor.H
open Go.RowKit

theorem part_hd {t : TypeId} {xs : Array Value} {i : Nat} {v : Value} (h : xs[i]? = some v) (ht : ∀ w, (isAgg t).run Tryd.prog w = .ok false w) (w : World) : (part t xs i).run Tryd.prog w = .ok v w := by
  simp [part, ht, h]
theorem agg_int (w : World) : (isAgg 3).run Tryd.prog w = .ok false w := by
  unfold isAgg
  rw [Sem.run_bind, run_underlying Tryd.underlying3 w]
  rfl
theorem agg_bool (w : World) : (isAgg 4).run Tryd.prog w = .ok false w := by
  unfold isAgg
  rw [Sem.run_bind, run_underlying Tryd.underlying4 w]
  rfl
theorem eqf_int {d : Nat} {xs : Array Value} {n : Int} {f : Field} {fs : List Field} (hn : f.name ≠ "_") (ht : f.type = 3) (hx : xs[f.offset]? = some (iv n)) (hf : ∀ w, (Op.eqFields (d + 1) xs xs fs).run Tryd.prog w = .ok true w) (w : World) :
    (Op.eqFields (d + 1) xs xs (f :: fs)).run Tryd.prog w = .ok true w := by
  simp [Op.eqFields, hn, ht, Sem.run_bind, part_hd hx agg_int, run_equalIn_int _ d 3 .i64 .i64 n n Tryd.underlying3, hf]
theorem eqf_bool {d : Nat} {xs : Array Value} {n : Bool} {f : Field} {fs : List Field} (hn : f.name ≠ "_") (ht : f.type = 4) (hx : xs[f.offset]? = some (.bool n)) (hf : ∀ w, (Op.eqFields (d + 1) xs xs fs).run Tryd.prog w = .ok true w) (w : World) :
    (Op.eqFields (d + 1) xs xs (f :: fs)).run Tryd.prog w = .ok true w := by
  simp [Op.eqFields, hn, ht, Sem.run_bind, part_hd hx agg_bool, run_equalIn_bool' _ d 4 n n Tryd.underlying4, hf]
theorem eqf_nil {d : Nat} {xs : Array Value} (w : World) : (Op.eqFields d xs xs []).run Tryd.prog w = .ok true w := rfl
theorem fields_hd : Tryd.prog.underlying 23 = some (.struct (Tryd.prog.fieldsOf 23)) := by kernel_rfl
set_option maxRecDepth 100000 in
theorem run_equalIn_hd (h : Hd) (w : World) : (Op.equalIn 10000 23 (.agg (hc h)) (.agg (hc h))).run Tryd.prog w = .ok true w := by
  rw [run_equalIn_struct w 9999 _ _ _ fields_hd (by kernel_rfl)]
  have hf := fields_hd.symm.trans Tryd.underlying23
  injection hf with hf
  injection hf with hf
  rw [hf]
  generalize hd : (9998 : Nat) = d
  rw [show (9999 : Nat) = d + 1 from by omega]
  exact eqf_bool (d := d) (by decide) rfl rfl (eqf_int (by decide) rfl rfl (eqf_int (by decide) rfl rfl (eqf_int (by decide) rfl rfl (eqf_int (by decide) rfl rfl (eqf_int (by decide) rfl rfl (eqf_int (by decide) rfl rfl (eqf_int (by decide) rfl rfl (eqf_int (by decide) rfl rfl eqf_nil)))))))) w
theorem run_eql_hd (h : Hd) (w : World) : (binOp .eql 23 (.agg (hc h)) (.agg (hc h))).run Tryd.prog w = .ok (.bool true) w := by
  rw [run_eql_struct, run_equalIn_hd h w]
  rfl
theorem run_neq_hd (h : Hd) (w : World) : (binOp .neq 23 (.agg (hc h)) (.agg (hc h))).run Tryd.prog w = .ok (.bool false) w := by
  rw [run_neq_struct, run_equalIn_hd h w]
  rfl
theorem guard_hd (op : BinOp) (x y : Operand) (xs ys : Array Value) (w : World) : (eqGuard op 23 x y (.agg xs) (.agg ys)).run Tryd.prog w = .ok () w := run_eqGuard_agg w op _ x y xs ys (by kernel_rfl)
end Go.Proofs.YteahiigfclabfaaDoor.H
