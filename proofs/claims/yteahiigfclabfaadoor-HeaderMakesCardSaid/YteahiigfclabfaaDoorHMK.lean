/-
  Which header a block has: mathematics, and the walk.
-/
import Derived.Test.YteahiigfclabfaaDoorHU4
import Derived.Test.YteahiigfclabfaaDoorHL0
namespace Go.Proofs.YteahiigfclabfaaDoor.H
open Go.RowKit

theorem fields_rf : Tryd.prog.underlying 26 = some (.struct (Tryd.prog.fieldsOf 26)) := by kernel_rfl
set_option maxRecDepth 100000 in
theorem run_equalIn_rf (h : Hd) (w : World) : (Op.equalIn 10000 26 (.agg (hc h)) (.agg (hc h))).run Tryd.prog w = .ok true w := by
  rw [run_equalIn_struct w 9999 _ _ _ fields_rf (by kernel_rfl)]
  have hf := fields_rf.symm.trans Tryd.underlying26
  injection hf with hf
  injection hf with hf
  rw [hf]
  generalize hd : (9998 : Nat) = d
  rw [show (9999 : Nat) = d + 1 from by omega]
  exact eqf_bool (d := d) (by decide) rfl rfl (eqf_int (by decide) rfl rfl (eqf_int (by decide) rfl rfl (eqf_int (by decide) rfl rfl (eqf_int (by decide) rfl rfl (eqf_int (by decide) rfl rfl (eqf_int (by decide) rfl rfl (eqf_int (by decide) rfl rfl (eqf_int (by decide) rfl rfl eqf_nil)))))))) w
theorem run_eql_rf (h : Hd) (w : World) : (binOp .eql 26 (.agg (hc h)) (.agg (hc h))).run Tryd.prog w = .ok (.bool true) w := by
  rw [run_eql_struct, run_equalIn_rf h w]
  rfl
theorem guard_rf (op : BinOp) (x y : Operand) (xs ys : Array Value) (w : World) : (eqGuard op 26 x y (.agg xs) (.agg ys)).run Tryd.prog w = .ok () w := run_eqGuard_agg w op _ x y xs ys (by kernel_rfl)

theorem chN_is (m : Int) (h0 : 0 ≤ m) (h1 : m ≤ 10) : chN m = if m < 8 then m + 1 else 2 := by
  obtain ⟨k, rfl⟩ : ∃ k : Nat, m = k := ⟨m.toNat, by omega⟩
  have : ∀ k : Nat, k < 11 → chN (k : Nat) = if ((k : Nat) : Int) < 8 then ((k : Nat) : Int) + 1 else 2 := by decide
  exact this k (by omega)
/-- the shortest code is one, and tells what is told -/
theorem sh_tel (T : List Rw) (n : Int) (h0 : telP (rowOf T 0) 0) : telP (rowOf T ((shF T n 16).1 : Nat)) (shF T n 16).2.1 := by
  by_cases h : ∃ k : Nat, k < 16 ∧ telP (rowOf T (k : Nat)) n
  · obtain ⟨k, hk, ht⟩ := h
    obtain ⟨e1, e2, e3, _⟩ := shF_some ht
    rw [e1]
    exact e3
  · rw [shF_none (fun k hk ht => h ⟨k, hk, ht⟩)]
    exact h0
theorem mk_ck (V : Bool) (num blk mo rate dep : Int) (h1 : 1 ≤ blk) (h2 : blk ≤ 65535) (h3 : 0 ≤ mo) (h4 : mo ≤ 10) : ckE (mkH V num blk mo rate dep) = un (decide (mayN V num)) 10 := by
  have tb : telP (rowOf bT ((shF bT blk 16).1 : Nat)) (shF bT blk 16).2.1 := by
    have t7 : telP (rowOf bT 7) blk := (telP_unit (l := 1) (m := 65535) (s := 16) blk).2 (by omega)
    obtain ⟨e1, e2, e3, _⟩ := shF_some t7
    rw [e1]; exact e3
  have tr := sh_tel rT rate (by decide)
  have td := sh_tel dT dep (by decide)
  unfold ckE mkH
  simp only
  rw [(chE_zero mo).2 ⟨h3, h4⟩, decide_eq_true tb.1, decide_eq_true tr.1, decide_eq_true td.1, decide_eq_true tb, decide_eq_true tr, decide_eq_true td]
  simp only [un, Bool.and_self, if_true, fstE]
  split <;> simp_all
theorem makes_ok (V : Bool) (num blk mo rate ch dep : Int) :
    (rmE blk mo rate ch dep ≠ 0 → mkE V num blk mo rate ch dep = rmE blk mo rate ch dep) ∧ (rmE blk mo rate ch dep = 0 → mkE V num blk mo rate ch dep = ckE (rmH V num blk mo rate dep) ∧ rmH V num blk mo rate dep = mkH V num blk mo rate dep) := by
  unfold rmE mkE
  by_cases a : blk < 1 ∨ 65535 < blk ∨ rate < 0 ∨ 1048575 < rate ∨ dep < 4 ∨ 32 < dep
  · rw [if_pos a]
    refine ⟨fun _ => ?_, fun e => by cases e⟩
    by_cases a1 : 1 ≤ blk ∧ blk ≤ 65535
    · have e1 : (decide (1 ≤ blk) && decide (blk ≤ 65535)) = true := by simp [a1.1, a1.2]
      rw [e1]
      by_cases a2 : 0 ≤ rate ∧ rate ≤ 1048575
      · have e2 : (decide (0 ≤ rate) && decide (rate ≤ 1048575)) = true := by simp [a2.1, a2.2]
        have e3 : (decide (4 ≤ dep) && decide (dep ≤ 32)) = false := by simp; omega
        rw [e2, e3]
        rfl
      · have e2 : (decide (0 ≤ rate) && decide (rate ≤ 1048575)) = false := by simp; omega
        rw [e2]
        rfl
    · have e1 : (decide (1 ≤ blk) && decide (blk ≤ 65535)) = false := by simp; omega
      rw [e1]
      rfl
  · rw [if_neg a]
    have e1 : (decide (1 ≤ blk) && decide (blk ≤ 65535)) = true := by simp; omega
    have e2 : (decide (0 ≤ rate) && decide (rate ≤ 1048575)) = true := by simp; omega
    have e3 : (decide (4 ≤ dep) && decide (dep ≤ 32)) = true := by simp; omega
    rw [e1, e2, e3]
    by_cases b : mo < 0 ∨ 10 < mo
    · rw [if_pos b, show chE mo = 13 from if_pos (by omega)]
      exact ⟨fun _ => rfl, fun e => by cases e⟩
    · rw [if_neg b, (chE_zero mo).2 (by omega), chN_is mo (by omega) (by omega)]
      by_cases c : ch = if mo < 8 then mo + 1 else 2
      · rw [if_neg (fun h => h c), decide_eq_true c]
        refine ⟨fun h => absurd rfl h, fun _ => ?_⟩
        have hr : rmH V num blk mo rate dep = mkH V num blk mo rate dep := by
          unfold rmH mkH
          obtain ⟨b1, b2⟩ := block_code blk (by omega) (by omega)
          rw [b1, b2, rate_code rate (by omega)]
          have hd := depth_code dep.toNat (by omega) (by omega)
          rw [Int.toNat_of_nonneg (by omega)] at hd
          rw [hd]
        rw [hr, mk_ck V num blk mo rate dep (by omega) (by omega) (by omega) (by omega)]
        refine ⟨?_, rfl⟩
        simp only [un, if_true, fstE]
        split <;> simp_all
      · rw [if_pos c, decide_eq_false c]
        exact ⟨fun _ => rfl, fun e => by cases e⟩
end Go.Proofs.YteahiigfclabfaaDoor.H
