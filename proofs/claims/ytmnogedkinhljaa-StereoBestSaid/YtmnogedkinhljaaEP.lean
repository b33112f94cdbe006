/-
  Sums of numbers without their signs: plus, less.
-/
import Derived.Test.YtmnogedkinhljaaEJ
import Derived.Laws.Externs
namespace Go.Proofs.Ytmnogedkinhljaa
open Go.RowKit Go.Shelf

/-- a sum -/
abbrev mgV (L : Nat) : Value := .agg #[.int .u64 0, .int .u64 (L : Int)]
theorem add64 (L N : Nat) (h : L + N < 18446744073709551616) (w : World) :
    (callFunc 33 #[.int .u64 (L : Int), .int .u64 (N : Int), .int .u64 0]).run Try.prog w = .ok (.value (.tuple #[.int .u64 ((L : Int) + (N : Int)), .int .u64 0])) w := by
  rw [run_callFunc_extern Try.func33 (by kernel_rfl) (by kernel_rfl) (by kernel_rfl) (e := add64Entry) (by kernel_rfl), run_add64 _ _ _ (by omega) (by omega) (by omega) (by omega)]
  simp only [Result.andThen]
  rw [Int.add_zero, Int.emod_eq_of_lt (by omega) (by omega), Int.ediv_eq_zero_of_lt (by omega) (by omega)]
set_option maxHeartbeats 1000000 in
theorem plus_any (w : World) (L N : Nat) (h : L + N < 9223372036854775808) :
    Calls Try.prog 28 #[mgV L, .int .u64 (N : Int)] w fun e w' => e = .returned (mgV (L + N)) ∧ Only Nix w w' := by
  have h64 := add64 L N (by omega)
  go_enter Try.func28, Try.ntmps28
  go_wp2
  refine bodyPost_ret (v := mgV (L + N)) ?_ rfl ⟨rfl, ((Only.refl Nix w).alloc _).alloc _⟩
  simp [results, Try.f28, go_sem]
set_option maxHeartbeats 1000000 in
theorem less_any (w : World) (L N : Nat) :
    Calls Try.prog 22 #[mgV L, mgV N] w fun e w' => e = .returned (.bool (decide (L < N))) ∧ Only Nix w w' := by
  by_cases h : L < N
  · rw [decide_eq_true h]
    have hi : (L : Int) < (N : Int) := by omega
    go_enter Try.func22, Try.ntmps22
    go_wp2
    go_ret
    exact ⟨rfl, ((Only.refl Nix w).alloc _).alloc _⟩
  · rw [decide_eq_false h]
    have hi : ¬ (L : Int) < (N : Int) := by omega
    go_enter Try.func22, Try.ntmps22
    go_wp2
    go_ret
    exact ⟨rfl, ((Only.refl Nix w).alloc _).alloc _⟩
end Go.Proofs.Ytmnogedkinhljaa
