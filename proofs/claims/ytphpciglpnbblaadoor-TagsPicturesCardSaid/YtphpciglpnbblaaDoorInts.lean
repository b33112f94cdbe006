/-
  Plain laws on Go's int operations in the walk's spelling.
-/
import Derived.WalkKit
import Derived.Laws.BitsLemmas
import Derived.Laws.BitsAllLaws
namespace Go.Proofs.YtphpciglpnbblaaDoor
open Go.RowKit

theorem w64 (n : Int) (h0 : -9223372036854775808 ≤ n) (h1 : n ≤ 9223372036854775807) : wrap64 n = n := by unfold wrap64; omega
theorem pow_cast (m : Nat) : (2 : Int) ^ m = ((2 ^ m : Nat) : Int) := by norm_cast
theorem pow_le_of {m M : Nat} (h : m ≤ M) : 2 ^ m ≤ 2 ^ M := Nat.pow_le_pow_right (by decide) h
theorem wraps_i64 (n : Int) (h₀ : 0 ≤ n) (h₁ : n < 2 ^ 62) : IntKind.i64.wrap n = n := by rw [IntKind.wrap_i64]; omega
theorem i64_and_nat (a b : Nat) (ha : a < 2 ^ 62) (hb : b < 2 ^ 62) : bits .and .i64 (a : Int) (b : Int) = ((a &&& b : Nat) : Int) := (bits_nat .i64 62 (by decide) wraps_i64 a b ha hb).1
theorem i64_or_nat (a b : Nat) (ha : a < 2 ^ 62) (hb : b < 2 ^ 62) : bits .or .i64 (a : Int) (b : Int) = ((a ||| b : Nat) : Int) := (bits_nat .i64 62 (by decide) wraps_i64 a b ha hb).2
theorem w64_pow (m : Nat) (hm : m ≤ 61) : wrap64 ((2 : Int) ^ m) = ((2 ^ m : Nat) : Int) := by
  have h := pow_le_of hm
  rw [pow_cast]; generalize 2 ^ m = P at *; exact w64 _ (by omega) (by omega)
theorem w64_mask (m : Nat) (hm : m ≤ 61) : wrap64 (wrap64 ((2 : Int) ^ m) - 1) = ((2 ^ m - 1 : Nat) : Int) := by
  have h := pow_le_of hm
  have h0 : 0 < 2 ^ m := Nat.two_pow_pos m
  rw [w64_pow m hm]; generalize 2 ^ m = P at *; rw [w64 _ (by omega) (by omega)]
  omega
theorem i64_mask (a m : Nat) (ha : a < 2 ^ 62) (hm : m ≤ 61) : bits .and .i64 (a : Int) (wrap64 (wrap64 ((2 : Int) ^ m) - 1)) = ((a % 2 ^ m : Nat) : Int) := by
  have h := pow_le_of hm
  rw [w64_mask m hm, i64_and_nat a _ ha (by omega), Nat.and_two_pow_sub_one_eq_mod]
theorem i64_join (a y m : Nat) (ha : a < 2 ^ 62) (hy : y < 2 ^ m) (hy2 : y < 2 ^ 62) (hd : a % 2 ^ m = 0) : bits .or .i64 (a : Int) (y : Int) = ((a + y : Nat) : Int) := by
  rw [i64_or_nat a y ha hy2, nat_join m a y hd hy]

/-- one step of reading a number: m bits more, which stand b bits ahead of their byte's end -/
theorem read_step (V x m b : Nat) (hV : V < 281474976710656) (hx : x < 256) (hm : m ≤ 8) :
    bits .or .i64 (wrap64 ((V : Int) * 2 ^ m)) (bits .and .i64 ((x : Int) / 2 ^ b) (wrap64 (wrap64 ((2 : Int) ^ m) - 1))) = ((V * 2 ^ m + x / 2 ^ b % 2 ^ m : Nat) : Int) := by
  have h := pow_le_of hm
  have h0 : 0 < 2 ^ m := Nat.two_pow_pos m
  have hV2 : V * 2 ^ m ≤ 281474976710656 * 2 ^ 8 := Nat.mul_le_mul (by omega) h
  have hxb : x / 2 ^ b ≤ x := Nat.div_le_self _ _
  have e1 : wrap64 ((V : Int) * 2 ^ m) = ((V * 2 ^ m : Nat) : Int) := by
    rw [pow_cast, ← Int.natCast_mul]; generalize V * 2 ^ m = P at *; exact w64 _ (by omega) (by omega)
  have e2 : (x : Int) / 2 ^ b = ((x / 2 ^ b : Nat) : Int) := by rw [pow_cast, ← Int.natCast_ediv]
  have hl : x / 2 ^ b % 2 ^ m < 2 ^ m := Nat.mod_lt _ h0
  rw [e1, e2, i64_mask _ m (by omega) (by omega), i64_join _ _ m (by omega) hl (by omega) (Nat.mul_mod_left _ _)]
end Go.Proofs.YtphpciglpnbblaaDoor
