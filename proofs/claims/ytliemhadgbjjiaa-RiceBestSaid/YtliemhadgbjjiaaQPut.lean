/-
  The document's answer for a Writer: Unary, Put.
-/
import Derived.Test.YtliemhadgbjjiaaQBits
namespace Go.Proofs.Ytliemhadgbjjiaa
open Go.RowKit

/-- the slice's own block -/
def RF (v : Value) (k : Nat) : Prop := v.ownBlock = some k
/-- A row of bits of the statement's own. -/
def Bitrow (w : World) (base : Nat) (v : Value) (l : List Nat) : Prop := w.ownsRow base 3 1 v l.length (bv l)
theorem bv_one (b : Nat) : bv [b] = [iv (b : Int)] := rfl
theorem bits_int (x : Int) (k n : Nat) (h : k < n) : bits .and .i64 (x / 2 ^ k) 1 = (((x % 2 ^ n).toNat / 2 ^ k % 2 : Nat) : Int) := by
  have h1 := i64_low (x / 2 ^ k) 1 (by omega)
  have e : wrap64 (wrap64 ((2 : Int) ^ 1) - 1) = 1 := by rw [w64_mask 1 (by omega)]; rfl
  rw [e] at h1
  rw [h1]
  have h2 := int_piece x n k 1 (by omega)
  simpa using h2
theorem bitsN_snoc (n U j : Nat) (hj : j < n) : (bitsN n U).take (j + 1) = (bitsN n U).take j ++ [U / 2 ^ (n - 1 - j) % 2] := by
  have hl := bitsN_len n U
  rw [List.take_succ_eq_append_getElem (by omega)]
  congr 2
  have h1 := bitsN_piece n U j 1 (by omega)
  have h2 : ((bitsN n U).drop j).take 1 = [(bitsN n U)[j]'(by omega)] := by rw [List.drop_eq_getElem_cons (by omega)]; rfl
  rw [h2] at h1
  have h3 := (List.cons.inj h1).1
  rw [h3, show n - j - 1 = n - 1 - j from by omega]; simp

/-- Number of what was told: the number itself just where it is one of n bits -/
theorem refNum_put (n : Nat) (x : Int) : refNum false (bitsN n (x % 2 ^ n).toNat) = x ↔ 0 ≤ x ∧ x < 2 ^ n := by
  unfold refNum
  have hp : 0 < 2 ^ n := Nat.two_pow_pos n
  rw [if_neg (by simp), val_bitsN, pow_cast]
  have h0 : 0 ≤ x % ((2 ^ n : Nat) : Int) := Int.emod_nonneg _ (by omega)
  have h1 : x % ((2 ^ n : Nat) : Int) < ((2 ^ n : Nat) : Int) := Int.emod_lt_of_pos _ (by omega)
  generalize 2 ^ n = P at *
  rw [Nat.mod_eq_of_lt (by omega), Int.toNat_of_nonneg h0]
  constructor
  · intro e; omega
  · rintro ⟨a, b⟩; exact Int.emod_eq_of_lt a b
theorem refNum_sgn (n : Nat) (x : Int) : refNum true (bitsN n (x % 2 ^ n).toNat) = x ↔ isS n x := by
  unfold refNum isS
  rw [if_pos rfl, bitsN_len, val_bitsN]
  rcases Nat.eq_zero_or_pos n with rfl | hp
  · simp [bitsN]; omega
  · obtain ⟨k, rfl⟩ : ∃ k, n = k + 1 := ⟨n - 1, by omega⟩
    rw [if_neg (by omega), Nat.add_sub_cancel]
    have hpk : 0 < 2 ^ k := Nat.two_pow_pos k
    have hhd : (bitsN (k + 1) (x % 2 ^ (k + 1)).toNat).headD 0 = (x % 2 ^ (k + 1)).toNat / 2 ^ k % 2 := rfl
    rw [hhd, pow_cast (k + 1), pow_cast k, Nat.pow_succ]
    have h0 : 0 ≤ x % ((2 ^ k * 2 : Nat) : Int) := Int.emod_nonneg _ (by omega)
    have h1 : x % ((2 ^ k * 2 : Nat) : Int) < ((2 ^ k * 2 : Nat) : Int) := Int.emod_lt_of_pos _ (by omega)
    have h2 := Int.emod_add_mul_ediv x ((2 ^ k * 2 : Nat) : Int)
    generalize x / ((2 ^ k * 2 : Nat) : Int) = t at *
    obtain ⟨U, hU⟩ := Int.eq_ofNat_of_zero_le h0
    rw [hU] at h1 h2 ⊢
    rw [Int.toNat_natCast, Nat.mod_eq_of_lt (by omega)]
    have hq : U / 2 ^ k = 0 ∨ U / 2 ^ k = 1 := by
      rcases Nat.lt_or_ge U (2 ^ k) with h | h
      · exact .inl (Nat.div_eq_of_lt h)
      · exact .inr (Nat.div_eq_of_lt_le (by omega) (by omega))
    have hq2 : (U / 2 ^ k = 0 → U < 2 ^ k) ∧ (U / 2 ^ k = 1 → 2 ^ k ≤ U) := by
      refine ⟨fun e => ?_, fun e => ?_⟩
      · rcases Nat.lt_or_ge U (2 ^ k) with h | h
        · exact h
        · have := Nat.div_pos h hpk; omega
      · rcases Nat.lt_or_ge U (2 ^ k) with h | h
        · have := Nat.div_eq_of_lt h; omega
        · exact h
    generalize U / 2 ^ k = Q at *
    generalize 2 ^ k = P at *
    have ht : ((P * 2 : Nat) : Int) * t = 0 ∨ ((P * 2 : Nat) : Int) * t ≤ -((P * 2 : Nat) : Int) ∨ ((P * 2 : Nat) : Int) ≤ ((P * 2 : Nat) : Int) * t := by
      rcases Int.lt_trichotomy t 0 with h | h | h
      · right; left
        have := Int.mul_le_mul_of_nonneg_left (show t ≤ -1 by omega) (show (0 : Int) ≤ ((P * 2 : Nat) : Int) by omega)
        omega
      · left; rw [h]; simp
      · right; right
        have := Int.mul_le_mul_of_nonneg_left (show 1 ≤ t by omega) (show (0 : Int) ≤ ((P * 2 : Nat) : Int) by omega)
        omega
    have ht1 : t = 0 ∨ t = -1 ∨ t ≤ -2 ∨ 1 ≤ t := by omega
    rcases hq with rfl | rfl
    · have := hq2.1 rfl
      simp
      rcases ht with h | h | h <;> constructor <;> intro g <;> omega
    · have := hq2.2 rfl
      simp
      have ht3 : t = -1 → ((P * 2 : Nat) : Int) * t = -((P * 2 : Nat) : Int) := by intro e; rw [e]; simp
      have ht4 : t ≤ -2 → ((P * 2 : Nat) : Int) * t ≤ -2 * ((P * 2 : Nat) : Int) := by
        intro e
        have := Int.mul_le_mul_of_nonneg_left e (show (0 : Int) ≤ ((P * 2 : Nat) : Int) by omega)
        omega
      have ht0 : t = 0 → ((P * 2 : Nat) : Int) * t = 0 := by intro e; rw [e]; simp
      have ht5 : 1 ≤ t → ((P * 2 : Nat) : Int) ≤ ((P * 2 : Nat) : Int) * t := by
        intro e
        have := Int.mul_le_mul_of_nonneg_left e (show (0 : Int) ≤ ((P * 2 : Nat) : Int) by omega)
        omega
      rcases ht1 with h | h | h | h
      · have := ht0 h; constructor <;> intro g <;> omega
      · have := ht3 h; constructor <;> intro g <;> omega
      · have := ht4 h; constructor <;> intro g <;> omega
      · have := ht5 h; constructor <;> intro g <;> omega
end Go.Proofs.Ytliemhadgbjjiaa
