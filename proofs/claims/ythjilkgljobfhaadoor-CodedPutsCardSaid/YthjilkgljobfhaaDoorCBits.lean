/-
  Plain mathematics: the bits of a number's code, one behind the other.
-/
import Derived.Test.YthjilkgljobfhaaDoorCMath
namespace Go.Proofs.YthjilkgljobfhaaDoor

/-- one bit more -/
theorem bits_step (bs : List Nat) (p : Nat) (h : p / 8 < bs.length) : (bitsOf bs).take (p + 1) = (bitsOf bs).take p ++ [bs[p / 8] / 2 ^ (7 - p % 8) % 2] := by
  rw [List.take_add, bitsOf_piece bs p 1 h (by omega), show 8 - p % 8 - 1 = 7 - p % 8 from by omega]
  simp [bitsN]
/-- how many bits there are ahead of the number's bit i -/
def pos (S i : Nat) : Nat := S + 1 + i + 2 * ((i - (7 - S) + 5) / 6)
theorem cd_len' (n : Nat) : (cd n).length = szOf n := cd_len n
theorem cd_get (n q : Nat) (h : q < (cd n).length) (h0 : 1 ≤ q) : (cd n)[q] = 128 + n / 64 ^ (szOf n - 1 - q) % 64 := by
  have h1 := cd_at n q h0 (by rw [← cd_len]; exact h)
  rw [List.getElem?_eq_getElem h] at h1
  exact Option.some.inj h1
theorem cd_get0 (n : Nat) (h : 0 < (cd n).length) : (cd n)[0] = fb n := rfl
/-- the code's beginning -/
theorem bits_head (n : Nat) (hn : n < 68719476736) (h2 : 128 ≤ n) : (bitsOf (cd n)).take (szOf n + 1) = List.replicate (szOf n) 1 ++ [0] := by
  have hb : (bitsOf (cd n)).take 8 = bitsN 8 (fb n) := by
    rw [cd, bitsOf_cons]; exact List.take_left' (bitsN_len _ _)
  have e : (bitsOf (cd n)).take (szOf n + 1) = (bitsN 8 (fb n)).take (szOf n + 1) := by
    have := szOf_bd n
    rw [← hb, List.take_take, Nat.min_eq_left (by omega)]
  rw [e]
  rcases fb_cases n hn with h | h | h | h | h | h | h
  · omega
  all_goals
    obtain ⟨_, h⟩ := h
    first
    | (obtain ⟨h3, h4, h5⟩ := h
       rw [h4]
       have hlo : 128 ≤ n := h2
       generalize fb n = y at *
       simp [bitsN, List.replicate]
       omega)
    | (obtain ⟨h4, h5⟩ := h
       rw [h4]
       generalize fb n = y at *
       subst h5
       simp [bitsN, List.replicate])
theorem mod2 (a : Nat) : (128 + a % 64) / 32 % 2 = a / 32 % 2 ∧ (128 + a % 64) / 16 % 2 = a / 16 % 2 ∧ (128 + a % 64) / 8 % 2 = a / 8 % 2 ∧ (128 + a % 64) / 4 % 2 = a / 4 % 2 ∧ (128 + a % 64) / 2 % 2 = a / 2 % 2 ∧ (128 + a % 64) / 1 % 2 = a / 1 % 2 := by omega
theorem mod2s (a s : Nat) (hs : s < 6) : (128 + a % 64) / 2 ^ (5 - s) % 2 = a / 2 ^ (5 - s) % 2 := by
  have h := mod2 a
  obtain rfl | rfl | rfl | rfl | rfl | rfl : s = 0 ∨ s = 1 ∨ s = 2 ∨ s = 3 ∨ s = 4 ∨ s = 5 := by omega
  · exact h.1
  · exact h.2.1
  · exact h.2.2.1
  · exact h.2.2.2.1
  · exact h.2.2.2.2.1
  · exact h.2.2.2.2.2
/-- a bit of the first byte -/
theorem bits_first (n i : Nat) (hn : n < 68719476736) (h2 : 128 ≤ n) (hi : i < 7 - szOf n) : fb n / 2 ^ (6 - szOf n - i) % 2 = n / 2 ^ (7 - szOf n + 6 * (szOf n - 1) - 1 - i) % 2 := by
  rcases fb_cases n hn with h | h | h | h | h | h | h
  · omega
  all_goals
    obtain ⟨_, h⟩ := h
    first
    | (obtain ⟨h3, h4, h5⟩ := h
       rw [h4] at hi ⊢
       rw [h5]
       obtain rfl | rfl | rfl | rfl | rfl : i = 0 ∨ i = 1 ∨ i = 2 ∨ i = 3 ∨ i = 4 := by omega
       all_goals (first | (exfalso; omega) | (simp; omega)))
    | (obtain ⟨h4, h5⟩ := h
       exfalso; omega)
/-- one bit of the number more -/
theorem bits_more (n i : Nat) (hn : n < 68719476736) (h2 : 128 ≤ n) (hi : i < 7 - szOf n + 6 * (szOf n - 1)) :
    (bitsOf (cd n)).take (pos (szOf n) (i + 1)) = (bitsOf (cd n)).take (pos (szOf n) i) ++ ((if 7 - szOf n ≤ i ∧ (i - (7 - szOf n)) % 6 = 0 then [1, 0] else []) ++ [n / 2 ^ (7 - szOf n + 6 * (szOf n - 1) - 1 - i) % 2]) := by
  have hz := szOf_bd n
  have hl := cd_len n
  have hS2 : 2 ≤ szOf n := by rcases szOf_cases n with h | h | h | h | h | h | h <;> omega
  by_cases hf : i < 7 - szOf n
  · have hb := bits_first n i hn h2 hf
    have e1 : pos (szOf n) (i + 1) = pos (szOf n) i + 1 := by unfold pos; omega
    have e2 : pos (szOf n) i = szOf n + 1 + i := by unfold pos; omega
    have e3 : (szOf n + 1 + i) / 8 = 0 := by omega
    rw [if_neg (by omega), List.nil_append, e1, e2, bits_step (cd n) _ (by omega)]
    simp only [e3, cd_get0]
    rw [show 7 - (szOf n + 1 + i) % 8 = 6 - szOf n - i from by omega, hb]
  · obtain ⟨u, hu⟩ : ∃ u, i = 7 - szOf n + u := ⟨i - (7 - szOf n), by omega⟩
    obtain ⟨j, s, hjs, hs⟩ : ∃ j s, u = 6 * j + s ∧ s < 6 := ⟨u / 6, u % 6, by omega, by omega⟩
    have hj : j + 2 ≤ szOf n := by omega
    have hq : 1 + j < (cd n).length := by omega
    have hg := cd_get n (1 + j) hq (by omega)
    have hbit : ∀ p, p = 8 * (1 + j) + (2 + s) → (bitsOf (cd n)).take (p + 1) = (bitsOf (cd n)).take p ++ [n / 2 ^ (7 - szOf n + 6 * (szOf n - 1) - 1 - i) % 2] := by
      rintro p rfl
      have e3 : (8 * (1 + j) + (2 + s)) / 8 = 1 + j := by omega
      rw [bits_step (cd n) _ (by omega)]
      simp only [e3, hg]
      rw [show 7 - (8 * (1 + j) + (2 + s)) % 8 = 5 - s from by omega, mod2s _ _ hs, Nat.div_div_eq_div_mul, show (64 : Nat) = 2 ^ 6 from rfl, ← Nat.pow_mul, ← Nat.pow_add,
        show 6 * (szOf n - 1 - (1 + j)) + (5 - s) = 7 - szOf n + 6 * (szOf n - 1) - 1 - i from by omega]
    have e1 : pos (szOf n) (i + 1) = 8 * (1 + j) + (2 + s) + 1 := by unfold pos; omega
    rw [e1, hbit _ rfl]
    by_cases h0 : s = 0
    · subst h0
      have e2 : pos (szOf n) i = 8 * (1 + j) := by unfold pos; omega
      have e3 : (8 * (1 + j)) / 8 = 1 + j := by omega
      have e4 : (8 * (1 + j) + 1) / 8 = 1 + j := by omega
      rw [if_pos (by omega), e2, show 8 * (1 + j) + (2 + 0) = 8 * (1 + j) + 1 + 1 from rfl, bits_step (cd n) (8 * (1 + j) + 1) (by omega), bits_step (cd n) (8 * (1 + j)) (by omega)]
      simp only [e3, e4, hg]
      rw [show 7 - (8 * (1 + j) + 1) % 8 = 6 from by omega, show 7 - (8 * (1 + j)) % 8 = 7 from by omega]
      have := Nat.mod_lt (n / 64 ^ (szOf n - 1 - (1 + j))) (show 0 < 64 by decide)
      generalize n / 64 ^ (szOf n - 1 - (1 + j)) % 64 = y at *
      rw [show (128 + y) / 2 ^ 7 % 2 = 1 from by omega, show (128 + y) / 2 ^ 6 % 2 = 0 from by omega]
      simp
    · have e2 : pos (szOf n) i = 8 * (1 + j) + (2 + s) := by unfold pos; omega
      rw [if_neg (by omega), List.nil_append, e2]
theorem pos_end (n : Nat) (h2 : 128 ≤ n) : (bitsOf (cd n)).take (pos (szOf n) (7 - szOf n + 6 * (szOf n - 1))) = bitsOf (cd n) := by
  have hz := szOf_bd n
  have hl := cd_len n
  have hS2 : 2 ≤ szOf n := by rcases szOf_cases n with h | h | h | h | h | h | h <;> omega
  exact List.take_of_length_le (by rw [bitsOf_len, hl]; unfold pos; omega)
theorem pos_zero (n : Nat) : pos (szOf n) 0 = szOf n + 1 := by
  unfold pos; omega
end Go.Proofs.YthjilkgljobfhaaDoor
