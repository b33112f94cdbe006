/-
  Predictions in plain mathematics.
-/
import Derived.Test.YtgjnhbfdbiibdaaKSrc
namespace Go.Proofs.Ytgjnhbfdbiibdaa
open Go.RowKit

/-- may a number be a sample -/
def isS (x : Int) : Prop := -4294967296 ≤ x ∧ x < 4294967296
instance (x : Int) : Decidable (isS x) := by unfold isS; exact inferInstance
/-- what samples tell by some of the coefficients -/
def dotL (cs xs : List Int) (at_ : Nat) (ks : List Nat) : Int := (ks.map fun k => cs.getD k 0 * xs.getD (at_ - 1 - k) 0).sum
def dot (cs xs : List Int) (at_ : Nat) : Int := dotL cs xs at_ (List.range cs.length)
/-- what a sample is told to be -/
def tld (sh : Nat) (cs xs : List Int) (at_ : Nat) : Int := dot cs xs at_ / 2 ^ sh
theorem dotL_snoc (cs xs : List Int) (at_ : Nat) (ks : List Nat) (k : Nat) : dotL cs xs at_ (ks ++ [k]) = dotL cs xs at_ ks + cs.getD k 0 * xs.getD (at_ - 1 - k) 0 := by simp [dotL]
theorem mul_bound {c x : Int} (hc : -16384 ≤ c ∧ c ≤ 16384) (hx : -4294967296 ≤ x ∧ x ≤ 4294967296) : -70368744177664 ≤ c * x ∧ c * x ≤ 70368744177664 := by
  have h := Nat.mul_le_mul (show c.natAbs ≤ 16384 by omega) (show x.natAbs ≤ 4294967296 by omega)
  rw [← Int.natAbs_mul] at h
  omega
theorem getD_all {p : Int → Prop} {l : List Int} (h : ∀ x ∈ l, p x) (h0 : p 0) (k : Nat) : p (l.getD k 0) := by
  rw [List.getD_eq_getElem?_getD]
  by_cases hk : k < l.length
  · rw [List.getElem?_eq_getElem hk]; exact h _ (List.getElem_mem hk)
  · rw [List.getElem?_eq_none (by omega)]; exact h0
theorem dotL_bound (cs xs : List Int) (at_ : Nat) (hc : ∀ c ∈ cs, -16384 ≤ c ∧ c ≤ 16384) (hx : ∀ j, j < at_ → isS (xs.getD j 0)) (ha : 0 < at_) (ks : List Nat) :
    -(70368744177664 * (ks.length : Int)) ≤ dotL cs xs at_ ks ∧ dotL cs xs at_ ks ≤ 70368744177664 * (ks.length : Int) := by
  induction ks with
  | nil => simp [dotL]
  | cons k ks ih =>
    have h1 := getD_all (p := fun c => -16384 ≤ c ∧ c ≤ 16384) hc (by omega) k
    have h2 := hx (at_ - 1 - k) (by omega)
    unfold isS at h2
    have h3 := mul_bound h1 (x := xs.getD (at_ - 1 - k) 0) (by omega)
    unfold dotL at ih ⊢
    rw [List.map_cons, List.sum_cons, List.length_cons]
    omega
theorem dotL_nil (cs xs : List Int) (at_ : Nat) : dotL cs xs at_ [] = 0 := rfl
theorem dot_zero (xs : List Int) (at_ : Nat) : dot [] xs at_ = 0 := rfl
/-- what is told is not great -/
theorem dot_bound (cs xs : List Int) (at_ : Nat) (hc : ∀ c ∈ cs, -16384 ≤ c ∧ c ≤ 16384) (hx : ∀ j, j < at_ → isS (xs.getD j 0)) (ha : cs.length ≤ at_) (h32 : cs.length ≤ 32) :
    -2251799813685248 ≤ dot cs xs at_ ∧ dot cs xs at_ ≤ 2251799813685248 := by
  by_cases h0 : cs = []
  · subst h0; rw [dot_zero]; omega
  · have hl : 0 < cs.length := List.length_pos_iff.2 h0
    have h := dotL_bound cs xs at_ hc hx (by omega) (List.range cs.length)
    rw [List.length_range] at h
    unfold dot
    omega
theorem fdiv_bound {a : Int} (sh : Nat) (h : -2251799813685248 ≤ a ∧ a ≤ 2251799813685248) : -2251799813685248 ≤ a / 2 ^ sh ∧ a / 2 ^ sh ≤ 2251799813685248 := by
  have h1 := Nat.two_pow_pos sh
  rw [pow_cast]
  generalize 2 ^ sh = K at *
  have hp : (0 : Int) < (K : Int) := by omega
  constructor
  · refine (Int.le_ediv_iff_mul_le hp).2 ?_
    omega
  · have h2 : a / (K : Int) < 2251799813685248 + 1 := by
      refine (Int.ediv_lt_iff_lt_mul hp).2 ?_
      omega
    omega
theorem tld_bound (sh : Nat) (cs xs : List Int) (at_ : Nat) (hc : ∀ c ∈ cs, -16384 ≤ c ∧ c ≤ 16384) (hx : ∀ j, j < at_ → isS (xs.getD j 0)) (ha : cs.length ≤ at_) (h32 : cs.length ≤ 32) :
    -2251799813685248 ≤ tld sh cs xs at_ ∧ tld sh cs xs at_ ≤ 2251799813685248 := fdiv_bound sh (dot_bound cs xs at_ hc hx ha h32)
end Go.Proofs.Ytgjnhbfdbiibdaa
