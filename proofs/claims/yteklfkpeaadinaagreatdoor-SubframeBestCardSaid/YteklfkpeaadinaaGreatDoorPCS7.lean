/-
  Which powers of 2 divide numbers, by the bits that any of them has: plain mathematics.
-/
import Derived.Test.YteklfkpeaadinaaGreatDoorPCS4
namespace Go.Proofs.YteklfkpeaadinaaGreatDoor.S
open Go.RowKit

/-- 2^wd divides all of them -/
def dvA (wd : Nat) (xs : List Int) : Prop := ∀ x ∈ xs, x % 2 ^ wd = 0
instance (wd : Nat) (xs : List Int) : Decidable (dvA wd xs) := by unfold dvA; exact inferInstance
/-- a number's 64 bits -/
def b64 (x : Int) : BitVec 64 := BitVec.ofInt 64 x
theorem b64_toNat (x : Int) : ((b64 x).toNat : Int) = x % 2 ^ 64 := by
  unfold b64
  rw [BitVec.toNat_ofInt]
  exact Int.toNat_of_nonneg (Int.emod_nonneg _ (by decide))
theorem b64_mod (x : Int) (wd : Nat) (hw : wd ≤ 64) : (b64 x).toNat % 2 ^ wd = 0 ↔ x % 2 ^ wd = 0 := by
  have h := b64_toNat x
  have hd : ((2 : Int) ^ wd) ∣ 2 ^ 64 := ⟨2 ^ (64 - wd), by rw [← Int.pow_add]; congr 1; omega⟩
  have h1 : (((b64 x).toNat % 2 ^ wd : Nat) : Int) = x % 2 ^ wd := by
    rw [Int.natCast_emod, h, ← pow_cast, Int.emod_emod_of_dvd _ hd]
  constructor
  · intro h2; rw [← h1, h2]; rfl
  · intro h2; rw [h2] at h1; exact_mod_cast h1
theorem wrap_b64 (n : Nat) : b64 (IntKind.i64.wrap n) = BitVec.ofNat 64 n := by
  apply BitVec.eq_of_toNat_eq
  have h := b64_toNat (IntKind.i64.wrap n)
  rw [IntKind.wrap_i64] at h
  rw [BitVec.toNat_ofNat, IntKind.wrap_i64]
  have : ((n : Int) + 9223372036854775808) % 18446744073709551616 - 9223372036854775808 = (n : Int) - 18446744073709551616 * (((n : Int) + 9223372036854775808) / 18446744073709551616) := by
    have := Int.emod_add_mul_ediv ((n : Int) + 9223372036854775808) 18446744073709551616
    omega
  rw [this] at h ⊢
  have h2 : ((n : Int) - 18446744073709551616 * (((n : Int) + 9223372036854775808) / 18446744073709551616)) % 2 ^ 64 = (n : Int) % 2 ^ 64 := by
    show _ % 18446744073709551616 = _ % 18446744073709551616
    omega
  rw [h2] at h
  have h3 : ((2 : Nat) ^ 64) = 18446744073709551616 := by decide
  have h4 : ((2 : Int) ^ 64) = 18446744073709551616 := by decide
  rw [h4] at h
  rw [h3]
  omega
theorem b64_or (a x : Int) : b64 (bits .or .i64 a x) = b64 a ||| b64 x := by
  have : bits .or .i64 a x = IntKind.i64.wrap ((b64 a ||| b64 x).toNat : Nat) := by simp only [bits]; rfl
  rw [this, wrap_b64, BitVec.ofNat_toNat, BitVec.setWidth_eq]
theorem and_mask (U : Int) (wd : Nat) (hw : wd ≤ 61) : bits .and .i64 U (((2 ^ wd - 1 : Nat) : Int)) = (((b64 U).toNat % 2 ^ wd : Nat) : Int) := by
  have h1 : bits .and .i64 U (((2 ^ wd - 1 : Nat) : Int)) = IntKind.i64.wrap ((b64 U &&& b64 ((2 ^ wd - 1 : Nat) : Int)).toNat : Nat) := by simp only [bits]; rfl
  have hp := pow_le_of hw
  have hp0 := Nat.two_pow_pos wd
  have h2 : (b64 ((2 ^ wd - 1 : Nat) : Int)).toNat = 2 ^ wd - 1 := by
    have h := b64_toNat ((2 ^ wd - 1 : Nat) : Int)
    have h4 : ((2 : Int) ^ 64) = 18446744073709551616 := by decide
    have h5 : (2 : Nat) ^ 61 = 2305843009213693952 := by decide
    rw [h4] at h
    rw [h5] at hp
    generalize (2 : Nat) ^ wd = P at *
    omega
  rw [h1, BitVec.toNat_and, h2, Nat.and_two_pow_sub_one_eq_mod]
  have h3 := Nat.mod_lt (b64 U).toNat hp0
  have h5 : (2 : Nat) ^ 61 = 2305843009213693952 := by decide
  rw [h5] at hp
  rw [IntKind.wrap_i64]
  generalize (b64 U).toNat % 2 ^ wd = r at *
  omega
theorem uni_b64 (xs : List Int) (wd : Nat) (hw : wd ≤ 64) : (b64 (uni xs)).toNat % 2 ^ wd = 0 ↔ dvA wd xs := by
  have key : ∀ (xs : List Int) (a : Int), (b64 (xs.foldl (fun a x => bits .or .i64 a x) a)).toNat % 2 ^ wd = 0 ↔ a % 2 ^ wd = 0 ∧ dvA wd xs := by
    intro xs
    induction xs with
    | nil => intro a; rw [List.foldl_nil, b64_mod _ _ hw]; simp [dvA]
    | cons x xs ih =>
      intro a
      rw [List.foldl_cons, ih, ← b64_mod _ _ hw, b64_or, BitVec.toNat_or, Nat.or_mod_two_pow, Nat.or_eq_zero_iff, b64_mod _ _ hw, b64_mod _ _ hw]
      unfold dvA
      simp only [List.mem_cons, forall_eq_or_imp]
      exact and_assoc
  have := key xs 0
  unfold uni
  rw [this]
  simp
/-- 2^wd - 1 of the bits of all -/
theorem uni_and (xs : List Int) (wd : Nat) (hw : wd ≤ 61) : bits .and .i64 (uni xs) (((2 ^ wd - 1 : Nat) : Int)) = 0 ↔ dvA wd xs := by
  rw [and_mask _ _ hw, ← uni_b64 xs wd (by omega)]
  omega
end Go.Proofs.YteklfkpeaadinaaGreatDoor.S
