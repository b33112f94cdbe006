/-
  Plain mathematics of writing: a piece of a number laid over noughts.
-/
import Derived.Test.YtliemhadgbjjiaaInts
import Derived.Test.YtliemhadgbjjiaaMath
namespace Go.Proofs.Ytliemhadgbjjiaa
open Go.RowKit

theorem val_zeros (k : Nat) : val (List.replicate k 0) = 0 := by
  induction k with
  | zero => rfl
  | succ k ih => rw [List.replicate_succ, val_cons, ih]; simp
theorem bitsOf_set (bs : List Nat) (i y : Nat) (h : i < bs.length) : bitsOf (bs.set i y) = bitsOf (bs.take i) ++ (bitsN 8 y ++ bitsOf (bs.drop (i + 1))) := by
  have h1 := bitsOf_split (bs.set i y) i (by simpa using h)
  rw [h1, List.getElem_set_self, List.take_set_of_le (Nat.le_refl _), List.drop_set_of_lt (by omega)]

/-- the byte in which the noughts begin -/
theorem byte_at (bs L : List Nat) (z : Nat) (hb : bitsOf bs = L ++ List.replicate z 0) (hp : L.length / 8 < bs.length) (hlt : ∀ x ∈ bs, x < 256) :
    ∃ B : List Nat, L = bitsOf (bs.take (L.length / 8)) ++ B ∧ B.length = L.length % 8 ∧ (∀ x ∈ B, x ≤ 1) ∧ bitsN 8 bs[L.length / 8] = B ++ List.replicate (8 - L.length % 8) 0 ∧
      bs[L.length / 8] = val B * 2 ^ (8 - L.length % 8) ∧ bitsOf (bs.drop (L.length / 8 + 1)) = List.replicate (z - (8 - L.length % 8)) 0 := by
  have hl := bitsOf_len bs
  have hz : 8 * bs.length = L.length + z := by rw [← hl, hb, List.length_append, List.length_replicate]
  have hA : (bitsOf (bs.take (L.length / 8))).length = 8 * (L.length / 8) := by rw [bitsOf_len, List.length_take]; omega
  have hs := bitsOf_split bs _ hp
  have hx := hlt _ (List.getElem_mem hp)
  rw [hb] at hs
  generalize hAe : bitsOf (bs.take (L.length / 8)) = A at *
  generalize bs[L.length / 8] = x at *
  generalize bitsOf (bs.drop (L.length / 8 + 1)) = C at *
  have hL1 : L = A ++ L.drop A.length := by
    have h1 : (L ++ List.replicate z 0).take A.length = A := by rw [hs, List.take_left]
    rw [List.take_append, show A.length - L.length = 0 from by omega, List.take_zero, List.append_nil] at h1
    calc L = L.take A.length ++ L.drop A.length := (List.take_append_drop _ _).symm
      _ = A ++ L.drop A.length := by rw [h1]
  have hBl : (L.drop A.length).length = L.length % 8 := by rw [List.length_drop]; omega
  have h2 : bitsN 8 x ++ C = L.drop A.length ++ List.replicate z 0 := by
    have h1 : (L ++ List.replicate z 0).drop A.length = bitsN 8 x ++ C := by rw [hs, List.drop_left]
    rw [← h1, List.drop_append, show A.length - L.length = 0 from by omega, List.drop_zero]
  have h3 : bitsN 8 x = L.drop A.length ++ List.replicate (8 - L.length % 8) 0 := by
    have h1 : (bitsN 8 x ++ C).take 8 = bitsN 8 x := List.take_left' (bitsN_len 8 x)
    rw [← h1, h2, List.take_append, hBl, List.take_of_length_le (by omega), List.take_replicate, Nat.min_eq_left (by omega)]
  have h4 : C = List.replicate (z - (8 - L.length % 8)) 0 := by
    have h1 : (bitsN 8 x ++ C).drop 8 = C := List.drop_left' (bitsN_len 8 x)
    rw [← h1, h2, List.drop_append, hBl, List.drop_of_length_le (by omega), List.nil_append, List.drop_replicate]
  refine ⟨L.drop A.length, hL1, hBl, fun y hy => ?_, h3, ?_, h4⟩
  · exact bitsN_le 8 x y (by rw [h3]; exact List.mem_append_left _ hy)
  · have h5 := val_bitsN 8 x
    rw [h3, val_append, val_zeros, List.length_replicate, Nat.add_zero, Nat.mod_eq_of_lt hx] at h5
    exact h5.symm

/-- m bits, the number X, laid over noughts: those of the byte in which they begin -/
theorem lay_bits (bs L : List Nat) (z m b X : Nat) (hb : bitsOf bs = L ++ List.replicate z 0) (hp : L.length / 8 < bs.length) (hlt : ∀ x ∈ bs, x < 256) (hm : m + b = 8 - L.length % 8) (hX : X < 2 ^ m) :
    bs[L.length / 8] ||| (X * 2 ^ b) < 256 ∧ X * 2 ^ b < 256 ∧
      bitsOf (bs.set (L.length / 8) (bs[L.length / 8] ||| (X * 2 ^ b))) = (L ++ bitsN m X) ++ List.replicate (z - m) 0 := by
  obtain ⟨B, h1, h2, h3, h4, h5, h6⟩ := byte_at bs L z hb hp hlt
  have hl := bitsOf_len bs
  have hz : 8 * bs.length = L.length + z := by rw [← hl, hb, List.length_append, List.length_replicate]
  have hxl := hlt _ (List.getElem_mem hp)
  have hpow : 2 ^ (8 - L.length % 8) = 2 ^ m * 2 ^ b := by rw [← hm, Nat.pow_add]
  have hXb : X * 2 ^ b < 2 ^ (8 - L.length % 8) := by
    rw [hpow]; exact Nat.mul_lt_mul_of_pos_right hX (Nat.two_pow_pos b)
  have h8 : 2 ^ (8 - L.length % 8) ≤ 2 ^ 8 := Nat.pow_le_pow_right (by decide) (by omega)
  have hor : bs[L.length / 8] ||| (X * 2 ^ b) = bs[L.length / 8] + X * 2 ^ b := nat_join (8 - L.length % 8) _ _ (by rw [h5]; exact Nat.mul_mod_left _ _) hXb
  have hTl : (B ++ (bitsN m X ++ List.replicate b 0)).length = 8 := by simp [bitsN_len]; omega
  have hTle : ∀ y ∈ B ++ (bitsN m X ++ List.replicate b 0), y ≤ 1 := by
    intro y hy
    rcases List.mem_append.1 hy with hy | hy
    · exact h3 y hy
    · rcases List.mem_append.1 hy with hy | hy
      · exact bitsN_le m X y hy
      · rw [(List.mem_replicate.1 hy).2]; decide
  have hTv : val (B ++ (bitsN m X ++ List.replicate b 0)) = bs[L.length / 8] + X * 2 ^ b := by
    rw [val_append, val_append, val_bitsN, val_zeros, Nat.mod_eq_of_lt hX, h5, hpow, List.length_append, bitsN_len, List.length_replicate, Nat.pow_add, Nat.add_zero]
  have hT := bitsN_val _ hTle
  rw [hTl, hTv] at hT
  have hlt2 : bs[L.length / 8] + X * 2 ^ b < 256 := by
    have := val_lt _ hTle
    rw [hTl, hTv] at this
    exact this
  refine ⟨by rw [hor]; exact hlt2, by omega, ?_⟩
  rw [bitsOf_set bs _ _ hp, hor, hT, h6]
  conv => rhs; rw [h1]
  simp only [List.append_assoc, List.replicate_append_replicate]
  congr 4
  have : L.length = (bitsOf (bs.take (L.length / 8)) ++ B).length := by rw [← h1]
  omega

/-- the last m bits of any int -/
theorem i64_low (x : Int) (m : Nat) (hm : m ≤ 61) : bits .and .i64 x (wrap64 (wrap64 ((2 : Int) ^ m) - 1)) = x % 2 ^ m := by
  have h := pow_le_of hm
  have h0 : 0 < 2 ^ m := Nat.two_pow_pos m
  rw [w64_mask m hm]
  have hmask : (2 ^ m - 1) % 2 ^ IntKind.i64.bits = 2 ^ m - 1 := Nat.mod_eq_of_lt (by show _ < 2 ^ 64; omega)
  simp only [bits, BitVec.ofInt_natCast, BitVec.toNat_and, BitVec.toNat_ofNat, BitVec.toNat_ofInt, hmask, Nat.and_two_pow_sub_one_eq_mod]
  have e1 : ((x % ((2 ^ IntKind.i64.bits : Nat) : Int)).toNat % 2 ^ m : Nat) = ((x % 2 ^ m).toNat : Nat) := by
    have hp : (0 : Int) < ((2 ^ IntKind.i64.bits : Nat) : Int) := by decide
    have h1 : 0 ≤ x % ((2 ^ IntKind.i64.bits : Nat) : Int) := Int.emod_nonneg _ (by omega)
    have hd : ((2 ^ m : Nat) : Int) ∣ ((2 ^ IntKind.i64.bits : Nat) : Int) := Int.natCast_dvd_natCast.2 (Nat.pow_dvd_pow 2 (by show m ≤ 64; omega))
    have h2 : ((x % ((2 ^ IntKind.i64.bits : Nat) : Int)) % ((2 ^ m : Nat) : Int)) = x % ((2 ^ m : Nat) : Int) := Int.emod_emod_of_dvd x hd
    rw [pow_cast, ← h2]
    obtain ⟨c, hc⟩ := Int.eq_ofNat_of_zero_le h1
    rw [hc, Int.toNat_natCast, ← Int.natCast_emod, Int.toNat_natCast]
  rw [e1]
  have h3 : 0 ≤ x % 2 ^ m := Int.emod_nonneg _ (by rw [pow_cast]; omega)
  have h4 : x % 2 ^ m < 2 ^ m := Int.emod_lt_of_pos _ (by rw [pow_cast]; omega)
  rw [pow_cast] at h3 h4 ⊢
  generalize x % ((2 ^ m : Nat) : Int) = r at *
  generalize 2 ^ m = P at *
  rw [Int.toNat_of_nonneg h3]
  exact wraps_i64 r h3 (by omega)

/-- a piece of an int's last n bits -/
theorem int_piece (x : Int) (n q m : Nat) (h : q + m ≤ n) : (x / 2 ^ q) % 2 ^ m = (((x % 2 ^ n).toNat / 2 ^ q % 2 ^ m : Nat) : Int) := by
  obtain ⟨r, rfl⟩ := Nat.exists_eq_add_of_le h
  have hp : (0 : Int) < 2 ^ (q + m + r) := by rw [pow_cast]; have := Nat.two_pow_pos (q + m + r); omega
  have hq : (0 : Int) < 2 ^ q := by rw [pow_cast]; have := Nat.two_pow_pos q; omega
  have h1 : 0 ≤ x % 2 ^ (q + m + r) := Int.emod_nonneg _ (by omega)
  have h2 := Int.emod_add_mul_ediv x (2 ^ (q + m + r))
  generalize hU : x % 2 ^ (q + m + r) = U at *
  generalize x / 2 ^ (q + m + r) = t at *
  obtain ⟨u, rfl⟩ := Int.eq_ofNat_of_zero_le h1
  have e1 : x / 2 ^ q = (u : Int) / 2 ^ q + 2 ^ m * (2 ^ r * t) := by
    rw [← h2, Int.pow_add, Int.pow_add, Int.mul_assoc, Int.mul_assoc, Int.add_mul_ediv_left _ _ (by omega)]
  rw [e1, Int.add_mul_emod_self_left, Int.toNat_natCast, pow_cast, pow_cast, ← Int.natCast_ediv, ← Int.natCast_emod]

/-- one step of writing -/
theorem write_step (x : Int) (n q m b y : Nat) (h : q + m ≤ n) (hm : m ≤ 8) (hy : y < 256) (hX : (x % 2 ^ n).toNat / 2 ^ q % 2 ^ m * 2 ^ b < 256) :
    bits .or .u8 (y : Int) (wrap64 (bits .and .i64 (x / 2 ^ q) (wrap64 (wrap64 ((2 : Int) ^ m) - 1)) * 2 ^ b) % 256) = ((y ||| ((x % 2 ^ n).toNat / 2 ^ q % 2 ^ m * 2 ^ b) : Nat) : Int) := by
  rw [i64_low _ m (by omega), int_piece x n q m h, pow_cast b, ← Int.natCast_mul]
  generalize (x % 2 ^ n).toNat / 2 ^ q % 2 ^ m * 2 ^ b = Z at *
  have e : wrap64 (Z : Int) % 256 = (Z : Int) := by rw [w64 _ (by omega) (by omega)]; omega
  rw [e, u8_or_nat y Z hy hX]
end Go.Proofs.Ytliemhadgbjjiaa
