/-
  The four closures, RotateLeft32.
-/
import Derived.Test.YtekmebbioalpdaaDoorDSrc
import Derived.Test.YtekmebbioalpdaaDoorDMath
namespace Go.Proofs.YtekmebbioalpdaaDoor
open Go.RowKit

theorem not32 (x : Nat) (hx : x < 4294967296) : bits .xor .u32 IntKind.u32.max (x : Int) = ((nt x : Nat) : Int) := by
  have h : (4294967295 : Nat) ^^^ x = 4294967295 - x := by
    have e := congrArg BitVec.toNat (BitVec.allOnes_xor (x := BitVec.ofNat 32 x))
    rw [BitVec.toNat_xor, BitVec.toNat_not, BitVec.toNat_ofNat, Nat.mod_eq_of_lt hx] at e
    simpa using e
  have h2 := u32_xor_nat 4294967295 x (by decide) hx
  rw [h] at h2
  exact h2
theorem add32 (x y : Nat) : IntKind.u32.wrap ((x : Int) + (y : Int)) = ((ad x y : Nat) : Int) := by
  rw [IntKind.wrap_u32]; unfold ad; omega
theorem and31 (s : Nat) (hs : s < 32) : bits .and .u64 (s : Int) 31 = (s : Int) := by
  have h := u64_and (s : Int) 31 (by omega) (by omega) (by omega) (by omega)
  rw [h]
  have : (s : Int).toNat &&& (31 : Int).toNat = s := by
    rw [Int.toNat_natCast, show (31 : Int).toNat = 2 ^ 5 - 1 from rfl, Nat.and_two_pow_sub_one_eq_mod]
    omega
  rw [this]
theorem ret21 {a b : Nat} {c d : Int} (h : a = b) (h' : c = d) : Ending.returned (.tuple #[wv a, .int .i64 c]) = .returned (.tuple #[wv b, .int .i64 d]) := by rw [h, h']

set_option maxHeartbeats 400000 in
theorem clos1 {w : World} (i b c d : Nat) (p q r : Addr) (hi : i < 16) (hb : w.cell? p = some (wv b)) (hc : w.cell? q = some (wv c)) (hd : w.cell? r = some (wv d)) (b3 : b < 4294967296) (c3 : c < 4294967296) (d3 : d < 4294967296) :
    Calls Tryd.prog 31 #[iv i, .pointer (some p), .pointer (some q), .pointer (some r)] w fun e w' => e = .returned (.tuple #[wv (ff i b c d), iv (gg i : Nat)]) ∧ w = w' := by
  unfold wv at hb hc hd
  have hs : IntKind.u32.signed = false := rfl
  have h1 := not32 b b3
  have h2 := u32_and_nat b c b3 c3
  have h3 := u32_and_nat (nt b) d (nt_lt _) d3
  have h4 := u32_or_nat (b &&& c) (nt b &&& d) (and_lt32 b3) (and_lt32 (nt_lt _))
  go_enter Tryd.func31, Tryd.ntmps31
  go_wp2
  go_ret2
  exact ⟨ret21 (by unfold ff; rw [if_pos hi]) (by unfold gg; rw [if_pos hi]), rfl⟩
set_option maxHeartbeats 400000 in
theorem clos2 {w : World} (i b c d : Nat) (p q r : Addr) (hi0 : 16 ≤ i) (hi : i < 32) (hb : w.cell? p = some (wv b)) (hc : w.cell? q = some (wv c)) (hd : w.cell? r = some (wv d)) (b3 : b < 4294967296) (c3 : c < 4294967296) (d3 : d < 4294967296) :
    Calls Tryd.prog 32 #[iv i, .pointer (some r), .pointer (some p), .pointer (some q)] w fun e w' => e = .returned (.tuple #[wv (ff i b c d), iv (gg i : Nat)]) ∧ w = w' := by
  unfold wv at hb hc hd
  have hs : IntKind.u32.signed = false := rfl
  have h1 := not32 d d3
  have h2 := u32_and_nat d b d3 b3
  have h3 := u32_and_nat (nt d) c (nt_lt _) c3
  have h4 := u32_or_nat (d &&& b) (nt d &&& c) (and_lt32 d3) (and_lt32 (nt_lt _))
  go_enter Tryd.func32, Tryd.ntmps32
  go_wp2
  go_ret2
  exact ⟨ret21 (by unfold ff; rw [if_neg (by omega), if_pos hi]) (by unfold gg; rw [if_neg (by omega), if_pos hi]; omega), rfl⟩
set_option maxHeartbeats 400000 in
theorem clos3 {w : World} (i b c d : Nat) (p q r : Addr) (hi0 : 32 ≤ i) (hi : i < 48) (hb : w.cell? p = some (wv b)) (hc : w.cell? q = some (wv c)) (hd : w.cell? r = some (wv d)) (b3 : b < 4294967296) (c3 : c < 4294967296) (d3 : d < 4294967296) :
    Calls Tryd.prog 33 #[iv i, .pointer (some p), .pointer (some q), .pointer (some r)] w fun e w' => e = .returned (.tuple #[wv (ff i b c d), iv (gg i : Nat)]) ∧ w = w' := by
  unfold wv at hb hc hd
  have hs : IntKind.u32.signed = false := rfl
  have h2 := u32_xor_nat b c b3 c3
  have h3 := u32_xor_nat (b ^^^ c) d (xor_lt32 b3 c3) d3
  go_enter Tryd.func33, Tryd.ntmps33
  go_wp2
  go_ret2
  exact ⟨ret21 (by unfold ff; rw [if_neg (by omega), if_neg (by omega), if_pos hi]) (by unfold gg; rw [if_neg (by omega), if_neg (by omega), if_pos hi]; omega), rfl⟩
set_option maxHeartbeats 400000 in
theorem clos4 {w : World} (i b c d : Nat) (p q r : Addr) (hi0 : 48 ≤ i) (hi : i < 64) (hb : w.cell? p = some (wv b)) (hc : w.cell? q = some (wv c)) (hd : w.cell? r = some (wv d)) (b3 : b < 4294967296) (c3 : c < 4294967296) (d3 : d < 4294967296) :
    Calls Tryd.prog 34 #[iv i, .pointer (some q), .pointer (some p), .pointer (some r)] w fun e w' => e = .returned (.tuple #[wv (ff i b c d), iv (gg i : Nat)]) ∧ w = w' := by
  unfold wv at hb hc hd
  have hs : IntKind.u32.signed = false := rfl
  have h1 := not32 d d3
  have h2 := u32_or_nat b (nt d) b3 (nt_lt _)
  have h3 := u32_xor_nat c (b ||| nt d) c3 (or_lt32 b3 (nt_lt _))
  go_enter Tryd.func34, Tryd.ntmps34
  go_wp2
  go_ret2
  exact ⟨ret21 (by unfold ff; rw [if_neg (by omega), if_neg (by omega), if_neg (by omega)]) (by unfold gg; rw [if_neg (by omega), if_neg (by omega), if_neg (by omega)]; omega), rfl⟩

theorem shl32 (x s : Nat) : IntKind.u32.wrap ((x : Int) * 2 ^ s) = ((x * 2 ^ s % 4294967296 : Nat) : Int) := by
  rw [IntKind.wrap_u32, pow_cast, ← Int.natCast_mul]; omega
theorem shr32 (x s : Nat) : (x : Int) / 2 ^ s = ((x / 2 ^ s : Nat) : Int) := by
  rw [pow_cast, ← Int.natCast_ediv]
set_option maxHeartbeats 400000 in
theorem rotl {w : World} (x s : Nat) (hx : x < 4294967296) (hs : s < 32) :
    Calls Tryd.prog 35 #[wv x, iv s] w fun e w' => e = .returned (wv (rt x s)) ∧ w = w' := by
  have h1 := and31 s hs
  unfold wv
  go_enter Tryd.func35, Tryd.ntmps35
  go_wp2
  go_ret
  refine ⟨congrArg (fun z => Ending.returned (.int .u32 z)) ?_, rfl⟩
  have h3 := shr32 x (32 - s)
  have h2 := shl32 x s
  rw [IntKind.wrap_u32] at h2
  rw [h2, h3]
  exact u32_or_nat _ _ (Nat.mod_lt _ (by decide)) (Nat.lt_of_le_of_lt (Nat.div_le_self _ _) hx)
end Go.Proofs.YtekmebbioalpdaaDoor
