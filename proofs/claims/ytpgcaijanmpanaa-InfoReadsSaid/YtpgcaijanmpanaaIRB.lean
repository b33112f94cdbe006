/-
  The document's Read of an info, plain mathematics.
-/
import Derived.Test.YtpgcaijanmpanaaIBB
namespace Go.Proofs.Ytpgcaijanmpanaa
open Go.RowKit Go.Shelf

/-- the bit at a place -/
def bitAt (bs : List Nat) (p : Nat) : Nat := bs.getD (p / 8) 0 / 2 ^ (7 - p % 8) % 2
/-- m bits from a on, as a number -/
def rn (bs : List Nat) (a : Nat) : Nat → Nat
  | 0 => 0
  | m + 1 => 2 * rn bs a m + bitAt bs (a + m)
theorem rn_lt (bs : List Nat) (a : Nat) : ∀ m, rn bs a m < 2 ^ m
  | 0 => by show 0 < 1; decide
  | m + 1 => by
    have := rn_lt bs a m
    have h2 : bitAt bs (a + m) < 2 := Nat.mod_lt _ (by decide)
    rw [rn, Nat.pow_succ]
    omega
theorem be_get (m n j : Nat) (h : j < m) : (be m n).getD j 0 = n / 2 ^ (8 * (m - 1 - j)) % 256 := by
  rw [List.getD_eq_getElem?_getD, be, List.getElem?_map, List.getElem?_range h]
  rfl
theorem mod256 (X s : Nat) (h : s ≤ 7) : X % 256 / 2 ^ s % 2 = X / 2 ^ s % 2 := by
  rcases (show s = 0 ∨ s = 1 ∨ s = 2 ∨ s = 3 ∨ s = 4 ∨ s = 5 ∨ s = 6 ∨ s = 7 by omega) with rfl | rfl | rfl | rfl | rfl | rfl | rfl | rfl <;> simp <;> omega
theorem bit_is {bs : List Nat} {V : Nat} (hV : ∀ j, j < 18 → bs.getD j 0 = V / 2 ^ (8 * (17 - j)) % 256) (p : Nat) (hp : p < 144) : bitAt bs p = V / 2 ^ (143 - p) % 2 := by
  unfold bitAt
  rw [hV _ (by omega), mod256 _ _ (by omega), Nat.div_div_eq_div_mul, ← Nat.pow_add]
  congr 3
  omega
theorem rn_is {bs : List Nat} {V : Nat} (hV : ∀ j, j < 18 → bs.getD j 0 = V / 2 ^ (8 * (17 - j)) % 256) (a : Nat) : ∀ m, a + m ≤ 144 → rn bs a m = V / 2 ^ (144 - a - m) % 2 ^ m
  | 0, _ => by rw [Nat.pow_zero, Nat.mod_one]; rfl
  | m + 1, h => by
    rw [rn, rn_is hV a m (by omega), bit_is hV _ (by omega), show 143 - (a + m) = 144 - a - (m + 1) by omega, show 144 - a - m = (144 - a - (m + 1)) + 1 by omega, Nat.pow_succ 2 (144 - a - (m + 1)), ← Nat.div_div_eq_div_mul, Nat.pow_succ, Nat.mul_comm (2 ^ m) 2, Nat.mod_mul]
    omega
theorem vl_append (a : List Nat) : ∀ b : List Nat, vl (a ++ b) = vl a * 2 ^ (8 * b.length) + vl b := by
  intro b
  refine list_snoc (fun b => vl (a ++ b) = vl a * 2 ^ (8 * b.length) + vl b) (by simp [vl]) (fun l x h => ?_) b
  rw [← List.append_assoc, vl_snoc, h, vl_snoc, List.length_append, List.length_singleton, Nat.mul_add, Nat.pow_add, show (2 : Nat) ^ (8 * 1) = 256 from rfl, Nat.add_mul, Nat.mul_assoc, Nat.add_assoc]
/-- where the fields begin -/
def fa (k : Nat) : Nat := [0, 16, 32, 56, 80, 100, 103, 108, 144].getD k 0
theorem fa_succ (k : Nat) (h : k < 8) : fa (k + 1) = fa k + fb k := by
  rcases (show k = 0 ∨ k = 1 ∨ k = 2 ∨ k = 3 ∨ k = 4 ∨ k = 5 ∨ k = 6 ∨ k = 7 by omega) with rfl | rfl | rfl | rfl | rfl | rfl | rfl | rfl <;> rfl
theorem fa_le (k : Nat) (h : k < 8) : fa k + fb k ≤ 144 := by
  rcases (show k = 0 ∨ k = 1 ∨ k = 2 ∨ k = 3 ∨ k = 4 ∨ k = 5 ∨ k = 6 ∨ k = 7 by omega) with rfl | rfl | rfl | rfl | rfl | rfl | rfl | rfl <;> decide
theorem bits18 {bs : List Nat} (hl : bs.length = 34) (hb : ∀ x ∈ bs, x < 256) : ∀ j, j < 18 → bs.getD j 0 = vl (bs.take 18) / 2 ^ (8 * (17 - j)) % 256 := by
  intro j hj
  have h := be_vl (bs.take 18) (fun x hx => hb x (List.mem_of_mem_take hx))
  have h18 : (bs.take 18).length = 18 := by rw [List.length_take, hl]; rfl
  rw [h18] at h
  have := be_get 18 (vl (bs.take 18)) j hj
  rw [h, List.getD_eq_getElem?_getD, List.getElem?_take_of_lt hj] at this
  rw [List.getD_eq_getElem?_getD]
  exact this
theorem pick (A x L m r : Nat) (hx : x < 2 ^ m) (hL : L < 2 ^ r) : ((A * 2 ^ m + x) * 2 ^ r + L) / 2 ^ r % 2 ^ m = x := by
  rw [Nat.mul_comm _ (2 ^ r), Nat.mul_add_div (Nat.two_pow_pos r), Nat.div_eq_of_lt hL, Nat.add_zero, Nat.add_comm, Nat.add_mul_mod_self_right, Nat.mod_eq_of_lt hx]
theorem fld0 (x1 x2 x3 x4 x5 : Nat) (l1 : x1 < 65536) (l2 : x2 < 65536) (l3 : x3 < 16777216) (l4 : x4 < 16777216) (l5 : x5 < 18446744073709551616) : (x1 * 340282366920938463463374607431768211456 + (x2 * 5192296858534827628530496329220096 + (x3 * 309485009821345068724781056 + (x4 * 18446744073709551616 + x5)))) / 2 ^ 128 % 2 ^ 16 = x1 := by
  rw [show (x1 * 340282366920938463463374607431768211456 + (x2 * 5192296858534827628530496329220096 + (x3 * 309485009821345068724781056 + (x4 * 18446744073709551616 + x5)))) = ((0) * 2 ^ 16 + x1) * 2 ^ 128 + (x2 * 5192296858534827628530496329220096 + (x3 * 309485009821345068724781056 + (x4 * 18446744073709551616 + x5))) by omega]
  exact pick _ _ _ 16 128 (by omega) (by omega)
theorem fld1 (x1 x2 x3 x4 x5 : Nat) (l1 : x1 < 65536) (l2 : x2 < 65536) (l3 : x3 < 16777216) (l4 : x4 < 16777216) (l5 : x5 < 18446744073709551616) : (x1 * 340282366920938463463374607431768211456 + (x2 * 5192296858534827628530496329220096 + (x3 * 309485009821345068724781056 + (x4 * 18446744073709551616 + x5)))) / 2 ^ 112 % 2 ^ 16 = x2 := by
  rw [show (x1 * 340282366920938463463374607431768211456 + (x2 * 5192296858534827628530496329220096 + (x3 * 309485009821345068724781056 + (x4 * 18446744073709551616 + x5)))) = ((x1) * 2 ^ 16 + x2) * 2 ^ 112 + (x3 * 309485009821345068724781056 + (x4 * 18446744073709551616 + x5)) by omega]
  exact pick _ _ _ 16 112 (by omega) (by omega)
theorem fld2 (x1 x2 x3 x4 x5 : Nat) (l1 : x1 < 65536) (l2 : x2 < 65536) (l3 : x3 < 16777216) (l4 : x4 < 16777216) (l5 : x5 < 18446744073709551616) : (x1 * 340282366920938463463374607431768211456 + (x2 * 5192296858534827628530496329220096 + (x3 * 309485009821345068724781056 + (x4 * 18446744073709551616 + x5)))) / 2 ^ 88 % 2 ^ 24 = x3 := by
  rw [show (x1 * 340282366920938463463374607431768211456 + (x2 * 5192296858534827628530496329220096 + (x3 * 309485009821345068724781056 + (x4 * 18446744073709551616 + x5)))) = ((x1 * 65536 + x2) * 2 ^ 24 + x3) * 2 ^ 88 + (x4 * 18446744073709551616 + x5) by omega]
  exact pick _ _ _ 24 88 (by omega) (by omega)
theorem fld3 (x1 x2 x3 x4 x5 : Nat) (l1 : x1 < 65536) (l2 : x2 < 65536) (l3 : x3 < 16777216) (l4 : x4 < 16777216) (l5 : x5 < 18446744073709551616) : (x1 * 340282366920938463463374607431768211456 + (x2 * 5192296858534827628530496329220096 + (x3 * 309485009821345068724781056 + (x4 * 18446744073709551616 + x5)))) / 2 ^ 64 % 2 ^ 24 = x4 := by
  rw [show (x1 * 340282366920938463463374607431768211456 + (x2 * 5192296858534827628530496329220096 + (x3 * 309485009821345068724781056 + (x4 * 18446744073709551616 + x5)))) = (((x1 * 65536 + x2) * 16777216 + x3) * 2 ^ 24 + x4) * 2 ^ 64 + (x5) by omega]
  exact pick _ _ _ 24 64 (by omega) (by omega)
theorem fld4 (x1 x2 x3 x4 x5 : Nat) (l1 : x1 < 65536) (l2 : x2 < 65536) (l3 : x3 < 16777216) (l4 : x4 < 16777216) (l5 : x5 < 18446744073709551616) : (x1 * 340282366920938463463374607431768211456 + (x2 * 5192296858534827628530496329220096 + (x3 * 309485009821345068724781056 + (x4 * 18446744073709551616 + x5)))) / 2 ^ 44 % 2 ^ 20 = x5 / 17592186044416 := by
  rw [show (x1 * 340282366920938463463374607431768211456 + (x2 * 5192296858534827628530496329220096 + (x3 * 309485009821345068724781056 + (x4 * 18446744073709551616 + x5)))) = ((((x1 * 65536 + x2) * 16777216 + x3) * 16777216 + x4) * 2 ^ 20 + x5 / 17592186044416) * 2 ^ 44 + (x5 % 17592186044416) by omega]
  exact pick _ _ _ 20 44 (by omega) (by omega)
theorem fld5 (x1 x2 x3 x4 x5 : Nat) (l1 : x1 < 65536) (l2 : x2 < 65536) (l3 : x3 < 16777216) (l4 : x4 < 16777216) (l5 : x5 < 18446744073709551616) : (x1 * 340282366920938463463374607431768211456 + (x2 * 5192296858534827628530496329220096 + (x3 * 309485009821345068724781056 + (x4 * 18446744073709551616 + x5)))) / 2 ^ 41 % 2 ^ 3 = x5 / 2199023255552 % 8 := by
  rw [show (x1 * 340282366920938463463374607431768211456 + (x2 * 5192296858534827628530496329220096 + (x3 * 309485009821345068724781056 + (x4 * 18446744073709551616 + x5)))) = (((((x1 * 65536 + x2) * 16777216 + x3) * 16777216 + x4) * 1048576 + x5 / 17592186044416) * 2 ^ 3 + x5 / 2199023255552 % 8) * 2 ^ 41 + (x5 % 2199023255552) by omega]
  exact pick _ _ _ 3 41 (by omega) (by omega)
theorem fld6 (x1 x2 x3 x4 x5 : Nat) (l1 : x1 < 65536) (l2 : x2 < 65536) (l3 : x3 < 16777216) (l4 : x4 < 16777216) (l5 : x5 < 18446744073709551616) : (x1 * 340282366920938463463374607431768211456 + (x2 * 5192296858534827628530496329220096 + (x3 * 309485009821345068724781056 + (x4 * 18446744073709551616 + x5)))) / 2 ^ 36 % 2 ^ 5 = x5 / 68719476736 % 32 := by
  rw [show (x1 * 340282366920938463463374607431768211456 + (x2 * 5192296858534827628530496329220096 + (x3 * 309485009821345068724781056 + (x4 * 18446744073709551616 + x5)))) = ((((((x1 * 65536 + x2) * 16777216 + x3) * 16777216 + x4) * 1048576 + x5 / 17592186044416) * 8 + x5 / 2199023255552 % 8) * 2 ^ 5 + x5 / 68719476736 % 32) * 2 ^ 36 + (x5 % 68719476736) by omega]
  exact pick _ _ _ 5 36 (by omega) (by omega)
theorem fld7 (x1 x2 x3 x4 x5 : Nat) (l1 : x1 < 65536) (l2 : x2 < 65536) (l3 : x3 < 16777216) (l4 : x4 < 16777216) (l5 : x5 < 18446744073709551616) : (x1 * 340282366920938463463374607431768211456 + (x2 * 5192296858534827628530496329220096 + (x3 * 309485009821345068724781056 + (x4 * 18446744073709551616 + x5)))) / 2 ^ 0 % 2 ^ 36 = x5 % 68719476736 := by
  rw [show (x1 * 340282366920938463463374607431768211456 + (x2 * 5192296858534827628530496329220096 + (x3 * 309485009821345068724781056 + (x4 * 18446744073709551616 + x5)))) = (((((((x1 * 65536 + x2) * 16777216 + x3) * 16777216 + x4) * 1048576 + x5 / 17592186044416) * 8 + x5 / 2199023255552 % 8) * 32 + x5 / 68719476736 % 32) * 2 ^ 36 + x5 % 68719476736) * 2 ^ 0 + (0) by omega]
  exact pick _ _ _ 36 0 (by omega) (by omega)
theorem reads_are {bs : List Nat} (hl : bs.length = 34) (hb : ∀ x ∈ bs, x < 256) (k : Nat) (hk : k < 8) : ((rn bs (fa k) (fb k) + fm k : Nat) : Int) = nth (rdI bs) (fw k) := by
  have hr := rn_is (bits18 hl hb) (fa k) (fb k) (fa_le k hk)
  rw [hr]
  have e : bs.take 18 = bs.take 2 ++ ((bs.drop 2).take 2 ++ ((bs.drop 4).take 3 ++ ((bs.drop 7).take 3 ++ (bs.drop 10).take 8))) := by
    have h1 : ∀ (a b : Nat) (l : List Nat), l.take (a + b) = l.take a ++ (l.drop a).take b := fun a b l => List.take_add
    rw [h1 2 16, h1 2 14 (bs.drop 2), List.drop_drop, h1 3 11 (bs.drop (2 + 2)), List.drop_drop, h1 3 8 (bs.drop (2 + 2 + 3)), List.drop_drop]
  have lt : ∀ (l : List Nat) (n : Nat), (∀ x ∈ l, x ∈ bs) → l.length = n → vl l < 2 ^ (8 * n) := fun l n h e => by
    have := vl_lt l (fun x hx => hb x (h x hx))
    rw [e] at this
    exact this
  have l1 := lt (bs.take 2) 2 (fun x hx => List.mem_of_mem_take hx) (by rw [List.length_take, hl]; rfl)
  have l2 := lt ((bs.drop 2).take 2) 2 (fun x hx => List.mem_of_mem_drop (List.mem_of_mem_take hx)) (by rw [List.length_take, List.length_drop, hl]; rfl)
  have l3 := lt ((bs.drop 4).take 3) 3 (fun x hx => List.mem_of_mem_drop (List.mem_of_mem_take hx)) (by rw [List.length_take, List.length_drop, hl]; rfl)
  have l4 := lt ((bs.drop 7).take 3) 3 (fun x hx => List.mem_of_mem_drop (List.mem_of_mem_take hx)) (by rw [List.length_take, List.length_drop, hl]; rfl)
  have l5 := lt ((bs.drop 10).take 8) 8 (fun x hx => List.mem_of_mem_drop (List.mem_of_mem_take hx)) (by rw [List.length_take, List.length_drop, hl]; rfl)
  have n2 : ((bs.drop 2).take 2).length = 2 := by rw [List.length_take, List.length_drop, hl]; rfl
  have n3 : ((bs.drop 4).take 3).length = 3 := by rw [List.length_take, List.length_drop, hl]; rfl
  have n4 : ((bs.drop 7).take 3).length = 3 := by rw [List.length_take, List.length_drop, hl]; rfl
  have n5 : ((bs.drop 10).take 8).length = 8 := by rw [List.length_take, List.length_drop, hl]; rfl
  rw [e, vl_append, vl_append, vl_append, vl_append]
  simp only [List.length_append, n2, n3, n4, n5]
  unfold rdI
  generalize vl (bs.take 2) = x1 at *
  generalize vl ((bs.drop 2).take 2) = x2 at *
  generalize vl ((bs.drop 4).take 3) = x3 at *
  generalize vl ((bs.drop 7).take 3) = x4 at *
  generalize vl ((bs.drop 10).take 8) = x5 at *
  clear hr e lt hl hb n2 n3 n4 n5
  have hVV : x1 * 2 ^ (8 * (2 + (3 + (3 + 8)))) + (x2 * 2 ^ (8 * (3 + (3 + 8))) + (x3 * 2 ^ (8 * (3 + 8)) + (x4 * 2 ^ (8 * 8) + x5))) = (x1 * 340282366920938463463374607431768211456 + (x2 * 5192296858534827628530496329220096 + (x3 * 309485009821345068724781056 + (x4 * 18446744073709551616 + x5)))) := rfl
  rw [hVV]
  rcases (show k = 0 ∨ k = 1 ∨ k = 2 ∨ k = 3 ∨ k = 4 ∨ k = 5 ∨ k = 6 ∨ k = 7 by omega) with rfl | rfl | rfl | rfl | rfl | rfl | rfl | rfl
  · have h := fld0 x1 x2 x3 x4 x5 l1 l2 l3 l4 l5
    show (((x1 * 340282366920938463463374607431768211456 + (x2 * 5192296858534827628530496329220096 + (x3 * 309485009821345068724781056 + (x4 * 18446744073709551616 + x5)))) / 2 ^ 128 % 2 ^ 16 + 0 : Nat) : Int) = _
    rw [h]
    rfl
  · have h := fld1 x1 x2 x3 x4 x5 l1 l2 l3 l4 l5
    show (((x1 * 340282366920938463463374607431768211456 + (x2 * 5192296858534827628530496329220096 + (x3 * 309485009821345068724781056 + (x4 * 18446744073709551616 + x5)))) / 2 ^ 112 % 2 ^ 16 + 0 : Nat) : Int) = _
    rw [h]
    rfl
  · have h := fld2 x1 x2 x3 x4 x5 l1 l2 l3 l4 l5
    show (((x1 * 340282366920938463463374607431768211456 + (x2 * 5192296858534827628530496329220096 + (x3 * 309485009821345068724781056 + (x4 * 18446744073709551616 + x5)))) / 2 ^ 88 % 2 ^ 24 + 0 : Nat) : Int) = _
    rw [h]
    rfl
  · have h := fld3 x1 x2 x3 x4 x5 l1 l2 l3 l4 l5
    show (((x1 * 340282366920938463463374607431768211456 + (x2 * 5192296858534827628530496329220096 + (x3 * 309485009821345068724781056 + (x4 * 18446744073709551616 + x5)))) / 2 ^ 64 % 2 ^ 24 + 0 : Nat) : Int) = _
    rw [h]
    rfl
  · have h := fld4 x1 x2 x3 x4 x5 l1 l2 l3 l4 l5
    show (((x1 * 340282366920938463463374607431768211456 + (x2 * 5192296858534827628530496329220096 + (x3 * 309485009821345068724781056 + (x4 * 18446744073709551616 + x5)))) / 2 ^ 44 % 2 ^ 20 + 0 : Nat) : Int) = _
    rw [h]
    rfl
  · have h := fld5 x1 x2 x3 x4 x5 l1 l2 l3 l4 l5
    show (((x1 * 340282366920938463463374607431768211456 + (x2 * 5192296858534827628530496329220096 + (x3 * 309485009821345068724781056 + (x4 * 18446744073709551616 + x5)))) / 2 ^ 41 % 2 ^ 3 + 1 : Nat) : Int) = _
    rw [h]
    rfl
  · have h := fld6 x1 x2 x3 x4 x5 l1 l2 l3 l4 l5
    show (((x1 * 340282366920938463463374607431768211456 + (x2 * 5192296858534827628530496329220096 + (x3 * 309485009821345068724781056 + (x4 * 18446744073709551616 + x5)))) / 2 ^ 36 % 2 ^ 5 + 1 : Nat) : Int) = _
    rw [h]
    rfl
  · have h := fld7 x1 x2 x3 x4 x5 l1 l2 l3 l4 l5
    show (((x1 * 340282366920938463463374607431768211456 + (x2 * 5192296858534827628530496329220096 + (x3 * 309485009821345068724781056 + (x4 * 18446744073709551616 + x5)))) / 2 ^ 0 % 2 ^ 36 + 0 : Nat) : Int) = _
    rw [h]
    rfl
end Go.Proofs.Ytpgcaijanmpanaa
