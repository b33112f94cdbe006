/-
  The document's low.
-/
import Derived.Test.YtphpciglpnbblaaDoorTI
import Derived.Deep.QuietTactic
import Derived.BigQuiet
namespace Go.Proofs.YtphpciglpnbblaaDoor
open Go.RowKit Go.Shelf

def lowE (r : List Nat) : Int := if r.length < 4 then -1 else (lv (r.take 4) : Int)
theorem four_of (r : List Nat) (h : ¬ r.length < 4) : ∃ a b c d r', r = a :: b :: c :: d :: r' := by
  match r with
  | a :: b :: c :: d :: r' => exact ⟨a, b, c, d, r', rfl⟩
  | [] => simp at h
  | [_] => simp at h
  | [_, _] => simp at h
  | [_, _, _] => simp at h
theorem wr64 (z : Int) (h1 : -9223372036854775808 ≤ z) (h2 : z < 9223372036854775808) : IntKind.i64.wrap z = z := by rw [IntKind.wrap_i64]; omega
set_option maxHeartbeats 4000000 in
theorem low13 {w : World} {A : Option Addr} {n c : Nat} {bs : List Nat} (hs : CSrc w (.slice A n c) bs) (k : Nat) (hk : k ≤ 4611686018427387904) :
    Calls Tryd.prog 35 #[.slice A n c, iv k] w fun e w' => e = .returned (iv (lowE (bs.drop k))) ∧ Only Nix w w' := by
  have hn := hs.src.len
  have hsm := hs.src.small
  by_cases hlt : (bs.drop k).length < 4
  · have hE : Hid (lowE (bs.drop k) = -1) := Lib.hid (by unfold lowE; rw [if_pos hlt])
    have hd : (n : Int) < (k : Int) + 4 := by rw [List.length_drop] at hlt; omega
    clear hs hlt hn hsm
    go_enter Tryd.func35, Tryd.ntmps35
    go_wp2
    go_ret
    exact ⟨by rw [hE.out]; rfl, Only.refl _ _⟩
  · have hlen : k + 4 ≤ n := by rw [List.length_drop] at hlt; omega
    obtain ⟨x0, x1, x2, x3, r', hr⟩ := four_of _ hlt
    have hb : ∀ x ∈ bs.drop k, x < 256 := fun x hx => hs.src.lt x (List.mem_of_mem_drop hx)
    have hat : ∀ j, j < 4 → ∃ ad, A = some ad ∧ w.cell? (ad.add (k + j)) = some (byt ((bs.drop k).getD j 0)) := fun j hj => by
      obtain ⟨ad, e, hx⟩ := hs.src.at_ (k := k + j) (by omega)
      refine ⟨ad, e, ?_⟩
      rw [hx, List.getD_eq_getElem?_getD, List.getElem?_drop, List.getElem?_eq_getElem (by omega)]
      rfl
    rw [hr] at hat hb
    obtain ⟨ad, rfl, c0⟩ := hat 0 (by decide)
    obtain ⟨ad1, e1, c1⟩ := hat 1 (by decide)
    obtain ⟨ad2, e2, c2⟩ := hat 2 (by decide)
    obtain ⟨ad3, e3, c3⟩ := hat 3 (by decide)
    injection e1 with e1; injection e2 with e2; injection e3 with e3
    subst e1 e2 e3
    have l0 := hb x0 (by simp)
    have l1 := hb x1 (by simp)
    have l2 := hb x2 (by simp)
    have l3 := hb x3 (by simp)
    have hE : Hid (lowE (bs.drop k) = (x0 : Int) + 256 * (x1 : Int) + 65536 * (x2 : Int) + 16777216 * (x3 : Int)) := Lib.hid (by
      unfold lowE
      rw [if_neg hlt, hr]
      simp only [List.take_succ_cons, List.take_zero, lv]
      omega)
    simp only [List.getD_cons_zero, List.getD_cons_succ, Nat.add_zero] at c0 c1 c2 c3
    unfold byt at c0 c1 c2 c3
    have hd : ¬ (n : Int) < (k : Int) + 4 := by omega
    have i0 : (k : Int) < (n : Int) := by omega
    have v0 := wr64 (x0 : Int) (by omega) (by omega)
    have v1 := wr64 (x1 : Int) (by omega) (by omega)
    have v2 := wr64 (x2 : Int) (by omega) (by omega)
    have v3 := wr64 (x3 : Int) (by omega) (by omega)
    obtain ⟨k1, hk1⟩ : ∃ k1 : Nat, k + 1 = k1 := ⟨_, rfl⟩
    obtain ⟨k2, hk2⟩ : ∃ k2 : Nat, k + 2 = k2 := ⟨_, rfl⟩
    obtain ⟨k3, hk3⟩ : ∃ k3 : Nat, k + 3 = k3 := ⟨_, rfl⟩
    have u1 : IntKind.i64.wrap ((k : Int) + 1) = (k1 : Int) := (wr64 _ (by omega) (by omega)).trans (by omega)
    have u2 : IntKind.i64.wrap ((k : Int) + 2) = (k2 : Int) := (wr64 _ (by omega) (by omega)).trans (by omega)
    have u3 : IntKind.i64.wrap ((k : Int) + 3) = (k3 : Int) := (wr64 _ (by omega) (by omega)).trans (by omega)
    rw [hk1] at c1
    rw [hk2] at c2
    rw [hk3] at c3
    have m1 := wr64 (256 * (x1 : Int)) (by omega) (by omega)
    have m2 := wr64 (65536 * (x2 : Int)) (by omega) (by omega)
    have m3 := wr64 (16777216 * (x3 : Int)) (by omega) (by omega)
    have n1 := wr64 ((x0 : Int) + 256 * (x1 : Int)) (by omega) (by omega)
    have n2 := wr64 ((x0 : Int) + 256 * (x1 : Int) + 65536 * (x2 : Int)) (by omega) (by omega)
    have n3 := wr64 ((x0 : Int) + 256 * (x1 : Int) + 65536 * (x2 : Int) + 16777216 * (x3 : Int)) (by omega) (by omega)
    have i1 : (k1 : Int) < (n : Int) := by omega
    have i2 : (k2 : Int) < (n : Int) := by omega
    have i3 : (k3 : Int) < (n : Int) := by omega
    clear hk1 hk2 hk3 hlen
    clear hs hat hb hr hlt hn hsm
    go_enter Tryd.func35, Tryd.ntmps35
    go_wp2
    go_quiet (fail)
    go_wp2
    go_ret
    exact ⟨by rw [hE.out]; rfl, (Only.refl _ _).drewN _⟩
end Go.Proofs.YtphpciglpnbblaaDoor
