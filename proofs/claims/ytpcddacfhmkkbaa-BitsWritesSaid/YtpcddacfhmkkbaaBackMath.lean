/-
  What is written is read as it was: the plain mathematics, over the contracts' own functions.
-/
import Derived.Test.YtpcddacfhmkkbaaAwake
namespace Go.Proofs.Ytpcddacfhmkkbaa
open Go.RowKit

/-- a call: Ask, N, V -/
abbrev Op3 := Int × Int × Int

theorem piece_mid (L E X : List Nat) : ((L ++ E ++ X).drop L.length).take E.length = E := by
  rw [List.append_assoc, List.drop_left, List.take_left]
theorem numAt_mid {bs L E X : List Nat} (h : bitsOf bs = L ++ E ++ X) : numAt bs L.length E.length = val E := by
  unfold numAt; rw [h, piece_mid]
theorem len_mid {bs L E X : List Nat} (h : bitsOf bs = L ++ E ++ X) : L.length + E.length ≤ 8 * bs.length := by
  rw [← bitsOf_len, h, List.length_append, List.length_append]; omega

theorem take_mid {bs L X : List Nat} {n x : Nat} (h : bitsOf bs = L ++ bitsN n x ++ X) (hn : n ≤ 48) : takeE bs L.length (n : Int) = 0 ∧ takeA bs L.length (n : Int) = L.length + n ∧ numAt bs L.length n = x % 2 ^ n := by
  have h1 := len_mid h
  rw [bitsN_len] at h1
  have e1 : takeE bs L.length (n : Int) = 0 := takeE_ok (by omega) (by omega)
  refine ⟨e1, by unfold takeA; rw [e1, if_pos rfl, Int.toNat_natCast], ?_⟩
  have h2 := numAt_mid h
  rw [bitsN_len, val_bitsN] at h2
  exact h2
theorem put_back {bs L X : List Nat} {n x : Int} (hE : putE n x = 0) (h : bitsOf bs = putL L n x ++ X) : takeR bs L.length n = x ∧ takeE bs L.length n = 0 ∧ takeA bs L.length n = (putL L n x).length := by
  have hn : ¬ (n < 0 ∨ 48 < n) := fun hh => by unfold putE at hE; rw [if_pos hh] at hE; cases hE
  obtain ⟨m, rfl⟩ := Int.eq_ofNat_of_zero_le (show 0 ≤ n by omega)
  have hx : ¬ (x < 0 ∨ (2 : Int) ^ (m : Int).toNat ≤ x) := fun hh => by unfold putE at hE; rw [if_neg hn, if_pos hh] at hE; cases hE
  obtain ⟨y, rfl⟩ := Int.eq_ofNat_of_zero_le (show 0 ≤ x by omega)
  have e1 : putL L (m : Int) (y : Int) = L ++ bitsN m y := by unfold putL; rw [hE, if_pos rfl, Int.toNat_natCast, Int.toNat_natCast]
  rw [e1] at h ⊢
  obtain ⟨t1, t2, t3⟩ := take_mid h (by omega)
  rw [Int.toNat_natCast, pow_cast] at hx
  refine ⟨?_, t1, by rw [t2, List.length_append, bitsN_len]⟩
  unfold takeR
  rw [t1, if_pos rfl, Int.toNat_natCast, t3, Nat.mod_eq_of_lt (by omega)]
theorem sgn_back {bs L X : List Nat} {n x : Int} (hE : sgnE n x = 0) (h : bitsOf bs = sgnL L n x ++ X) : signR bs L.length n = x ∧ takeE bs L.length n = 0 ∧ takeA bs L.length n = (sgnL L n x).length := by
  have hn : ¬ (n < 0 ∨ 48 < n) := fun hh => by unfold sgnE at hE; rw [if_pos hh] at hE; cases hE
  obtain ⟨m, rfl⟩ := Int.eq_ofNat_of_zero_le (show 0 ≤ n by omega)
  have hx : isS m x := by
    by_cases hh : isS m x
    · exact hh
    · unfold sgnE at hE; rw [if_neg hn, Int.toNat_natCast, if_neg hh] at hE; cases hE
  have e1 : sgnL L (m : Int) x = L ++ bitsN m (x % 2 ^ m).toNat := by unfold sgnL; rw [hE, if_pos rfl, Int.toNat_natCast]
  rw [e1] at h ⊢
  obtain ⟨t1, t2, t3⟩ := take_mid h (by omega)
  refine ⟨?_, t1, by rw [t2, List.length_append, bitsN_len]⟩
  unfold signR
  rw [t1, if_pos rfl, Int.toNat_natCast, t3]
  unfold isS at hx
  rcases Nat.eq_zero_or_pos m with rfl | hp
  · rw [if_pos rfl] at hx
    subst hx
    rfl
  · obtain ⟨k, rfl⟩ : ∃ k, m = k + 1 := ⟨m - 1, by omega⟩
    rw [if_neg (by omega), Nat.add_sub_cancel, pow_cast] at hx
    rw [Nat.add_sub_cancel, pow_cast]
    have hps : 2 ^ (k + 1) = 2 ^ k * 2 := Nat.pow_succ 2 k
    have hpp : 0 < 2 ^ k := Nat.two_pow_pos k
    rw [hps]
    generalize 2 ^ k = P at *
    by_cases h0 : 0 ≤ x
    · have e2 : x % ((P * 2 : Nat) : Int) = x := Int.emod_eq_of_lt h0 (by omega)
      rw [e2, Nat.mod_eq_of_lt (by omega), if_neg (by omega)]
      omega
    · have e2 : x % ((P * 2 : Nat) : Int) = x + ((P * 2 : Nat) : Int) := by
        rw [← Int.add_emod_right, Int.emod_eq_of_lt (by omega) (by omega)]
      rw [e2, Nat.mod_eq_of_lt (by omega), if_pos ⟨by omega, by omega⟩]
      omega
theorem un_back {bs L X : List Nat} {x : Int} (hE : unE x = 0) (h : bitsOf bs = unL L x ++ X) : unaryR bs L.length = x ∧ unaryE bs L.length = 0 ∧ unaryA bs L.length = (unL L x).length := by
  have hx : ¬ (x < 0 ∨ 65536 < x) := fun hh => by unfold unE at hE; rw [if_pos hh] at hE; cases hE
  obtain ⟨k, rfl⟩ := Int.eq_ofNat_of_zero_le (show 0 ≤ x by omega)
  have e1 : unL L (k : Int) = (L ++ List.replicate k 0) ++ [1] := by unfold unL; rw [hE, if_pos rfl, Int.toNat_natCast]
  rw [e1] at h ⊢
  have hl := congrArg List.length h
  rw [bitsOf_len] at hl
  simp at hl
  have h1 : oneAt bs L.length = L.length + k := by
    refine one_found (by omega) (fun j hj1 hj2 => ?_) ?_
    · rw [h, List.append_assoc, List.append_assoc, List.getElem?_append_right hj1, List.getElem?_append_left (by simp; omega)]
      rw [List.getElem?_replicate, if_pos (by omega)]
    · rw [h, List.append_assoc, List.getElem?_append_right (by simp)]
      simp
  have h2 : ¬ oneAt bs L.length = 8 * bs.length := by omega
  refine ⟨?_, by unfold unaryE; rw [if_neg h2], by unfold unaryA; rw [if_neg h2, h1]; simp; omega⟩
  unfold unaryR
  rw [if_neg h2, h1]
  omega
theorem align_back {bs L X : List Nat} (h : bitsOf bs = (L ++ List.replicate (padN L.length) 0) ++ X) : alignR bs L.length = (padN L.length : Int) ∧ alignE bs L.length = 0 ∧ alignA bs L.length = L.length + padN L.length := by
  have h1 := numAt_mid h
  rw [List.length_replicate, val_zeros] at h1
  exact ⟨by unfold alignR; rw [if_pos h1], by unfold alignE; rw [if_pos h1], by unfold alignA; rw [if_pos h1]⟩

/-- what a call of a Reader answers: the number, the error, the place -/
def rdR (bs : List Nat) (a : Nat) (o : Op3) : Int := if o.1 = 0 then takeR bs a o.2.1 else if o.1 = 1 then signR bs a o.2.1 else if o.1 = 2 then unaryR bs a else alignR bs a
def rdE (bs : List Nat) (a : Nat) (o : Op3) : Int := if o.1 = 0 then takeE bs a o.2.1 else if o.1 = 1 then takeE bs a o.2.1 else if o.1 = 2 then unaryE bs a else alignE bs a
def rdA (bs : List Nat) (a : Nat) (o : Op3) : Nat := if o.1 = 0 then takeA bs a o.2.1 else if o.1 = 1 then takeA bs a o.2.1 else if o.1 = 2 then unaryA bs a else alignA bs a

/-- Bits L are what these calls wrote: whatever stands behind them, they are read so. -/
def Good (L : List Nat) (os : List Op3) : Prop :=
  ∃ pos : Nat → Nat, pos 0 = 0 ∧ pos os.length = L.length ∧ ∀ (bs X : List Nat), bitsOf bs = L ++ X → ∀ j, (hj : j < os.length) → rdR bs (pos j) os[j] = os[j].2.2 ∧ rdE bs (pos j) os[j] = 0 ∧ rdA bs (pos j) os[j] = pos (j + 1)
theorem Good.nil : Good [] [] := ⟨fun _ => 0, rfl, rfl, fun _ _ _ j hj => absurd hj (by simp)⟩
theorem Good.more {L L' E : List Nat} {os : List Op3} (h : Good L os) (o : Op3) (hL : L' = L ++ E) (ho : ∀ bs X, bitsOf bs = L' ++ X → rdR bs L.length o = o.2.2 ∧ rdE bs L.length o = 0 ∧ rdA bs L.length o = L'.length) : Good L' (os ++ [o]) := by
  obtain ⟨pos, p0, p1, hp⟩ := h
  refine ⟨fun j => if j ≤ os.length then pos j else L'.length, by simp [p0], by dsimp only; rw [if_neg (by simp)], fun bs X hb j hj => ?_⟩
  simp only [List.length_append, List.length_cons, List.length_nil] at hj
  dsimp only
  by_cases hlt : j < os.length
  · rw [if_pos (by omega), if_pos (by omega), List.getElem_append_left hlt]
    exact hp bs (E ++ X) (by rw [hb, hL, List.append_assoc]) j hlt
  · obtain rfl : j = os.length := by omega
    rw [if_pos (Nat.le_refl _), if_neg (by omega), p1, List.getElem_append_right (Nat.le_refl _)]
    simp only [Nat.sub_self, List.getElem_cons_zero]
    exact ho bs X hb
end Go.Proofs.Ytpcddacfhmkkbaa
