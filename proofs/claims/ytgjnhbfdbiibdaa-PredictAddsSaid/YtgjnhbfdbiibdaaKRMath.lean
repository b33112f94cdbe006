/-
  Restoring, in plain mathematics.
-/
import Derived.Test.YtgjnhbfdbiibdaaKResR
namespace Go.Proofs.Ytgjnhbfdbiibdaa
open Go.RowKit

/-- the samples that the first residuals tell -/
def curK (s : Nat) (cs first l : List Int) : Nat → List Int
  | 0 => first
  | k + 1 => curK s cs first l k ++ [tld s cs (curK s cs first l k) (first.length + k) + l.getD k 0]
theorem curK_len (s : Nat) (cs first l : List Int) (k : Nat) : (curK s cs first l k).length = first.length + k := by
  induction k with
  | zero => rfl
  | succ k ih => simp only [curK, List.length_append, ih, List.length_cons, List.length_nil]; omega
theorem curK_take (s : Nat) (cs first l : List Int) (k m : Nat) : (curK s cs first l (k + m)).take (first.length + k) = curK s cs first l k := by
  induction m with
  | zero => rw [List.take_of_length_le (by rw [Nat.add_zero, curK_len]; exact Nat.le_refl _)]; rfl
  | succ m ih =>
    rw [show k + (m + 1) = (k + m) + 1 by omega]
    simp only [curK]
    rw [List.take_append_of_le_length (by rw [curK_len]; omega)]
    exact ih
theorem curK_take' (s : Nat) (cs first l : List Int) {k n : Nat} (h : k ≤ n) : (curK s cs first l n).take (first.length + k) = curK s cs first l k := by
  have := curK_take s cs first l k (n - k)
  rwa [show k + (n - k) = n by omega] at this
/-- each sample is what is told of it, and its residual -/
theorem curK_at (s : Nat) (cs first l : List Int) {k n : Nat} (h : k < n) (hc : cs.length ≤ first.length) :
    (curK s cs first l n).getD (first.length + k) 0 = tld s cs (curK s cs first l n) (first.length + k) + l.getD k 0 := by
  have h1 := curK_take' s cs first l (show k + 1 ≤ n by omega)
  have h2 := curK_take' s cs first l (show k ≤ n by omega)
  have h3 : (curK s cs first l n).getD (first.length + k) 0 = (curK s cs first l (k + 1)).getD (first.length + k) 0 := by
    rw [← h1, take_getD _ _ _ (by omega)]
  rw [h3]
  have h4 : (curK s cs first l (k + 1)).getD (first.length + k) 0 = tld s cs (curK s cs first l k) (first.length + k) + l.getD k 0 := by
    simp only [curK]
    rw [List.getD_eq_getElem?_getD, List.getElem?_append_right (by rw [curK_len]; exact Nat.le_refl _), curK_len]
    simp
  rw [h4, tld_congr s cs (curK s cs first l k) (curK s cs first l n) (first.length + k) (by omega) (fun i hi => by rw [← h2, take_getD _ _ _ hi])]
theorem curK_first (s : Nat) (cs first l : List Int) (n : Nat) : (curK s cs first l n).take first.length = first := by
  have := curK_take' s cs first l (Nat.zero_le n)
  rwa [Nat.add_zero] at this
/-- what is wrong with samples to be restored -/
def rstE (P S : Int) (cs first l : List Int) : Int := if okL P S cs then (if first.length ≠ cs.length then 1 else if ∀ x ∈ curK S.toNat cs first l l.length, isS x then 0 else 10) else 10
def rstV (P S : Int) (cs first l : List Int) : List Int := if rstE P S cs first l = 0 then curK S.toNat cs first l l.length else []
theorem rstE_zero {P S : Int} {cs first l : List Int} (h : rstE P S cs first l = 0) : okL P S cs ∧ first.length = cs.length ∧ (∀ x ∈ curK S.toNat cs first l l.length, isS x) := by
  unfold rstE at h
  by_cases h1 : okL P S cs
  · rw [if_pos h1] at h
    by_cases h2 : first.length = cs.length
    · rw [if_neg (by omega)] at h
      by_cases h3 : ∀ x ∈ curK S.toNat cs first l l.length, isS x
      · exact ⟨h1, h2, h3⟩
      · rw [if_neg h3] at h; omega
    · rw [if_pos h2] at h; omega
  · rw [if_neg h1] at h; omega
theorem rstV_bound (P S : Int) (cs first l : List Int) : ∀ y ∈ rstV P S cs first l, isS y := by
  intro y hy
  unfold rstV at hy
  by_cases h : rstE P S cs first l = 0
  · rw [if_pos h] at hy
    exact (rstE_zero h).2.2 y hy
  · rw [if_neg h] at hy; cases hy
/-- a sum that wraps round is no sample -/
theorem wrap_isS {t d : Int} (ht : -2251799813685248 ≤ t ∧ t ≤ 2251799813685248) (hd : -9223372036854775808 ≤ d ∧ d ≤ 9223372036854775807) :
    (isS (wrap64 (t + d)) ↔ isS (t + d)) ∧ (isS (t + d) → wrap64 (t + d) = t + d) := by
  unfold isS wrap64
  omega
/-- what Restore answers -/
def RstR (w : World) (P S : Int) (cs first l : List Int) (e : Ending) (w' : World) : Prop :=
  (∃ A c, e = .returned (.tuple #[.slice A (rstV P S cs first l).length c, iv (rstE P S cs first l)]) ∧ ISrc w' (.slice A (rstV P S cs first l).length c) (rstV P S cs first l)) ∧ Only Nix w w'
theorem RstR.bad {w w' : World} {P S : Int} {cs first l : List Int} {E : Int} (hE : rstE P S cs first l = E) (h0 : E ≠ 0) (ho : Only Nix w w') : RstR w P S cs first l (.returned (.tuple #[.slice none 0 0, iv E])) w' := by
  have hv : rstV P S cs first l = [] := if_neg (by rw [hE]; exact h0)
  refine ⟨⟨none, 0, by rw [hv, hE]; rfl, ?_⟩, ho⟩
  rw [hv]
  exact isrc_nil w'
/-- the cells on the way -/
def cellsM (X : List Int) (m : Nat) : List Value := (X.take m ++ List.replicate (X.length - m) 0).map iv
theorem cellsM_len (X : List Int) (m : Nat) (h : m ≤ X.length) : (cellsM X m).length = X.length := by
  unfold cellsM
  rw [List.length_map, List.length_append, List.length_take, List.length_replicate]
  omega
theorem cellsM_set (X : List Int) (m : Nat) (h : m < X.length) : (cellsM X m).toArray.setIfInBounds m (iv (X.getD m 0)) = (cellsM X (m + 1)).toArray := by
  rw [getD_of h]
  unfold cellsM
  rw [List.setIfInBounds_toArray, List.map_append, List.set_append_right _ _ (by simp; omega)]
  congr 1
  have e1 : m - (List.map iv (X.take m)).length = 0 := by simp; omega
  have e2 : X.length - m = (X.length - (m + 1)) + 1 := by omega
  rw [e1, e2, List.replicate_succ, List.map_cons, List.set_cons_zero, List.take_succ_eq_append_getElem h, List.map_append, List.map_append, List.append_assoc]
  rfl
theorem cellsM_all (X : List Int) : cellsM X X.length = X.map iv := by simp [cellsM]
theorem cellsM_at (X : List Int) (m i : Nat) (h : i < m) (hm : m ≤ X.length) : (cellsM X m)[i]? = some (iv (X.getD i 0)) := by
  unfold cellsM
  rw [List.getElem?_map, List.getElem?_append_left (by rw [List.length_take]; omega), List.getElem?_take_of_lt h, List.getElem?_eq_getElem (by omega), getD_of (by omega)]
  rfl
/-- the slice on the way holds the samples so far, and noughts -/
theorem cellsM_isrc {w : World} {g N : Nat} (X : List Int) (m : Nat) (hm : m ≤ X.length) (hN : X.length = N) (h : Box w g 3 (cellsM X m).toArray) (hb : ∀ x ∈ X.take m, isS x) (hs : N ≤ 1000000) : ISrc w (.slice (some ⟨g, 0, none⟩) N N) (X.take m ++ List.replicate (X.length - m) 0) := by
  refine ISrc.of_box h (by rw [List.length_append, List.length_take, List.length_replicate]; omega) (Nat.le_refl _) (by rw [List.length_append, List.length_take, List.length_replicate]; omega) (fun x hx => ?_)
  rcases List.mem_append.1 hx with hx | hx
  · have := hb x hx
    unfold isS at this
    omega
  · rw [List.eq_of_mem_replicate hx]; omega
end Go.Proofs.Ytgjnhbfdbiibdaa
