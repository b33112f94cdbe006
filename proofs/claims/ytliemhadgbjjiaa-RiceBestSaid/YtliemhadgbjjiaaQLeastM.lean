/-
  The document's choice of a part is cheapest's: plain mathematics.
-/
import Derived.Test.YtliemhadgbjjiaaQCost
namespace Go.Proofs.Ytliemhadgbjjiaa
open Go.RowKit

section
variable {m : Nat} {l : List Int}
theorem sm_mx (h : 0 < l.length) (hs : ∀ x ∈ l, Sm x) : mxN (l.map fd) ≤ 4000 := by
  obtain ⟨x, hx, e⟩ := List.mem_map.1 (mxN_mem (ns := l.map fd) (by simpa using h))
  rw [← e]
  exact (hs x hx).fd
theorem sm_may (h : 0 < l.length) (hs : ∀ x ∈ l, Sm x) (p : Nat) : mayP (p : Int) 0 (l.map fd) = true := by
  unfold mayP
  rw [if_neg (by omega), Int.toNat_natCast, decide_eq_true_eq]
  have := Nat.div_le_self (mxN (l.map fd)) (2 ^ p)
  have := sm_mx h hs
  omega
theorem sm_mayR (h : 0 < l.length) (hs : ∀ x ∈ l, Sm x) : mayP (-1) (mxW l : Nat) (l.map fd) = true := by
  unfold mayP
  rw [if_pos rfl, Int.toNat_natCast, decide_eq_true_eq, mxW_eq l h hs]
  have := sm_mx h hs
  exact bl_upper _ (by omega)
theorem sm_szK (p : Nat) : szP m (p : Int) 0 (l.map fd) = 4 + m + cdS p l := by
  unfold szP cdS
  rw [if_neg (by omega), Int.toNat_natCast]
  unfold szK
  rw [List.length_map]
  omega
theorem sm_szR : szP m (-1) (mxW l : Nat) (l.map fd) = 4 + m + (5 + mxW l * l.length) := by
  unfold szP
  rw [if_pos rfl, Int.toNat_natCast]
  unfold szR
  rw [List.length_map]
  omega
theorem mxW_le (hs : ∀ x ∈ l, Sm x) : mxW l ≤ 12 := foldl_max_le _ _ _ (Nat.zero_le _) (fun y hy => by
  obtain ⟨x, hx, rfl⟩ := List.mem_map.1 hy
  have := (hs x hx).fd
  exact bl_lower _ 12 (by omega))
/-- what stands behind the width costs more -/
theorem fdl_stop (h : 0 < l.length) (hs : ∀ x ∈ l, Sm x) : ∀ j, mxW l + 1 ≤ j → fdl m (l.map fd) j = fdl m (l.map fd) (mxW l + 1) := by
  have hW : Lib.bitLen (mxN (l.map fd)) = mxW l := (mxW_eq l h hs).symm
  have hup := bl_upper (mxN (l.map fd)) (by have := sm_mx h hs; omega)
  rw [hW] at hup
  have hz : ∀ q, mxW l ≤ q → hiS q (l.map fd) = 0 := fun q hq => hiS_zero q _ (fun n hn => Nat.lt_of_le_of_lt (mxN_le n hn) (Nat.lt_of_lt_of_le hup (Nat.pow_le_pow_right (by decide) hq)))
  have hsome : ∃ d, fdl m (l.map fd) (mxW l + 1) = some d ∧ szP m d.1 d.2 (l.map fd) ≤ szP m (mxW l : Nat) 0 (l.map fd) :=
    (fold_le (m := m) (ns := l.map fd) ((List.range (mxW l + 1)).map fun (p : Nat) => ((p : Int), (0 : Int))) none).2.2 (((mxW l : Nat) : Int), 0) (List.mem_map.2 ⟨mxW l, List.mem_range.2 (by omega), rfl⟩) (sm_may h hs _)
  intro j hj
  induction j with
  | zero => omega
  | succ j ih =>
    by_cases e : mxW l = j
    · rw [e]
    · rw [fdl_succ, ih (by omega)]
      obtain ⟨d, h1, h2⟩ := hsome
      rw [h1]
      unfold stepC
      rw [if_neg]
      rintro ⟨_, h3⟩
      have h4 := h3 d rfl
      rw [sm_szK] at h2 h4
      unfold cdS at h2 h4
      rw [hz _ (Nat.le_refl _)] at h2
      rw [hz _ (by omega)] at h4
      have := Nat.mul_le_mul_right l.length (show 1 + mxW l ≤ 1 + j by omega)
      omega
theorem ref_chp (h : 0 < l.length) (hs : ∀ x ∈ l, Sm x) : stepC m (l.map fd) (fdl m (l.map fd) (15 + 16 * m)) (-1, (mxW l : Nat)) = chp m (l.map fd) := by
  have hW : Lib.bitLen (mxN (l.map fd)) = mxW l := (mxW_eq l h hs).symm
  have h12 := mxW_le hs
  unfold chp cand
  rw [hW, List.foldl_append, if_pos (by omega), show min (mxW l) (14 + 16 * m) + 1 = mxW l + 1 from by omega, fdl_stop h hs (15 + 16 * m) (by omega)]
  rfl
end
end Go.Proofs.Ytliemhadgbjjiaa
