/-
  A channel that was written is read as it was.
-/
import Derived.Test.YteklfkpeaadinaaGreatDoorPBS17
import Derived.Test.YteklfkpeaadinaaGreatDoorPBS10
namespace Go.Proofs.YteklfkpeaadinaaGreatDoor.K
open Go.RowKit

theorem resT_getD (s : Nat) (cs xs : List Int) (n k : Nat) (h : k < n) : (resT s cs xs n).getD k 0 = xs.getD (cs.length + k) 0 - tld s cs xs (cs.length + k) := by
  unfold resT
  rw [List.getD_eq_getElem?_getD, List.getElem?_map, List.getElem?_range h]
  rfl
/-- Residual of Restore -/
theorem res_rst {P S : Int} {cs fs l : List Int} (h : rstE P S cs fs l = 0) : resE P S cs (rstV P S cs fs l) = 0 ∧ resV P S cs (rstV P S cs fs l) = l ∧ (rstV P S cs fs l).take fs.length = fs ∧ (rstV P S cs fs l).length = fs.length + l.length := by
  obtain ⟨hok, hfl, ha⟩ := rstE_zero h
  have hv : rstV P S cs fs l = curK S.toNat cs fs l l.length := if_pos h
  have hlen : (curK S.toNat cs fs l l.length).length = fs.length + l.length := curK_len _ _ _ _ _
  rw [hv]
  have e : resE P S cs (curK S.toNat cs fs l l.length) = 0 := by
    unfold resE
    rw [if_pos hok, if_neg (by rw [hlen]; omega), if_pos ha]
  refine ⟨e, ?_, curK_first _ _ _ _ _, hlen⟩
  unfold resV
  rw [if_pos e, hlen, ← hfl, Nat.add_sub_cancel_left]
  refine List.ext_getElem (by rw [resT_len]) (fun k h1 h2 => ?_)
  have h3 := resT_getD S.toNat cs (curK S.toNat cs fs l l.length) l.length k h2
  rw [getD_of h1, ← hfl, curK_at S.toNat cs fs l h2 (by omega)] at h3
  rw [h3, getD_of h2]
  omega
end Go.Proofs.YteklfkpeaadinaaGreatDoor.K
namespace Go.Proofs.YteklfkpeaadinaaGreatDoor.S
open Go.RowKit Go.Shelf
open K (linV rstV resV rstE resE)
theorem smV_cons (bs : List Nat) (a n dep : Nat) : smV bs a (n + 1) dep = signR bs a dep :: smV bs (a + dep) n dep := by
  unfold smV
  rw [List.range_succ_eq_map, List.map_cons, List.map_map]
  have h0 : signR bs (a + 0 * dep) dep = signR bs a dep := by rw [Nat.zero_mul, Nat.add_zero]
  rw [h0]
  refine congrArg (List.cons _) (List.map_congr_left fun i _ => ?_)
  show signR bs (a + (i + 1) * dep) dep = signR bs (a + dep + i * dep) dep
  rw [Nat.succ_mul]
  congr 1
  omega
theorem kOf_code {k o : Nat} (hk : k < 4) (h1 : kL k ≤ o) (h2 : (o : Int) ≤ kM k) : kOf (kC k + o).toNat = some (k, o) ∧ (kC k + o).toNat < 64 := by
  rcases (by omega : k = 0 ∨ k = 1 ∨ k = 2 ∨ k = 3) with rfl | rfl | rfl | rfl
  · have e : kM 0 = 0 := rfl
    obtain rfl : o = 0 := by omega
    exact ⟨rfl, by decide⟩
  · have e : kM 1 = 0 := rfl
    obtain rfl : o = 0 := by omega
    exact ⟨rfl, by decide⟩
  · have e : kM 2 = 4 := rfl
    have e2 : kC 2 = 8 := rfl
    have hc : (kC 2 + (o : Int)).toNat = 8 + o := by omega
    rw [hc]
    refine ⟨?_, by omega⟩
    unfold kOf
    rw [if_neg (by omega), if_neg (by omega), if_pos (by omega), Nat.add_sub_cancel_left]
  · have e : kM 3 = 32 := rfl
    have e1 : kL 3 = 1 := rfl
    have e2 : kC 3 = 31 := rfl
    have hc : (kC 3 + (o : Int)).toNat = 31 + o := by omega
    rw [hc]
    refine ⟨?_, by omega⟩
    unfold kOf
    rw [if_neg (by omega), if_neg (by omega), if_neg (by omega), if_pos (by omega), Nat.add_sub_cancel_left]
end Go.Proofs.YteklfkpeaadinaaGreatDoor.S
