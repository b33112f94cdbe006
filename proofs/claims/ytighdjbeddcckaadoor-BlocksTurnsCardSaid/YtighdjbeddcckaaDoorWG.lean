/-
  The order of turned blocks: plain mathematics.
-/
import Derived.Test.YtighdjbeddcckaaDoorWF
namespace Go.Proofs.YtighdjbeddcckaaDoor
open Go.RowKit Go.Shelf

theorem odE_perm {p : Bk} {r r' : List Bk} (h : r.Perm r') : odE (p :: r) = odE (p :: r') := by
  have hc : (p :: r).Perm (p :: r') := h.cons p
  have hm : ∀ k, mT (p :: r) k = mT (p :: r') k := fun k => hc.countP_eq _
  have ha : ((p :: r).any fun p => isM p.1 p.2) = ((p :: r').any fun p => isM p.1 p.2) := by
    rw [Bool.eq_iff_iff, List.any_eq_true, List.any_eq_true]
    constructor
    · rintro ⟨x, hx, hy⟩
      exact ⟨x, hc.mem_iff.1 hx, hy⟩
    · rintro ⟨x, hx, hy⟩
      exact ⟨x, hc.mem_iff.2 hx, hy⟩
  rw [odE_cons, odE_cons, hm, hm, hm, ha]
/-- turned by s -/
def tn (r : List Bk) (s : Nat) : List Bk := r.drop s ++ r.take s
theorem tn_perm (r : List Bk) (s : Nat) : (tn r s).Perm r := by
  have h := List.perm_append_comm (l₁ := r.drop s) (l₂ := r.take s)
  rwa [List.take_append_drop] at h
theorem tn_len (r : List Bk) (s : Nat) : (tn r s).length = r.length := (tn_perm r s).length_eq
theorem tn_at (r : List Bk) (s i : Nat) (hs : s < r.length) (hi : i < r.length) : (tn r s)[i]? = r[(s + i) % r.length]? := by
  unfold tn
  by_cases h : i < r.length - s
  · rw [List.getElem?_append_left (by rw [List.length_drop]; exact h), List.getElem?_drop, Nat.mod_eq_of_lt (by omega)]
  · rw [List.getElem?_append_right (by rw [List.length_drop]; omega), List.length_drop, List.getElem?_take_of_lt (by omega)]
    congr 1
    rw [Nat.mod_eq_sub_mod (by omega), Nat.mod_eq_of_lt (by omega)]
    omega
theorem turn_is (f : Int) (n : Nat) (hn : 0 < n) : (f.tmod n + n).tmod n = f % n := by
  have h1 : f.tmod n + n ≥ 0 := by
    have := Int.lt_tmod_of_pos f (show (0 : Int) < n by omega)
    omega
  rw [Int.tmod_eq_emod_of_nonneg h1, Int.add_emod_right]
  rw [Int.tmod_def]
  exact Int.sub_mul_emod_self_left ..
end Go.Proofs.YtighdjbeddcckaaDoor
