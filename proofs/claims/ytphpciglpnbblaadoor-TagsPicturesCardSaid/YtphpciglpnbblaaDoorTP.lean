/-
  Plain mathematics: numbers in bytes, the highest one first.
-/
import Derived.Test.YtphpciglpnbblaaDoorTQ
namespace Go.Proofs.YtphpciglpnbblaaDoor

/-- so many bytes of a number, the highest one first -/
def be (m n : Nat) : List Nat := (List.range m).map fun j => n / 2 ^ (8 * (m - 1 - j)) % 256
/-- the number that bytes are -/
def vl (bs : List Nat) : Nat := bs.foldl (fun a x => a * 256 + x) 0
theorem be_len (m n : Nat) : (be m n).length = m := by simp [be]
theorem be_lt (m n : Nat) : ∀ x ∈ be m n, x < 256 := fun x hx => by
  obtain ⟨j, _, rfl⟩ := List.mem_map.1 hx
  exact Nat.mod_lt _ (by decide)
theorem be_take (m n j : Nat) (h : j < m) : (be m n).take (j + 1) = (be m n).take j ++ [n / 2 ^ (8 * (m - 1 - j)) % 256] := by
  rw [List.take_succ_eq_append_getElem (by rw [be_len]; exact h)]
  simp [be]
theorem be_succ (m n : Nat) : be (m + 1) n = be m (n / 256) ++ [n % 256] := by
  unfold be
  rw [List.range_succ, List.map_append]
  congr 1
  · refine List.map_congr_left fun j hj => ?_
    have hj' := List.mem_range.1 hj
    rw [show 8 * (m + 1 - 1 - j) = 8 + 8 * (m - 1 - j) by omega, Nat.pow_add, ← Nat.div_div_eq_div_mul]
  · simp
theorem vl_snoc (bs : List Nat) (x : Nat) : vl (bs ++ [x]) = vl bs * 256 + x := by simp [vl, List.foldl_append]
theorem vl_be : ∀ (m n : Nat), n < 2 ^ (8 * m) → vl (be m n) = n
  | 0, n, h => by
    simp at h
    subst h
    rfl
  | m + 1, n, h => by
    rw [be_succ, vl_snoc, vl_be m (n / 256) (by
      rw [Nat.div_lt_iff_lt_mul (by decide)]
      rw [show 8 * (m + 1) = 8 * m + 8 by omega, Nat.pow_add] at h
      exact h)]
    omega
theorem list_snoc {α : Type} (P : List α → Prop) (h0 : P []) (h1 : ∀ l x, P l → P (l ++ [x])) (l : List α) : P l := by
  rw [← List.reverse_reverse l]
  induction l.reverse with
  | nil => exact h0
  | cons x r ih => rw [List.reverse_cons]; exact h1 _ _ ih
theorem vl_lt (bs : List Nat) : (∀ x ∈ bs, x < 256) → vl bs < 2 ^ (8 * bs.length) := by
  refine list_snoc (fun bs => (∀ x ∈ bs, x < 256) → vl bs < 2 ^ (8 * bs.length)) (fun _ => by simp [vl]) (fun l x ih h => ?_) bs
  have h1 := ih (fun y hy => h y (List.mem_append_left _ hy))
  have h2 := h x (by simp)
  rw [vl_snoc, List.length_append, List.length_singleton, show 8 * (l.length + 1) = 8 * l.length + 8 by omega, Nat.pow_add]
  generalize 2 ^ (8 * l.length) = K at *
  omega
theorem be_vl (bs : List Nat) : (∀ x ∈ bs, x < 256) → be bs.length (vl bs) = bs := by
  refine list_snoc (fun bs => (∀ x ∈ bs, x < 256) → be bs.length (vl bs) = bs) (fun _ => rfl) (fun l x ih h => ?_) bs
  have h1 := ih (fun y hy => h y (List.mem_append_left _ hy))
  have h2 := h x (by simp)
  rw [vl_snoc, List.length_append, List.length_singleton, be_succ, show (vl l * 256 + x) / 256 = vl l by omega, show (vl l * 256 + x) % 256 = x by omega, h1]
end Go.Proofs.YtphpciglpnbblaaDoor
