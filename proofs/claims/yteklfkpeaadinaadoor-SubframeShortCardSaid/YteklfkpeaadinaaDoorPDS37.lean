/-
  How many noughts all samples end with: plain mathematics; the document's answer Wasted.
-/
import Derived.Test.YteklfkpeaadinaaDoorPDS7
import Derived.Test.YteklfkpeaadinaaDoorPDG20
import Derived.Test.YteklfkpeaadinaaDoorPDS20
import Derived.Test.YteklfkpeaadinaaDoorPDS3
namespace Go.Proofs.YteklfkpeaadinaaDoor.S
open Go.RowKit Go.Shelf

theorem uni_zeros : ∀ {xs : List Int}, (∀ x ∈ xs, x = 0) → uni xs = 0 := by
  intro xs h
  have key : ∀ (l : List Int), (∀ x ∈ l, x = 0) → l.foldl (fun a x => bits .or .i64 a x) 0 = 0 := by
    intro l
    induction l with
    | nil => intro _; rfl
    | cons x l ih =>
      intro hl
      rw [List.foldl_cons, hl x (by simp)]
      exact ih (fun y hy => hl y (by simp [hy]))
  exact key xs h
theorem nou_zero {xs : List Int} (h : ∀ x ∈ xs, x = 0) : nou xs = 0 := if_pos (uni_zeros h)
theorem dvd_bound {k d : Nat} {x : Int} (hd1 : 1 ≤ d) (hx : x ≠ 0) (h : x % 2 ^ k = 0) (h1 : -((2 : Int) ^ (d - 1)) ≤ x ∧ x < (2 : Int) ^ (d - 1)) : k < d := by
  apply Classical.byContradiction
  intro hk
  obtain ⟨z, rfl⟩ := Int.dvd_of_emod_eq_zero h
  have hz : z ≠ 0 := fun e => hx (by rw [e, Int.mul_zero])
  have hp : (0 : Int) < 2 ^ (d - 1) := Int.pow_pos (by decide)
  have he : (2 : Int) ^ k = 2 ^ (d - 1) * 2 ^ (k - (d - 1)) := by rw [← Int.pow_add]; congr 1; omega
  have h2 : (2 : Int) ^ 1 ≤ 2 ^ (k - (d - 1)) := by
    have : (2 : Nat) ^ 1 ≤ 2 ^ (k - (d - 1)) := Nat.pow_le_pow_right (by decide) (by omega)
    exact_mod_cast this
  have h3 : (2 : Int) ^ (d - 1) * 2 ≤ 2 ^ k := by
    rw [he]
    exact Int.mul_le_mul_of_nonneg_left (by simpa using h2) (Int.le_of_lt hp)
  generalize (2 : Int) ^ k = M at *
  generalize (2 : Int) ^ (d - 1) = P at *
  rcases (by omega : 1 ≤ z ∨ z ≤ -1) with hz1 | hz1
  · have := Int.mul_le_mul_of_nonneg_left hz1 (show 0 ≤ M by omega)
    rw [Int.mul_one] at this
    omega
  · have := Int.mul_le_mul_of_nonneg_left hz1 (show 0 ≤ M by omega)
    rw [Int.mul_neg, Int.mul_one] at this
    omega
theorem nou_pos {d : Nat} {xs : List Int} (hd1 : 1 ≤ d) (hd : d ≤ 33) (hf : fitsD d xs) (h : ¬ ∀ x ∈ xs, x = 0) : dvA (nou xs) xs ∧ ¬ dvA (nou xs + 1) xs ∧ nou xs < d := by
  obtain ⟨x, hx, hx0⟩ : ∃ x, x ∈ xs ∧ x ≠ 0 := by
    apply Classical.byContradiction
    intro hn
    exact h (fun x hx => Classical.byContradiction fun hx0 => hn ⟨x, hx, hx0⟩)
  have hU : (b64 (uni xs)).toNat ≠ 0 := fun e => by
    have h1 : dvA 64 xs := (uni_b64 xs 64 (by decide)).1 (by rw [e])
    have := dvd_bound hd1 hx0 (h1 x hx) (hf x hx)
    omega
  have hu : uni xs ≠ 0 := fun e => hU (by rw [e]; rfl)
  have hn : nou xs = Lib.ctz 64 (b64 (uni xs)).toNat := if_neg hu
  have hc : Lib.ctz 64 (b64 (uni xs)).toNat = Lib.ctzFrom 64 (b64 (uni xs)).toNat := if_neg hU
  obtain ⟨m, hm, hk⟩ := Lib.ctzFrom_spec 64 (b64 (uni xs)).toNat (by omega) (b64 (uni xs)).isLt
  rw [hn, hc]
  obtain ⟨k, hkE⟩ : ∃ k, Lib.ctzFrom 64 (b64 (uni xs)).toNat = k := ⟨_, rfl⟩
  rw [hkE] at hm hk ⊢
  have h1 : dvA k xs := (uni_b64 xs k (by omega)).1 (by rw [hm, Nat.mul_mod_right])
  refine ⟨h1, fun h2 => ?_, dvd_bound hd1 hx0 (h1 x hx) (hf x hx)⟩
  have h3 := (uni_b64 xs (k + 1) (by omega)).2 h2
  rw [hm, Nat.pow_succ, Nat.mul_mod_mul_left] at h3
  have hp := Nat.two_pow_pos k
  have h4 : (2 * m + 1) % 2 = 1 := by omega
  rw [h4] at h3
  omega
end Go.Proofs.YteklfkpeaadinaaDoor.S
