/-
  The document's Make: mathematics: its codes are the shortest ones.
-/
import Derived.Test.YteahiigfclabfaaDoorHU2
import Derived.Test.YteahiigfclabfaaDoorHN
namespace Go.Proofs.YteahiigfclabfaaDoor.H

/-- the Block's code behind codes 1 to k -/
def rbF (b : Int) : Nat → Nat
  | 0 => 0
  | k + 1 => if rB (k + 1 : Nat) = b ∧ rbF b k = 0 then k + 1 else rbF b k
def rbC (b : Int) : Nat := if rbF b 15 = 0 then (if b ≤ 256 then 6 else 7) else rbF b 15
/-- does a Rate's code tell a number -/
def telR (c : Nat) (n : Int) : Prop := rR (c : Nat) = n ∨ (12 ≤ c ∧ n.tmod (rU (c : Nat)) = 0 ∧ n.tdiv (rU (c : Nat)) ≤ rTop (c : Nat))
instance (c : Nat) (n : Int) : Decidable (telR c n) := by unfold telR; exact inferInstance
/-- the Rate's code, and the Rate, behind codes 1 to k -/
def rrF (n : Int) : Nat → Nat × Int
  | 0 => (0, 0)
  | k + 1 => if (rrF n k).1 = 0 ∧ telR (k + 1) n then (k + 1, n) else rrF n k
def rrC (n : Int) : Nat × Int := if 0 < n then rrF n 14 else (0, 0)
/-- the Depth's code, and the Depth, behind codes 1 to k -/
def rdF (n : Int) : Nat → Nat × Int
  | 0 => (0, 0)
  | k + 1 => if rD (k + 1 : Nat) = n then (k + 1, n) else rdF n k
theorem depth_code : ∀ d : Nat, d < 33 → 4 ≤ d → rdF (d : Nat) 7 = ((shF dT (d : Nat) 16).1, (shF dT (d : Nat) 16).2.1) := by decide +kernel
theorem rrF_le (n : Int) (k : Nat) : (rrF n k).1 ≤ k := by
  induction k with
  | zero => exact Nat.le_refl _
  | succ k ih =>
    unfold rrF
    split
    · exact Nat.le_refl _
    · omega
theorem telR_iff (c : Nat) (n : Int) (hn : 0 < n) (h1 : 1 ≤ c) (hc : c ≤ 14) : telR c n ↔ telP (rowOf rT (c : Nat)) n := by
  have hu : (rowOf rT (c : Nat)).u ≠ 0 := by
    have := all16 (fun k => k ≤ 14 → (rowOf rT (k : Nat)).u ≠ 0) ⟨by decide, by decide, by decide, by decide, by decide, by decide, by decide, by decide, by decide, by decide, by decide, by decide, by decide, by decide, by decide, by decide⟩ c (by omega)
    exact this hc
  rw [rRok_iff _ _ hu]
  unfold telR rRok
  have hr := all16 (fun k => 1 ≤ k → k ≤ 14 → (rR (k : Nat) = -2 ↔ 12 ≤ k) ∧ (¬ 12 ≤ k → 0 < rR (k : Nat)) ∧ (0 < rU (k : Nat))) ⟨by decide, by decide, by decide, by decide, by decide, by decide, by decide, by decide, by decide, by decide, by decide, by decide, by decide, by decide, by decide, by decide⟩ c (by omega) h1 hc
  obtain ⟨r1, r2, r3⟩ := hr
  by_cases h12 : 12 ≤ c
  · have e := r1.2 h12
    rw [if_pos e, e]
    constructor
    · rintro (h | ⟨_, h2, h3⟩)
      · omega
      · refine ⟨by omega, ?_, h2⟩
        have h4 := Int.mul_tdiv_add_tmod n (rU (c : Nat))
        rw [h2, Int.add_zero] at h4
        have h5 := Int.mul_le_mul_of_nonneg_left h3 (Int.le_of_lt r3)
        omega
    · rintro ⟨_, h2, h3⟩
      refine .inr ⟨h12, h3, ?_⟩
      have h4 := Int.mul_tdiv_add_tmod n (rU (c : Nat))
      rw [h3, Int.add_zero] at h4
      rw [← h4] at h2
      exact Int.le_of_mul_le_mul_left h2 r3
  · rw [if_neg (fun e => h12 (r1.1 e))]
    constructor
    · rintro (h | ⟨h, _⟩)
      · exact h.symm
      · exact absurd h h12
    · intro h; exact .inl h.symm
/-- the first code that tells is the shortest one -/
theorem rate_go (n : Int) (hn : 0 < n) (k : Nat) (hk : k ≤ 14) : shF rT n (k + 1) = ((rrF n k).1, (rrF n k).2, decide ((rrF n k).1 ≠ 0)) ∧ ((rrF n k).1 = 0 → (rrF n k).2 = 0) := by
  induction k with
  | zero =>
    have e : shF rT n 1 = shStep rT n (0, 0, false) 0 := rfl
    rw [e]
    unfold shStep
    rw [if_neg]
    · exact ⟨rfl, fun _ => rfl⟩
    · rintro ⟨h, _⟩
      have h2 : telP ⟨1, 0, 0, 0⟩ n := h
      have := (telP_unit (l := 0) (m := 0) (s := 0) n).1 h2
      omega
  | succ k ih =>
    obtain ⟨h1, h2⟩ := ih (by omega)
    have e : shF rT n (k + 1 + 1) = shStep rT n (shF rT n (k + 1)) (k + 1) := rfl
    have e2 : rrF n (k + 1) = if (rrF n k).1 = 0 ∧ telR (k + 1) n then (k + 1, n) else rrF n k := rfl
    have hle := rrF_le n k
    rw [e, h1]
    have ht := telR_iff (k + 1) n hn (by omega) (by omega)
    by_cases h0 : (rrF n k).1 = 0
    · by_cases h3 : telR (k + 1) n
      · rw [e2, if_pos ⟨h0, h3⟩]
        unfold shStep
        rw [if_pos ⟨ht.1 h3, .inl (by simp [h0])⟩]
        exact ⟨by simp, fun e => by simp at e⟩
      · rw [e2, if_neg (fun h => h3 h.2)]
        unfold shStep
        rw [if_neg (fun h => h3 (ht.2 h.1))]
        exact ⟨rfl, h2⟩
    · rw [e2, if_neg (fun h => h0 h.1)]
      unfold shStep
      rw [if_neg]
      · exact ⟨rfl, h2⟩
      · rintro ⟨h3, h4 | h4⟩
        · simp [h0] at h4
        · have hs : ∀ i, i < 15 → ∀ j, j < 15 → i ≤ j → (rowOf rT (i : Nat)).s ≤ (rowOf rT (j : Nat)).s := by decide
          have := hs (rrF n k).1 (by omega) (k + 1) (by omega) (by omega)
          simp only at h4
          omega
theorem rate_code (n : Int) (h0 : 0 ≤ n) : rrC n = ((shF rT n 16).1, (shF rT n 16).2.1) := by
  by_cases hn : 0 < n
  · unfold rrC
    rw [if_pos hn]
    obtain ⟨h1, h2⟩ := rate_go n hn 14 (by omega)
    have e : shF rT n 16 = shStep rT n (shF rT n 15) 15 := rfl
    have e15 : rowOf rT (15 : Nat) = z0 := rfl
    have : shF rT n 16 = shF rT n 15 := by
      rw [e]
      unfold shStep
      rw [if_neg]
      rintro ⟨h, _⟩
      rw [e15] at h
      exact h.1 rfl
    rw [this, h1]
  · have : n = 0 := by omega
    subst this
    decide +kernel
/-- the Block's code is the shortest one -/
theorem block_code (n : Int) (h1 : 1 ≤ n) (h2 : n ≤ 65535) : (shF bT n 16).1 = rbC n ∧ (shF bT n 16).2.1 = n := by
  by_cases hf : n = 192 ∨ n = 576 ∨ n = 1152 ∨ n = 2304 ∨ n = 4608 ∨ n = 256 ∨ n = 512 ∨ n = 1024 ∨ n = 2048 ∨ n = 4096 ∨ n = 8192 ∨ n = 16384 ∨ n = 32768
  · rcases hf with rfl | rfl | rfl | rfl | rfl | rfl | rfl | rfl | rfl | rfl | rfl | rfl | rfl <;> decide +kernel
  · simp only [not_or] at hf
    obtain ⟨f1, f2, f3, f4, f5, f6, f7, f8, f9, f10, f11, f12, f13⟩ := hf
    have no : ∀ k : Nat, k < 16 → k ≠ 6 → k ≠ 7 → ¬ telP (rowOf bT (k : Nat)) n := by
      intro k hk
      refine all16 (fun k => k ≠ 6 → k ≠ 7 → ¬ telP (rowOf bT (k : Nat)) n) ⟨?_, ?_, ?_, ?_, ?_, ?_, ?_, ?_, ?_, ?_, ?_, ?_, ?_, ?_, ?_, ?_⟩ k hk
      all_goals first
        | (intro _ _ h; exact h.1 rfl)
        | (intro h; exact absurd rfl h)
        | (intro _ h; exact absurd rfl h)
        | (intro _ _ h; have := (telP_one (by decide) n).1 h; omega)
    have nb : ∀ k : Nat, k < 16 → rB (k : Nat) ≠ n := by
      intro k hk
      refine all16 (fun k => rB (k : Nat) ≠ n) ⟨?_, ?_, ?_, ?_, ?_, ?_, ?_, ?_, ?_, ?_, ?_, ?_, ?_, ?_, ?_, ?_⟩ k hk
      all_goals (intro h; have h' := h.symm; revert h'; simp only [rB, rBl]; intro h'; first | (simp at h'; omega))
    have z : ∀ k, k ≤ 15 → rbF n k = 0 := by
      intro k
      induction k with
      | zero => intro _; rfl
      | succ k ih =>
        intro hk
        unfold rbF
        rw [if_neg (fun h => nb (k + 1) (by omega) h.1)]
        exact ih (by omega)
    have t6 : telP (rowOf bT (6 : Nat)) n ↔ n ≤ 256 := (telP_unit (l := 1) (m := 256) (s := 8) n).trans (by constructor <;> intro h <;> omega)
    have t7 : telP (rowOf bT (7 : Nat)) n := (telP_unit (l := 1) (m := 65535) (s := 16) n).2 (by omega)
    have s6 : shF bT n 6 = (0, 0, false) := by
      have : ∀ k, k ≤ 6 → shF bT n k = (0, 0, false) := by
        intro k
        induction k with
        | zero => intro _; rfl
        | succ k ih =>
          intro hk
          have e : shF bT n (k + 1) = shStep bT n (shF bT n k) k := rfl
          rw [e, ih (by omega)]
          exact if_neg (fun h => no k (by omega) (by omega) (by omega) h.1)
      exact this 6 (by omega)
    have s8 : shF bT n 8 = ((if n ≤ 256 then 6 else 7), n, true) := by
      have e7 : shF bT n 7 = shStep bT n (shF bT n 6) 6 := rfl
      have e8 : shF bT n 8 = shStep bT n (shF bT n 7) 7 := rfl
      rw [e8, e7, s6]
      by_cases h6 : n ≤ 256
      · rw [show shStep bT n (0, 0, false) 6 = (6, n, true) from if_pos ⟨t6.2 h6, .inl rfl⟩, if_pos h6]
        refine if_neg ?_
        rintro ⟨_, h | h⟩
        · cases h
        · have h' : (rowOf bT (7 : Nat)).s < (rowOf bT (6 : Nat)).s := h
          revert h'; decide
      · rw [show shStep bT n (0, 0, false) 6 = (0, 0, false) from if_neg (fun h => h6 (t6.1 h.1)), if_neg h6]
        exact if_pos ⟨t7, .inl rfl⟩
    have s16 : ∀ k, 8 ≤ k → k ≤ 16 → shF bT n k = ((if n ≤ 256 then 6 else 7), n, true) := by
      intro k
      induction k with
      | zero => intro h; omega
      | succ k ih =>
        intro h8 hk
        by_cases e8 : k = 7
        · subst e8; exact s8
        · have e : shF bT n (k + 1) = shStep bT n (shF bT n k) k := rfl
          rw [e, ih (by omega) (by omega)]
          exact if_neg (fun h => no k (by omega) (by omega) (by omega) h.1)
    rw [s16 16 (by omega) (by omega)]
    unfold rbC
    rw [z 15 (by omega), if_pos rfl]
    exact ⟨rfl, rfl⟩
end Go.Proofs.YteahiigfclabfaaDoor.H
