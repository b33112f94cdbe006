/-
  The document's side of package header: Block, Rate, Depth, Unit, most, Plain.
-/
import Derived.Test.YteahiigfclabfaaDoorHM
namespace Go.Proofs.YteahiigfclabfaaDoor.H
open Go.RowKit

def rBl : List Int := [-1, 192, 576, 1152, 2304, 4608, 0, 0, 256, 512, 1024, 2048, 4096, 8192, 16384, 32768]
def rRl : List Int := [0, 88200, 176400, 192000, 8000, 16000, 22050, 24000, 32000, 44100, 48000, 96000, -2, -2, -2, -1]
def rDl : List Int := [0, 8, 12, -1, 16, 20, 24, 32]
def rB (c : Int) : Int := if c < 0 ∨ 15 < c then -1 else rBl.getD c.toNat 0
def rR (c : Int) : Int := if c < 0 ∨ 15 < c then -1 else rRl.getD c.toNat 0
def rD (c : Int) : Int := if c < 0 ∨ 7 < c then -1 else rDl.getD c.toNat 0
def rU (c : Int) : Int := if c = 12 then 1000 else if c = 14 then 10 else 1
set_option maxHeartbeats 2000000 in
theorem rB_any (c : Int) (w : World) : Calls Tryd.prog 19 #[iv c] w fun e w' => e = .returned (iv (rB c)) ∧ Only Nix w w' := by
  by_cases h0 : c < 0
  · have e1 : rB c = -1 := if_pos (.inl h0)
    rw [e1]
    go_enter Tryd.func19, Tryd.ntmps19
    go_wp2
    go_ret
    exact ⟨rfl, (Only.refl Nix w).alloc _⟩
  · by_cases h1 : 15 < c
    · have e1 : rB c = -1 := if_pos (.inr h1)
      rw [e1]
      go_enter Tryd.func19, Tryd.ntmps19
      go_wp2
      go_ret
      exact ⟨rfl, (Only.refl Nix w).alloc _⟩
    · obtain ⟨k, rfl⟩ : ∃ k : Nat, c = k := ⟨c.toNat, by omega⟩
      have e1 : rB k = rBl.getD k 0 := if_neg (by omega)
      have hk : k < 16 := by omega
      have hki : (k : Int) < 16 := by omega
      have hc : ∀ t, (w.alloc (.cells #[iv (-1), iv 192, iv 576, iv 1152, iv 2304, iv 4608, iv 0, iv 0, iv 256, iv 512, iv 1024, iv 2048, iv 4096, iv 8192, iv 16384, iv 32768] t)).cell? ⟨w.heap.size, k, none⟩ = some (iv (rBl.getD k 0)) := fun t => by
        rw [(Box.new w t _).cell]
        show ((rBl.map iv).toArray)[k]? = _
        have hl : k < rBl.length := hk
        simp [hl]
      rw [e1]
      generalize rBl.getD k 0 = V at *
      clear e1 hk
      go_enter Tryd.func19, Tryd.ntmps19
      go_wp2
      go_ret
      exact ⟨rfl, (Only.refl Nix w).alloc _⟩
set_option maxHeartbeats 2000000 in
theorem rR_any (c : Int) (w : World) : Calls Tryd.prog 20 #[iv c] w fun e w' => e = .returned (iv (rR c)) ∧ Only Nix w w' := by
  by_cases h0 : c < 0
  · have e1 : rR c = -1 := if_pos (.inl h0)
    rw [e1]
    go_enter Tryd.func20, Tryd.ntmps20
    go_wp2
    go_ret
    exact ⟨rfl, (Only.refl Nix w).alloc _⟩
  · by_cases h1 : 15 < c
    · have e1 : rR c = -1 := if_pos (.inr h1)
      rw [e1]
      go_enter Tryd.func20, Tryd.ntmps20
      go_wp2
      go_ret
      exact ⟨rfl, (Only.refl Nix w).alloc _⟩
    · obtain ⟨k, rfl⟩ : ∃ k : Nat, c = k := ⟨c.toNat, by omega⟩
      have e1 : rR k = rRl.getD k 0 := if_neg (by omega)
      have hk : k < 16 := by omega
      have hki : (k : Int) < 16 := by omega
      have hc : ∀ t, (w.alloc (.cells #[iv 0, iv 88200, iv 176400, iv 192000, iv 8000, iv 16000, iv 22050, iv 24000, iv 32000, iv 44100, iv 48000, iv 96000, iv (-2), iv (-2), iv (-2), iv (-1)] t)).cell? ⟨w.heap.size, k, none⟩ = some (iv (rRl.getD k 0)) := fun t => by
        rw [(Box.new w t _).cell]
        show ((rRl.map iv).toArray)[k]? = _
        have hl : k < rRl.length := hk
        simp [hl]
      rw [e1]
      generalize rRl.getD k 0 = V at *
      clear e1 hk
      go_enter Tryd.func20, Tryd.ntmps20
      go_wp2
      go_ret
      exact ⟨rfl, (Only.refl Nix w).alloc _⟩
set_option maxHeartbeats 2000000 in
theorem rD_any (c : Int) (w : World) : Calls Tryd.prog 21 #[iv c] w fun e w' => e = .returned (iv (rD c)) ∧ Only Nix w w' := by
  by_cases h0 : c < 0
  · have e1 : rD c = -1 := if_pos (.inl h0)
    rw [e1]
    go_enter Tryd.func21, Tryd.ntmps21
    go_wp2
    go_ret
    exact ⟨rfl, (Only.refl Nix w).alloc _⟩
  · by_cases h1 : 7 < c
    · have e1 : rD c = -1 := if_pos (.inr h1)
      rw [e1]
      go_enter Tryd.func21, Tryd.ntmps21
      go_wp2
      go_ret
      exact ⟨rfl, (Only.refl Nix w).alloc _⟩
    · obtain ⟨k, rfl⟩ : ∃ k : Nat, c = k := ⟨c.toNat, by omega⟩
      have e1 : rD k = rDl.getD k 0 := if_neg (by omega)
      have hk : k < 8 := by omega
      have hki : (k : Int) < 8 := by omega
      have hc : ∀ t, (w.alloc (.cells #[iv 0, iv 8, iv 12, iv (-1), iv 16, iv 20, iv 24, iv 32] t)).cell? ⟨w.heap.size, k, none⟩ = some (iv (rDl.getD k 0)) := fun t => by
        rw [(Box.new w t _).cell]
        show ((rDl.map iv).toArray)[k]? = _
        have hl : k < rDl.length := hk
        simp [hl]
      rw [e1]
      generalize rDl.getD k 0 = V at *
      clear e1 hk
      go_enter Tryd.func21, Tryd.ntmps21
      go_wp2
      go_ret
      exact ⟨rfl, (Only.refl Nix w).alloc _⟩
theorem unit_any (c : Int) (w : World) : Calls Tryd.prog 23 #[iv c] w fun e w' => e = .returned (iv (rU c)) ∧ w = w' := by
  by_cases h0 : c = 12
  · subst h0
    go_enter Tryd.func23, Tryd.ntmps23
    go_wp2
    go_ret
    exact ⟨rfl, rfl⟩
  · by_cases h1 : c = 14
    · subst h1
      go_enter Tryd.func23, Tryd.ntmps23
      go_wp2
      go_ret
      exact ⟨rfl, rfl⟩
    · have e : rU c = 1 := by unfold rU; rw [if_neg h0, if_neg h1]
      rw [e]
      go_enter Tryd.func23, Tryd.ntmps23
      go_wp2
      go_ret
      exact ⟨rfl, rfl⟩
def mostV (v : Bool) : Int := if v = true then 68719476736 else 2147483648
theorem most_any (v : Bool) (w : World) : Calls Tryd.prog 22 #[.bool v] w fun e w' => e = .returned (iv (mostV v)) ∧ w = w' := by
  go_enter Tryd.func22, Tryd.ntmps22
  cases v
  · go_wp2
    go_ret
    exact ⟨rfl, rfl⟩
  · go_wp2
    go_ret
    exact ⟨rfl, rfl⟩

/-! the document's answers are the tables' -/
theorem telP_one {u s : Nat} (hu : u ≠ 0) (n : Int) : telP ⟨u, 1, 1, s⟩ n ↔ n = u := by
  constructor
  · intro h
    obtain ⟨q, rfl, h1, h2⟩ := telP_mul h
    have : q = 1 := by simp only at h1 h2; omega
    subst this
    simp
  · rintro rfl
    have := mul_telP (r := ⟨u, 1, 1, s⟩) hu (q := 1) (Nat.le_refl _) (Nat.le_refl _)
    simpa using this
theorem telP_unit {l m s : Nat} (n : Int) : telP ⟨1, l, m, s⟩ n ↔ (l : Int) ≤ n ∧ n ≤ m := by
  unfold telP
  simp
theorem telP_many {u m s : Nat} (hu : u ≠ 0) (n : Int) : telP ⟨u, 0, m, s⟩ n ↔ 0 ≤ n ∧ n ≤ u * m ∧ n.tmod u = 0 := by
  constructor
  · intro h
    have h3 := h.2.1
    obtain ⟨q, rfl, h1, h2⟩ := telP_mul h
    have := Nat.mul_le_mul_left u h2
    refine ⟨by omega, ?_, h3⟩
    simp only at this ⊢
    exact_mod_cast this
  · rintro ⟨h1, h2, h3⟩
    refine ⟨hu, h3, ?_, ?_⟩
    · show ((0 : Nat) : Int) ≤ n.tdiv u
      exact Int.tdiv_nonneg h1 (by omega)
    · show n.tdiv u ≤ m
      rw [Int.tdiv_eq_ediv_of_nonneg h1]
      have := Int.ediv_le_ediv (by omega : (0 : Int) < u) h2
      rwa [Int.mul_ediv_cancel_left _ (by omega)] at this
theorem all16 (p : Nat → Prop) (h : p 0 ∧ p 1 ∧ p 2 ∧ p 3 ∧ p 4 ∧ p 5 ∧ p 6 ∧ p 7 ∧ p 8 ∧ p 9 ∧ p 10 ∧ p 11 ∧ p 12 ∧ p 13 ∧ p 14 ∧ p 15) (k : Nat) (hk : k < 16) : p k := by
  obtain ⟨h0, h1, h2, h3, h4, h5, h6, h7, h8, h9, h10, h11, h12, h13, h14, h15⟩ := h
  rcases (show k = 0 ∨ k = 1 ∨ k = 2 ∨ k = 3 ∨ k = 4 ∨ k = 5 ∨ k = 6 ∨ k = 7 ∨ k = 8 ∨ k = 9 ∨ k = 10 ∨ k = 11 ∨ k = 12 ∨ k = 13 ∨ k = 14 ∨ k = 15 by omega) with rfl | rfl | rfl | rfl | rfl | rfl | rfl | rfl | rfl | rfl | rfl | rfl | rfl | rfl | rfl | rfl <;> assumption
theorem rB_neg (c : Int) : rB c < 0 ↔ (rowOf bT c).u = 0 := by
  by_cases h : c < 0 ∨ 15 < c
  · have e : rowOf bT c = z0 := if_pos (by omega)
    rw [e, show rB c = -1 from if_pos h]
    decide
  · obtain ⟨k, rfl⟩ : ∃ k : Nat, c = k := ⟨c.toNat, by omega⟩
    exact all16 (fun k => rB (k : Nat) < 0 ↔ (rowOf bT (k : Nat)).u = 0) (by decide) k (by omega)
theorem rR_neg (c : Int) : rR c = -1 ↔ (rowOf rT c).u = 0 := by
  by_cases h : c < 0 ∨ 15 < c
  · have e : rowOf rT c = z0 := if_pos (by omega)
    rw [e, show rR c = -1 from if_pos h]
    decide
  · obtain ⟨k, rfl⟩ : ∃ k : Nat, c = k := ⟨c.toNat, by omega⟩
    exact all16 (fun k => rR (k : Nat) = -1 ↔ (rowOf rT (k : Nat)).u = 0) (by decide) k (by omega)
theorem rD_neg (c : Int) : rD c < 0 ↔ (rowOf dT c).u = 0 := by
  by_cases h : c < 0 ∨ 7 < c
  · rw [show rD c = -1 from if_pos h]
    constructor
    · intro _
      by_cases h2 : (rowOf dT c).u = 0
      · exact h2
      · have := row8 c h2; omega
    · intro _; decide
  · obtain ⟨k, rfl⟩ : ∃ k : Nat, c = k := ⟨c.toNat, by omega⟩
    have h2 : ∀ k, k < 8 → (rD (k : Nat) < 0 ↔ (rowOf dT (k : Nat)).u = 0) := by decide
    exact h2 k (by omega)
/-- which numbers a Block's code tells, by the document -/
def rBok (c n : Int) : Prop := if c = 6 then 1 ≤ n ∧ n ≤ 256 else if c = 7 then 1 ≤ n ∧ n ≤ 65535 else n = rB c
instance (c n : Int) : Decidable (rBok c n) := by unfold rBok; exact inferInstance
def rTop (c : Int) : Int := if c = 12 then 255 else 65535
def rRok (c n : Int) : Prop := if rR c = -2 then 0 ≤ n ∧ n ≤ rU c * rTop c ∧ n.tmod (rU c) = 0 else n = rR c
instance (c n : Int) : Decidable (rRok c n) := by unfold rRok; exact inferInstance
theorem rBok_iff (c n : Int) (h : (rowOf bT c).u ≠ 0) : telP (rowOf bT c) n ↔ rBok c n := by
  obtain ⟨h0, h1⟩ := row_lt c h
  obtain ⟨k, rfl⟩ : ∃ k : Nat, c = k := ⟨c.toNat, by omega⟩
  have h2 : ∀ k, k < 16 → (rowOf bT (k : Nat)).u ≠ 0 → (telP (rowOf bT (k : Nat)) n ↔ rBok (k : Nat) n) := by
    refine all16 _ ⟨?_, ?_, ?_, ?_, ?_, ?_, ?_, ?_, ?_, ?_, ?_, ?_, ?_, ?_, ?_, ?_⟩
    · intro h; exact absurd rfl h
    all_goals first
      | (intro _; exact telP_one (by decide) n)
      | (intro _; exact telP_unit n)
  exact h2 k (by omega) h
theorem rRok_iff (c n : Int) (h : (rowOf rT c).u ≠ 0) : telP (rowOf rT c) n ↔ rRok c n := by
  obtain ⟨h0, h1⟩ := row_lt c h
  obtain ⟨k, rfl⟩ : ∃ k : Nat, c = k := ⟨c.toNat, by omega⟩
  have h2 : ∀ k, k < 16 → (rowOf rT (k : Nat)).u ≠ 0 → (telP (rowOf rT (k : Nat)) n ↔ rRok (k : Nat) n) := by
    refine all16 _ ⟨?_, ?_, ?_, ?_, ?_, ?_, ?_, ?_, ?_, ?_, ?_, ?_, ?_, ?_, ?_, ?_⟩
    · intro _
      refine (telP_unit n).trans ?_
      show _ ↔ n = 0
      constructor
      · rintro ⟨a, b⟩; omega
      · rintro rfl; exact ⟨Int.le_refl _, Int.le_refl _⟩
    all_goals first
      | (intro _; exact telP_one (by decide) n)
      | (intro _; exact telP_many (by decide) n)
      | (intro h; exact absurd rfl h)
  exact h2 k (by omega) h
theorem rDok_iff (c n : Int) (h : (rowOf dT c).u ≠ 0) : telP (rowOf dT c) n ↔ n = rD c := by
  obtain ⟨h0, h1⟩ := row8 c h
  obtain ⟨k, rfl⟩ : ∃ k : Nat, c = k := ⟨c.toNat, by omega⟩
  have h2 : ∀ k, k < 16 → k < 8 → (rowOf dT (k : Nat)).u ≠ 0 → (telP (rowOf dT (k : Nat)) n ↔ n = rD (k : Nat)) := by
    refine all16 _ ⟨?_, ?_, ?_, ?_, ?_, ?_, ?_, ?_, ?_, ?_, ?_, ?_, ?_, ?_, ?_, ?_⟩
    · intro _ _
      refine (telP_unit n).trans ?_
      show _ ↔ n = 0
      constructor
      · rintro ⟨a, b⟩; omega
      · rintro rfl; exact ⟨Int.le_refl _, Int.le_refl _⟩
    all_goals first
      | (intro h _; exact absurd h (by decide))
      | (intro _ _; exact telP_one (by decide) n)
      | (intro _ h; exact absurd rfl h)
  exact h2 k (by omega) (by omega) h
/-- what is wrong with a header, by the document -/
def rckE (h : Hd) : Int :=
  if rB h.bc < 0 ∨ rR h.rc = -1 ∨ h.mo < 0 ∨ 10 < h.mo ∨ rD h.dc < 0 then 13
  else if h.num < 0 ∨ mostV h.v ≤ h.num then 10
  else if ¬ rBok h.bc h.blk ∨ ¬ rRok h.rc h.rate ∨ h.dep ≠ rD h.dc then 22 else 0
theorem rck_ck (h : Hd) : rckE h = ckE h := by
  unfold rckE ckE
  by_cases hm : h.mo < 0 ∨ 10 < h.mo
  · have e : chE h.mo = 13 := if_pos (by omega)
    rw [if_pos (by rcases hm with h | h <;> simp [h]), e]
    rfl
  · have e : chE h.mo = 0 := (chE_zero _).2 (by omega)
    rw [e]
    by_cases h1 : rB h.bc < 0 ∨ rR h.rc = -1 ∨ rD h.dc < 0
    · rw [if_pos (by rcases h1 with h | h | h <;> simp [h])]
      rw [rB_neg, rR_neg, rD_neg] at h1
      have : ((decide ((rowOf bT h.bc).u ≠ 0) && decide ((rowOf rT h.rc).u ≠ 0)) && decide ((rowOf dT h.dc).u ≠ 0)) = false := by
        rcases h1 with h | h | h <;> simp [h]
      rw [this]
      rfl
    · rw [if_neg (by simp only [not_or] at h1 hm ⊢; exact ⟨h1.1, h1.2.1, hm.1, hm.2, h1.2.2⟩)]
      rw [rB_neg, rR_neg, rD_neg] at h1
      simp only [not_or] at h1
      obtain ⟨b1, b2, b3⟩ := h1
      have : ((decide ((rowOf bT h.bc).u ≠ 0) && decide ((rowOf rT h.rc).u ≠ 0)) && decide ((rowOf dT h.dc).u ≠ 0)) = true := by simp [b1, b2, b3]
      rw [this]
      have hn : (h.num < 0 ∨ mostV h.v ≤ h.num) ↔ ¬ mayN h.v h.num := by unfold mayN mostV; omega
      by_cases h2 : mayN h.v h.num
      · rw [if_neg (fun e => hn.1 e h2), decide_eq_true h2]
        have i1 := rBok_iff h.bc h.blk b1
        have i2 := rRok_iff h.rc h.rate b2
        have hd := rDok_iff h.dc h.dep b3
        by_cases k1 : telP (rowOf bT h.bc) h.blk
        · by_cases k2 : telP (rowOf rT h.rc) h.rate
          · by_cases k3 : telP (rowOf dT h.dc) h.dep
            · rw [if_neg (by simp only [not_or, Classical.not_not]; exact ⟨i1.1 k1, i2.1 k2, hd.1 k3⟩), decide_eq_true k1, decide_eq_true k2, decide_eq_true k3]; rfl
            · rw [if_pos (.inr (.inr (fun e => k3 (hd.2 e)))), decide_eq_true k1, decide_eq_true k2, decide_eq_false k3]; rfl
          · rw [if_pos (.inr (.inl (fun e => k2 (i2.2 e)))), decide_eq_true k1, decide_eq_false k2]; rfl
        · rw [if_pos (.inl (fun e => k1 (i1.2 e))), decide_eq_false k1]; rfl
      · rw [if_pos (hn.2 h2), decide_eq_false h2]; rfl
end Go.Proofs.YteahiigfclabfaaDoor.H
