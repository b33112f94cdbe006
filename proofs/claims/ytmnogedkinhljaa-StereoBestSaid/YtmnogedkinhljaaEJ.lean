/-
  StereoBits: Extra, in, and its walk.
-/
import Derived.Test.YtmnogedkinhljaaEH
namespace Go.Proofs.Ytmnogedkinhljaa
open Go.RowKit Go.Shelf

/-- how many bits more -/
def exV (m ch : Int) : Int := if (m = 8 ∧ ch = 1) ∨ (m = 9 ∧ ch = 0) ∨ (m = 10 ∧ ch = 1) then 1 else 0
set_option maxHeartbeats 1000000 in
theorem extra_any (w : World) (m ch : Int) : Calls Try.prog 12 #[iv m, iv ch] w fun e w' => e = .returned (iv (exV m ch)) ∧ w = w' := by
  by_cases h8 : m = 8
  · subst h8
    by_cases hc : ch = 1
    · subst hc
      rw [show exV 8 1 = 1 by decide]
      go_enter Try.func12, Try.ntmps12
      go_wp2
      go_ret
      exact ⟨rfl, rfl⟩
    · rw [show exV 8 ch = 0 from if_neg (by omega)]
      go_enter Try.func12, Try.ntmps12
      go_wp2
      go_ret
      exact ⟨rfl, rfl⟩
  · by_cases h9 : m = 9
    · subst h9
      by_cases hc : ch = 0
      · subst hc
        rw [show exV 9 0 = 1 by decide]
        go_enter Try.func12, Try.ntmps12
        go_wp2
        go_ret
        exact ⟨rfl, rfl⟩
      · rw [show exV 9 ch = 0 from if_neg (by omega)]
        go_enter Try.func12, Try.ntmps12
        go_wp2
        go_ret
        exact ⟨rfl, rfl⟩
    · by_cases h10 : m = 10
      · subst h10
        by_cases hc : ch = 1
        · subst hc
          rw [show exV 10 1 = 1 by decide]
          go_enter Try.func12, Try.ntmps12
          go_wp2
          go_ret
          exact ⟨rfl, rfl⟩
        · rw [show exV 10 ch = 0 from if_neg (by omega)]
          go_enter Try.func12, Try.ntmps12
          go_wp2
          go_ret
          exact ⟨rfl, rfl⟩
      · rw [show exV m ch = 0 from if_neg (by omega)]
        go_enter Try.func12, Try.ntmps12
        go_wp2
        go_ret
        exact ⟨rfl, rfl⟩

/-- a number of so many bits -/
def inV (x : Int) (D : Nat) : Prop := -((2 ^ (D - 1) : Nat) : Int) ≤ x ∧ x < ((2 ^ (D - 1) : Nat) : Int)
instance (x : Int) (D : Nat) : Decidable (inV x D) := by unfold inV; infer_instance
theorem w64k (n : Int) (h0 : -9223372036854775808 ≤ n) (h1 : n ≤ 9223372036854775807) : IntKind.i64.wrap n = n := by rw [IntKind.wrap_i64]; omega
set_option maxHeartbeats 1000000 in
theorem in_any (w : World) (x : Int) (D : Nat) (h0 : 1 ≤ D) (h1 : D ≤ 40) : Calls Try.prog 11 #[iv x, iv D] w fun e w' => e = .returned (.bool (decide (inV x D))) ∧ w = w' := by
  obtain ⟨q, hq⟩ : ∃ q, D - 1 = q := ⟨_, rfl⟩
  have hqi : (D : Int) - 1 = (q : Int) := by omega
  have hq39 : q ≤ 39 := by omega
  have HI : Hid (inV x D ↔ -((2 ^ q : Nat) : Int) ≤ x ∧ x < ((2 ^ q : Nat) : Int)) := Lib.hid (by unfold inV; rw [hq])
  have hK1 := Nat.two_pow_pos q
  have hK2 := pow_le_of hq39
  have hpw : (2 : Int) ^ q = ((2 ^ q : Nat) : Int) := pow_cast q
  generalize (2 : Nat) ^ q = K at *
  have hK3 : K ≤ 549755813888 := hK2
  have hwq : IntKind.i64.wrap (q : Int) = (q : Int) := w64k _ (by omega) (by omega)
  have hwK : IntKind.i64.wrap (K : Int) = (K : Int) := w64k _ (by omega) (by omega)
  have hwN : IntKind.i64.wrap (-(K : Int)) = -(K : Int) := w64k _ (by omega) (by omega)
  clear hK2 hq
  by_cases h2 : -(K : Int) ≤ x
  · by_cases h3 : x < (K : Int)
    · have e1 : decide (inV x D) = true := decide_eq_true (HI.out.2 ⟨h2, h3⟩)
      rw [e1]
      clear e1 HI
      go_enter Try.func11, Try.ntmps11
      go_wp2
      go_ret
      exact ⟨rfl, rfl⟩
    · have e1 : decide (inV x D) = false := decide_eq_false (fun h => h3 (HI.out.1 h).2)
      rw [e1]
      clear e1 HI
      go_enter Try.func11, Try.ntmps11
      go_wp2
      go_ret
      exact ⟨rfl, rfl⟩
  · have e1 : decide (inV x D) = false := decide_eq_false (fun h => h2 (HI.out.1 h).1)
    rw [e1]
    clear e1 HI
    go_enter Try.func11, Try.ntmps11
    go_wp2
    go_ret
    exact ⟨rfl, rfl⟩
end Go.Proofs.Ytmnogedkinhljaa
