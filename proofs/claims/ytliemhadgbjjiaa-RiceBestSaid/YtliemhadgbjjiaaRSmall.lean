/-
  The small functions of package rice: checkBlock, checkParting, paramSize, rawCode, mostParam, isPart, isResidual, fold, unfold.
-/
import Derived.Test.YtliemhadgbjjiaaWmore
import Derived.Test.YtliemhadgbjjiaaRIn
import Derived.Outline
namespace Go.Proofs.Ytliemhadgbjjiaa
open Go.RowKit

/-- an int -/
abbrev iv (n : Int) : Value := .int .i64 n
/-- a residual without a sign -/
def fd (x : Int) : Nat := if x < 0 then (-2 * x - 1).toNat else (2 * x).toNat
/-- the residual that a number was -/
def ufd (n : Nat) : Int := if n % 2 = 1 then -(((n + 1) / 2 : Nat) : Int) else ((n / 2 : Nat) : Int)
/-- may a number be a residual -/
def isR (x : Int) : Prop := -2147483648 < x ∧ x < 2147483648
instance (x : Int) : Decidable (isR x) := by unfold isR; exact inferInstance
/-- what is wrong with a block -/
def ckB (b s : Int) : Int := if b < 1 ∨ 65535 < b ∨ s < 0 ∨ 32 < s then 1 else 0
/-- what is wrong with a parting -/
def ckP (o b s : Nat) : Int := if b % 2 ^ o ≠ 0 ∨ b / 2 ^ o ≤ s then 12 else 0
/-- may a part be -/
def isP (m p wd : Int) : Prop := (p = -1 ∧ 0 ≤ wd ∧ wd ≤ 31) ∨ (0 ≤ p ∧ p ≤ 14 + 16 * m ∧ wd = 0)
instance (m p wd : Int) : Decidable (isP m p wd) := by unfold isP; exact inferInstance

theorem fd_lt {x : Int} (h : isR x) : fd x < 4294967296 := by unfold fd; unfold isR at h; split <;> omega
theorem ufd_fd (x : Int) : ufd (fd x) = x := by unfold fd ufd; split <;> split <;> omega
theorem fd_ufd (n : Nat) : fd (ufd n) = n := by unfold ufd; split <;> unfold fd <;> split <;> omega

set_option maxHeartbeats 400000 in
theorem checkBlock_any (w : World) (b s : Int) :
    Calls Try.prog 41 #[iv b, iv s] w fun e w' => e = .returned (iv (ckB b s)) ∧ w = w' := by
  by_cases h1 : b < 1
  · have e1 : ckB b s = 1 := by unfold ckB; rw [if_pos (by omega)]
    rw [e1]
    go_enter Try.func41, Try.ntmps41
    go_wp2
    go_ret
    exact ⟨rfl, rfl⟩
  · by_cases h2 : 65535 < b
    · have e1 : ckB b s = 1 := by unfold ckB; rw [if_pos (by omega)]
      rw [e1]
      go_enter Try.func41, Try.ntmps41
      go_wp2
      go_ret
      exact ⟨rfl, rfl⟩
    · by_cases h3 : s < 0
      · have e1 : ckB b s = 1 := by unfold ckB; rw [if_pos (by omega)]
        rw [e1]
        go_enter Try.func41, Try.ntmps41
        go_wp2
        go_ret
        exact ⟨rfl, rfl⟩
      · by_cases h4 : 32 < s
        · have e1 : ckB b s = 1 := by unfold ckB; rw [if_pos (by omega)]
          rw [e1]
          go_enter Try.func41, Try.ntmps41
          go_wp2
          go_ret
          exact ⟨rfl, rfl⟩
        · have e1 : ckB b s = 0 := by unfold ckB; rw [if_neg (by omega)]
          rw [e1]
          go_enter Try.func41, Try.ntmps41
          go_wp2
          go_ret
          exact ⟨rfl, rfl⟩

set_option maxHeartbeats 400000 in
theorem checkParting_any (w : World) (o b s : Nat) (ho : o ≤ 15) (hb : b ≤ 65535) :
    Calls Try.prog 42 #[iv o, iv b, iv s] w fun e w' => e = .returned (iv (ckP o b s)) ∧ w = w' := by
  have hc : ckP o b s = if b % 2 ^ o ≠ 0 ∨ b / 2 ^ o ≤ s then 12 else 0 := rfl
  have hdl := Nat.div_le_self b (2 ^ o)
  generalize ckP o b s = C at *
  obtain ⟨P, hP⟩ : ∃ P : Nat, Hid (2 ^ o = P) := ⟨_, Lib.hid rfl⟩
  have hP2 : P ≤ 32768 := by rw [← hP.out]; exact Nat.pow_le_pow_right (by decide) ho
  have hP0 : 0 < P := by rw [← hP.out]; exact Nat.two_pow_pos o
  have hpw : (2 : Int) ^ o = (P : Int) := by rw [pow_cast, hP.out]
  have hPz : ¬ (P : Int) = 0 := by omega
  have hPz2 : ¬ P = 0 := by omega
  rw [hP.out] at hc hdl
  have hd : (b : Int) / (P : Int) = ((b / P : Nat) : Int) := by rw [← Int.natCast_ediv]
  have hm : Int.tmod (b : Int) (P : Int) = ((b % P : Nat) : Int) := by rw [Int.tmod_eq_emod_of_nonneg (by omega), Int.natCast_emod]
  have hm2 : (b : Int) % (P : Int) = ((b % P : Nat) : Int) := by rw [Int.natCast_emod]
  generalize b % P = R at *
  generalize b / P = D at *
  by_cases h1 : R = 0
  · subst h1
    by_cases h2 : D ≤ s
    · obtain rfl : C = 12 := by rw [hc, if_pos (.inr h2)]
      clear hc
      go_enter Try.func42, Try.ntmps42
      go_wp2
      go_ret
      exact ⟨rfl, rfl⟩
    · obtain rfl : C = 0 := by rw [hc, if_neg (by omega)]
      clear hc
      go_enter Try.func42, Try.ntmps42
      go_wp2
      go_ret
      exact ⟨rfl, rfl⟩
  · obtain rfl : C = 12 := by rw [hc, if_pos (.inl h1)]
    clear hc
    have h3 : ((R : Int) != 0) = true := by simp; omega
    go_enter Try.func42, Try.ntmps42
    go_wp2
    go_ret
    exact ⟨rfl, rfl⟩

set_option maxHeartbeats 400000 in
theorem paramSize_any (w : World) (m : Int) (hm : m = 0 ∨ m = 1) :
    Calls Try.prog 59 #[iv m] w fun e w' => e = .returned (iv (4 + m)) ∧ w = w' := by
  rcases hm with rfl | rfl
  all_goals
    go_enter Try.func59, Try.ntmps59
    go_wp2
    go_ret
    exact ⟨rfl, rfl⟩
set_option maxHeartbeats 400000 in
theorem rawCode_any (w : World) (m : Int) (hm : m = 0 ∨ m = 1) :
    Calls Try.prog 61 #[iv m] w fun e w' => e = .returned (iv (15 + 16 * m)) ∧ w = w' := by
  have H := Lib.hid (paramSize_any w m hm)
  rcases hm with rfl | rfl
  all_goals
    go_enter Try.func61, Try.ntmps61
    go_wp2_with fail
    refine (H.out).mono ?_
    rintro e w1 ⟨rfl, rfl⟩
    go_wp2
    go_ret
    exact ⟨rfl, rfl⟩
set_option maxHeartbeats 400000 in
theorem mostParam_any (w : World) (m : Int) (hm : m = 0 ∨ m = 1) :
    Calls Try.prog 64 #[iv m] w fun e w' => e = .returned (iv (14 + 16 * m)) ∧ w = w' := by
  have H := Lib.hid (rawCode_any w m hm)
  rcases hm with rfl | rfl
  all_goals
    go_enter Try.func64, Try.ntmps64
    go_wp2_with fail
    refine (H.out).mono ?_
    rintro e w1 ⟨rfl, rfl⟩
    go_wp2
    go_ret
    exact ⟨rfl, rfl⟩
set_option maxHeartbeats 1000000 in
theorem isPart_any (w : World) (m p wd : Int) (hm : m = 0 ∨ m = 1) :
    Calls Try.prog 43 #[iv m, iv p, iv wd] w fun e w' => e = .returned (.bool (decide (isP m p wd))) ∧ w = w' := by
  have H := Lib.hid (mostParam_any w m hm)
  obtain ⟨r, hr⟩ : ∃ r, Hid (decide (isP m p wd) = r) := ⟨_, Lib.hid rfl⟩
  have fin : ∀ q : Bool, (q = true ↔ isP m p wd) → r = q := by
    intro q hq
    rw [← hr.out]
    by_cases h : isP m p wd
    · rw [hq.2 h, decide_eq_true h]
    · rw [decide_eq_false h]
      cases q with
      | false => rfl
      | true => exact absurd (hq.1 rfl) h
  unfold isP at fin
  rw [hr.out]
  have F := Lib.hid fin
  clear fin hr
  generalize hM : 14 + 16 * m = M at *
  by_cases h1 : p = -1
  · subst h1
    by_cases h2 : 0 ≤ wd
    · by_cases h3 : wd ≤ 31
      · obtain rfl := F.out true (by simp; omega)
        go_enter Try.func43, Try.ntmps43
        go_wp2
        go_ret
        exact ⟨rfl, rfl⟩
      · obtain rfl := F.out false (by simp; omega)
        go_enter Try.func43, Try.ntmps43
        go_wp2
        go_ret
        exact ⟨rfl, rfl⟩
    · obtain rfl := F.out false (by simp; omega)
      go_enter Try.func43, Try.ntmps43
      go_wp2
      go_ret
      exact ⟨rfl, rfl⟩
  · have h1b : (p == -1) = false := by simpa using h1
    by_cases h2 : 0 ≤ p
    · by_cases h3 : p ≤ M
      · by_cases h4 : wd = 0
        · subst h4
          obtain rfl := F.out true (by simp; omega)
          go_enter Try.func43, Try.ntmps43
          go_wp2_with fail
          refine (H.out).mono ?_
          rintro e w1 ⟨rfl, rfl⟩
          go_wp2
          go_ret
          exact ⟨rfl, rfl⟩
        · obtain rfl := F.out false (by simp; omega)
          have h4b : (wd == 0) = false := by simpa using h4
          go_enter Try.func43, Try.ntmps43
          go_wp2_with fail
          refine (H.out).mono ?_
          rintro e w1 ⟨rfl, rfl⟩
          go_wp2
          go_ret
          exact ⟨rfl, rfl⟩
      · obtain rfl := F.out false (by simp; omega)
        go_enter Try.func43, Try.ntmps43
        go_wp2_with fail
        refine (H.out).mono ?_
        rintro e w1 ⟨rfl, rfl⟩
        go_wp2
        go_ret
        exact ⟨rfl, rfl⟩
    · obtain rfl := F.out false (by simp; omega)
      go_enter Try.func43, Try.ntmps43
      go_wp2
      go_ret
      exact ⟨rfl, rfl⟩
set_option maxHeartbeats 400000 in
theorem isResidual_any (w : World) (x : Int) :
    Calls Try.prog 54 #[iv x] w fun e w' => e = .returned (.bool (decide (isR x))) ∧ w = w' := by
  by_cases h1 : -2147483648 < x
  · by_cases h2 : x < 2147483648
    · rw [decide_eq_true (show isR x from ⟨h1, h2⟩)]
      go_enter Try.func54, Try.ntmps54
      go_wp2
      go_ret
      exact ⟨rfl, rfl⟩
    · rw [decide_eq_false (show ¬ isR x from fun h => h2 h.2)]
      go_enter Try.func54, Try.ntmps54
      go_wp2
      go_ret
      exact ⟨rfl, rfl⟩
  · rw [decide_eq_false (show ¬ isR x from fun h => h1 h.1)]
    go_enter Try.func54, Try.ntmps54
    go_wp2
    go_ret
    exact ⟨rfl, rfl⟩
set_option maxHeartbeats 400000 in
theorem fold_any (w : World) (x : Int) (hx : isR x) :
    Calls Try.prog 55 #[iv x] w fun e w' => e = .returned (iv (fd x : Nat)) ∧ w = w' := by
  obtain ⟨hx1, hx2⟩ := hx
  by_cases h1 : x < 0
  · have e1 : ((fd x : Nat) : Int) = -2 * x - 1 := by unfold fd; rw [if_pos h1]; omega
    rw [e1]
    clear e1
    go_enter Try.func55, Try.ntmps55
    go_wp2
    go_ret
    exact ⟨rfl, rfl⟩
  · have e1 : ((fd x : Nat) : Int) = 2 * x := by unfold fd; rw [if_neg h1]; omega
    rw [e1]
    clear e1
    go_enter Try.func55, Try.ntmps55
    go_wp2
    go_ret
    exact ⟨rfl, rfl⟩
set_option maxHeartbeats 400000 in
theorem unfold_any (w : World) (n : Nat) (hn : n < 4611686018427387904) :
    Calls Try.prog 83 #[iv n] w fun e w' => e = .returned (iv (ufd n)) ∧ w = w' := by
  have hm : Int.tmod (n : Int) 2 = ((n % 2 : Nat) : Int) := by rw [Int.tmod_eq_emod_of_nonneg (by omega)]; omega
  have hm2 : (n : Int) % 2 = ((n % 2 : Nat) : Int) := by omega
  have hn2 : (n : Int) < 4611686018427387904 := by omega
  have hu1 : -4611686018427387904 ≤ ufd n := by unfold ufd; split <;> omega
  have hu2 : ufd n ≤ 4611686018427387904 := by unfold ufd; split <;> omega
  clear hn
  by_cases h1 : n % 2 = 1
  · have hb : (((n % 2 : Nat) : Int) == 1) = true := by rw [h1]; rfl
    have hd : Int.tdiv (-((n : Int) + 1)) 2 = ufd n := by
      unfold ufd; rw [if_pos h1, Int.neg_tdiv, Int.tdiv_eq_ediv_of_nonneg (by omega)]; omega
    generalize ufd n = U at *
    go_enter Try.func83, Try.ntmps83
    go_wp2
    go_ret
    exact ⟨rfl, rfl⟩
  · have hb : (((n % 2 : Nat) : Int) == 1) = false := by simp; omega
    have hd : Int.tdiv (n : Int) 2 = ufd n := by
      unfold ufd; rw [if_neg h1, Int.tdiv_eq_ediv_of_nonneg (by omega)]; omega
    have hd2 : (n : Int) / 2 = ufd n := by unfold ufd; rw [if_neg h1]; omega
    clear h1
    generalize ufd n = U at *
    generalize n % 2 = R at *
    go_enter Try.func83, Try.ntmps83
    go_wp2
    go_ret
    exact ⟨rfl, rfl⟩
end Go.Proofs.Ytliemhadgbjjiaa
