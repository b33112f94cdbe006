/-
  The modes: what is written of two numbers; the closures that do it; what is wrong with channels.
-/
import Derived.Test.YtmnogedkinhljaaEA
namespace Go.Proofs.Ytmnogedkinhljaa
open Go.RowKit

/-- a number that may be -/
def isN (x : Int) : Prop := -1099511627776 ≤ x ∧ x ≤ 1099511627776
instance (x : Int) : Decidable (isN x) := by unfold isN; infer_instance
/-- a mode -/
def isM (m : Int) : Prop := m = 1 ∨ m = 8 ∨ m = 9 ∨ m = 10
instance (m : Int) : Decidable (isM m) := by unfold isM; infer_instance
/-- what is written of two numbers in a mode -/
def twA (m l r : Int) : Int := if m = 9 then l - r else if m = 10 then (l + r) / 2 else l
def twB (m l r : Int) : Int := if m = 8 then l - r else if m = 10 then l - r else r
/-- what is wrong with two channels -/
def ckE (xs ys : List Int) : Int := if xs.length ≠ ys.length then 1 else if (∀ x ∈ xs, isN x) ∧ (∀ y ∈ ys, isN y) then 0 else 10
/-- .. with a mode and two channels -/
def wrE (m : Int) (xs ys : List Int) : Int := if isM m then ckE xs ys else 13

/-- a closure that turns two numbers into these -/
def TurnC (k : FuncId) (f g : Int → Int → Int) : Prop :=
  ∀ (w : World) (l r : Int), isN l → isN r → Calls Try.prog k #[iv l, iv r] w fun e w' => e = two (f l r) (g l r) ∧ w = w'

theorem turn_1 : TurnC 24 (twA 1) (twB 1) := by
  intro w l r hl hr
  unfold isN at hl hr
  have e1 : twA 1 l r = l := rfl
  have e2 : twB 1 l r = r := rfl
  rw [e1, e2]
  clear e1 e2
  go_enter Try.func24, Try.ntmps24
  go_wp2
  go_ret2
  exact ⟨rfl, rfl⟩
theorem turn_8 : TurnC 25 (twA 8) (twB 8) := by
  intro w l r hl hr
  unfold isN at hl hr
  have e1 : twA 8 l r = l := rfl
  have e2 : twB 8 l r = l - r := rfl
  rw [e1, e2]
  clear e1 e2
  go_enter Try.func25, Try.ntmps25
  go_wp2
  go_ret2
  exact ⟨by go_num, rfl⟩
theorem turn_9 : TurnC 26 (twA 9) (twB 9) := by
  intro w l r hl hr
  unfold isN at hl hr
  have e1 : twA 9 l r = l - r := rfl
  have e2 : twB 9 l r = r := rfl
  rw [e1, e2]
  clear e1 e2
  go_enter Try.func26, Try.ntmps26
  go_wp2
  go_ret2
  exact ⟨by go_num, rfl⟩
theorem turn_10 : TurnC 27 (twA 10) (twB 10) := by
  intro w l r hl hr
  unfold isN at hl hr
  have e1 : twA 10 l r = (l + r) / 2 := rfl
  have e2 : twB 10 l r = l - r := rfl
  rw [e1, e2]
  clear e1 e2
  go_enter Try.func27, Try.ntmps27
  go_wp2
  go_ret2
  exact ⟨by go_num, rfl⟩
theorem join_9 : TurnC 31 (fun a b => a + b) (fun _ b => b) := by
  intro w l r hl hr
  unfold isN at hl hr
  show Calls _ _ _ _ fun e w' => e = two (l + r) r ∧ w = w'
  go_enter Try.func31, Try.ntmps31
  go_wp2
  go_ret2
  exact ⟨by go_num, rfl⟩

/-- the closure of a mode -/
def turnV (m : Int) : Value := if m = 1 then .func (.func 24) #[] #[] else if m = 8 then .func (.func 25) #[] #[] else if m = 9 then .func (.func 26) #[] #[] else if m = 10 then .func (.func 27) #[] #[] else .nilFunc
set_option maxHeartbeats 1000000 in
theorem parting_any (w : World) (m : Int) : Calls Try.prog 18 #[iv m] w fun e w' => e = .returned (turnV m) ∧ w = w' := by
  by_cases h1 : m = 1
  · subst h1
    go_enter Try.func18, Try.ntmps18
    go_wp2
    go_ret
    exact ⟨rfl, rfl⟩
  · by_cases h2 : m = 8
    · subst h2
      go_enter Try.func18, Try.ntmps18
      go_wp2
      go_ret
      exact ⟨rfl, rfl⟩
    · by_cases h3 : m = 9
      · subst h3
        go_enter Try.func18, Try.ntmps18
        go_wp2
        go_ret
        exact ⟨rfl, rfl⟩
      · by_cases h4 : m = 10
        · subst h4
          go_enter Try.func18, Try.ntmps18
          go_wp2
          go_ret
          exact ⟨rfl, rfl⟩
        · have e : turnV m = .nilFunc := by unfold turnV; rw [if_neg h1, if_neg h2, if_neg h3, if_neg h4]
          rw [e]
          go_enter Try.func18, Try.ntmps18
          go_wp2
          go_ret
          exact ⟨rfl, rfl⟩
set_option maxHeartbeats 1000000 in
theorem joining_9 (w : World) : Calls Try.prog 23 #[iv 9] w fun e w' => e = .returned (.func (.func 31) #[] #[]) ∧ w = w' := by
  go_enter Try.func23, Try.ntmps23
  go_wp2
  go_ret
  exact ⟨rfl, rfl⟩
end Go.Proofs.Ytmnogedkinhljaa
