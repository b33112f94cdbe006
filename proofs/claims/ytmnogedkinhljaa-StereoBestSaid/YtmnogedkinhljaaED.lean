/-
  The document's answer: Wrong, half, Two.
-/
import Derived.Test.YtmnogedkinhljaaEC
import Derived.Laws.Small
namespace Go.Proofs.Ytmnogedkinhljaa
open Go.RowKit

theorem tdiv2 (x : Int) : x.tdiv 2 = if 0 ≤ x then x / 2 else -((-x) / 2) := tdiv_eq_if x 2
set_option maxHeartbeats 1000000 in
theorem half_any (w : World) (x : Int) (h0 : -8796093022208 ≤ x) (h1 : x ≤ 8796093022208) : Calls Try.prog 19 #[iv x] w fun e w' => e = .returned (iv (x / 2)) ∧ w = w' := by
  obtain ⟨q, hq⟩ : ∃ q, x.tdiv 2 = q := ⟨_, rfl⟩
  have hd := tdiv2 x
  rw [hq] at hd
  by_cases hx : 0 ≤ x
  · rw [if_pos hx] at hd
    have hn : ¬ x < q * 2 := by omega
    go_enter Try.func19, Try.ntmps19
    go_wp2
    go_ret
    exact ⟨by go_num, rfl⟩
  · rw [if_neg hx] at hd
    by_cases hn : x < q * 2
    · go_enter Try.func19, Try.ntmps19
      go_wp2
      go_ret
      exact ⟨by go_num, rfl⟩
    · go_enter Try.func19, Try.ntmps19
      go_wp2
      go_ret
      exact ⟨by go_num, rfl⟩

set_option maxHeartbeats 1000000 in
theorem two_any (w : World) (m l r : Int) (hl : isN l) (hr : isN r) : Calls Try.prog 10 #[iv m, iv l, iv r] w fun e w' => e = two (twA m l r) (twB m l r) ∧ w = w' := by
  unfold isN at hl hr
  by_cases h1 : m = 8
  · subst h1
    have e1 : twA 8 l r = l := rfl
    have e2 : twB 8 l r = l - r := rfl
    rw [e1, e2]
    clear e1 e2
    go_enter Try.func10, Try.ntmps10
    go_wp2
    go_ret2
    exact ⟨by go_num, rfl⟩
  · by_cases h2 : m = 9
    · subst h2
      have e1 : twA 9 l r = l - r := rfl
      have e2 : twB 9 l r = r := rfl
      rw [e1, e2]
      clear e1 e2
      go_enter Try.func10, Try.ntmps10
      go_wp2
      go_ret2
      exact ⟨by go_num, rfl⟩
    · by_cases h3 : m = 10
      · subst h3
        have e1 : twA 10 l r = (l + r) / 2 := rfl
        have e2 : twB 10 l r = l - r := rfl
        rw [e1, e2]
        clear e1 e2
        obtain ⟨s, hs⟩ : ∃ s, l + r = s := ⟨_, rfl⟩
        have HH := Lib.hid (half_any w s (by omega) (by omega))
        rw [hs]
        have hw : IntKind.i64.wrap s = s := by rw [IntKind.wrap_i64]; omega
        go_enter Try.func10, Try.ntmps10
        go_wp2_with fail
        trace_state
        refine (HH.out).mono ?_
        rintro e w9 ⟨rfl, rfl⟩
        go_wp2
        go_ret2
        exact ⟨by go_num, rfl⟩
      · have e1 : twA m l r = l := by unfold twA; rw [if_neg h2, if_neg h3]
        have e2 : twB m l r = r := by unfold twB; rw [if_neg h1, if_neg h3]
        rw [e1, e2]
        clear e1 e2
        go_enter Try.func10, Try.ntmps10
        go_wp2
        go_ret2
        exact ⟨rfl, rfl⟩
end Go.Proofs.Ytmnogedkinhljaa
