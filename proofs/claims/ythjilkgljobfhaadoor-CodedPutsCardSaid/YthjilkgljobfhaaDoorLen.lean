/-
  Len, walked.
-/
import Derived.Test.YthjilkgljobfhaaDoorCSrc
namespace Go.Proofs.YthjilkgljobfhaaDoor
open Go.RowKit

theorem bel_at (n s : Nat) (hn : n < 68719476736) (h1 : 1 ≤ s) (h2 : s ≤ szOf n) : (s < szOf n ↔ bel.getD (s - 1) 0 ≤ n) ∧ s ≤ 7 := by
  have hz := szOf_bd n
  refine ⟨?_, by omega⟩
  obtain rfl | rfl | rfl | rfl | rfl | rfl | rfl : s = 1 ∨ s = 2 ∨ s = 3 ∨ s = 4 ∨ s = 5 ∨ s = 6 ∨ s = 7 := by omega
  all_goals (simp [bel]; rcases szOf_cases n with h | h | h | h | h | h | h <;> omega)
def LenP (n : Nat) (s4 : Value) : Prop := ∃ s : Nat, 1 ≤ s ∧ s ≤ szOf n ∧ s4 = iv s

set_option maxHeartbeats 400000 in
theorem len_yes {w : World} (hL : Laid w) (n : Nat) (z : Int) (hz : z = (n : Int)) (hn : n < 68719476736) :
    Calls Tryd.prog 8 #[iv z] w fun e w' => e = .returned (.tuple #[iv (szOf n : Nat), iv 0]) ∧ w = w' := by
  subst hz
  have d1 : ¬ ((n : Int) < 0) := by omega
  have d2 : ¬ ((68719476735 : Int) < (n : Int)) := by omega
  have HL := Lib.hid hL
  clear hL
  go_enter Tryd.func8, Tryd.ntmps8
  go_wp2
  go_loop [4] (fun s4 => LenP n s4) (fun s4 => szOf n - (intOf s4).toNat)
  case atStart => exact ⟨1, by omega, (szOf_bd n).1, rfl⟩
  case round =>
    obtain ⟨s, h1, h2, rfl⟩ := hrel
    obtain ⟨hb, h7⟩ := bel_at n s hn h1 h2
    have hc := HL.out.below (s - 1) (by omega)
    generalize bel.getD (s - 1) 0 = B at *
    by_cases hlt : B ≤ n
    · have hlt2 : (B : Int) ≤ (n : Int) := by omega
      go_wp2
      go_round
      case rel => exact ⟨s + 1, by omega, by omega, by go_num⟩
      case measure => simp [intOf]; omega
    · have hlt2 : decide (B ≤ n) = false := by simp; omega
      obtain rfl : s = szOf n := by omega
      go_wp2
      go_ret2
      exact ⟨rfl, rfl⟩

set_option maxHeartbeats 400000 in
theorem len_no {w : World} (z : Int) (hz : z < 0 ∨ 68719476735 < z) :
    Calls Tryd.prog 8 #[iv z] w fun e w' => e = .returned (.tuple #[iv 0, iv 10]) ∧ w = w' := by
  rcases hz with h | h
  · go_enter Tryd.func8, Tryd.ntmps8
    go_wp2
    go_ret2
    exact ⟨rfl, rfl⟩
  · have h' : ¬ z < 0 := by omega
    go_enter Tryd.func8, Tryd.ntmps8
    go_wp2
    go_ret2
    exact ⟨rfl, rfl⟩
end Go.Proofs.YthjilkgljobfhaaDoor
