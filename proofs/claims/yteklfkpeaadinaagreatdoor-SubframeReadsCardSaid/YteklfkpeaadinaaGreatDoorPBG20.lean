/-
  Fixed; magnitude.
-/
import Derived.Test.YteklfkpeaadinaaGreatDoorPBG18
import Derived.Test.YteklfkpeaadinaaGreatDoorPBG19
namespace Go.Proofs.YteklfkpeaadinaaGreatDoor.K
open Go.RowKit

/-- the coefficients of a fixed order -/
def fx : Nat → List Int
  | 0 => []
  | 1 => [1]
  | 2 => [2, -1]
  | 3 => [3, -3, 1]
  | _ => [4, -6, 4, -1]
/-- .. and where they lie -/
def FixN (w : World) (k : Nat) (e : Ending) (w' : World) : Prop := ∃ g c, w.heap.size ≤ g ∧ e = .returned (.tuple #[linV 4 0 (.slice (some ⟨g, 0, none⟩) k c), iv 0]) ∧ ISrc w' (.slice (some ⟨g, 0, none⟩) k c) (fx k) ∧ Only Nix w w'
theorem box_new' (W : World) (b : Nat) (t : TypeId) (cs : Array Value) (h : W.heap.size = b) : Box (W.alloc (.cells cs t)) b t cs := by
  subst h
  exact Box.new W t cs
set_option maxHeartbeats 2000000 in
theorem fixed_0 (w : World) : Calls Tryz.prog 113 #[iv 0] w fun e w' => FixN w 0 e w' := by
  go_enter Tryz.func113, Tryz.ntmps113
  go_wp2
  refine bodyPost_ret (v := .tuple #[linV 4 0 (.slice (some ⟨w.heap.size + 1, 0, none⟩) 0 0), iv 0]) ?_ rfl ?_
  · simp [results, Tryz.f113, go_sem]
  · refine ⟨_, _, ?_, rfl, ?_, ?_⟩
    · omega
    · refine ISrc.of_box (t := 3) ?_ rfl (by decide) (by decide) (by decide)
      refine Box.alloc ?_ _
      refine Box.alloc ?_ _
      refine Box.alloc ?_ _
      refine Box.alloc ?_ _
      refine Box.alloc ?_ _
      exact box_new' _ _ _ _ (by simp)
    · repeat' first | exact Only.refl _ _ | refine Only.alloc ?_ _
set_option maxHeartbeats 2000000 in
theorem fixed_1 (w : World) : Calls Tryz.prog 113 #[iv 1] w fun e w' => FixN w 1 e w' := by
  go_enter Tryz.func113, Tryz.ntmps113
  go_wp2
  refine bodyPost_ret (v := .tuple #[linV 4 0 (.slice (some ⟨w.heap.size + 1 + 1, 0, none⟩) 1 1), iv 0]) ?_ rfl ?_
  · simp [results, Tryz.f113, go_sem]
  · refine ⟨_, _, ?_, rfl, ?_, ?_⟩
    · omega
    · refine ISrc.of_box (t := 3) ?_ rfl (by decide) (by decide) (by decide)
      refine Box.alloc ?_ _
      refine Box.alloc ?_ _
      refine Box.alloc ?_ _
      refine Box.alloc ?_ _
      exact box_new' _ _ _ _ (by simp)
    · repeat' first | exact Only.refl _ _ | refine Only.alloc ?_ _
set_option maxHeartbeats 2000000 in
theorem fixed_2 (w : World) : Calls Tryz.prog 113 #[iv 2] w fun e w' => FixN w 2 e w' := by
  go_enter Tryz.func113, Tryz.ntmps113
  go_wp2
  refine bodyPost_ret (v := .tuple #[linV 4 0 (.slice (some ⟨w.heap.size + 1 + 1 + 1, 0, none⟩) 2 2), iv 0]) ?_ rfl ?_
  · simp [results, Tryz.f113, go_sem]
  · refine ⟨_, _, ?_, rfl, ?_, ?_⟩
    · omega
    · refine ISrc.of_box (t := 3) ?_ rfl (by decide) (by decide) (by decide)
      refine Box.alloc ?_ _
      refine Box.alloc ?_ _
      refine Box.alloc ?_ _
      exact box_new' _ _ _ _ (by simp)
    · repeat' first | exact Only.refl _ _ | refine Only.alloc ?_ _
set_option maxHeartbeats 2000000 in
theorem fixed_3 (w : World) : Calls Tryz.prog 113 #[iv 3] w fun e w' => FixN w 3 e w' := by
  go_enter Tryz.func113, Tryz.ntmps113
  go_wp2
  refine bodyPost_ret (v := .tuple #[linV 4 0 (.slice (some ⟨w.heap.size + 1 + 1 + 1 + 1, 0, none⟩) 3 3), iv 0]) ?_ rfl ?_
  · simp [results, Tryz.f113, go_sem]
  · refine ⟨_, _, ?_, rfl, ?_, ?_⟩
    · omega
    · refine ISrc.of_box (t := 3) ?_ rfl (by decide) (by decide) (by decide)
      refine Box.alloc ?_ _
      refine Box.alloc ?_ _
      exact box_new' _ _ _ _ (by simp)
    · repeat' first | exact Only.refl _ _ | refine Only.alloc ?_ _
set_option maxHeartbeats 2000000 in
theorem fixed_4 (w : World) : Calls Tryz.prog 113 #[iv 4] w fun e w' => FixN w 4 e w' := by
  go_enter Tryz.func113, Tryz.ntmps113
  go_wp2
  refine bodyPost_ret (v := .tuple #[linV 4 0 (.slice (some ⟨w.heap.size + 1 + 1 + 1 + 1 + 1, 0, none⟩) 4 4), iv 0]) ?_ rfl ?_
  · simp [results, Tryz.f113, go_sem]
  · refine ⟨_, _, ?_, rfl, ?_, ?_⟩
    · omega
    · refine ISrc.of_box (t := 3) ?_ rfl (by decide) (by decide) (by decide)
      refine Box.alloc ?_ _
      exact box_new' _ _ _ _ (by simp)
    · repeat' first | exact Only.refl _ _ | refine Only.alloc ?_ _
theorem fixed_new (w : World) (k : Nat) (hk : k ≤ 4) : Calls Tryz.prog 113 #[iv k] w fun e w' => FixN w k e w' := by
  match k, hk with
  | 0, _ => exact fixed_0 w
  | 1, _ => exact fixed_1 w
  | 2, _ => exact fixed_2 w
  | 3, _ => exact fixed_3 w
  | 4, _ => exact fixed_4 w
theorem fx_len (k : Nat) (hk : k ≤ 4) : (fx k).length = k := by
  match k, hk with
  | 0, _ => rfl
  | 1, _ => rfl
  | 2, _ => rfl
  | 3, _ => rfl
  | 4, _ => rfl
end Go.Proofs.YteklfkpeaadinaaGreatDoor.K
namespace Go.Proofs.YteklfkpeaadinaaGreatDoor.K
open Go.RowKit

end Go.Proofs.YteklfkpeaadinaaGreatDoor.K
namespace Go.Proofs.YteklfkpeaadinaaGreatDoor.K
open Go.RowKit

set_option maxHeartbeats 1000000 in
theorem plain_any {w : World} (P S : Int) (A : Option Addr) (n c : Nat) :
    Calls Tryz.prog 32 #[linV P S (.slice A n c)] w fun e w' => e = .returned (linV P S (.slice A n c)) ∧ Only Nix w w' := by
  go_enter Tryz.func32, Tryz.ntmps32
  go_wp2
  refine bodyPost_ret (v := linV P S (.slice A n c)) ?_ rfl ⟨rfl, ?_⟩
  · simp [results, Tryz.f32, go_sem]
  · repeat' first | exact Only.refl _ _ | refine Only.alloc ?_ _ | refine Only.setCell ?_ (.inr (by simp)) _
end Go.Proofs.YteklfkpeaadinaaGreatDoor.K
