/-
  SubframeBack's own: a fixed order's coefficients; long.
-/
import Derived.Test.YteklfkpeaadinaaGreatDoorPCS23
import Derived.Test.YteklfkpeaadinaaGreatDoorPCS5
import Derived.Test.YteklfkpeaadinaaGreatDoorPCSH
namespace Go.Proofs.YteklfkpeaadinaaGreatDoor.S
open Go.RowKit Go.Shelf
open K (linV fx)
/-- what Coefs answers -/
def CoR (q : Nat) (w : World) (e : Ending) (w' : World) : Prop := ∃ A n c, e = .returned (linV 4 0 (.slice A n c)) ∧ ISrc w' (.slice A n c) (fx q) ∧ Only Nix w w' ∧ ∀ ad, A = some ad → w.heap.size ≤ ad.block
set_option maxRecDepth 100000 in
set_option maxHeartbeats 4000000 in
theorem coefs_0 {w : World} :
    Calls Tryz.prog 29 #[iv 0] w fun e w' => CoR 0 w e w' := by
  have hb := ((((((Box.new (w.alloc (.cells #[iv 4, iv 0, .slice (some ⟨w.heap.size + 1, 0, none⟩) 0 0] 53)) 3 #[]).alloc (.cells #[iv 1] 3)).alloc (.cells #[iv 2, iv (-1)] 3)).alloc (.cells #[iv 3, iv (-3), iv 1] 3)).alloc (.cells #[iv 4, iv (-6), iv 4, iv (-1)] 3)).alloc (.cells #[.slice (some ⟨w.heap.size + 1, 0, none⟩) 0 0, .slice (some ⟨w.heap.size + 1 + 1, 0, none⟩) 1 1, .slice (some ⟨w.heap.size + 1 + 1 + 1, 0, none⟩) 2 2, .slice (some ⟨w.heap.size + 1 + 1 + 1 + 1, 0, none⟩) 3 3, .slice (some ⟨w.heap.size + 1 + 1 + 1 + 1 + 1, 0, none⟩) 4 4] 22))
  simp only [World.size_alloc] at hb
  have ho := ((((((((Only.refl Nix w).alloc (.cells #[iv 4, iv 0, .slice (some ⟨w.heap.size + 1, 0, none⟩) 0 0] 53)).alloc (.cells #[] 3)).alloc (.cells #[iv 1] 3)).alloc (.cells #[iv 2, iv (-1)] 3)).alloc (.cells #[iv 3, iv (-3), iv 1] 3)).alloc (.cells #[iv 4, iv (-6), iv 4, iv (-1)] 3)).alloc (.cells #[.slice (some ⟨w.heap.size + 1, 0, none⟩) 0 0, .slice (some ⟨w.heap.size + 1 + 1, 0, none⟩) 1 1, .slice (some ⟨w.heap.size + 1 + 1 + 1, 0, none⟩) 2 2, .slice (some ⟨w.heap.size + 1 + 1 + 1 + 1, 0, none⟩) 3 3, .slice (some ⟨w.heap.size + 1 + 1 + 1 + 1 + 1, 0, none⟩) 4 4] 22))
  have HB := Lib.hid hb
  have HO := Lib.hid ho
  clear hb ho
  go_enter Tryz.func29, Tryz.ntmps29
  go_wp2
  refine bodyPost_ret (v := linV 4 0 (.slice (some ⟨w.heap.size + 1, 0, none⟩) 0 0)) ?_ rfl ⟨_, _, _, rfl, ISrc.of_box (t := 3) (xs := fx 0) HB.out rfl (Nat.le_refl _) (by decide) (by decide), HO.out, fun ad e => by cases e; simp only []; omega⟩
  simp [results, Tryz.f29, go_sem]
set_option maxRecDepth 100000 in
set_option maxHeartbeats 4000000 in
theorem coefs_1 {w : World} :
    Calls Tryz.prog 29 #[iv 1] w fun e w' => CoR 1 w e w' := by
  have hb := (((((Box.new ((w.alloc (.cells #[iv 4, iv 0, .slice (some ⟨w.heap.size + 1 + 1, 0, none⟩) 1 1] 53)).alloc (.cells #[] 3)) 3 #[iv 1]).alloc (.cells #[iv 2, iv (-1)] 3)).alloc (.cells #[iv 3, iv (-3), iv 1] 3)).alloc (.cells #[iv 4, iv (-6), iv 4, iv (-1)] 3)).alloc (.cells #[.slice (some ⟨w.heap.size + 1, 0, none⟩) 0 0, .slice (some ⟨w.heap.size + 1 + 1, 0, none⟩) 1 1, .slice (some ⟨w.heap.size + 1 + 1 + 1, 0, none⟩) 2 2, .slice (some ⟨w.heap.size + 1 + 1 + 1 + 1, 0, none⟩) 3 3, .slice (some ⟨w.heap.size + 1 + 1 + 1 + 1 + 1, 0, none⟩) 4 4] 22))
  simp only [World.size_alloc] at hb
  have ho := ((((((((Only.refl Nix w).alloc (.cells #[iv 4, iv 0, .slice (some ⟨w.heap.size + 1 + 1, 0, none⟩) 1 1] 53)).alloc (.cells #[] 3)).alloc (.cells #[iv 1] 3)).alloc (.cells #[iv 2, iv (-1)] 3)).alloc (.cells #[iv 3, iv (-3), iv 1] 3)).alloc (.cells #[iv 4, iv (-6), iv 4, iv (-1)] 3)).alloc (.cells #[.slice (some ⟨w.heap.size + 1, 0, none⟩) 0 0, .slice (some ⟨w.heap.size + 1 + 1, 0, none⟩) 1 1, .slice (some ⟨w.heap.size + 1 + 1 + 1, 0, none⟩) 2 2, .slice (some ⟨w.heap.size + 1 + 1 + 1 + 1, 0, none⟩) 3 3, .slice (some ⟨w.heap.size + 1 + 1 + 1 + 1 + 1, 0, none⟩) 4 4] 22))
  have HB := Lib.hid hb
  have HO := Lib.hid ho
  clear hb ho
  go_enter Tryz.func29, Tryz.ntmps29
  go_wp2
  refine bodyPost_ret (v := linV 4 0 (.slice (some ⟨w.heap.size + 1 + 1, 0, none⟩) 1 1)) ?_ rfl ⟨_, _, _, rfl, ISrc.of_box (t := 3) (xs := fx 1) HB.out rfl (Nat.le_refl _) (by decide) (by decide), HO.out, fun ad e => by cases e; simp only []; omega⟩
  simp [results, Tryz.f29, go_sem]
set_option maxRecDepth 100000 in
set_option maxHeartbeats 4000000 in
theorem coefs_2 {w : World} :
    Calls Tryz.prog 29 #[iv 2] w fun e w' => CoR 2 w e w' := by
  have hb := ((((Box.new (((w.alloc (.cells #[iv 4, iv 0, .slice (some ⟨w.heap.size + 1 + 1 + 1, 0, none⟩) 2 2] 53)).alloc (.cells #[] 3)).alloc (.cells #[iv 1] 3)) 3 #[iv 2, iv (-1)]).alloc (.cells #[iv 3, iv (-3), iv 1] 3)).alloc (.cells #[iv 4, iv (-6), iv 4, iv (-1)] 3)).alloc (.cells #[.slice (some ⟨w.heap.size + 1, 0, none⟩) 0 0, .slice (some ⟨w.heap.size + 1 + 1, 0, none⟩) 1 1, .slice (some ⟨w.heap.size + 1 + 1 + 1, 0, none⟩) 2 2, .slice (some ⟨w.heap.size + 1 + 1 + 1 + 1, 0, none⟩) 3 3, .slice (some ⟨w.heap.size + 1 + 1 + 1 + 1 + 1, 0, none⟩) 4 4] 22))
  simp only [World.size_alloc] at hb
  have ho := ((((((((Only.refl Nix w).alloc (.cells #[iv 4, iv 0, .slice (some ⟨w.heap.size + 1 + 1 + 1, 0, none⟩) 2 2] 53)).alloc (.cells #[] 3)).alloc (.cells #[iv 1] 3)).alloc (.cells #[iv 2, iv (-1)] 3)).alloc (.cells #[iv 3, iv (-3), iv 1] 3)).alloc (.cells #[iv 4, iv (-6), iv 4, iv (-1)] 3)).alloc (.cells #[.slice (some ⟨w.heap.size + 1, 0, none⟩) 0 0, .slice (some ⟨w.heap.size + 1 + 1, 0, none⟩) 1 1, .slice (some ⟨w.heap.size + 1 + 1 + 1, 0, none⟩) 2 2, .slice (some ⟨w.heap.size + 1 + 1 + 1 + 1, 0, none⟩) 3 3, .slice (some ⟨w.heap.size + 1 + 1 + 1 + 1 + 1, 0, none⟩) 4 4] 22))
  have HB := Lib.hid hb
  have HO := Lib.hid ho
  clear hb ho
  go_enter Tryz.func29, Tryz.ntmps29
  go_wp2
  refine bodyPost_ret (v := linV 4 0 (.slice (some ⟨w.heap.size + 1 + 1 + 1, 0, none⟩) 2 2)) ?_ rfl ⟨_, _, _, rfl, ISrc.of_box (t := 3) (xs := fx 2) HB.out rfl (Nat.le_refl _) (by decide) (by decide), HO.out, fun ad e => by cases e; simp only []; omega⟩
  simp [results, Tryz.f29, go_sem]
set_option maxRecDepth 100000 in
set_option maxHeartbeats 4000000 in
theorem coefs_3 {w : World} :
    Calls Tryz.prog 29 #[iv 3] w fun e w' => CoR 3 w e w' := by
  have hb := (((Box.new ((((w.alloc (.cells #[iv 4, iv 0, .slice (some ⟨w.heap.size + 1 + 1 + 1 + 1, 0, none⟩) 3 3] 53)).alloc (.cells #[] 3)).alloc (.cells #[iv 1] 3)).alloc (.cells #[iv 2, iv (-1)] 3)) 3 #[iv 3, iv (-3), iv 1]).alloc (.cells #[iv 4, iv (-6), iv 4, iv (-1)] 3)).alloc (.cells #[.slice (some ⟨w.heap.size + 1, 0, none⟩) 0 0, .slice (some ⟨w.heap.size + 1 + 1, 0, none⟩) 1 1, .slice (some ⟨w.heap.size + 1 + 1 + 1, 0, none⟩) 2 2, .slice (some ⟨w.heap.size + 1 + 1 + 1 + 1, 0, none⟩) 3 3, .slice (some ⟨w.heap.size + 1 + 1 + 1 + 1 + 1, 0, none⟩) 4 4] 22))
  simp only [World.size_alloc] at hb
  have ho := ((((((((Only.refl Nix w).alloc (.cells #[iv 4, iv 0, .slice (some ⟨w.heap.size + 1 + 1 + 1 + 1, 0, none⟩) 3 3] 53)).alloc (.cells #[] 3)).alloc (.cells #[iv 1] 3)).alloc (.cells #[iv 2, iv (-1)] 3)).alloc (.cells #[iv 3, iv (-3), iv 1] 3)).alloc (.cells #[iv 4, iv (-6), iv 4, iv (-1)] 3)).alloc (.cells #[.slice (some ⟨w.heap.size + 1, 0, none⟩) 0 0, .slice (some ⟨w.heap.size + 1 + 1, 0, none⟩) 1 1, .slice (some ⟨w.heap.size + 1 + 1 + 1, 0, none⟩) 2 2, .slice (some ⟨w.heap.size + 1 + 1 + 1 + 1, 0, none⟩) 3 3, .slice (some ⟨w.heap.size + 1 + 1 + 1 + 1 + 1, 0, none⟩) 4 4] 22))
  have HB := Lib.hid hb
  have HO := Lib.hid ho
  clear hb ho
  go_enter Tryz.func29, Tryz.ntmps29
  go_wp2
  refine bodyPost_ret (v := linV 4 0 (.slice (some ⟨w.heap.size + 1 + 1 + 1 + 1, 0, none⟩) 3 3)) ?_ rfl ⟨_, _, _, rfl, ISrc.of_box (t := 3) (xs := fx 3) HB.out rfl (Nat.le_refl _) (by decide) (by decide), HO.out, fun ad e => by cases e; simp only []; omega⟩
  simp [results, Tryz.f29, go_sem]
set_option maxRecDepth 100000 in
set_option maxHeartbeats 4000000 in
theorem coefs_4 {w : World} :
    Calls Tryz.prog 29 #[iv 4] w fun e w' => CoR 4 w e w' := by
  have hb := ((Box.new (((((w.alloc (.cells #[iv 4, iv 0, .slice (some ⟨w.heap.size + 1 + 1 + 1 + 1 + 1, 0, none⟩) 4 4] 53)).alloc (.cells #[] 3)).alloc (.cells #[iv 1] 3)).alloc (.cells #[iv 2, iv (-1)] 3)).alloc (.cells #[iv 3, iv (-3), iv 1] 3)) 3 #[iv 4, iv (-6), iv 4, iv (-1)]).alloc (.cells #[.slice (some ⟨w.heap.size + 1, 0, none⟩) 0 0, .slice (some ⟨w.heap.size + 1 + 1, 0, none⟩) 1 1, .slice (some ⟨w.heap.size + 1 + 1 + 1, 0, none⟩) 2 2, .slice (some ⟨w.heap.size + 1 + 1 + 1 + 1, 0, none⟩) 3 3, .slice (some ⟨w.heap.size + 1 + 1 + 1 + 1 + 1, 0, none⟩) 4 4] 22))
  simp only [World.size_alloc] at hb
  have ho := ((((((((Only.refl Nix w).alloc (.cells #[iv 4, iv 0, .slice (some ⟨w.heap.size + 1 + 1 + 1 + 1 + 1, 0, none⟩) 4 4] 53)).alloc (.cells #[] 3)).alloc (.cells #[iv 1] 3)).alloc (.cells #[iv 2, iv (-1)] 3)).alloc (.cells #[iv 3, iv (-3), iv 1] 3)).alloc (.cells #[iv 4, iv (-6), iv 4, iv (-1)] 3)).alloc (.cells #[.slice (some ⟨w.heap.size + 1, 0, none⟩) 0 0, .slice (some ⟨w.heap.size + 1 + 1, 0, none⟩) 1 1, .slice (some ⟨w.heap.size + 1 + 1 + 1, 0, none⟩) 2 2, .slice (some ⟨w.heap.size + 1 + 1 + 1 + 1, 0, none⟩) 3 3, .slice (some ⟨w.heap.size + 1 + 1 + 1 + 1 + 1, 0, none⟩) 4 4] 22))
  have HB := Lib.hid hb
  have HO := Lib.hid ho
  clear hb ho
  go_enter Tryz.func29, Tryz.ntmps29
  go_wp2
  refine bodyPost_ret (v := linV 4 0 (.slice (some ⟨w.heap.size + 1 + 1 + 1 + 1 + 1, 0, none⟩) 4 4)) ?_ rfl ⟨_, _, _, rfl, ISrc.of_box (t := 3) (xs := fx 4) HB.out rfl (Nat.le_refl _) (by decide) (by decide), HO.out, fun ad e => by cases e; simp only []; omega⟩
  simp [results, Tryz.f29, go_sem]
theorem coefs_any {w : World} (q : Nat) (hq : q ≤ 4) :
    Calls Tryz.prog 29 #[iv q] w fun e w' => CoR q w e w' := by
  rcases (by omega : q = 0 ∨ q = 1 ∨ q = 2 ∨ q = 3 ∨ q = 4) with rfl | rfl | rfl | rfl | rfl
  · exact coefs_0
  · exact coefs_1
  · exact coefs_2
  · exact coefs_3
  · exact coefs_4
end Go.Proofs.YteklfkpeaadinaaGreatDoor.S
