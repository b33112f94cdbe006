/-
  The chapter's examples.
-/
import Derived.Test.YtmnnjbamphoghaaDoorSum
namespace Go.Proofs.YtmnnjbamphoghaaDoor
open Go.RowKit

theorem ex1 {w : World} (hL : Laid w) : Calls Tryd.prog 10 #[.slice (some ⟨w.heap.size + 1, 0, none⟩) 1 1] ((w.alloc (.cells #[.int .u8 1] 5)).alloc (.cells #[.slice (some ⟨w.heap.size, 0, none⟩) 1 1] 22)) fun e w' => e = .returned (iv 7) ∧ Only Nix w w' := by
  have o1 := ((Only.refl Nix w).alloc (.cells #[.int .u8 1] 5)).alloc (.cells #[.slice (some ⟨w.heap.size, 0, none⟩) 1 1] 22)
  have c1 := Sum8_any (hL.nix o1) (lists1 (src1 w 1 (by decide) 5) 22)
  rw [show sm 8 7 [[1]].flatten = 7 from by decide +kernel, World.size_alloc] at c1
  exact c1.mono fun _ _ hh => ⟨hh.1, o1.trans hh.2⟩
theorem ex2 {w : World} (hL : Laid w) : Calls Tryd.prog 10 #[.slice (some ⟨w.heap.size + 1 + 1, 0, none⟩) 2 2] (((w.alloc (.cells #[.int .u8 1] 5)).alloc (.cells #[.int .u8 7] 5)).alloc (.cells #[.slice (some ⟨w.heap.size, 0, none⟩) 1 1, .slice (some ⟨w.heap.size + 1, 0, none⟩) 1 1] 22)) fun e w' => e = .returned (iv 0) ∧ Only Nix w w' := by
  have s2 := src1 (w.alloc (.cells #[.int .u8 1] 5)) 7 (by decide) 5
  have s1 := (src1 w 1 (by decide) 5).nix ((Only.refl Nix _).alloc (.cells #[.int .u8 7] 5))
  have l2 := lists2 s1 s2 22
  simp only [World.size_alloc] at l2
  have o1 := (((Only.refl Nix w).alloc (.cells #[.int .u8 1] 5)).alloc (.cells #[.int .u8 7] 5)).alloc (.cells #[.slice (some ⟨w.heap.size, 0, none⟩) 1 1, .slice (some ⟨w.heap.size + 1, 0, none⟩) 1 1] 22)
  have c1 := Sum8_any (hL.nix o1) l2
  rw [show sm 8 7 [[1], [7]].flatten = 0 from by decide +kernel] at c1
  exact c1.mono fun _ _ hh => ⟨hh.1, o1.trans hh.2⟩
theorem ex3 {w : World} (hL : Laid w) : Calls Tryd.prog 12 #[.slice (some ⟨w.heap.size + 1, 0, none⟩) 1 1] ((w.alloc (.cells #[.int .u8 1] 5)).alloc (.cells #[.slice (some ⟨w.heap.size, 0, none⟩) 1 1] 22)) fun e w' => e = .returned (iv 32773) ∧ Only Nix w w' := by
  have o1 := ((Only.refl Nix w).alloc (.cells #[.int .u8 1] 5)).alloc (.cells #[.slice (some ⟨w.heap.size, 0, none⟩) 1 1] 22)
  have c1 := Sum16_any (hL.nix o1) (lists1 (src1 w 1 (by decide) 5) 22)
  rw [show sm 16 32773 [[1]].flatten = 32773 from by decide +kernel, World.size_alloc] at c1
  exact c1.mono fun _ _ hh => ⟨hh.1, o1.trans hh.2⟩

set_option maxHeartbeats 1000000 in
theorem awake_any {w : World} (hL : Laid w) : Calls Tryd.prog 9 #[] w fun e w' => e = .returned (.bool true) ∧ Only Nix w w' := by
  have HL := Lib.hid hL
  clear hL
  go_enter Tryd.func9, Tryd.ntmps9
  go_wp2_with fail
  refine (ex1 HL.out).mono ?_
  rintro e w1 ⟨rfl, ho1⟩
  have HL1 := Lib.hid (HL.out.nix ho1)
  go_wp2_with fail
  refine (ex2 HL1.out).mono ?_
  rintro e w2 ⟨rfl, ho2⟩
  have HL2 := Lib.hid (HL1.out.nix ho2)
  go_wp2_with fail
  refine (ex3 HL2.out).mono ?_
  rintro e w3 ⟨rfl, ho3⟩
  go_wp2
  go_ret
  exact ⟨rfl, (ho1.trans ho2).trans ho3⟩
end Go.Proofs.YtmnnjbamphoghaaDoor
