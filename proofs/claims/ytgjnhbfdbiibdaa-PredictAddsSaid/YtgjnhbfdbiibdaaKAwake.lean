/-
  The statements' own: Plain, the chapter's example.
-/
import Derived.Test.YtgjnhbfdbiibdaaKBest
import Derived.Test.YtgjnhbfdbiibdaaKResR
namespace Go.Proofs.Ytgjnhbfdbiibdaa
open Go.RowKit

set_option maxHeartbeats 1000000 in
theorem plain_any {w : World} (P S : Int) (A : Option Addr) (n c : Nat) :
    Calls Try.prog 11 #[linV P S (.slice A n c)] w fun e w' => e = .returned (linV P S (.slice A n c)) ∧ Only Nix w w' := by
  go_enter Try.func11, Try.ntmps11
  go_wp2
  refine bodyPost_ret (v := linV P S (.slice A n c)) ?_ rfl ⟨rfl, ?_⟩
  · simp [results, Try.f11, go_sem]
  · repeat' first | exact Only.refl _ _ | refine Only.alloc ?_ _ | refine Only.setCell ?_ (.inr (by simp)) _

/-- the chapter's example -/
def exL : List Int := [3, 5, 9, 15]
theorem ex_e : resE 4 0 (fx 2) exL = 0 := by decide
theorem ex_v : resV 4 0 (fx 2) exL = [2, 2] := by decide
theorem ex_b : bestV exL = 3 := by decide

set_option maxRecDepth 100000 in
set_option maxHeartbeats 4000000 in
theorem awake6 (w : World) : Calls Try.prog 8 #[] w fun e w' => e = .returned (.bool true) ∧ Only Nix w w' := by
  have HF := Lib.hid (fixed_2 w)
  go_enter Try.func8, Try.ntmps8
  go_wp2_with fail
  refine (HF.out).mono ?_
  rintro e w1 ⟨⟨A1, c1, rfl, hI1⟩, o1⟩
  have l1 := isrc_lit (w1.alloc (.cells #[iv 4, iv 0, .slice A1 2 c1] 24)) exL (by decide) (by decide)
  simp only [exL, List.map_cons, List.map_nil, List.length_cons, List.length_nil, Nat.zero_add, Nat.reduceAdd, World.size_alloc] at l1
  have a1 := ((Only.refl Nix w1).alloc (.cells #[iv 4, iv 0, .slice A1 2 c1] 24)).alloc (.cells #[iv 3, iv 5, iv 9, iv 15] 3)
  have HR := Lib.hid (residual_any 4 0 A1 2 c1 (fx 2) (some ⟨w1.heap.size + 1, 0, none⟩) 4 4 exL (hI1.nix a1) l1 (by decide))
  have HO1 := Lib.hid (o1.trans a1)
  clear hI1 o1 HF a1 l1
  go_wp2_with fail
  refine (HR.out).mono ?_
  rintro e w2 ⟨⟨A2, c2, rfl, hI2⟩, o2⟩
  rw [ex_v] at hI2
  rw [ex_v, ex_e]
  simp only [List.length_cons, List.length_nil, Nat.zero_add, Nat.reduceAdd] at hI2 ⊢
  have l2 := isrc_lit w2 [2, 2] (by decide) (by decide)
  simp only [List.map_cons, List.map_nil, List.length_cons, List.length_nil, Nat.zero_add, Nat.reduceAdd] at l2
  have a2 := (Only.refl Nix w2).alloc (.cells #[iv 2, iv 2] 3)
  have HI := Lib.hid (ints_yes (hI2.nix a2) l2)
  have HO2 := Lib.hid ((HO1.out.trans o2).trans a2)
  clear hI2 l2 a2 o2 HR HO1
  go_wp2_with fail
  refine (HI.out).mono ?_
  rintro e w3 ⟨rfl, q, rfl⟩
  have a3 := (Only.refl Nix (w2.alloc (.cells #[iv 2, iv 2] 3))).drewN q
  obtain ⟨W3, hW3⟩ : ∃ W3, (w2.alloc (.cells #[iv 2, iv 2] 3)).drewN q = W3 := ⟨_, rfl⟩
  rw [hW3] at a3 ⊢
  clear hW3
  have l3 := isrc_lit W3 exL (by decide) (by decide)
  simp only [exL, List.map_cons, List.map_nil, List.length_cons, List.length_nil, Nat.zero_add, Nat.reduceAdd] at l3
  have a4 := (Only.refl Nix W3).alloc (.cells #[iv 3, iv 5, iv 9, iv 15] 3)
  have HB := Lib.hid (best_any (some ⟨W3.heap.size, 0, none⟩) 4 4 exL l3 (by decide))
  rw [ex_b] at HB
  have HO3 := Lib.hid ((HO2.out.trans a3).trans a4)
  clear HO2 a3 a4 l3 HI
  go_wp2_with fail
  refine (HB.out).mono ?_
  rintro e w5 ⟨rfl, o5⟩
  have HO5 := Lib.hid (HO3.out.trans o5)
  clear o5 HO3
  go_wp2
  go_ret
  exact ⟨rfl, HO5.out⟩
end Go.Proofs.Ytgjnhbfdbiibdaa
