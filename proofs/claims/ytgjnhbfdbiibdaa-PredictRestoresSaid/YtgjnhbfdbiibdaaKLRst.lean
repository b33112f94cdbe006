/-
  PredictRestores: its walk.
-/
import Derived.Test.YtgjnhbfdbiibdaaKLTells
import Derived.Test.YtgjnhbfdbiibdaaKRstR
namespace Go.Proofs.Ytgjnhbfdbiibdaa
open Go.RowKit

set_option maxRecDepth 100000 in
set_option maxHeartbeats 4000000 in
theorem restores_any {w : World} (P S : Int) (Ac : Option Addr) (nc cc : Nat) (cs : List Int) (A1 : Option Addr) (n1 c1 : Nat) (l1 : List Int) (A2 : Option Addr) (n2 c2 : Nat) (l2 : List Int) (hcs : ISrc w (.slice Ac nc cc) cs) (h1 : ISrc w (.slice A1 n1 c1) l1) (h2 : ISrc w (.slice A2 n2 c2) l2) :
    Calls Try.prog 4 #[linV P S (.slice Ac nc cc), .slice A1 n1 c1, .slice A2 n2 c2] w fun e w' => e = .returned (.bool true) ∧ Only Nix w w' := by
  have hcl := hcs.len
  have hsc := hcs.small
  rw [← hcl] at hsc
  have hb1 := h1.len
  have hs1 := h1.small
  rw [← hb1] at hs1
  have hb2 := h2.len
  have hs2 := h2.small
  rw [← hb2] at hs2
  have a0 := (Only.refl Nix w).alloc (.cells #[iv P, iv S, .slice Ac nc cc] 24)
  have B0 := Box.new w 24 #[iv P, iv S, .slice Ac nc cc]
  obtain ⟨Wa, hWa⟩ : ∃ Wa, w.alloc (.cells #[iv P, iv S, .slice Ac nc cc] 24) = Wa := ⟨_, rfl⟩
  rw [hWa] at a0 B0
  have d0 := B0.cell 0
  have d1 := B0.cell 1
  have d2 := B0.cell 2
  simp only [List.getElem?_toArray, List.getElem?_cons_zero, List.getElem?_cons_succ] at d0 d1 d2
  have HA := Lib.hid a0
  have HC := Lib.hid hcs
  have H1 := Lib.hid h1
  have H2 := Lib.hid h2
  have Hcl := Lib.hid hcl
  have Hb1 := Lib.hid hb1
  have Hb2 := Lib.hid hb2
  clear hcs h1 h2 a0 B0 hcl hb1 hb2
  by_cases g0 : 40 < nc
  · have g0i : (40 : Int) < (nc : Int) := by omega
    have HW := Lib.hid (awake6 Wa)
    go_enter Try.func4, Try.ntmps4
    go_wp2_with fail
    refine (HW.out).mono ?_
    rintro e w1 ⟨rfl, o1⟩
    have HO := Lib.hid (HA.out.trans o1)
    clear o1 HW
    go_wp2
    go_ret
    exact ⟨rfl, HO.out⟩
  · have g0i : ¬ (40 : Int) < (nc : Int) := by omega
    by_cases g1 : 40 < n1
    · have g1i : (40 : Int) < (n1 : Int) := by omega
      have HW := Lib.hid (awake6 Wa)
      go_enter Try.func4, Try.ntmps4
      go_wp2_with fail
      refine (HW.out).mono ?_
      rintro e w1 ⟨rfl, o1⟩
      have HO := Lib.hid (HA.out.trans o1)
      clear o1 HW
      go_wp2
      go_ret
      exact ⟨rfl, HO.out⟩
    · have g1i : ¬ (40 : Int) < (n1 : Int) := by omega
      by_cases g2 : 100 < n2
      · have g2i : (100 : Int) < (n2 : Int) := by omega
        have HW := Lib.hid (awake6 Wa)
        go_enter Try.func4, Try.ntmps4
        go_wp2_with fail
        refine (HW.out).mono ?_
        rintro e w1 ⟨rfl, o1⟩
        have HO := Lib.hid (HA.out.trans o1)
        clear o1 HW
        go_wp2
        go_ret
        exact ⟨rfl, HO.out⟩
      · have g2i : ¬ (100 : Int) < (n2 : Int) := by omega
        have HR := Lib.hid (restore_any P S Ac nc cc cs A1 n1 c1 l1 A2 n2 c2 l2 (HC.out.nix HA.out) (H1.out.nix HA.out) (H2.out.nix HA.out) (by omega))
        go_enter Try.func4, Try.ntmps4
        go_wp2_with fail
        refine (HR.out).mono ?_
        rintro e w2 ⟨⟨A3, c3, rfl, hI1⟩, o2⟩
        have HO2 := Lib.hid (HA.out.trans o2)
        have HI1 := Lib.hid hI1
        have e0 := cell_keep o2 d0
        have e1 := cell_keep o2 d1
        have e2 := cell_keep o2 d2
        have HP := Lib.hid (plain_any (w := w2) P S Ac nc cc)
        clear hI1 o2 HR d0 d1 d2
        obtain ⟨k1, hk1⟩ : ∃ k1, (rstV P S cs l1 l2).length = k1 := ⟨_, rfl⟩
        obtain ⟨E, hE⟩ : ∃ E, rstE P S cs l1 l2 = E := ⟨_, rfl⟩
        rw [hk1] at HI1 ⊢
        rw [hE]
        go_wp2_with fail
        refine (HP.out).mono ?_
        rintro e w3 ⟨rfl, o3⟩
        have HO3 := Lib.hid (HO2.out.trans o3)
        have HI3 := Lib.hid (HI1.out.nix o3)
        have HR := Lib.hid (restoreRef_any P S Ac nc cc cs A1 n1 c1 l1 A2 n2 c2 l2 (HC.out.nix HO3.out) (H1.out.nix HO3.out) (H2.out.nix HO3.out) (by omega))
        clear o3 e0 e1 e2 HP HI1
        go_wp2_with fail
        refine (HR.out).mono ?_
        rintro e w4 ⟨⟨A4, c4, rfl, hI2⟩, o4⟩
        rw [hk1] at hI2 ⊢
        rw [hE]
        have HO4 := Lib.hid (HO3.out.trans o4)
        have HIn := Lib.hid (ints_nix (HI3.out.nix o4) hI2)
        clear o4 HR HI3 hI2 hk1 hE
        go_wp2_with fail
        refine (HIn.out).mono ?_
        rintro e w5 ⟨rfl, o5⟩
        have HO5 := Lib.hid (HO4.out.trans o5)
        have HW := Lib.hid (awake6 w5)
        clear o5 HIn
        go_wp2_with fail
        refine (HW.out).mono ?_
        rintro e w6 ⟨rfl, o6⟩
        have HO6 := Lib.hid (HO5.out.trans o6)
        clear o6 HW
        go_wp2
        go_ret
        exact ⟨rfl, HO6.out⟩
end Go.Proofs.Ytgjnhbfdbiibdaa
