/-
  StereoBest: its walk.
-/
import Derived.Test.YtmnogedkinhljaaEV
namespace Go.Proofs.Ytmnogedkinhljaa
open Go.RowKit Go.Shelf

set_option maxRecDepth 100000 in
set_option maxHeartbeats 4000000 in
theorem sbest_any {w : World} {n c k d : Nat} {A B : Option Addr} {xs ys : List Int} (hx : ISrc w (.slice A n c) xs) (hy : ISrc w (.slice B k d) ys) :
    Calls Try.prog 5 #[.slice A n c, .slice B k d] w fun e w' => e = .returned (.bool true) ∧ Only Nix w w' := by
  have hxl := hx.len
  have hyl := hy.len
  have hxs := hx.small
  have hys := hy.small
  have HX := Lib.hid hx
  have HY := Lib.hid hy
  rw [← hxl] at hxs
  rw [← hyl] at hys
  clear hxl hyl hx hy
  by_cases g1 : 60 < n
  · have g1i : (60 : Int) < (n : Int) := by omega
    have HW := Lib.hid (awake9 w)
    go_enter Try.func5, Try.ntmps5
    go_wp2_with fail
    refine (HW.out).mono ?_
    rintro e w1 ⟨rfl, o1⟩
    have HO := Lib.hid o1
    clear o1 HW
    go_wp2
    go_ret
    exact ⟨rfl, HO.out⟩
  · have g1i : ¬ (60 : Int) < (n : Int) := by omega
    by_cases g2 : 60 < k
    · have g2i : (60 : Int) < (k : Int) := by omega
      have HW := Lib.hid (awake9 w)
      go_enter Try.func5, Try.ntmps5
      go_wp2_with fail
      refine (HW.out).mono ?_
      rintro e w1 ⟨rfl, o1⟩
      have HO := Lib.hid o1
      clear o1 HW
      go_wp2
      go_ret
      exact ⟨rfl, HO.out⟩
    · have g2i : ¬ (60 : Int) < (k : Int) := by omega
      have HP := Lib.hid (best_any HX.out HY.out (by omega))
      by_cases h0 : ckE xs ys = 0
      · rw [if_pos h0, h0] at HP
        have H0 := Lib.hid h0
        have HWr : Hid (wrE 1 xs ys = 0) := Lib.hid ((show wrE 1 xs ys = ckE xs ys from if_pos (by decide)).trans h0)
        clear h0
        go_enter Try.func5, Try.ntmps5
        go_wp2_with fail
        refine (HP.out).mono ?_
        rintro e w1 ⟨rfl, o1⟩
        have O1 := Lib.hid o1
        have HQ := Lib.hid (wrong_any 1 (HX.out.nix o1) (HY.out.nix o1))
        rw [HWr.out] at HQ
        have HR := Lib.hid (refBest_any (HX.out.nix o1) (HY.out.nix o1) (by omega) H0.out)
        clear o1 HP
        generalize (bst xs ys 4).1 = b at *
        go_wp2_with fail
        refine (HQ.out).mono ?_
        rintro e w2 ⟨rfl, rfl⟩
        go_wp2_with fail
        refine (HR.out).mono ?_
        rintro e w2 ⟨rfl, o2⟩
        have O2 := Lib.hid (O1.out.trans o2)
        have HW := Lib.hid (awake9 w2)
        clear o2 HR HQ
        go_wp2_with fail
        refine (HW.out).mono ?_
        rintro e w3 ⟨rfl, o3⟩
        have HO := Lib.hid (O2.out.trans o3)
        clear o3 HW
        go_wp2
        go_ret
        exact ⟨rfl, HO.out⟩
      · rw [if_neg h0] at HP
        have HWr : Hid (wrE 1 xs ys = ckE xs ys) := Lib.hid (if_pos (by decide))
        go_enter Try.func5, Try.ntmps5
        go_wp2_with fail
        refine (HP.out).mono ?_
        rintro e w1 ⟨rfl, o1⟩
        have O1 := Lib.hid o1
        have HQ := Lib.hid (wrong_any 1 (HX.out.nix o1) (HY.out.nix o1))
        rw [HWr.out] at HQ
        have HW := Lib.hid (awake9 w1)
        clear o1 HP HWr
        generalize ckE xs ys = E at *
        go_wp2_with fail
        refine (HQ.out).mono ?_
        rintro e w2 ⟨rfl, rfl⟩
        go_wp2_with fail
        refine (HW.out).mono ?_
        rintro e w3 ⟨rfl, o3⟩
        have HO := Lib.hid (O1.out.trans o3)
        clear o3 HW
        go_wp2
        go_ret
        exact ⟨rfl, HO.out⟩
end Go.Proofs.Ytmnogedkinhljaa
