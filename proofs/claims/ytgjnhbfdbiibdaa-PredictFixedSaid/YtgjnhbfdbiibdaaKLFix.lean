/-
  PredictFixed: its walk.
-/
import Derived.Test.YtgjnhbfdbiibdaaKLTells
import Derived.Test.YtgjnhbfdbiibdaaKRBest
namespace Go.Proofs.Ytgjnhbfdbiibdaa
open Go.RowKit

theorem resE_fx_cases (xs : List Int) (k : Nat) (hk : k ≤ 4) : (resE 4 0 (fx k) xs = 0 ∧ k ≤ xs.length ∧ ∀ x ∈ xs, isS x) ∨ ((resE 4 0 (fx k) xs = 1 ∨ resE 4 0 (fx k) xs = 10) ∧ (resV 4 0 (fx k) xs).length = 0) := by
  by_cases h : resE 4 0 (fx k) xs = 0
  · left
    refine ⟨h, ?_⟩
    unfold resE at h
    rw [if_pos (fx_ok k hk)] at h
    by_cases hl : xs.length < (fx k).length
    · rw [if_pos hl] at h; omega
    · rw [if_neg hl] at h
      rw [fx_len k hk] at hl
      by_cases ha : ∀ x ∈ xs, isS x
      · exact ⟨by omega, ha⟩
      · rw [if_neg ha] at h; omega
  · right
    refine ⟨?_, by unfold resV; rw [if_neg h]; rfl⟩
    unfold resE at h ⊢
    rw [if_pos (fx_ok k hk)] at h ⊢
    by_cases hl : xs.length < (fx k).length
    · rw [if_pos hl]; exact .inl rfl
    · rw [if_neg hl] at h ⊢
      by_cases ha : ∀ x ∈ xs, isS x
      · rw [if_pos ha] at h; omega
      · rw [if_neg ha]; exact .inr rfl

set_option maxRecDepth 100000 in
set_option maxHeartbeats 4000000 in
theorem fixedLaw_any {w : World} (order : Int) (A : Option Addr) (n c : Nat) (xs : List Int) (hxs : ISrc w (.slice A n c) xs) :
    Calls Try.prog 6 #[iv order, .slice A n c] w fun e w' => e = .returned (.bool true) ∧ Only Nix w w' := by
  have hxl := hxs.len
  have hsx := hxs.small
  rw [← hxl] at hsx
  have HX := Lib.hid hxs
  have Hxl := Lib.hid hxl
  clear hxs hxl
  by_cases g1 : 100 < n
  · have g1i : (100 : Int) < (n : Int) := by omega
    have HW := Lib.hid (awake6 w)
    go_enter Try.func6, Try.ntmps6
    go_wp2_with fail
    refine (HW.out).mono ?_
    rintro e w1 ⟨rfl, o1⟩
    have HO := Lib.hid o1
    clear o1 HW
    go_wp2
    go_ret
    exact ⟨rfl, HO.out⟩
  · have g1i : ¬ (100 : Int) < (n : Int) := by omega
    by_cases hr : order < 0 ∨ 4 < order
    · have HF := Lib.hid (fixed_no w order hr)
      go_enter Try.func6, Try.ntmps6
      go_wp2_with fail
      refine (HF.out).mono ?_
      rintro e w1 ⟨rfl, o1⟩
      have a1 := (Only.refl Nix w1).alloc (.cells #[iv 0, iv 0, .slice none 0 0] 24)
      have B1 := Box.new w1 24 #[iv 0, iv 0, .slice none 0 0]
      have d2 := B1.cell 2
      simp only [List.getElem?_toArray, List.getElem?_cons_zero, List.getElem?_cons_succ] at d2
      have HO1 := Lib.hid (o1.trans a1)
      have HB := Lib.hid (best_any (w := w1.alloc (.cells #[iv 0, iv 0, .slice none 0 0] 24)) A n c xs (HX.out.nix HO1.out) (by omega))
      clear o1 HF a1 B1
      go_wp2_with fail
      refine (HB.out).mono ?_
      rintro e w2 ⟨rfl, o2⟩
      have HO2 := Lib.hid (HO1.out.trans o2)
      have e2 := cell_keep o2 d2
      have HB2 := Lib.hid (bestRef_any A n c xs (HX.out.nix HO2.out) (by omega))
      clear o2 HB d2
      go_wp2_with fail
      refine (HB2.out).mono ?_
      rintro e w3 ⟨rfl, o3⟩
      have HO3 := Lib.hid (HO2.out.trans o3)
      have f2 := cell_keep o3 e2
      have HW := Lib.hid (awake6 w3)
      clear o3 HB2 e2
      rcases hr with hr | hr
      · go_wp2_with fail
        refine (HW.out).mono ?_
        rintro e w4 ⟨rfl, o4⟩
        have HO4 := Lib.hid (HO3.out.trans o4)
        clear o4 HW
        go_wp2
        go_ret
        exact ⟨rfl, HO4.out⟩
      · have hr0 : ¬ order < 0 := by omega
        go_wp2_with fail
        refine (HW.out).mono ?_
        rintro e w4 ⟨rfl, o4⟩
        have HO4 := Lib.hid (HO3.out.trans o4)
        clear o4 HW
        go_wp2
        go_ret
        exact ⟨rfl, HO4.out⟩
    · obtain ⟨k, rfl⟩ := Int.eq_ofNat_of_zero_le (show 0 ≤ order by omega)
      have hk4 : k ≤ 4 := by omega
      have hk0 : ¬ (k : Int) < 0 := by omega
      have hk4i : ¬ 4 < (k : Int) := by omega
      have HF := Lib.hid (fixed_any w k hk4)
      clear hr
      go_enter Try.func6, Try.ntmps6
      go_wp2_with fail
      refine (HF.out).mono ?_
      rintro e w1 ⟨⟨A1, c1, rfl, hI1⟩, o1⟩
      have a1 := (Only.refl Nix w1).alloc (.cells #[iv 4, iv 0, .slice A1 k c1] 24)
      have B1 := Box.new w1 24 #[iv 4, iv 0, .slice A1 k c1]
      have d0 := B1.cell 0
      have d1 := B1.cell 1
      have d2 := B1.cell 2
      simp only [List.getElem?_toArray, List.getElem?_cons_zero, List.getElem?_cons_succ] at d0 d1 d2
      have HO1 := Lib.hid (o1.trans a1)
      have HI1 := Lib.hid (hI1.nix a1)
      have HB := Lib.hid (best_any (w := w1.alloc (.cells #[iv 4, iv 0, .slice A1 k c1] 24)) A n c xs (HX.out.nix HO1.out) (by omega))
      clear o1 HF a1 B1 hI1
      go_wp2_with fail
      refine (HB.out).mono ?_
      rintro e w2 ⟨rfl, o2⟩
      have HO2 := Lib.hid (HO1.out.trans o2)
      have HI2 := Lib.hid (HI1.out.nix o2)
      have e0 := cell_keep o2 d0
      have e1 := cell_keep o2 d1
      have e2 := cell_keep o2 d2
      have HB2 := Lib.hid (bestRef_any A n c xs (HX.out.nix HO2.out) (by omega))
      clear o2 HB d0 d1 d2 HI1
      go_wp2_with fail
      refine (HB2.out).mono ?_
      rintro e w3 ⟨rfl, o3⟩
      have HO3 := Lib.hid (HO2.out.trans o3)
      have HI3 := Lib.hid (HI2.out.nix o3)
      have f0 := cell_keep o3 e0
      have f1 := cell_keep o3 e1
      have f2 := cell_keep o3 e2
      have HR := Lib.hid (residual_any 4 0 A1 k c1 (fx k) A n c xs HI3.out (HX.out.nix HO3.out) (by omega))
      clear o3 HB2 e0 e1 e2 HI2
      go_wp2_with fail
      refine (HR.out).mono ?_
      rintro e w4 ⟨⟨A4, c4, rfl, hI4⟩, o4⟩
      have HO4 := Lib.hid (HO3.out.trans o4)
      have e0 := cell_keep o4 f0
      have e1 := cell_keep o4 f1
      have e2 := cell_keep o4 f2
      clear o4 HR f0 f1 f2 HI3
      rcases resE_fx_cases xs k hk4 with ⟨hE, hle, hS⟩ | ⟨hE, hV⟩
      · rw [hE]
        have hV := res_difN xs k hk4 hle hS
        rw [hV, difN_len, ← Hxl.out] at hI4 ⊢
        have HI4 := Lib.hid hI4
        have HDf := Lib.hid (differ_any (w := w4) k hk4 A n c xs (HX.out.nix HO4.out) (by omega) hS)
        obtain ⟨m, hm⟩ : ∃ m, n - k = m := ⟨_, rfl⟩
        rw [hm] at HI4 ⊢
        clear hE hle hS hV hI4
        go_wp2_with fail
        refine (HDf.out).mono ?_
        rintro e w5 ⟨⟨A5, c5, rfl, hI5⟩, o5⟩
        rw [← Hxl.out, hm] at hI5 ⊢
        have HO5 := Lib.hid (HO4.out.trans o5)
        have HIn := Lib.hid (ints_nix (HI4.out.nix o5) hI5)
        clear o5 hI5 HDf HI4 hm
        go_wp2_with fail
        refine (HIn.out).mono ?_
        rintro e w6 ⟨rfl, o6⟩
        have HO6 := Lib.hid (HO5.out.trans o6)
        have HW := Lib.hid (awake6 w6)
        clear o6 HIn
        go_wp2_with fail
        refine (HW.out).mono ?_
        rintro e w7 ⟨rfl, o7⟩
        have HO7 := Lib.hid (HO6.out.trans o7)
        clear o7 HW
        go_wp2
        go_ret
        exact ⟨rfl, HO7.out⟩
      · rw [hV] at hI4 ⊢
        have HW := Lib.hid (awake6 w4)
        rcases hE with hE | hE
        · rw [hE]
          clear hE hV hI4
          go_wp2_with fail
          refine (HW.out).mono ?_
          rintro e w7 ⟨rfl, o7⟩
          have HO7 := Lib.hid (HO4.out.trans o7)
          clear o7 HW
          go_wp2
          go_ret
          exact ⟨rfl, HO7.out⟩
        · rw [hE]
          clear hE hV hI4
          go_wp2_with fail
          refine (HW.out).mono ?_
          rintro e w7 ⟨rfl, o7⟩
          have HO7 := Lib.hid (HO4.out.trans o7)
          clear o7 HW
          go_wp2
          go_ret
          exact ⟨rfl, HO7.out⟩
end Go.Proofs.Ytgjnhbfdbiibdaa
