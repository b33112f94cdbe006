/-
  PredictBack: its walk.
-/
import Derived.Test.YtgjnhbfdbiibdaaKLTells
import Derived.Test.YtgjnhbfdbiibdaaKRst
namespace Go.Proofs.Ytgjnhbfdbiibdaa
open Go.RowKit

theorem resT_getD (s : Nat) (cs xs : List Int) (n k : Nat) (h : k < n) : (resT s cs xs n).getD k 0 = xs.getD (cs.length + k) 0 - tld s cs xs (cs.length + k) := by
  unfold resT
  rw [List.getD_eq_getElem?_getD, List.getElem?_map, List.getElem?_range h]
  rfl
/-- Restore of the Residual -/
theorem curK_res (s : Nat) (cs xs : List Int) (n : Nat) (hn : cs.length + n = xs.length) : ∀ k, k ≤ n → curK s cs (xs.take cs.length) (resT s cs xs n) k = xs.take (cs.length + k) := by
  have hfl : (xs.take cs.length).length = cs.length := by rw [List.length_take]; omega
  intro k
  induction k with
  | zero => intro _; rfl
  | succ k ih =>
    intro hk
    have hlt : cs.length + k < xs.length := by omega
    simp only [curK]
    rw [ih (by omega), hfl, resT_getD s cs xs n k (by omega), tld_congr s cs (xs.take (cs.length + k)) xs (cs.length + k) (by omega) (fun i hi => take_getD xs _ i hi)]
    rw [show cs.length + (k + 1) = cs.length + k + 1 by omega, List.take_succ_eq_append_getElem hlt, getD_of hlt]
    congr 2
    omega
theorem rst_res {P S : Int} {cs xs : List Int} (h : resE P S cs xs = 0) : rstE P S cs (xs.take cs.length) (resV P S cs xs) = 0 ∧ rstV P S cs (xs.take cs.length) (resV P S cs xs) = xs := by
  have h0 := h
  unfold resE at h
  by_cases hok : okL P S cs
  · rw [if_pos hok] at h
    by_cases hl : xs.length < cs.length
    · rw [if_pos hl] at h; omega
    · rw [if_neg hl] at h
      by_cases ha : ∀ x ∈ xs, isS x
      · have hv : resV P S cs xs = resT S.toNat cs xs (xs.length - cs.length) := if_pos h0
        have hfl : (xs.take cs.length).length = cs.length := by rw [List.length_take]; omega
        have hc : curK S.toNat cs (xs.take cs.length) (resV P S cs xs) (resV P S cs xs).length = xs := by
          rw [hv, resT_len, curK_res S.toNat cs xs _ (by omega) _ (Nat.le_refl _)]
          exact List.take_of_length_le (by omega)
        have e : rstE P S cs (xs.take cs.length) (resV P S cs xs) = 0 := by
          unfold rstE
          rw [if_pos hok, if_neg (by omega), hc, if_pos ha]
        exact ⟨e, by unfold rstV; rw [if_pos e, hc]⟩
      · rw [if_neg ha] at h; omega
  · rw [if_neg hok] at h; omega
/-- Residual of Restore -/
theorem res_rst {P S : Int} {cs fs l : List Int} (h : rstE P S cs fs l = 0) : resE P S cs (rstV P S cs fs l) = 0 ∧ resV P S cs (rstV P S cs fs l) = l ∧ (rstV P S cs fs l).take fs.length = fs ∧ (rstV P S cs fs l).length = fs.length + l.length := by
  obtain ⟨hok, hfl, ha⟩ := rstE_zero h
  have hv : rstV P S cs fs l = curK S.toNat cs fs l l.length := if_pos h
  have hlen : (curK S.toNat cs fs l l.length).length = fs.length + l.length := curK_len _ _ _ _ _
  rw [hv]
  have e : resE P S cs (curK S.toNat cs fs l l.length) = 0 := by
    unfold resE
    rw [if_pos hok, if_neg (by rw [hlen]; omega), if_pos ha]
  refine ⟨e, ?_, curK_first _ _ _ _ _, hlen⟩
  unfold resV
  rw [if_pos e, hlen, ← hfl, Nat.add_sub_cancel_left]
  refine List.ext_getElem (by rw [resT_len]) (fun k h1 h2 => ?_)
  have h3 := resT_getD S.toNat cs (curK S.toNat cs fs l l.length) l.length k h2
  rw [getD_of h1, ← hfl, curK_at S.toNat cs fs l h2 (by omega)] at h3
  rw [h3, getD_of h2]
  omega
theorem rst_bad {P S : Int} {cs fs l : List Int} (hok : okL P S cs) (hfl : fs.length = cs.length) (h : rstE P S cs fs l ≠ 0) : rstE P S cs fs l = 10 ∧ (rstV P S cs fs l).length = 0 := by
  refine ⟨?_, by unfold rstV; rw [if_neg h]; rfl⟩
  unfold rstE at h ⊢
  rw [if_pos hok, if_neg (by omega)] at h ⊢
  by_cases ha : ∀ x ∈ curK S.toNat cs fs l l.length, isS x
  · rw [if_pos ha] at h; omega
  · rw [if_neg ha]
theorem resE_ok {P S : Int} {cs xs : List Int} (h : resE P S cs xs = 0) : okL P S cs ∧ cs.length ≤ xs.length := by
  unfold resE at h
  by_cases hok : okL P S cs
  · rw [if_pos hok] at h
    by_cases hl : xs.length < cs.length
    · rw [if_pos hl] at h; omega
    · exact ⟨hok, by omega⟩
  · rw [if_neg hok] at h; omega

set_option maxRecDepth 100000 in
set_option maxHeartbeats 4000000 in
theorem back_any {w : World} (P S : Int) (Ac : Option Addr) (nc cc : Nat) (cs : List Int) (A1 : Option Addr) (n1 c1 : Nat) (l1 : List Int) (A2 : Option Addr) (n2 c2 : Nat) (l2 : List Int) (hcs : ISrc w (.slice Ac nc cc) cs) (h1 : ISrc w (.slice A1 n1 c1) l1) (h2 : ISrc w (.slice A2 n2 c2) l2) :
    Calls Try.prog 5 #[linV P S (.slice Ac nc cc), .slice A1 n1 c1, .slice A2 n2 c2] w fun e w' => e = .returned (.bool true) ∧ Only Nix w w' := by
  have hcl := hcs.len
  have hsc := hcs.small
  rw [← hcl] at hsc
  have hb1 := h1.len
  have hs1 := h1.small
  rw [← hb1] at hs1
  have hb2 := h2.len
  have hs2 := h2.small
  rw [← hb2] at hs2
  have a0 := (Only.refl Nix w).alloc (.cells #[iv P, iv S, .slice Ac nc cc] 24)
  have B0 := Box.new w 24 #[iv P, iv S, .slice Ac nc cc]
  obtain ⟨Wa, hWa⟩ : ∃ Wa, w.alloc (.cells #[iv P, iv S, .slice Ac nc cc] 24) = Wa := ⟨_, rfl⟩
  rw [hWa] at a0 B0
  have d0 := B0.cell 0
  have d1 := B0.cell 1
  have d2 := B0.cell 2
  simp only [List.getElem?_toArray, List.getElem?_cons_zero, List.getElem?_cons_succ] at d0 d1 d2
  have HA := Lib.hid a0
  have HC := Lib.hid hcs
  have H1 := Lib.hid h1
  have H2 := Lib.hid h2
  have Hcl := Lib.hid hcl
  have Hb1 := Lib.hid hb1
  have Hb2 := Lib.hid hb2
  clear hcs h1 h2 a0 B0 hcl hb1 hb2
  by_cases g0 : 40 < nc
  · have g0i : (40 : Int) < (nc : Int) := by omega
    have HW := Lib.hid (awake6 Wa)
    go_enter Try.func5, Try.ntmps5
    go_wp2_with fail
    refine (HW.out).mono ?_
    rintro e w1 ⟨rfl, o1⟩
    have HO := Lib.hid (HA.out.trans o1)
    clear o1 HW
    go_wp2
    go_ret
    exact ⟨rfl, HO.out⟩
  · have g0i : ¬ (40 : Int) < (nc : Int) := by omega
    by_cases g1 : 100 < n1
    · have g1i : (100 : Int) < (n1 : Int) := by omega
      have HW := Lib.hid (awake6 Wa)
      go_enter Try.func5, Try.ntmps5
      go_wp2_with fail
      refine (HW.out).mono ?_
      rintro e w1 ⟨rfl, o1⟩
      have HO := Lib.hid (HA.out.trans o1)
      clear o1 HW
      go_wp2
      go_ret
      exact ⟨rfl, HO.out⟩
    · have g1i : ¬ (100 : Int) < (n1 : Int) := by omega
      by_cases g2 : 100 < n2
      · have g2i : (100 : Int) < (n2 : Int) := by omega
        have HW := Lib.hid (awake6 Wa)
        go_enter Try.func5, Try.ntmps5
        go_wp2_with fail
        refine (HW.out).mono ?_
        rintro e w1 ⟨rfl, o1⟩
        have HO := Lib.hid (HA.out.trans o1)
        clear o1 HW
        go_wp2
        go_ret
        exact ⟨rfl, HO.out⟩
      · have g2i : ¬ (100 : Int) < (n2 : Int) := by omega
        have HR := Lib.hid (residual_any P S Ac nc cc cs A1 n1 c1 l1 (HC.out.nix HA.out) (H1.out.nix HA.out) (by omega))
        have hcap1 := H1.out.cap
        rw [← Hb1.out] at hcap1
        go_enter Try.func5, Try.ntmps5
        by_cases hE : resE P S cs l1 = 0
        · obtain ⟨hok, hle⟩ := resE_ok hE
          obtain ⟨r1, r2⟩ := rst_res hE
          rw [← Hcl.out] at r1 r2
          have hlo : nc ≤ n1 := by rw [Hcl.out, Hb1.out]; exact hle
          have hloc : nc ≤ c1 := by omega
          have hdl : (resV P S cs l1).length ≤ n1 := by rw [Hb1.out]; exact resV_len P S cs l1
          have HOK := Lib.hid hok
          have HR1 := Lib.hid r1
          have HR2 := Lib.hid r2
          have HE := Lib.hid hE
          clear hok hle r1 r2 hE
          go_wp2_with fail
          refine (HR.out).mono ?_
          rintro e w2 ⟨⟨A3, c3, rfl, hI1⟩, o2⟩
          have HO2 := Lib.hid (HA.out.trans o2)
          have e0 := cell_keep o2 d0
          have e1 := cell_keep o2 d1
          have e2 := cell_keep o2 d2
          have hfirst : ISrc w2 (.slice A1 nc c1) (l1.take nc) := (H1.out.nix HO2.out).take nc hlo
          have HR3 := restore_any P S Ac nc cc cs A1 nc c1 (l1.take nc) A3 _ c3 (resV P S cs l1) (HC.out.nix HO2.out) hfirst hI1 (by omega)
          unfold RstR at HR3
          rw [HR1.out, HR2.out, ← Hb1.out] at HR3
          have HR4 := Lib.hid HR3
          rw [HE.out]
          obtain ⟨k1, hk1⟩ : ∃ k1, (resV P S cs l1).length = k1 := ⟨_, rfl⟩
          rw [hk1] at HR4 ⊢
          clear hI1 o2 HR d0 d1 d2 HR3 hfirst hdl hk1 HR1 HR2 HE
          go_wp2_with fail
          refine (HR4.out).mono ?_
          rintro e w3 ⟨⟨A4, c4, rfl, hI4⟩, o3⟩
          have HO3 := Lib.hid (HO2.out.trans o3)
          have f0 := cell_keep o3 e0
          have f1 := cell_keep o3 e1
          have f2 := cell_keep o3 e2
          have HIn := Lib.hid (ints_nix hI4 (H1.out.nix HO3.out))
          clear o3 HR4 hI4 e0 e1 e2
          go_wp2_with fail
          refine (HIn.out).mono ?_
          rintro e w4 ⟨rfl, o4⟩
          have HO4 := Lib.hid (HO3.out.trans o4)
          have e0 := cell_keep o4 f0
          have e1 := cell_keep o4 f1
          have e2 := cell_keep o4 f2
          have hfirst : ISrc w4 (.slice A1 nc c1) (l1.take nc) := (H1.out.nix HO4.out).take nc hlo
          have HR3 := Lib.hid (restore_any P S Ac nc cc cs A1 nc c1 (l1.take nc) A2 n2 c2 l2 (HC.out.nix HO4.out) hfirst (H2.out.nix HO4.out) (by omega))
          have hfl : (l1.take nc).length = nc := by rw [List.length_take, ← Hb1.out]; omega
          have Hfl := Lib.hid hfl
          clear o4 HIn f0 f1 f2 hfirst hfl
          by_cases hG : rstE P S cs (l1.take nc) l2 = 0
          · obtain ⟨r1, r2, r3, r4⟩ := res_rst hG
            rw [Hfl.out] at r3 r4
            have HG := Lib.hid hG
            have HR1 := Lib.hid r1
            have HR2 := Lib.hid r2
            have HR5 := Lib.hid r3
            have hyl : (rstV P S cs (l1.take nc) l2).length = nc + n2 := by rw [r4, Hb2.out]
            clear hG r1 r2 r3 r4
            go_wp2_with fail
            refine (HR3.out).mono ?_
            rintro e w5 ⟨⟨A5, c5, rfl, hI5⟩, o5⟩
            generalize rstV P S cs (l1.take nc) l2 = Y at *
            have HO5 := Lib.hid (HO4.out.trans o5)
            have f0 := cell_keep o5 e0
            have f1 := cell_keep o5 e1
            have f2 := cell_keep o5 e2
            rw [hyl] at hI5 ⊢
            rw [HG.out]
            have hcap5 := hI5.cap
            rw [hyl] at hcap5
            have HI5 := Lib.hid hI5
            have hnc5 : nc ≤ c5 := by omega
            obtain ⟨m5, hm5⟩ : ∃ m5, nc + n2 = m5 := ⟨_, rfl⟩
            have hm5n : nc ≤ m5 := by omega
            rw [hm5] at HI5 ⊢
            have HR6 := residual_any P S Ac nc cc cs A5 m5 c5 Y (HC.out.nix HO5.out) HI5.out (by omega)
            unfold ResR at HR6
            rw [HR1.out, HR2.out, ← Hb2.out] at HR6
            have HR7 := Lib.hid HR6
            clear o5 hI5 HR3 e0 e1 e2 HR6 HR1 HR2 hyl hcap5
            go_wp2_with fail
            refine (HR7.out).mono ?_
            rintro e w6 ⟨⟨A6, c6, rfl, hI6⟩, o6⟩
            have HO6 := Lib.hid (HO5.out.trans o6)
            have HIn := Lib.hid (ints_nix hI6 (H2.out.nix HO6.out))
            have HI7 := Lib.hid ((HI5.out.take nc hm5n).nix o6)
            rw [HR5.out] at HI7
            clear o6 HR7 hI6 f0 f1 f2 HI5
            go_wp2_with fail
            refine (HIn.out).mono ?_
            rintro e w7 ⟨rfl, o7⟩
            have HO7 := Lib.hid (HO6.out.trans o7)
            have HIn2 := Lib.hid (ints_nix (HI7.out.nix o7) ((H1.out.nix HO7.out).take nc hlo))
            clear o7 HIn HI7
            go_wp2_with fail
            refine (HIn2.out).mono ?_
            rintro e w8 ⟨rfl, o8⟩
            have HO8 := Lib.hid (HO7.out.trans o8)
            have HW := Lib.hid (awake6 w8)
            clear o8 HIn2
            go_wp2_with fail
            refine (HW.out).mono ?_
            rintro e w9 ⟨rfl, o9⟩
            have HO9 := Lib.hid (HO8.out.trans o9)
            clear o9 HW
            go_wp2
            go_ret
            exact ⟨rfl, HO9.out⟩
          · obtain ⟨r1, r2⟩ := rst_bad HOK.out (by rw [Hfl.out, ← Hcl.out]) hG
            have HR1 := Lib.hid r1
            have HR2 := Lib.hid r2
            clear r1 r2 hG
            go_wp2_with fail
            refine (HR3.out).mono ?_
            rintro e w5 ⟨⟨A5, c5, rfl, hI5⟩, o5⟩
            have HO5 := Lib.hid (HO4.out.trans o5)
            have HW := Lib.hid (awake6 w5)
            rw [HR1.out, HR2.out]
            clear o5 hI5 HR3 e0 e1 e2
            go_wp2_with fail
            refine (HW.out).mono ?_
            rintro e w9 ⟨rfl, o9⟩
            have HO9 := Lib.hid (HO5.out.trans o9)
            clear o9 HW
            go_wp2
            go_ret
            exact ⟨rfl, HO9.out⟩
        · have hV : (resV P S cs l1).length = 0 := by unfold resV; rw [if_neg hE]; rfl
          have HV := Lib.hid hV
          obtain ⟨E, hEE⟩ : ∃ E, resE P S cs l1 = E := ⟨_, rfl⟩
          rw [hEE] at hE
          have hEb : ¬ E = 0 := hE
          have HEE := Lib.hid hEE
          clear hV hEE hE
          go_wp2_with fail
          refine (HR.out).mono ?_
          rintro e w2 ⟨⟨A3, c3, rfl, hI1⟩, o2⟩
          have HO2 := Lib.hid (HA.out.trans o2)
          have HW := Lib.hid (awake6 w2)
          rw [HV.out, HEE.out]
          clear o2 hI1 HR
          go_wp2_with fail
          refine (HW.out).mono ?_
          rintro e w9 ⟨rfl, o9⟩
          have HO9 := Lib.hid (HO2.out.trans o9)
          clear o9 HW
          go_wp2
          go_ret
          exact ⟨rfl, HO9.out⟩
end Go.Proofs.Ytgjnhbfdbiibdaa
