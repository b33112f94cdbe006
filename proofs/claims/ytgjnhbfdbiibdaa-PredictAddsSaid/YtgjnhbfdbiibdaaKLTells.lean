/-
  PredictTells: its walk.
-/
import Derived.Test.YtgjnhbfdbiibdaaKAwake
namespace Go.Proofs.Ytgjnhbfdbiibdaa
open Go.RowKit

theorem ints_nix {w : World} {v1 v2 : Value} {xs : List Int} (h1 : ISrc w v1 xs) (h2 : ISrc w v2 xs) :
    Calls Try.prog 14 #[v1, v2] w fun e w' => e = .returned (.bool true) ∧ Only Nix w w' :=
  (ints_yes h1 h2).mono fun _ _ h => ⟨h.1, by obtain ⟨m, hm⟩ := h.2; rw [hm]; exact (Only.refl _ _).drewN m⟩

/-- an operation behind a guard that is met -/
theorem wanted_yes {ops : Array Oper} {tmps : Array Value} {o : Oper} {j s : Nat} {b : Bool} (hg : o.guard = some (j, b)) (hd : (ops[j]?.bind fun x => x.dst) = some s) (ht : tmps[s]? = some (.bool b)) : Region.wanted o (yielded ops tmps) = true := by
  simp [Region.wanted, yielded, hg, hd, ht]
theorem wanted_no {ops : Array Oper} {tmps : Array Value} {o : Oper} {j s : Nat} {b : Bool} (hg : o.guard = some (j, b)) (hd : (ops[j]?.bind fun x => x.dst) = some s) (ht : tmps[s]? = some (.bool (!b))) : ¬ Region.wanted o (yielded ops tmps) = true := by
  simp [Region.wanted, yielded, hg, hd, ht]
set_option maxRecDepth 100000 in
set_option maxHeartbeats 4000000 in
theorem tells_any {w : World} (P S : Int) (Ac : Option Addr) (nc cc : Nat) (cs : List Int) (A : Option Addr) (n c : Nat) (xs : List Int) (hcs : ISrc w (.slice Ac nc cc) cs) (hxs : ISrc w (.slice A n c) xs) :
    Calls Try.prog 3 #[linV P S (.slice Ac nc cc), .slice A n c] w fun e w' => e = .returned (.bool true) ∧ Only Nix w w' := by
  have hcl := hcs.len
  have hxl := hxs.len
  have hsc := hcs.small
  have hsx := hxs.small
  rw [← hcl] at hsc
  rw [← hxl] at hsx
  have a0 := (Only.refl Nix w).alloc (.cells #[iv P, iv S, .slice Ac nc cc] 24)
  have B0 := Box.new w 24 #[iv P, iv S, .slice Ac nc cc]
  obtain ⟨Wa, hWa⟩ : ∃ Wa, w.alloc (.cells #[iv P, iv S, .slice Ac nc cc] 24) = Wa := ⟨_, rfl⟩
  rw [hWa] at a0 B0
  have d0 := B0.cell 0
  have d1 := B0.cell 1
  have d2 := B0.cell 2
  simp only [List.getElem?_toArray, List.getElem?_cons_zero, List.getElem?_cons_succ] at d0 d1 d2
  have HA := Lib.hid a0
  have HC := Lib.hid hcs
  have HX := Lib.hid hxs
  clear hcs hxs a0 B0 hcl hxl
  by_cases g1 : 40 < nc
  · have g1i : (40 : Int) < (nc : Int) := by omega
    have HW := Lib.hid (awake6 Wa)
    go_enter Try.func3, Try.ntmps3
    go_wp2_with fail
    refine (HW.out).mono ?_
    rintro e w1 ⟨rfl, o1⟩
    have HO := Lib.hid (HA.out.trans o1)
    clear o1 HW
    go_wp2
    go_ret
    exact ⟨rfl, HO.out⟩
  · have g1i : ¬ (40 : Int) < (nc : Int) := by omega
    by_cases g2 : 100 < n
    · have g2i : (100 : Int) < (n : Int) := by omega
      have HW := Lib.hid (awake6 Wa)
      go_enter Try.func3, Try.ntmps3
      go_wp2_with fail
      refine (HW.out).mono ?_
      rintro e w1 ⟨rfl, o1⟩
      have HO := Lib.hid (HA.out.trans o1)
      clear o1 HW
      go_wp2
      go_ret
      exact ⟨rfl, HO.out⟩
    · have g2i : ¬ (100 : Int) < (n : Int) := by omega
      have hn : n ≤ 1000 := by omega
      have HR := Lib.hid (residual_any P S Ac nc cc cs A n c xs (HC.out.nix HA.out) (HX.out.nix HA.out) hn)
      go_enter Try.func3, Try.ntmps3
      go_wp2_with fail
      refine (HR.out).mono ?_
      rintro e w2 ⟨⟨A1, c1, rfl, hI1⟩, o2⟩
      have HO2 := Lib.hid (HA.out.trans o2)
      have HI1 := Lib.hid hI1
      have e0 := cell_keep o2 d0
      have e1 := cell_keep o2 d1
      have e2 := cell_keep o2 d2
      have HP := Lib.hid (plain_any (w := w2) P S Ac nc cc)
      clear hI1 o2 HR d0 d1 d2
      obtain ⟨k1, hk1⟩ : ∃ k1, (resV P S cs xs).length = k1 := ⟨_, rfl⟩
      obtain ⟨E, hE⟩ : ∃ E, resE P S cs xs = E := ⟨_, rfl⟩
      rw [hk1] at HI1 ⊢
      rw [hE]
      go_wp2_with fail
      refine (HP.out).mono ?_
      rintro e w3 ⟨rfl, o3⟩
      have HO3 := Lib.hid (HO2.out.trans o3)
      have HI3 := Lib.hid (HI1.out.nix o3)
      have f0 := cell_keep o3 e0
      have f1 := cell_keep o3 e1
      have f2 := cell_keep o3 e2
      have HR := Lib.hid (residualRef_any P S Ac nc cc cs A n c xs (HC.out.nix HO3.out) (HX.out.nix HO3.out) hn)
      clear o3 e0 e1 e2 HP HI1
      go_wp2_with fail
      refine (HR.out).mono ?_
      rintro e w4 ⟨⟨A2, c2, rfl, hI2⟩, o4⟩
      rw [hk1] at hI2 ⊢
      rw [hE]
      have HO4 := Lib.hid (HO3.out.trans o4)
      have HI4 := Lib.hid (HI3.out.nix o4)
      have HI5 := Lib.hid hI2
      have q0 := cell_keep o4 f0
      have q1 := cell_keep o4 f1
      have q2 := cell_keep o4 f2
      clear o4 f0 f1 f2 HR HI3 hI2 hk1 hE
      obtain ⟨ck, hck⟩ : ∃ ck, ckL P S cs = ck := ⟨_, rfl⟩
      have HCk : Hid (∀ u, Only Nix w4 u → Calls Try.prog 12 #[linV P S (.slice Ac nc cc)] u fun e w' => e = .returned (iv ck) ∧ Only Nix u w') := Lib.hid (fun u hu => by rw [← hck]; exact check_any P S Ac nc cc cs (HC.out.nix (HO4.out.trans hu)))
      have HCr : Hid (∀ u, Only Nix w4 u → Calls Try.prog 13 #[linV P S (.slice Ac nc cc)] u fun e w' => e = .returned (iv ck) ∧ Only Nix u w') := Lib.hid (fun u hu => by rw [← hck]; exact checkRef_any P S Ac nc cc cs (HC.out.nix (HO4.out.trans hu)))
      have HPl : Hid (∀ u, Only Nix w4 u → Calls Try.prog 11 #[linV P S (.slice Ac nc cc)] u fun e w' => e = .returned (linV P S (.slice Ac nc cc)) ∧ Only Nix u w') := Lib.hid (fun u _ => plain_any P S Ac nc cc)
      have HIn : Hid (∀ u, Only Nix w4 u → Calls Try.prog 14 #[.slice A1 k1 c1, .slice A2 k1 c2] u fun e w' => e = .returned (.bool true) ∧ Only Nix u w') := Lib.hid (fun u hu => ints_nix (HI4.out.nix hu) (HI5.out.nix hu))
      have HAw : Hid (∀ u, Only Nix w4 u → Calls Try.prog 8 #[] u fun e w' => e = .returned (.bool true) ∧ Only Nix u w') := Lib.hid (fun u _ => awake6 u)
      clear hck
      go_wp2
      have noOut : ∀ j s, j < 20 → (([some 32, some 33, some 34, some 35, some 36, some 37, some 38, some 39, some 40, some 41, some 42, some 43, some 44, some 45, some 46, some 47, some 48, some 49, some 50, some 4] : List (Option Nat)).all fun d => d != some s) = true → ([some 32, some 33, some 34, some 35, some 36, some 37, some 38, some 39, some 40, some 41, some 42, some 43, some 44, some 45, some 46, some 47, some 48, some 49, some 50, some 4] : List (Option Nat)).getD j none ≠ some s := by
        intro j s hj ha e
        rw [List.getD_eq_getElem?_getD, List.getElem?_eq_getElem (by exact hj), Option.getD_some] at e
        have := List.all_eq_true.1 ha _ (List.getElem_mem (by exact hj))
        rw [e] at this
        simp at this
      refine region_val (by kernel_rfl) (fun k0 => ([some 32, some 33, some 34, some 35, some 36, some 37, some 38, some 39, some 40, some 41, some 42, some 43, some 44, some 45, some 46, some 47, some 48, some 49, some 50, some 4] : List (Option Nat)).getD k0 none) (fun k0 => ([(linV P S (.slice Ac nc cc)), (iv ck), (linV P S (.slice Ac nc cc)), (linV P S (.slice Ac nc cc)), (iv ck), (.bool true), (.bool true), (.slice A1 k1 c1), (.slice A2 k1 c2), (.bool true), (.bool true), (.bool true), (iv E), (iv E), (.bool true), (.bool true), (.bool true), (.bool true), (.bool true), (.bool true)] : List Value).getD k0 undef) (fun _ u => Only Nix w4 u) 51 20 rfl (by kernel_rfl) (by kernel_rfl) rfl (by kernel_rfl) (by kernel_rfl) (Only.refl _ _).drew ?stepsR [(32, linV P S (.slice Ac nc cc)), (33, iv ck), (34, linV P S (.slice Ac nc cc)), (35, linV P S (.slice Ac nc cc)), (36, iv ck), (37, .bool true), (38, .bool true), (39, .slice A1 k1 c1), (40, .slice A2 k1 c2), (41, .bool true), (42, .bool true), (43, .bool true), (44, iv E), (45, iv E), (46, .bool true), (47, .bool true), (48, .bool true), (49, .bool true), (50, .bool true), (4, .bool true)] rfl ?doneR
      case stepsR =>
        refine ⟨?_, ?_, ?_, ?_, ?_, ?_, ?_, ?_, ?_, ?_, ?_, ?_, ?_, ?_, ?_, ?_, ?_, ?_, ?_, ?_, trivial⟩
        · intro L A' u hW hL0 hnd K' hK
          have r2 : A'.tmps[2]? = some (.pointer (some ⟨w.heap.size, 0, none⟩)) := (hW.out 2 (fun j hj => noOut j 2 hj (by kernel_rfl))).trans rfl
          have hc0 := cell_keep hW.wi q0
          have hc1 := cell_keep hW.wi q1
          have hc2 := cell_keep hW.wi q2
          go_simp
          exact hK _ (hW.wi)
        · intro L A' u hW hL0 hnd K' hK
          have r32 : A'.tmps[32]? = some (linV P S (.slice Ac nc cc)) := hW.val 0 32 (by decide) (hnd 0 (by kernel_rfl)) rfl
          have HCL := Lib.hid (HCk.out u hW.wi)
          go_simp
          refine (HCL.out).mono ?_
          rintro e' u' ⟨rfl, ho'⟩
          exact hK _ (hW.wi.trans ho')
        · intro L A' u hW hL0 hnd K' hK
          have r2 : A'.tmps[2]? = some (.pointer (some ⟨w.heap.size, 0, none⟩)) := (hW.out 2 (fun j hj => noOut j 2 hj (by kernel_rfl))).trans rfl
          have hc0 := cell_keep hW.wi q0
          have hc1 := cell_keep hW.wi q1
          have hc2 := cell_keep hW.wi q2
          go_simp
          exact hK _ (hW.wi)
        · intro L A' u hW hL0 hnd K' hK
          have r34 : A'.tmps[34]? = some (linV P S (.slice Ac nc cc)) := hW.val 2 34 (by decide) (hnd 2 (by kernel_rfl)) rfl
          have HCL := Lib.hid (HPl.out u hW.wi)
          go_simp
          refine (HCL.out).mono ?_
          rintro e' u' ⟨rfl, ho'⟩
          exact hK _ (hW.wi.trans ho')
        · intro L A' u hW hL0 hnd K' hK
          have r35 : A'.tmps[35]? = some (linV P S (.slice Ac nc cc)) := hW.val 3 35 (by decide) (hnd 3 (by kernel_rfl)) rfl
          have HCL := Lib.hid (HCr.out u hW.wi)
          go_simp
          refine (HCL.out).mono ?_
          rintro e' u' ⟨rfl, ho'⟩
          exact hK _ (hW.wi.trans ho')
        · intro L A' u hW hL0 hnd K' hK
          have r33 : A'.tmps[33]? = some (iv ck) := hW.val 1 33 (by decide) (hnd 1 (by kernel_rfl)) rfl
          have r36 : A'.tmps[36]? = some (iv ck) := hW.val 4 36 (by decide) (hnd 4 (by kernel_rfl)) rfl
          go_simp
          exact hK _ (hW.wi)
        · intro L A' u hW hL0 hnd K' hK
          have r37 : A'.tmps[37]? = some (.bool true) := hW.val 5 37 (by decide) (hnd 5 (by kernel_rfl)) rfl
          go_simp
          exact hK _ (hW.wi)
        · intro L A' u hW hL0 hnd K' hK
          have r38 : A'.tmps[38]? = some (.bool true) := hW.val 6 38 (by decide) (hnd 6 (by kernel_rfl)) rfl
          have r5 : A'.tmps[5]? = some (.slice A1 k1 c1) := (hW.out 5 (fun j hj => noOut j 5 hj (by kernel_rfl))).trans rfl
          rw [if_pos (wanted_yes (j := 6) (s := 38) rfl (by kernel_rfl) r38)]
          go_simp
          exact hK _ (hW.wi)
        · intro L A' u hW hL0 hnd K' hK
          have r38 : A'.tmps[38]? = some (.bool true) := hW.val 6 38 (by decide) (hnd 6 (by kernel_rfl)) rfl
          have r7 : A'.tmps[7]? = some (.slice A2 k1 c2) := (hW.out 7 (fun j hj => noOut j 7 hj (by kernel_rfl))).trans rfl
          rw [if_pos (wanted_yes (j := 6) (s := 38) rfl (by kernel_rfl) r38)]
          go_simp
          exact hK _ (hW.wi)
        · intro L A' u hW hL0 hnd K' hK
          have r38 : A'.tmps[38]? = some (.bool true) := hW.val 6 38 (by decide) (hnd 6 (by kernel_rfl)) rfl
          have r39 : A'.tmps[39]? = some (.slice A1 k1 c1) := hW.val 7 39 (by decide) (hnd 7 (by kernel_rfl)) rfl
          have r40 : A'.tmps[40]? = some (.slice A2 k1 c2) := hW.val 8 40 (by decide) (hnd 8 (by kernel_rfl)) rfl
          have HCL := Lib.hid (HIn.out u hW.wi)
          rw [if_pos (wanted_yes (j := 6) (s := 38) rfl (by kernel_rfl) r38)]
          go_simp
          refine (HCL.out).mono ?_
          rintro e' u' ⟨rfl, ho'⟩
          exact hK _ (hW.wi.trans ho')
        · intro L A' u hW hL0 hnd K' hK
          have r38 : A'.tmps[38]? = some (.bool true) := hW.val 6 38 (by decide) (hnd 6 (by kernel_rfl)) rfl
          have r41 : A'.tmps[41]? = some (.bool true) := hW.val 9 41 (by decide) (hnd 9 (by kernel_rfl)) rfl
          go_simp
          exact hK _ (hW.wi)
        · intro L A' u hW hL0 hnd K' hK
          have r42 : A'.tmps[42]? = some (.bool true) := hW.val 10 42 (by decide) (hnd 10 (by kernel_rfl)) rfl
          go_simp
          exact hK _ (hW.wi)
        · intro L A' u hW hL0 hnd K' hK
          have r43 : A'.tmps[43]? = some (.bool true) := hW.val 11 43 (by decide) (hnd 11 (by kernel_rfl)) rfl
          have r6 : A'.tmps[6]? = some (iv E) := (hW.out 6 (fun j hj => noOut j 6 hj (by kernel_rfl))).trans rfl
          rw [if_pos (wanted_yes (j := 11) (s := 43) rfl (by kernel_rfl) r43)]
          go_simp
          exact hK _ (hW.wi)
        · intro L A' u hW hL0 hnd K' hK
          have r43 : A'.tmps[43]? = some (.bool true) := hW.val 11 43 (by decide) (hnd 11 (by kernel_rfl)) rfl
          have r8 : A'.tmps[8]? = some (iv E) := (hW.out 8 (fun j hj => noOut j 8 hj (by kernel_rfl))).trans rfl
          rw [if_pos (wanted_yes (j := 11) (s := 43) rfl (by kernel_rfl) r43)]
          go_simp
          exact hK _ (hW.wi)
        · intro L A' u hW hL0 hnd K' hK
          have r43 : A'.tmps[43]? = some (.bool true) := hW.val 11 43 (by decide) (hnd 11 (by kernel_rfl)) rfl
          have r44 : A'.tmps[44]? = some (iv E) := hW.val 12 44 (by decide) (hnd 12 (by kernel_rfl)) rfl
          have r45 : A'.tmps[45]? = some (iv E) := hW.val 13 45 (by decide) (hnd 13 (by kernel_rfl)) rfl
          rw [if_pos (wanted_yes (j := 11) (s := 43) rfl (by kernel_rfl) r43)]
          go_simp
          exact hK _ (hW.wi)
        · intro L A' u hW hL0 hnd K' hK
          have r43 : A'.tmps[43]? = some (.bool true) := hW.val 11 43 (by decide) (hnd 11 (by kernel_rfl)) rfl
          have r46 : A'.tmps[46]? = some (.bool true) := hW.val 14 46 (by decide) (hnd 14 (by kernel_rfl)) rfl
          go_simp
          exact hK _ (hW.wi)
        · intro L A' u hW hL0 hnd K' hK
          have r47 : A'.tmps[47]? = some (.bool true) := hW.val 15 47 (by decide) (hnd 15 (by kernel_rfl)) rfl
          go_simp
          exact hK _ (hW.wi)
        · intro L A' u hW hL0 hnd K' hK
          have r48 : A'.tmps[48]? = some (.bool true) := hW.val 16 48 (by decide) (hnd 16 (by kernel_rfl)) rfl
          have HCL := Lib.hid (HAw.out u hW.wi)
          rw [if_pos (wanted_yes (j := 16) (s := 48) rfl (by kernel_rfl) r48)]
          go_simp
          refine (HCL.out).mono ?_
          rintro e' u' ⟨rfl, ho'⟩
          exact hK _ (hW.wi.trans ho')
        · intro L A' u hW hL0 hnd K' hK
          have r48 : A'.tmps[48]? = some (.bool true) := hW.val 16 48 (by decide) (hnd 16 (by kernel_rfl)) rfl
          have r49 : A'.tmps[49]? = some (.bool true) := hW.val 17 49 (by decide) (hnd 17 (by kernel_rfl)) rfl
          go_simp
          exact hK _ (hW.wi)
        · intro L A' u hW hL0 hnd K' hK
          have r50 : A'.tmps[50]? = some (.bool true) := hW.val 18 50 (by decide) (hnd 18 (by kernel_rfl)) rfl
          go_simp
          exact hK _ (hW.wi)
      case doneR =>
        intro L u hWI hall
        have HF := Lib.hid (HO4.out.trans hWI)
        clear hWI hall noOut
        simp only [putV, List.foldl_cons, List.foldl_nil, List.setIfInBounds_toArray, List.set_cons_zero, List.set_cons_succ]
        go_wp2
        go_ret
        exact ⟨rfl, HF.out⟩
end Go.Proofs.Ytgjnhbfdbiibdaa
