/-
  The document's Check, and Plain.
-/
import Derived.Test.YteahiigfclabfaaDoorHU
import Derived.Test.YteahiigfclabfaaDoorHF0
import Derived.Deep.Cut
import Derived.Deep.CutRange
namespace Go.Proofs.YteahiigfclabfaaDoor.H
open Go.RowKit

theorem Tryd.size_ref : (Tryd.prog.info? 26).map (·.size) = some 9 := by kernel_rfl
set_option maxHeartbeats 2000000 in
theorem plain_any (h : Hd) (w : World) : Calls Tryd.prog 9 #[hv h] w fun e w' => e = .returned (hv h) ∧ Only Nix w w' := by
  have HB1 := Lib.hid (Box.new (w.alloc (.cells (hc h) 23)) 26 (hc hd0))
  have hO := Lib.hid (((Only.refl Nix w).alloc (.cells (hc h) 23)).alloc (.cells (hc hd0) 26))
  have hB := (Box.new w 23 (hc h)).alloc (.cells (hc hd0) 26)
  have hs1 : (w.alloc (.cells (hc h) 23)).heap.size = w.heap.size + 1 := by simp
  rw [hs1] at HB1
  generalize hW : (w.alloc (.cells (hc h) 23)).alloc (.cells (hc hd0) 26) = W1 at *
  have q0 := hB.cell 0
  have q1 := hB.cell 1
  have q2 := hB.cell 2
  have q3 := hB.cell 3
  have q4 := hB.cell 4
  have q5 := hB.cell 5
  have q6 := hB.cell 6
  have q7 := hB.cell 7
  have q8 := hB.cell 8
  simp only [hc, hd0, List.getElem?_toArray, List.getElem?_cons_zero, List.getElem?_cons_succ] at q0 q1 q2 q3 q4 q5 q6 q7 q8 hW
  clear hB
  go_enter Tryd.func9, Tryd.ntmps9
  simp only [hv, hc] at *
  go_wp2_with (refine wpList_store_row rfl 26 (.tmp 2) (.tmp 21) rfl rfl (w.heap.size + 1) 26 (hc hd0) (hc h) rfl rfl HB1.out Tryd.size_ref rfl (hc_one _) ?st)
  case st =>
    intro wz hbz hoz
    have OW : Hid (Only Nix w wz) := Lib.hid (hO.out.then hoz (fun i e => .inr (by rw [show i = w.heap.size + 1 from e]; omega)))
    have HLd := Lib.hid hbz
    clear hbz hoz q0 q1 q2 q3 q4 q5 q6 q7 q8
    go_wp2
    refine bodyPost_ret (v := hv h) ?_ rfl ?_
    · have hb := HLd.out
      have k0 := hb.cell 0
      have k1 := hb.cell 1
      have k2 := hb.cell 2
      have k3 := hb.cell 3
      have k4 := hb.cell 4
      have k5 := hb.cell 5
      have k6 := hb.cell 6
      have k7 := hb.cell 7
      have k8 := hb.cell 8
      simp only [hc, List.getElem?_toArray, List.getElem?_cons_zero, List.getElem?_cons_succ] at k0 k1 k2 k3 k4 k5 k6 k7 k8
      simp [results, Tryd.f9, go_sem, k0, k1, k2, k3, k4, k5, k6, k7, k8, hv, hc]
    · exact ⟨rfl, OW.out⟩
set_option maxRecDepth 100000 in
set_option maxHeartbeats 8000000 in
theorem rcheck_raw (h : Hd) (w : World) : Calls Tryd.prog 8 #[hv h] w fun e w' => e = .returned (iv (rckE h)) ∧ Only Nix w w' := by
  obtain ⟨V, bc, rc, mo, dc, num, blk, rate, dep⟩ := h
  have HE : Hid (rckE ⟨V, bc, rc, mo, dc, num, blk, rate, dep⟩ = if rB bc < 0 ∨ rR rc = -1 ∨ mo < 0 ∨ 10 < mo ∨ rD dc < 0 then 13
    else if num < 0 ∨ mostV V ≤ num then 10
    else if ¬ rBok bc blk ∨ ¬ rRok rc rate ∨ dep ≠ rD dc then 22 else 0) := Lib.hid rfl
  generalize rckE ⟨V, bc, rc, mo, dc, num, blk, rate, dep⟩ = F at *
  have CB : Hid (∀ x, Calls Tryd.prog 19 #[iv bc] x fun e w' => e = .returned (iv (rB bc)) ∧ Only Nix x w') := Lib.hid (fun x => rB_any bc x)
  have CR : Hid (∀ x, Calls Tryd.prog 20 #[iv rc] x fun e w' => e = .returned (iv (rR rc)) ∧ Only Nix x w') := Lib.hid (fun x => rR_any rc x)
  have CD : Hid (∀ x, Calls Tryd.prog 21 #[iv dc] x fun e w' => e = .returned (iv (rD dc)) ∧ Only Nix x w') := Lib.hid (fun x => rD_any dc x)
  have CU : Hid (∀ x, Calls Tryd.prog 23 #[iv rc] x fun e w' => e = .returned (iv (rU rc)) ∧ x = w') := Lib.hid (fun x => unit_any rc x)
  have CM : Hid (∀ x, Calls Tryd.prog 22 #[.bool V] x fun e w' => e = .returned (iv (mostV V)) ∧ x = w') := Lib.hid (fun x => most_any V x)
  have HKb : Hid (rBok bc blk ↔ if bc = 6 then 1 ≤ blk ∧ blk ≤ 256 else if bc = 7 then 1 ≤ blk ∧ blk ≤ 65535 else blk = rB bc) := Lib.hid (by unfold rBok; exact Iff.rfl)
  have HKr : Hid (rRok rc rate ↔ if rR rc = -2 then 0 ≤ rate ∧ rate ≤ rU rc * rTop rc ∧ rate.tmod (rU rc) = 0 else rate = rR rc) := Lib.hid (by unfold rRok; exact Iff.rfl)
  have HR3 : Hid (rR rc = -2 → rc = 12 ∨ rc = 13 ∨ rc = 14) := Lib.hid (fun e => by
    by_cases hh : rc < 0 ∨ 15 < rc
    · rw [show rR rc = -1 from if_pos hh] at e; cases e
    · obtain ⟨k, rfl⟩ : ∃ k : Nat, rc = k := ⟨rc.toNat, by omega⟩
      have := all16 (fun k => rR (k : Nat) = -2 → k = 12 ∨ k = 13 ∨ k = 14) ⟨by decide, by decide, by decide, by decide, by decide, by decide, by decide, by decide, by decide, by decide, by decide, by decide, by decide, by decide, by decide, by decide⟩ k (by omega) e
      omega)
  have HB := Lib.hid (Box.new w 26 (hc ⟨V, bc, rc, mo, dc, num, blk, rate, dep⟩))
  have HO0 := Lib.hid ((Only.refl Nix w).alloc (.cells (hc ⟨V, bc, rc, mo, dc, num, blk, rate, dep⟩) 26))
  generalize hW0 : w.alloc (.cells (hc ⟨V, bc, rc, mo, dc, num, blk, rate, dep⟩) 26) = W0 at *
  have HQ : Hid (∀ x, Only Nix W0 x → x.cell? ⟨w.heap.size, 0, none⟩ = some (.bool V) ∧ x.cell? ⟨w.heap.size, 1, none⟩ = some (iv bc) ∧ x.cell? ⟨w.heap.size, 2, none⟩ = some (iv rc) ∧ x.cell? ⟨w.heap.size, 3, none⟩ = some (iv mo) ∧ x.cell? ⟨w.heap.size, 4, none⟩ = some (iv dc) ∧ x.cell? ⟨w.heap.size, 5, none⟩ = some (iv num) ∧ x.cell? ⟨w.heap.size, 6, none⟩ = some (iv blk) ∧ x.cell? ⟨w.heap.size, 7, none⟩ = some (iv rate) ∧ x.cell? ⟨w.heap.size, 8, none⟩ = some (iv dep)) := Lib.hid (fun x hx => by
    have hb := HB.out.only hx (fun e => e)
    exact ⟨hb.cell 0, hb.cell 1, hb.cell 2, hb.cell 3, hb.cell 4, hb.cell 5, hb.cell 6, hb.cell 7, hb.cell 8⟩)
  simp only [hc] at hW0
  generalize rB bc = bB at *
  generalize rR rc = rRv at *
  generalize rD dc = dD at *
  generalize mostV V = M at *
  have O0 := Lib.hid (Only.refl Nix W0)
  have q1 := (HQ.out W0 O0.out).2.1
  go_enter Tryd.func8, Tryd.ntmps8
  simp only [hv, hc] at *
  go_wp2_with fail
  refine (CB.out _).mono ?_
  rintro _ u1 ⟨rfl, ho⟩
  have O1 := Lib.hid (O0.out.trans ho)
  clear ho
  clear q1
  have q2 := (HQ.out u1 O1.out).2.2.1
  by_cases a1 : bB < 0
  · have hF : F = 13 := by rw [HE.out]; rw [if_pos (.inl a1)]
    subst hF
    go_wp2
    go_ret
    exact ⟨rfl, HO0.out.trans O1.out⟩
  · skip
    go_wp2_with fail
    refine (CR.out _).mono ?_
    rintro _ u2 ⟨rfl, ho⟩
    have O2 := Lib.hid (O1.out.trans ho)
    clear ho
    clear q2
    have q3 := (HQ.out u2 O2.out).2.2.2.1
    by_cases a2 : rRv = -1
    · subst a2
      have hF : F = 13 := by rw [HE.out]; rw [if_pos (.inr (.inl rfl))]
      subst hF
      go_wp2
      go_ret
      exact ⟨rfl, HO0.out.trans O2.out⟩
    · have a2b : (rRv == -1) = false := by simpa using a2
      by_cases a3 : mo < 0
      · have hF : F = 13 := by rw [HE.out]; rw [if_pos (.inr (.inr (.inl a3)))]
        subst hF
        go_wp2
        go_ret
        exact ⟨rfl, HO0.out.trans O2.out⟩
      · skip
        by_cases a4 : 10 < mo
        · have hF : F = 13 := by rw [HE.out]; rw [if_pos (.inr (.inr (.inr (.inl a4))))]
          subst hF
          go_wp2
          go_ret
          exact ⟨rfl, HO0.out.trans O2.out⟩
        · skip
          have q4 := (HQ.out u2 O2.out).2.2.2.2.1
          go_wp2_with fail
          refine (CD.out _).mono ?_
          rintro _ u3 ⟨rfl, ho⟩
          have O3 := Lib.hid (O2.out.trans ho)
          clear ho
          clear q3 q4
          by_cases a5 : dD < 0
          · have hF : F = 13 := by rw [HE.out]; rw [if_pos (.inr (.inr (.inr (.inr a5))))]
            subst hF
            go_wp2
            go_ret
            exact ⟨rfl, HO0.out.trans O3.out⟩
          · have HE2 := Lib.hid (HE.out.trans (if_neg (by simp only [not_or]; exact ⟨by omega, a2, by omega, by omega, by omega⟩)))
            clear HE
            have q0 := (HQ.out u3 O3.out).1
            have q5 := (HQ.out u3 O3.out).2.2.2.2.2.1
            by_cases n1 : num < 0
            · have hF : F = 10 := by rw [HE2.out, if_pos (.inl n1)]
              subst hF
              go_wp2
              have fr_N1 : ∀ j s, j < 11 → (([some 33, some 34, some 35, some 36, some 37, some 38, some 39, some 40, some 41, some 42, some 43] : List (Option Nat)).all fun d => d != some s) = true → ([some 33, some 34, some 35, some 36, some 37, some 38, some 39, some 40, some 41, some 42, some 43] : List (Option Nat)).getD j none ≠ some s := by
                intro j s hj ha e
                rw [List.getD_eq_getElem?_getD, List.getElem?_eq_getElem (by exact hj), Option.getD_some] at e
                have := List.all_eq_true.1 ha _ (List.getElem_mem (by exact hj))
                rw [e] at this
                simp at this
              refine region_tel (by kernel_rfl) (fun k0 => ([some 33, some 34, some 35, some 36, some 37, some 38, some 39, some 40, some 41, some 42, some 43] : List (Option Nat)).getD k0 none) (PL [eqP (.pointer (some ⟨w.heap.size, 5, none⟩)), eqP (iv num), eqP (.bool true), eqP (.bool true), eqP (undef), eqP (undef), eqP (undef), eqP (undef), eqP (undef), eqP (undef), eqP (.bool true)]) (fun u u' => Only Nix u u') (fun _ u => Only Nix (u3) u) 120 11 rfl (by kernel_rfl) (by kernel_rfl) rfl (by kernel_rfl) (by kernel_rfl) (stab_all ⟨fun _ _ _ h _ => h, fun _ _ _ h _ => h, fun _ _ _ h _ => h, fun _ _ _ h _ => h, fun _ _ _ h _ => h, fun _ _ _ h _ => h, fun _ _ _ h _ => h, fun _ _ _ h _ => h, fun _ _ _ h _ => h, fun _ _ _ h _ => h, fun _ _ _ h _ => h, trivial⟩) ((Only.refl _ _).drew) ?stepsN1 (fun vs => [(33, vs 0), (34, vs 1), (35, vs 2), (36, vs 3), (37, vs 4), (38, vs 5), (39, vs 6), (40, vs 7), (41, vs 8), (42, vs 9), (43, vs 10)]) (fun vs => rfl) ?doneN1
              case stepsN1 =>
                refine ⟨?_, ?_, ?_, ?_, ?_, ?_, ?_, ?_, ?_, ?_, ?_, trivial⟩
                · intro L vs A' u hW hL0 hnd K' hK
                  have hS := hW.wi.s
                  have r1 : A'.tmps[1]? = some (.pointer (some ⟨w.heap.size, 0, none⟩)) := (hW.out 1 (fun j hj => fr_N1 j 1 hj (by kernel_rfl))).trans rfl
                  go_simp
                  exact hK _ _ (by first | rfl | (show _ = _; simp)) (Only.refl _ _) hS
                · intro L vs A' u hW hL0 hnd K' hK
                  have hS := hW.wi.s
                  have r33 : A'.tmps[33]? = some (.pointer (some ⟨w.heap.size, 5, none⟩)) := by
                    obtain ⟨x, e, h⟩ := hW.tel 0 33 (by decide) (hnd 0 (by kernel_rfl)) rfl
                    rw [e]; exact congrArg some h
                  have hc := U.cell_keep hS q5
                  go_simp
                  exact hK _ _ (rfl) (Only.refl _ _) hS
                · intro L vs A' u hW hL0 hnd K' hK
                  have hS := hW.wi.s
                  have r34 : A'.tmps[34]? = some (iv num) := by
                    obtain ⟨x, e, h⟩ := hW.tel 1 34 (by decide) (hnd 1 (by kernel_rfl)) rfl
                    rw [e]; exact congrArg some h
                  go_simp
                  exact hK _ _ ((by first | rfl | (show _ = _; simp; omega))) (Only.refl _ _) hS
                · intro L vs A' u hW hL0 hnd K' hK
                  have hS := hW.wi.s
                  have r35 : A'.tmps[35]? = some (.bool true) := by
                    obtain ⟨x, e, h⟩ := hW.tel 2 35 (by decide) (hnd 2 (by kernel_rfl)) rfl
                    rw [e]; exact congrArg some h
                  go_simp
                  exact hK _ _ (by first | rfl | (show _ = _; simp)) (Only.refl _ _) hS
                · intro L vs A' u hW hL0 hnd K' hK
                  have hS := hW.wi.s
                  have r36 : A'.tmps[36]? = some (.bool true) := by
                    obtain ⟨x, e, h⟩ := hW.tel 3 36 (by decide) (hnd 3 (by kernel_rfl)) rfl
                    rw [e]; exact congrArg some h
                  rw [if_neg (wanted_no (j := 3) (s := 36) (b := false) rfl (by kernel_rfl) r36)]
                  exact hK _ _ rfl (Only.refl _ _) hS
                · intro L vs A' u hW hL0 hnd K' hK
                  have hS := hW.wi.s
                  have r36 : A'.tmps[36]? = some (.bool true) := by
                    obtain ⟨x, e, h⟩ := hW.tel 3 36 (by decide) (hnd 3 (by kernel_rfl)) rfl
                    rw [e]; exact congrArg some h
                  rw [if_neg (wanted_no (j := 3) (s := 36) (b := false) rfl (by kernel_rfl) r36)]
                  exact hK _ _ rfl (Only.refl _ _) hS
                · intro L vs A' u hW hL0 hnd K' hK
                  have hS := hW.wi.s
                  have r36 : A'.tmps[36]? = some (.bool true) := by
                    obtain ⟨x, e, h⟩ := hW.tel 3 36 (by decide) (hnd 3 (by kernel_rfl)) rfl
                    rw [e]; exact congrArg some h
                  rw [if_neg (wanted_no (j := 3) (s := 36) (b := false) rfl (by kernel_rfl) r36)]
                  exact hK _ _ rfl (Only.refl _ _) hS
                · intro L vs A' u hW hL0 hnd K' hK
                  have hS := hW.wi.s
                  have r36 : A'.tmps[36]? = some (.bool true) := by
                    obtain ⟨x, e, h⟩ := hW.tel 3 36 (by decide) (hnd 3 (by kernel_rfl)) rfl
                    rw [e]; exact congrArg some h
                  rw [if_neg (wanted_no (j := 3) (s := 36) (b := false) rfl (by kernel_rfl) r36)]
                  exact hK _ _ rfl (Only.refl _ _) hS
                · intro L vs A' u hW hL0 hnd K' hK
                  have hS := hW.wi.s
                  have r36 : A'.tmps[36]? = some (.bool true) := by
                    obtain ⟨x, e, h⟩ := hW.tel 3 36 (by decide) (hnd 3 (by kernel_rfl)) rfl
                    rw [e]; exact congrArg some h
                  rw [if_neg (wanted_no (j := 3) (s := 36) (b := false) rfl (by kernel_rfl) r36)]
                  exact hK _ _ rfl (Only.refl _ _) hS
                · intro L vs A' u hW hL0 hnd K' hK
                  have hS := hW.wi.s
                  have r36 : A'.tmps[36]? = some (.bool true) := by
                    obtain ⟨x, e, h⟩ := hW.tel 3 36 (by decide) (hnd 3 (by kernel_rfl)) rfl
                    rw [e]; exact congrArg some h
                  rw [if_neg (wanted_no (j := 3) (s := 36) (b := false) rfl (by kernel_rfl) r36)]
                  exact hK _ _ rfl (Only.refl _ _) hS
                · intro L vs A' u hW hL0 hnd K' hK
                  have hS := hW.wi.s
                  have r36 : A'.tmps[36]? = some (.bool true) := by
                    obtain ⟨x, e, h⟩ := hW.tel 3 36 (by decide) (hnd 3 (by kernel_rfl)) rfl
                    rw [e]; exact congrArg some h
                  have r42 : A'.tmps[42]? = some (undef) := by
                    obtain ⟨x, e, h⟩ := hW.tel 9 42 (by decide) (hnd 9 (by kernel_rfl)) rfl
                    rw [e]; exact congrArg some h
                  go_simp
                  exact hK _ _ (by first | rfl | (show _ = _; simp)) (Only.refl _ _) hS
              case doneN1 =>
                intro L vs x hS hP hall
                have e10 : vs 10 = .bool true := hP 10 (by decide)
                have HOx := Lib.hid (O3.out.trans hS)
                clear hS hP hall fr_N1
                simp only [putV, List.foldl_cons, List.foldl_nil, List.setIfInBounds_toArray, List.set_cons_zero, List.set_cons_succ]
                rw [e10]
                go_wp2
                go_ret
                exact ⟨rfl, HO0.out.trans HOx.out⟩
            · obtain ⟨GE, hGE⟩ : ∃ b, decide (M ≤ num) = b := ⟨_, rfl⟩
              go_wp2
              have fr_N2 : ∀ j s, j < 11 → (([some 33, some 34, some 35, some 36, some 37, some 38, some 39, some 40, some 41, some 42, some 43] : List (Option Nat)).all fun d => d != some s) = true → ([some 33, some 34, some 35, some 36, some 37, some 38, some 39, some 40, some 41, some 42, some 43] : List (Option Nat)).getD j none ≠ some s := by
                intro j s hj ha e
                rw [List.getD_eq_getElem?_getD, List.getElem?_eq_getElem (by exact hj), Option.getD_some] at e
                have := List.all_eq_true.1 ha _ (List.getElem_mem (by exact hj))
                rw [e] at this
                simp at this
              refine region_tel (by kernel_rfl) (fun k0 => ([some 33, some 34, some 35, some 36, some 37, some 38, some 39, some 40, some 41, some 42, some 43] : List (Option Nat)).getD k0 none) (PL [eqP (.pointer (some ⟨w.heap.size, 5, none⟩)), eqP (iv num), eqP (.bool false), eqP (.bool false), eqP (.pointer (some ⟨w.heap.size, 5, none⟩)), eqP (iv num), eqP (.pointer (some ⟨w.heap.size, 0, none⟩)), eqP (.bool V), eqP (iv M), eqP (.bool GE), eqP (.bool GE)]) (fun u u' => Only Nix u u') (fun _ u => Only Nix (u3) u) 120 11 rfl (by kernel_rfl) (by kernel_rfl) rfl (by kernel_rfl) (by kernel_rfl) (stab_all ⟨fun _ _ _ h _ => h, fun _ _ _ h _ => h, fun _ _ _ h _ => h, fun _ _ _ h _ => h, fun _ _ _ h _ => h, fun _ _ _ h _ => h, fun _ _ _ h _ => h, fun _ _ _ h _ => h, fun _ _ _ h _ => h, fun _ _ _ h _ => h, fun _ _ _ h _ => h, trivial⟩) ((Only.refl _ _).drew) ?stepsN2 (fun vs => [(33, vs 0), (34, vs 1), (35, vs 2), (36, vs 3), (37, vs 4), (38, vs 5), (39, vs 6), (40, vs 7), (41, vs 8), (42, vs 9), (43, vs 10)]) (fun vs => rfl) ?doneN2
              case stepsN2 =>
                refine ⟨?_, ?_, ?_, ?_, ?_, ?_, ?_, ?_, ?_, ?_, ?_, trivial⟩
                · intro L vs A' u hW hL0 hnd K' hK
                  have hS := hW.wi.s
                  have r1 : A'.tmps[1]? = some (.pointer (some ⟨w.heap.size, 0, none⟩)) := (hW.out 1 (fun j hj => fr_N2 j 1 hj (by kernel_rfl))).trans rfl
                  go_simp
                  exact hK _ _ (by first | rfl | (show _ = _; simp)) (Only.refl _ _) hS
                · intro L vs A' u hW hL0 hnd K' hK
                  have hS := hW.wi.s
                  have r33 : A'.tmps[33]? = some (.pointer (some ⟨w.heap.size, 5, none⟩)) := by
                    obtain ⟨x, e, h⟩ := hW.tel 0 33 (by decide) (hnd 0 (by kernel_rfl)) rfl
                    rw [e]; exact congrArg some h
                  have hc := U.cell_keep hS q5
                  go_simp
                  exact hK _ _ (rfl) (Only.refl _ _) hS
                · intro L vs A' u hW hL0 hnd K' hK
                  have hS := hW.wi.s
                  have r34 : A'.tmps[34]? = some (iv num) := by
                    obtain ⟨x, e, h⟩ := hW.tel 1 34 (by decide) (hnd 1 (by kernel_rfl)) rfl
                    rw [e]; exact congrArg some h
                  go_simp
                  exact hK _ _ ((by first | rfl | (show _ = _; simp; omega))) (Only.refl _ _) hS
                · intro L vs A' u hW hL0 hnd K' hK
                  have hS := hW.wi.s
                  have r35 : A'.tmps[35]? = some (.bool false) := by
                    obtain ⟨x, e, h⟩ := hW.tel 2 35 (by decide) (hnd 2 (by kernel_rfl)) rfl
                    rw [e]; exact congrArg some h
                  go_simp
                  exact hK _ _ (by first | rfl | (show _ = _; simp)) (Only.refl _ _) hS
                · intro L vs A' u hW hL0 hnd K' hK
                  have hS := hW.wi.s
                  have r1 : A'.tmps[1]? = some (.pointer (some ⟨w.heap.size, 0, none⟩)) := (hW.out 1 (fun j hj => fr_N2 j 1 hj (by kernel_rfl))).trans rfl
                  have r36 : A'.tmps[36]? = some (.bool false) := by
                    obtain ⟨x, e, h⟩ := hW.tel 3 36 (by decide) (hnd 3 (by kernel_rfl)) rfl
                    rw [e]; exact congrArg some h
                  rw [if_pos (wanted_yes (j := 3) (s := 36) (b := false) rfl (by kernel_rfl) r36)]
                  go_simp
                  exact hK _ _ (by first | rfl | (show _ = _; simp)) (Only.refl _ _) hS
                · intro L vs A' u hW hL0 hnd K' hK
                  have hS := hW.wi.s
                  have r37 : A'.tmps[37]? = some (.pointer (some ⟨w.heap.size, 5, none⟩)) := by
                    obtain ⟨x, e, h⟩ := hW.tel 4 37 (by decide) (hnd 4 (by kernel_rfl)) rfl
                    rw [e]; exact congrArg some h
                  have r36 : A'.tmps[36]? = some (.bool false) := by
                    obtain ⟨x, e, h⟩ := hW.tel 3 36 (by decide) (hnd 3 (by kernel_rfl)) rfl
                    rw [e]; exact congrArg some h
                  rw [if_pos (wanted_yes (j := 3) (s := 36) (b := false) rfl (by kernel_rfl) r36)]
                  have hc := U.cell_keep hS q5
                  go_simp
                  exact hK _ _ (rfl) (Only.refl _ _) hS
                · intro L vs A' u hW hL0 hnd K' hK
                  have hS := hW.wi.s
                  have r1 : A'.tmps[1]? = some (.pointer (some ⟨w.heap.size, 0, none⟩)) := (hW.out 1 (fun j hj => fr_N2 j 1 hj (by kernel_rfl))).trans rfl
                  have r36 : A'.tmps[36]? = some (.bool false) := by
                    obtain ⟨x, e, h⟩ := hW.tel 3 36 (by decide) (hnd 3 (by kernel_rfl)) rfl
                    rw [e]; exact congrArg some h
                  rw [if_pos (wanted_yes (j := 3) (s := 36) (b := false) rfl (by kernel_rfl) r36)]
                  go_simp
                  exact hK _ _ (by first | rfl | (show _ = _; simp)) (Only.refl _ _) hS
                · intro L vs A' u hW hL0 hnd K' hK
                  have hS := hW.wi.s
                  have r39 : A'.tmps[39]? = some (.pointer (some ⟨w.heap.size, 0, none⟩)) := by
                    obtain ⟨x, e, h⟩ := hW.tel 6 39 (by decide) (hnd 6 (by kernel_rfl)) rfl
                    rw [e]; exact congrArg some h
                  have r36 : A'.tmps[36]? = some (.bool false) := by
                    obtain ⟨x, e, h⟩ := hW.tel 3 36 (by decide) (hnd 3 (by kernel_rfl)) rfl
                    rw [e]; exact congrArg some h
                  rw [if_pos (wanted_yes (j := 3) (s := 36) (b := false) rfl (by kernel_rfl) r36)]
                  have hc := U.cell_keep hS q0
                  go_simp
                  exact hK _ _ (rfl) (Only.refl _ _) hS
                · intro L vs A' u hW hL0 hnd K' hK
                  have hS := hW.wi.s
                  have r40 : A'.tmps[40]? = some (.bool V) := by
                    obtain ⟨x, e, h⟩ := hW.tel 7 40 (by decide) (hnd 7 (by kernel_rfl)) rfl
                    rw [e]; exact congrArg some h
                  have r36 : A'.tmps[36]? = some (.bool false) := by
                    obtain ⟨x, e, h⟩ := hW.tel 3 36 (by decide) (hnd 3 (by kernel_rfl)) rfl
                    rw [e]; exact congrArg some h
                  rw [if_pos (wanted_yes (j := 3) (s := 36) (b := false) rfl (by kernel_rfl) r36)]
                  have HCL := Lib.hid (CM.out u)
                  go_simp
                  refine (HCL.out).mono ?_
                  rintro _ u' ⟨rfl, rfl⟩
                  exact hK _ _ (rfl) (Only.refl _ _) hS
                · intro L vs A' u hW hL0 hnd K' hK
                  have hS := hW.wi.s
                  have r38 : A'.tmps[38]? = some (iv num) := by
                    obtain ⟨x, e, h⟩ := hW.tel 5 38 (by decide) (hnd 5 (by kernel_rfl)) rfl
                    rw [e]; exact congrArg some h
                  have r41 : A'.tmps[41]? = some (iv M) := by
                    obtain ⟨x, e, h⟩ := hW.tel 8 41 (by decide) (hnd 8 (by kernel_rfl)) rfl
                    rw [e]; exact congrArg some h
                  have r36 : A'.tmps[36]? = some (.bool false) := by
                    obtain ⟨x, e, h⟩ := hW.tel 3 36 (by decide) (hnd 3 (by kernel_rfl)) rfl
                    rw [e]; exact congrArg some h
                  rw [if_pos (wanted_yes (j := 3) (s := 36) (b := false) rfl (by kernel_rfl) r36)]
                  go_simp
                  exact hK _ _ (rfl) (Only.refl _ _) hS
                · intro L vs A' u hW hL0 hnd K' hK
                  have hS := hW.wi.s
                  have r36 : A'.tmps[36]? = some (.bool false) := by
                    obtain ⟨x, e, h⟩ := hW.tel 3 36 (by decide) (hnd 3 (by kernel_rfl)) rfl
                    rw [e]; exact congrArg some h
                  have r42 : A'.tmps[42]? = some (.bool GE) := by
                    obtain ⟨x, e, h⟩ := hW.tel 9 42 (by decide) (hnd 9 (by kernel_rfl)) rfl
                    rw [e]; exact congrArg some h
                  go_simp
                  exact hK _ _ (by first | rfl | (show _ = _; simp)) (Only.refl _ _) hS
              case doneN2 =>
                intro L vs x hS hP hall
                have e10 : vs 10 = .bool GE := hP 10 (by decide)
                have O4 := Lib.hid (O3.out.trans hS)
                have HGE := Lib.hid hGE
                clear hS hP hall fr_N2 q0 q5 hGE
                simp only [putV, List.foldl_cons, List.foldl_nil, List.setIfInBounds_toArray, List.set_cons_zero, List.set_cons_succ]
                rw [e10]
                clear e10
                generalize vs 0 = y0, vs 1 = y1, vs 2 = y2, vs 3 = y3, vs 4 = y4, vs 5 = y5, vs 6 = y6, vs 7 = y7, vs 8 = y8, vs 9 = y9
                cases GE
                · skip
                  have n2 : ¬ M ≤ num := of_decide_eq_false HGE.out
                  have HE3 := Lib.hid (HE2.out.trans (if_neg (by simp only [not_or]; exact ⟨by omega, n2⟩)))
                  clear HE2 HGE
                  have q1 := (HQ.out x O4.out).2.1
                  have q6 := (HQ.out x O4.out).2.2.2.2.2.2.1
                  obtain ⟨K0, hK0⟩ : ∃ b, decide (blk = bB) = b := ⟨_, rfl⟩
                  have hK0b : (blk == bB) = K0 := hK0
                  go_wp2
                  have fr_B5 : ∀ j s, j < 7 → (([some 44, some 45, some 46, some 47, some 48, some 49, some 3] : List (Option Nat)).all fun d => d != some s) = true → ([some 44, some 45, some 46, some 47, some 48, some 49, some 3] : List (Option Nat)).getD j none ≠ some s := by
                    intro j s hj ha e
                    rw [List.getD_eq_getElem?_getD, List.getElem?_eq_getElem (by exact hj), Option.getD_some] at e
                    have := List.all_eq_true.1 ha _ (List.getElem_mem (by exact hj))
                    rw [e] at this
                    simp at this
                  refine region_tel (by kernel_rfl) (fun k0 => ([some 44, some 45, some 46, some 47, some 48, some 49, some 3] : List (Option Nat)).getD k0 none) (PL [eqP (.pointer (some ⟨w.heap.size, 6, none⟩)), eqP (iv blk), eqP (.pointer (some ⟨w.heap.size, 1, none⟩)), eqP (iv bc), eqP (iv bB), eqP (.bool K0), eqP (.bool K0)]) (fun u u' => Only Nix u u') (fun _ u => Only Nix (x) u) 120 7 rfl (by kernel_rfl) (by kernel_rfl) rfl (by kernel_rfl) (by kernel_rfl) (stab_all ⟨fun _ _ _ h _ => h, fun _ _ _ h _ => h, fun _ _ _ h _ => h, fun _ _ _ h _ => h, fun _ _ _ h _ => h, fun _ _ _ h _ => h, fun _ _ _ h _ => h, trivial⟩) ((Only.refl _ _).drew) ?stepsB5 (fun vs => [(44, vs 0), (45, vs 1), (46, vs 2), (47, vs 3), (48, vs 4), (49, vs 5), (3, vs 6)]) (fun vs => rfl) ?doneB5
                  case stepsB5 =>
                    refine ⟨?_, ?_, ?_, ?_, ?_, ?_, ?_, trivial⟩
                    · intro L vs A' u hW hL0 hnd K' hK
                      have hS := hW.wi.s
                      have r1 : A'.tmps[1]? = some (.pointer (some ⟨w.heap.size, 0, none⟩)) := (hW.out 1 (fun j hj => fr_B5 j 1 hj (by kernel_rfl))).trans rfl
                      go_simp
                      exact hK _ _ (by first | rfl | (show _ = _; simp)) (Only.refl _ _) hS
                    · intro L vs A' u hW hL0 hnd K' hK
                      have hS := hW.wi.s
                      have r44 : A'.tmps[44]? = some (.pointer (some ⟨w.heap.size, 6, none⟩)) := by
                        obtain ⟨x, e, h⟩ := hW.tel 0 44 (by decide) (hnd 0 (by kernel_rfl)) rfl
                        rw [e]; exact congrArg some h
                      have hc := U.cell_keep hS q6
                      go_simp
                      exact hK _ _ (rfl) (Only.refl _ _) hS
                    · intro L vs A' u hW hL0 hnd K' hK
                      have hS := hW.wi.s
                      have r1 : A'.tmps[1]? = some (.pointer (some ⟨w.heap.size, 0, none⟩)) := (hW.out 1 (fun j hj => fr_B5 j 1 hj (by kernel_rfl))).trans rfl
                      go_simp
                      exact hK _ _ (by first | rfl | (show _ = _; simp)) (Only.refl _ _) hS
                    · intro L vs A' u hW hL0 hnd K' hK
                      have hS := hW.wi.s
                      have r46 : A'.tmps[46]? = some (.pointer (some ⟨w.heap.size, 1, none⟩)) := by
                        obtain ⟨x, e, h⟩ := hW.tel 2 46 (by decide) (hnd 2 (by kernel_rfl)) rfl
                        rw [e]; exact congrArg some h
                      have hc := U.cell_keep hS q1
                      go_simp
                      exact hK _ _ (rfl) (Only.refl _ _) hS
                    · intro L vs A' u hW hL0 hnd K' hK
                      have hS := hW.wi.s
                      have r47 : A'.tmps[47]? = some (iv bc) := by
                        obtain ⟨x, e, h⟩ := hW.tel 3 47 (by decide) (hnd 3 (by kernel_rfl)) rfl
                        rw [e]; exact congrArg some h
                      have HCL := Lib.hid (CB.out u)
                      go_simp
                      refine (HCL.out).mono ?_
                      rintro _ u' ⟨rfl, ho'⟩
                      exact hK _ _ (rfl) ho' (hS.trans ho')
                    · intro L vs A' u hW hL0 hnd K' hK
                      have hS := hW.wi.s
                      have r45 : A'.tmps[45]? = some (iv blk) := by
                        obtain ⟨x, e, h⟩ := hW.tel 1 45 (by decide) (hnd 1 (by kernel_rfl)) rfl
                        rw [e]; exact congrArg some h
                      have r48 : A'.tmps[48]? = some (iv bB) := by
                        obtain ⟨x, e, h⟩ := hW.tel 4 48 (by decide) (hnd 4 (by kernel_rfl)) rfl
                        rw [e]; exact congrArg some h
                      go_simp
                      exact hK _ _ (by first | rfl | (show _ = _; simp)) (Only.refl _ _) hS
                    · intro L vs A' u hW hL0 hnd K' hK
                      have hS := hW.wi.s
                      have r49 : A'.tmps[49]? = some (.bool K0) := by
                        obtain ⟨x, e, h⟩ := hW.tel 5 49 (by decide) (hnd 5 (by kernel_rfl)) rfl
                        rw [e]; exact congrArg some h
                      go_simp
                      exact hK _ _ (by first | rfl | (show _ = _; simp)) (Only.refl _ _) hS
                  case doneB5 =>
                    intro L2 vs2 x5 hS hP hall
                    have e6 : vs2 6 = .bool K0 := hP 6 (by decide)
                    have O5 := Lib.hid (O4.out.trans hS)
                    have HK0 := Lib.hid hK0
                    clear hS hP hall fr_B5 q1 q6 hK0 hK0b
                    simp only [putV, List.foldl_cons, List.foldl_nil, List.setIfInBounds_toArray, List.set_cons_zero, List.set_cons_succ]
                    rw [e6]
                    clear e6
                    generalize vs2 0 = z0, vs2 1 = z1, vs2 2 = z2, vs2 3 = z3, vs2 4 = z4, vs2 5 = z5
                    have q1 := (HQ.out x5 O5.out).2.1
                    have q6 := (HQ.out x5 O5.out).2.2.2.2.2.2.1
                    obtain ⟨K1, hK1⟩ : ∃ b, (if bc = 6 then decide (1 ≤ blk ∧ blk ≤ 256) else K0) = b := ⟨_, rfl⟩
                    have HK1 := Lib.hid hK1
                    clear hK1
                    go_upto_if 52 with fail
                    go_cut [3] from 52 to 60 (fun s3 wx => s3 = .bool K1 ∧ wx = x5)
                    case first =>
                      by_cases g : bc = 6
                      · have HG := Lib.hid g
                        by_cases g1 : 1 ≤ blk
                        · by_cases g2 : blk ≤ 256
                          · have hk : K1 = true := by rw [← HK1.out, if_pos g]; exact decide_eq_true ⟨g1, g2⟩
                            subst hk
                            subst g
                            go_wp2
                            go_meet
                            exact ⟨rfl, rfl⟩
                          · have hk : K1 = false := by rw [← HK1.out, if_pos g]; exact decide_eq_false (fun e => g2 e.2)
                            subst hk
                            subst g
                            go_wp2
                            go_meet
                            exact ⟨rfl, rfl⟩
                        · have hk : K1 = false := by rw [← HK1.out, if_pos g]; exact decide_eq_false (fun e => g1 e.1)
                          subst hk
                          subst g
                          go_wp2
                          go_meet
                          exact ⟨rfl, rfl⟩
                      · have gb : (bc == 6) = false := by simpa using g
                        have hk : K1 = K0 := by rw [← HK1.out, if_neg g]
                        subst hk
                        go_wp2
                        go_meet
                        exact ⟨rfl, rfl⟩
                    case rest =>
                    obtain ⟨rfl, rfl⟩ := hcut
                    obtain ⟨K2, hK2⟩ : ∃ b, (if bc = 7 then decide (1 ≤ blk ∧ blk ≤ 65535) else K1) = b := ⟨_, rfl⟩
                    have HK2 := Lib.hid hK2
                    clear hK2
                    go_upto_if 63 with fail
                    go_cut [3] from 63 to 71 (fun s3 wx => s3 = .bool K2 ∧ wx = wc)
                    case first =>
                      by_cases g : bc = 7
                      · have HG := Lib.hid g
                        by_cases g1 : 1 ≤ blk
                        · by_cases g2 : blk ≤ 65535
                          · have hk : K2 = true := by rw [← HK2.out, if_pos g]; exact decide_eq_true ⟨g1, g2⟩
                            subst hk
                            subst g
                            go_wp2
                            go_meet
                            exact ⟨rfl, rfl⟩
                          · have hk : K2 = false := by rw [← HK2.out, if_pos g]; exact decide_eq_false (fun e => g2 e.2)
                            subst hk
                            subst g
                            go_wp2
                            go_meet
                            exact ⟨rfl, rfl⟩
                        · have hk : K2 = false := by rw [← HK2.out, if_pos g]; exact decide_eq_false (fun e => g1 e.1)
                          subst hk
                          subst g
                          go_wp2
                          go_meet
                          exact ⟨rfl, rfl⟩
                      · have gb : (bc == 7) = false := by simpa using g
                        have hk : K2 = K1 := by rw [← HK2.out, if_neg g]
                        subst hk
                        go_wp2
                        go_meet
                        exact ⟨rfl, rfl⟩
                    case rest =>
                    obtain ⟨rfl, rfl⟩ := hcut
                    obtain ⟨KB, hKBv⟩ : ∃ b, decide (rBok bc blk) = b := ⟨_, rfl⟩
                    have hKB : KB = K2 := by
                      symm
                      rw [← hKBv, ← HK2.out, ← HK1.out, ← HK0.out]
                      by_cases g6 : bc = 6
                      · rw [if_neg (by omega), if_pos g6, decide_eq_decide, HKb.out, if_pos g6]
                      · by_cases g7 : bc = 7
                        · rw [if_pos g7, decide_eq_decide, HKb.out, if_neg g6, if_pos g7]
                        · rw [if_neg g7, if_neg g6, decide_eq_decide, HKb.out, if_neg g6, if_neg g7]
                    subst hKB
                    have HKB := Lib.hid hKBv
                    clear hKBv q1 q6 HK1 HK2 HK0 HKb
                    generalize wc = x6 at *
                    have q2 := (HQ.out x6 O5.out).2.2.1
                    have q7 := (HQ.out x6 O5.out).2.2.2.2.2.2.2.1
                    obtain ⟨KR0, hKR0⟩ : ∃ b, (rate == rRv) = b := ⟨_, rfl⟩
                    go_wp2
                    have fr_R10 : ∀ j s, j < 7 → (([some 72, some 73, some 74, some 75, some 76, some 77, some 4] : List (Option Nat)).all fun d => d != some s) = true → ([some 72, some 73, some 74, some 75, some 76, some 77, some 4] : List (Option Nat)).getD j none ≠ some s := by
                      intro j s hj ha e
                      rw [List.getD_eq_getElem?_getD, List.getElem?_eq_getElem (by exact hj), Option.getD_some] at e
                      have := List.all_eq_true.1 ha _ (List.getElem_mem (by exact hj))
                      rw [e] at this
                      simp at this
                    refine region_tel (by kernel_rfl) (fun k0 => ([some 72, some 73, some 74, some 75, some 76, some 77, some 4] : List (Option Nat)).getD k0 none) (PL [eqP (.pointer (some ⟨w.heap.size, 7, none⟩)), eqP (iv rate), eqP (.pointer (some ⟨w.heap.size, 2, none⟩)), eqP (iv rc), eqP (iv rRv), eqP (.bool KR0), eqP (.bool KR0)]) (fun u u' => Only Nix u u') (fun _ u => Only Nix (x6) u) 120 7 rfl (by kernel_rfl) (by kernel_rfl) rfl (by kernel_rfl) (by kernel_rfl) (stab_all ⟨fun _ _ _ h _ => h, fun _ _ _ h _ => h, fun _ _ _ h _ => h, fun _ _ _ h _ => h, fun _ _ _ h _ => h, fun _ _ _ h _ => h, fun _ _ _ h _ => h, trivial⟩) ((Only.refl _ _).drew) ?stepsR10 (fun vs => [(72, vs 0), (73, vs 1), (74, vs 2), (75, vs 3), (76, vs 4), (77, vs 5), (4, vs 6)]) (fun vs => rfl) ?doneR10
                    case stepsR10 =>
                      refine ⟨?_, ?_, ?_, ?_, ?_, ?_, ?_, trivial⟩
                      · intro L vs A' u hW hL0 hnd K' hK
                        have hS := hW.wi.s
                        have r1 : A'.tmps[1]? = some (.pointer (some ⟨w.heap.size, 0, none⟩)) := (hW.out 1 (fun j hj => fr_R10 j 1 hj (by kernel_rfl))).trans rfl
                        go_simp
                        exact hK _ _ (by first | rfl | (show _ = _; simp)) (Only.refl _ _) hS
                      · intro L vs A' u hW hL0 hnd K' hK
                        have hS := hW.wi.s
                        have r72 : A'.tmps[72]? = some (.pointer (some ⟨w.heap.size, 7, none⟩)) := by
                          obtain ⟨x, e, h⟩ := hW.tel 0 72 (by decide) (hnd 0 (by kernel_rfl)) rfl
                          rw [e]; exact congrArg some h
                        have hc := U.cell_keep hS q7
                        go_simp
                        exact hK _ _ (rfl) (Only.refl _ _) hS
                      · intro L vs A' u hW hL0 hnd K' hK
                        have hS := hW.wi.s
                        have r1 : A'.tmps[1]? = some (.pointer (some ⟨w.heap.size, 0, none⟩)) := (hW.out 1 (fun j hj => fr_R10 j 1 hj (by kernel_rfl))).trans rfl
                        go_simp
                        exact hK _ _ (by first | rfl | (show _ = _; simp)) (Only.refl _ _) hS
                      · intro L vs A' u hW hL0 hnd K' hK
                        have hS := hW.wi.s
                        have r74 : A'.tmps[74]? = some (.pointer (some ⟨w.heap.size, 2, none⟩)) := by
                          obtain ⟨x, e, h⟩ := hW.tel 2 74 (by decide) (hnd 2 (by kernel_rfl)) rfl
                          rw [e]; exact congrArg some h
                        have hc := U.cell_keep hS q2
                        go_simp
                        exact hK _ _ (rfl) (Only.refl _ _) hS
                      · intro L vs A' u hW hL0 hnd K' hK
                        have hS := hW.wi.s
                        have r75 : A'.tmps[75]? = some (iv rc) := by
                          obtain ⟨x, e, h⟩ := hW.tel 3 75 (by decide) (hnd 3 (by kernel_rfl)) rfl
                          rw [e]; exact congrArg some h
                        have HCL := Lib.hid (CR.out u)
                        go_simp
                        refine (HCL.out).mono ?_
                        rintro _ u' ⟨rfl, ho'⟩
                        exact hK _ _ (rfl) ho' (hS.trans ho')
                      · intro L vs A' u hW hL0 hnd K' hK
                        have hS := hW.wi.s
                        have r73 : A'.tmps[73]? = some (iv rate) := by
                          obtain ⟨x, e, h⟩ := hW.tel 1 73 (by decide) (hnd 1 (by kernel_rfl)) rfl
                          rw [e]; exact congrArg some h
                        have r76 : A'.tmps[76]? = some (iv rRv) := by
                          obtain ⟨x, e, h⟩ := hW.tel 4 76 (by decide) (hnd 4 (by kernel_rfl)) rfl
                          rw [e]; exact congrArg some h
                        go_simp
                        exact hK _ _ (by first | rfl | (show _ = _; simp)) (Only.refl _ _) hS
                      · intro L vs A' u hW hL0 hnd K' hK
                        have hS := hW.wi.s
                        have r77 : A'.tmps[77]? = some (.bool KR0) := by
                          obtain ⟨x, e, h⟩ := hW.tel 5 77 (by decide) (hnd 5 (by kernel_rfl)) rfl
                          rw [e]; exact congrArg some h
                        go_simp
                        exact hK _ _ (by first | rfl | (show _ = _; simp)) (Only.refl _ _) hS
                    case doneR10 =>
                      intro L3 vs3 x7 hS hP hall
                      have e6 : vs3 6 = .bool KR0 := hP 6 (by decide)
                      have O6 := Lib.hid (O5.out.trans hS)
                      have HKR0 := Lib.hid hKR0
                      clear hS hP hall fr_R10 q2 q7 hKR0
                      simp only [putV, List.foldl_cons, List.foldl_nil, List.setIfInBounds_toArray, List.set_cons_zero, List.set_cons_succ]
                      rw [e6]
                      clear e6
                      generalize vs3 0 = c0, vs3 1 = c1, vs3 2 = c2, vs3 3 = c3, vs3 4 = c4, vs3 5 = c5
                      have q2 := (HQ.out x7 O6.out).2.2.1
                      go_wp2_with fail
                      refine (CR.out _).mono ?_
                      rintro _ x8 ⟨rfl, ho⟩
                      have O7 := Lib.hid (O6.out.trans ho)
                      clear ho q2
                      have q2 := (HQ.out x8 O7.out).2.2.1
                      have q7 := (HQ.out x8 O7.out).2.2.2.2.2.2.2.1
                      obtain ⟨KR, hKRv⟩ : ∃ b, decide (rRok rc rate) = b := ⟨_, rfl⟩
                      have HKR := Lib.hid hKRv
                      clear hKRv
                      go_upto_if 81 with fail
                      go_cut [4, 5, 6] from 81 to 105 (fun s4 _ _ wx => s4 = .bool KR ∧ wx = x8)
                      case first =>
                        by_cases g : rRv = -2
                        · have HG := Lib.hid g
                          have HRR := Lib.hid (HR3.out g)
                          subst g
                          clear HKR0
                          rcases HRR.out with rfl | rfl | rfl
                          · have hk : rRok 12 rate ↔ 0 ≤ rate ∧ rate ≤ 255000 ∧ rate.tmod 1000 = 0 := HKr.out.trans (by rw [if_pos rfl]; exact Iff.rfl)
                            have HK := Lib.hid hk
                            have CU2 : Hid (∀ x, Calls Tryd.prog 23 #[iv 12] x fun e w' => e = .returned (iv 1000) ∧ x = w') := Lib.hid CU.out
                            clear hk CU
                            by_cases h1 : 0 ≤ rate
                            · by_cases h2 : rate ≤ 255000
                              · have hmm : rate.tmod 1000 = rate % 1000 := Int.tmod_eq_emod_of_nonneg h1
                                have HM := Lib.hid hmm
                                clear hmm
                                by_cases h3 : rate % 1000 = 0
                                · have hk : KR = true := by rw [← HKR.out]; exact decide_eq_true (HK.out.2 ⟨h1, h2, HM.out.trans h3⟩)
                                  subst hk
                                  go_wp2_with (refine (CU2.out _).mono ?_; rintro _ _ ⟨rfl, rfl⟩)
                                  go_meet
                                  exact ⟨by first | rfl | simp [h1, h2, h3] | simp, rfl⟩
                                · have hk : KR = false := by rw [← HKR.out]; exact decide_eq_false (fun e => h3 (HM.out.symm.trans (HK.out.1 e).2.2))
                                  subst hk
                                  have h3b : (rate % 1000 == 0) = false := by simpa using h3
                                  go_wp2_with (refine (CU2.out _).mono ?_; rintro _ _ ⟨rfl, rfl⟩)
                                  go_meet
                                  exact ⟨by first | rfl | simp [h1, h2, h3] | simp, rfl⟩
                              · have hk : KR = false := by rw [← HKR.out]; exact decide_eq_false (fun e => h2 (HK.out.1 e).2.1)
                                subst hk
                                go_wp2_with (refine (CU2.out _).mono ?_; rintro _ _ ⟨rfl, rfl⟩)
                                go_meet
                                exact ⟨by first | rfl | simp [h1, h2] | simp, rfl⟩
                            · have hk : KR = false := by rw [← HKR.out]; exact decide_eq_false (fun e => h1 (HK.out.1 e).1)
                              subst hk
                              go_wp2_with (refine (CU2.out _).mono ?_; rintro _ _ ⟨rfl, rfl⟩)
                              go_meet
                              exact ⟨by first | rfl | simp [h1] | simp, rfl⟩
                          · have hk : rRok 13 rate ↔ 0 ≤ rate ∧ rate ≤ 65535 ∧ rate.tmod 1 = 0 := HKr.out.trans (by rw [if_pos rfl]; exact Iff.rfl)
                            have HK := Lib.hid hk
                            have CU2 : Hid (∀ x, Calls Tryd.prog 23 #[iv 13] x fun e w' => e = .returned (iv 1) ∧ x = w') := Lib.hid CU.out
                            clear hk CU
                            by_cases h1 : 0 ≤ rate
                            · by_cases h2 : rate ≤ 65535
                              · have hmm : rate.tmod 1 = rate % 1 := Int.tmod_eq_emod_of_nonneg h1
                                have HM := Lib.hid hmm
                                clear hmm
                                by_cases h3 : rate % 1 = 0
                                · have hk : KR = true := by rw [← HKR.out]; exact decide_eq_true (HK.out.2 ⟨h1, h2, HM.out.trans h3⟩)
                                  subst hk
                                  go_wp2_with (refine (CU2.out _).mono ?_; rintro _ _ ⟨rfl, rfl⟩)
                                  go_meet
                                  exact ⟨by first | rfl | simp [h1, h2, h3] | simp, rfl⟩
                                · exact absurd (Int.emod_one rate) h3
                              · have hk : KR = false := by rw [← HKR.out]; exact decide_eq_false (fun e => h2 (HK.out.1 e).2.1)
                                subst hk
                                go_wp2_with (refine (CU2.out _).mono ?_; rintro _ _ ⟨rfl, rfl⟩)
                                go_meet
                                exact ⟨by first | rfl | simp [h1, h2] | simp, rfl⟩
                            · have hk : KR = false := by rw [← HKR.out]; exact decide_eq_false (fun e => h1 (HK.out.1 e).1)
                              subst hk
                              go_wp2_with (refine (CU2.out _).mono ?_; rintro _ _ ⟨rfl, rfl⟩)
                              go_meet
                              exact ⟨by first | rfl | simp [h1] | simp, rfl⟩
                          · have hk : rRok 14 rate ↔ 0 ≤ rate ∧ rate ≤ 655350 ∧ rate.tmod 10 = 0 := HKr.out.trans (by rw [if_pos rfl]; exact Iff.rfl)
                            have HK := Lib.hid hk
                            have CU2 : Hid (∀ x, Calls Tryd.prog 23 #[iv 14] x fun e w' => e = .returned (iv 10) ∧ x = w') := Lib.hid CU.out
                            clear hk CU
                            by_cases h1 : 0 ≤ rate
                            · by_cases h2 : rate ≤ 655350
                              · have hmm : rate.tmod 10 = rate % 10 := Int.tmod_eq_emod_of_nonneg h1
                                have HM := Lib.hid hmm
                                clear hmm
                                by_cases h3 : rate % 10 = 0
                                · have hk : KR = true := by rw [← HKR.out]; exact decide_eq_true (HK.out.2 ⟨h1, h2, HM.out.trans h3⟩)
                                  subst hk
                                  go_wp2_with (refine (CU2.out _).mono ?_; rintro _ _ ⟨rfl, rfl⟩)
                                  go_meet
                                  exact ⟨by first | rfl | simp [h1, h2, h3] | simp, rfl⟩
                                · have hk : KR = false := by rw [← HKR.out]; exact decide_eq_false (fun e => h3 (HM.out.symm.trans (HK.out.1 e).2.2))
                                  subst hk
                                  have h3b : (rate % 10 == 0) = false := by simpa using h3
                                  go_wp2_with (refine (CU2.out _).mono ?_; rintro _ _ ⟨rfl, rfl⟩)
                                  go_meet
                                  exact ⟨by first | rfl | simp [h1, h2, h3] | simp, rfl⟩
                              · have hk : KR = false := by rw [← HKR.out]; exact decide_eq_false (fun e => h2 (HK.out.1 e).2.1)
                                subst hk
                                go_wp2_with (refine (CU2.out _).mono ?_; rintro _ _ ⟨rfl, rfl⟩)
                                go_meet
                                exact ⟨by first | rfl | simp [h1, h2] | simp, rfl⟩
                            · have hk : KR = false := by rw [← HKR.out]; exact decide_eq_false (fun e => h1 (HK.out.1 e).1)
                              subst hk
                              go_wp2_with (refine (CU2.out _).mono ?_; rintro _ _ ⟨rfl, rfl⟩)
                              go_meet
                              exact ⟨by first | rfl | simp [h1] | simp, rfl⟩
                        · have gb : (rRv == -2) = false := by simpa using g
                          have hk : KR = KR0 := by
                            rw [← HKR.out, ← HKR0.out, Bool.eq_iff_iff, decide_eq_true_iff, beq_iff_eq, HKr.out, if_neg g]
                          subst hk
                          go_wp2
                          go_meet
                          exact ⟨rfl, rfl⟩
                      case rest =>
                      obtain ⟨rfl, rfl⟩ := hcut
                      clear q2 q7 HKr HR3 HKR0
                      generalize wc = x9 at *
                      have q4 := (HQ.out x9 O7.out).2.2.2.2.1
                      have q8 := (HQ.out x9 O7.out).2.2.2.2.2.2.2.2
                      cases KB
                      · have hb : ¬ rBok bc blk := of_decide_eq_false HKB.out
                        have hF : F = 22 := by rw [HE3.out, if_pos (.inl hb)]
                        go_wp2
                        have fr_Fa : ∀ j s, j < 14 → (([some 106, some 107, some 108, some 109, some 110, some 111, some 112, some 113, some 114, some 115, some 116, some 117, some 118, some 119] : List (Option Nat)).all fun d => d != some s) = true → ([some 106, some 107, some 108, some 109, some 110, some 111, some 112, some 113, some 114, some 115, some 116, some 117, some 118, some 119] : List (Option Nat)).getD j none ≠ some s := by
                          intro j s hj ha e
                          rw [List.getD_eq_getElem?_getD, List.getElem?_eq_getElem (by exact hj), Option.getD_some] at e
                          have := List.all_eq_true.1 ha _ (List.getElem_mem (by exact hj))
                          rw [e] at this
                          simp at this
                        refine region_tel (by kernel_rfl) (fun k0 => ([some 106, some 107, some 108, some 109, some 110, some 111, some 112, some 113, some 114, some 115, some 116, some 117, some 118, some 119] : List (Option Nat)).getD k0 none) (PL [eqP (.bool false), eqP (.bool true), eqP (.bool true), eqP (undef), eqP (undef), eqP (.bool true), eqP (.bool true), eqP (undef), eqP (undef), eqP (undef), eqP (undef), eqP (undef), eqP (undef), eqP (.bool true)]) (fun u u' => Only Nix u u') (fun _ u => Only Nix (x9) u) 120 14 rfl (by kernel_rfl) (by kernel_rfl) rfl (by kernel_rfl) (by kernel_rfl) (stab_all ⟨fun _ _ _ h _ => h, fun _ _ _ h _ => h, fun _ _ _ h _ => h, fun _ _ _ h _ => h, fun _ _ _ h _ => h, fun _ _ _ h _ => h, fun _ _ _ h _ => h, fun _ _ _ h _ => h, fun _ _ _ h _ => h, fun _ _ _ h _ => h, fun _ _ _ h _ => h, fun _ _ _ h _ => h, fun _ _ _ h _ => h, fun _ _ _ h _ => h, trivial⟩) ((Only.refl _ _).drew) ?stepsFa (fun vs => [(106, vs 0), (107, vs 1), (108, vs 2), (109, vs 3), (110, vs 4), (111, vs 5), (112, vs 6), (113, vs 7), (114, vs 8), (115, vs 9), (116, vs 10), (117, vs 11), (118, vs 12), (119, vs 13)]) (fun vs => rfl) ?doneFa
                        case stepsFa =>
                          refine ⟨?_, ?_, ?_, ?_, ?_, ?_, ?_, ?_, ?_, ?_, ?_, ?_, ?_, ?_, trivial⟩
                          · intro L vs A' u hW hL0 hnd K' hK
                            have hS := hW.wi.s
                            have r3 : A'.tmps[3]? = some (.bool false) := (hW.out 3 (fun j hj => fr_Fa j 3 hj (by kernel_rfl))).trans rfl
                            go_simp
                            exact hK _ _ (by first | rfl | (show _ = _; simp)) (Only.refl _ _) hS
                          · intro L vs A' u hW hL0 hnd K' hK
                            have hS := hW.wi.s
                            have r106 : A'.tmps[106]? = some (.bool false) := by
                              obtain ⟨x, e, h⟩ := hW.tel 0 106 (by decide) (hnd 0 (by kernel_rfl)) rfl
                              rw [e]; exact congrArg some h
                            go_simp
                            exact hK _ _ (rfl) (Only.refl _ _) hS
                          · intro L vs A' u hW hL0 hnd K' hK
                            have hS := hW.wi.s
                            have r107 : A'.tmps[107]? = some (.bool true) := by
                              obtain ⟨x, e, h⟩ := hW.tel 1 107 (by decide) (hnd 1 (by kernel_rfl)) rfl
                              rw [e]; exact congrArg some h
                            go_simp
                            exact hK _ _ (by first | rfl | (show _ = _; simp)) (Only.refl _ _) hS
                          · intro L vs A' u hW hL0 hnd K' hK
                            have hS := hW.wi.s
                            have r108 : A'.tmps[108]? = some (.bool true) := by
                              obtain ⟨x, e, h⟩ := hW.tel 2 108 (by decide) (hnd 2 (by kernel_rfl)) rfl
                              rw [e]; exact congrArg some h
                            rw [if_neg (wanted_no (j := 2) (s := 108) (b := false) rfl (by kernel_rfl) r108)]
                            exact hK _ _ rfl (Only.refl _ _) hS
                          · intro L vs A' u hW hL0 hnd K' hK
                            have hS := hW.wi.s
                            have r108 : A'.tmps[108]? = some (.bool true) := by
                              obtain ⟨x, e, h⟩ := hW.tel 2 108 (by decide) (hnd 2 (by kernel_rfl)) rfl
                              rw [e]; exact congrArg some h
                            rw [if_neg (wanted_no (j := 2) (s := 108) (b := false) rfl (by kernel_rfl) r108)]
                            exact hK _ _ rfl (Only.refl _ _) hS
                          · intro L vs A' u hW hL0 hnd K' hK
                            have hS := hW.wi.s
                            have r108 : A'.tmps[108]? = some (.bool true) := by
                              obtain ⟨x, e, h⟩ := hW.tel 2 108 (by decide) (hnd 2 (by kernel_rfl)) rfl
                              rw [e]; exact congrArg some h
                            have r110 : A'.tmps[110]? = some (undef) := by
                              obtain ⟨x, e, h⟩ := hW.tel 4 110 (by decide) (hnd 4 (by kernel_rfl)) rfl
                              rw [e]; exact congrArg some h
                            go_simp
                            exact hK _ _ (by first | rfl | (show _ = _; simp)) (Only.refl _ _) hS
                          · intro L vs A' u hW hL0 hnd K' hK
                            have hS := hW.wi.s
                            have r111 : A'.tmps[111]? = some (.bool true) := by
                              obtain ⟨x, e, h⟩ := hW.tel 5 111 (by decide) (hnd 5 (by kernel_rfl)) rfl
                              rw [e]; exact congrArg some h
                            go_simp
                            exact hK _ _ (by first | rfl | (show _ = _; simp)) (Only.refl _ _) hS
                          · intro L vs A' u hW hL0 hnd K' hK
                            have hS := hW.wi.s
                            have r112 : A'.tmps[112]? = some (.bool true) := by
                              obtain ⟨x, e, h⟩ := hW.tel 6 112 (by decide) (hnd 6 (by kernel_rfl)) rfl
                              rw [e]; exact congrArg some h
                            rw [if_neg (wanted_no (j := 6) (s := 112) (b := false) rfl (by kernel_rfl) r112)]
                            exact hK _ _ rfl (Only.refl _ _) hS
                          · intro L vs A' u hW hL0 hnd K' hK
                            have hS := hW.wi.s
                            have r112 : A'.tmps[112]? = some (.bool true) := by
                              obtain ⟨x, e, h⟩ := hW.tel 6 112 (by decide) (hnd 6 (by kernel_rfl)) rfl
                              rw [e]; exact congrArg some h
                            rw [if_neg (wanted_no (j := 6) (s := 112) (b := false) rfl (by kernel_rfl) r112)]
                            exact hK _ _ rfl (Only.refl _ _) hS
                          · intro L vs A' u hW hL0 hnd K' hK
                            have hS := hW.wi.s
                            have r112 : A'.tmps[112]? = some (.bool true) := by
                              obtain ⟨x, e, h⟩ := hW.tel 6 112 (by decide) (hnd 6 (by kernel_rfl)) rfl
                              rw [e]; exact congrArg some h
                            rw [if_neg (wanted_no (j := 6) (s := 112) (b := false) rfl (by kernel_rfl) r112)]
                            exact hK _ _ rfl (Only.refl _ _) hS
                          · intro L vs A' u hW hL0 hnd K' hK
                            have hS := hW.wi.s
                            have r112 : A'.tmps[112]? = some (.bool true) := by
                              obtain ⟨x, e, h⟩ := hW.tel 6 112 (by decide) (hnd 6 (by kernel_rfl)) rfl
                              rw [e]; exact congrArg some h
                            rw [if_neg (wanted_no (j := 6) (s := 112) (b := false) rfl (by kernel_rfl) r112)]
                            exact hK _ _ rfl (Only.refl _ _) hS
                          · intro L vs A' u hW hL0 hnd K' hK
                            have hS := hW.wi.s
                            have r112 : A'.tmps[112]? = some (.bool true) := by
                              obtain ⟨x, e, h⟩ := hW.tel 6 112 (by decide) (hnd 6 (by kernel_rfl)) rfl
                              rw [e]; exact congrArg some h
                            rw [if_neg (wanted_no (j := 6) (s := 112) (b := false) rfl (by kernel_rfl) r112)]
                            exact hK _ _ rfl (Only.refl _ _) hS
                          · intro L vs A' u hW hL0 hnd K' hK
                            have hS := hW.wi.s
                            have r112 : A'.tmps[112]? = some (.bool true) := by
                              obtain ⟨x, e, h⟩ := hW.tel 6 112 (by decide) (hnd 6 (by kernel_rfl)) rfl
                              rw [e]; exact congrArg some h
                            rw [if_neg (wanted_no (j := 6) (s := 112) (b := false) rfl (by kernel_rfl) r112)]
                            exact hK _ _ rfl (Only.refl _ _) hS
                          · intro L vs A' u hW hL0 hnd K' hK
                            have hS := hW.wi.s
                            have r112 : A'.tmps[112]? = some (.bool true) := by
                              obtain ⟨x, e, h⟩ := hW.tel 6 112 (by decide) (hnd 6 (by kernel_rfl)) rfl
                              rw [e]; exact congrArg some h
                            have r118 : A'.tmps[118]? = some (undef) := by
                              obtain ⟨x, e, h⟩ := hW.tel 12 118 (by decide) (hnd 12 (by kernel_rfl)) rfl
                              rw [e]; exact congrArg some h
                            go_simp
                            exact hK _ _ (by first | rfl | (show _ = _; simp)) (Only.refl _ _) hS
                        case doneFa =>
                          intro L4 vs4 x10 hS hP hall
                          have e13 : vs4 13 = .bool true := hP 13 (by decide)
                          have O8 := Lib.hid (O7.out.trans hS)
                          clear hS hP hall fr_Fa
                          simp only [putV, List.foldl_cons, List.foldl_nil, List.setIfInBounds_toArray, List.set_cons_zero, List.set_cons_succ]
                          rw [e13]
                          clear e13
                          subst hF
                          go_wp2
                          go_ret
                          exact ⟨rfl, HO0.out.trans O8.out⟩
                      · have hb : rBok bc blk := of_decide_eq_true HKB.out
                        cases KR
                        · have hr : ¬ rRok rc rate := of_decide_eq_false HKR.out
                          have hF : F = 22 := by rw [HE3.out, if_pos (.inr (.inl hr))]
                          go_wp2
                          have fr_Fb : ∀ j s, j < 14 → (([some 106, some 107, some 108, some 109, some 110, some 111, some 112, some 113, some 114, some 115, some 116, some 117, some 118, some 119] : List (Option Nat)).all fun d => d != some s) = true → ([some 106, some 107, some 108, some 109, some 110, some 111, some 112, some 113, some 114, some 115, some 116, some 117, some 118, some 119] : List (Option Nat)).getD j none ≠ some s := by
                            intro j s hj ha e
                            rw [List.getD_eq_getElem?_getD, List.getElem?_eq_getElem (by exact hj), Option.getD_some] at e
                            have := List.all_eq_true.1 ha _ (List.getElem_mem (by exact hj))
                            rw [e] at this
                            simp at this
                          refine region_tel (by kernel_rfl) (fun k0 => ([some 106, some 107, some 108, some 109, some 110, some 111, some 112, some 113, some 114, some 115, some 116, some 117, some 118, some 119] : List (Option Nat)).getD k0 none) (PL [eqP (.bool true), eqP (.bool false), eqP (.bool false), eqP (.bool false), eqP (.bool true), eqP (.bool true), eqP (.bool true), eqP (undef), eqP (undef), eqP (undef), eqP (undef), eqP (undef), eqP (undef), eqP (.bool true)]) (fun u u' => Only Nix u u') (fun _ u => Only Nix (x9) u) 120 14 rfl (by kernel_rfl) (by kernel_rfl) rfl (by kernel_rfl) (by kernel_rfl) (stab_all ⟨fun _ _ _ h _ => h, fun _ _ _ h _ => h, fun _ _ _ h _ => h, fun _ _ _ h _ => h, fun _ _ _ h _ => h, fun _ _ _ h _ => h, fun _ _ _ h _ => h, fun _ _ _ h _ => h, fun _ _ _ h _ => h, fun _ _ _ h _ => h, fun _ _ _ h _ => h, fun _ _ _ h _ => h, fun _ _ _ h _ => h, fun _ _ _ h _ => h, trivial⟩) ((Only.refl _ _).drew) ?stepsFb (fun vs => [(106, vs 0), (107, vs 1), (108, vs 2), (109, vs 3), (110, vs 4), (111, vs 5), (112, vs 6), (113, vs 7), (114, vs 8), (115, vs 9), (116, vs 10), (117, vs 11), (118, vs 12), (119, vs 13)]) (fun vs => rfl) ?doneFb
                          case stepsFb =>
                            refine ⟨?_, ?_, ?_, ?_, ?_, ?_, ?_, ?_, ?_, ?_, ?_, ?_, ?_, ?_, trivial⟩
                            · intro L vs A' u hW hL0 hnd K' hK
                              have hS := hW.wi.s
                              have r3 : A'.tmps[3]? = some (.bool true) := (hW.out 3 (fun j hj => fr_Fb j 3 hj (by kernel_rfl))).trans rfl
                              go_simp
                              exact hK _ _ (by first | rfl | (show _ = _; simp)) (Only.refl _ _) hS
                            · intro L vs A' u hW hL0 hnd K' hK
                              have hS := hW.wi.s
                              have r106 : A'.tmps[106]? = some (.bool true) := by
                                obtain ⟨x, e, h⟩ := hW.tel 0 106 (by decide) (hnd 0 (by kernel_rfl)) rfl
                                rw [e]; exact congrArg some h
                              go_simp
                              exact hK _ _ (rfl) (Only.refl _ _) hS
                            · intro L vs A' u hW hL0 hnd K' hK
                              have hS := hW.wi.s
                              have r107 : A'.tmps[107]? = some (.bool false) := by
                                obtain ⟨x, e, h⟩ := hW.tel 1 107 (by decide) (hnd 1 (by kernel_rfl)) rfl
                                rw [e]; exact congrArg some h
                              go_simp
                              exact hK _ _ (by first | rfl | (show _ = _; simp)) (Only.refl _ _) hS
                            · intro L vs A' u hW hL0 hnd K' hK
                              have hS := hW.wi.s
                              have r4 : A'.tmps[4]? = some (.bool false) := (hW.out 4 (fun j hj => fr_Fb j 4 hj (by kernel_rfl))).trans rfl
                              have r108 : A'.tmps[108]? = some (.bool false) := by
                                obtain ⟨x, e, h⟩ := hW.tel 2 108 (by decide) (hnd 2 (by kernel_rfl)) rfl
                                rw [e]; exact congrArg some h
                              rw [if_pos (wanted_yes (j := 2) (s := 108) (b := false) rfl (by kernel_rfl) r108)]
                              go_simp
                              exact hK _ _ (by first | rfl | (show _ = _; simp)) (Only.refl _ _) hS
                            · intro L vs A' u hW hL0 hnd K' hK
                              have hS := hW.wi.s
                              have r109 : A'.tmps[109]? = some (.bool false) := by
                                obtain ⟨x, e, h⟩ := hW.tel 3 109 (by decide) (hnd 3 (by kernel_rfl)) rfl
                                rw [e]; exact congrArg some h
                              have r108 : A'.tmps[108]? = some (.bool false) := by
                                obtain ⟨x, e, h⟩ := hW.tel 2 108 (by decide) (hnd 2 (by kernel_rfl)) rfl
                                rw [e]; exact congrArg some h
                              rw [if_pos (wanted_yes (j := 2) (s := 108) (b := false) rfl (by kernel_rfl) r108)]
                              go_simp
                              exact hK _ _ (rfl) (Only.refl _ _) hS
                            · intro L vs A' u hW hL0 hnd K' hK
                              have hS := hW.wi.s
                              have r108 : A'.tmps[108]? = some (.bool false) := by
                                obtain ⟨x, e, h⟩ := hW.tel 2 108 (by decide) (hnd 2 (by kernel_rfl)) rfl
                                rw [e]; exact congrArg some h
                              have r110 : A'.tmps[110]? = some (.bool true) := by
                                obtain ⟨x, e, h⟩ := hW.tel 4 110 (by decide) (hnd 4 (by kernel_rfl)) rfl
                                rw [e]; exact congrArg some h
                              go_simp
                              exact hK _ _ (by first | rfl | (show _ = _; simp)) (Only.refl _ _) hS
                            · intro L vs A' u hW hL0 hnd K' hK
                              have hS := hW.wi.s
                              have r111 : A'.tmps[111]? = some (.bool true) := by
                                obtain ⟨x, e, h⟩ := hW.tel 5 111 (by decide) (hnd 5 (by kernel_rfl)) rfl
                                rw [e]; exact congrArg some h
                              go_simp
                              exact hK _ _ (by first | rfl | (show _ = _; simp)) (Only.refl _ _) hS
                            · intro L vs A' u hW hL0 hnd K' hK
                              have hS := hW.wi.s
                              have r112 : A'.tmps[112]? = some (.bool true) := by
                                obtain ⟨x, e, h⟩ := hW.tel 6 112 (by decide) (hnd 6 (by kernel_rfl)) rfl
                                rw [e]; exact congrArg some h
                              rw [if_neg (wanted_no (j := 6) (s := 112) (b := false) rfl (by kernel_rfl) r112)]
                              exact hK _ _ rfl (Only.refl _ _) hS
                            · intro L vs A' u hW hL0 hnd K' hK
                              have hS := hW.wi.s
                              have r112 : A'.tmps[112]? = some (.bool true) := by
                                obtain ⟨x, e, h⟩ := hW.tel 6 112 (by decide) (hnd 6 (by kernel_rfl)) rfl
                                rw [e]; exact congrArg some h
                              rw [if_neg (wanted_no (j := 6) (s := 112) (b := false) rfl (by kernel_rfl) r112)]
                              exact hK _ _ rfl (Only.refl _ _) hS
                            · intro L vs A' u hW hL0 hnd K' hK
                              have hS := hW.wi.s
                              have r112 : A'.tmps[112]? = some (.bool true) := by
                                obtain ⟨x, e, h⟩ := hW.tel 6 112 (by decide) (hnd 6 (by kernel_rfl)) rfl
                                rw [e]; exact congrArg some h
                              rw [if_neg (wanted_no (j := 6) (s := 112) (b := false) rfl (by kernel_rfl) r112)]
                              exact hK _ _ rfl (Only.refl _ _) hS
                            · intro L vs A' u hW hL0 hnd K' hK
                              have hS := hW.wi.s
                              have r112 : A'.tmps[112]? = some (.bool true) := by
                                obtain ⟨x, e, h⟩ := hW.tel 6 112 (by decide) (hnd 6 (by kernel_rfl)) rfl
                                rw [e]; exact congrArg some h
                              rw [if_neg (wanted_no (j := 6) (s := 112) (b := false) rfl (by kernel_rfl) r112)]
                              exact hK _ _ rfl (Only.refl _ _) hS
                            · intro L vs A' u hW hL0 hnd K' hK
                              have hS := hW.wi.s
                              have r112 : A'.tmps[112]? = some (.bool true) := by
                                obtain ⟨x, e, h⟩ := hW.tel 6 112 (by decide) (hnd 6 (by kernel_rfl)) rfl
                                rw [e]; exact congrArg some h
                              rw [if_neg (wanted_no (j := 6) (s := 112) (b := false) rfl (by kernel_rfl) r112)]
                              exact hK _ _ rfl (Only.refl _ _) hS
                            · intro L vs A' u hW hL0 hnd K' hK
                              have hS := hW.wi.s
                              have r112 : A'.tmps[112]? = some (.bool true) := by
                                obtain ⟨x, e, h⟩ := hW.tel 6 112 (by decide) (hnd 6 (by kernel_rfl)) rfl
                                rw [e]; exact congrArg some h
                              rw [if_neg (wanted_no (j := 6) (s := 112) (b := false) rfl (by kernel_rfl) r112)]
                              exact hK _ _ rfl (Only.refl _ _) hS
                            · intro L vs A' u hW hL0 hnd K' hK
                              have hS := hW.wi.s
                              have r112 : A'.tmps[112]? = some (.bool true) := by
                                obtain ⟨x, e, h⟩ := hW.tel 6 112 (by decide) (hnd 6 (by kernel_rfl)) rfl
                                rw [e]; exact congrArg some h
                              have r118 : A'.tmps[118]? = some (undef) := by
                                obtain ⟨x, e, h⟩ := hW.tel 12 118 (by decide) (hnd 12 (by kernel_rfl)) rfl
                                rw [e]; exact congrArg some h
                              go_simp
                              exact hK _ _ (by first | rfl | (show _ = _; simp)) (Only.refl _ _) hS
                          case doneFb =>
                            intro L4 vs4 x10 hS hP hall
                            have e13 : vs4 13 = .bool true := hP 13 (by decide)
                            have O8 := Lib.hid (O7.out.trans hS)
                            clear hS hP hall fr_Fb
                            simp only [putV, List.foldl_cons, List.foldl_nil, List.setIfInBounds_toArray, List.set_cons_zero, List.set_cons_succ]
                            rw [e13]
                            clear e13
                            subst hF
                            go_wp2
                            go_ret
                            exact ⟨rfl, HO0.out.trans O8.out⟩
                        · have hr : rRok rc rate := of_decide_eq_true HKR.out
                          obtain ⟨NE, hNE⟩ : ∃ b, (dep != dD) = b := ⟨_, rfl⟩
                          go_wp2
                          have fr_Fc : ∀ j s, j < 14 → (([some 106, some 107, some 108, some 109, some 110, some 111, some 112, some 113, some 114, some 115, some 116, some 117, some 118, some 119] : List (Option Nat)).all fun d => d != some s) = true → ([some 106, some 107, some 108, some 109, some 110, some 111, some 112, some 113, some 114, some 115, some 116, some 117, some 118, some 119] : List (Option Nat)).getD j none ≠ some s := by
                            intro j s hj ha e
                            rw [List.getD_eq_getElem?_getD, List.getElem?_eq_getElem (by exact hj), Option.getD_some] at e
                            have := List.all_eq_true.1 ha _ (List.getElem_mem (by exact hj))
                            rw [e] at this
                            simp at this
                          refine region_tel (by kernel_rfl) (fun k0 => ([some 106, some 107, some 108, some 109, some 110, some 111, some 112, some 113, some 114, some 115, some 116, some 117, some 118, some 119] : List (Option Nat)).getD k0 none) (PL [eqP (.bool true), eqP (.bool false), eqP (.bool false), eqP (.bool true), eqP (.bool false), eqP (.bool false), eqP (.bool false), eqP (.pointer (some ⟨w.heap.size, 8, none⟩)), eqP (iv dep), eqP (.pointer (some ⟨w.heap.size, 4, none⟩)), eqP (iv dc), eqP (iv dD), eqP (.bool NE), eqP (.bool NE)]) (fun u u' => Only Nix u u') (fun _ u => Only Nix (x9) u) 120 14 rfl (by kernel_rfl) (by kernel_rfl) rfl (by kernel_rfl) (by kernel_rfl) (stab_all ⟨fun _ _ _ h _ => h, fun _ _ _ h _ => h, fun _ _ _ h _ => h, fun _ _ _ h _ => h, fun _ _ _ h _ => h, fun _ _ _ h _ => h, fun _ _ _ h _ => h, fun _ _ _ h _ => h, fun _ _ _ h _ => h, fun _ _ _ h _ => h, fun _ _ _ h _ => h, fun _ _ _ h _ => h, fun _ _ _ h _ => h, fun _ _ _ h _ => h, trivial⟩) ((Only.refl _ _).drew) ?stepsFc (fun vs => [(106, vs 0), (107, vs 1), (108, vs 2), (109, vs 3), (110, vs 4), (111, vs 5), (112, vs 6), (113, vs 7), (114, vs 8), (115, vs 9), (116, vs 10), (117, vs 11), (118, vs 12), (119, vs 13)]) (fun vs => rfl) ?doneFc
                          case stepsFc =>
                            refine ⟨?_, ?_, ?_, ?_, ?_, ?_, ?_, ?_, ?_, ?_, ?_, ?_, ?_, ?_, trivial⟩
                            · intro L vs A' u hW hL0 hnd K' hK
                              have hS := hW.wi.s
                              have r3 : A'.tmps[3]? = some (.bool true) := (hW.out 3 (fun j hj => fr_Fc j 3 hj (by kernel_rfl))).trans rfl
                              go_simp
                              exact hK _ _ (by first | rfl | (show _ = _; simp)) (Only.refl _ _) hS
                            · intro L vs A' u hW hL0 hnd K' hK
                              have hS := hW.wi.s
                              have r106 : A'.tmps[106]? = some (.bool true) := by
                                obtain ⟨x, e, h⟩ := hW.tel 0 106 (by decide) (hnd 0 (by kernel_rfl)) rfl
                                rw [e]; exact congrArg some h
                              go_simp
                              exact hK _ _ (rfl) (Only.refl _ _) hS
                            · intro L vs A' u hW hL0 hnd K' hK
                              have hS := hW.wi.s
                              have r107 : A'.tmps[107]? = some (.bool false) := by
                                obtain ⟨x, e, h⟩ := hW.tel 1 107 (by decide) (hnd 1 (by kernel_rfl)) rfl
                                rw [e]; exact congrArg some h
                              go_simp
                              exact hK _ _ (by first | rfl | (show _ = _; simp)) (Only.refl _ _) hS
                            · intro L vs A' u hW hL0 hnd K' hK
                              have hS := hW.wi.s
                              have r4 : A'.tmps[4]? = some (.bool true) := (hW.out 4 (fun j hj => fr_Fc j 4 hj (by kernel_rfl))).trans rfl
                              have r108 : A'.tmps[108]? = some (.bool false) := by
                                obtain ⟨x, e, h⟩ := hW.tel 2 108 (by decide) (hnd 2 (by kernel_rfl)) rfl
                                rw [e]; exact congrArg some h
                              rw [if_pos (wanted_yes (j := 2) (s := 108) (b := false) rfl (by kernel_rfl) r108)]
                              go_simp
                              exact hK _ _ (by first | rfl | (show _ = _; simp)) (Only.refl _ _) hS
                            · intro L vs A' u hW hL0 hnd K' hK
                              have hS := hW.wi.s
                              have r109 : A'.tmps[109]? = some (.bool true) := by
                                obtain ⟨x, e, h⟩ := hW.tel 3 109 (by decide) (hnd 3 (by kernel_rfl)) rfl
                                rw [e]; exact congrArg some h
                              have r108 : A'.tmps[108]? = some (.bool false) := by
                                obtain ⟨x, e, h⟩ := hW.tel 2 108 (by decide) (hnd 2 (by kernel_rfl)) rfl
                                rw [e]; exact congrArg some h
                              rw [if_pos (wanted_yes (j := 2) (s := 108) (b := false) rfl (by kernel_rfl) r108)]
                              go_simp
                              exact hK _ _ (rfl) (Only.refl _ _) hS
                            · intro L vs A' u hW hL0 hnd K' hK
                              have hS := hW.wi.s
                              have r108 : A'.tmps[108]? = some (.bool false) := by
                                obtain ⟨x, e, h⟩ := hW.tel 2 108 (by decide) (hnd 2 (by kernel_rfl)) rfl
                                rw [e]; exact congrArg some h
                              have r110 : A'.tmps[110]? = some (.bool false) := by
                                obtain ⟨x, e, h⟩ := hW.tel 4 110 (by decide) (hnd 4 (by kernel_rfl)) rfl
                                rw [e]; exact congrArg some h
                              go_simp
                              exact hK _ _ (by first | rfl | (show _ = _; simp)) (Only.refl _ _) hS
                            · intro L vs A' u hW hL0 hnd K' hK
                              have hS := hW.wi.s
                              have r111 : A'.tmps[111]? = some (.bool false) := by
                                obtain ⟨x, e, h⟩ := hW.tel 5 111 (by decide) (hnd 5 (by kernel_rfl)) rfl
                                rw [e]; exact congrArg some h
                              go_simp
                              exact hK _ _ (by first | rfl | (show _ = _; simp)) (Only.refl _ _) hS
                            · intro L vs A' u hW hL0 hnd K' hK
                              have hS := hW.wi.s
                              have r1 : A'.tmps[1]? = some (.pointer (some ⟨w.heap.size, 0, none⟩)) := (hW.out 1 (fun j hj => fr_Fc j 1 hj (by kernel_rfl))).trans rfl
                              have r112 : A'.tmps[112]? = some (.bool false) := by
                                obtain ⟨x, e, h⟩ := hW.tel 6 112 (by decide) (hnd 6 (by kernel_rfl)) rfl
                                rw [e]; exact congrArg some h
                              rw [if_pos (wanted_yes (j := 6) (s := 112) (b := false) rfl (by kernel_rfl) r112)]
                              go_simp
                              exact hK _ _ (by first | rfl | (show _ = _; simp)) (Only.refl _ _) hS
                            · intro L vs A' u hW hL0 hnd K' hK
                              have hS := hW.wi.s
                              have r113 : A'.tmps[113]? = some (.pointer (some ⟨w.heap.size, 8, none⟩)) := by
                                obtain ⟨x, e, h⟩ := hW.tel 7 113 (by decide) (hnd 7 (by kernel_rfl)) rfl
                                rw [e]; exact congrArg some h
                              have r112 : A'.tmps[112]? = some (.bool false) := by
                                obtain ⟨x, e, h⟩ := hW.tel 6 112 (by decide) (hnd 6 (by kernel_rfl)) rfl
                                rw [e]; exact congrArg some h
                              rw [if_pos (wanted_yes (j := 6) (s := 112) (b := false) rfl (by kernel_rfl) r112)]
                              have hc := U.cell_keep hS q8
                              go_simp
                              exact hK _ _ (rfl) (Only.refl _ _) hS
                            · intro L vs A' u hW hL0 hnd K' hK
                              have hS := hW.wi.s
                              have r1 : A'.tmps[1]? = some (.pointer (some ⟨w.heap.size, 0, none⟩)) := (hW.out 1 (fun j hj => fr_Fc j 1 hj (by kernel_rfl))).trans rfl
                              have r112 : A'.tmps[112]? = some (.bool false) := by
                                obtain ⟨x, e, h⟩ := hW.tel 6 112 (by decide) (hnd 6 (by kernel_rfl)) rfl
                                rw [e]; exact congrArg some h
                              rw [if_pos (wanted_yes (j := 6) (s := 112) (b := false) rfl (by kernel_rfl) r112)]
                              go_simp
                              exact hK _ _ (by first | rfl | (show _ = _; simp)) (Only.refl _ _) hS
                            · intro L vs A' u hW hL0 hnd K' hK
                              have hS := hW.wi.s
                              have r115 : A'.tmps[115]? = some (.pointer (some ⟨w.heap.size, 4, none⟩)) := by
                                obtain ⟨x, e, h⟩ := hW.tel 9 115 (by decide) (hnd 9 (by kernel_rfl)) rfl
                                rw [e]; exact congrArg some h
                              have r112 : A'.tmps[112]? = some (.bool false) := by
                                obtain ⟨x, e, h⟩ := hW.tel 6 112 (by decide) (hnd 6 (by kernel_rfl)) rfl
                                rw [e]; exact congrArg some h
                              rw [if_pos (wanted_yes (j := 6) (s := 112) (b := false) rfl (by kernel_rfl) r112)]
                              have hc := U.cell_keep hS q4
                              go_simp
                              exact hK _ _ (rfl) (Only.refl _ _) hS
                            · intro L vs A' u hW hL0 hnd K' hK
                              have hS := hW.wi.s
                              have r116 : A'.tmps[116]? = some (iv dc) := by
                                obtain ⟨x, e, h⟩ := hW.tel 10 116 (by decide) (hnd 10 (by kernel_rfl)) rfl
                                rw [e]; exact congrArg some h
                              have r112 : A'.tmps[112]? = some (.bool false) := by
                                obtain ⟨x, e, h⟩ := hW.tel 6 112 (by decide) (hnd 6 (by kernel_rfl)) rfl
                                rw [e]; exact congrArg some h
                              rw [if_pos (wanted_yes (j := 6) (s := 112) (b := false) rfl (by kernel_rfl) r112)]
                              have HCL := Lib.hid (CD.out u)
                              go_simp
                              refine (HCL.out).mono ?_
                              rintro _ u' ⟨rfl, ho'⟩
                              exact hK _ _ (rfl) ho' (hS.trans ho')
                            · intro L vs A' u hW hL0 hnd K' hK
                              have hS := hW.wi.s
                              have r114 : A'.tmps[114]? = some (iv dep) := by
                                obtain ⟨x, e, h⟩ := hW.tel 8 114 (by decide) (hnd 8 (by kernel_rfl)) rfl
                                rw [e]; exact congrArg some h
                              have r117 : A'.tmps[117]? = some (iv dD) := by
                                obtain ⟨x, e, h⟩ := hW.tel 11 117 (by decide) (hnd 11 (by kernel_rfl)) rfl
                                rw [e]; exact congrArg some h
                              have r112 : A'.tmps[112]? = some (.bool false) := by
                                obtain ⟨x, e, h⟩ := hW.tel 6 112 (by decide) (hnd 6 (by kernel_rfl)) rfl
                                rw [e]; exact congrArg some h
                              rw [if_pos (wanted_yes (j := 6) (s := 112) (b := false) rfl (by kernel_rfl) r112)]
                              go_simp
                              exact hK _ _ (rfl) (Only.refl _ _) hS
                            · intro L vs A' u hW hL0 hnd K' hK
                              have hS := hW.wi.s
                              have r112 : A'.tmps[112]? = some (.bool false) := by
                                obtain ⟨x, e, h⟩ := hW.tel 6 112 (by decide) (hnd 6 (by kernel_rfl)) rfl
                                rw [e]; exact congrArg some h
                              have r118 : A'.tmps[118]? = some (.bool NE) := by
                                obtain ⟨x, e, h⟩ := hW.tel 12 118 (by decide) (hnd 12 (by kernel_rfl)) rfl
                                rw [e]; exact congrArg some h
                              go_simp
                              exact hK _ _ (by first | rfl | (show _ = _; simp)) (Only.refl _ _) hS
                          case doneFc =>
                            intro L4 vs4 x10 hS hP hall
                            have e13 : vs4 13 = .bool NE := hP 13 (by decide)
                            have O8 := Lib.hid (O7.out.trans hS)
                            clear hS hP hall fr_Fc
                            simp only [putV, List.foldl_cons, List.foldl_nil, List.setIfInBounds_toArray, List.set_cons_zero, List.set_cons_succ]
                            rw [e13]
                            clear e13
                            cases NE
                            · have hF : F = 0 := by
                                rw [HE3.out, if_neg]
                                simp only [not_or, Classical.not_not]
                                exact ⟨hb, hr, by simpa using hNE⟩
                              subst hF
                              clear hNE
                              go_wp2
                              go_ret
                              exact ⟨rfl, HO0.out.trans O8.out⟩
                            · have hF : F = 22 := by
                                rw [HE3.out, if_pos (.inr (.inr (by simpa using hNE)))]
                              subst hF
                              clear hNE
                              go_wp2
                              go_ret
                              exact ⟨rfl, HO0.out.trans O8.out⟩
                · skip
                  have n2 : M ≤ num := of_decide_eq_true HGE.out
                  have hF : F = 10 := by rw [HE2.out, if_pos (.inr n2)]
                  subst hF
                  go_wp2
                  go_ret
                  exact ⟨rfl, HO0.out.trans O4.out⟩
end Go.Proofs.YteahiigfclabfaaDoor.H
