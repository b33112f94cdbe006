/-
  StereoBits: its walk.
-/
import Derived.Test.YtmnogedkinhljaaEJ
namespace Go.Proofs.Ytmnogedkinhljaa
open Go.RowKit Go.Shelf

theorem pow_two (p : Nat) : ((2 ^ (p + 1) : Nat) : Int) = 2 * ((2 ^ p : Nat) : Int) := by rw [Nat.pow_succ]; omega
theorem in_N {x : Int} {D : Nat} (h : inV x D) (hD : D ≤ 40) : isN x := by
  unfold inV at h
  have hp := pow_le_of (show D - 1 ≤ 39 by omega)
  have hq : (2 : Nat) ^ 39 = 549755813888 := by decide
  rw [hq] at hp
  generalize (2 : Nat) ^ (D - 1) = K at *
  unfold isN
  omega
theorem tw_in {m l r : Int} {D : Nat} (hD : 1 ≤ D) (hm : isM m) (hl : inV l D) (hr : inV r D) : ∃ p0 p1 : Nat, exV m 0 = (p0 : Int) ∧ exV m 1 = (p1 : Int) ∧ p0 ≤ 1 ∧ p1 ≤ 1 ∧ inV (twA m l r) (D + p0) ∧ inV (twB m l r) (D + p1) := by
  have hs : inV (l - r) (D + 1) := by
    unfold inV at hl hr ⊢
    obtain ⟨q, rfl⟩ : ∃ q, D = q + 1 := ⟨D - 1, by omega⟩
    rw [show q + 1 + 1 - 1 = q + 1 by omega, pow_two]
    rw [show q + 1 - 1 = q by omega] at hl hr
    omega
  have hh : inV ((l + r) / 2) D := by
    unfold inV at hl hr ⊢
    generalize ((2 ^ (D - 1) : Nat) : Int) = K at *
    omega
  rcases hm with rfl | rfl | rfl | rfl
  · exact ⟨0, 0, by decide, by decide, by decide, by decide, hl, hr⟩
  · exact ⟨0, 1, by decide, by decide, by decide, by decide, hl, hs⟩
  · exact ⟨1, 0, by decide, by decide, by decide, by decide, hs, hr⟩
  · exact ⟨0, 1, by decide, by decide, by decide, by decide, hh, hs⟩
theorem ex_nat (m ch : Int) : ∃ p : Nat, exV m ch = (p : Int) ∧ p ≤ 1 := by
  unfold exV
  split
  · exact ⟨1, rfl, by decide⟩
  · exact ⟨0, rfl, by decide⟩
def Bi1 (w : World) (D : Nat) (xs ys : List Int) (s : Value) (wr : World) : Prop := ∃ j : Nat, j ≤ xs.length ∧ s = iv j ∧ (∀ x ∈ xs.take j, inV x D) ∧ (∀ y ∈ ys.take j, inV y D) ∧ w = wr
def Bi2 (w : World) (s : Value) (wr : World) : Prop := ∃ k : Nat, k ≤ 4 ∧ s = iv ((k : Int) - 1) ∧ w = wr
def Bi3 (w : World) (n : Nat) (s : Value) (wr : World) : Prop := ∃ j : Nat, j ≤ n ∧ s = iv j ∧ Only Nix w wr
set_option maxRecDepth 100000 in
set_option maxHeartbeats 8000000 in
theorem bits_any {w : World} {m D0 : Int} {n c k d : Nat} {A B : Option Addr} {xs ys : List Int} (hx : ISrc w (.slice A n c) xs) (hy : ISrc w (.slice B k d) ys) :
    Calls Try.prog 4 #[.agg #[iv m, iv D0], .slice A n c, .slice B k d] w fun e w' => e = .returned (.bool true) ∧ Only Nix w w' := by
  have hxl := hx.len
  have hyl := hy.len
  have hxs := hx.small
  have hys := hy.small
  have a0 := (Only.refl Nix w).alloc (.cells #[iv m, iv D0] 31)
  have b0 := Box.new w 31 #[iv m, iv D0]
  obtain ⟨Wa, hWa⟩ : ∃ Wa, w.alloc (.cells #[iv m, iv D0] 31) = Wa := ⟨_, rfl⟩
  rw [hWa] at a0 b0
  have q0 := b0.cell 0
  have q1 := b0.cell 1
  simp only [List.getElem?_toArray, List.getElem?_cons_zero, List.getElem?_cons_succ] at q0 q1
  have HA := Lib.hid a0
  have HX := Lib.hid (hx.nix a0)
  have HY := Lib.hid (hy.nix a0)
  have Hxl := Lib.hid hxl
  have Hyl := Lib.hid hyl
  rw [← hxl] at hxs
  rw [← hyl] at hys
  clear hxl hyl hx hy b0 a0
  by_cases g1 : 60 < n
  · have g1i : (60 : Int) < (n : Int) := by omega
    have HW := Lib.hid (awake9 Wa)
    go_enter Try.func4, Try.ntmps4
    go_wp2_with fail
    refine (HW.out).mono ?_
    rintro e w1 ⟨rfl, o1⟩
    have HO := Lib.hid (HA.out.trans o1)
    clear o1 HW
    go_wp2
    go_ret
    exact ⟨rfl, HO.out⟩
  · have g1i : ¬ (60 : Int) < (n : Int) := by omega
    by_cases g2 : n = k
    · subst g2
      by_cases g3 : D0 < 4
      · have HW := Lib.hid (awake9 Wa)
        go_enter Try.func4, Try.ntmps4
        go_wp2_with fail
        refine (HW.out).mono ?_
        rintro e w1 ⟨rfl, o1⟩
        have HO := Lib.hid (HA.out.trans o1)
        clear o1 HW
        go_wp2
        go_ret
        exact ⟨rfl, HO.out⟩
      · by_cases g4 : 32 < D0
        · have HW := Lib.hid (awake9 Wa)
          go_enter Try.func4, Try.ntmps4
          go_wp2_with fail
          refine (HW.out).mono ?_
          rintro e w1 ⟨rfl, o1⟩
          have HO := Lib.hid (HA.out.trans o1)
          clear o1 HW
          go_wp2
          go_ret
          exact ⟨rfl, HO.out⟩
        · obtain ⟨D, rfl⟩ := Int.eq_ofNat_of_zero_le (show 0 ≤ D0 by omega)
          have hD4 : 4 ≤ D := by omega
          have hD32 : D ≤ 32 := by omega
          have HM : Hid (isM m ∨ ¬ isM m) := Lib.hid (Decidable.em _)
          go_enter Try.func4, Try.ntmps4
          go_wp2
          go_loopw [9] (fun s wr => Bi1 Wa D xs ys s wr) (fun s _ => n - (intOf s).toNat)
          case atStart => exact ⟨0, Nat.zero_le _, rfl, by simp, by simp, rfl⟩
          case round =>
            obtain ⟨j, hj, rfl, halx, haly, rfl⟩ := hrel
            rw [← Hxl.out] at hj
            have HAX := Lib.hid halx
            have HAY := Lib.hid haly
            clear halx haly
            by_cases hlt : j < n
            · have hltx : j < xs.length := by rw [← Hxl.out]; exact hlt
              have hlty : j < ys.length := by rw [← Hyl.out]; exact hlt
              obtain ⟨ad, rfl, hcx⟩ := HX.out.at_ hltx
              obtain ⟨bd, rfl, hcy⟩ := HY.out.at_ hlty
              have hlti : (j : Int) < (n : Int) := by omega
              have HTX := Lib.hid (List.take_succ_eq_append_getElem hltx)
              have HTY := Lib.hid (List.take_succ_eq_append_getElem hlty)
              have HI1 := Lib.hid (in_any Wa xs[j] D (by omega) (by omega))
              have HI2 := Lib.hid (in_any Wa ys[j] D (by omega) (by omega))
              have HW := Lib.hid (awake9 Wa)
              generalize xs[j] = x at *
              generalize ys[j] = y at *
              clear hltx hlty
              by_cases k1 : inV x D
              · rw [decide_eq_true k1] at HI1
                have HK1 := Lib.hid k1
                clear k1
                by_cases k2 : inV y D
                · rw [decide_eq_true k2] at HI2
                  have HK2 := Lib.hid k2
                  clear k2
                  go_wp2_with fail
                  refine (HI1.out).mono ?_
                  rintro e w5 ⟨rfl, rfl⟩
                  go_wp2_with fail
                  refine (HI2.out).mono ?_
                  rintro e w5 ⟨rfl, rfl⟩
                  go_wp2
                  go_roundw
                  case rel => exact ⟨j + 1, by rw [← Hxl.out]; omega, by go_num, fun z hz => by
                      rw [HTX.out] at hz
                      rcases List.mem_append.1 hz with hz | hz
                      · exact HAX.out z hz
                      · simp at hz; subst hz; exact HK1.out, fun z hz => by
                      rw [HTY.out] at hz
                      rcases List.mem_append.1 hz with hz | hz
                      · exact HAY.out z hz
                      · simp at hz; subst hz; exact HK2.out, rfl⟩
                  case measure => simp [intOf]; omega
                · rw [decide_eq_false k2] at HI2
                  clear k2
                  go_wp2_with fail
                  refine (HI1.out).mono ?_
                  rintro e w5 ⟨rfl, rfl⟩
                  go_wp2_with fail
                  refine (HI2.out).mono ?_
                  rintro e w5 ⟨rfl, rfl⟩
                  go_wp2_with fail
                  refine (HW.out).mono ?_
                  rintro e w1 ⟨rfl, o1⟩
                  have HO := Lib.hid (HA.out.trans o1)
                  clear o1 HW
                  go_wp2
                  go_ret
                  exact ⟨rfl, HO.out⟩
              · rw [decide_eq_false k1] at HI1
                clear k1
                go_wp2_with fail
                refine (HI1.out).mono ?_
                rintro e w5 ⟨rfl, rfl⟩
                go_wp2_with fail
                refine (HW.out).mono ?_
                rintro e w1 ⟨rfl, o1⟩
                have HO := Lib.hid (HA.out.trans o1)
                clear o1 HW
                go_wp2
                go_ret
                exact ⟨rfl, HO.out⟩
            · have HNX : Hid (∀ x ∈ xs, inV x D) := Lib.hid (fun z hz => HAX.out z (by rw [List.take_of_length_le (by rw [← Hxl.out]; omega)]; exact hz))
              have HNY : Hid (∀ y ∈ ys, inV y D) := Lib.hid (fun z hz => HAY.out z (by rw [List.take_of_length_le (by rw [← Hyl.out]; omega)]; exact hz))
              have hlti : ¬ (j : Int) < (n : Int) := by omega
              clear HAX HAY
              go_wp2
              go_loopw [10] (fun s wr => Bi2 Wa s wr) (fun s _ => 4 - (intOf s + 1).toNat)
              case atStart => exact ⟨0, by omega, rfl, rfl⟩
              case round =>
                obtain ⟨t, ht, rfl, rfl⟩ := hrel
                by_cases ht4 : t = 4
                · subst ht4
                  have hMM := HM.out
                  clear HM
                  have HP := Lib.hid (part_any m HX.out HY.out (by omega))
                  by_cases hm : isM m
                  · have hE : wrE m xs ys = 0 := by
                      unfold wrE ckE
                      rw [if_pos hm, if_neg (by rw [← Hxl.out, ← Hyl.out]; exact fun h => h rfl), if_pos ⟨fun x hx => in_N (HNX.out x hx) (by omega), fun y hy => in_N (HNY.out y hy) (by omega)⟩]
                    have HE := Lib.hid hE
                    have HM := Lib.hid hm
                    rw [hE] at HP
                    clear hE hm hMM
                    go_wp2_with fail
                    refine (HP.out).mono ?_
                    rintro e w1 ⟨⟨A1, c1, B1, d1, rfl, i1, i2⟩, o1⟩
                    have I1 := Lib.hid i1
                    have I2 := Lib.hid i2
                    have O1 := Lib.hid (HA.out.trans o1)
                    have lA := (ptA_len HE.out).trans Hxl.out.symm
                    have lB := (ptB_len HE.out).trans Hxl.out.symm
                    rw [lA] at I1 ⊢
                    rw [lB] at I2 ⊢
                    have LA := Lib.hid lA
                    have LB := Lib.hid lB
                    clear HP i1 i2 o1 lA lB
                    go_wp2
                    go_loopw [15] (fun s wr => Bi3 w1 n s wr) (fun s _ => n - (intOf s).toNat)
                    case atStart => exact ⟨0, Nat.zero_le _, rfl, Only.refl _ _⟩
                    case round =>
                      obtain ⟨i, hi, rfl, hoq⟩ := hrel
                      have OQ := Lib.hid hoq
                      clear hoq
                      by_cases hit : i < n
                      · have hltx : i < xs.length := by rw [← Hxl.out]; exact hit
                        have hlty : i < ys.length := by rw [← Hyl.out]; exact hit
                        obtain ⟨pd, rfl, hcp⟩ := (I1.out.nix OQ.out).at_ (k := i) (by rw [LA.out]; exact hit)
                        obtain ⟨qd, rfl, hcq⟩ := (I2.out.nix OQ.out).at_ (k := i) (by rw [LB.out]; exact hit)
                        rw [ptA_at HE.out hltx hlty] at hcp
                        rw [ptB_at HE.out hltx hlty] at hcq
                        obtain ⟨p0, p1, hp0, hp1, hb0, hb1, hin0, hin1⟩ := tw_in (D := D) (by omega) HM.out (HNX.out _ (List.getElem_mem hltx)) (HNY.out _ (List.getElem_mem hlty))
                        have HX0 : ∀ u, Hid (Calls Try.prog 12 #[iv m, iv 0] u fun e w' => e = .returned (iv p0) ∧ u = w') := fun u => Lib.hid (by rw [← hp0]; exact extra_any u m 0)
                        have HX1 : ∀ u, Hid (Calls Try.prog 12 #[iv m, iv 1] u fun e w' => e = .returned (iv p1) ∧ u = w') := fun u => Lib.hid (by rw [← hp1]; exact extra_any u m 1)
                        have HN0 : ∀ u, Hid (Calls Try.prog 11 #[iv (twA m xs[i] ys[i]), iv ((D + p0 : Nat) : Int)] u fun e w' => e = .returned (.bool true) ∧ u = w') := fun u => Lib.hid (by
                          have := in_any u (twA m xs[i] ys[i]) (D + p0) (by omega) (by omega)
                          rwa [decide_eq_true hin0] at this)
                        have HN1 : ∀ u, Hid (Calls Try.prog 11 #[iv (twB m xs[i] ys[i]), iv ((D + p1 : Nat) : Int)] u fun e w' => e = .returned (.bool true) ∧ u = w') := fun u => Lib.hid (by
                          have := in_any u (twB m xs[i] ys[i]) (D + p1) (by omega) (by omega)
                          rwa [decide_eq_true hin1] at this)
                        have hs0 : (D : Int) + (p0 : Int) = ((D + p0 : Nat) : Int) := by omega
                        have hs1 : (D : Int) + (p1 : Int) = ((D + p1 : Nat) : Int) := by omega
                        have hP0 : D + p0 ≤ 33 := by omega
                        have hP1 : D + p1 ≤ 33 := by omega
                        generalize D + p0 = P0 at *
                        generalize D + p1 = P1 at *
                        have hiti : (i : Int) < (n : Int) := by omega
                        generalize twA m xs[i] ys[i] = p at *
                        generalize twB m xs[i] ys[i] = r at *
                        clear hltx hlty hin0 hin1 hp0 hp1
                        go_wp2_with fail
                        have fr_R : ∀ j s, j < 22 → (([some 125, some 126, some 127, some 128, some 129, some 130, some 131, some 132, some 133, some 134, some 135, some 136, some 137, some 138, some 139, some 140, some 141, some 142, some 143, some 144, some 145, some 146] : List (Option Nat)).all fun d => d != some s) = true → ([some 125, some 126, some 127, some 128, some 129, some 130, some 131, some 132, some 133, some 134, some 135, some 136, some 137, some 138, some 139, some 140, some 141, some 142, some 143, some 144, some 145, some 146] : List (Option Nat)).getD j none ≠ some s := by
                          intro j s hj ha e
                          rw [List.getD_eq_getElem?_getD, List.getElem?_eq_getElem (by exact hj), Option.getD_some] at e
                          have := List.all_eq_true.1 ha _ (List.getElem_mem (by exact hj))
                          rw [e] at this
                          simp at this
                        refine region_tel (by kernel_rfl) (fun k0 => ([some 125, some 126, some 127, some 128, some 129, some 130, some 131, some 132, some 133, some 134, some 135, some 136, some 137, some 138, some 139, some 140, some 141, some 142, some 143, some 144, some 145, some 146] : List (Option Nat)).getD k0 none) (PL [eqP (.slice (some pd) n c1), eqP (iv i), eqP (.pointer (some (pd.add i))), eqP (iv p), eqP (iv D), eqP (iv m), eqP (iv p0), eqP (iv P0), eqP (.bool true), eqP (.bool false), eqP (.bool false), eqP (.slice (some qd) n d1), eqP (iv i), eqP (.pointer (some (qd.add i))), eqP (iv r), eqP (iv D), eqP (iv m), eqP (iv p1), eqP (iv P1), eqP (.bool true), eqP (.bool false), eqP (.bool false)]) (fun _ _ => True) (fun _ u => Only Nix wr u) 162 22 rfl (by kernel_rfl) (by kernel_rfl) rfl (by kernel_rfl) (by kernel_rfl) (stab_all ⟨fun _ _ _ h _ => h, fun _ _ _ h _ => h, fun _ _ _ h _ => h, fun _ _ _ h _ => h, fun _ _ _ h _ => h, fun _ _ _ h _ => h, fun _ _ _ h _ => h, fun _ _ _ h _ => h, fun _ _ _ h _ => h, fun _ _ _ h _ => h, fun _ _ _ h _ => h, fun _ _ _ h _ => h, fun _ _ _ h _ => h, fun _ _ _ h _ => h, fun _ _ _ h _ => h, fun _ _ _ h _ => h, fun _ _ _ h _ => h, fun _ _ _ h _ => h, fun _ _ _ h _ => h, fun _ _ _ h _ => h, fun _ _ _ h _ => h, fun _ _ _ h _ => h, trivial⟩) ((Only.refl _ _).drew) ?stepsR (fun vs => [(125, vs 0), (126, vs 1), (127, vs 2), (128, vs 3), (129, vs 4), (130, vs 5), (131, vs 6), (132, vs 7), (133, vs 8), (134, vs 9), (135, vs 10), (136, vs 11), (137, vs 12), (138, vs 13), (139, vs 14), (140, vs 15), (141, vs 16), (142, vs 17), (143, vs 18), (144, vs 19), (145, vs 20), (146, vs 21)]) (fun vs => rfl) ?doneR
                        case stepsR =>
                          refine ⟨?_, ?_, ?_, ?_, ?_, ?_, ?_, ?_, ?_, ?_, ?_, ?_, ?_, ?_, ?_, ?_, ?_, ?_, ?_, ?_, ?_, ?_, trivial⟩
                          · intro L vs A' u hW hL0 hnd K' hK
                            have hS := hW.wi.s
                            have r12 : A'.tmps[12]? = some (.slice (some pd) n c1) := (hW.out 12 (fun j hj => fr_R j 12 hj (by kernel_rfl))).trans rfl
                            go_simp
                            exact hK _ _ (by first | rfl | (show _ = _; simp)) trivial (hS)
                          · intro L vs A' u hW hL0 hnd K' hK
                            have hS := hW.wi.s
                            have r15 : A'.tmps[15]? = some (iv i) := (hW.out 15 (fun j hj => fr_R j 15 hj (by kernel_rfl))).trans rfl
                            go_simp
                            exact hK _ _ (by first | rfl | (show _ = _; simp)) trivial (hS)
                          · intro L vs A' u hW hL0 hnd K' hK
                            have hS := hW.wi.s
                            have r125 : A'.tmps[125]? = some (.slice (some pd) n c1) := by
                              obtain ⟨x, e, h⟩ := hW.tel 0 125 (by decide) (hnd 0 (by kernel_rfl)) rfl
                              rw [e]; exact congrArg some h
                            have r126 : A'.tmps[126]? = some (iv i) := by
                              obtain ⟨x, e, h⟩ := hW.tel 1 126 (by decide) (hnd 1 (by kernel_rfl)) rfl
                              rw [e]; exact congrArg some h
                            go_simp
                            exact hK _ _ (by first | rfl | (show _ = _; simp)) trivial (hS)
                          · intro L vs A' u hW hL0 hnd K' hK
                            have hS := hW.wi.s
                            have r127 : A'.tmps[127]? = some (.pointer (some (pd.add i))) := by
                              obtain ⟨x, e, h⟩ := hW.tel 2 127 (by decide) (hnd 2 (by kernel_rfl)) rfl
                              rw [e]; exact congrArg some h
                            have hc := cell_keep hS hcp
                            go_simp
                            exact hK _ _ (by first | rfl | (show _ = _; simp)) trivial (hS)
                          · intro L vs A' u hW hL0 hnd K' hK
                            have hS := hW.wi.s
                            have r8 : A'.tmps[8]? = some (iv D) := (hW.out 8 (fun j hj => fr_R j 8 hj (by kernel_rfl))).trans rfl
                            go_simp
                            exact hK _ _ (by first | rfl | (show _ = _; simp)) trivial (hS)
                          · intro L vs A' u hW hL0 hnd K' hK
                            have hS := hW.wi.s
                            have r7 : A'.tmps[7]? = some (iv m) := (hW.out 7 (fun j hj => fr_R j 7 hj (by kernel_rfl))).trans rfl
                            go_simp
                            exact hK _ _ (by first | rfl | (show _ = _; simp)) trivial (hS)
                          · intro L vs A' u hW hL0 hnd K' hK
                            have hS := hW.wi.s
                            have r130 : A'.tmps[130]? = some (iv m) := by
                              obtain ⟨x, e, h⟩ := hW.tel 5 130 (by decide) (hnd 5 (by kernel_rfl)) rfl
                              rw [e]; exact congrArg some h
                            have HCL := Lib.hid ((HX0 u).out)
                            go_simp
                            refine (HCL.out).mono ?_
                            rintro _ u' ⟨rfl, rfl⟩
                            exact hK _ _ rfl trivial hS
                          · intro L vs A' u hW hL0 hnd K' hK
                            have hS := hW.wi.s
                            have r129 : A'.tmps[129]? = some (iv D) := by
                              obtain ⟨x, e, h⟩ := hW.tel 4 129 (by decide) (hnd 4 (by kernel_rfl)) rfl
                              rw [e]; exact congrArg some h
                            have r131 : A'.tmps[131]? = some (iv p0) := by
                              obtain ⟨x, e, h⟩ := hW.tel 6 131 (by decide) (hnd 6 (by kernel_rfl)) rfl
                              rw [e]; exact congrArg some h
                            go_simp
                            exact hK _ _ (by first | rfl | (show Value.int .i64 _ = Value.int .i64 _; exact congrArg _ (w64k _ (by omega) (by omega)))) trivial hS
                          · intro L vs A' u hW hL0 hnd K' hK
                            have hS := hW.wi.s
                            have r128 : A'.tmps[128]? = some (iv p) := by
                              obtain ⟨x, e, h⟩ := hW.tel 3 128 (by decide) (hnd 3 (by kernel_rfl)) rfl
                              rw [e]; exact congrArg some h
                            have r132 : A'.tmps[132]? = some (iv P0) := by
                              obtain ⟨x, e, h⟩ := hW.tel 7 132 (by decide) (hnd 7 (by kernel_rfl)) rfl
                              rw [e]; exact congrArg some h
                            have HCL := Lib.hid ((HN0 u).out)
                            go_simp
                            refine (HCL.out).mono ?_
                            rintro _ u' ⟨rfl, rfl⟩
                            exact hK _ _ rfl trivial hS
                          · intro L vs A' u hW hL0 hnd K' hK
                            have hS := hW.wi.s
                            have r133 : A'.tmps[133]? = some (.bool true) := by
                              obtain ⟨x, e, h⟩ := hW.tel 8 133 (by decide) (hnd 8 (by kernel_rfl)) rfl
                              rw [e]; exact congrArg some h
                            go_simp
                            exact hK _ _ (by first | rfl | (show _ = _; simp)) trivial (hS)
                          · intro L vs A' u hW hL0 hnd K' hK
                            have hS := hW.wi.s
                            have r134 : A'.tmps[134]? = some (.bool false) := by
                              obtain ⟨x, e, h⟩ := hW.tel 9 134 (by decide) (hnd 9 (by kernel_rfl)) rfl
                              rw [e]; exact congrArg some h
                            go_simp
                            exact hK _ _ (by first | rfl | (show _ = _; simp)) trivial (hS)
                          · intro L vs A' u hW hL0 hnd K' hK
                            have hS := hW.wi.s
                            have r13 : A'.tmps[13]? = some (.slice (some qd) n d1) := (hW.out 13 (fun j hj => fr_R j 13 hj (by kernel_rfl))).trans rfl
                            have r135 : A'.tmps[135]? = some (.bool false) := by
                              obtain ⟨x, e, h⟩ := hW.tel 10 135 (by decide) (hnd 10 (by kernel_rfl)) rfl
                              rw [e]; exact congrArg some h
                            rw [if_pos (wanted_yes (j := 10) (s := 135) (b := false) rfl (by kernel_rfl) r135)]
                            go_simp
                            exact hK _ _ (by first | rfl | (show _ = _; simp)) trivial (hS)
                          · intro L vs A' u hW hL0 hnd K' hK
                            have hS := hW.wi.s
                            have r15 : A'.tmps[15]? = some (iv i) := (hW.out 15 (fun j hj => fr_R j 15 hj (by kernel_rfl))).trans rfl
                            have r135 : A'.tmps[135]? = some (.bool false) := by
                              obtain ⟨x, e, h⟩ := hW.tel 10 135 (by decide) (hnd 10 (by kernel_rfl)) rfl
                              rw [e]; exact congrArg some h
                            rw [if_pos (wanted_yes (j := 10) (s := 135) (b := false) rfl (by kernel_rfl) r135)]
                            go_simp
                            exact hK _ _ (by first | rfl | (show _ = _; simp)) trivial (hS)
                          · intro L vs A' u hW hL0 hnd K' hK
                            have hS := hW.wi.s
                            have r136 : A'.tmps[136]? = some (.slice (some qd) n d1) := by
                              obtain ⟨x, e, h⟩ := hW.tel 11 136 (by decide) (hnd 11 (by kernel_rfl)) rfl
                              rw [e]; exact congrArg some h
                            have r137 : A'.tmps[137]? = some (iv i) := by
                              obtain ⟨x, e, h⟩ := hW.tel 12 137 (by decide) (hnd 12 (by kernel_rfl)) rfl
                              rw [e]; exact congrArg some h
                            have r135 : A'.tmps[135]? = some (.bool false) := by
                              obtain ⟨x, e, h⟩ := hW.tel 10 135 (by decide) (hnd 10 (by kernel_rfl)) rfl
                              rw [e]; exact congrArg some h
                            rw [if_pos (wanted_yes (j := 10) (s := 135) (b := false) rfl (by kernel_rfl) r135)]
                            go_simp
                            exact hK _ _ (by first | rfl | (show _ = _; simp)) trivial (hS)
                          · intro L vs A' u hW hL0 hnd K' hK
                            have hS := hW.wi.s
                            have r138 : A'.tmps[138]? = some (.pointer (some (qd.add i))) := by
                              obtain ⟨x, e, h⟩ := hW.tel 13 138 (by decide) (hnd 13 (by kernel_rfl)) rfl
                              rw [e]; exact congrArg some h
                            have r135 : A'.tmps[135]? = some (.bool false) := by
                              obtain ⟨x, e, h⟩ := hW.tel 10 135 (by decide) (hnd 10 (by kernel_rfl)) rfl
                              rw [e]; exact congrArg some h
                            rw [if_pos (wanted_yes (j := 10) (s := 135) (b := false) rfl (by kernel_rfl) r135)]
                            have hc := cell_keep hS hcq
                            go_simp
                            exact hK _ _ (by first | rfl | (show _ = _; simp)) trivial (hS)
                          · intro L vs A' u hW hL0 hnd K' hK
                            have hS := hW.wi.s
                            have r8 : A'.tmps[8]? = some (iv D) := (hW.out 8 (fun j hj => fr_R j 8 hj (by kernel_rfl))).trans rfl
                            have r135 : A'.tmps[135]? = some (.bool false) := by
                              obtain ⟨x, e, h⟩ := hW.tel 10 135 (by decide) (hnd 10 (by kernel_rfl)) rfl
                              rw [e]; exact congrArg some h
                            rw [if_pos (wanted_yes (j := 10) (s := 135) (b := false) rfl (by kernel_rfl) r135)]
                            go_simp
                            exact hK _ _ (by first | rfl | (show _ = _; simp)) trivial (hS)
                          · intro L vs A' u hW hL0 hnd K' hK
                            have hS := hW.wi.s
                            have r7 : A'.tmps[7]? = some (iv m) := (hW.out 7 (fun j hj => fr_R j 7 hj (by kernel_rfl))).trans rfl
                            have r135 : A'.tmps[135]? = some (.bool false) := by
                              obtain ⟨x, e, h⟩ := hW.tel 10 135 (by decide) (hnd 10 (by kernel_rfl)) rfl
                              rw [e]; exact congrArg some h
                            rw [if_pos (wanted_yes (j := 10) (s := 135) (b := false) rfl (by kernel_rfl) r135)]
                            go_simp
                            exact hK _ _ (by first | rfl | (show _ = _; simp)) trivial (hS)
                          · intro L vs A' u hW hL0 hnd K' hK
                            have hS := hW.wi.s
                            have r141 : A'.tmps[141]? = some (iv m) := by
                              obtain ⟨x, e, h⟩ := hW.tel 16 141 (by decide) (hnd 16 (by kernel_rfl)) rfl
                              rw [e]; exact congrArg some h
                            have r135 : A'.tmps[135]? = some (.bool false) := by
                              obtain ⟨x, e, h⟩ := hW.tel 10 135 (by decide) (hnd 10 (by kernel_rfl)) rfl
                              rw [e]; exact congrArg some h
                            rw [if_pos (wanted_yes (j := 10) (s := 135) (b := false) rfl (by kernel_rfl) r135)]
                            have HCL := Lib.hid ((HX1 u).out)
                            go_simp
                            refine (HCL.out).mono ?_
                            rintro _ u' ⟨rfl, rfl⟩
                            exact hK _ _ rfl trivial hS
                          · intro L vs A' u hW hL0 hnd K' hK
                            have hS := hW.wi.s
                            have r140 : A'.tmps[140]? = some (iv D) := by
                              obtain ⟨x, e, h⟩ := hW.tel 15 140 (by decide) (hnd 15 (by kernel_rfl)) rfl
                              rw [e]; exact congrArg some h
                            have r142 : A'.tmps[142]? = some (iv p1) := by
                              obtain ⟨x, e, h⟩ := hW.tel 17 142 (by decide) (hnd 17 (by kernel_rfl)) rfl
                              rw [e]; exact congrArg some h
                            have r135 : A'.tmps[135]? = some (.bool false) := by
                              obtain ⟨x, e, h⟩ := hW.tel 10 135 (by decide) (hnd 10 (by kernel_rfl)) rfl
                              rw [e]; exact congrArg some h
                            rw [if_pos (wanted_yes (j := 10) (s := 135) (b := false) rfl (by kernel_rfl) r135)]
                            go_simp
                            exact hK _ _ (by first | rfl | (show Value.int .i64 _ = Value.int .i64 _; exact congrArg _ (w64k _ (by omega) (by omega)))) trivial hS
                          · intro L vs A' u hW hL0 hnd K' hK
                            have hS := hW.wi.s
                            have r139 : A'.tmps[139]? = some (iv r) := by
                              obtain ⟨x, e, h⟩ := hW.tel 14 139 (by decide) (hnd 14 (by kernel_rfl)) rfl
                              rw [e]; exact congrArg some h
                            have r143 : A'.tmps[143]? = some (iv P1) := by
                              obtain ⟨x, e, h⟩ := hW.tel 18 143 (by decide) (hnd 18 (by kernel_rfl)) rfl
                              rw [e]; exact congrArg some h
                            have r135 : A'.tmps[135]? = some (.bool false) := by
                              obtain ⟨x, e, h⟩ := hW.tel 10 135 (by decide) (hnd 10 (by kernel_rfl)) rfl
                              rw [e]; exact congrArg some h
                            rw [if_pos (wanted_yes (j := 10) (s := 135) (b := false) rfl (by kernel_rfl) r135)]
                            have HCL := Lib.hid ((HN1 u).out)
                            go_simp
                            refine (HCL.out).mono ?_
                            rintro _ u' ⟨rfl, rfl⟩
                            exact hK _ _ rfl trivial hS
                          · intro L vs A' u hW hL0 hnd K' hK
                            have hS := hW.wi.s
                            have r144 : A'.tmps[144]? = some (.bool true) := by
                              obtain ⟨x, e, h⟩ := hW.tel 19 144 (by decide) (hnd 19 (by kernel_rfl)) rfl
                              rw [e]; exact congrArg some h
                            have r135 : A'.tmps[135]? = some (.bool false) := by
                              obtain ⟨x, e, h⟩ := hW.tel 10 135 (by decide) (hnd 10 (by kernel_rfl)) rfl
                              rw [e]; exact congrArg some h
                            rw [if_pos (wanted_yes (j := 10) (s := 135) (b := false) rfl (by kernel_rfl) r135)]
                            go_simp
                            exact hK _ _ (by first | rfl | (show _ = _; simp)) trivial (hS)
                          · intro L vs A' u hW hL0 hnd K' hK
                            have hS := hW.wi.s
                            have r135 : A'.tmps[135]? = some (.bool false) := by
                              obtain ⟨x, e, h⟩ := hW.tel 10 135 (by decide) (hnd 10 (by kernel_rfl)) rfl
                              rw [e]; exact congrArg some h
                            have r145 : A'.tmps[145]? = some (.bool false) := by
                              obtain ⟨x, e, h⟩ := hW.tel 20 145 (by decide) (hnd 20 (by kernel_rfl)) rfl
                              rw [e]; exact congrArg some h
                            go_simp
                            exact hK _ _ (by first | rfl | (show _ = _; simp)) trivial (hS)
                        case doneR =>
                          intro L vs u9 hS hP hall
                          have e0 : vs 0 = .slice (some pd) n c1 := hP 0 (by decide)
                          have e1 : vs 1 = iv i := hP 1 (by decide)
                          have e2 : vs 2 = .pointer (some (pd.add i)) := hP 2 (by decide)
                          have e3 : vs 3 = iv p := hP 3 (by decide)
                          have e4 : vs 4 = iv D := hP 4 (by decide)
                          have e5 : vs 5 = iv m := hP 5 (by decide)
                          have e6 : vs 6 = iv p0 := hP 6 (by decide)
                          have e7 : vs 7 = iv P0 := hP 7 (by decide)
                          have e8 : vs 8 = .bool true := hP 8 (by decide)
                          have e9 : vs 9 = .bool false := hP 9 (by decide)
                          have e10 : vs 10 = .bool false := hP 10 (by decide)
                          have e11 : vs 11 = .slice (some qd) n d1 := hP 11 (by decide)
                          have e12 : vs 12 = iv i := hP 12 (by decide)
                          have e13 : vs 13 = .pointer (some (qd.add i)) := hP 13 (by decide)
                          have e14 : vs 14 = iv r := hP 14 (by decide)
                          have e15 : vs 15 = iv D := hP 15 (by decide)
                          have e16 : vs 16 = iv m := hP 16 (by decide)
                          have e17 : vs 17 = iv p1 := hP 17 (by decide)
                          have e18 : vs 18 = iv P1 := hP 18 (by decide)
                          have e19 : vs 19 = .bool true := hP 19 (by decide)
                          have e20 : vs 20 = .bool false := hP 20 (by decide)
                          have e21 : vs 21 = .bool false := hP 21 (by decide)
                          simp only [putV, List.foldl_cons, List.foldl_nil, List.setIfInBounds_toArray, List.set_cons_zero, List.set_cons_succ, e0, e1, e2, e3, e4, e5, e6, e7, e8, e9, e10, e11, e12, e13, e14, e15, e16, e17, e18, e19, e20, e21]
                          have XO := Lib.hid (OQ.out.trans hS)
                          clear hS e0 e1 e2 e3 e4 e5 e6 e7 e8 e9 e10 e11 e12 e13 e14 e15 e16 e17 e18 e19 e20 e21 hP hall fr_R
                          go_wp2
                          go_roundw
                          case rel => exact ⟨i + 1, hit, by go_num, XO.out⟩
                          case measure => simp [intOf]; omega
                      · have hiti : ¬ (i : Int) < (n : Int) := by omega
                        have HW := Lib.hid (awake9 wr)
                        go_wp2_with fail
                        refine (HW.out).mono ?_
                        rintro e w3 ⟨rfl, o3⟩
                        have HO := Lib.hid ((O1.out.trans OQ.out).trans o3)
                        clear o3 HW
                        go_wp2
                        go_ret
                        exact ⟨rfl, HO.out⟩
                  · have hE : wrE m xs ys = 13 := if_neg hm
                    rw [hE] at HP
                    clear hE hm hMM
                    go_wp2_with fail
                    refine (HP.out).mono ?_
                    rintro e w1 ⟨⟨A1, c1, B1, d1, rfl, i1, i2⟩, o1⟩
                    have O1 := Lib.hid (HA.out.trans o1)
                    have HW := Lib.hid (awake9 w1)
                    clear HP i1 i2 o1
                    go_wp2_with fail
                    refine (HW.out).mono ?_
                    rintro e w3 ⟨rfl, o3⟩
                    have HO := Lib.hid (O1.out.trans o3)
                    clear o3 HW
                    go_wp2
                    go_ret
                    exact ⟨rfl, HO.out⟩
                · have HEX := Lib.hid (extra_any Wa m ((t : Int) - 1))
                  rcases (show t = 0 ∨ t = 1 ∨ t = 2 ∨ t = 3 by omega) with rfl | rfl | rfl | rfl
                  · by_cases h8 : m = 8
                    · subst h8
                      rw [show exV 8 (((0 : Nat) : Int) - 1) = 0 by decide] at HEX
                      go_wp2_with fail
                      refine (HEX.out).mono ?_
                      rintro e w5 ⟨rfl, rfl⟩
                      go_wp2_with fail
                      refine (HEX.out).mono ?_
                      rintro e w5 ⟨rfl, rfl⟩
                      go_wp2
                      go_roundw
                      case rel => exact ⟨1, by omega, by go_num, rfl⟩
                      case measure => simp [intOf]
                    · by_cases h9 : m = 9
                      · subst h9
                        rw [show exV 9 (((0 : Nat) : Int) - 1) = 0 by decide] at HEX
                        go_wp2_with fail
                        refine (HEX.out).mono ?_
                        rintro e w5 ⟨rfl, rfl⟩
                        go_wp2_with fail
                        refine (HEX.out).mono ?_
                        rintro e w5 ⟨rfl, rfl⟩
                        go_wp2
                        go_roundw
                        case rel => exact ⟨1, by omega, by go_num, rfl⟩
                        case measure => simp [intOf]
                      · by_cases h10 : m = 10
                        · subst h10
                          rw [show exV 10 (((0 : Nat) : Int) - 1) = 0 by decide] at HEX
                          go_wp2_with fail
                          refine (HEX.out).mono ?_
                          rintro e w5 ⟨rfl, rfl⟩
                          go_wp2_with fail
                          refine (HEX.out).mono ?_
                          rintro e w5 ⟨rfl, rfl⟩
                          go_wp2
                          go_roundw
                          case rel => exact ⟨1, by omega, by go_num, rfl⟩
                          case measure => simp [intOf]
                        · rw [show exV m (((0 : Nat) : Int) - 1) = 0 from if_neg (by omega)] at HEX
                          go_wp2_with fail
                          refine (HEX.out).mono ?_
                          rintro e w5 ⟨rfl, rfl⟩
                          go_wp2_with fail
                          refine (HEX.out).mono ?_
                          rintro e w5 ⟨rfl, rfl⟩
                          go_wp2
                          go_roundw
                          case rel => exact ⟨1, by omega, by go_num, rfl⟩
                          case measure => simp [intOf]
                  · by_cases h8 : m = 8
                    · subst h8
                      rw [show exV 8 (((1 : Nat) : Int) - 1) = 0 by decide] at HEX
                      go_wp2_with fail
                      refine (HEX.out).mono ?_
                      rintro e w5 ⟨rfl, rfl⟩
                      go_wp2_with fail
                      refine (HEX.out).mono ?_
                      rintro e w5 ⟨rfl, rfl⟩
                      go_wp2
                      go_roundw
                      case rel => exact ⟨2, by omega, by go_num, rfl⟩
                      case measure => simp [intOf]
                    · by_cases h9 : m = 9
                      · subst h9
                        rw [show exV 9 (((1 : Nat) : Int) - 1) = 1 by decide] at HEX
                        go_wp2_with fail
                        refine (HEX.out).mono ?_
                        rintro e w5 ⟨rfl, rfl⟩
                        go_wp2_with fail
                        refine (HEX.out).mono ?_
                        rintro e w5 ⟨rfl, rfl⟩
                        go_wp2
                        go_roundw
                        case rel => exact ⟨2, by omega, by go_num, rfl⟩
                        case measure => simp [intOf]
                      · by_cases h10 : m = 10
                        · subst h10
                          rw [show exV 10 (((1 : Nat) : Int) - 1) = 0 by decide] at HEX
                          go_wp2_with fail
                          refine (HEX.out).mono ?_
                          rintro e w5 ⟨rfl, rfl⟩
                          go_wp2_with fail
                          refine (HEX.out).mono ?_
                          rintro e w5 ⟨rfl, rfl⟩
                          go_wp2
                          go_roundw
                          case rel => exact ⟨2, by omega, by go_num, rfl⟩
                          case measure => simp [intOf]
                        · rw [show exV m (((1 : Nat) : Int) - 1) = 0 from if_neg (by omega)] at HEX
                          go_wp2_with fail
                          refine (HEX.out).mono ?_
                          rintro e w5 ⟨rfl, rfl⟩
                          go_wp2_with fail
                          refine (HEX.out).mono ?_
                          rintro e w5 ⟨rfl, rfl⟩
                          go_wp2
                          go_roundw
                          case rel => exact ⟨2, by omega, by go_num, rfl⟩
                          case measure => simp [intOf]
                  · by_cases h8 : m = 8
                    · subst h8
                      rw [show exV 8 (((2 : Nat) : Int) - 1) = 1 by decide] at HEX
                      go_wp2_with fail
                      refine (HEX.out).mono ?_
                      rintro e w5 ⟨rfl, rfl⟩
                      go_wp2_with fail
                      refine (HEX.out).mono ?_
                      rintro e w5 ⟨rfl, rfl⟩
                      go_wp2
                      go_roundw
                      case rel => exact ⟨3, by omega, by go_num, rfl⟩
                      case measure => simp [intOf]
                    · by_cases h9 : m = 9
                      · subst h9
                        rw [show exV 9 (((2 : Nat) : Int) - 1) = 0 by decide] at HEX
                        go_wp2_with fail
                        refine (HEX.out).mono ?_
                        rintro e w5 ⟨rfl, rfl⟩
                        go_wp2_with fail
                        refine (HEX.out).mono ?_
                        rintro e w5 ⟨rfl, rfl⟩
                        go_wp2
                        go_roundw
                        case rel => exact ⟨3, by omega, by go_num, rfl⟩
                        case measure => simp [intOf]
                      · by_cases h10 : m = 10
                        · subst h10
                          rw [show exV 10 (((2 : Nat) : Int) - 1) = 1 by decide] at HEX
                          go_wp2_with fail
                          refine (HEX.out).mono ?_
                          rintro e w5 ⟨rfl, rfl⟩
                          go_wp2_with fail
                          refine (HEX.out).mono ?_
                          rintro e w5 ⟨rfl, rfl⟩
                          go_wp2
                          go_roundw
                          case rel => exact ⟨3, by omega, by go_num, rfl⟩
                          case measure => simp [intOf]
                        · rw [show exV m (((2 : Nat) : Int) - 1) = 0 from if_neg (by omega)] at HEX
                          go_wp2_with fail
                          refine (HEX.out).mono ?_
                          rintro e w5 ⟨rfl, rfl⟩
                          go_wp2_with fail
                          refine (HEX.out).mono ?_
                          rintro e w5 ⟨rfl, rfl⟩
                          go_wp2
                          go_roundw
                          case rel => exact ⟨3, by omega, by go_num, rfl⟩
                          case measure => simp [intOf]
                  · by_cases h8 : m = 8
                    · subst h8
                      rw [show exV 8 (((3 : Nat) : Int) - 1) = 0 by decide] at HEX
                      go_wp2_with fail
                      refine (HEX.out).mono ?_
                      rintro e w5 ⟨rfl, rfl⟩
                      go_wp2_with fail
                      refine (HEX.out).mono ?_
                      rintro e w5 ⟨rfl, rfl⟩
                      go_wp2
                      go_roundw
                      case rel => exact ⟨4, by omega, by go_num, rfl⟩
                      case measure => simp [intOf]
                    · by_cases h9 : m = 9
                      · subst h9
                        rw [show exV 9 (((3 : Nat) : Int) - 1) = 0 by decide] at HEX
                        go_wp2_with fail
                        refine (HEX.out).mono ?_
                        rintro e w5 ⟨rfl, rfl⟩
                        go_wp2_with fail
                        refine (HEX.out).mono ?_
                        rintro e w5 ⟨rfl, rfl⟩
                        go_wp2
                        go_roundw
                        case rel => exact ⟨4, by omega, by go_num, rfl⟩
                        case measure => simp [intOf]
                      · by_cases h10 : m = 10
                        · subst h10
                          rw [show exV 10 (((3 : Nat) : Int) - 1) = 0 by decide] at HEX
                          go_wp2_with fail
                          refine (HEX.out).mono ?_
                          rintro e w5 ⟨rfl, rfl⟩
                          go_wp2_with fail
                          refine (HEX.out).mono ?_
                          rintro e w5 ⟨rfl, rfl⟩
                          go_wp2
                          go_roundw
                          case rel => exact ⟨4, by omega, by go_num, rfl⟩
                          case measure => simp [intOf]
                        · rw [show exV m (((3 : Nat) : Int) - 1) = 0 from if_neg (by omega)] at HEX
                          go_wp2_with fail
                          refine (HEX.out).mono ?_
                          rintro e w5 ⟨rfl, rfl⟩
                          go_wp2_with fail
                          refine (HEX.out).mono ?_
                          rintro e w5 ⟨rfl, rfl⟩
                          go_wp2
                          go_roundw
                          case rel => exact ⟨4, by omega, by go_num, rfl⟩
                          case measure => simp [intOf]
    · have g2i : ¬ (n : Int) = (k : Int) := by omega
      have HW := Lib.hid (awake9 Wa)
      go_enter Try.func4, Try.ntmps4
      go_wp2_with fail
      refine (HW.out).mono ?_
      rintro e w1 ⟨rfl, o1⟩
      have HO := Lib.hid (HA.out.trans o1)
      clear o1 HW
      go_wp2
      go_ret
      exact ⟨rfl, HO.out⟩
end Go.Proofs.Ytmnogedkinhljaa
