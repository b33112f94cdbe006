/-
  Which header a block has, and how many channels a mode has: the walk.
-/
import Derived.Test.YteahiigfclabfaaDoorHMK
namespace Go.Proofs.YteahiigfclabfaaDoor.H
open Go.RowKit

set_option maxRecDepth 100000 in
set_option maxHeartbeats 16000000 in
theorem makes_walk {w : World} (hL : LaidH w) (V : Bool) (num blk mo rate ch dep : Int) (i1 : I64 blk) (i2 : I64 rate) (i3 : I64 dep) (i4 : I64 mo) :
    Calls Tryd.prog 6 #[.bool V, .agg #[iv num, iv blk, iv mo], .agg #[iv rate, iv ch, iv dep]] w fun x w' => x = .returned (.bool true) ∧ Only Nix w w' := by
  have HAw : Hid (∀ u, Only Nix w u → Calls Tryd.prog 12 #[] u fun e w' => e = .returned (.bool true) ∧ Only Nix u w') := Lib.hid (fun u hu => awake_any (hL.nix hu))
  have HMk : Hid (∀ u, Only Nix w u → Calls Tryd.prog 16 #[.bool V, iv num, iv blk, iv mo, .agg #[iv rate, iv ch, iv dep]] u fun x w' => x = .returned (.tuple #[.agg (hc (mkA V num blk mo rate ch dep)), iv (mkE V num blk mo rate ch dep)]) ∧ Only Nix u w') := Lib.hid (fun u hu => make_any (hL.nix hu) V num blk mo rate ch dep i1 i2 i3)
  have HRm : Hid (∀ u, Calls Tryd.prog 17 #[.bool V, iv num, iv blk, iv mo, .agg #[iv rate, iv ch, iv dep]] u fun x w' => x = .returned (.tuple #[.agg (hc (rmA V num blk mo rate ch dep)), iv (rmE blk mo rate ch dep)]) ∧ Only Nix u w') := Lib.hid (fun u => rmake_any V num blk mo rate ch dep u)
  have HCh : Hid (∀ u, Only Nix w u → Calls Tryd.prog 18 #[iv mo] u fun x w' => x = .returned (.tuple #[iv (chN mo), iv (chE mo)]) ∧ u = w') := Lib.hid (fun u hu => channels_any (hL.nix hu) mo)
  have HCk : Hid (∀ (h : Hd) u, Calls Tryd.prog 8 #[.agg (hc h)] u fun e w' => e = .returned (iv (ckE h)) ∧ Only Nix u w') := Lib.hid (fun h u => by
    have := rcheck_raw h u
    rw [rck_ck] at this
    exact this)
  have HPl : Hid (∀ (h : Hd) u, Calls Tryd.prog 9 #[.agg (hc h)] u fun e w' => e = .returned (.agg (hc h)) ∧ Only Nix u w') := Lib.hid (fun h u => plain_any h u)
  have HM := Lib.hid (makes_ok V num blk mo rate ch dep)
  have HA : Hid (mkA V num blk mo rate ch dep = if mkE V num blk mo rate ch dep = 0 then mkH V num blk mo rate dep else hd0) := Lib.hid rfl
  have HRA : Hid (rmA V num blk mo rate ch dep = if rmE blk mo rate ch dep = 0 then rmH V num blk mo rate dep else hd0) := Lib.hid rfl
  generalize mkA V num blk mo rate ch dep = AA at *
  generalize mkE V num blk mo rate ch dep = E at *
  generalize mkH V num blk mo rate dep = XH at *
  generalize rmA V num blk mo rate ch dep = RA at *
  generalize rmE blk mo rate ch dep = RE at *
  generalize rmH V num blk mo rate dep = RH at *
  have HN : Hid (if mo < 0 ∨ 10 < mo then chN mo = 0 ∧ chE mo = 13 else chE mo = 0 ∧ chN mo = if mo < 8 then mo + 1 else 2) := Lib.hid (by
    split
    · rename_i h
      exact ⟨if_pos (by omega), if_pos (by omega)⟩
    · rename_i h
      exact ⟨(chE_zero mo).2 (by omega), chN_is mo (by omega) (by omega)⟩)
  generalize chN mo = CN at *
  generalize chE mo = CE at *
  clear i1 i2 i3 hL
  have HI4 := Lib.hid i4
  clear i4
  have h1 := Box.new w 40 #[iv num, iv blk, iv mo]
  have o1 := (Only.refl Nix w).alloc (.cells #[iv num, iv blk, iv mo] 40)
  have hs1 : (w.alloc (.cells #[iv num, iv blk, iv mo] 40)).heap.size = w.heap.size + 1 := by simp
  generalize hWa : w.alloc (.cells #[iv num, iv blk, iv mo] 40) = Wa at *
  have h2 := Box.new Wa 42 #[iv rate, iv ch, iv dep]
  have o2 := (Only.refl Nix Wa).alloc (.cells #[iv rate, iv ch, iv dep] 42)
  have h1' := h1.alloc (.cells #[iv rate, iv ch, iv dep] 42)
  rw [hs1] at h2
  generalize hWb : Wa.alloc (.cells #[iv rate, iv ch, iv dep] 42) = W0 at *
  have B1 := Lib.hid h1'
  have B2 := Lib.hid h2
  have O0 := Lib.hid (o1.trans o2)
  have HQ : Hid (∀ x, Only Nix W0 x → x.cell? ⟨w.heap.size, 0, none⟩ = some (iv num) ∧ x.cell? ⟨w.heap.size, 1, none⟩ = some (iv blk) ∧ x.cell? ⟨w.heap.size, 2, none⟩ = some (iv mo) ∧ x.cell? ⟨w.heap.size + 1, 0, none⟩ = some (iv rate) ∧ x.cell? ⟨w.heap.size + 1, 1, none⟩ = some (iv ch) ∧ x.cell? ⟨w.heap.size + 1, 2, none⟩ = some (iv dep)) := Lib.hid (fun x hx => by
    have b1 := B1.out.only hx (fun e => e)
    have b2 := B2.out.only hx (fun e => e)
    exact ⟨b1.cell 0, b1.cell 1, b1.cell 2, b2.cell 0, b2.cell 1, b2.cell 2⟩)
  clear h1 o1 h2 o2 h1' B1 B2
  obtain ⟨q0, q1, q2, q3, q4, q5⟩ := HQ.out W0 (Only.refl Nix W0)
  have P0 := Lib.hid (Only.refl Nix W0)
  have M1 := Lib.hid (HMk.out W0 O0.out)
  go_enter Tryd.func6, Tryd.ntmps6
  go_wp2_with fail
  refine (M1.out).mono ?_
  rintro _ u1 ⟨rfl, ho⟩
  have P1 := Lib.hid ho
  have BH := Lib.hid (Box.new u1 23 (hc hd0))
  clear ho M1 q0 q1 q2 q3 q4 q5
  go_wp2_with (refine wpList_store_row rfl 23 (.tmp 7) (.tmp 23) rfl rfl u1.heap.size 23 (hc hd0) (hc AA) rfl rfl BH.out Tryd.size_header rfl (hc_one _) ?st)
  case st =>
    intro u2 hbz hoz
    have BA := Lib.hid hbz
    have P2 : Hid (Only Nix W0 u2) := Lib.hid ((P1.out.alloc (.cells (hc hd0) 23)).then hoz (fun i e => .inr (by rw [show i = u1.heap.size from e]; exact P1.out.size)))
    obtain ⟨q0, q1, q2, q3, q4, q5⟩ := HQ.out u2 P2.out
    have M2 := Lib.hid (HRm.out u2)
    clear hbz hoz BH
    go_wp2_with fail
    refine (M2.out).mono ?_
    rintro _ u3 ⟨rfl, ho⟩
    have P3 := Lib.hid (P2.out.trans ho)
    have BA3 := Lib.hid (BA.out.only ho (fun e => e))
    have BR := Lib.hid (Box.new u3 26 (hc hd0))
    have hlt3 : u1.heap.size < u3.heap.size := BA3.out.lt
    clear ho M2 q0 q1 q2 q3 q4 q5 BA
    go_wp2_with (refine wpList_store_row rfl 26 (.tmp 9) (.tmp 35) rfl rfl u3.heap.size 26 (hc hd0) (hc RA) rfl rfl BR.out Tryd.size_ref rfl (hc_one _) ?st2)
    case st2 =>
      intro u4 hbz hoz
      have BRA := Lib.hid hbz
      have BAA := Lib.hid ((BA3.out.alloc (.cells (hc hd0) 26)).only hoz (fun e => by have e2 : u1.heap.size = u3.heap.size := e; omega))
      have P4 : Hid (Only Nix W0 u4) := Lib.hid ((P3.out.alloc (.cells (hc hd0) 26)).then hoz (fun i e => .inr (by rw [show i = u3.heap.size from e]; exact P3.out.size)))
      obtain ⟨_, _, q2, _, _, _⟩ := HQ.out u4 P4.out
      have M3 := Lib.hid (HCh.out u4 (O0.out.trans P4.out))
      clear hbz hoz BR BA3
      go_wp2_with fail
      refine (M3.out).mono ?_
      rintro _ _ ⟨rfl, rfl⟩
      clear M3
      rcases (show mo < 0 ∨ 10 < mo ∨ mo = 1 ∨ (0 ≤ mo ∧ mo < 8 ∧ mo ≠ 1) ∨ (8 ≤ mo ∧ mo ≤ 10) by omega) with m1 | m1 | rfl | ⟨m1, m2, m3⟩ | ⟨m1, m2⟩
      · have hn := HN.out
        rw [if_pos (.inl m1)] at hn
        obtain ⟨rfl, rfl⟩ := hn
        clear HN HCh
        by_cases hR : RE = 0
        · obtain ⟨hE, hX⟩ := HM.out.2 hR
          have hRA : RA = RH := by rw [HRA.out, if_pos hR]
          have hAA := HA.out
          subst hR hX hRA
          have M4 := Lib.hid (HCk.out RA u4)
          rw [← hE] at M4
          have HAA := Lib.hid hAA
          clear hE hAA HM HRA HA
          go_wp2_with (refine wpList_load_row rfl 26 (.tmp 9) rfl u3.heap.size rfl 26 (hc RA) (0, 0) _ BRA.out Tryd.underlying26 rfl Tryd.size_ref ?_)
          refine (M4.out).mono ?_
          rintro _ u5 ⟨rfl, ho⟩
          have P5 := Lib.hid (P4.out.trans ho)
          have BAA5 := Lib.hid (BAA.out.only ho (fun e => e))
          have BRA5 := Lib.hid (BRA.out.only ho (fun e => e))
          clear ho M4 BAA BRA
          by_cases hE : E = 0
          · have hA2 : AA = RA := by rw [HAA.out, if_pos hE]
            subst hE
            subst hA2
            have hq1 := run_eql_rf AA
            have hq2 := guard_rf
            go_wp2
            have fr_Z1 : ∀ j s, j < 12 → (([some 97, some 98, some 99, some 100, some 101, some 102, some 103, some 104, some 105, some 106, some 107, some 6] : List (Option Nat)).all fun d => d != some s) = true → ([some 97, some 98, some 99, some 100, some 101, some 102, some 103, some 104, some 105, some 106, some 107, some 6] : List (Option Nat)).getD j none ≠ some s := by
              intro j s hj ha e
              rw [List.getD_eq_getElem?_getD, List.getElem?_eq_getElem (by exact hj), Option.getD_some] at e
              have := List.all_eq_true.1 ha _ (List.getElem_mem (by exact hj))
              rw [e] at this
              simp at this
            refine region_tel (by kernel_rfl) (fun k0 => ([some 97, some 98, some 99, some 100, some 101, some 102, some 103, some 104, some 105, some 106, some 107, some 6] : List (Option Nat)).getD k0 none) (PL [eqP (.agg (hc AA)), eqP (.agg (hc AA)), eqP (.agg (hc AA)), eqP (.bool true), eqP (.bool true), eqP (iv 0), eqP (.bool true), eqP (.bool true), eqP (.bool true), eqP (.bool true), eqP (.bool true), eqP (.bool true)]) (fun u u' => Only Nix u u') (fun _ u => Only Nix (u5) u) 108 12 rfl (by kernel_rfl) (by kernel_rfl) rfl (by kernel_rfl) (by kernel_rfl) (stab_all ⟨fun _ _ _ h _ => h, fun _ _ _ h _ => h, fun _ _ _ h _ => h, fun _ _ _ h _ => h, fun _ _ _ h _ => h, fun _ _ _ h _ => h, fun _ _ _ h _ => h, fun _ _ _ h _ => h, fun _ _ _ h _ => h, fun _ _ _ h _ => h, fun _ _ _ h _ => h, fun _ _ _ h _ => h, trivial⟩) ((Only.refl _ _).drew) ?stepsZ1 (fun vs => [(97, vs 0), (98, vs 1), (99, vs 2), (100, vs 3), (101, vs 4), (102, vs 5), (103, vs 6), (104, vs 7), (105, vs 8), (106, vs 9), (107, vs 10), (6, vs 11)]) (fun vs => rfl) ?doneZ1
            case stepsZ1 =>
              refine ⟨?_, ?_, ?_, ?_, ?_, ?_, ?_, ?_, ?_, ?_, ?_, ?_, trivial⟩
              · intro L vs A' u hW hL0 hnd K' hK
                have hS := hW.wi.s
                have r7 : A'.tmps[7]? = some (.pointer (some ⟨u1.heap.size, 0, none⟩)) := (hW.out 7 (fun j hj => fr_Z1 j 7 hj (by kernel_rfl))).trans rfl
                have hb6 := BAA5.out.only hS (fun e => e)
                refine wp_load_row 23 (.tmp 7) rfl u1.heap.size (eval_tmp r7) 23 _ (0, 0) _ hb6 Tryd.underlying23 rfl Tryd.size_header ?_
                exact hK _ _ rfl (Only.refl _ _) hS
              · intro L vs A' u hW hL0 hnd K' hK
                have hS := hW.wi.s
                have r97 : A'.tmps[97]? = some (.agg (hc AA)) := by
                  obtain ⟨x, e, h⟩ := hW.tel 0 97 (by decide) (hnd 0 (by kernel_rfl)) rfl
                  rw [e]; exact congrArg some h
                have HCL := Lib.hid (HPl.out AA u)
                go_simp
                refine (HCL.out).mono ?_
                rintro _ u' ⟨rfl, ho'⟩
                exact hK _ _ (rfl) ho' (hS.trans ho')
              · intro L vs A' u hW hL0 hnd K' hK
                have hS := hW.wi.s
                have r9 : A'.tmps[9]? = some (.pointer (some ⟨u3.heap.size, 0, none⟩)) := (hW.out 9 (fun j hj => fr_Z1 j 9 hj (by kernel_rfl))).trans rfl
                have hb6 := BRA5.out.only hS (fun e => e)
                refine wp_load_row 26 (.tmp 9) rfl u3.heap.size (eval_tmp r9) 26 _ (0, 0) _ hb6 Tryd.underlying26 rfl Tryd.size_ref ?_
                exact hK _ _ rfl (Only.refl _ _) hS
              · intro L vs A' u hW hL0 hnd K' hK
                have hS := hW.wi.s
                have r98 : A'.tmps[98]? = some (.agg (hc AA)) := by
                  obtain ⟨x, e, h⟩ := hW.tel 1 98 (by decide) (hnd 1 (by kernel_rfl)) rfl
                  rw [e]; exact congrArg some h
                have r99 : A'.tmps[99]? = some (.agg (hc AA)) := by
                  obtain ⟨x, e, h⟩ := hW.tel 2 99 (by decide) (hnd 2 (by kernel_rfl)) rfl
                  rw [e]; exact congrArg some h
                go_simp
                exact hK _ _ ((by first | rfl | (show _ = _; simp; omega) | (show _ = _; simp))) (Only.refl _ _) hS
              · intro L vs A' u hW hL0 hnd K' hK
                have hS := hW.wi.s
                have r100 : A'.tmps[100]? = some (.bool true) := by
                  obtain ⟨x, e, h⟩ := hW.tel 3 100 (by decide) (hnd 3 (by kernel_rfl)) rfl
                  rw [e]; exact congrArg some h
                go_simp
                exact hK _ _ (by first | rfl | (show _ = _; simp)) (Only.refl _ _) hS
              · intro L vs A' u hW hL0 hnd K' hK
                have hS := hW.wi.s
                have r8 : A'.tmps[8]? = some (iv 0) := (hW.out 8 (fun j hj => fr_Z1 j 8 hj (by kernel_rfl))).trans rfl
                have r101 : A'.tmps[101]? = some (.bool true) := by
                  obtain ⟨x, e, h⟩ := hW.tel 4 101 (by decide) (hnd 4 (by kernel_rfl)) rfl
                  rw [e]; exact congrArg some h
                rw [if_pos (wanted_yes (j := 4) (s := 101) (b := true) rfl (by kernel_rfl) r101)]
                go_simp
                exact hK _ _ (by first | rfl | (show _ = _; simp)) (Only.refl _ _) hS
              · intro L vs A' u hW hL0 hnd K' hK
                have hS := hW.wi.s
                have r102 : A'.tmps[102]? = some (iv 0) := by
                  obtain ⟨x, e, h⟩ := hW.tel 5 102 (by decide) (hnd 5 (by kernel_rfl)) rfl
                  rw [e]; exact congrArg some h
                have r101 : A'.tmps[101]? = some (.bool true) := by
                  obtain ⟨x, e, h⟩ := hW.tel 4 101 (by decide) (hnd 4 (by kernel_rfl)) rfl
                  rw [e]; exact congrArg some h
                rw [if_pos (wanted_yes (j := 4) (s := 101) (b := true) rfl (by kernel_rfl) r101)]
                go_simp
                exact hK _ _ ((by first | rfl | (show _ = _; simp; omega) | (show _ = _; simp))) (Only.refl _ _) hS
              · intro L vs A' u hW hL0 hnd K' hK
                have hS := hW.wi.s
                have r101 : A'.tmps[101]? = some (.bool true) := by
                  obtain ⟨x, e, h⟩ := hW.tel 4 101 (by decide) (hnd 4 (by kernel_rfl)) rfl
                  rw [e]; exact congrArg some h
                have r103 : A'.tmps[103]? = some (.bool true) := by
                  obtain ⟨x, e, h⟩ := hW.tel 6 103 (by decide) (hnd 6 (by kernel_rfl)) rfl
                  rw [e]; exact congrArg some h
                go_simp
                exact hK _ _ (by first | rfl | (show _ = _; simp)) (Only.refl _ _) hS
              · intro L vs A' u hW hL0 hnd K' hK
                have hS := hW.wi.s
                have r104 : A'.tmps[104]? = some (.bool true) := by
                  obtain ⟨x, e, h⟩ := hW.tel 7 104 (by decide) (hnd 7 (by kernel_rfl)) rfl
                  rw [e]; exact congrArg some h
                go_simp
                exact hK _ _ (by first | rfl | (show _ = _; simp)) (Only.refl _ _) hS
              · intro L vs A' u hW hL0 hnd K' hK
                have hS := hW.wi.s
                have r105 : A'.tmps[105]? = some (.bool true) := by
                  obtain ⟨x, e, h⟩ := hW.tel 8 105 (by decide) (hnd 8 (by kernel_rfl)) rfl
                  rw [e]; exact congrArg some h
                rw [if_pos (wanted_yes (j := 8) (s := 105) (b := true) rfl (by kernel_rfl) r105)]
                have HCL := Lib.hid (HAw.out u (O0.out.trans (P5.out.trans hS)))
                go_simp
                refine (HCL.out).mono ?_
                rintro _ u' ⟨rfl, ho'⟩
                exact hK _ _ (rfl) ho' (hS.trans ho')
              · intro L vs A' u hW hL0 hnd K' hK
                have hS := hW.wi.s
                have r105 : A'.tmps[105]? = some (.bool true) := by
                  obtain ⟨x, e, h⟩ := hW.tel 8 105 (by decide) (hnd 8 (by kernel_rfl)) rfl
                  rw [e]; exact congrArg some h
                have r106 : A'.tmps[106]? = some (.bool true) := by
                  obtain ⟨x, e, h⟩ := hW.tel 9 106 (by decide) (hnd 9 (by kernel_rfl)) rfl
                  rw [e]; exact congrArg some h
                go_simp
                exact hK _ _ (by first | rfl | (show _ = _; simp)) (Only.refl _ _) hS
              · intro L vs A' u hW hL0 hnd K' hK
                have hS := hW.wi.s
                have r107 : A'.tmps[107]? = some (.bool true) := by
                  obtain ⟨x, e, h⟩ := hW.tel 10 107 (by decide) (hnd 10 (by kernel_rfl)) rfl
                  rw [e]; exact congrArg some h
                go_simp
                exact hK _ _ (by first | rfl | (show _ = _; simp)) (Only.refl _ _) hS
            case doneZ1 =>
              intro L vs u6 hS hP hall
              have e11 : vs 11 = .bool true := hP 11 (by decide)
              have P6 := Lib.hid (O0.out.trans (P5.out.trans hS))
              clear hS hP hall fr_Z1 hq1 hq2
              simp only [putV, List.foldl_cons, List.foldl_nil, List.setIfInBounds_toArray, List.set_cons_zero, List.set_cons_succ]
              rw [e11]
              go_wp2
              go_ret
              exact ⟨rfl, P6.out⟩
          · have hA2 : AA = hd0 := by rw [HAA.out, if_neg hE]
            subst hA2
            have hq1 : ∀ w, (binOp .eql 23 (.agg (hc hd0)) (.agg #[.bool false, .int .i64 0, .int .i64 0, .int .i64 0, .int .i64 0, .int .i64 0, .int .i64 0, .int .i64 0, .int .i64 0])).run Tryd.prog w = .ok (.bool true) w := run_eql_hd hd0
            have hq2 := guard_hd
            have M6 := Lib.hid (HAw.out u5 (O0.out.trans P5.out))
            go_wp2_with (refine wpList_load_row rfl 23 (.tmp 7) rfl u1.heap.size rfl 23 (hc hd0) (0, 0) _ BAA5.out Tryd.underlying23 rfl Tryd.size_header ?_)
            refine (M6.out).mono ?_
            rintro _ u6 ⟨rfl, ho⟩
            have P6 := Lib.hid (O0.out.trans (P5.out.trans ho))
            clear ho hq1 hq2
            go_wp2
            go_ret
            exact ⟨rfl, P6.out⟩
        · have hE := HM.out.1 hR
          have hA2 : AA = hd0 := by rw [HA.out, if_neg (by rw [hE]; exact hR)]
          subst hE hA2
          have hq1 : ∀ w, (binOp .eql 23 (.agg (hc hd0)) (.agg #[.bool false, .int .i64 0, .int .i64 0, .int .i64 0, .int .i64 0, .int .i64 0, .int .i64 0, .int .i64 0, .int .i64 0])).run Tryd.prog w = .ok (.bool true) w := run_eql_hd hd0
          have hq2 := guard_hd
          have M6 := Lib.hid (HAw.out u4 (O0.out.trans P4.out))
          clear HM HA HRA
          go_wp2_with (refine wpList_load_row rfl 23 (.tmp 7) rfl u1.heap.size rfl 23 (hc hd0) (0, 0) _ BAA.out Tryd.underlying23 rfl Tryd.size_header ?_)
          refine (M6.out).mono ?_
          rintro _ u6 ⟨rfl, ho⟩
          have P6 := Lib.hid (O0.out.trans (P4.out.trans ho))
          clear ho hq1 hq2
          go_wp2
          go_ret
          exact ⟨rfl, P6.out⟩
      · have hn := HN.out
        rw [if_pos (.inr m1)] at hn
        obtain ⟨rfl, rfl⟩ := hn
        clear HN HCh
        by_cases hR : RE = 0
        · obtain ⟨hE, hX⟩ := HM.out.2 hR
          have hRA : RA = RH := by rw [HRA.out, if_pos hR]
          have hAA := HA.out
          subst hR hX hRA
          have M4 := Lib.hid (HCk.out RA u4)
          rw [← hE] at M4
          have HAA := Lib.hid hAA
          clear hE hAA HM HRA HA
          go_wp2_with (refine wpList_load_row rfl 26 (.tmp 9) rfl u3.heap.size rfl 26 (hc RA) (0, 0) _ BRA.out Tryd.underlying26 rfl Tryd.size_ref ?_)
          refine (M4.out).mono ?_
          rintro _ u5 ⟨rfl, ho⟩
          have P5 := Lib.hid (P4.out.trans ho)
          have BAA5 := Lib.hid (BAA.out.only ho (fun e => e))
          have BRA5 := Lib.hid (BRA.out.only ho (fun e => e))
          clear ho M4 BAA BRA
          by_cases hE : E = 0
          · have hA2 : AA = RA := by rw [HAA.out, if_pos hE]
            subst hE
            subst hA2
            have hq1 := run_eql_rf AA
            have hq2 := guard_rf
            go_wp2
            have fr_Z2 : ∀ j s, j < 12 → (([some 97, some 98, some 99, some 100, some 101, some 102, some 103, some 104, some 105, some 106, some 107, some 6] : List (Option Nat)).all fun d => d != some s) = true → ([some 97, some 98, some 99, some 100, some 101, some 102, some 103, some 104, some 105, some 106, some 107, some 6] : List (Option Nat)).getD j none ≠ some s := by
              intro j s hj ha e
              rw [List.getD_eq_getElem?_getD, List.getElem?_eq_getElem (by exact hj), Option.getD_some] at e
              have := List.all_eq_true.1 ha _ (List.getElem_mem (by exact hj))
              rw [e] at this
              simp at this
            refine region_tel (by kernel_rfl) (fun k0 => ([some 97, some 98, some 99, some 100, some 101, some 102, some 103, some 104, some 105, some 106, some 107, some 6] : List (Option Nat)).getD k0 none) (PL [eqP (.agg (hc AA)), eqP (.agg (hc AA)), eqP (.agg (hc AA)), eqP (.bool true), eqP (.bool true), eqP (iv 0), eqP (.bool true), eqP (.bool true), eqP (.bool true), eqP (.bool true), eqP (.bool true), eqP (.bool true)]) (fun u u' => Only Nix u u') (fun _ u => Only Nix (u5) u) 108 12 rfl (by kernel_rfl) (by kernel_rfl) rfl (by kernel_rfl) (by kernel_rfl) (stab_all ⟨fun _ _ _ h _ => h, fun _ _ _ h _ => h, fun _ _ _ h _ => h, fun _ _ _ h _ => h, fun _ _ _ h _ => h, fun _ _ _ h _ => h, fun _ _ _ h _ => h, fun _ _ _ h _ => h, fun _ _ _ h _ => h, fun _ _ _ h _ => h, fun _ _ _ h _ => h, fun _ _ _ h _ => h, trivial⟩) ((Only.refl _ _).drew) ?stepsZ2 (fun vs => [(97, vs 0), (98, vs 1), (99, vs 2), (100, vs 3), (101, vs 4), (102, vs 5), (103, vs 6), (104, vs 7), (105, vs 8), (106, vs 9), (107, vs 10), (6, vs 11)]) (fun vs => rfl) ?doneZ2
            case stepsZ2 =>
              refine ⟨?_, ?_, ?_, ?_, ?_, ?_, ?_, ?_, ?_, ?_, ?_, ?_, trivial⟩
              · intro L vs A' u hW hL0 hnd K' hK
                have hS := hW.wi.s
                have r7 : A'.tmps[7]? = some (.pointer (some ⟨u1.heap.size, 0, none⟩)) := (hW.out 7 (fun j hj => fr_Z2 j 7 hj (by kernel_rfl))).trans rfl
                have hb6 := BAA5.out.only hS (fun e => e)
                refine wp_load_row 23 (.tmp 7) rfl u1.heap.size (eval_tmp r7) 23 _ (0, 0) _ hb6 Tryd.underlying23 rfl Tryd.size_header ?_
                exact hK _ _ rfl (Only.refl _ _) hS
              · intro L vs A' u hW hL0 hnd K' hK
                have hS := hW.wi.s
                have r97 : A'.tmps[97]? = some (.agg (hc AA)) := by
                  obtain ⟨x, e, h⟩ := hW.tel 0 97 (by decide) (hnd 0 (by kernel_rfl)) rfl
                  rw [e]; exact congrArg some h
                have HCL := Lib.hid (HPl.out AA u)
                go_simp
                refine (HCL.out).mono ?_
                rintro _ u' ⟨rfl, ho'⟩
                exact hK _ _ (rfl) ho' (hS.trans ho')
              · intro L vs A' u hW hL0 hnd K' hK
                have hS := hW.wi.s
                have r9 : A'.tmps[9]? = some (.pointer (some ⟨u3.heap.size, 0, none⟩)) := (hW.out 9 (fun j hj => fr_Z2 j 9 hj (by kernel_rfl))).trans rfl
                have hb6 := BRA5.out.only hS (fun e => e)
                refine wp_load_row 26 (.tmp 9) rfl u3.heap.size (eval_tmp r9) 26 _ (0, 0) _ hb6 Tryd.underlying26 rfl Tryd.size_ref ?_
                exact hK _ _ rfl (Only.refl _ _) hS
              · intro L vs A' u hW hL0 hnd K' hK
                have hS := hW.wi.s
                have r98 : A'.tmps[98]? = some (.agg (hc AA)) := by
                  obtain ⟨x, e, h⟩ := hW.tel 1 98 (by decide) (hnd 1 (by kernel_rfl)) rfl
                  rw [e]; exact congrArg some h
                have r99 : A'.tmps[99]? = some (.agg (hc AA)) := by
                  obtain ⟨x, e, h⟩ := hW.tel 2 99 (by decide) (hnd 2 (by kernel_rfl)) rfl
                  rw [e]; exact congrArg some h
                go_simp
                exact hK _ _ ((by first | rfl | (show _ = _; simp; omega) | (show _ = _; simp))) (Only.refl _ _) hS
              · intro L vs A' u hW hL0 hnd K' hK
                have hS := hW.wi.s
                have r100 : A'.tmps[100]? = some (.bool true) := by
                  obtain ⟨x, e, h⟩ := hW.tel 3 100 (by decide) (hnd 3 (by kernel_rfl)) rfl
                  rw [e]; exact congrArg some h
                go_simp
                exact hK _ _ (by first | rfl | (show _ = _; simp)) (Only.refl _ _) hS
              · intro L vs A' u hW hL0 hnd K' hK
                have hS := hW.wi.s
                have r8 : A'.tmps[8]? = some (iv 0) := (hW.out 8 (fun j hj => fr_Z2 j 8 hj (by kernel_rfl))).trans rfl
                have r101 : A'.tmps[101]? = some (.bool true) := by
                  obtain ⟨x, e, h⟩ := hW.tel 4 101 (by decide) (hnd 4 (by kernel_rfl)) rfl
                  rw [e]; exact congrArg some h
                rw [if_pos (wanted_yes (j := 4) (s := 101) (b := true) rfl (by kernel_rfl) r101)]
                go_simp
                exact hK _ _ (by first | rfl | (show _ = _; simp)) (Only.refl _ _) hS
              · intro L vs A' u hW hL0 hnd K' hK
                have hS := hW.wi.s
                have r102 : A'.tmps[102]? = some (iv 0) := by
                  obtain ⟨x, e, h⟩ := hW.tel 5 102 (by decide) (hnd 5 (by kernel_rfl)) rfl
                  rw [e]; exact congrArg some h
                have r101 : A'.tmps[101]? = some (.bool true) := by
                  obtain ⟨x, e, h⟩ := hW.tel 4 101 (by decide) (hnd 4 (by kernel_rfl)) rfl
                  rw [e]; exact congrArg some h
                rw [if_pos (wanted_yes (j := 4) (s := 101) (b := true) rfl (by kernel_rfl) r101)]
                go_simp
                exact hK _ _ ((by first | rfl | (show _ = _; simp; omega) | (show _ = _; simp))) (Only.refl _ _) hS
              · intro L vs A' u hW hL0 hnd K' hK
                have hS := hW.wi.s
                have r101 : A'.tmps[101]? = some (.bool true) := by
                  obtain ⟨x, e, h⟩ := hW.tel 4 101 (by decide) (hnd 4 (by kernel_rfl)) rfl
                  rw [e]; exact congrArg some h
                have r103 : A'.tmps[103]? = some (.bool true) := by
                  obtain ⟨x, e, h⟩ := hW.tel 6 103 (by decide) (hnd 6 (by kernel_rfl)) rfl
                  rw [e]; exact congrArg some h
                go_simp
                exact hK _ _ (by first | rfl | (show _ = _; simp)) (Only.refl _ _) hS
              · intro L vs A' u hW hL0 hnd K' hK
                have hS := hW.wi.s
                have r104 : A'.tmps[104]? = some (.bool true) := by
                  obtain ⟨x, e, h⟩ := hW.tel 7 104 (by decide) (hnd 7 (by kernel_rfl)) rfl
                  rw [e]; exact congrArg some h
                go_simp
                exact hK _ _ (by first | rfl | (show _ = _; simp)) (Only.refl _ _) hS
              · intro L vs A' u hW hL0 hnd K' hK
                have hS := hW.wi.s
                have r105 : A'.tmps[105]? = some (.bool true) := by
                  obtain ⟨x, e, h⟩ := hW.tel 8 105 (by decide) (hnd 8 (by kernel_rfl)) rfl
                  rw [e]; exact congrArg some h
                rw [if_pos (wanted_yes (j := 8) (s := 105) (b := true) rfl (by kernel_rfl) r105)]
                have HCL := Lib.hid (HAw.out u (O0.out.trans (P5.out.trans hS)))
                go_simp
                refine (HCL.out).mono ?_
                rintro _ u' ⟨rfl, ho'⟩
                exact hK _ _ (rfl) ho' (hS.trans ho')
              · intro L vs A' u hW hL0 hnd K' hK
                have hS := hW.wi.s
                have r105 : A'.tmps[105]? = some (.bool true) := by
                  obtain ⟨x, e, h⟩ := hW.tel 8 105 (by decide) (hnd 8 (by kernel_rfl)) rfl
                  rw [e]; exact congrArg some h
                have r106 : A'.tmps[106]? = some (.bool true) := by
                  obtain ⟨x, e, h⟩ := hW.tel 9 106 (by decide) (hnd 9 (by kernel_rfl)) rfl
                  rw [e]; exact congrArg some h
                go_simp
                exact hK _ _ (by first | rfl | (show _ = _; simp)) (Only.refl _ _) hS
              · intro L vs A' u hW hL0 hnd K' hK
                have hS := hW.wi.s
                have r107 : A'.tmps[107]? = some (.bool true) := by
                  obtain ⟨x, e, h⟩ := hW.tel 10 107 (by decide) (hnd 10 (by kernel_rfl)) rfl
                  rw [e]; exact congrArg some h
                go_simp
                exact hK _ _ (by first | rfl | (show _ = _; simp)) (Only.refl _ _) hS
            case doneZ2 =>
              intro L vs u6 hS hP hall
              have e11 : vs 11 = .bool true := hP 11 (by decide)
              have P6 := Lib.hid (O0.out.trans (P5.out.trans hS))
              clear hS hP hall fr_Z2 hq1 hq2
              simp only [putV, List.foldl_cons, List.foldl_nil, List.setIfInBounds_toArray, List.set_cons_zero, List.set_cons_succ]
              rw [e11]
              go_wp2
              go_ret
              exact ⟨rfl, P6.out⟩
          · have hA2 : AA = hd0 := by rw [HAA.out, if_neg hE]
            subst hA2
            have hq1 : ∀ w, (binOp .eql 23 (.agg (hc hd0)) (.agg #[.bool false, .int .i64 0, .int .i64 0, .int .i64 0, .int .i64 0, .int .i64 0, .int .i64 0, .int .i64 0, .int .i64 0])).run Tryd.prog w = .ok (.bool true) w := run_eql_hd hd0
            have hq2 := guard_hd
            have M6 := Lib.hid (HAw.out u5 (O0.out.trans P5.out))
            go_wp2_with (refine wpList_load_row rfl 23 (.tmp 7) rfl u1.heap.size rfl 23 (hc hd0) (0, 0) _ BAA5.out Tryd.underlying23 rfl Tryd.size_header ?_)
            refine (M6.out).mono ?_
            rintro _ u6 ⟨rfl, ho⟩
            have P6 := Lib.hid (O0.out.trans (P5.out.trans ho))
            clear ho hq1 hq2
            go_wp2
            go_ret
            exact ⟨rfl, P6.out⟩
        · have hE := HM.out.1 hR
          have hA2 : AA = hd0 := by rw [HA.out, if_neg (by rw [hE]; exact hR)]
          subst hE hA2
          have hq1 : ∀ w, (binOp .eql 23 (.agg (hc hd0)) (.agg #[.bool false, .int .i64 0, .int .i64 0, .int .i64 0, .int .i64 0, .int .i64 0, .int .i64 0, .int .i64 0, .int .i64 0])).run Tryd.prog w = .ok (.bool true) w := run_eql_hd hd0
          have hq2 := guard_hd
          have M6 := Lib.hid (HAw.out u4 (O0.out.trans P4.out))
          clear HM HA HRA
          go_wp2_with (refine wpList_load_row rfl 23 (.tmp 7) rfl u1.heap.size rfl 23 (hc hd0) (0, 0) _ BAA.out Tryd.underlying23 rfl Tryd.size_header ?_)
          refine (M6.out).mono ?_
          rintro _ u6 ⟨rfl, ho⟩
          have P6 := Lib.hid (O0.out.trans (P4.out.trans ho))
          clear ho hq1 hq2
          go_wp2
          go_ret
          exact ⟨rfl, P6.out⟩
      · have hn := HN.out
        rw [if_neg (by omega), if_pos (by omega)] at hn
        obtain ⟨rfl, rfl⟩ := hn
        clear HN HCh
        by_cases hR : RE = 0
        · obtain ⟨hE, hX⟩ := HM.out.2 hR
          have hRA : RA = RH := by rw [HRA.out, if_pos hR]
          have hAA := HA.out
          subst hR hX hRA
          have M4 := Lib.hid (HCk.out RA u4)
          rw [← hE] at M4
          have HAA := Lib.hid hAA
          clear hE hAA HM HRA HA
          go_wp2_with (refine wpList_load_row rfl 26 (.tmp 9) rfl u3.heap.size rfl 26 (hc RA) (0, 0) _ BRA.out Tryd.underlying26 rfl Tryd.size_ref ?_)
          refine (M4.out).mono ?_
          rintro _ u5 ⟨rfl, ho⟩
          have P5 := Lib.hid (P4.out.trans ho)
          have BAA5 := Lib.hid (BAA.out.only ho (fun e => e))
          have BRA5 := Lib.hid (BRA.out.only ho (fun e => e))
          clear ho M4 BAA BRA
          by_cases hE : E = 0
          · have hA2 : AA = RA := by rw [HAA.out, if_pos hE]
            subst hE
            subst hA2
            have hq1 := run_eql_rf AA
            have hq2 := guard_rf
            go_wp2
            have fr_Z3 : ∀ j s, j < 12 → (([some 97, some 98, some 99, some 100, some 101, some 102, some 103, some 104, some 105, some 106, some 107, some 6] : List (Option Nat)).all fun d => d != some s) = true → ([some 97, some 98, some 99, some 100, some 101, some 102, some 103, some 104, some 105, some 106, some 107, some 6] : List (Option Nat)).getD j none ≠ some s := by
              intro j s hj ha e
              rw [List.getD_eq_getElem?_getD, List.getElem?_eq_getElem (by exact hj), Option.getD_some] at e
              have := List.all_eq_true.1 ha _ (List.getElem_mem (by exact hj))
              rw [e] at this
              simp at this
            refine region_tel (by kernel_rfl) (fun k0 => ([some 97, some 98, some 99, some 100, some 101, some 102, some 103, some 104, some 105, some 106, some 107, some 6] : List (Option Nat)).getD k0 none) (PL [eqP (.agg (hc AA)), eqP (.agg (hc AA)), eqP (.agg (hc AA)), eqP (.bool true), eqP (.bool true), eqP (iv 0), eqP (.bool true), eqP (.bool true), eqP (.bool true), eqP (.bool true), eqP (.bool true), eqP (.bool true)]) (fun u u' => Only Nix u u') (fun _ u => Only Nix (u5) u) 108 12 rfl (by kernel_rfl) (by kernel_rfl) rfl (by kernel_rfl) (by kernel_rfl) (stab_all ⟨fun _ _ _ h _ => h, fun _ _ _ h _ => h, fun _ _ _ h _ => h, fun _ _ _ h _ => h, fun _ _ _ h _ => h, fun _ _ _ h _ => h, fun _ _ _ h _ => h, fun _ _ _ h _ => h, fun _ _ _ h _ => h, fun _ _ _ h _ => h, fun _ _ _ h _ => h, fun _ _ _ h _ => h, trivial⟩) ((Only.refl _ _).drew) ?stepsZ3 (fun vs => [(97, vs 0), (98, vs 1), (99, vs 2), (100, vs 3), (101, vs 4), (102, vs 5), (103, vs 6), (104, vs 7), (105, vs 8), (106, vs 9), (107, vs 10), (6, vs 11)]) (fun vs => rfl) ?doneZ3
            case stepsZ3 =>
              refine ⟨?_, ?_, ?_, ?_, ?_, ?_, ?_, ?_, ?_, ?_, ?_, ?_, trivial⟩
              · intro L vs A' u hW hL0 hnd K' hK
                have hS := hW.wi.s
                have r7 : A'.tmps[7]? = some (.pointer (some ⟨u1.heap.size, 0, none⟩)) := (hW.out 7 (fun j hj => fr_Z3 j 7 hj (by kernel_rfl))).trans rfl
                have hb6 := BAA5.out.only hS (fun e => e)
                refine wp_load_row 23 (.tmp 7) rfl u1.heap.size (eval_tmp r7) 23 _ (0, 0) _ hb6 Tryd.underlying23 rfl Tryd.size_header ?_
                exact hK _ _ rfl (Only.refl _ _) hS
              · intro L vs A' u hW hL0 hnd K' hK
                have hS := hW.wi.s
                have r97 : A'.tmps[97]? = some (.agg (hc AA)) := by
                  obtain ⟨x, e, h⟩ := hW.tel 0 97 (by decide) (hnd 0 (by kernel_rfl)) rfl
                  rw [e]; exact congrArg some h
                have HCL := Lib.hid (HPl.out AA u)
                go_simp
                refine (HCL.out).mono ?_
                rintro _ u' ⟨rfl, ho'⟩
                exact hK _ _ (rfl) ho' (hS.trans ho')
              · intro L vs A' u hW hL0 hnd K' hK
                have hS := hW.wi.s
                have r9 : A'.tmps[9]? = some (.pointer (some ⟨u3.heap.size, 0, none⟩)) := (hW.out 9 (fun j hj => fr_Z3 j 9 hj (by kernel_rfl))).trans rfl
                have hb6 := BRA5.out.only hS (fun e => e)
                refine wp_load_row 26 (.tmp 9) rfl u3.heap.size (eval_tmp r9) 26 _ (0, 0) _ hb6 Tryd.underlying26 rfl Tryd.size_ref ?_
                exact hK _ _ rfl (Only.refl _ _) hS
              · intro L vs A' u hW hL0 hnd K' hK
                have hS := hW.wi.s
                have r98 : A'.tmps[98]? = some (.agg (hc AA)) := by
                  obtain ⟨x, e, h⟩ := hW.tel 1 98 (by decide) (hnd 1 (by kernel_rfl)) rfl
                  rw [e]; exact congrArg some h
                have r99 : A'.tmps[99]? = some (.agg (hc AA)) := by
                  obtain ⟨x, e, h⟩ := hW.tel 2 99 (by decide) (hnd 2 (by kernel_rfl)) rfl
                  rw [e]; exact congrArg some h
                go_simp
                exact hK _ _ ((by first | rfl | (show _ = _; simp; omega) | (show _ = _; simp))) (Only.refl _ _) hS
              · intro L vs A' u hW hL0 hnd K' hK
                have hS := hW.wi.s
                have r100 : A'.tmps[100]? = some (.bool true) := by
                  obtain ⟨x, e, h⟩ := hW.tel 3 100 (by decide) (hnd 3 (by kernel_rfl)) rfl
                  rw [e]; exact congrArg some h
                go_simp
                exact hK _ _ (by first | rfl | (show _ = _; simp)) (Only.refl _ _) hS
              · intro L vs A' u hW hL0 hnd K' hK
                have hS := hW.wi.s
                have r8 : A'.tmps[8]? = some (iv 0) := (hW.out 8 (fun j hj => fr_Z3 j 8 hj (by kernel_rfl))).trans rfl
                have r101 : A'.tmps[101]? = some (.bool true) := by
                  obtain ⟨x, e, h⟩ := hW.tel 4 101 (by decide) (hnd 4 (by kernel_rfl)) rfl
                  rw [e]; exact congrArg some h
                rw [if_pos (wanted_yes (j := 4) (s := 101) (b := true) rfl (by kernel_rfl) r101)]
                go_simp
                exact hK _ _ (by first | rfl | (show _ = _; simp)) (Only.refl _ _) hS
              · intro L vs A' u hW hL0 hnd K' hK
                have hS := hW.wi.s
                have r102 : A'.tmps[102]? = some (iv 0) := by
                  obtain ⟨x, e, h⟩ := hW.tel 5 102 (by decide) (hnd 5 (by kernel_rfl)) rfl
                  rw [e]; exact congrArg some h
                have r101 : A'.tmps[101]? = some (.bool true) := by
                  obtain ⟨x, e, h⟩ := hW.tel 4 101 (by decide) (hnd 4 (by kernel_rfl)) rfl
                  rw [e]; exact congrArg some h
                rw [if_pos (wanted_yes (j := 4) (s := 101) (b := true) rfl (by kernel_rfl) r101)]
                go_simp
                exact hK _ _ ((by first | rfl | (show _ = _; simp; omega) | (show _ = _; simp))) (Only.refl _ _) hS
              · intro L vs A' u hW hL0 hnd K' hK
                have hS := hW.wi.s
                have r101 : A'.tmps[101]? = some (.bool true) := by
                  obtain ⟨x, e, h⟩ := hW.tel 4 101 (by decide) (hnd 4 (by kernel_rfl)) rfl
                  rw [e]; exact congrArg some h
                have r103 : A'.tmps[103]? = some (.bool true) := by
                  obtain ⟨x, e, h⟩ := hW.tel 6 103 (by decide) (hnd 6 (by kernel_rfl)) rfl
                  rw [e]; exact congrArg some h
                go_simp
                exact hK _ _ (by first | rfl | (show _ = _; simp)) (Only.refl _ _) hS
              · intro L vs A' u hW hL0 hnd K' hK
                have hS := hW.wi.s
                have r104 : A'.tmps[104]? = some (.bool true) := by
                  obtain ⟨x, e, h⟩ := hW.tel 7 104 (by decide) (hnd 7 (by kernel_rfl)) rfl
                  rw [e]; exact congrArg some h
                go_simp
                exact hK _ _ (by first | rfl | (show _ = _; simp)) (Only.refl _ _) hS
              · intro L vs A' u hW hL0 hnd K' hK
                have hS := hW.wi.s
                have r105 : A'.tmps[105]? = some (.bool true) := by
                  obtain ⟨x, e, h⟩ := hW.tel 8 105 (by decide) (hnd 8 (by kernel_rfl)) rfl
                  rw [e]; exact congrArg some h
                rw [if_pos (wanted_yes (j := 8) (s := 105) (b := true) rfl (by kernel_rfl) r105)]
                have HCL := Lib.hid (HAw.out u (O0.out.trans (P5.out.trans hS)))
                go_simp
                refine (HCL.out).mono ?_
                rintro _ u' ⟨rfl, ho'⟩
                exact hK _ _ (rfl) ho' (hS.trans ho')
              · intro L vs A' u hW hL0 hnd K' hK
                have hS := hW.wi.s
                have r105 : A'.tmps[105]? = some (.bool true) := by
                  obtain ⟨x, e, h⟩ := hW.tel 8 105 (by decide) (hnd 8 (by kernel_rfl)) rfl
                  rw [e]; exact congrArg some h
                have r106 : A'.tmps[106]? = some (.bool true) := by
                  obtain ⟨x, e, h⟩ := hW.tel 9 106 (by decide) (hnd 9 (by kernel_rfl)) rfl
                  rw [e]; exact congrArg some h
                go_simp
                exact hK _ _ (by first | rfl | (show _ = _; simp)) (Only.refl _ _) hS
              · intro L vs A' u hW hL0 hnd K' hK
                have hS := hW.wi.s
                have r107 : A'.tmps[107]? = some (.bool true) := by
                  obtain ⟨x, e, h⟩ := hW.tel 10 107 (by decide) (hnd 10 (by kernel_rfl)) rfl
                  rw [e]; exact congrArg some h
                go_simp
                exact hK _ _ (by first | rfl | (show _ = _; simp)) (Only.refl _ _) hS
            case doneZ3 =>
              intro L vs u6 hS hP hall
              have e11 : vs 11 = .bool true := hP 11 (by decide)
              have P6 := Lib.hid (O0.out.trans (P5.out.trans hS))
              clear hS hP hall fr_Z3 hq1 hq2
              simp only [putV, List.foldl_cons, List.foldl_nil, List.setIfInBounds_toArray, List.set_cons_zero, List.set_cons_succ]
              rw [e11]
              go_wp2
              go_ret
              exact ⟨rfl, P6.out⟩
          · have hA2 : AA = hd0 := by rw [HAA.out, if_neg hE]
            subst hA2
            have hq1 : ∀ w, (binOp .eql 23 (.agg (hc hd0)) (.agg #[.bool false, .int .i64 0, .int .i64 0, .int .i64 0, .int .i64 0, .int .i64 0, .int .i64 0, .int .i64 0, .int .i64 0])).run Tryd.prog w = .ok (.bool true) w := run_eql_hd hd0
            have hq2 := guard_hd
            have M6 := Lib.hid (HAw.out u5 (O0.out.trans P5.out))
            go_wp2_with (refine wpList_load_row rfl 23 (.tmp 7) rfl u1.heap.size rfl 23 (hc hd0) (0, 0) _ BAA5.out Tryd.underlying23 rfl Tryd.size_header ?_)
            refine (M6.out).mono ?_
            rintro _ u6 ⟨rfl, ho⟩
            have P6 := Lib.hid (O0.out.trans (P5.out.trans ho))
            clear ho hq1 hq2
            go_wp2
            go_ret
            exact ⟨rfl, P6.out⟩
        · have hE := HM.out.1 hR
          have hA2 : AA = hd0 := by rw [HA.out, if_neg (by rw [hE]; exact hR)]
          subst hE hA2
          have hq1 : ∀ w, (binOp .eql 23 (.agg (hc hd0)) (.agg #[.bool false, .int .i64 0, .int .i64 0, .int .i64 0, .int .i64 0, .int .i64 0, .int .i64 0, .int .i64 0, .int .i64 0])).run Tryd.prog w = .ok (.bool true) w := run_eql_hd hd0
          have hq2 := guard_hd
          have M6 := Lib.hid (HAw.out u4 (O0.out.trans P4.out))
          clear HM HA HRA
          go_wp2_with (refine wpList_load_row rfl 23 (.tmp 7) rfl u1.heap.size rfl 23 (hc hd0) (0, 0) _ BAA.out Tryd.underlying23 rfl Tryd.size_header ?_)
          refine (M6.out).mono ?_
          rintro _ u6 ⟨rfl, ho⟩
          have P6 := Lib.hid (O0.out.trans (P4.out.trans ho))
          clear ho hq1 hq2
          go_wp2
          go_ret
          exact ⟨rfl, P6.out⟩
      · have hn := HN.out
        rw [if_neg (by omega), if_pos m2] at hn
        obtain ⟨rfl, rfl⟩ := hn
        have hb : (mo + 1 != 2) = true := by rw [bne_iff_ne]; omega
        have hw : IntKind.i64.wrap (mo + 1) = mo + 1 := wraps_i64 _ (by omega) (by omega)
        clear HN HCh
        by_cases hR : RE = 0
        · obtain ⟨hE, hX⟩ := HM.out.2 hR
          have hRA : RA = RH := by rw [HRA.out, if_pos hR]
          have hAA := HA.out
          subst hR hX hRA
          have M4 := Lib.hid (HCk.out RA u4)
          rw [← hE] at M4
          have HAA := Lib.hid hAA
          clear hE hAA HM HRA HA
          go_wp2_with (refine wpList_load_row rfl 26 (.tmp 9) rfl u3.heap.size rfl 26 (hc RA) (0, 0) _ BRA.out Tryd.underlying26 rfl Tryd.size_ref ?_)
          refine (M4.out).mono ?_
          rintro _ u5 ⟨rfl, ho⟩
          have P5 := Lib.hid (P4.out.trans ho)
          have BAA5 := Lib.hid (BAA.out.only ho (fun e => e))
          have BRA5 := Lib.hid (BRA.out.only ho (fun e => e))
          clear ho M4 BAA BRA
          by_cases hE : E = 0
          · have hA2 : AA = RA := by rw [HAA.out, if_pos hE]
            subst hE
            subst hA2
            have hq1 := run_eql_rf AA
            have hq2 := guard_rf
            go_wp2
            have fr_Z4 : ∀ j s, j < 12 → (([some 97, some 98, some 99, some 100, some 101, some 102, some 103, some 104, some 105, some 106, some 107, some 6] : List (Option Nat)).all fun d => d != some s) = true → ([some 97, some 98, some 99, some 100, some 101, some 102, some 103, some 104, some 105, some 106, some 107, some 6] : List (Option Nat)).getD j none ≠ some s := by
              intro j s hj ha e
              rw [List.getD_eq_getElem?_getD, List.getElem?_eq_getElem (by exact hj), Option.getD_some] at e
              have := List.all_eq_true.1 ha _ (List.getElem_mem (by exact hj))
              rw [e] at this
              simp at this
            refine region_tel (by kernel_rfl) (fun k0 => ([some 97, some 98, some 99, some 100, some 101, some 102, some 103, some 104, some 105, some 106, some 107, some 6] : List (Option Nat)).getD k0 none) (PL [eqP (.agg (hc AA)), eqP (.agg (hc AA)), eqP (.agg (hc AA)), eqP (.bool true), eqP (.bool true), eqP (iv 0), eqP (.bool true), eqP (.bool true), eqP (.bool true), eqP (.bool true), eqP (.bool true), eqP (.bool true)]) (fun u u' => Only Nix u u') (fun _ u => Only Nix (u5) u) 108 12 rfl (by kernel_rfl) (by kernel_rfl) rfl (by kernel_rfl) (by kernel_rfl) (stab_all ⟨fun _ _ _ h _ => h, fun _ _ _ h _ => h, fun _ _ _ h _ => h, fun _ _ _ h _ => h, fun _ _ _ h _ => h, fun _ _ _ h _ => h, fun _ _ _ h _ => h, fun _ _ _ h _ => h, fun _ _ _ h _ => h, fun _ _ _ h _ => h, fun _ _ _ h _ => h, fun _ _ _ h _ => h, trivial⟩) ((Only.refl _ _).drew) ?stepsZ4 (fun vs => [(97, vs 0), (98, vs 1), (99, vs 2), (100, vs 3), (101, vs 4), (102, vs 5), (103, vs 6), (104, vs 7), (105, vs 8), (106, vs 9), (107, vs 10), (6, vs 11)]) (fun vs => rfl) ?doneZ4
            case stepsZ4 =>
              refine ⟨?_, ?_, ?_, ?_, ?_, ?_, ?_, ?_, ?_, ?_, ?_, ?_, trivial⟩
              · intro L vs A' u hW hL0 hnd K' hK
                have hS := hW.wi.s
                have r7 : A'.tmps[7]? = some (.pointer (some ⟨u1.heap.size, 0, none⟩)) := (hW.out 7 (fun j hj => fr_Z4 j 7 hj (by kernel_rfl))).trans rfl
                have hb6 := BAA5.out.only hS (fun e => e)
                refine wp_load_row 23 (.tmp 7) rfl u1.heap.size (eval_tmp r7) 23 _ (0, 0) _ hb6 Tryd.underlying23 rfl Tryd.size_header ?_
                exact hK _ _ rfl (Only.refl _ _) hS
              · intro L vs A' u hW hL0 hnd K' hK
                have hS := hW.wi.s
                have r97 : A'.tmps[97]? = some (.agg (hc AA)) := by
                  obtain ⟨x, e, h⟩ := hW.tel 0 97 (by decide) (hnd 0 (by kernel_rfl)) rfl
                  rw [e]; exact congrArg some h
                have HCL := Lib.hid (HPl.out AA u)
                go_simp
                refine (HCL.out).mono ?_
                rintro _ u' ⟨rfl, ho'⟩
                exact hK _ _ (rfl) ho' (hS.trans ho')
              · intro L vs A' u hW hL0 hnd K' hK
                have hS := hW.wi.s
                have r9 : A'.tmps[9]? = some (.pointer (some ⟨u3.heap.size, 0, none⟩)) := (hW.out 9 (fun j hj => fr_Z4 j 9 hj (by kernel_rfl))).trans rfl
                have hb6 := BRA5.out.only hS (fun e => e)
                refine wp_load_row 26 (.tmp 9) rfl u3.heap.size (eval_tmp r9) 26 _ (0, 0) _ hb6 Tryd.underlying26 rfl Tryd.size_ref ?_
                exact hK _ _ rfl (Only.refl _ _) hS
              · intro L vs A' u hW hL0 hnd K' hK
                have hS := hW.wi.s
                have r98 : A'.tmps[98]? = some (.agg (hc AA)) := by
                  obtain ⟨x, e, h⟩ := hW.tel 1 98 (by decide) (hnd 1 (by kernel_rfl)) rfl
                  rw [e]; exact congrArg some h
                have r99 : A'.tmps[99]? = some (.agg (hc AA)) := by
                  obtain ⟨x, e, h⟩ := hW.tel 2 99 (by decide) (hnd 2 (by kernel_rfl)) rfl
                  rw [e]; exact congrArg some h
                go_simp
                exact hK _ _ ((by first | rfl | (show _ = _; simp; omega) | (show _ = _; simp))) (Only.refl _ _) hS
              · intro L vs A' u hW hL0 hnd K' hK
                have hS := hW.wi.s
                have r100 : A'.tmps[100]? = some (.bool true) := by
                  obtain ⟨x, e, h⟩ := hW.tel 3 100 (by decide) (hnd 3 (by kernel_rfl)) rfl
                  rw [e]; exact congrArg some h
                go_simp
                exact hK _ _ (by first | rfl | (show _ = _; simp)) (Only.refl _ _) hS
              · intro L vs A' u hW hL0 hnd K' hK
                have hS := hW.wi.s
                have r8 : A'.tmps[8]? = some (iv 0) := (hW.out 8 (fun j hj => fr_Z4 j 8 hj (by kernel_rfl))).trans rfl
                have r101 : A'.tmps[101]? = some (.bool true) := by
                  obtain ⟨x, e, h⟩ := hW.tel 4 101 (by decide) (hnd 4 (by kernel_rfl)) rfl
                  rw [e]; exact congrArg some h
                rw [if_pos (wanted_yes (j := 4) (s := 101) (b := true) rfl (by kernel_rfl) r101)]
                go_simp
                exact hK _ _ (by first | rfl | (show _ = _; simp)) (Only.refl _ _) hS
              · intro L vs A' u hW hL0 hnd K' hK
                have hS := hW.wi.s
                have r102 : A'.tmps[102]? = some (iv 0) := by
                  obtain ⟨x, e, h⟩ := hW.tel 5 102 (by decide) (hnd 5 (by kernel_rfl)) rfl
                  rw [e]; exact congrArg some h
                have r101 : A'.tmps[101]? = some (.bool true) := by
                  obtain ⟨x, e, h⟩ := hW.tel 4 101 (by decide) (hnd 4 (by kernel_rfl)) rfl
                  rw [e]; exact congrArg some h
                rw [if_pos (wanted_yes (j := 4) (s := 101) (b := true) rfl (by kernel_rfl) r101)]
                go_simp
                exact hK _ _ ((by first | rfl | (show _ = _; simp; omega) | (show _ = _; simp))) (Only.refl _ _) hS
              · intro L vs A' u hW hL0 hnd K' hK
                have hS := hW.wi.s
                have r101 : A'.tmps[101]? = some (.bool true) := by
                  obtain ⟨x, e, h⟩ := hW.tel 4 101 (by decide) (hnd 4 (by kernel_rfl)) rfl
                  rw [e]; exact congrArg some h
                have r103 : A'.tmps[103]? = some (.bool true) := by
                  obtain ⟨x, e, h⟩ := hW.tel 6 103 (by decide) (hnd 6 (by kernel_rfl)) rfl
                  rw [e]; exact congrArg some h
                go_simp
                exact hK _ _ (by first | rfl | (show _ = _; simp)) (Only.refl _ _) hS
              · intro L vs A' u hW hL0 hnd K' hK
                have hS := hW.wi.s
                have r104 : A'.tmps[104]? = some (.bool true) := by
                  obtain ⟨x, e, h⟩ := hW.tel 7 104 (by decide) (hnd 7 (by kernel_rfl)) rfl
                  rw [e]; exact congrArg some h
                go_simp
                exact hK _ _ (by first | rfl | (show _ = _; simp)) (Only.refl _ _) hS
              · intro L vs A' u hW hL0 hnd K' hK
                have hS := hW.wi.s
                have r105 : A'.tmps[105]? = some (.bool true) := by
                  obtain ⟨x, e, h⟩ := hW.tel 8 105 (by decide) (hnd 8 (by kernel_rfl)) rfl
                  rw [e]; exact congrArg some h
                rw [if_pos (wanted_yes (j := 8) (s := 105) (b := true) rfl (by kernel_rfl) r105)]
                have HCL := Lib.hid (HAw.out u (O0.out.trans (P5.out.trans hS)))
                go_simp
                refine (HCL.out).mono ?_
                rintro _ u' ⟨rfl, ho'⟩
                exact hK _ _ (rfl) ho' (hS.trans ho')
              · intro L vs A' u hW hL0 hnd K' hK
                have hS := hW.wi.s
                have r105 : A'.tmps[105]? = some (.bool true) := by
                  obtain ⟨x, e, h⟩ := hW.tel 8 105 (by decide) (hnd 8 (by kernel_rfl)) rfl
                  rw [e]; exact congrArg some h
                have r106 : A'.tmps[106]? = some (.bool true) := by
                  obtain ⟨x, e, h⟩ := hW.tel 9 106 (by decide) (hnd 9 (by kernel_rfl)) rfl
                  rw [e]; exact congrArg some h
                go_simp
                exact hK _ _ (by first | rfl | (show _ = _; simp)) (Only.refl _ _) hS
              · intro L vs A' u hW hL0 hnd K' hK
                have hS := hW.wi.s
                have r107 : A'.tmps[107]? = some (.bool true) := by
                  obtain ⟨x, e, h⟩ := hW.tel 10 107 (by decide) (hnd 10 (by kernel_rfl)) rfl
                  rw [e]; exact congrArg some h
                go_simp
                exact hK _ _ (by first | rfl | (show _ = _; simp)) (Only.refl _ _) hS
            case doneZ4 =>
              intro L vs u6 hS hP hall
              have e11 : vs 11 = .bool true := hP 11 (by decide)
              have P6 := Lib.hid (O0.out.trans (P5.out.trans hS))
              clear hS hP hall fr_Z4 hq1 hq2
              simp only [putV, List.foldl_cons, List.foldl_nil, List.setIfInBounds_toArray, List.set_cons_zero, List.set_cons_succ]
              rw [e11]
              go_wp2
              go_ret
              exact ⟨rfl, P6.out⟩
          · have hA2 : AA = hd0 := by rw [HAA.out, if_neg hE]
            subst hA2
            have hq1 : ∀ w, (binOp .eql 23 (.agg (hc hd0)) (.agg #[.bool false, .int .i64 0, .int .i64 0, .int .i64 0, .int .i64 0, .int .i64 0, .int .i64 0, .int .i64 0, .int .i64 0])).run Tryd.prog w = .ok (.bool true) w := run_eql_hd hd0
            have hq2 := guard_hd
            have M6 := Lib.hid (HAw.out u5 (O0.out.trans P5.out))
            go_wp2_with (refine wpList_load_row rfl 23 (.tmp 7) rfl u1.heap.size rfl 23 (hc hd0) (0, 0) _ BAA5.out Tryd.underlying23 rfl Tryd.size_header ?_)
            refine (M6.out).mono ?_
            rintro _ u6 ⟨rfl, ho⟩
            have P6 := Lib.hid (O0.out.trans (P5.out.trans ho))
            clear ho hq1 hq2
            go_wp2
            go_ret
            exact ⟨rfl, P6.out⟩
        · have hE := HM.out.1 hR
          have hA2 : AA = hd0 := by rw [HA.out, if_neg (by rw [hE]; exact hR)]
          subst hE hA2
          have hq1 : ∀ w, (binOp .eql 23 (.agg (hc hd0)) (.agg #[.bool false, .int .i64 0, .int .i64 0, .int .i64 0, .int .i64 0, .int .i64 0, .int .i64 0, .int .i64 0, .int .i64 0])).run Tryd.prog w = .ok (.bool true) w := run_eql_hd hd0
          have hq2 := guard_hd
          have M6 := Lib.hid (HAw.out u4 (O0.out.trans P4.out))
          clear HM HA HRA
          go_wp2_with (refine wpList_load_row rfl 23 (.tmp 7) rfl u1.heap.size rfl 23 (hc hd0) (0, 0) _ BAA.out Tryd.underlying23 rfl Tryd.size_header ?_)
          refine (M6.out).mono ?_
          rintro _ u6 ⟨rfl, ho⟩
          have P6 := Lib.hid (O0.out.trans (P4.out.trans ho))
          clear ho hq1 hq2
          go_wp2
          go_ret
          exact ⟨rfl, P6.out⟩
      · have hn := HN.out
        rw [if_neg (by omega), if_neg (by omega)] at hn
        obtain ⟨rfl, rfl⟩ := hn
        clear HN HCh
        by_cases hR : RE = 0
        · obtain ⟨hE, hX⟩ := HM.out.2 hR
          have hRA : RA = RH := by rw [HRA.out, if_pos hR]
          have hAA := HA.out
          subst hR hX hRA
          have M4 := Lib.hid (HCk.out RA u4)
          rw [← hE] at M4
          have HAA := Lib.hid hAA
          clear hE hAA HM HRA HA
          go_wp2_with (refine wpList_load_row rfl 26 (.tmp 9) rfl u3.heap.size rfl 26 (hc RA) (0, 0) _ BRA.out Tryd.underlying26 rfl Tryd.size_ref ?_)
          refine (M4.out).mono ?_
          rintro _ u5 ⟨rfl, ho⟩
          have P5 := Lib.hid (P4.out.trans ho)
          have BAA5 := Lib.hid (BAA.out.only ho (fun e => e))
          have BRA5 := Lib.hid (BRA.out.only ho (fun e => e))
          clear ho M4 BAA BRA
          by_cases hE : E = 0
          · have hA2 : AA = RA := by rw [HAA.out, if_pos hE]
            subst hE
            subst hA2
            have hq1 := run_eql_rf AA
            have hq2 := guard_rf
            go_wp2
            have fr_Z5 : ∀ j s, j < 12 → (([some 97, some 98, some 99, some 100, some 101, some 102, some 103, some 104, some 105, some 106, some 107, some 6] : List (Option Nat)).all fun d => d != some s) = true → ([some 97, some 98, some 99, some 100, some 101, some 102, some 103, some 104, some 105, some 106, some 107, some 6] : List (Option Nat)).getD j none ≠ some s := by
              intro j s hj ha e
              rw [List.getD_eq_getElem?_getD, List.getElem?_eq_getElem (by exact hj), Option.getD_some] at e
              have := List.all_eq_true.1 ha _ (List.getElem_mem (by exact hj))
              rw [e] at this
              simp at this
            refine region_tel (by kernel_rfl) (fun k0 => ([some 97, some 98, some 99, some 100, some 101, some 102, some 103, some 104, some 105, some 106, some 107, some 6] : List (Option Nat)).getD k0 none) (PL [eqP (.agg (hc AA)), eqP (.agg (hc AA)), eqP (.agg (hc AA)), eqP (.bool true), eqP (.bool true), eqP (iv 0), eqP (.bool true), eqP (.bool true), eqP (.bool true), eqP (.bool true), eqP (.bool true), eqP (.bool true)]) (fun u u' => Only Nix u u') (fun _ u => Only Nix (u5) u) 108 12 rfl (by kernel_rfl) (by kernel_rfl) rfl (by kernel_rfl) (by kernel_rfl) (stab_all ⟨fun _ _ _ h _ => h, fun _ _ _ h _ => h, fun _ _ _ h _ => h, fun _ _ _ h _ => h, fun _ _ _ h _ => h, fun _ _ _ h _ => h, fun _ _ _ h _ => h, fun _ _ _ h _ => h, fun _ _ _ h _ => h, fun _ _ _ h _ => h, fun _ _ _ h _ => h, fun _ _ _ h _ => h, trivial⟩) ((Only.refl _ _).drew) ?stepsZ5 (fun vs => [(97, vs 0), (98, vs 1), (99, vs 2), (100, vs 3), (101, vs 4), (102, vs 5), (103, vs 6), (104, vs 7), (105, vs 8), (106, vs 9), (107, vs 10), (6, vs 11)]) (fun vs => rfl) ?doneZ5
            case stepsZ5 =>
              refine ⟨?_, ?_, ?_, ?_, ?_, ?_, ?_, ?_, ?_, ?_, ?_, ?_, trivial⟩
              · intro L vs A' u hW hL0 hnd K' hK
                have hS := hW.wi.s
                have r7 : A'.tmps[7]? = some (.pointer (some ⟨u1.heap.size, 0, none⟩)) := (hW.out 7 (fun j hj => fr_Z5 j 7 hj (by kernel_rfl))).trans rfl
                have hb6 := BAA5.out.only hS (fun e => e)
                refine wp_load_row 23 (.tmp 7) rfl u1.heap.size (eval_tmp r7) 23 _ (0, 0) _ hb6 Tryd.underlying23 rfl Tryd.size_header ?_
                exact hK _ _ rfl (Only.refl _ _) hS
              · intro L vs A' u hW hL0 hnd K' hK
                have hS := hW.wi.s
                have r97 : A'.tmps[97]? = some (.agg (hc AA)) := by
                  obtain ⟨x, e, h⟩ := hW.tel 0 97 (by decide) (hnd 0 (by kernel_rfl)) rfl
                  rw [e]; exact congrArg some h
                have HCL := Lib.hid (HPl.out AA u)
                go_simp
                refine (HCL.out).mono ?_
                rintro _ u' ⟨rfl, ho'⟩
                exact hK _ _ (rfl) ho' (hS.trans ho')
              · intro L vs A' u hW hL0 hnd K' hK
                have hS := hW.wi.s
                have r9 : A'.tmps[9]? = some (.pointer (some ⟨u3.heap.size, 0, none⟩)) := (hW.out 9 (fun j hj => fr_Z5 j 9 hj (by kernel_rfl))).trans rfl
                have hb6 := BRA5.out.only hS (fun e => e)
                refine wp_load_row 26 (.tmp 9) rfl u3.heap.size (eval_tmp r9) 26 _ (0, 0) _ hb6 Tryd.underlying26 rfl Tryd.size_ref ?_
                exact hK _ _ rfl (Only.refl _ _) hS
              · intro L vs A' u hW hL0 hnd K' hK
                have hS := hW.wi.s
                have r98 : A'.tmps[98]? = some (.agg (hc AA)) := by
                  obtain ⟨x, e, h⟩ := hW.tel 1 98 (by decide) (hnd 1 (by kernel_rfl)) rfl
                  rw [e]; exact congrArg some h
                have r99 : A'.tmps[99]? = some (.agg (hc AA)) := by
                  obtain ⟨x, e, h⟩ := hW.tel 2 99 (by decide) (hnd 2 (by kernel_rfl)) rfl
                  rw [e]; exact congrArg some h
                go_simp
                exact hK _ _ ((by first | rfl | (show _ = _; simp; omega) | (show _ = _; simp))) (Only.refl _ _) hS
              · intro L vs A' u hW hL0 hnd K' hK
                have hS := hW.wi.s
                have r100 : A'.tmps[100]? = some (.bool true) := by
                  obtain ⟨x, e, h⟩ := hW.tel 3 100 (by decide) (hnd 3 (by kernel_rfl)) rfl
                  rw [e]; exact congrArg some h
                go_simp
                exact hK _ _ (by first | rfl | (show _ = _; simp)) (Only.refl _ _) hS
              · intro L vs A' u hW hL0 hnd K' hK
                have hS := hW.wi.s
                have r8 : A'.tmps[8]? = some (iv 0) := (hW.out 8 (fun j hj => fr_Z5 j 8 hj (by kernel_rfl))).trans rfl
                have r101 : A'.tmps[101]? = some (.bool true) := by
                  obtain ⟨x, e, h⟩ := hW.tel 4 101 (by decide) (hnd 4 (by kernel_rfl)) rfl
                  rw [e]; exact congrArg some h
                rw [if_pos (wanted_yes (j := 4) (s := 101) (b := true) rfl (by kernel_rfl) r101)]
                go_simp
                exact hK _ _ (by first | rfl | (show _ = _; simp)) (Only.refl _ _) hS
              · intro L vs A' u hW hL0 hnd K' hK
                have hS := hW.wi.s
                have r102 : A'.tmps[102]? = some (iv 0) := by
                  obtain ⟨x, e, h⟩ := hW.tel 5 102 (by decide) (hnd 5 (by kernel_rfl)) rfl
                  rw [e]; exact congrArg some h
                have r101 : A'.tmps[101]? = some (.bool true) := by
                  obtain ⟨x, e, h⟩ := hW.tel 4 101 (by decide) (hnd 4 (by kernel_rfl)) rfl
                  rw [e]; exact congrArg some h
                rw [if_pos (wanted_yes (j := 4) (s := 101) (b := true) rfl (by kernel_rfl) r101)]
                go_simp
                exact hK _ _ ((by first | rfl | (show _ = _; simp; omega) | (show _ = _; simp))) (Only.refl _ _) hS
              · intro L vs A' u hW hL0 hnd K' hK
                have hS := hW.wi.s
                have r101 : A'.tmps[101]? = some (.bool true) := by
                  obtain ⟨x, e, h⟩ := hW.tel 4 101 (by decide) (hnd 4 (by kernel_rfl)) rfl
                  rw [e]; exact congrArg some h
                have r103 : A'.tmps[103]? = some (.bool true) := by
                  obtain ⟨x, e, h⟩ := hW.tel 6 103 (by decide) (hnd 6 (by kernel_rfl)) rfl
                  rw [e]; exact congrArg some h
                go_simp
                exact hK _ _ (by first | rfl | (show _ = _; simp)) (Only.refl _ _) hS
              · intro L vs A' u hW hL0 hnd K' hK
                have hS := hW.wi.s
                have r104 : A'.tmps[104]? = some (.bool true) := by
                  obtain ⟨x, e, h⟩ := hW.tel 7 104 (by decide) (hnd 7 (by kernel_rfl)) rfl
                  rw [e]; exact congrArg some h
                go_simp
                exact hK _ _ (by first | rfl | (show _ = _; simp)) (Only.refl _ _) hS
              · intro L vs A' u hW hL0 hnd K' hK
                have hS := hW.wi.s
                have r105 : A'.tmps[105]? = some (.bool true) := by
                  obtain ⟨x, e, h⟩ := hW.tel 8 105 (by decide) (hnd 8 (by kernel_rfl)) rfl
                  rw [e]; exact congrArg some h
                rw [if_pos (wanted_yes (j := 8) (s := 105) (b := true) rfl (by kernel_rfl) r105)]
                have HCL := Lib.hid (HAw.out u (O0.out.trans (P5.out.trans hS)))
                go_simp
                refine (HCL.out).mono ?_
                rintro _ u' ⟨rfl, ho'⟩
                exact hK _ _ (rfl) ho' (hS.trans ho')
              · intro L vs A' u hW hL0 hnd K' hK
                have hS := hW.wi.s
                have r105 : A'.tmps[105]? = some (.bool true) := by
                  obtain ⟨x, e, h⟩ := hW.tel 8 105 (by decide) (hnd 8 (by kernel_rfl)) rfl
                  rw [e]; exact congrArg some h
                have r106 : A'.tmps[106]? = some (.bool true) := by
                  obtain ⟨x, e, h⟩ := hW.tel 9 106 (by decide) (hnd 9 (by kernel_rfl)) rfl
                  rw [e]; exact congrArg some h
                go_simp
                exact hK _ _ (by first | rfl | (show _ = _; simp)) (Only.refl _ _) hS
              · intro L vs A' u hW hL0 hnd K' hK
                have hS := hW.wi.s
                have r107 : A'.tmps[107]? = some (.bool true) := by
                  obtain ⟨x, e, h⟩ := hW.tel 10 107 (by decide) (hnd 10 (by kernel_rfl)) rfl
                  rw [e]; exact congrArg some h
                go_simp
                exact hK _ _ (by first | rfl | (show _ = _; simp)) (Only.refl _ _) hS
            case doneZ5 =>
              intro L vs u6 hS hP hall
              have e11 : vs 11 = .bool true := hP 11 (by decide)
              have P6 := Lib.hid (O0.out.trans (P5.out.trans hS))
              clear hS hP hall fr_Z5 hq1 hq2
              simp only [putV, List.foldl_cons, List.foldl_nil, List.setIfInBounds_toArray, List.set_cons_zero, List.set_cons_succ]
              rw [e11]
              go_wp2
              go_ret
              exact ⟨rfl, P6.out⟩
          · have hA2 : AA = hd0 := by rw [HAA.out, if_neg hE]
            subst hA2
            have hq1 : ∀ w, (binOp .eql 23 (.agg (hc hd0)) (.agg #[.bool false, .int .i64 0, .int .i64 0, .int .i64 0, .int .i64 0, .int .i64 0, .int .i64 0, .int .i64 0, .int .i64 0])).run Tryd.prog w = .ok (.bool true) w := run_eql_hd hd0
            have hq2 := guard_hd
            have M6 := Lib.hid (HAw.out u5 (O0.out.trans P5.out))
            go_wp2_with (refine wpList_load_row rfl 23 (.tmp 7) rfl u1.heap.size rfl 23 (hc hd0) (0, 0) _ BAA5.out Tryd.underlying23 rfl Tryd.size_header ?_)
            refine (M6.out).mono ?_
            rintro _ u6 ⟨rfl, ho⟩
            have P6 := Lib.hid (O0.out.trans (P5.out.trans ho))
            clear ho hq1 hq2
            go_wp2
            go_ret
            exact ⟨rfl, P6.out⟩
        · have hE := HM.out.1 hR
          have hA2 : AA = hd0 := by rw [HA.out, if_neg (by rw [hE]; exact hR)]
          subst hE hA2
          have hq1 : ∀ w, (binOp .eql 23 (.agg (hc hd0)) (.agg #[.bool false, .int .i64 0, .int .i64 0, .int .i64 0, .int .i64 0, .int .i64 0, .int .i64 0, .int .i64 0, .int .i64 0])).run Tryd.prog w = .ok (.bool true) w := run_eql_hd hd0
          have hq2 := guard_hd
          have M6 := Lib.hid (HAw.out u4 (O0.out.trans P4.out))
          clear HM HA HRA
          go_wp2_with (refine wpList_load_row rfl 23 (.tmp 7) rfl u1.heap.size rfl 23 (hc hd0) (0, 0) _ BAA.out Tryd.underlying23 rfl Tryd.size_header ?_)
          refine (M6.out).mono ?_
          rintro _ u6 ⟨rfl, ho⟩
          have P6 := Lib.hid (O0.out.trans (P4.out.trans ho))
          clear ho hq1 hq2
          go_wp2
          go_ret
          exact ⟨rfl, P6.out⟩
end Go.Proofs.YteahiigfclabfaaDoor.H
