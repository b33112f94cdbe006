/-
  Package header, Write.
-/
import Derived.Test.YteahiigfclabfaaDoorHY
namespace Go.Proofs.YteahiigfclabfaaDoor.H
open Go.RowKit

set_option maxRecDepth 100000 in
set_option maxHeartbeats 8000000 in
theorem write_any {w : World} (hL : LaidH w) (h : Hd) (hi : HdI h) :
    Calls Tryd.prog 10 #[hv h] w fun x w' => ∃ A c, x = .returned (.tuple #[.slice A (wrB h).length c, iv (ckE h)]) ∧ (wrB h).length ≤ c ∧ U.Src w' (.slice A (wrB h).length c) (wrB h) ∧ Only Nix w w' := by
  have HCk : Hid (∀ u, LaidH u → Calls Tryd.prog 11 #[hv h] u fun x w' => x = .returned (iv (ckE h)) ∧ Only Nix u w') := Lib.hid (fun u hu => check_any hu h hi)
  have HWr : Hid (wrB h = if ckE h = 0 then hbB h ++ [U.sm 8 7 (hbB h)] else []) := Lib.hid rfl
  have HKO : Hid (ckE h = 0 → HOk h) := Lib.hid (ck_ok h).1
  generalize ckE h = E at *
  generalize wrB h = WB at *
  have hOB := Box.new w 23 (hc h)
  have hOW := (Only.refl Nix w).alloc (.cells (hc h) 23)
  have HL1 := Lib.hid (hL.nix hOW)
  have HB1 := Lib.hid hOB
  have HO1 := Lib.hid hOW
  clear hOB hOW hL
  generalize hW1 : w.alloc (.cells (hc h) 23) = W1 at *
  have hx : hv h = .agg (hc h) := rfl
  have hcE := hx
  go_enter Tryd.func10, Tryd.ntmps10
  rw [hx]
  obtain ⟨C, hC⟩ : ∃ C, hc h = C := ⟨_, rfl⟩
  rw [hC] at hW1 HB1 hx ⊢
  rw [hx] at HCk
  have HZ : Hid ((Tryd.prog.info? 23).map (·.size) = some C.size) := Lib.hid (by rw [← hC]; exact Tryd.size_header)
  go_wp2_with (refine wpList_load_row rfl 23 (.tmp 1) rfl w.heap.size rfl 23 C (0, 0) _ HB1.out Tryd.underlying23 rfl HZ.out ?_)
  refine (HCk.out W1 HL1.out).mono ?_
  rintro _ W2 ⟨rfl, ho2⟩
  have HB2 := Lib.hid (HB1.out.only ho2 (fun e => e))
  have HL2 := Lib.hid (HL1.out.nix ho2)
  have HO2 := Lib.hid (HO1.out.trans ho2)
  clear ho2
  by_cases hE : E = 0
  · have k := HKO.out hE
    subst hE
    have HK := Lib.hid k
    obtain ⟨n1, n2, n3, n4, n5⟩ := k.codes
    have n6 := k.mo
    have i6 := hi.blk
    have i7 := hi.rate
    have HT1 := Lib.hid k.blk
    have HT2 := Lib.hid k.rate
    have HP9 : Hid (∀ bs, Packs bs (hL9 h) → bs = hbB h) := Lib.hid (fun bs hp => hbB_packs k hp)
    have HLt := Lib.hid (hbB_lt k)
    clear k
    have hl9 : hL9 h = (((((((([] ++ bitsN 15 32764) ++ bitsN 1 (sg h.v)) ++ bitsN 4 h.bc.toNat) ++ bitsN 4 h.rc.toNat) ++ bitsN 4 h.mo.toNat) ++ bitsN 3 h.dc.toNat) ++ bitsN 1 0) ++ bitsOf (U.cd h.num.toNat)) ++ tdL (rowOf bT h.bc) h.blk ++ tdL (rowOf rT h.rc) h.rate := rfl
    have H9 := Lib.hid hl9
    clear hl9
    have HWB : Hid (WB = hbB h ++ [U.sm 8 7 (hbB h)]) := Lib.hid (by rw [HWr.out, if_pos rfl])
    clear HWr HKO
    have hBl := @hbB_len h
    generalize hbB h = BB at *
    generalize hL9 h = L9 at *
    have hq := HB2.out
    rw [← hC] at hq
    obtain ⟨V, bc, rc, mo, dc, num, blk, rate, dep⟩ := h
    simp only [hc] at hq
    have q0 := hq.cell 0
    have q1 := hq.cell 1
    have q2 := hq.cell 2
    have q3 := hq.cell 3
    have q4 := hq.cell 4
    have q5 := hq.cell 5
    have q6 := hq.cell 6
    have q7 := hq.cell 7
    simp only [List.getElem?_toArray, List.getElem?_cons_zero, List.getElem?_cons_succ] at q0 q1 q2 q3 q4 q5 q6 q7
    simp only at n1 n2 n3 n4 n5 n6 i6 i7
    obtain ⟨cb, rfl⟩ : ∃ x : Nat, bc = x := ⟨bc.toNat, by omega⟩
    obtain ⟨cr, rfl⟩ : ∃ x : Nat, rc = x := ⟨rc.toNat, by omega⟩
    obtain ⟨cm, rfl⟩ : ∃ x : Nat, mo = x := ⟨mo.toNat, by omega⟩
    obtain ⟨c_d, rfl⟩ : ∃ x : Nat, dc = x := ⟨dc.toNat, by omega⟩
    obtain ⟨nn, rfl⟩ : ∃ x : Nat, num = x := ⟨num.toNat, by omega⟩
    simp only [Int.toNat_natCast] at H9
    have HPut : Hid (∀ l (m : Nat) (x : Int) u, Wt W2 W2.heap.size l u → l.length ≤ 1000 → m ≤ 48 → 0 ≤ x → x < ((2 ^ m : Nat) : Int) → Calls Tryd.prog 25 #[.pointer (some ⟨W2.heap.size, 0, none⟩), iv m, iv x] u fun e u' => e = .returned (iv 0) ∧ Wt W2 W2.heap.size (l ++ bitsN m x.toNat) u') := Lib.hid (fun l m x u h1 h2 h3 h4 h5 => put_wt h1 h2 m x h3 h4 h5)
    have HNew := Lib.hid (new_wt W2)
    have HSg : Hid (∀ u, Calls Tryd.prog 26 #[.bool V] u fun x w' => x = .returned (iv (sg V)) ∧ u = w') := Lib.hid (fun u => by
      have := sign_any V u
      rw [show (if V = true then (1 : Int) else 0) = ((sg V : Nat) : Int) from by unfold sg; split <;> rfl] at this
      exact this)
    have hsg : sg V ≤ 1 := by unfold sg; split <;> omega
    clear hq HB1 HCk hi
    have HB3 := HB2
    clear HB2
    go_wp2_with fail
    refine HNew.out.mono ?_
    rintro _ u0 ⟨rfl, t0⟩
    have T0 := Lib.hid t0
    clear t0
    go_wp2_with fail
    refine (HPut.out _ 15 32764 u0 T0.out (by simp) (by decide) (by omega) (by omega)).mono ?_
    rintro _ u1 ⟨rfl, t1⟩
    have T1 := Lib.hid t1
    clear t1
    have c1 := U.cell_keep T1.out.only q0
    go_wp2_with fail
    refine (HSg.out u1).mono ?_
    rintro _ v1 ⟨rfl, rfl⟩
    go_wp2_with fail
    refine (HPut.out _ 1 (sg V : Nat) u1 T1.out (by simp [bitsN_len]) (by decide) (by omega) (by omega)).mono ?_
    rintro _ u2 ⟨rfl, t2⟩
    have T2 := Lib.hid t2
    clear t2 c1
    have c2 := U.cell_keep T2.out.only q1
    go_wp2_with fail
    refine (HPut.out _ 4 (cb : Nat) u2 T2.out (by simp [bitsN_len]) (by decide) (by omega) (by omega)).mono ?_
    rintro _ u3 ⟨rfl, t3⟩
    have T3 := Lib.hid t3
    clear t3 c2
    have c3 := U.cell_keep T3.out.only q2
    go_wp2_with fail
    refine (HPut.out _ 4 (cr : Nat) u3 T3.out (by simp [bitsN_len]) (by decide) (by omega) (by omega)).mono ?_
    rintro _ u4 ⟨rfl, t4⟩
    have T4 := Lib.hid t4
    clear t4 c3
    have c4 := U.cell_keep T4.out.only q3
    go_wp2_with fail
    refine (HPut.out _ 4 (cm : Nat) u4 T4.out (by simp [bitsN_len]) (by decide) (by omega) (by omega)).mono ?_
    rintro _ u5 ⟨rfl, t5⟩
    have T5 := Lib.hid t5
    clear t5 c4
    have c5 := U.cell_keep T5.out.only q4
    go_wp2_with fail
    refine (HPut.out _ 3 (c_d : Nat) u5 T5.out (by simp [bitsN_len]) (by decide) (by omega) (by omega)).mono ?_
    rintro _ u6 ⟨rfl, t6⟩
    have T6 := Lib.hid t6
    clear t6 c5
    go_wp2_with fail
    refine (HPut.out _ 1 0 u6 T6.out (by simp [bitsN_len]) (by decide) (by omega) (by omega)).mono ?_
    rintro _ u7 ⟨rfl, t7⟩
    have T7 := Lib.hid t7
    clear t7
    have c7 := U.cell_keep T7.out.only q5
    go_wp2_with fail
    refine (U.put_yes (HL2.out.nix T7.out.only).coded nn (by omega)).mono ?_
    rintro _ u8 ⟨g, hg, rfl, hgB, ho8⟩
    have HGB := Lib.hid hgB
    have HO8 := Lib.hid ho8
    have hcl := U.cd_len nn
    have hzb := U.szOf_bd nn
    have HCL := Lib.hid (U.cd_lt nn (by omega))
    clear hgB ho8 c7
    go_wp2_with fail
    rw [← hcl]
    refine (append_wt T7.out (by simp [bitsN_len]) HO8.out hg HGB.out (by omega) (by omega) HCL.out _ (by decide) (by decide)).mono ?_
    rintro _ u9 ⟨rfl, t9⟩
    have hlen9 : ((((((((([] ++ bitsN 15 32764) ++ bitsN 1 (sg V)) ++ bitsN 4 cb) ++ bitsN 4 cr) ++ bitsN 4 cm) ++ bitsN 3 c_d) ++ bitsN 1 0) ++ bitsOf (U.cd nn))).length ≤ 200 := by
      simp [bitsN_len, bitsOf_len]; omega
    have t9' : Wt W2 W2.heap.size (((((((([] ++ bitsN 15 32764) ++ bitsN 1 (sg V)) ++ bitsN 4 cb) ++ bitsN 4 cr) ++ bitsN 4 cm) ++ bitsN 3 c_d) ++ bitsN 1 0) ++ bitsOf (U.cd nn)) u9 := t9
    clear t9
    generalize (((((((([] ++ bitsN 15 32764) ++ bitsN 1 (sg V)) ++ bitsN 4 cb) ++ bitsN 4 cr) ++ bitsN 4 cm) ++ bitsN 3 c_d) ++ bitsN 1 0) ++ bitsOf (U.cd nn)) = l9 at *
    have T9 := Lib.hid t9'
    clear t9' T0 T1 T2 T3 T4 T5 T6 T7 HGB HO8 hcl hzb HCL hg
    have HRO1 : Hid (RwOk (rowOf bT (cb : Nat))) := Lib.hid (rowOf_ok rows_ok.1 bOk _)
    have HRO2 : Hid (RwOk (rowOf rT (cr : Nat))) := Lib.hid (rowOf_ok rows_ok.2.1 rOk _)
    have HRow1 : Hid (∀ u, Calls Tryd.prog 30 #[.agg (tc bT), iv (cb : Nat)] u fun x w' => x = .returned (rv (rowOf bT (cb : Nat))) ∧ Only Nix u w') := Lib.hid (fun u => row_any bOk _ u)
    have HRow2 : Hid (∀ u, Calls Tryd.prog 30 #[.agg (tc rT), iv (cr : Nat)] u fun x w' => x = .returned (rv (rowOf rT (cr : Nat))) ∧ Only Nix u w') := Lib.hid (fun u => row_any rOk _ u)
    generalize rowOf bT (cb : Nat) = R1 at *
    generalize rowOf rT (cr : Nat) = R2 at *
    have HTo1 : Hid (∀ u, Wt W2 W2.heap.size l9 u → Calls Tryd.prog 29 #[.pointer (some ⟨W2.heap.size, 0, none⟩), rv R1, iv blk] u fun e u' => e = .returned (.tuple #[]) ∧ Wt W2 W2.heap.size (l9 ++ tdL R1 blk) u') := Lib.hid (fun u hu => writeTold_any hu (by omega) R1 HRO1.out blk i6 HT1.out)
    have hl10 : (l9 ++ tdL R1 blk).length ≤ 300 := by rw [List.length_append, tdL_len]; have := HRO1.out.2.2.2.1; omega
    have HTo2 : Hid (∀ u, Wt W2 W2.heap.size (l9 ++ tdL R1 blk) u → Calls Tryd.prog 29 #[.pointer (some ⟨W2.heap.size, 0, none⟩), rv R2, iv rate] u fun e u' => e = .returned (.tuple #[]) ∧ Wt W2 W2.heap.size (l9 ++ tdL R1 blk ++ tdL R2 rate) u') := Lib.hid (fun u hu => writeTold_any hu (by omega) R2 HRO2.out rate i7 HT2.out)
    have p1 := U.cell_keep T9.out.only q1
    have p6 := U.cell_keep T9.out.only q6
    have HL9 := Lib.hid (HL2.out.nix T9.out.only)
    go_wp2
    have fr_Ra : ∀ j s, j < 8 → (([some 50, some 51, some 52, some 53, some 54, some 55, some 56, some 57] : List (Option Nat)).all fun d => d != some s) = true → ([some 50, some 51, some 52, some 53, some 54, some 55, some 56, some 57] : List (Option Nat)).getD j none ≠ some s := by
      intro j s hj ha e
      rw [List.getD_eq_getElem?_getD, List.getElem?_eq_getElem (by exact hj), Option.getD_some] at e
      have := List.all_eq_true.1 ha _ (List.getElem_mem (by exact hj))
      rw [e] at this
      simp at this
    refine region_tel (by kernel_rfl) (fun k0 => ([some 50, some 51, some 52, some 53, some 54, some 55, some 56, some 57] : List (Option Nat)).getD k0 none) (PL [eqP (.pointer (some ⟨W2.heap.size, 0, none⟩)),
      eqP (.agg (tc bT)),
      eqP (.pointer (some ⟨w.heap.size, 1, none⟩)),
      eqP (iv (cb : Nat)),
      eqP (rv R1),
      eqP (.pointer (some ⟨w.heap.size, 6, none⟩)),
      eqP (iv blk),
      eqP (.tuple #[])]) (fun _ _ => True) (LastW (Only Nix (u9)) (Wt W2 W2.heap.size (l9 ++ tdL R1 blk)) 7) 75 8 rfl (by kernel_rfl) (by kernel_rfl) rfl (by kernel_rfl) (by kernel_rfl) (stab_all ⟨fun _ _ _ h _ => h, fun _ _ _ h _ => h, fun _ _ _ h _ => h, fun _ _ _ h _ => h, fun _ _ _ h _ => h, fun _ _ _ h _ => h, fun _ _ _ h _ => h, fun _ _ _ h _ => h, trivial⟩) (LastW.begin (Only.refl _ _).drew) ?stepsRa (fun vs => [(50, vs 0), (51, vs 1), (52, vs 2), (53, vs 3), (54, vs 4), (55, vs 5), (56, vs 6), (57, vs 7)]) (fun vs => rfl) ?doneRa
    case stepsRa =>
      refine ⟨?_, ?_, ?_, ?_, ?_, ?_, ?_, ?_, trivial⟩
      · intro L vs A' u hW hL0 hnd K' hK
        have ny7 : L 7 = false := notYet hW.closed (j := 7) (by rfl) (k := 0) (by kernel_rfl) hL0
        have hS := hW.wi.s.old ny7
        have r5 : A'.tmps[5]? = some (.pointer (some ⟨W2.heap.size, 0, none⟩)) := (hW.out 5 (fun j hj => fr_Ra j 5 hj (by kernel_rfl))).trans rfl
        go_simp
        exact hK _ _ (by first | rfl | (show _ = _; simp)) trivial (LastW.same ny7 (by decide) hS)
      · intro L vs A' u hW hL0 hnd K' hK
        have ny4 : L 4 = false := notYet hW.closed (j := 4) (by rfl) (k := 1) (by kernel_rfl) hL0
        have ny7 : L 7 = false := notYet hW.closed (j := 7) (by rfl) (k := 4) (by kernel_rfl) ny4
        have hS := hW.wi.s.old ny7
        refine wp_load_mid 61 _ rfl 0 0 rfl (tl bT) _ (range_nix HL9.out.blocks hS) Tryd.under_table rfl Tryd.size_tl_bT ?_
        exact hK _ _ (rfl) trivial (LastW.same ny7 (by decide) hS)
      · intro L vs A' u hW hL0 hnd K' hK
        have ny3 : L 3 = false := notYet hW.closed (j := 3) (by rfl) (k := 2) (by kernel_rfl) hL0
        have ny4 : L 4 = false := notYet hW.closed (j := 4) (by rfl) (k := 3) (by kernel_rfl) ny3
        have ny7 : L 7 = false := notYet hW.closed (j := 7) (by rfl) (k := 4) (by kernel_rfl) ny4
        have hS := hW.wi.s.old ny7
        have r1 : A'.tmps[1]? = some (.pointer (some ⟨w.heap.size, 0, none⟩)) := (hW.out 1 (fun j hj => fr_Ra j 1 hj (by kernel_rfl))).trans rfl
        go_simp
        exact hK _ _ (by first | rfl | (show _ = _; simp)) trivial (LastW.same ny7 (by decide) hS)
      · intro L vs A' u hW hL0 hnd K' hK
        have ny4 : L 4 = false := notYet hW.closed (j := 4) (by rfl) (k := 3) (by kernel_rfl) hL0
        have ny7 : L 7 = false := notYet hW.closed (j := 7) (by rfl) (k := 4) (by kernel_rfl) ny4
        have hS := hW.wi.s.old ny7
        have r52 : A'.tmps[52]? = some (.pointer (some ⟨w.heap.size, 1, none⟩)) := by
          obtain ⟨x, e, h⟩ := hW.tel 2 52 (by decide) (hnd 2 (by kernel_rfl)) rfl
          rw [e]; exact congrArg some h
        have hc := U.cell_keep hS p1
        go_simp
        exact hK _ _ (rfl) trivial (LastW.same ny7 (by decide) hS)
      · intro L vs A' u hW hL0 hnd K' hK
        have ny7 : L 7 = false := notYet hW.closed (j := 7) (by rfl) (k := 4) (by kernel_rfl) hL0
        have hS := hW.wi.s.old ny7
        have r51 : A'.tmps[51]? = some (.agg (tc bT)) := by
          obtain ⟨x, e, h⟩ := hW.tel 1 51 (by decide) (hnd 1 (by kernel_rfl)) rfl
          rw [e]; exact congrArg some h
        have r53 : A'.tmps[53]? = some (iv (cb : Nat)) := by
          obtain ⟨x, e, h⟩ := hW.tel 3 53 (by decide) (hnd 3 (by kernel_rfl)) rfl
          rw [e]; exact congrArg some h
        have HCL := Lib.hid (HRow1.out u)
        go_simp
        refine (HCL.out).mono ?_
        rintro _ u' ⟨rfl, ho'⟩
        exact hK _ _ (rfl) trivial (LastW.same ny7 (by decide) (hS.trans ho'))
      · intro L vs A' u hW hL0 hnd K' hK
        have ny6 : L 6 = false := notYet hW.closed (j := 6) (by rfl) (k := 5) (by kernel_rfl) hL0
        have ny7 : L 7 = false := notYet hW.closed (j := 7) (by rfl) (k := 6) (by kernel_rfl) ny6
        have hS := hW.wi.s.old ny7
        have r1 : A'.tmps[1]? = some (.pointer (some ⟨w.heap.size, 0, none⟩)) := (hW.out 1 (fun j hj => fr_Ra j 1 hj (by kernel_rfl))).trans rfl
        go_simp
        exact hK _ _ (by first | rfl | (show _ = _; simp)) trivial (LastW.same ny7 (by decide) hS)
      · intro L vs A' u hW hL0 hnd K' hK
        have ny7 : L 7 = false := notYet hW.closed (j := 7) (by rfl) (k := 6) (by kernel_rfl) hL0
        have hS := hW.wi.s.old ny7
        have r55 : A'.tmps[55]? = some (.pointer (some ⟨w.heap.size, 6, none⟩)) := by
          obtain ⟨x, e, h⟩ := hW.tel 5 55 (by decide) (hnd 5 (by kernel_rfl)) rfl
          rw [e]; exact congrArg some h
        have hc := U.cell_keep hS p6
        go_simp
        exact hK _ _ (rfl) trivial (LastW.same ny7 (by decide) hS)
      · intro L vs A' u hW hL0 hnd K' hK
        have hS := hW.wi.s.old hL0
        have r50 : A'.tmps[50]? = some (.pointer (some ⟨W2.heap.size, 0, none⟩)) := by
          obtain ⟨x, e, h⟩ := hW.tel 0 50 (by decide) (hnd 0 (by kernel_rfl)) rfl
          rw [e]; exact congrArg some h
        have r54 : A'.tmps[54]? = some (rv R1) := by
          obtain ⟨x, e, h⟩ := hW.tel 4 54 (by decide) (hnd 4 (by kernel_rfl)) rfl
          rw [e]; exact congrArg some h
        have r56 : A'.tmps[56]? = some (iv blk) := by
          obtain ⟨x, e, h⟩ := hW.tel 6 56 (by decide) (hnd 6 (by kernel_rfl)) rfl
          rw [e]; exact congrArg some h
        have HCL := Lib.hid (HTo1.out u (T9.out.nix hS))
        go_simp
        refine (HCL.out).mono ?_
        rintro _ u1 ⟨rfl, k⟩
        exact hK _ _ rfl trivial (LastW.fin k)
    case doneRa =>
      intro L vs u10 hS hP hall
      have T10 := Lib.hid (hS.new (hall 7 (by decide)))
      clear hS hP hall fr_Ra p1 p6 HL9
      simp only [putV, List.foldl_cons, List.foldl_nil, List.setIfInBounds_toArray, List.set_cons_zero, List.set_cons_succ]
      generalize vs 0 = y0, vs 1 = y1, vs 2 = y2, vs 3 = y3, vs 4 = y4, vs 5 = y5, vs 6 = y6, vs 7 = y7
      have p1 := U.cell_keep T10.out.only q2
      have p6 := U.cell_keep T10.out.only q7
      have HL9 := Lib.hid (HL2.out.nix T10.out.only)
      go_wp2
      have fr_Rb : ∀ j s, j < 8 → (([some 58, some 59, some 60, some 61, some 62, some 63, some 64, some 65] : List (Option Nat)).all fun d => d != some s) = true → ([some 58, some 59, some 60, some 61, some 62, some 63, some 64, some 65] : List (Option Nat)).getD j none ≠ some s := by
        intro j s hj ha e
        rw [List.getD_eq_getElem?_getD, List.getElem?_eq_getElem (by exact hj), Option.getD_some] at e
        have := List.all_eq_true.1 ha _ (List.getElem_mem (by exact hj))
        rw [e] at this
        simp at this
      refine region_tel (by kernel_rfl) (fun k0 => ([some 58, some 59, some 60, some 61, some 62, some 63, some 64, some 65] : List (Option Nat)).getD k0 none) (PL [eqP (.pointer (some ⟨W2.heap.size, 0, none⟩)),
      eqP (.agg (tc rT)),
      eqP (.pointer (some ⟨w.heap.size, 2, none⟩)),
      eqP (iv (cr : Nat)),
      eqP (rv R2),
      eqP (.pointer (some ⟨w.heap.size, 7, none⟩)),
      eqP (iv rate),
      eqP (.tuple #[])]) (fun _ _ => True) (LastW (Only Nix (u10)) (Wt W2 W2.heap.size (l9 ++ tdL R1 blk ++ tdL R2 rate)) 7) 75 8 rfl (by kernel_rfl) (by kernel_rfl) rfl (by kernel_rfl) (by kernel_rfl) (stab_all ⟨fun _ _ _ h _ => h, fun _ _ _ h _ => h, fun _ _ _ h _ => h, fun _ _ _ h _ => h, fun _ _ _ h _ => h, fun _ _ _ h _ => h, fun _ _ _ h _ => h, fun _ _ _ h _ => h, trivial⟩) (LastW.begin (Only.refl _ _).drew) ?stepsRb (fun vs => [(58, vs 0), (59, vs 1), (60, vs 2), (61, vs 3), (62, vs 4), (63, vs 5), (64, vs 6), (65, vs 7)]) (fun vs => rfl) ?doneRb
      case stepsRb =>
        refine ⟨?_, ?_, ?_, ?_, ?_, ?_, ?_, ?_, trivial⟩
        · intro L vs A' u hW hL0 hnd K' hK
          have ny7 : L 7 = false := notYet hW.closed (j := 7) (by rfl) (k := 0) (by kernel_rfl) hL0
          have hS := hW.wi.s.old ny7
          have r5 : A'.tmps[5]? = some (.pointer (some ⟨W2.heap.size, 0, none⟩)) := (hW.out 5 (fun j hj => fr_Rb j 5 hj (by kernel_rfl))).trans rfl
          go_simp
          exact hK _ _ (by first | rfl | (show _ = _; simp)) trivial (LastW.same ny7 (by decide) hS)
        · intro L vs A' u hW hL0 hnd K' hK
          have ny4 : L 4 = false := notYet hW.closed (j := 4) (by rfl) (k := 1) (by kernel_rfl) hL0
          have ny7 : L 7 = false := notYet hW.closed (j := 7) (by rfl) (k := 4) (by kernel_rfl) ny4
          have hS := hW.wi.s.old ny7
          refine wp_load_mid 61 _ rfl 1 0 rfl (tl rT) _ (range_nix HL9.out.rates hS) Tryd.under_table rfl Tryd.size_tl_rT ?_
          exact hK _ _ (rfl) trivial (LastW.same ny7 (by decide) hS)
        · intro L vs A' u hW hL0 hnd K' hK
          have ny3 : L 3 = false := notYet hW.closed (j := 3) (by rfl) (k := 2) (by kernel_rfl) hL0
          have ny4 : L 4 = false := notYet hW.closed (j := 4) (by rfl) (k := 3) (by kernel_rfl) ny3
          have ny7 : L 7 = false := notYet hW.closed (j := 7) (by rfl) (k := 4) (by kernel_rfl) ny4
          have hS := hW.wi.s.old ny7
          have r1 : A'.tmps[1]? = some (.pointer (some ⟨w.heap.size, 0, none⟩)) := (hW.out 1 (fun j hj => fr_Rb j 1 hj (by kernel_rfl))).trans rfl
          go_simp
          exact hK _ _ (by first | rfl | (show _ = _; simp)) trivial (LastW.same ny7 (by decide) hS)
        · intro L vs A' u hW hL0 hnd K' hK
          have ny4 : L 4 = false := notYet hW.closed (j := 4) (by rfl) (k := 3) (by kernel_rfl) hL0
          have ny7 : L 7 = false := notYet hW.closed (j := 7) (by rfl) (k := 4) (by kernel_rfl) ny4
          have hS := hW.wi.s.old ny7
          have r60 : A'.tmps[60]? = some (.pointer (some ⟨w.heap.size, 2, none⟩)) := by
            obtain ⟨x, e, h⟩ := hW.tel 2 60 (by decide) (hnd 2 (by kernel_rfl)) rfl
            rw [e]; exact congrArg some h
          have hc := U.cell_keep hS p1
          go_simp
          exact hK _ _ (rfl) trivial (LastW.same ny7 (by decide) hS)
        · intro L vs A' u hW hL0 hnd K' hK
          have ny7 : L 7 = false := notYet hW.closed (j := 7) (by rfl) (k := 4) (by kernel_rfl) hL0
          have hS := hW.wi.s.old ny7
          have r59 : A'.tmps[59]? = some (.agg (tc rT)) := by
            obtain ⟨x, e, h⟩ := hW.tel 1 59 (by decide) (hnd 1 (by kernel_rfl)) rfl
            rw [e]; exact congrArg some h
          have r61 : A'.tmps[61]? = some (iv (cr : Nat)) := by
            obtain ⟨x, e, h⟩ := hW.tel 3 61 (by decide) (hnd 3 (by kernel_rfl)) rfl
            rw [e]; exact congrArg some h
          have HCL := Lib.hid (HRow2.out u)
          go_simp
          refine (HCL.out).mono ?_
          rintro _ u' ⟨rfl, ho'⟩
          exact hK _ _ (rfl) trivial (LastW.same ny7 (by decide) (hS.trans ho'))
        · intro L vs A' u hW hL0 hnd K' hK
          have ny6 : L 6 = false := notYet hW.closed (j := 6) (by rfl) (k := 5) (by kernel_rfl) hL0
          have ny7 : L 7 = false := notYet hW.closed (j := 7) (by rfl) (k := 6) (by kernel_rfl) ny6
          have hS := hW.wi.s.old ny7
          have r1 : A'.tmps[1]? = some (.pointer (some ⟨w.heap.size, 0, none⟩)) := (hW.out 1 (fun j hj => fr_Rb j 1 hj (by kernel_rfl))).trans rfl
          go_simp
          exact hK _ _ (by first | rfl | (show _ = _; simp)) trivial (LastW.same ny7 (by decide) hS)
        · intro L vs A' u hW hL0 hnd K' hK
          have ny7 : L 7 = false := notYet hW.closed (j := 7) (by rfl) (k := 6) (by kernel_rfl) hL0
          have hS := hW.wi.s.old ny7
          have r63 : A'.tmps[63]? = some (.pointer (some ⟨w.heap.size, 7, none⟩)) := by
            obtain ⟨x, e, h⟩ := hW.tel 5 63 (by decide) (hnd 5 (by kernel_rfl)) rfl
            rw [e]; exact congrArg some h
          have hc := U.cell_keep hS p6
          go_simp
          exact hK _ _ (rfl) trivial (LastW.same ny7 (by decide) hS)
        · intro L vs A' u hW hL0 hnd K' hK
          have hS := hW.wi.s.old hL0
          have r58 : A'.tmps[58]? = some (.pointer (some ⟨W2.heap.size, 0, none⟩)) := by
            obtain ⟨x, e, h⟩ := hW.tel 0 58 (by decide) (hnd 0 (by kernel_rfl)) rfl
            rw [e]; exact congrArg some h
          have r62 : A'.tmps[62]? = some (rv R2) := by
            obtain ⟨x, e, h⟩ := hW.tel 4 62 (by decide) (hnd 4 (by kernel_rfl)) rfl
            rw [e]; exact congrArg some h
          have r64 : A'.tmps[64]? = some (iv rate) := by
            obtain ⟨x, e, h⟩ := hW.tel 6 64 (by decide) (hnd 6 (by kernel_rfl)) rfl
            rw [e]; exact congrArg some h
          have HCL := Lib.hid (HTo2.out u (T10.out.nix hS))
          go_simp
          refine (HCL.out).mono ?_
          rintro _ u1 ⟨rfl, k⟩
          exact hK _ _ rfl trivial (LastW.fin k)
      case doneRb =>
        intro L vs u11 hS hP hall
        have hT := hS.new (hall 7 (by decide))
        clear hS hP hall fr_Rb p1 p6 HL9
        simp only [putV, List.foldl_cons, List.foldl_nil, List.setIfInBounds_toArray, List.set_cons_zero, List.set_cons_succ]
        generalize vs 0 = z0, vs 1 = z1, vs 2 = z2, vs 3 = z3, vs 4 = z4, vs 5 = z5, vs 6 = z6, vs 7 = z7
        rw [← H9.out] at hT
        have HL9 := Lib.hid (HL2.out.nix hT.only)
        obtain ⟨v, bs, k1, k2, k3, k4⟩ := hT
        have hbs := HP9.out bs k1.packs
        subst hbs
        have K1 := Lib.hid k1
        have K2 := Lib.hid k2
        clear k1 k2 k3 k4 hl10 hlen9 q0 q1 q2 q3 q4 q5 q6 q7
        go_wp2_with fail
        refine (bytes_any K1.out).mono ?_
        rintro _ u12 ⟨v', rfl, hown, ho12⟩
        have HOwn := Lib.hid hown
        have hsl := owns_slice hown
        obtain ⟨A, c, rfl⟩ := hsl
        have HS12 := Lib.hid (U.owns_src hown (by omega) HLt.out)
        have HL12 := Lib.hid (HL9.out.nix ho12)
        have HO12 := Lib.hid (K2.out.trans ho12)
        have hsz12 := Lib.hid ho12.size
        clear hown ho12
        have hLists := U.lists1 HS12.out 28
        have HSu := Lib.hid (U.Sum8_any (HL12.out.nix ((Only.refl Nix u12).alloc (.cells #[.slice A bs.length c] 28))).sums hLists)
        clear hLists
        go_wp2_with fail
        refine (HSu.out).mono ?_
        rintro _ u13 ⟨rfl, ho13⟩
        have HO13 := Lib.hid (HO12.out.trans (((Only.refl Nix u12).alloc (.cells #[.slice A bs.length c] 28)).trans ho13))
        have ho14 := (((Only.refl Nix u12).alloc (.cells #[.slice A bs.length c] 28)).trans ho13)
        rw [show [bs].flatten = bs from by simp]
        have hS := U.sm_lt (n := 8) (r := 7) (by decide) (Nat.le_refl _) bs HLt.out
        generalize U.sm 8 7 bs = S at *
        have hS2 : S < 256 := hS
        clear hS HSu
        have hwr : IntKind.u8.wrap (S : Int) = (S : Int) := by rw [IntKind.wrap_u8]; omega
        have hsr := U.src1 u13 S hS2 5
        have HSr := Lib.hid hsr
        have HOwn2 := Lib.hid ((owns_only HOwn.out (ho14.alloc (.cells #[.int .u8 (S : Int)] 5)) (fun _ _ e => e)))
        have hbase : u11.heap.size ≤ (u13.alloc (.cells #[.int .u8 (S : Int)] 5)).heap.size := by have := hsz12.out; have := (ho14.alloc (.cells #[.int .u8 (S : Int)] 5)).size; omega
        have HBs := Lib.hid hbase
        have HOx := Lib.hid (HO2.out.trans (HO13.out.alloc (.cells #[.int .u8 (S : Int)] 5)))
        have hwu : Hid (w.heap.size ≤ u11.heap.size) := Lib.hid (HO2.out.trans K2.out).size
        clear ho13 ho14 hsr hbase
        go_wp2_with (at_builtin; refine U.wpList_append_bytes rfl (.tmp 68) (.tmp 73) rfl u11.heap.size (.slice A bs.length c) bs.length (bs.map byt) rfl HOwn2.out (some ⟨u13.heap.size, 0, none⟩) 1 1 [S] rfl HSr.out (by omega) HBs.out ?rest)
        case rest =>
          intro v' w' hown' hgr _
          obtain ⟨g', c', rfl, _, hcc⟩ := U.owns_none hown' (by simp)
          have hWL : WB.length = bs.length + 1 := by rw [HWB.out]; simp
          have hsz' : (bs ++ [S]).length = bs.length + 1 := by simp
          have hfs : U.Src w' (.slice (some ⟨g', 0, none⟩) (bs.length + [S].length) c') WB := by
            rw [HWB.out]
            refine U.owns_src (n := bs.length + 1) (base := u11.heap.size) (by rw [List.map_append]; exact hown') (by omega) (fun x hx => ?_)
            rcases List.mem_append.1 hx with e | e
            · exact HLt.out x e
            · simp at e; subst e; exact hS2
          have hfo : Only Nix w w' := HOx.out.grown hgr (fun k hk => .inr (by have := (HOwn2.out.lt k hk).1; have := hwu.out; omega))
          have HFS := Lib.hid hfs
          have HFO := Lib.hid hfo
          clear hown' hgr hsz' hfs hfo
          go_wp2
          go_ret2
          refine ⟨some ⟨g', 0, none⟩, c', by rw [hWL] <;> rfl, by rw [hWL]; exact hcc, by rw [hWL]; exact HFS.out, HFO.out⟩
  · have hWr : WB = [] := by rw [HWr.out, if_neg hE]
    subst hWr
    go_wp2
    go_ret2
    exact ⟨none, 0, rfl, Nat.le_refl _, U.Src.nil _, HO2.out⟩
end Go.Proofs.YteahiigfclabfaaDoor.H
