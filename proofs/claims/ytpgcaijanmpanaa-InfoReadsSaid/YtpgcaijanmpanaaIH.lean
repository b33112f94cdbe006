/-
  Covers: what is at odds between an info and pieces.
-/
import Derived.Test.YtpgcaijanmpanaaIG
namespace Go.Proofs.Ytpgcaijanmpanaa
open Go.RowKit Go.Shelf

/-- an info loaded in a region that draws its order -/
theorem step_load_info {w : World} {ops : Array Oper} {o : Oper} {a : Act} {K : Act → World → Prop} {Q : Exit → Act → World → Prop} {E : Prop} (hg : o.guard = none) (x : Operand) (ho : o.op = .load 26 x)
    (b : Nat) (i : Nf) (hx : a.eval x = .pointer (some ⟨b, 0, none⟩)) (hB : Box w b 26 (nfc i)) (hi : SumOk i.s) (h : K (a.put o.dst (.agg (nfc i))) w) : if Region.wanted o (yielded ops a.tmps) = true then Oper.wp Try.prog o a w K Q else E := by
  rw [if_pos (by simp [Region.wanted, hg])]
  exact wp_load_row _ x ho b hx _ _ (0, 0) _ hB Try.underlying26 rfl (by rw [nfc_size hi]; exact Try.size_info) h
theorem wp_load_info {w : World} {o : Oper} {a : Act} {K : Act → World → Prop} {Q : Exit → Act → World → Prop} (x : Operand) (ho : o.op = .load 26 x)
    (b : Nat) (i : Nf) (hx : a.eval x = .pointer (some ⟨b, 0, none⟩)) (hB : Box w b 26 (nfc i)) (hi : SumOk i.s) (h : K (a.put o.dst (.agg (nfc i))) w) : Oper.wp Try.prog o a w K Q :=
  wp_load_row _ x ho b hx _ _ (0, 0) _ hB Try.underlying26 rfl (by rw [nfc_size hi]; exact Try.size_info) h
theorem eval_of {a : Act} {s : Nat} {v : Value} (h : a.tmps[s]? = some v) : a.eval (.tmp s) = v := by
  simp [Act.eval, h]
/-- what is at odds -/
def cvE (i : Nf) (l : List (Int × Int)) : Int := if l = [] then 20 else if l.any (exB i) = true then 22 else if (l.take (l.length - 1)).any (shB i) = true then 22 else if i.t ≠ 0 ∧ i.t ≠ sumB l then 22 else 0
set_option maxRecDepth 100000 in
set_option maxHeartbeats 4000000 in
theorem covers_any {w : World} {v : Value} (i : Nf) (hi : SumOk i.s) {l : List (Int × Int)} (hv : PSrc w v l) (hl : Ok l) :
    Calls Try.prog 22 #[.agg (nfc i), v] w fun e w' => e = .returned (iv (cvE i l)) ∧ Only Nix w w' := by
  obtain ⟨A, c, rfl⟩ := hv.slice
  have hsm := hv.small
  have hcap := hv.cap
  have a1 := (Only.refl Nix w).alloc (.cells (nfc i) 26)
  have b1 := Box.new w 26 (nfc i)
  have q7 := (b1.cell 7).trans (nfc_7 i)
  obtain ⟨C, hC⟩ : ∃ C, nfc i = C := ⟨_, rfl⟩
  rw [hC] at a1 b1 q7
  rw [hC]
  obtain ⟨W1, hW1⟩ : ∃ W1, w.alloc (.cells C 26) = W1 := ⟨_, rfl⟩
  rw [hW1] at a1 b1 q7
  have HC := Lib.hid hC
  have HB := Lib.hid (show Box W1 w.heap.size 26 (nfc i) from by rw [hC]; exact b1)
  have HO := Lib.hid a1
  have HV := Lib.hid (hv.nix a1)
  have HI := Lib.hid hi
  have HL := Lib.hid hl
  have HQ7 := Lib.hid q7
  clear a1 b1 hv hi hl hC q7
  by_cases h0 : l = []
  · subst h0
    have HE : Hid (cvE i [] = 20) := Lib.hid rfl
    go_enter Try.func22, Try.ntmps22
    go_wp2
    go_ret
    exact ⟨by rw [HE.out] <;> rfl, HO.out⟩
  · have h1 : 1 ≤ l.length := by cases l with
      | nil => exact absurd rfl h0
      | cons x q => simp
    have h1i : ¬ ((l.length : Int) = 0) := by omega
    have H0 := Lib.hid h0
    obtain ⟨M, hM⟩ : ∃ M, l.length - 1 = M := ⟨_, rfl⟩
    have hMi : (l.length : Int) - 1 = (M : Int) := by omega
    have hMn : M ≤ l.length := by omega
    have hMk : M ≤ c := by omega
    have HVt := Lib.hid (HV.out.take M c hMn hMk)
    have HE1 := enters_of Try.func36 (by kernel_rfl) rfl
    have HE2 := enters_of Try.func37 (by kernel_rfl) rfl
    have HEq : Hid (cvE i l = if l.any (exB i) = true then 22 else if (l.take M).any (shB i) = true then 22 else if i.t ≠ 0 ∧ i.t ≠ sumB l then 22 else 0) := Lib.hid (by rw [← hM]; exact if_neg h0)
    have HC1 : Hid (∀ u, Only Nix W1 u → Calls Try.prog 35 #[.slice A l.length c, .func (.func 36) #[.agg C] #[]] u fun e w' => e = .returned (.bool (l.any (exB i))) ∧ Only Nix u w') := Lib.hid (fun u hu => by rw [← HC.out]; exact contains_any HE1 (excludes_any i) (HV.out.nix hu))
    have HC2 : Hid (∀ u, Only Nix W1 u → Calls Try.prog 35 #[.slice A M c, .func (.func 37) #[.agg C] #[]] u fun e w' => e = .returned (.bool ((l.take M).any (shB i))) ∧ Only Nix u w') := Lib.hid (fun u hu => by rw [← HC.out]; exact contains_any HE2 (isShort_any i) (HVt.out.nix hu))
    have HC3 : Hid (∀ u, Only Nix W1 u → Calls Try.prog 34 #[.slice A l.length c] u fun e w' => e = .returned (iv (sumB l)) ∧ Only Nix u w') := Lib.hid (fun u hu => samples_any (HV.out.nix hu) HL.out)
    obtain ⟨X1, hX1⟩ : ∃ X, l.any (exB i) = X := ⟨_, rfl⟩
    obtain ⟨X2, hX2⟩ : ∃ X, (l.take M).any (shB i) = X := ⟨_, rfl⟩
    obtain ⟨T, hT⟩ : ∃ X, sumB l = X := ⟨_, rfl⟩
    rw [hX1] at HC1 HEq
    rw [hX2] at HC2 HEq
    rw [hT] at HC3 HEq
    obtain ⟨E, hE⟩ : ∃ E, cvE i l = E := ⟨_, rfl⟩
    rw [hE] at HEq ⊢
    clear h0 HE1 HE2 hX1 hX2 hT hM hE HL
    cases X1 with
    | true =>
      have HF : Hid (E = 22) := Lib.hid HEq.out
      clear HEq
      go_enter Try.func22, Try.ntmps22
      go_wp2_with fail
      have fr_A : ∀ j s, j < 12 → (([some 12, some 13, some 14, some 15, some 16, some 17, some 18, some 19, some 20, some 21, some 22, some 23] : List (Option Nat)).all fun d => d != some s) = true → ([some 12, some 13, some 14, some 15, some 16, some 17, some 18, some 19, some 20, some 21, some 22, some 23] : List (Option Nat)).getD j none ≠ some s := by
        intro j s hj ha e
        rw [List.getD_eq_getElem?_getD, List.getElem?_eq_getElem (by exact hj), Option.getD_some] at e
        have := List.all_eq_true.1 ha _ (List.getElem_mem (by exact hj))
        rw [e] at this
        simp at this
      refine region_tel (by kernel_rfl) (fun k0 => ([some 12, some 13, some 14, some 15, some 16, some 17, some 18, some 19, some 20, some 21, some 22, some 23] : List (Option Nat)).getD k0 none) (PL [eqP (.slice A l.length c), eqP (.agg C), eqP (.func (.func 36) #[.agg C] #[]), eqP (.bool true), eqP (.bool true), eqP (undef), eqP (undef), eqP (undef), eqP (undef), eqP (undef), eqP (undef), eqP (.bool true)]) (fun _ _ => True) (fun _ u => Only Nix W1 u) 34 12 rfl (by kernel_rfl) (by kernel_rfl) rfl (by kernel_rfl) (by kernel_rfl) (stab_all ⟨fun _ _ _ h _ => h, fun _ _ _ h _ => h, fun _ _ _ h _ => h, fun _ _ _ h _ => h, fun _ _ _ h _ => h, fun _ _ _ h _ => h, fun _ _ _ h _ => h, fun _ _ _ h _ => h, fun _ _ _ h _ => h, fun _ _ _ h _ => h, fun _ _ _ h _ => h, fun _ _ _ h _ => h, trivial⟩) ((Only.refl _ _).drew) ?stepsA (fun vs => [(12, vs 0), (13, vs 1), (14, vs 2), (15, vs 3), (16, vs 4), (17, vs 5), (18, vs 6), (19, vs 7), (20, vs 8), (21, vs 9), (22, vs 10), (23, vs 11)]) (fun vs => rfl) ?doneA
      case stepsA =>
        refine ⟨?_, ?_, ?_, ?_, ?_, ?_, ?_, ?_, ?_, ?_, ?_, ?_, trivial⟩
        · intro L vs A' u hW hL0 hnd K' hK
          have hS := hW.wi.s
          have r1 : A'.tmps[1]? = some (.slice A l.length c) := (hW.out 1 (fun j hj => fr_A j 1 hj (by kernel_rfl))).trans rfl
          go_simp
          exact hK _ _ (by first | rfl | (show _ = _; simp)) trivial (hS)
        · intro L vs A' u hW hL0 hnd K' hK
          have hS := hW.wi.s
          have r2 : A'.tmps[2]? = some (.pointer (some ⟨w.heap.size, 0, none⟩)) := (hW.out 2 (fun j hj => fr_A j 2 hj (by kernel_rfl))).trans rfl
          have hb := HB.out.only hS (fun e => e)
          have hx : A'.eval (.tmp 2) = .pointer (some ⟨w.heap.size, 0, none⟩) := eval_of r2
          refine step_load_info rfl (.tmp 2) rfl w.heap.size i hx hb HI.out ?_
          rw [HC.out]
          exact hK _ _ rfl trivial hS
        · intro L vs A' u hW hL0 hnd K' hK
          have hS := hW.wi.s
          have r13 : A'.tmps[13]? = some (.agg C) := by
            obtain ⟨x, e, h⟩ := hW.tel 1 13 (by decide) (hnd 1 (by kernel_rfl)) rfl
            rw [e]; exact congrArg some h
          go_simp
          exact hK _ _ (by first | rfl | (show _ = _; simp)) trivial (hS)
        · intro L vs A' u hW hL0 hnd K' hK
          have hS := hW.wi.s
          have r12 : A'.tmps[12]? = some (.slice A l.length c) := by
            obtain ⟨x, e, h⟩ := hW.tel 0 12 (by decide) (hnd 0 (by kernel_rfl)) rfl
            rw [e]; exact congrArg some h
          have r14 : A'.tmps[14]? = some (.func (.func 36) #[.agg C] #[]) := by
            obtain ⟨x, e, h⟩ := hW.tel 2 14 (by decide) (hnd 2 (by kernel_rfl)) rfl
            rw [e]; exact congrArg some h
          have HCL := Lib.hid (HC1.out u hS)
          go_simp
          refine (HCL.out).mono ?_
          rintro _ u' ⟨rfl, ho2⟩
          exact hK _ _ rfl trivial (hS.trans ho2)
        · intro L vs A' u hW hL0 hnd K' hK
          have hS := hW.wi.s
          have r15 : A'.tmps[15]? = some (.bool true) := by
            obtain ⟨x, e, h⟩ := hW.tel 3 15 (by decide) (hnd 3 (by kernel_rfl)) rfl
            rw [e]; exact congrArg some h
          go_simp
          exact hK _ _ (by first | rfl | (show _ = _; simp)) trivial (hS)
        · intro L vs A' u hW hL0 hnd K' hK
          have hS := hW.wi.s
          have r16 : A'.tmps[16]? = some (.bool true) := by
            obtain ⟨x, e, h⟩ := hW.tel 4 16 (by decide) (hnd 4 (by kernel_rfl)) rfl
            rw [e]; exact congrArg some h
          rw [if_neg (wanted_no (j := 4) (s := 16) (b := false) rfl (by kernel_rfl) r16)]
          exact hK _ _ rfl trivial (hS)
        · intro L vs A' u hW hL0 hnd K' hK
          have hS := hW.wi.s
          have r16 : A'.tmps[16]? = some (.bool true) := by
            obtain ⟨x, e, h⟩ := hW.tel 4 16 (by decide) (hnd 4 (by kernel_rfl)) rfl
            rw [e]; exact congrArg some h
          rw [if_neg (wanted_no (j := 4) (s := 16) (b := false) rfl (by kernel_rfl) r16)]
          exact hK _ _ rfl trivial (hS)
        · intro L vs A' u hW hL0 hnd K' hK
          have hS := hW.wi.s
          have r16 : A'.tmps[16]? = some (.bool true) := by
            obtain ⟨x, e, h⟩ := hW.tel 4 16 (by decide) (hnd 4 (by kernel_rfl)) rfl
            rw [e]; exact congrArg some h
          rw [if_neg (wanted_no (j := 4) (s := 16) (b := false) rfl (by kernel_rfl) r16)]
          exact hK _ _ rfl trivial (hS)
        · intro L vs A' u hW hL0 hnd K' hK
          have hS := hW.wi.s
          have r16 : A'.tmps[16]? = some (.bool true) := by
            obtain ⟨x, e, h⟩ := hW.tel 4 16 (by decide) (hnd 4 (by kernel_rfl)) rfl
            rw [e]; exact congrArg some h
          rw [if_neg (wanted_no (j := 4) (s := 16) (b := false) rfl (by kernel_rfl) r16)]
          exact hK _ _ rfl trivial (hS)
        · intro L vs A' u hW hL0 hnd K' hK
          have hS := hW.wi.s
          have r16 : A'.tmps[16]? = some (.bool true) := by
            obtain ⟨x, e, h⟩ := hW.tel 4 16 (by decide) (hnd 4 (by kernel_rfl)) rfl
            rw [e]; exact congrArg some h
          rw [if_neg (wanted_no (j := 4) (s := 16) (b := false) rfl (by kernel_rfl) r16)]
          exact hK _ _ rfl trivial (hS)
        · intro L vs A' u hW hL0 hnd K' hK
          have hS := hW.wi.s
          have r16 : A'.tmps[16]? = some (.bool true) := by
            obtain ⟨x, e, h⟩ := hW.tel 4 16 (by decide) (hnd 4 (by kernel_rfl)) rfl
            rw [e]; exact congrArg some h
          rw [if_neg (wanted_no (j := 4) (s := 16) (b := false) rfl (by kernel_rfl) r16)]
          exact hK _ _ rfl trivial (hS)
        · intro L vs A' u hW hL0 hnd K' hK
          have hS := hW.wi.s
          have r16 : A'.tmps[16]? = some (.bool true) := by
            obtain ⟨x, e, h⟩ := hW.tel 4 16 (by decide) (hnd 4 (by kernel_rfl)) rfl
            rw [e]; exact congrArg some h
          have r22 : A'.tmps[22]? = some (undef) := by
            obtain ⟨x, e, h⟩ := hW.tel 10 22 (by decide) (hnd 10 (by kernel_rfl)) rfl
            rw [e]; exact congrArg some h
          go_simp
          exact hK _ _ (by first | rfl | (show _ = _; simp)) trivial (hS)
      case doneA =>
        intro L vs u9 hS hP hall
        have e0 : vs 0 = .slice A l.length c := hP 0 (by decide)
        have e1 : vs 1 = .agg C := hP 1 (by decide)
        have e2 : vs 2 = .func (.func 36) #[.agg C] #[] := hP 2 (by decide)
        have e3 : vs 3 = .bool true := hP 3 (by decide)
        have e4 : vs 4 = .bool true := hP 4 (by decide)
        have e5 : vs 5 = undef := hP 5 (by decide)
        have e6 : vs 6 = undef := hP 6 (by decide)
        have e7 : vs 7 = undef := hP 7 (by decide)
        have e8 : vs 8 = undef := hP 8 (by decide)
        have e9 : vs 9 = undef := hP 9 (by decide)
        have e10 : vs 10 = undef := hP 10 (by decide)
        have e11 : vs 11 = .bool true := hP 11 (by decide)
        simp only [putV, List.foldl_cons, List.foldl_nil, List.setIfInBounds_toArray, List.set_cons_zero, List.set_cons_succ, e0, e1, e2, e3, e4, e5, e6, e7, e8, e9, e10, e11]
        have XS := Lib.hid hS
        clear hS e0 e1 e2 e3 e4 e5 e6 e7 e8 e9 e10 e11 hP hall fr_A
        go_wp2
        go_ret
        exact ⟨by rw [HF.out] <;> rfl, HO.out.trans XS.out⟩
    | false =>
      cases X2 with
      | true =>
        have HF : Hid (E = 22) := Lib.hid HEq.out
        clear HEq
        go_enter Try.func22, Try.ntmps22
        go_wp2_with fail
        have fr_B : ∀ j s, j < 12 → (([some 12, some 13, some 14, some 15, some 16, some 17, some 18, some 19, some 20, some 21, some 22, some 23] : List (Option Nat)).all fun d => d != some s) = true → ([some 12, some 13, some 14, some 15, some 16, some 17, some 18, some 19, some 20, some 21, some 22, some 23] : List (Option Nat)).getD j none ≠ some s := by
          intro j s hj ha e
          rw [List.getD_eq_getElem?_getD, List.getElem?_eq_getElem (by exact hj), Option.getD_some] at e
          have := List.all_eq_true.1 ha _ (List.getElem_mem (by exact hj))
          rw [e] at this
          simp at this
        refine region_tel (by kernel_rfl) (fun k0 => ([some 12, some 13, some 14, some 15, some 16, some 17, some 18, some 19, some 20, some 21, some 22, some 23] : List (Option Nat)).getD k0 none) (PL [eqP (.slice A l.length c), eqP (.agg C), eqP (.func (.func 36) #[.agg C] #[]), eqP (.bool false), eqP (.bool false), eqP (.slice A l.length c), eqP (iv M), eqP (.slice A M c), eqP (.agg C), eqP (.func (.func 37) #[.agg C] #[]), eqP (.bool true), eqP (.bool true)]) (fun _ _ => True) (fun _ u => Only Nix W1 u) 34 12 rfl (by kernel_rfl) (by kernel_rfl) rfl (by kernel_rfl) (by kernel_rfl) (stab_all ⟨fun _ _ _ h _ => h, fun _ _ _ h _ => h, fun _ _ _ h _ => h, fun _ _ _ h _ => h, fun _ _ _ h _ => h, fun _ _ _ h _ => h, fun _ _ _ h _ => h, fun _ _ _ h _ => h, fun _ _ _ h _ => h, fun _ _ _ h _ => h, fun _ _ _ h _ => h, fun _ _ _ h _ => h, trivial⟩) ((Only.refl _ _).drew) ?stepsB (fun vs => [(12, vs 0), (13, vs 1), (14, vs 2), (15, vs 3), (16, vs 4), (17, vs 5), (18, vs 6), (19, vs 7), (20, vs 8), (21, vs 9), (22, vs 10), (23, vs 11)]) (fun vs => rfl) ?doneB
        case stepsB =>
          refine ⟨?_, ?_, ?_, ?_, ?_, ?_, ?_, ?_, ?_, ?_, ?_, ?_, trivial⟩
          · intro L vs A' u hW hL0 hnd K' hK
            have hS := hW.wi.s
            have r1 : A'.tmps[1]? = some (.slice A l.length c) := (hW.out 1 (fun j hj => fr_B j 1 hj (by kernel_rfl))).trans rfl
            go_simp
            exact hK _ _ (by first | rfl | (show _ = _; simp)) trivial (hS)
          · intro L vs A' u hW hL0 hnd K' hK
            have hS := hW.wi.s
            have r2 : A'.tmps[2]? = some (.pointer (some ⟨w.heap.size, 0, none⟩)) := (hW.out 2 (fun j hj => fr_B j 2 hj (by kernel_rfl))).trans rfl
            have hb := HB.out.only hS (fun e => e)
            have hx : A'.eval (.tmp 2) = .pointer (some ⟨w.heap.size, 0, none⟩) := eval_of r2
            refine step_load_info rfl (.tmp 2) rfl w.heap.size i hx hb HI.out ?_
            rw [HC.out]
            exact hK _ _ rfl trivial hS
          · intro L vs A' u hW hL0 hnd K' hK
            have hS := hW.wi.s
            have r13 : A'.tmps[13]? = some (.agg C) := by
              obtain ⟨x, e, h⟩ := hW.tel 1 13 (by decide) (hnd 1 (by kernel_rfl)) rfl
              rw [e]; exact congrArg some h
            go_simp
            exact hK _ _ (by first | rfl | (show _ = _; simp)) trivial (hS)
          · intro L vs A' u hW hL0 hnd K' hK
            have hS := hW.wi.s
            have r12 : A'.tmps[12]? = some (.slice A l.length c) := by
              obtain ⟨x, e, h⟩ := hW.tel 0 12 (by decide) (hnd 0 (by kernel_rfl)) rfl
              rw [e]; exact congrArg some h
            have r14 : A'.tmps[14]? = some (.func (.func 36) #[.agg C] #[]) := by
              obtain ⟨x, e, h⟩ := hW.tel 2 14 (by decide) (hnd 2 (by kernel_rfl)) rfl
              rw [e]; exact congrArg some h
            have HCL := Lib.hid (HC1.out u hS)
            go_simp
            refine (HCL.out).mono ?_
            rintro _ u' ⟨rfl, ho2⟩
            exact hK _ _ rfl trivial (hS.trans ho2)
          · intro L vs A' u hW hL0 hnd K' hK
            have hS := hW.wi.s
            have r15 : A'.tmps[15]? = some (.bool false) := by
              obtain ⟨x, e, h⟩ := hW.tel 3 15 (by decide) (hnd 3 (by kernel_rfl)) rfl
              rw [e]; exact congrArg some h
            go_simp
            exact hK _ _ (by first | rfl | (show _ = _; simp)) trivial (hS)
          · intro L vs A' u hW hL0 hnd K' hK
            have hS := hW.wi.s
            have r1 : A'.tmps[1]? = some (.slice A l.length c) := (hW.out 1 (fun j hj => fr_B j 1 hj (by kernel_rfl))).trans rfl
            have r16 : A'.tmps[16]? = some (.bool false) := by
              obtain ⟨x, e, h⟩ := hW.tel 4 16 (by decide) (hnd 4 (by kernel_rfl)) rfl
              rw [e]; exact congrArg some h
            rw [if_pos (wanted_yes (j := 4) (s := 16) (b := false) rfl (by kernel_rfl) r16)]
            go_simp
            exact hK _ _ (by first | rfl | (show _ = _; simp)) trivial (hS)
          · intro L vs A' u hW hL0 hnd K' hK
            have hS := hW.wi.s
            have r5 : A'.tmps[5]? = some (iv M) := (hW.out 5 (fun j hj => fr_B j 5 hj (by kernel_rfl))).trans rfl
            have r16 : A'.tmps[16]? = some (.bool false) := by
              obtain ⟨x, e, h⟩ := hW.tel 4 16 (by decide) (hnd 4 (by kernel_rfl)) rfl
              rw [e]; exact congrArg some h
            rw [if_pos (wanted_yes (j := 4) (s := 16) (b := false) rfl (by kernel_rfl) r16)]
            go_simp
            exact hK _ _ (by first | rfl | (show _ = _; simp)) trivial (hS)
          · intro L vs A' u hW hL0 hnd K' hK
            have hS := hW.wi.s
            have r17 : A'.tmps[17]? = some (.slice A l.length c) := by
              obtain ⟨x, e, h⟩ := hW.tel 5 17 (by decide) (hnd 5 (by kernel_rfl)) rfl
              rw [e]; exact congrArg some h
            have r18 : A'.tmps[18]? = some (iv M) := by
              obtain ⟨x, e, h⟩ := hW.tel 6 18 (by decide) (hnd 6 (by kernel_rfl)) rfl
              rw [e]; exact congrArg some h
            have r16 : A'.tmps[16]? = some (.bool false) := by
              obtain ⟨x, e, h⟩ := hW.tel 4 16 (by decide) (hnd 4 (by kernel_rfl)) rfl
              rw [e]; exact congrArg some h
            rw [if_pos (wanted_yes (j := 4) (s := 16) (b := false) rfl (by kernel_rfl) r16)]
            go_simp
            exact hK _ _ (by first | rfl | (show _ = _; simp)) trivial (hS)
          · intro L vs A' u hW hL0 hnd K' hK
            have hS := hW.wi.s
            have r2 : A'.tmps[2]? = some (.pointer (some ⟨w.heap.size, 0, none⟩)) := (hW.out 2 (fun j hj => fr_B j 2 hj (by kernel_rfl))).trans rfl
            have r16 : A'.tmps[16]? = some (.bool false) := by
              obtain ⟨x, e, h⟩ := hW.tel 4 16 (by decide) (hnd 4 (by kernel_rfl)) rfl
              rw [e]; exact congrArg some h
            rw [if_pos (wanted_yes (j := 4) (s := 16) (b := false) rfl (by kernel_rfl) r16)]
            have hb := HB.out.only hS (fun e => e)
            have hx : A'.eval (.tmp 2) = .pointer (some ⟨w.heap.size, 0, none⟩) := eval_of r2
            refine wp_load_info (.tmp 2) rfl w.heap.size i hx hb HI.out ?_
            rw [HC.out]
            exact hK _ _ rfl trivial hS
          · intro L vs A' u hW hL0 hnd K' hK
            have hS := hW.wi.s
            have r20 : A'.tmps[20]? = some (.agg C) := by
              obtain ⟨x, e, h⟩ := hW.tel 8 20 (by decide) (hnd 8 (by kernel_rfl)) rfl
              rw [e]; exact congrArg some h
            have r16 : A'.tmps[16]? = some (.bool false) := by
              obtain ⟨x, e, h⟩ := hW.tel 4 16 (by decide) (hnd 4 (by kernel_rfl)) rfl
              rw [e]; exact congrArg some h
            rw [if_pos (wanted_yes (j := 4) (s := 16) (b := false) rfl (by kernel_rfl) r16)]
            go_simp
            exact hK _ _ (by first | rfl | (show _ = _; simp)) trivial (hS)
          · intro L vs A' u hW hL0 hnd K' hK
            have hS := hW.wi.s
            have r19 : A'.tmps[19]? = some (.slice A M c) := by
              obtain ⟨x, e, h⟩ := hW.tel 7 19 (by decide) (hnd 7 (by kernel_rfl)) rfl
              rw [e]; exact congrArg some h
            have r21 : A'.tmps[21]? = some (.func (.func 37) #[.agg C] #[]) := by
              obtain ⟨x, e, h⟩ := hW.tel 9 21 (by decide) (hnd 9 (by kernel_rfl)) rfl
              rw [e]; exact congrArg some h
            have r16 : A'.tmps[16]? = some (.bool false) := by
              obtain ⟨x, e, h⟩ := hW.tel 4 16 (by decide) (hnd 4 (by kernel_rfl)) rfl
              rw [e]; exact congrArg some h
            rw [if_pos (wanted_yes (j := 4) (s := 16) (b := false) rfl (by kernel_rfl) r16)]
            have HCL := Lib.hid (HC2.out u hS)
            go_simp
            refine (HCL.out).mono ?_
            rintro _ u' ⟨rfl, ho2⟩
            exact hK _ _ rfl trivial (hS.trans ho2)
          · intro L vs A' u hW hL0 hnd K' hK
            have hS := hW.wi.s
            have r16 : A'.tmps[16]? = some (.bool false) := by
              obtain ⟨x, e, h⟩ := hW.tel 4 16 (by decide) (hnd 4 (by kernel_rfl)) rfl
              rw [e]; exact congrArg some h
            have r22 : A'.tmps[22]? = some (.bool true) := by
              obtain ⟨x, e, h⟩ := hW.tel 10 22 (by decide) (hnd 10 (by kernel_rfl)) rfl
              rw [e]; exact congrArg some h
            go_simp
            exact hK _ _ (by first | rfl | (show _ = _; simp)) trivial (hS)
        case doneB =>
          intro L vs u9 hS hP hall
          have e0 : vs 0 = .slice A l.length c := hP 0 (by decide)
          have e1 : vs 1 = .agg C := hP 1 (by decide)
          have e2 : vs 2 = .func (.func 36) #[.agg C] #[] := hP 2 (by decide)
          have e3 : vs 3 = .bool false := hP 3 (by decide)
          have e4 : vs 4 = .bool false := hP 4 (by decide)
          have e5 : vs 5 = .slice A l.length c := hP 5 (by decide)
          have e6 : vs 6 = iv M := hP 6 (by decide)
          have e7 : vs 7 = .slice A M c := hP 7 (by decide)
          have e8 : vs 8 = .agg C := hP 8 (by decide)
          have e9 : vs 9 = .func (.func 37) #[.agg C] #[] := hP 9 (by decide)
          have e10 : vs 10 = .bool true := hP 10 (by decide)
          have e11 : vs 11 = .bool true := hP 11 (by decide)
          simp only [putV, List.foldl_cons, List.foldl_nil, List.setIfInBounds_toArray, List.set_cons_zero, List.set_cons_succ, e0, e1, e2, e3, e4, e5, e6, e7, e8, e9, e10, e11]
          have XS := Lib.hid hS
          clear hS e0 e1 e2 e3 e4 e5 e6 e7 e8 e9 e10 e11 hP hall fr_B
          go_wp2
          go_ret
          exact ⟨by rw [HF.out] <;> rfl, HO.out.trans XS.out⟩
      | false =>
        have HEq2 : Hid (E = if i.t ≠ 0 ∧ i.t ≠ T then 22 else 0) := Lib.hid HEq.out
        clear HEq
        go_enter Try.func22, Try.ntmps22
        go_wp2_with fail
        have fr_C : ∀ j s, j < 12 → (([some 12, some 13, some 14, some 15, some 16, some 17, some 18, some 19, some 20, some 21, some 22, some 23] : List (Option Nat)).all fun d => d != some s) = true → ([some 12, some 13, some 14, some 15, some 16, some 17, some 18, some 19, some 20, some 21, some 22, some 23] : List (Option Nat)).getD j none ≠ some s := by
          intro j s hj ha e
          rw [List.getD_eq_getElem?_getD, List.getElem?_eq_getElem (by exact hj), Option.getD_some] at e
          have := List.all_eq_true.1 ha _ (List.getElem_mem (by exact hj))
          rw [e] at this
          simp at this
        refine region_tel (by kernel_rfl) (fun k0 => ([some 12, some 13, some 14, some 15, some 16, some 17, some 18, some 19, some 20, some 21, some 22, some 23] : List (Option Nat)).getD k0 none) (PL [eqP (.slice A l.length c), eqP (.agg C), eqP (.func (.func 36) #[.agg C] #[]), eqP (.bool false), eqP (.bool false), eqP (.slice A l.length c), eqP (iv M), eqP (.slice A M c), eqP (.agg C), eqP (.func (.func 37) #[.agg C] #[]), eqP (.bool false), eqP (.bool false)]) (fun _ _ => True) (fun _ u => Only Nix W1 u) 34 12 rfl (by kernel_rfl) (by kernel_rfl) rfl (by kernel_rfl) (by kernel_rfl) (stab_all ⟨fun _ _ _ h _ => h, fun _ _ _ h _ => h, fun _ _ _ h _ => h, fun _ _ _ h _ => h, fun _ _ _ h _ => h, fun _ _ _ h _ => h, fun _ _ _ h _ => h, fun _ _ _ h _ => h, fun _ _ _ h _ => h, fun _ _ _ h _ => h, fun _ _ _ h _ => h, fun _ _ _ h _ => h, trivial⟩) ((Only.refl _ _).drew) ?stepsC (fun vs => [(12, vs 0), (13, vs 1), (14, vs 2), (15, vs 3), (16, vs 4), (17, vs 5), (18, vs 6), (19, vs 7), (20, vs 8), (21, vs 9), (22, vs 10), (23, vs 11)]) (fun vs => rfl) ?doneC
        case stepsC =>
          refine ⟨?_, ?_, ?_, ?_, ?_, ?_, ?_, ?_, ?_, ?_, ?_, ?_, trivial⟩
          · intro L vs A' u hW hL0 hnd K' hK
            have hS := hW.wi.s
            have r1 : A'.tmps[1]? = some (.slice A l.length c) := (hW.out 1 (fun j hj => fr_C j 1 hj (by kernel_rfl))).trans rfl
            go_simp
            exact hK _ _ (by first | rfl | (show _ = _; simp)) trivial (hS)
          · intro L vs A' u hW hL0 hnd K' hK
            have hS := hW.wi.s
            have r2 : A'.tmps[2]? = some (.pointer (some ⟨w.heap.size, 0, none⟩)) := (hW.out 2 (fun j hj => fr_C j 2 hj (by kernel_rfl))).trans rfl
            have hb := HB.out.only hS (fun e => e)
            have hx : A'.eval (.tmp 2) = .pointer (some ⟨w.heap.size, 0, none⟩) := eval_of r2
            refine step_load_info rfl (.tmp 2) rfl w.heap.size i hx hb HI.out ?_
            rw [HC.out]
            exact hK _ _ rfl trivial hS
          · intro L vs A' u hW hL0 hnd K' hK
            have hS := hW.wi.s
            have r13 : A'.tmps[13]? = some (.agg C) := by
              obtain ⟨x, e, h⟩ := hW.tel 1 13 (by decide) (hnd 1 (by kernel_rfl)) rfl
              rw [e]; exact congrArg some h
            go_simp
            exact hK _ _ (by first | rfl | (show _ = _; simp)) trivial (hS)
          · intro L vs A' u hW hL0 hnd K' hK
            have hS := hW.wi.s
            have r12 : A'.tmps[12]? = some (.slice A l.length c) := by
              obtain ⟨x, e, h⟩ := hW.tel 0 12 (by decide) (hnd 0 (by kernel_rfl)) rfl
              rw [e]; exact congrArg some h
            have r14 : A'.tmps[14]? = some (.func (.func 36) #[.agg C] #[]) := by
              obtain ⟨x, e, h⟩ := hW.tel 2 14 (by decide) (hnd 2 (by kernel_rfl)) rfl
              rw [e]; exact congrArg some h
            have HCL := Lib.hid (HC1.out u hS)
            go_simp
            refine (HCL.out).mono ?_
            rintro _ u' ⟨rfl, ho2⟩
            exact hK _ _ rfl trivial (hS.trans ho2)
          · intro L vs A' u hW hL0 hnd K' hK
            have hS := hW.wi.s
            have r15 : A'.tmps[15]? = some (.bool false) := by
              obtain ⟨x, e, h⟩ := hW.tel 3 15 (by decide) (hnd 3 (by kernel_rfl)) rfl
              rw [e]; exact congrArg some h
            go_simp
            exact hK _ _ (by first | rfl | (show _ = _; simp)) trivial (hS)
          · intro L vs A' u hW hL0 hnd K' hK
            have hS := hW.wi.s
            have r1 : A'.tmps[1]? = some (.slice A l.length c) := (hW.out 1 (fun j hj => fr_C j 1 hj (by kernel_rfl))).trans rfl
            have r16 : A'.tmps[16]? = some (.bool false) := by
              obtain ⟨x, e, h⟩ := hW.tel 4 16 (by decide) (hnd 4 (by kernel_rfl)) rfl
              rw [e]; exact congrArg some h
            rw [if_pos (wanted_yes (j := 4) (s := 16) (b := false) rfl (by kernel_rfl) r16)]
            go_simp
            exact hK _ _ (by first | rfl | (show _ = _; simp)) trivial (hS)
          · intro L vs A' u hW hL0 hnd K' hK
            have hS := hW.wi.s
            have r5 : A'.tmps[5]? = some (iv M) := (hW.out 5 (fun j hj => fr_C j 5 hj (by kernel_rfl))).trans rfl
            have r16 : A'.tmps[16]? = some (.bool false) := by
              obtain ⟨x, e, h⟩ := hW.tel 4 16 (by decide) (hnd 4 (by kernel_rfl)) rfl
              rw [e]; exact congrArg some h
            rw [if_pos (wanted_yes (j := 4) (s := 16) (b := false) rfl (by kernel_rfl) r16)]
            go_simp
            exact hK _ _ (by first | rfl | (show _ = _; simp)) trivial (hS)
          · intro L vs A' u hW hL0 hnd K' hK
            have hS := hW.wi.s
            have r17 : A'.tmps[17]? = some (.slice A l.length c) := by
              obtain ⟨x, e, h⟩ := hW.tel 5 17 (by decide) (hnd 5 (by kernel_rfl)) rfl
              rw [e]; exact congrArg some h
            have r18 : A'.tmps[18]? = some (iv M) := by
              obtain ⟨x, e, h⟩ := hW.tel 6 18 (by decide) (hnd 6 (by kernel_rfl)) rfl
              rw [e]; exact congrArg some h
            have r16 : A'.tmps[16]? = some (.bool false) := by
              obtain ⟨x, e, h⟩ := hW.tel 4 16 (by decide) (hnd 4 (by kernel_rfl)) rfl
              rw [e]; exact congrArg some h
            rw [if_pos (wanted_yes (j := 4) (s := 16) (b := false) rfl (by kernel_rfl) r16)]
            go_simp
            exact hK _ _ (by first | rfl | (show _ = _; simp)) trivial (hS)
          · intro L vs A' u hW hL0 hnd K' hK
            have hS := hW.wi.s
            have r2 : A'.tmps[2]? = some (.pointer (some ⟨w.heap.size, 0, none⟩)) := (hW.out 2 (fun j hj => fr_C j 2 hj (by kernel_rfl))).trans rfl
            have r16 : A'.tmps[16]? = some (.bool false) := by
              obtain ⟨x, e, h⟩ := hW.tel 4 16 (by decide) (hnd 4 (by kernel_rfl)) rfl
              rw [e]; exact congrArg some h
            rw [if_pos (wanted_yes (j := 4) (s := 16) (b := false) rfl (by kernel_rfl) r16)]
            have hb := HB.out.only hS (fun e => e)
            have hx : A'.eval (.tmp 2) = .pointer (some ⟨w.heap.size, 0, none⟩) := eval_of r2
            refine wp_load_info (.tmp 2) rfl w.heap.size i hx hb HI.out ?_
            rw [HC.out]
            exact hK _ _ rfl trivial hS
          · intro L vs A' u hW hL0 hnd K' hK
            have hS := hW.wi.s
            have r20 : A'.tmps[20]? = some (.agg C) := by
              obtain ⟨x, e, h⟩ := hW.tel 8 20 (by decide) (hnd 8 (by kernel_rfl)) rfl
              rw [e]; exact congrArg some h
            have r16 : A'.tmps[16]? = some (.bool false) := by
              obtain ⟨x, e, h⟩ := hW.tel 4 16 (by decide) (hnd 4 (by kernel_rfl)) rfl
              rw [e]; exact congrArg some h
            rw [if_pos (wanted_yes (j := 4) (s := 16) (b := false) rfl (by kernel_rfl) r16)]
            go_simp
            exact hK _ _ (by first | rfl | (show _ = _; simp)) trivial (hS)
          · intro L vs A' u hW hL0 hnd K' hK
            have hS := hW.wi.s
            have r19 : A'.tmps[19]? = some (.slice A M c) := by
              obtain ⟨x, e, h⟩ := hW.tel 7 19 (by decide) (hnd 7 (by kernel_rfl)) rfl
              rw [e]; exact congrArg some h
            have r21 : A'.tmps[21]? = some (.func (.func 37) #[.agg C] #[]) := by
              obtain ⟨x, e, h⟩ := hW.tel 9 21 (by decide) (hnd 9 (by kernel_rfl)) rfl
              rw [e]; exact congrArg some h
            have r16 : A'.tmps[16]? = some (.bool false) := by
              obtain ⟨x, e, h⟩ := hW.tel 4 16 (by decide) (hnd 4 (by kernel_rfl)) rfl
              rw [e]; exact congrArg some h
            rw [if_pos (wanted_yes (j := 4) (s := 16) (b := false) rfl (by kernel_rfl) r16)]
            have HCL := Lib.hid (HC2.out u hS)
            go_simp
            refine (HCL.out).mono ?_
            rintro _ u' ⟨rfl, ho2⟩
            exact hK _ _ rfl trivial (hS.trans ho2)
          · intro L vs A' u hW hL0 hnd K' hK
            have hS := hW.wi.s
            have r16 : A'.tmps[16]? = some (.bool false) := by
              obtain ⟨x, e, h⟩ := hW.tel 4 16 (by decide) (hnd 4 (by kernel_rfl)) rfl
              rw [e]; exact congrArg some h
            have r22 : A'.tmps[22]? = some (.bool false) := by
              obtain ⟨x, e, h⟩ := hW.tel 10 22 (by decide) (hnd 10 (by kernel_rfl)) rfl
              rw [e]; exact congrArg some h
            go_simp
            exact hK _ _ (by first | rfl | (show _ = _; simp)) trivial (hS)
        case doneC =>
          intro L vs u9 hS hP hall
          have e0 : vs 0 = .slice A l.length c := hP 0 (by decide)
          have e1 : vs 1 = .agg C := hP 1 (by decide)
          have e2 : vs 2 = .func (.func 36) #[.agg C] #[] := hP 2 (by decide)
          have e3 : vs 3 = .bool false := hP 3 (by decide)
          have e4 : vs 4 = .bool false := hP 4 (by decide)
          have e5 : vs 5 = .slice A l.length c := hP 5 (by decide)
          have e6 : vs 6 = iv M := hP 6 (by decide)
          have e7 : vs 7 = .slice A M c := hP 7 (by decide)
          have e8 : vs 8 = .agg C := hP 8 (by decide)
          have e9 : vs 9 = .func (.func 37) #[.agg C] #[] := hP 9 (by decide)
          have e10 : vs 10 = .bool false := hP 10 (by decide)
          have e11 : vs 11 = .bool false := hP 11 (by decide)
          simp only [putV, List.foldl_cons, List.foldl_nil, List.setIfInBounds_toArray, List.set_cons_zero, List.set_cons_succ, e0, e1, e2, e3, e4, e5, e6, e7, e8, e9, e10, e11]
          have XS := Lib.hid hS
          clear hS e0 e1 e2 e3 e4 e5 e6 e7 e8 e9 e10 e11 hP hall fr_C
          have HQu := Lib.hid (cell_keep XS.out HQ7.out)
          have XQ : Hid (∀ u, Only Nix u9 u → Only Nix W1 u) := Lib.hid (fun u hu => XS.out.trans hu)
          obtain ⟨tt, htt⟩ : ∃ x, i.t = x := ⟨_, rfl⟩
          rw [htt] at HQu HEq2
          clear htt
          by_cases ht0 : tt = 0
          · subst ht0
            have HF : Hid (E = 0) := Lib.hid (by rw [HEq2.out]; simp)
            go_wp2_with fail
            have fr_D : ∀ j s, j < 10 → (([some 24, some 25, some 26, some 27, some 28, some 29, some 30, some 31, some 32, some 33] : List (Option Nat)).all fun d => d != some s) = true → ([some 24, some 25, some 26, some 27, some 28, some 29, some 30, some 31, some 32, some 33] : List (Option Nat)).getD j none ≠ some s := by
              intro j s hj ha e
              rw [List.getD_eq_getElem?_getD, List.getElem?_eq_getElem (by exact hj), Option.getD_some] at e
              have := List.all_eq_true.1 ha _ (List.getElem_mem (by exact hj))
              rw [e] at this
              simp at this
            refine region_tel (by kernel_rfl) (fun k0 => ([some 24, some 25, some 26, some 27, some 28, some 29, some 30, some 31, some 32, some 33] : List (Option Nat)).getD k0 none) (PL [eqP (.pointer (some ⟨w.heap.size, 7, none⟩)), eqP (iv 0), eqP (.bool false), eqP (.bool false), eqP (undef), eqP (undef), eqP (undef), eqP (undef), eqP (undef), eqP (.bool false)]) (fun _ _ => True) (fun _ u => Only Nix u9 u) 34 10 rfl (by kernel_rfl) (by kernel_rfl) rfl (by kernel_rfl) (by kernel_rfl) (stab_all ⟨fun _ _ _ h _ => h, fun _ _ _ h _ => h, fun _ _ _ h _ => h, fun _ _ _ h _ => h, fun _ _ _ h _ => h, fun _ _ _ h _ => h, fun _ _ _ h _ => h, fun _ _ _ h _ => h, fun _ _ _ h _ => h, fun _ _ _ h _ => h, trivial⟩) ((Only.refl _ _).drew) ?stepsD (fun vs => [(24, vs 0), (25, vs 1), (26, vs 2), (27, vs 3), (28, vs 4), (29, vs 5), (30, vs 6), (31, vs 7), (32, vs 8), (33, vs 9)]) (fun vs => rfl) ?doneD
            case stepsD =>
              refine ⟨?_, ?_, ?_, ?_, ?_, ?_, ?_, ?_, ?_, ?_, trivial⟩
              · intro L vs A' u hW hL0 hnd K' hK
                have hS := hW.wi.s
                have r2 : A'.tmps[2]? = some (.pointer (some ⟨w.heap.size, 0, none⟩)) := (hW.out 2 (fun j hj => fr_D j 2 hj (by kernel_rfl))).trans rfl
                go_simp
                exact hK _ _ (by first | rfl | (show _ = _; simp)) trivial (hS)
              · intro L vs A' u hW hL0 hnd K' hK
                have hS := hW.wi.s
                have r24 : A'.tmps[24]? = some (.pointer (some ⟨w.heap.size, 7, none⟩)) := by
                  obtain ⟨x, e, h⟩ := hW.tel 0 24 (by decide) (hnd 0 (by kernel_rfl)) rfl
                  rw [e]; exact congrArg some h
                have hc := cell_keep hS HQu.out
                go_simp
                exact hK _ _ (by first | rfl | (show _ = _; simp)) trivial (hS)
              · intro L vs A' u hW hL0 hnd K' hK
                have hS := hW.wi.s
                have r25 : A'.tmps[25]? = some (iv 0) := by
                  obtain ⟨x, e, h⟩ := hW.tel 1 25 (by decide) (hnd 1 (by kernel_rfl)) rfl
                  rw [e]; exact congrArg some h
                go_simp
                exact hK _ _ (by first | rfl | (show _ = _; simp)) trivial (hS)
              · intro L vs A' u hW hL0 hnd K' hK
                have hS := hW.wi.s
                have r26 : A'.tmps[26]? = some (.bool false) := by
                  obtain ⟨x, e, h⟩ := hW.tel 2 26 (by decide) (hnd 2 (by kernel_rfl)) rfl
                  rw [e]; exact congrArg some h
                go_simp
                exact hK _ _ (by first | rfl | (show _ = _; simp)) trivial (hS)
              · intro L vs A' u hW hL0 hnd K' hK
                have hS := hW.wi.s
                have r27 : A'.tmps[27]? = some (.bool false) := by
                  obtain ⟨x, e, h⟩ := hW.tel 3 27 (by decide) (hnd 3 (by kernel_rfl)) rfl
                  rw [e]; exact congrArg some h
                rw [if_neg (wanted_no (j := 3) (s := 27) (b := true) rfl (by kernel_rfl) r27)]
                exact hK _ _ rfl trivial (hS)
              · intro L vs A' u hW hL0 hnd K' hK
                have hS := hW.wi.s
                have r27 : A'.tmps[27]? = some (.bool false) := by
                  obtain ⟨x, e, h⟩ := hW.tel 3 27 (by decide) (hnd 3 (by kernel_rfl)) rfl
                  rw [e]; exact congrArg some h
                rw [if_neg (wanted_no (j := 3) (s := 27) (b := true) rfl (by kernel_rfl) r27)]
                exact hK _ _ rfl trivial (hS)
              · intro L vs A' u hW hL0 hnd K' hK
                have hS := hW.wi.s
                have r27 : A'.tmps[27]? = some (.bool false) := by
                  obtain ⟨x, e, h⟩ := hW.tel 3 27 (by decide) (hnd 3 (by kernel_rfl)) rfl
                  rw [e]; exact congrArg some h
                rw [if_neg (wanted_no (j := 3) (s := 27) (b := true) rfl (by kernel_rfl) r27)]
                exact hK _ _ rfl trivial (hS)
              · intro L vs A' u hW hL0 hnd K' hK
                have hS := hW.wi.s
                have r27 : A'.tmps[27]? = some (.bool false) := by
                  obtain ⟨x, e, h⟩ := hW.tel 3 27 (by decide) (hnd 3 (by kernel_rfl)) rfl
                  rw [e]; exact congrArg some h
                rw [if_neg (wanted_no (j := 3) (s := 27) (b := true) rfl (by kernel_rfl) r27)]
                exact hK _ _ rfl trivial (hS)
              · intro L vs A' u hW hL0 hnd K' hK
                have hS := hW.wi.s
                have r27 : A'.tmps[27]? = some (.bool false) := by
                  obtain ⟨x, e, h⟩ := hW.tel 3 27 (by decide) (hnd 3 (by kernel_rfl)) rfl
                  rw [e]; exact congrArg some h
                rw [if_neg (wanted_no (j := 3) (s := 27) (b := true) rfl (by kernel_rfl) r27)]
                exact hK _ _ rfl trivial (hS)
              · intro L vs A' u hW hL0 hnd K' hK
                have hS := hW.wi.s
                have r27 : A'.tmps[27]? = some (.bool false) := by
                  obtain ⟨x, e, h⟩ := hW.tel 3 27 (by decide) (hnd 3 (by kernel_rfl)) rfl
                  rw [e]; exact congrArg some h
                have r32 : A'.tmps[32]? = some (undef) := by
                  obtain ⟨x, e, h⟩ := hW.tel 8 32 (by decide) (hnd 8 (by kernel_rfl)) rfl
                  rw [e]; exact congrArg some h
                go_simp
                exact hK _ _ (by first | rfl | (show _ = _; simp)) trivial (hS)
            case doneD =>
              intro L vs u8 hS hP hall
              have e0 : vs 0 = .pointer (some ⟨w.heap.size, 7, none⟩) := hP 0 (by decide)
              have e1 : vs 1 = iv 0 := hP 1 (by decide)
              have e2 : vs 2 = .bool false := hP 2 (by decide)
              have e3 : vs 3 = .bool false := hP 3 (by decide)
              have e4 : vs 4 = undef := hP 4 (by decide)
              have e5 : vs 5 = undef := hP 5 (by decide)
              have e6 : vs 6 = undef := hP 6 (by decide)
              have e7 : vs 7 = undef := hP 7 (by decide)
              have e8 : vs 8 = undef := hP 8 (by decide)
              have e9 : vs 9 = .bool false := hP 9 (by decide)
              simp only [putV, List.foldl_cons, List.foldl_nil, List.setIfInBounds_toArray, List.set_cons_zero, List.set_cons_succ, e0, e1, e2, e3, e4, e5, e6, e7, e8, e9]
              have YS := Lib.hid hS
              clear hS e0 e1 e2 e3 e4 e5 e6 e7 e8 e9 hP hall fr_D
              go_wp2
              go_ret
              exact ⟨by rw [HF.out] <;> rfl, HO.out.trans (XQ.out _ YS.out)⟩
          · by_cases htT : tt = T
            · subst htT
              have HF : Hid (E = 0) := Lib.hid (by rw [HEq2.out]; simp)
              go_wp2_with fail
              have fr_E : ∀ j s, j < 10 → (([some 24, some 25, some 26, some 27, some 28, some 29, some 30, some 31, some 32, some 33] : List (Option Nat)).all fun d => d != some s) = true → ([some 24, some 25, some 26, some 27, some 28, some 29, some 30, some 31, some 32, some 33] : List (Option Nat)).getD j none ≠ some s := by
                intro j s hj ha e
                rw [List.getD_eq_getElem?_getD, List.getElem?_eq_getElem (by exact hj), Option.getD_some] at e
                have := List.all_eq_true.1 ha _ (List.getElem_mem (by exact hj))
                rw [e] at this
                simp at this
              refine region_tel (by kernel_rfl) (fun k0 => ([some 24, some 25, some 26, some 27, some 28, some 29, some 30, some 31, some 32, some 33] : List (Option Nat)).getD k0 none) (PL [eqP (.pointer (some ⟨w.heap.size, 7, none⟩)), eqP (iv tt), eqP (.bool true), eqP (.bool true), eqP (.pointer (some ⟨w.heap.size, 7, none⟩)), eqP (iv tt), eqP (.slice A l.length c), eqP (iv tt), eqP (.bool false), eqP (.bool false)]) (fun _ _ => True) (fun _ u => Only Nix u9 u) 34 10 rfl (by kernel_rfl) (by kernel_rfl) rfl (by kernel_rfl) (by kernel_rfl) (stab_all ⟨fun _ _ _ h _ => h, fun _ _ _ h _ => h, fun _ _ _ h _ => h, fun _ _ _ h _ => h, fun _ _ _ h _ => h, fun _ _ _ h _ => h, fun _ _ _ h _ => h, fun _ _ _ h _ => h, fun _ _ _ h _ => h, fun _ _ _ h _ => h, trivial⟩) ((Only.refl _ _).drew) ?stepsE (fun vs => [(24, vs 0), (25, vs 1), (26, vs 2), (27, vs 3), (28, vs 4), (29, vs 5), (30, vs 6), (31, vs 7), (32, vs 8), (33, vs 9)]) (fun vs => rfl) ?doneE
              case stepsE =>
                refine ⟨?_, ?_, ?_, ?_, ?_, ?_, ?_, ?_, ?_, ?_, trivial⟩
                · intro L vs A' u hW hL0 hnd K' hK
                  have hS := hW.wi.s
                  have r2 : A'.tmps[2]? = some (.pointer (some ⟨w.heap.size, 0, none⟩)) := (hW.out 2 (fun j hj => fr_E j 2 hj (by kernel_rfl))).trans rfl
                  go_simp
                  exact hK _ _ (by first | rfl | (show _ = _; simp)) trivial (hS)
                · intro L vs A' u hW hL0 hnd K' hK
                  have hS := hW.wi.s
                  have r24 : A'.tmps[24]? = some (.pointer (some ⟨w.heap.size, 7, none⟩)) := by
                    obtain ⟨x, e, h⟩ := hW.tel 0 24 (by decide) (hnd 0 (by kernel_rfl)) rfl
                    rw [e]; exact congrArg some h
                  have hc := cell_keep hS HQu.out
                  go_simp
                  exact hK _ _ (by first | rfl | (show _ = _; simp)) trivial (hS)
                · intro L vs A' u hW hL0 hnd K' hK
                  have hS := hW.wi.s
                  have r25 : A'.tmps[25]? = some (iv tt) := by
                    obtain ⟨x, e, h⟩ := hW.tel 1 25 (by decide) (hnd 1 (by kernel_rfl)) rfl
                    rw [e]; exact congrArg some h
                  go_simp
                  exact hK _ _ (by show _ = _; simp [ht0]) trivial hS
                · intro L vs A' u hW hL0 hnd K' hK
                  have hS := hW.wi.s
                  have r26 : A'.tmps[26]? = some (.bool true) := by
                    obtain ⟨x, e, h⟩ := hW.tel 2 26 (by decide) (hnd 2 (by kernel_rfl)) rfl
                    rw [e]; exact congrArg some h
                  go_simp
                  exact hK _ _ (by first | rfl | (show _ = _; simp)) trivial (hS)
                · intro L vs A' u hW hL0 hnd K' hK
                  have hS := hW.wi.s
                  have r2 : A'.tmps[2]? = some (.pointer (some ⟨w.heap.size, 0, none⟩)) := (hW.out 2 (fun j hj => fr_E j 2 hj (by kernel_rfl))).trans rfl
                  have r27 : A'.tmps[27]? = some (.bool true) := by
                    obtain ⟨x, e, h⟩ := hW.tel 3 27 (by decide) (hnd 3 (by kernel_rfl)) rfl
                    rw [e]; exact congrArg some h
                  rw [if_pos (wanted_yes (j := 3) (s := 27) (b := true) rfl (by kernel_rfl) r27)]
                  go_simp
                  exact hK _ _ (by first | rfl | (show _ = _; simp)) trivial (hS)
                · intro L vs A' u hW hL0 hnd K' hK
                  have hS := hW.wi.s
                  have r28 : A'.tmps[28]? = some (.pointer (some ⟨w.heap.size, 7, none⟩)) := by
                    obtain ⟨x, e, h⟩ := hW.tel 4 28 (by decide) (hnd 4 (by kernel_rfl)) rfl
                    rw [e]; exact congrArg some h
                  have r27 : A'.tmps[27]? = some (.bool true) := by
                    obtain ⟨x, e, h⟩ := hW.tel 3 27 (by decide) (hnd 3 (by kernel_rfl)) rfl
                    rw [e]; exact congrArg some h
                  rw [if_pos (wanted_yes (j := 3) (s := 27) (b := true) rfl (by kernel_rfl) r27)]
                  have hc := cell_keep hS HQu.out
                  go_simp
                  exact hK _ _ (by first | rfl | (show _ = _; simp)) trivial (hS)
                · intro L vs A' u hW hL0 hnd K' hK
                  have hS := hW.wi.s
                  have r1 : A'.tmps[1]? = some (.slice A l.length c) := (hW.out 1 (fun j hj => fr_E j 1 hj (by kernel_rfl))).trans rfl
                  have r27 : A'.tmps[27]? = some (.bool true) := by
                    obtain ⟨x, e, h⟩ := hW.tel 3 27 (by decide) (hnd 3 (by kernel_rfl)) rfl
                    rw [e]; exact congrArg some h
                  rw [if_pos (wanted_yes (j := 3) (s := 27) (b := true) rfl (by kernel_rfl) r27)]
                  go_simp
                  exact hK _ _ (by first | rfl | (show _ = _; simp)) trivial (hS)
                · intro L vs A' u hW hL0 hnd K' hK
                  have hS := hW.wi.s
                  have r30 : A'.tmps[30]? = some (.slice A l.length c) := by
                    obtain ⟨x, e, h⟩ := hW.tel 6 30 (by decide) (hnd 6 (by kernel_rfl)) rfl
                    rw [e]; exact congrArg some h
                  have r27 : A'.tmps[27]? = some (.bool true) := by
                    obtain ⟨x, e, h⟩ := hW.tel 3 27 (by decide) (hnd 3 (by kernel_rfl)) rfl
                    rw [e]; exact congrArg some h
                  rw [if_pos (wanted_yes (j := 3) (s := 27) (b := true) rfl (by kernel_rfl) r27)]
                  have HCL := Lib.hid (HC3.out u (XQ.out u hS))
                  go_simp
                  refine (HCL.out).mono ?_
                  rintro _ u' ⟨rfl, ho2⟩
                  exact hK _ _ rfl trivial (hS.trans ho2)
                · intro L vs A' u hW hL0 hnd K' hK
                  have hS := hW.wi.s
                  have r29 : A'.tmps[29]? = some (iv tt) := by
                    obtain ⟨x, e, h⟩ := hW.tel 5 29 (by decide) (hnd 5 (by kernel_rfl)) rfl
                    rw [e]; exact congrArg some h
                  have r31 : A'.tmps[31]? = some (iv tt) := by
                    obtain ⟨x, e, h⟩ := hW.tel 7 31 (by decide) (hnd 7 (by kernel_rfl)) rfl
                    rw [e]; exact congrArg some h
                  have r27 : A'.tmps[27]? = some (.bool true) := by
                    obtain ⟨x, e, h⟩ := hW.tel 3 27 (by decide) (hnd 3 (by kernel_rfl)) rfl
                    rw [e]; exact congrArg some h
                  rw [if_pos (wanted_yes (j := 3) (s := 27) (b := true) rfl (by kernel_rfl) r27)]
                  go_simp
                  exact hK _ _ (by show _ = _; simp) trivial hS
                · intro L vs A' u hW hL0 hnd K' hK
                  have hS := hW.wi.s
                  have r27 : A'.tmps[27]? = some (.bool true) := by
                    obtain ⟨x, e, h⟩ := hW.tel 3 27 (by decide) (hnd 3 (by kernel_rfl)) rfl
                    rw [e]; exact congrArg some h
                  have r32 : A'.tmps[32]? = some (.bool false) := by
                    obtain ⟨x, e, h⟩ := hW.tel 8 32 (by decide) (hnd 8 (by kernel_rfl)) rfl
                    rw [e]; exact congrArg some h
                  go_simp
                  exact hK _ _ (by first | rfl | (show _ = _; simp)) trivial (hS)
              case doneE =>
                intro L vs u8 hS hP hall
                have e0 : vs 0 = .pointer (some ⟨w.heap.size, 7, none⟩) := hP 0 (by decide)
                have e1 : vs 1 = iv tt := hP 1 (by decide)
                have e2 : vs 2 = .bool true := hP 2 (by decide)
                have e3 : vs 3 = .bool true := hP 3 (by decide)
                have e4 : vs 4 = .pointer (some ⟨w.heap.size, 7, none⟩) := hP 4 (by decide)
                have e5 : vs 5 = iv tt := hP 5 (by decide)
                have e6 : vs 6 = .slice A l.length c := hP 6 (by decide)
                have e7 : vs 7 = iv tt := hP 7 (by decide)
                have e8 : vs 8 = .bool false := hP 8 (by decide)
                have e9 : vs 9 = .bool false := hP 9 (by decide)
                simp only [putV, List.foldl_cons, List.foldl_nil, List.setIfInBounds_toArray, List.set_cons_zero, List.set_cons_succ, e0, e1, e2, e3, e4, e5, e6, e7, e8, e9]
                have YS := Lib.hid hS
                clear hS e0 e1 e2 e3 e4 e5 e6 e7 e8 e9 hP hall fr_E
                go_wp2
                go_ret
                exact ⟨by rw [HF.out] <;> rfl, HO.out.trans (XQ.out _ YS.out)⟩
            · have HF : Hid (E = 22) := Lib.hid (by rw [HEq2.out, if_pos ⟨ht0, htT⟩])
              go_wp2_with fail
              have fr_F : ∀ j s, j < 10 → (([some 24, some 25, some 26, some 27, some 28, some 29, some 30, some 31, some 32, some 33] : List (Option Nat)).all fun d => d != some s) = true → ([some 24, some 25, some 26, some 27, some 28, some 29, some 30, some 31, some 32, some 33] : List (Option Nat)).getD j none ≠ some s := by
                intro j s hj ha e
                rw [List.getD_eq_getElem?_getD, List.getElem?_eq_getElem (by exact hj), Option.getD_some] at e
                have := List.all_eq_true.1 ha _ (List.getElem_mem (by exact hj))
                rw [e] at this
                simp at this
              refine region_tel (by kernel_rfl) (fun k0 => ([some 24, some 25, some 26, some 27, some 28, some 29, some 30, some 31, some 32, some 33] : List (Option Nat)).getD k0 none) (PL [eqP (.pointer (some ⟨w.heap.size, 7, none⟩)), eqP (iv tt), eqP (.bool true), eqP (.bool true), eqP (.pointer (some ⟨w.heap.size, 7, none⟩)), eqP (iv tt), eqP (.slice A l.length c), eqP (iv T), eqP (.bool true), eqP (.bool true)]) (fun _ _ => True) (fun _ u => Only Nix u9 u) 34 10 rfl (by kernel_rfl) (by kernel_rfl) rfl (by kernel_rfl) (by kernel_rfl) (stab_all ⟨fun _ _ _ h _ => h, fun _ _ _ h _ => h, fun _ _ _ h _ => h, fun _ _ _ h _ => h, fun _ _ _ h _ => h, fun _ _ _ h _ => h, fun _ _ _ h _ => h, fun _ _ _ h _ => h, fun _ _ _ h _ => h, fun _ _ _ h _ => h, trivial⟩) ((Only.refl _ _).drew) ?stepsF (fun vs => [(24, vs 0), (25, vs 1), (26, vs 2), (27, vs 3), (28, vs 4), (29, vs 5), (30, vs 6), (31, vs 7), (32, vs 8), (33, vs 9)]) (fun vs => rfl) ?doneF
              case stepsF =>
                refine ⟨?_, ?_, ?_, ?_, ?_, ?_, ?_, ?_, ?_, ?_, trivial⟩
                · intro L vs A' u hW hL0 hnd K' hK
                  have hS := hW.wi.s
                  have r2 : A'.tmps[2]? = some (.pointer (some ⟨w.heap.size, 0, none⟩)) := (hW.out 2 (fun j hj => fr_F j 2 hj (by kernel_rfl))).trans rfl
                  go_simp
                  exact hK _ _ (by first | rfl | (show _ = _; simp)) trivial (hS)
                · intro L vs A' u hW hL0 hnd K' hK
                  have hS := hW.wi.s
                  have r24 : A'.tmps[24]? = some (.pointer (some ⟨w.heap.size, 7, none⟩)) := by
                    obtain ⟨x, e, h⟩ := hW.tel 0 24 (by decide) (hnd 0 (by kernel_rfl)) rfl
                    rw [e]; exact congrArg some h
                  have hc := cell_keep hS HQu.out
                  go_simp
                  exact hK _ _ (by first | rfl | (show _ = _; simp)) trivial (hS)
                · intro L vs A' u hW hL0 hnd K' hK
                  have hS := hW.wi.s
                  have r25 : A'.tmps[25]? = some (iv tt) := by
                    obtain ⟨x, e, h⟩ := hW.tel 1 25 (by decide) (hnd 1 (by kernel_rfl)) rfl
                    rw [e]; exact congrArg some h
                  go_simp
                  exact hK _ _ (by show _ = _; simp [ht0]) trivial hS
                · intro L vs A' u hW hL0 hnd K' hK
                  have hS := hW.wi.s
                  have r26 : A'.tmps[26]? = some (.bool true) := by
                    obtain ⟨x, e, h⟩ := hW.tel 2 26 (by decide) (hnd 2 (by kernel_rfl)) rfl
                    rw [e]; exact congrArg some h
                  go_simp
                  exact hK _ _ (by first | rfl | (show _ = _; simp)) trivial (hS)
                · intro L vs A' u hW hL0 hnd K' hK
                  have hS := hW.wi.s
                  have r2 : A'.tmps[2]? = some (.pointer (some ⟨w.heap.size, 0, none⟩)) := (hW.out 2 (fun j hj => fr_F j 2 hj (by kernel_rfl))).trans rfl
                  have r27 : A'.tmps[27]? = some (.bool true) := by
                    obtain ⟨x, e, h⟩ := hW.tel 3 27 (by decide) (hnd 3 (by kernel_rfl)) rfl
                    rw [e]; exact congrArg some h
                  rw [if_pos (wanted_yes (j := 3) (s := 27) (b := true) rfl (by kernel_rfl) r27)]
                  go_simp
                  exact hK _ _ (by first | rfl | (show _ = _; simp)) trivial (hS)
                · intro L vs A' u hW hL0 hnd K' hK
                  have hS := hW.wi.s
                  have r28 : A'.tmps[28]? = some (.pointer (some ⟨w.heap.size, 7, none⟩)) := by
                    obtain ⟨x, e, h⟩ := hW.tel 4 28 (by decide) (hnd 4 (by kernel_rfl)) rfl
                    rw [e]; exact congrArg some h
                  have r27 : A'.tmps[27]? = some (.bool true) := by
                    obtain ⟨x, e, h⟩ := hW.tel 3 27 (by decide) (hnd 3 (by kernel_rfl)) rfl
                    rw [e]; exact congrArg some h
                  rw [if_pos (wanted_yes (j := 3) (s := 27) (b := true) rfl (by kernel_rfl) r27)]
                  have hc := cell_keep hS HQu.out
                  go_simp
                  exact hK _ _ (by first | rfl | (show _ = _; simp)) trivial (hS)
                · intro L vs A' u hW hL0 hnd K' hK
                  have hS := hW.wi.s
                  have r1 : A'.tmps[1]? = some (.slice A l.length c) := (hW.out 1 (fun j hj => fr_F j 1 hj (by kernel_rfl))).trans rfl
                  have r27 : A'.tmps[27]? = some (.bool true) := by
                    obtain ⟨x, e, h⟩ := hW.tel 3 27 (by decide) (hnd 3 (by kernel_rfl)) rfl
                    rw [e]; exact congrArg some h
                  rw [if_pos (wanted_yes (j := 3) (s := 27) (b := true) rfl (by kernel_rfl) r27)]
                  go_simp
                  exact hK _ _ (by first | rfl | (show _ = _; simp)) trivial (hS)
                · intro L vs A' u hW hL0 hnd K' hK
                  have hS := hW.wi.s
                  have r30 : A'.tmps[30]? = some (.slice A l.length c) := by
                    obtain ⟨x, e, h⟩ := hW.tel 6 30 (by decide) (hnd 6 (by kernel_rfl)) rfl
                    rw [e]; exact congrArg some h
                  have r27 : A'.tmps[27]? = some (.bool true) := by
                    obtain ⟨x, e, h⟩ := hW.tel 3 27 (by decide) (hnd 3 (by kernel_rfl)) rfl
                    rw [e]; exact congrArg some h
                  rw [if_pos (wanted_yes (j := 3) (s := 27) (b := true) rfl (by kernel_rfl) r27)]
                  have HCL := Lib.hid (HC3.out u (XQ.out u hS))
                  go_simp
                  refine (HCL.out).mono ?_
                  rintro _ u' ⟨rfl, ho2⟩
                  exact hK _ _ rfl trivial (hS.trans ho2)
                · intro L vs A' u hW hL0 hnd K' hK
                  have hS := hW.wi.s
                  have r29 : A'.tmps[29]? = some (iv tt) := by
                    obtain ⟨x, e, h⟩ := hW.tel 5 29 (by decide) (hnd 5 (by kernel_rfl)) rfl
                    rw [e]; exact congrArg some h
                  have r31 : A'.tmps[31]? = some (iv T) := by
                    obtain ⟨x, e, h⟩ := hW.tel 7 31 (by decide) (hnd 7 (by kernel_rfl)) rfl
                    rw [e]; exact congrArg some h
                  have r27 : A'.tmps[27]? = some (.bool true) := by
                    obtain ⟨x, e, h⟩ := hW.tel 3 27 (by decide) (hnd 3 (by kernel_rfl)) rfl
                    rw [e]; exact congrArg some h
                  rw [if_pos (wanted_yes (j := 3) (s := 27) (b := true) rfl (by kernel_rfl) r27)]
                  go_simp
                  exact hK _ _ (by show _ = _; simp [htT]) trivial hS
                · intro L vs A' u hW hL0 hnd K' hK
                  have hS := hW.wi.s
                  have r27 : A'.tmps[27]? = some (.bool true) := by
                    obtain ⟨x, e, h⟩ := hW.tel 3 27 (by decide) (hnd 3 (by kernel_rfl)) rfl
                    rw [e]; exact congrArg some h
                  have r32 : A'.tmps[32]? = some (.bool true) := by
                    obtain ⟨x, e, h⟩ := hW.tel 8 32 (by decide) (hnd 8 (by kernel_rfl)) rfl
                    rw [e]; exact congrArg some h
                  go_simp
                  exact hK _ _ (by first | rfl | (show _ = _; simp)) trivial (hS)
              case doneF =>
                intro L vs u8 hS hP hall
                have e0 : vs 0 = .pointer (some ⟨w.heap.size, 7, none⟩) := hP 0 (by decide)
                have e1 : vs 1 = iv tt := hP 1 (by decide)
                have e2 : vs 2 = .bool true := hP 2 (by decide)
                have e3 : vs 3 = .bool true := hP 3 (by decide)
                have e4 : vs 4 = .pointer (some ⟨w.heap.size, 7, none⟩) := hP 4 (by decide)
                have e5 : vs 5 = iv tt := hP 5 (by decide)
                have e6 : vs 6 = .slice A l.length c := hP 6 (by decide)
                have e7 : vs 7 = iv T := hP 7 (by decide)
                have e8 : vs 8 = .bool true := hP 8 (by decide)
                have e9 : vs 9 = .bool true := hP 9 (by decide)
                simp only [putV, List.foldl_cons, List.foldl_nil, List.setIfInBounds_toArray, List.set_cons_zero, List.set_cons_succ, e0, e1, e2, e3, e4, e5, e6, e7, e8, e9]
                have YS := Lib.hid hS
                clear hS e0 e1 e2 e3 e4 e5 e6 e7 e8 e9 hP hall fr_F
                go_wp2
                go_ret
                exact ⟨by rw [HF.out] <;> rfl, HO.out.trans (XQ.out _ YS.out)⟩
end Go.Proofs.Ytpgcaijanmpanaa
