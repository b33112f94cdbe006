/-
  sumOf: the sum of what two channels are turned into.
-/
import Derived.Test.YtmnogedkinhljaaEP
namespace Go.Proofs.Ytmnogedkinhljaa
open Go.RowKit Go.Shelf

/-- the sum of the first j -/
def mgN (f g : Int → Int → Int) (xs ys : List Int) : Nat → Nat
  | 0 => 0
  | j + 1 => mgN f g xs ys j + ((f (xs.getD j 0) (ys.getD j 0)).natAbs + (g (xs.getD j 0) (ys.getD j 0)).natAbs)
theorem mgN_bound {f g : Int → Int → Int} {xs ys : List Int} (hb : ∀ j, (f (xs.getD j 0) (ys.getD j 0)).natAbs ≤ 2199023255552 ∧ (g (xs.getD j 0) (ys.getD j 0)).natAbs ≤ 2199023255552) (j : Nat) : mgN f g xs ys j ≤ 4398046511104 * j := by
  induction j with
  | zero => simp [mgN]
  | succ j ih =>
    have := hb j
    simp only [mgN]
    omega
theorem getD_isN {xs : List Int} (h : ∀ x ∈ xs, isN x) (j : Nat) : isN (xs.getD j 0) := by
  by_cases hj : j < xs.length
  · rw [List.getD_eq_getElem?_getD, List.getElem?_eq_getElem hj]
    exact h _ (List.getElem_mem hj)
  · rw [List.getD_eq_getElem?_getD, List.getElem?_eq_none (by omega)]
    show isN 0
    decide
structure SuL (w : World) (z n : Nat) (f g : Int → Int → Int) (xs ys : List Int) (s : Value) (wr : World) : Prop where
  ex : ∃ j : Nat, j ≤ n ∧ s = iv j ∧ Box wr z 47 #[.int .u64 0, .int .u64 (mgN f g xs ys j : Int)]
  only : Only Nix w wr
set_option maxRecDepth 100000 in
set_option maxHeartbeats 4000000 in
theorem sumOf_any {w : World} {k : FuncId} {f g : Int → Int → Int} {n c m d : Nat} {A B : Option Addr} {xs ys : List Int} (hE : Enters Try.prog k) (hT : TurnC k f g)
    (hx : ISrc w (.slice A n c) xs) (hy : ISrc w (.slice B m d) ys) (hn : n ≤ 1000) (hnm : n = m) (hxn : ∀ x ∈ xs, isN x) (hyn : ∀ y ∈ ys, isN y)
    (hb : ∀ l r, isN l → isN r → (-2199023255552 ≤ f l r ∧ f l r ≤ 2199023255552) ∧ (-2199023255552 ≤ g l r ∧ g l r ≤ 2199023255552)) :
    Calls Try.prog 21 #[.func (.func k) #[] #[], .slice A n c, .slice B m d] w fun e w' => e = .returned (mgV (mgN f g xs ys n)) ∧ Only Nix w w' := by
  subst hnm
  have hen : ∀ args w, (callFunc k args).run Try.prog w = .ok (.enter k args) w := hE
  have hxl := hx.len
  have hyl := hy.len
  have HB : Hid (∀ j, mgN f g xs ys j ≤ 4398046511104 * j) := Lib.hid (mgN_bound (fun j => by
    have := hb _ _ (getD_isN hxn j) (getD_isN hyn j)
    omega))
  have HF := Lib.hid (fun j => hb _ _ (getD_isN hxn j) (getD_isN hyn j))
  have HT := Lib.hid (fun u j => hT u _ _ (getD_isN hxn j) (getD_isN hyn j))
  have HS : Hid (∀ j, mgN f g xs ys (j + 1) = mgN f g xs ys j + ((f (xs.getD j 0) (ys.getD j 0)).natAbs + (g (xs.getD j 0) (ys.getD j 0)).natAbs)) := Lib.hid (fun j => rfl)
  have HX := Lib.hid hx
  have HY := Lib.hid hy
  have Hxl := Lib.hid hxl
  have Hyl := Lib.hid hyl
  have b0 := Box.new w 47 #[.int .u64 0, .int .u64 0]
  have o0 : Only Nix w (w.alloc (.cells #[.int .u64 0, .int .u64 0] 47)) := (Only.refl Nix w).alloc _
  have B0 := Lib.hid b0
  have O0 := Lib.hid o0
  clear hx hy hxl hyl hE hT hb hxn hyn b0 o0
  go_enter Try.func21, Try.ntmps21
  go_wp2
  go_loopw [12] (fun s wr => SuL w w.heap.size n f g xs ys s wr) (fun s _ => n - (intOf s).toNat)
  case atStart => exact ⟨⟨0, Nat.zero_le _, rfl, B0.out⟩, O0.out⟩
  case round =>
    obtain ⟨⟨j, hj, rfl, hbx⟩, hO⟩ := hrel
    have HBx := Lib.hid hbx
    have HO := Lib.hid hO
    clear hbx hO B0 O0
    by_cases hlt : j < n
    · have hltx : j < xs.length := by rw [← Hxl.out]; exact hlt
      have hlty : j < ys.length := by rw [← Hyl.out]; exact hlt
      obtain ⟨ad, rfl, hcx⟩ := (HX.out.nix HO.out).at_ hltx
      obtain ⟨bd, rfl, hcy⟩ := (HY.out.nix HO.out).at_ hlty
      have ex : xs[j] = xs.getD j 0 := by rw [List.getD_eq_getElem?_getD, List.getElem?_eq_getElem hltx]; rfl
      have ey : ys[j] = ys.getD j 0 := by rw [List.getD_eq_getElem?_getD, List.getElem?_eq_getElem hlty]; rfl
      rw [ex] at hcx
      rw [ey] at hcy
      have hlti : (j : Int) < (n : Int) := by omega
      have HTj := Lib.hid (fun u => HT.out u j)
      have hFj := HF.out j
      have HSj := Lib.hid (HS.out j)
      have hM := HB.out j
      have hM2 : mgN f g xs ys j ≤ 4398046511104000 := by omega
      have HBj := Lib.hid HBx.out
      clear hM ex ey HS HB HBx
      generalize f (xs.getD j 0) (ys.getD j 0) = p at *
      generalize g (xs.getD j 0) (ys.getD j 0) = q at *
      generalize xs.getD j 0 = x at *
      generalize ys.getD j 0 = y at *
      obtain ⟨M, hM⟩ : ∃ M, mgN f g xs ys j = M := ⟨_, rfl⟩
      rw [hM] at HBj HSj hM2
      have HCX := Lib.hid hcx
      have HCY := Lib.hid hcy
      clear hltx hlty hM hcx hcy
      obtain ⟨P, hP⟩ : ∃ P, p.natAbs = P := ⟨_, rfl⟩
      obtain ⟨R, hR⟩ : ∃ R, q.natAbs = R := ⟨_, rfl⟩
      rw [hP, hR] at HSj
      have hPb : P ≤ 2199023255552 := by omega
      have hRb : R ≤ 2199023255552 := by omega
      have HPl : ∀ (u : World) (V : Int), V = ((P + R : Nat) : Int) → Hid (Calls Try.prog 28 #[mgV M, .int .u64 V] u fun e w' => e = .returned (mgV (M + (P + R))) ∧ Only Nix u w') := fun u V hV => Lib.hid (by rw [hV]; exact plus_any u M (P + R) (by omega))
      go_wp2_with fail
      have fr_R : ∀ j s, j < 15 → (([some 16, some 17, some 18, some 19, some 20, some 21, some 22, some 23, some 24, some 25, some 15, some 26, some 27, some 8, some 9] : List (Option Nat)).all fun d => d != some s) = true → ([some 16, some 17, some 18, some 19, some 20, some 21, some 22, some 23, some 24, some 25, some 15, some 26, some 27, some 8, some 9] : List (Option Nat)).getD j none ≠ some s := by
        intro j s hj ha e
        rw [List.getD_eq_getElem?_getD, List.getElem?_eq_getElem (by exact hj), Option.getD_some] at e
        have := List.all_eq_true.1 ha _ (List.getElem_mem (by exact hj))
        rw [e] at this
        simp at this
      refine region_tel (by kernel_rfl) (fun k0 => ([some 16, some 17, some 18, some 19, some 20, some 21, some 22, some 23, some 24, some 25, some 15, some 26, some 27, some 8, some 9] : List (Option Nat)).getD k0 none) (PL [eqP (.func (.func k) #[] #[]), eqP (.slice (some ad) n c), eqP (iv j), eqP (.pointer (some (ad.add j))), eqP (iv x), eqP (.slice (some bd) n d), eqP (iv j), eqP (.pointer (some (bd.add j))), eqP (iv y), eqP (.tuple #[iv p, iv q]), eqP (.tuple #[iv p, iv q]), eqP (iv p), eqP (iv q), eqP (iv p), eqP (iv q)]) (fun _ _ => True) (fun _ u => Only Nix wr u) 42 15 rfl (by kernel_rfl) (by kernel_rfl) rfl (by kernel_rfl) (by kernel_rfl) (stab_all ⟨fun _ _ _ h _ => h, fun _ _ _ h _ => h, fun _ _ _ h _ => h, fun _ _ _ h _ => h, fun _ _ _ h _ => h, fun _ _ _ h _ => h, fun _ _ _ h _ => h, fun _ _ _ h _ => h, fun _ _ _ h _ => h, fun _ _ _ h _ => h, fun _ _ _ h _ => h, fun _ _ _ h _ => h, fun _ _ _ h _ => h, fun _ _ _ h _ => h, fun _ _ _ h _ => h, trivial⟩) ((Only.refl _ _).drew) ?stepsR (fun vs => [(16, vs 0), (17, vs 1), (18, vs 2), (19, vs 3), (20, vs 4), (21, vs 5), (22, vs 6), (23, vs 7), (24, vs 8), (25, vs 9), (15, vs 10), (26, vs 11), (27, vs 12), (8, vs 13), (9, vs 14)]) (fun vs => rfl) ?doneR
      case stepsR =>
        refine ⟨?_, ?_, ?_, ?_, ?_, ?_, ?_, ?_, ?_, ?_, ?_, ?_, ?_, ?_, ?_, trivial⟩
        · intro L vs A' u hW hL0 hnd K' hK
          have hS := hW.wi.s
          have r0 : A'.tmps[0]? = some (.func (.func k) #[] #[]) := (hW.out 0 (fun j hj => fr_R j 0 hj (by kernel_rfl))).trans rfl
          go_simp
          exact hK _ _ (by first | rfl | (show _ = _; simp)) trivial (hS)
        · intro L vs A' u hW hL0 hnd K' hK
          have hS := hW.wi.s
          have r1 : A'.tmps[1]? = some (.slice (some ad) n c) := (hW.out 1 (fun j hj => fr_R j 1 hj (by kernel_rfl))).trans rfl
          go_simp
          exact hK _ _ (by first | rfl | (show _ = _; simp)) trivial (hS)
        · intro L vs A' u hW hL0 hnd K' hK
          have hS := hW.wi.s
          have r7 : A'.tmps[7]? = some (iv j) := (hW.out 7 (fun j hj => fr_R j 7 hj (by kernel_rfl))).trans rfl
          go_simp
          exact hK _ _ (by first | rfl | (show _ = _; simp)) trivial (hS)
        · intro L vs A' u hW hL0 hnd K' hK
          have hS := hW.wi.s
          have r17 : A'.tmps[17]? = some (.slice (some ad) n c) := by
            obtain ⟨x, e, h⟩ := hW.tel 1 17 (by decide) (hnd 1 (by kernel_rfl)) rfl
            rw [e]; exact congrArg some h
          have r18 : A'.tmps[18]? = some (iv j) := by
            obtain ⟨x, e, h⟩ := hW.tel 2 18 (by decide) (hnd 2 (by kernel_rfl)) rfl
            rw [e]; exact congrArg some h
          go_simp
          exact hK _ _ (by first | rfl | (show _ = _; simp)) trivial (hS)
        · intro L vs A' u hW hL0 hnd K' hK
          have hS := hW.wi.s
          have r19 : A'.tmps[19]? = some (.pointer (some (ad.add j))) := by
            obtain ⟨x, e, h⟩ := hW.tel 3 19 (by decide) (hnd 3 (by kernel_rfl)) rfl
            rw [e]; exact congrArg some h
          have hc := cell_keep hS HCX.out
          go_simp
          exact hK _ _ (by first | rfl | (show _ = _; simp)) trivial (hS)
        · intro L vs A' u hW hL0 hnd K' hK
          have hS := hW.wi.s
          have r2 : A'.tmps[2]? = some (.slice (some bd) n d) := (hW.out 2 (fun j hj => fr_R j 2 hj (by kernel_rfl))).trans rfl
          go_simp
          exact hK _ _ (by first | rfl | (show _ = _; simp)) trivial (hS)
        · intro L vs A' u hW hL0 hnd K' hK
          have hS := hW.wi.s
          have r7 : A'.tmps[7]? = some (iv j) := (hW.out 7 (fun j hj => fr_R j 7 hj (by kernel_rfl))).trans rfl
          go_simp
          exact hK _ _ (by first | rfl | (show _ = _; simp)) trivial (hS)
        · intro L vs A' u hW hL0 hnd K' hK
          have hS := hW.wi.s
          have r21 : A'.tmps[21]? = some (.slice (some bd) n d) := by
            obtain ⟨x, e, h⟩ := hW.tel 5 21 (by decide) (hnd 5 (by kernel_rfl)) rfl
            rw [e]; exact congrArg some h
          have r22 : A'.tmps[22]? = some (iv j) := by
            obtain ⟨x, e, h⟩ := hW.tel 6 22 (by decide) (hnd 6 (by kernel_rfl)) rfl
            rw [e]; exact congrArg some h
          go_simp
          exact hK _ _ (by first | rfl | (show _ = _; simp)) trivial (hS)
        · intro L vs A' u hW hL0 hnd K' hK
          have hS := hW.wi.s
          have r23 : A'.tmps[23]? = some (.pointer (some (bd.add j))) := by
            obtain ⟨x, e, h⟩ := hW.tel 7 23 (by decide) (hnd 7 (by kernel_rfl)) rfl
            rw [e]; exact congrArg some h
          have hc := cell_keep hS HCY.out
          go_simp
          exact hK _ _ (by first | rfl | (show _ = _; simp)) trivial (hS)
        · intro L vs A' u hW hL0 hnd K' hK
          have hS := hW.wi.s
          have r16 : A'.tmps[16]? = some (.func (.func k) #[] #[]) := by
            obtain ⟨x, e, h⟩ := hW.tel 0 16 (by decide) (hnd 0 (by kernel_rfl)) rfl
            rw [e]; exact congrArg some h
          have r20 : A'.tmps[20]? = some (iv x) := by
            obtain ⟨x, e, h⟩ := hW.tel 4 20 (by decide) (hnd 4 (by kernel_rfl)) rfl
            rw [e]; exact congrArg some h
          have r24 : A'.tmps[24]? = some (iv y) := by
            obtain ⟨x, e, h⟩ := hW.tel 8 24 (by decide) (hnd 8 (by kernel_rfl)) rfl
            rw [e]; exact congrArg some h
          have HCL := Lib.hid (HTj.out u)
          go_simp
          refine (HCL.out).mono ?_
          rintro _ u' ⟨rfl, rfl⟩
          exact hK _ _ rfl trivial hS
        · intro L vs A' u hW hL0 hnd K' hK
          have hS := hW.wi.s
          have r25 : A'.tmps[25]? = some (.tuple #[iv p, iv q]) := by
            obtain ⟨x, e, h⟩ := hW.tel 9 25 (by decide) (hnd 9 (by kernel_rfl)) rfl
            rw [e]; exact congrArg some h
          go_simp
          exact hK _ _ (by first | rfl | (show _ = _; simp)) trivial (hS)
        · intro L vs A' u hW hL0 hnd K' hK
          have hS := hW.wi.s
          have r15 : A'.tmps[15]? = some (.tuple #[iv p, iv q]) := by
            obtain ⟨x, e, h⟩ := hW.tel 10 15 (by decide) (hnd 10 (by kernel_rfl)) rfl
            rw [e]; exact congrArg some h
          go_simp
          exact hK _ _ (by first | rfl | (show _ = _; simp)) trivial (hS)
        · intro L vs A' u hW hL0 hnd K' hK
          have hS := hW.wi.s
          have r15 : A'.tmps[15]? = some (.tuple #[iv p, iv q]) := by
            obtain ⟨x, e, h⟩ := hW.tel 10 15 (by decide) (hnd 10 (by kernel_rfl)) rfl
            rw [e]; exact congrArg some h
          go_simp
          exact hK _ _ (by first | rfl | (show _ = _; simp)) trivial (hS)
        · intro L vs A' u hW hL0 hnd K' hK
          have hS := hW.wi.s
          have r26 : A'.tmps[26]? = some (iv p) := by
            obtain ⟨x, e, h⟩ := hW.tel 11 26 (by decide) (hnd 11 (by kernel_rfl)) rfl
            rw [e]; exact congrArg some h
          go_simp
          exact hK _ _ (by first | rfl | (show _ = _; simp)) trivial (hS)
        · intro L vs A' u hW hL0 hnd K' hK
          have hS := hW.wi.s
          have r27 : A'.tmps[27]? = some (iv q) := by
            obtain ⟨x, e, h⟩ := hW.tel 12 27 (by decide) (hnd 12 (by kernel_rfl)) rfl
            rw [e]; exact congrArg some h
          go_simp
          exact hK _ _ (by first | rfl | (show _ = _; simp)) trivial (hS)
      case doneR =>
        intro L vs u9 hS hP hall
        have e0 : vs 0 = .func (.func k) #[] #[] := hP 0 (by decide)
        have e1 : vs 1 = .slice (some ad) n c := hP 1 (by decide)
        have e2 : vs 2 = iv j := hP 2 (by decide)
        have e3 : vs 3 = .pointer (some (ad.add j)) := hP 3 (by decide)
        have e4 : vs 4 = iv x := hP 4 (by decide)
        have e5 : vs 5 = .slice (some bd) n d := hP 5 (by decide)
        have e6 : vs 6 = iv j := hP 6 (by decide)
        have e7 : vs 7 = .pointer (some (bd.add j)) := hP 7 (by decide)
        have e8 : vs 8 = iv y := hP 8 (by decide)
        have e9 : vs 9 = .tuple #[iv p, iv q] := hP 9 (by decide)
        have e10 : vs 10 = .tuple #[iv p, iv q] := hP 10 (by decide)
        have e11 : vs 11 = iv p := hP 11 (by decide)
        have e12 : vs 12 = iv q := hP 12 (by decide)
        have e13 : vs 13 = iv p := hP 13 (by decide)
        have e14 : vs 14 = iv q := hP 14 (by decide)
        simp only [putV, List.foldl_cons, List.foldl_nil, List.setIfInBounds_toArray, List.set_cons_zero, List.set_cons_succ, e0, e1, e2, e3, e4, e5, e6, e7, e8, e9, e10, e11, e12, e13, e14]
        have XO := Lib.hid (HO.out.trans hS)
        have XB := Lib.hid (HBj.out.only hS (fun e => e))
        clear hS e0 e1 e2 e3 e4 e5 e6 e7 e8 e9 e10 e11 e12 e13 e14 hP hall fr_R
        have c0 := XB.out.cell 0
        have c1 := XB.out.cell 1
        have f0 := XB.out.frozen 0
        have f1 := XB.out.frozen 1
        simp only [List.getElem?_toArray, List.getElem?_cons_zero, List.getElem?_cons_succ] at c0 c1
        go_wp2_with fail
        all_goals
          refine ((HPl _ _ (by omega)).out).mono ?_
          rintro e w3 ⟨rfl, o3⟩
          have XB3 := Lib.hid (XB.out.only o3 (fun e => e))
          have X3 := Lib.hid (XO.out.trans o3)
          have c0 := XB3.out.cell 0
          have c1 := XB3.out.cell 1
          have f0 := XB3.out.frozen 0
          have f1 := XB3.out.frozen 1
          simp only [List.getElem?_toArray, List.getElem?_cons_zero, List.getElem?_cons_succ] at c0 c1
          have XB4 := Lib.hid ((XB3.out.put 0 (.int .u64 0)).put 1 (.int .u64 ((M : Int) + ((P : Int) + (R : Int)))))
          have X4 := Lib.hid ((X3.out.setCell (p := ⟨w.heap.size, 0, none⟩) (.inr (Nat.le_refl _)) (.int .u64 0)).setCell (p := ⟨w.heap.size, 1, none⟩) (.inr (Nat.le_refl _)) (.int .u64 ((M : Int) + ((P : Int) + (R : Int)))))
          clear o3
          go_wp2
          go_roundw
          case rel => exact ⟨⟨j + 1, hlt, by go_num, by rw [HSj.out]; exact XB4.out⟩, X4.out⟩
          case measure => simp [intOf]; omega
    · obtain rfl : j = n := by omega
      have c0 := HBx.out.cell 0
      have c1 := HBx.out.cell 1
      have f0 := HBx.out.frozen 0
      have f1 := HBx.out.frozen 1
      simp only [List.getElem?_toArray, List.getElem?_cons_zero, List.getElem?_cons_succ] at c0 c1
      have HO4 := Lib.hid ((HO.out.setCell (p := ⟨w.heap.size, 0, none⟩) (.inr (Nat.le_refl _)) (.int .u64 0)).setCell (p := ⟨w.heap.size, 1, none⟩) (.inr (Nat.le_refl _)) (.int .u64 (mgN f g xs ys j : Int)))
      go_wp2
      refine bodyPost_ret (v := mgV (mgN f g xs ys j)) ?_ rfl ⟨rfl, HO4.out⟩
      simp [results, Try.f21, go_sem, c0, c1]
end Go.Proofs.Ytmnogedkinhljaa
