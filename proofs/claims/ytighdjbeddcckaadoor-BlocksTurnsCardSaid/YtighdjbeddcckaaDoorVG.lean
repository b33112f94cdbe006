/-
  What is wrong with points: inOrder.
-/
import Derived.Test.YtighdjbeddcckaaDoorVF
import Derived.WalkMore
namespace Go.Proofs.YtighdjbeddcckaaDoor
open Go.RowKit Go.Shelf

theorem eval_of {A : Act} {s : Nat} {v : Value} (h : A.tmps[s]? = some v) : A.eval (.tmp s) = v := by
  show A.tmps.getD s undef = v
  rw [Array.getD_eq_getD_getElem?, h]; rfl
/-- the j-th of them -/
def gt (l : List Pt) (j : Nat) : Pt := l.getD j (0, 0, 0)
theorem gt_eq {l : List Pt} {j : Nat} (h : j < l.length) : gt l j = l[j] := by
  unfold gt
  rw [List.getD_eq_getElem?_getD, List.getElem?_eq_getElem h, Option.getD_some]
/-- the first n of them stand in order -/
def ordN (l : List Pt) (n : Nat) : Prop := ∀ i, i < n → 0 < i → folT (gt l i) (gt l (i - 1))
instance (l : List Pt) (n : Nat) : Decidable (ordN l n) := by unfold ordN; infer_instance
def mayN (l : List Pt) (n : Nat) : Prop := ∀ i, i < n → mayT (gt l i)
instance (l : List Pt) (n : Nat) : Decidable (mayN l n) := by unfold mayN; infer_instance
theorem ordN_one {l : List Pt} {n : Nat} (h : ordN l n) (h2 : 0 < n → folT (gt l n) (gt l (n - 1))) : ordN l (n + 1) := fun i hi h0 => by
  rcases Nat.lt_succ_iff_lt_or_eq.1 hi with h3 | rfl
  · exact h i h3 h0
  · exact h2 h0
theorem mayN_one {l : List Pt} {n : Nat} (h : mayN l n) (h2 : mayT (gt l n)) : mayN l (n + 1) := fun i hi => by
  rcases Nat.lt_succ_iff_lt_or_eq.1 hi with h3 | rfl
  · exact h i h3
  · exact h2
/-- what is wrong with them -/
def orE (l : List Pt) : Int := if mayN l l.length then (if ordN l l.length then 0 else 18) else 10
def erN (l : List Pt) (n : Nat) : Int := if ordN l n then 0 else 18
theorem erN_no {l : List Pt} {n : Nat} (h0 : 0 < n) (h2 : ¬ folT (gt l n) (gt l (n - 1))) : erN l (n + 1) = 18 := if_neg (fun h => h2 (h n (Nat.lt_succ_self n) h0))
theorem erN_yes {l : List Pt} {n : Nat} (h2 : 0 < n → folT (gt l n) (gt l (n - 1))) : erN l (n + 1) = erN l n := by
  unfold erN
  by_cases h : ordN l n
  · rw [if_pos h, if_pos (ordN_one h h2)]
  · rw [if_neg h, if_neg (fun hh => h (fun i hi => hh i (by omega)))]
def InO (w : World) (l : List Pt) (s3 s8 : Value) (wr : World) : Prop := ∃ j : Nat, j ≤ l.length ∧ s8 = iv j ∧ mayN l j ∧ s3 = iv (erN l j) ∧ Only Nix w wr
theorem erN_cases (l : List Pt) (n : Nat) : erN l n = 0 ∨ erN l n = 18 := by unfold erN; split <;> simp
set_option maxRecDepth 100000 in
set_option maxHeartbeats 4000000 in
theorem inOrder_any {w : World} {A : Option Addr} {n c : Nat} {l : List Pt} (hs : TSrc w (.slice A n c) l) : Calls Tryd.prog 22 #[.slice A n c] w fun e w' => e = .returned (iv (orE l)) ∧ Only Nix w w' := by
  have hlen := hs.len
  have hsm := hs.small
  have HS := Lib.hid hs
  subst hlen
  clear hs
  have HMy : Hid (∀ p u, F3 p → Calls Tryd.prog 25 #[p3 p] u fun e w' => e = .returned (.bool (decide (mayT p))) ∧ Only Nix u w') := Lib.hid (fun p u hp => mayBe_any p hp)
  have HFo : Hid (∀ p q u, F3 p → F3 q → Calls Tryd.prog 26 #[p3 p, p3 q] u fun e w' => e = .returned (.bool (decide (folT p q))) ∧ Only Nix u w') := Lib.hid (fun p q u hp hq => follows_any p q hp hq)
  go_enter Tryd.func22, Tryd.ntmps22
  go_wp2
  go_step3
  go_wp2
  go_step3
  go_wp2
  go_loopw [3, 8] (fun s3 s8 wr => InO w l s3 s8 wr) (fun _ s8 _ => l.length - (intOf s8).toNat)
  case atStart => exact ⟨0, Nat.zero_le _, rfl, fun i hi => absurd hi (by omega), by rw [show erN l 0 = 0 from if_pos (fun i hi => absurd hi (by omega))], Only.refl _ _⟩
  case round =>
    obtain ⟨j, hj, rfl, hm, rfl, ho⟩ := hrel
    have HM := Lib.hid hm
    have HO := Lib.hid ho
    clear hm ho
    by_cases hlt : j < l.length
    · obtain ⟨ad, rfl, hx0, hx1, hx2⟩ := (HS.out.nix HO.out).at_ hlt
      have hF := HS.out.fits _ (List.getElem_mem hlt)
      have hgt := gt_eq hlt
      have hlti : (j : Int) < (l.length : Int) := by omega
      rw [← hgt] at hx0 hx1 hx2 hF
      have HP1 := Lib.hid (fun u => HMy.out (gt l j) u hF)
      have HFp := Lib.hid hF
      have HBx := Lib.hid (Box.new wr 46 #[iv (gt l j).1, iv (gt l j).2.1, iv (gt l j).2.2])
      have HO1 := Lib.hid (HO.out.alloc (.cells #[iv (gt l j).1, iv (gt l j).2.1, iv (gt l j).2.2] 46))
      have HO1r := Lib.hid ((Only.refl Nix wr).alloc (.cells #[iv (gt l j).1, iv (gt l j).2.1, iv (gt l j).2.2] 46))
      obtain ⟨W1, hW1⟩ : ∃ W1, wr.alloc (.cells #[iv (gt l j).1, iv (gt l j).2.1, iv (gt l j).2.2] 46) = W1 := ⟨_, rfl⟩
      rw [hW1] at HBx HO1 HO1r
      have HE := Lib.hid (HP1.out W1)
      have b0 := HBx.out.cell 0
      have b1 := HBx.out.cell 1
      have b2 := HBx.out.cell 2
      simp only [List.getElem?_toArray, List.getElem?_cons_zero, List.getElem?_cons_succ] at b0 b1 b2
      clear hF hgt HP1
      by_cases hmy : mayT (gt l j)
      · have HMj := Lib.hid (mayN_one HM.out hmy)
        rw [decide_eq_true hmy] at HE
        clear hmy
        rcases Nat.eq_zero_or_pos j with h0 | h0
        · have HEr : Hid (erN l (j + 1) = erN l j) := Lib.hid (erN_yes (fun h => by omega))
          have h0i : decide ((j : Int) > 0) = false := by simp; omega
          have h0j : decide ((0 : Int) < (j : Int)) = false := by simp; omega
          have h0k : decide (0 < j) = false := by simp; omega
          clear h0
          go_wp2_with fail
          refine (HE.out).mono ?_
          rintro e w2 ⟨rfl, o2⟩
          have HO2 := Lib.hid (HO1.out.trans o2)
          clear o2
          go_wp2
          go_quiet (fail)
          go_wp2
          go_roundw
          case rel => exact ⟨j + 1, hlt, by go_num, HMj.out, by rw [HEr.out], HO2.out.drewN _⟩
          case measure => simp [intOf]; omega
        · have hj1 : j - 1 < l.length := by omega
          have HSq := Lib.hid HS.out
          have hFq := HS.out.fits _ (List.getElem_mem hj1)
          have hgq := gt_eq hj1
          rw [← hgq] at hFq
          have HCq : Hid (∀ u, Only Nix wr u → u.cell? (ad.add ((j - 1) * 3)) = some (iv (gt l (j - 1)).1) ∧ u.cell? ⟨(ad.add ((j - 1) * 3)).block, (ad.add ((j - 1) * 3)).off + 1, none⟩ = some (iv (gt l (j - 1)).2.1) ∧ u.cell? ⟨(ad.add ((j - 1) * 3)).block, (ad.add ((j - 1) * 3)).off + 2, none⟩ = some (iv (gt l (j - 1)).2.2)) := Lib.hid (fun u hu => by
            obtain ⟨ad', e, y0, y1, y2⟩ := (HS.out.nix (HO.out.trans hu)).at_ hj1
            injection e with e
            subst e
            rw [hgq]
            exact ⟨y0, y1, y2⟩)
          have HF2 := Lib.hid (fun u => HFo.out (gt l j) (gt l (j - 1)) u HFp.out hFq)
          have h0i : (0 : Int) < (j : Int) := by omega
          have hjj : (j : Int) - 1 = ((j - 1 : Nat) : Int) := by omega
          have hjl : ((j - 1 : Nat) : Int) < (l.length : Int) := by omega
          have HEr : Hid (if folT (gt l j) (gt l (j - 1)) then erN l (j + 1) = erN l j else erN l (j + 1) = 18) := Lib.hid (by
            split
            · rename_i h; exact erN_yes (fun _ => h)
            · rename_i h; exact erN_no h0 h)
          have HFD : Hid (decide (folT (gt l j) (gt l (j - 1))) = true ↔ folT (gt l j) (gt l (j - 1))) := Lib.hid decide_eq_true_iff
          obtain ⟨Fb, hFb⟩ : ∃ Fb, decide (folT (gt l j) (gt l (j - 1))) = Fb := ⟨_, rfl⟩
          rw [hFb] at HFD HF2
          have HEr2 : Hid (erN l (j + 1) = if Fb = true then erN l j else 18) := Lib.hid (by
            have := HEr.out
            by_cases h : Fb = true
            · rw [if_pos (HFD.out.1 h)] at this
              rw [if_pos h]; exact this
            · rw [if_neg (fun hh => h (HFD.out.2 hh))] at this
              rw [if_neg h]; exact this)
          obtain ⟨q, hq⟩ : ∃ q, j - 1 = q := ⟨_, rfl⟩
          rw [hq] at HCq HF2 hjj hjl
          generalize gt l j = P at *
          generalize gt l q = R at *
          clear hFq hgq hFb HEr HFD hq hj1
          go_wp2_with fail
          refine (HE.out).mono ?_
          rintro e w2 ⟨rfl, o2⟩
          have HO2 := Lib.hid (HO1.out.trans o2)
          have HO2r := Lib.hid (HO1r.out.trans o2)
          have HB2 := Lib.hid (HBx.out.only o2 (fun e => e))
          clear o2
          go_wp2_with fail
          have fr_R : ∀ j s, j < 13 → (([some 18, some 19, some 20, some 21, some 22, some 23, some 24, some 25, some 26, some 27, some 28, some 29, some 17] : List (Option Nat)).all fun d => d != some s) = true → ([some 18, some 19, some 20, some 21, some 22, some 23, some 24, some 25, some 26, some 27, some 28, some 29, some 17] : List (Option Nat)).getD j none ≠ some s := by
            intro j s hj ha e
            rw [List.getD_eq_getElem?_getD, List.getElem?_eq_getElem (by exact hj), Option.getD_some] at e
            have := List.all_eq_true.1 ha _ (List.getElem_mem (by exact hj))
            rw [e] at this
            simp at this
          refine region_tel (by kernel_rfl) (fun k0 => ([some 18, some 19, some 20, some 21, some 22, some 23, some 24, some 25, some 26, some 27, some 28, some 29, some 17] : List (Option Nat)).getD k0 none) (PL [eqP (iv j), eqP (.bool true), eqP (.bool true), eqP (p3 P), eqP (.slice (some ad) l.length c), eqP (iv j), eqP (iv q), eqP (.pointer (some (ad.add (q * 3)))), eqP (p3 R), eqP (.bool Fb), eqP (.bool (!Fb)), eqP (.bool (!Fb)), eqP (.bool (!Fb))]) (fun _ _ => True) (fun _ u => Only Nix w2 u) 32 13 rfl (by kernel_rfl) (by kernel_rfl) rfl (by kernel_rfl) (by kernel_rfl) (stab_all ⟨fun _ _ _ h _ => h, fun _ _ _ h _ => h, fun _ _ _ h _ => h, fun _ _ _ h _ => h, fun _ _ _ h _ => h, fun _ _ _ h _ => h, fun _ _ _ h _ => h, fun _ _ _ h _ => h, fun _ _ _ h _ => h, fun _ _ _ h _ => h, fun _ _ _ h _ => h, fun _ _ _ h _ => h, fun _ _ _ h _ => h, trivial⟩) ((Only.refl _ _).drew) ?stepsR (fun vs => [(18, vs 0), (19, vs 1), (20, vs 2), (21, vs 3), (22, vs 4), (23, vs 5), (24, vs 6), (25, vs 7), (26, vs 8), (27, vs 9), (28, vs 10), (29, vs 11), (17, vs 12)]) (fun vs => rfl) ?doneR
          case stepsR =>
            refine ⟨?_, ?_, ?_, ?_, ?_, ?_, ?_, ?_, ?_, ?_, ?_, ?_, ?_, trivial⟩
            · intro L vs A' u hW hL0 hnd K' hK
              have hS := hW.wi.s
              have r4 : A'.tmps[4]? = some (iv j) := (hW.out 4 (fun j hj => fr_R j 4 hj (by kernel_rfl))).trans rfl
              go_simp
              exact hK _ _ (by first | rfl | (show _ = _; simp)) trivial (hS)
            · intro L vs A' u hW hL0 hnd K' hK
              have hS := hW.wi.s
              have r18 : A'.tmps[18]? = some (iv j) := by
                obtain ⟨x, e, h⟩ := hW.tel 0 18 (by decide) (hnd 0 (by kernel_rfl)) rfl
                rw [e]; exact congrArg some h
              go_simp
              exact hK _ _ (by first | rfl | (show _ = _; simp; done) | (show _ = _; simp; exact h0)) trivial (hS)
            · intro L vs A' u hW hL0 hnd K' hK
              have hS := hW.wi.s
              have r19 : A'.tmps[19]? = some (.bool true) := by
                obtain ⟨x, e, h⟩ := hW.tel 1 19 (by decide) (hnd 1 (by kernel_rfl)) rfl
                rw [e]; exact congrArg some h
              go_simp
              exact hK _ _ (by first | rfl | (show _ = _; simp)) trivial (hS)
            · intro L vs A' u hW hL0 hnd K' hK
              have hS := hW.wi.s
              have r5 : A'.tmps[5]? = some (.pointer (some ⟨wr.heap.size, 0, none⟩)) := (hW.out 5 (fun j hj => fr_R j 5 hj (by kernel_rfl))).trans rfl
              have r20 : A'.tmps[20]? = some (.bool true) := by
                obtain ⟨x, e, h⟩ := hW.tel 2 20 (by decide) (hnd 2 (by kernel_rfl)) rfl
                rw [e]; exact congrArg some h
              rw [if_pos (wanted_yes (j := 2) (s := 20) (b := true) rfl (by kernel_rfl) r20)]
              have hb := HB2.out.only hS (fun e => e)
              have b0 := hb.cell 0
              have b1 := hb.cell 1
              have b2 := hb.cell 2
              simp only [List.getElem?_toArray, List.getElem?_cons_zero, List.getElem?_cons_succ] at b0 b1 b2
              go_simp
              exact hK _ _ (by first | rfl | (show _ = _; simp)) trivial (hS)
            · intro L vs A' u hW hL0 hnd K' hK
              have hS := hW.wi.s
              have r0 : A'.tmps[0]? = some (.slice (some ad) l.length c) := (hW.out 0 (fun j hj => fr_R j 0 hj (by kernel_rfl))).trans rfl
              have r20 : A'.tmps[20]? = some (.bool true) := by
                obtain ⟨x, e, h⟩ := hW.tel 2 20 (by decide) (hnd 2 (by kernel_rfl)) rfl
                rw [e]; exact congrArg some h
              rw [if_pos (wanted_yes (j := 2) (s := 20) (b := true) rfl (by kernel_rfl) r20)]
              go_simp
              exact hK _ _ (by first | rfl | (show _ = _; simp)) trivial (hS)
            · intro L vs A' u hW hL0 hnd K' hK
              have hS := hW.wi.s
              have r4 : A'.tmps[4]? = some (iv j) := (hW.out 4 (fun j hj => fr_R j 4 hj (by kernel_rfl))).trans rfl
              have r20 : A'.tmps[20]? = some (.bool true) := by
                obtain ⟨x, e, h⟩ := hW.tel 2 20 (by decide) (hnd 2 (by kernel_rfl)) rfl
                rw [e]; exact congrArg some h
              rw [if_pos (wanted_yes (j := 2) (s := 20) (b := true) rfl (by kernel_rfl) r20)]
              go_simp
              exact hK _ _ (by first | rfl | (show _ = _; simp)) trivial (hS)
            · intro L vs A' u hW hL0 hnd K' hK
              have hS := hW.wi.s
              have r23 : A'.tmps[23]? = some (iv j) := by
                obtain ⟨x, e, h⟩ := hW.tel 5 23 (by decide) (hnd 5 (by kernel_rfl)) rfl
                rw [e]; exact congrArg some h
              have r20 : A'.tmps[20]? = some (.bool true) := by
                obtain ⟨x, e, h⟩ := hW.tel 2 20 (by decide) (hnd 2 (by kernel_rfl)) rfl
                rw [e]; exact congrArg some h
              rw [if_pos (wanted_yes (j := 2) (s := 20) (b := true) rfl (by kernel_rfl) r20)]
              go_simp
              exact hK _ _ (by show _ = _; simp; rw [IntKind.wrap_i64]; omega) trivial (hS)
            · intro L vs A' u hW hL0 hnd K' hK
              have hS := hW.wi.s
              have r22 : A'.tmps[22]? = some (.slice (some ad) l.length c) := by
                obtain ⟨x, e, h⟩ := hW.tel 4 22 (by decide) (hnd 4 (by kernel_rfl)) rfl
                rw [e]; exact congrArg some h
              have r24 : A'.tmps[24]? = some (iv q) := by
                obtain ⟨x, e, h⟩ := hW.tel 6 24 (by decide) (hnd 6 (by kernel_rfl)) rfl
                rw [e]; exact congrArg some h
              have r20 : A'.tmps[20]? = some (.bool true) := by
                obtain ⟨x, e, h⟩ := hW.tel 2 20 (by decide) (hnd 2 (by kernel_rfl)) rfl
                rw [e]; exact congrArg some h
              rw [if_pos (wanted_yes (j := 2) (s := 20) (b := true) rfl (by kernel_rfl) r20)]
              go_simp
              exact hK _ _ (by first | rfl | (show _ = _; simp)) trivial (hS)
            · intro L vs A' u hW hL0 hnd K' hK
              have hS := hW.wi.s
              have r25 : A'.tmps[25]? = some (.pointer (some (ad.add (q * 3)))) := by
                obtain ⟨x, e, h⟩ := hW.tel 7 25 (by decide) (hnd 7 (by kernel_rfl)) rfl
                rw [e]; exact congrArg some h
              have r20 : A'.tmps[20]? = some (.bool true) := by
                obtain ⟨x, e, h⟩ := hW.tel 2 20 (by decide) (hnd 2 (by kernel_rfl)) rfl
                rw [e]; exact congrArg some h
              rw [if_pos (wanted_yes (j := 2) (s := 20) (b := true) rfl (by kernel_rfl) r20)]
              obtain ⟨y0, y1, y2⟩ := HCq.out u (HO2r.out.trans hS)
              go_simp
              exact hK _ _ (by first | rfl | (show _ = _; simp)) trivial (hS)
            · intro L vs A' u hW hL0 hnd K' hK
              have hS := hW.wi.s
              have r21 : A'.tmps[21]? = some (p3 P) := by
                obtain ⟨x, e, h⟩ := hW.tel 3 21 (by decide) (hnd 3 (by kernel_rfl)) rfl
                rw [e]; exact congrArg some h
              have r26 : A'.tmps[26]? = some (p3 R) := by
                obtain ⟨x, e, h⟩ := hW.tel 8 26 (by decide) (hnd 8 (by kernel_rfl)) rfl
                rw [e]; exact congrArg some h
              have r20 : A'.tmps[20]? = some (.bool true) := by
                obtain ⟨x, e, h⟩ := hW.tel 2 20 (by decide) (hnd 2 (by kernel_rfl)) rfl
                rw [e]; exact congrArg some h
              rw [if_pos (wanted_yes (j := 2) (s := 20) (b := true) rfl (by kernel_rfl) r20)]
              have HCL := Lib.hid (HF2.out u)
              go_simp
              refine (HCL.out).mono ?_
              rintro _ u' ⟨rfl, ho2⟩
              exact hK _ _ rfl trivial (hS.trans ho2)
            · intro L vs A' u hW hL0 hnd K' hK
              have hS := hW.wi.s
              have r27 : A'.tmps[27]? = some (.bool Fb) := by
                obtain ⟨x, e, h⟩ := hW.tel 9 27 (by decide) (hnd 9 (by kernel_rfl)) rfl
                rw [e]; exact congrArg some h
              have r20 : A'.tmps[20]? = some (.bool true) := by
                obtain ⟨x, e, h⟩ := hW.tel 2 20 (by decide) (hnd 2 (by kernel_rfl)) rfl
                rw [e]; exact congrArg some h
              rw [if_pos (wanted_yes (j := 2) (s := 20) (b := true) rfl (by kernel_rfl) r20)]
              cases Fb
              all_goals
                go_simp
                exact hK _ _ (by first | rfl | (show _ = _; simp)) trivial (hS)
            · intro L vs A' u hW hL0 hnd K' hK
              have hS := hW.wi.s
              have r20 : A'.tmps[20]? = some (.bool true) := by
                obtain ⟨x, e, h⟩ := hW.tel 2 20 (by decide) (hnd 2 (by kernel_rfl)) rfl
                rw [e]; exact congrArg some h
              have r28 : A'.tmps[28]? = some (.bool (!Fb)) := by
                obtain ⟨x, e, h⟩ := hW.tel 10 28 (by decide) (hnd 10 (by kernel_rfl)) rfl
                rw [e]; exact congrArg some h
              cases Fb
              all_goals
                go_simp
                exact hK _ _ (by first | rfl | (show _ = _; simp)) trivial (hS)
            · intro L vs A' u hW hL0 hnd K' hK
              have hS := hW.wi.s
              have r29 : A'.tmps[29]? = some (.bool (!Fb)) := by
                obtain ⟨x, e, h⟩ := hW.tel 11 29 (by decide) (hnd 11 (by kernel_rfl)) rfl
                rw [e]; exact congrArg some h
              cases Fb
              all_goals
                go_simp
                exact hK _ _ (by first | rfl | (show _ = _; simp)) trivial (hS)
          case doneR =>
            intro L vs u9 hS hP hall
            have e0 : vs 0 = iv j := hP 0 (by decide)
            have e1 : vs 1 = .bool true := hP 1 (by decide)
            have e2 : vs 2 = .bool true := hP 2 (by decide)
            have e3 : vs 3 = p3 P := hP 3 (by decide)
            have e4 : vs 4 = .slice (some ad) l.length c := hP 4 (by decide)
            have e5 : vs 5 = iv j := hP 5 (by decide)
            have e6 : vs 6 = iv q := hP 6 (by decide)
            have e7 : vs 7 = .pointer (some (ad.add (q * 3))) := hP 7 (by decide)
            have e8 : vs 8 = p3 R := hP 8 (by decide)
            have e9 : vs 9 = .bool Fb := hP 9 (by decide)
            have e10 : vs 10 = .bool (!Fb) := hP 10 (by decide)
            have e11 : vs 11 = .bool (!Fb) := hP 11 (by decide)
            have e12 : vs 12 = .bool (!Fb) := hP 12 (by decide)
            simp only [putV, List.foldl_cons, List.foldl_nil, List.setIfInBounds_toArray, List.set_cons_zero, List.set_cons_succ, e0, e1, e2, e3, e4, e5, e6, e7, e8, e9, e10, e11, e12]
            clear e0 e1 e2 e3 e4 e5 e6 e7 e8 e9 e10 e11 e12 hP hall fr_R
            have HO3 := Lib.hid (HO2.out.trans hS)
            clear hS
            have hcz := HEr2.out
            cases Fb
            · rw [if_neg (by decide)] at hcz
              have HZ := Lib.hid hcz
              clear hcz
              go_wp2
              go_roundw
              case rel => exact ⟨j + 1, hlt, by go_num, HMj.out, by rw [HZ.out], HO3.out⟩
              case measure => simp [intOf]; omega
            · rw [if_pos rfl] at hcz
              have HZ := Lib.hid hcz
              clear hcz
              go_wp2
              go_roundw
              case rel => exact ⟨j + 1, hlt, by go_num, HMj.out, by rw [HZ.out], HO3.out⟩
              case measure => simp [intOf]; omega
      · have HZ : Hid (orE l = 10) := Lib.hid (if_neg (fun h => hmy (h j hlt)))
        rw [decide_eq_false hmy] at HE
        clear hmy
        go_wp2_with fail
        refine (HE.out).mono ?_
        rintro e w2 ⟨rfl, o2⟩
        have HO2 := Lib.hid (HO1.out.trans o2)
        clear o2
        go_wp2
        rw [Exit.noGoto_ret]
        go_ret
        exact ⟨by rw [HZ.out]; rfl, HO2.out⟩
    · obtain rfl : j = l.length := by omega
      have HZ : Hid (orE l = erN l l.length) := Lib.hid (if_pos HM.out)
      generalize erN l l.length = E at *
      go_wp2
      rw [Exit.noGoto_ret]
      go_ret
      exact ⟨by rw [HZ.out] <;> rfl, HO.out⟩
end Go.Proofs.YtighdjbeddcckaaDoor
