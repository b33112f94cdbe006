/-
  Package subframe: residualsOf.
-/
import Derived.Test.YteklfkpeaadinaaGreatDoorPCS5
namespace Go.Proofs.YteklfkpeaadinaaGreatDoor.S
open Go.RowKit
open K (linV ckL resE resV ResR ResN FreshR)
/-- what is wrong with a Fixed, or Linear, plan for divided samples -/
noncomputable def rofE (P S : Int) (C : List Int) (m ro : Int) (ps bs : List Int) (o : Int) (ys : List Int) : Int :=
  if ckL P S C ≠ 0 then ckL P S C else if ckC m ro ps bs ys.length o ≠ 0 then ckC m ro ps bs ys.length o else if resE P S C ys ≠ 0 then resE P S C ys else sizeE m ro ps bs o (resV P S C ys)
/-- what residualsOf answers -/
structure RofR (P S : Int) (C : List Int) (m ro : Int) (ps bs : List Int) (o : Int) (ys : List Int) (w : World) (e : Ending) (w' : World) : Prop where
  only : Only Nix w w'
  bad : rofE P S C m ro ps bs o ys ≠ 0 → e = .returned (.tuple #[.slice none 0 0, iv (rofE P S C m ro ps bs o ys)])
  good : rofE P S C m ro ps bs o ys = 0 → ∃ A n c, e = .returned (.tuple #[.slice A n c, iv 0]) ∧ ISrc w' (.slice A n c) (resV P S C ys) ∧ ∀ ad, A = some ad → 0 < n → w.heap.size ≤ ad.block
theorem RofR.of {P S : Int} {C : List Int} {m ro : Int} {ps bs : List Int} {o : Int} {ys : List Int} {w w' : World} {E : Int} (hE : rofE P S C m ro ps bs o ys = E) (h0 : E ≠ 0) (ho : Only Nix w w') : RofR P S C m ro ps bs o ys w (.returned (.tuple #[.slice none 0 0, iv E])) w' :=
  ⟨ho, fun _ => by rw [hE], fun h => absurd (hE.symm.trans h) h0⟩
set_option maxHeartbeats 4000000 in
theorem residualsOf_any {w : World} (k o wd lp ls : Int) (Ac : Option Addr) (nc cc : Nat) (m ro : Int) (Ap Ab : Option Addr) (np cp nb cb : Nat) (P S : Int) (C ps bs ys : List Int) (A : Option Addr) (n c : Nat)
    (hP : ∀ u, Only Nix w u → Calls Tryz.prog 91 #[spV k o wd lp ls (.slice Ac nc cc) m ro (.slice Ap np cp) (.slice Ab nb cb)] u fun e w' => PreR P S C u e w')
    (hps : ISrc w (.slice Ap np cp) ps) (hbs : ISrc w (.slice Ab nb cb) bs) (hys : ISrc w (.slice A n c) ys) (hn : n ≤ 1000) (ho0 : 0 ≤ o) (ho1 : o ≤ 32) :
    Calls Tryz.prog 66 #[spV k o wd lp ls (.slice Ac nc cc) m ro (.slice Ap np cp) (.slice Ab nb cb), .slice A n c] w fun e w' => RofR P S C m ro ps bs o ys w e w' := by
  have hyl := hys.len
  have a0 := (Only.refl Nix w).alloc (.cells (spC k o wd lp ls (.slice Ac nc cc) m ro (.slice Ap np cp) (.slice Ab nb cb)) 28)
  have B0 := Box.new w 28 (spC k o wd lp ls (.slice Ac nc cc) m ro (.slice Ap np cp) (.slice Ab nb cb))
  obtain ⟨Wa, hWa⟩ : ∃ Wa, w.alloc (.cells (spC k o wd lp ls (.slice Ac nc cc) m ro (.slice Ap np cp) (.slice Ab nb cb)) 28) = Wa := ⟨_, rfl⟩
  rw [hWa] at a0 B0
  have HP := Lib.hid (hP Wa a0)
  have HB := Lib.hid B0
  have HA := Lib.hid a0
  have HPs := Lib.hid hps
  have HBs := Lib.hid hbs
  have HYs := Lib.hid hys
  have Hyl := Lib.hid hyl
  have HE : Hid (rofE P S C m ro ps bs o ys = _) := Lib.hid rfl
  have d0 := (B0).cell 0
  have d1 := (B0).cell 1
  have d2 := (B0).cell 2
  have d3 := (B0).cell 3
  have d4 := (B0).cell 4
  have d5 := (B0).cell 5
  have d6 := (B0).cell 6
  have d7 := (B0).cell 7
  have d8 := (B0).cell 8
  have d9 := (B0).cell 9
  simp only [List.getElem?_toArray, List.getElem?_cons_zero, List.getElem?_cons_succ] at d0 d1 d2 d3 d4 d5 d6 d7 d8 d9
  clear hP hps hbs hys hyl a0 B0
  go_enter Tryz.func66, Tryz.ntmps66
  go_wp2_with fail
  refine (HP.out).mono ?_
  rintro e w1 ⟨A1, n1, c1, rfl, hC, o1⟩
  have hB1 := HB.out.only o1 (fun e => e)
  have hsz := hB1.lt
  have hne : ¬ w.heap.size = w1.heap.size := by omega
  have a2 := (Only.refl Nix w1).alloc (.cells #[iv P, iv S, .slice A1 n1 c1] 24)
  have b2 := Box.new w1 24 #[iv P, iv S, .slice A1 n1 c1]
  have bp := hB1.alloc (.cells #[iv P, iv S, .slice A1 n1 c1] 24)
  obtain ⟨Wb, hWb⟩ : ∃ Wb, w1.alloc (.cells #[iv P, iv S, .slice A1 n1 c1] 24) = Wb := ⟨_, rfl⟩
  rw [hWb] at a2 b2 bp
  have HBP : ∀ u, Only Nix Wb u → Box u w.heap.size 28 (spC k o wd lp ls (.slice Ac nc cc) m ro (.slice Ap np cp) (.slice Ab nb cb)) := fun u h => bp.only h (fun e => e)
  have HBT : ∀ u, Only Nix Wb u → Box u w1.heap.size 24 #[iv P, iv S, .slice A1 n1 c1] := fun u h => b2.only h (fun e => e)
  have HBP' := Lib.hid HBP
  have HBT' := Lib.hid HBT
  have HC := Lib.hid (hC.nix a2)
  have HO := Lib.hid ((HA.out.trans o1).trans a2)
  have HCk := Lib.hid (K.check_any P S A1 n1 c1 C HC.out)
  have t0 := (b2).cell 0
  have t1 := (b2).cell 1
  have t2 := (b2).cell 2
  simp only [List.getElem?_toArray, List.getElem?_cons_zero, List.getElem?_cons_succ] at t0 t1 t2
  clear hC o1 hB1 a2 b2 bp HBP HBT HP d0 d1 d2 d3 d4 d5 d6 d7 d8 d9 hsz
  go_wp2_with fail
  refine (HCk.out).mono ?_
  rintro e w2 ⟨rfl, o2⟩
  have HO2 := Lib.hid (HO.out.trans o2)
  have HW2 := Lib.hid o2
  clear o2 t0 t1 t2 HCk
  by_cases h1 : ckL P S C = 0
  · rw [h1]
    have H1 := Lib.hid h1
    clear h1
    have p1 := (HBP'.out w2 HW2.out).cell 1
    have p6 := (HBP'.out w2 HW2.out).cell 6
    have p7 := (HBP'.out w2 HW2.out).cell 7
    have p8 := (HBP'.out w2 HW2.out).cell 8
    have p9 := (HBP'.out w2 HW2.out).cell 9
    simp only [List.getElem?_toArray, List.getElem?_cons_zero, List.getElem?_cons_succ] at p1 p6 p7 p8 p9
    have t0 := (HBT'.out w2 HW2.out).cell 0
    have t1 := (HBT'.out w2 HW2.out).cell 1
    have t2 := (HBT'.out w2 HW2.out).cell 2
    simp only [List.getElem?_toArray, List.getElem?_cons_zero, List.getElem?_cons_succ] at t0 t1 t2
    have HCc := Lib.hid (check_any (w := w2) m ro (n : Int) o Ap Ab np nb cp cb ps bs (HPs.out.nix HO2.out) (HBs.out.nix HO2.out))
    go_wp2_with fail
    refine (HCc.out).mono ?_
    rintro e w3 ⟨rfl, o3⟩
    have HO3 := Lib.hid (HO2.out.trans o3)
    have HW3 := Lib.hid (HW2.out.trans o3)
    clear o3 t0 t1 t2 p1 p6 p7 p8 p9 HCc
    by_cases h2 : ckC m ro ps bs n o = 0
    · rw [h2]
      have H2 := Lib.hid h2
      clear h2
      have p1 := (HBP'.out w3 HW3.out).cell 1
      have p6 := (HBP'.out w3 HW3.out).cell 6
      have p7 := (HBP'.out w3 HW3.out).cell 7
      have p8 := (HBP'.out w3 HW3.out).cell 8
      have p9 := (HBP'.out w3 HW3.out).cell 9
      simp only [List.getElem?_toArray, List.getElem?_cons_zero, List.getElem?_cons_succ] at p1 p6 p7 p8 p9
      have t0 := (HBT'.out w3 HW3.out).cell 0
      have t1 := (HBT'.out w3 HW3.out).cell 1
      have t2 := (HBT'.out w3 HW3.out).cell 2
      simp only [List.getElem?_toArray, List.getElem?_cons_zero, List.getElem?_cons_succ] at t0 t1 t2
      have HR := Lib.hid (K.residual_new (w := w3) P S A1 n1 c1 C A n c ys (HC.out.nix HW3.out) (HYs.out.nix HO3.out) hn)
      go_wp2_with fail
      refine (HR.out).mono ?_
      rintro e w4 ⟨⟨⟨A4, c4, rfl, hz⟩, o4⟩, hfr⟩
      have HO4 := Lib.hid (HO3.out.trans o4)
      have HW4 := Lib.hid (HW3.out.trans o4)
      have HFr := Lib.hid (fun ad ha hn => Nat.le_trans HO3.out.size (hfr A4 _ c4 _ rfl hn ad ha))
      have HZ := Lib.hid hz
      clear o4 hfr hz t0 t1 t2 p1 p6 p7 p8 p9 HR
      by_cases h3 : resE P S C ys = 0
      · rw [h3]
        have H3 := Lib.hid h3
        clear h3
        obtain ⟨n4, hn4⟩ : ∃ n4, (resV P S C ys).length = n4 := ⟨_, rfl⟩
        rw [hn4] at HFr HZ ⊢
        have p1 := (HBP'.out w4 HW4.out).cell 1
        have p6 := (HBP'.out w4 HW4.out).cell 6
        have p7 := (HBP'.out w4 HW4.out).cell 7
        have p8 := (HBP'.out w4 HW4.out).cell 8
        have p9 := (HBP'.out w4 HW4.out).cell 9
        simp only [List.getElem?_toArray, List.getElem?_cons_zero, List.getElem?_cons_succ] at p1 p6 p7 p8 p9
        have t0 := (HBT'.out w4 HW4.out).cell 0
        have t1 := (HBT'.out w4 HW4.out).cell 1
        have t2 := (HBT'.out w4 HW4.out).cell 2
        simp only [List.getElem?_toArray, List.getElem?_cons_zero, List.getElem?_cons_succ] at t0 t1 t2
        have HSz := Lib.hid (sizeR_any (w := w4) m ro o n4 c4 A4 Ap Ab np nb cp cb ps bs (resV P S C ys) (by omega) (by omega) HZ.out (HPs.out.nix HO4.out) (HBs.out.nix HO4.out))
        have HE4 : Hid (rofE P S C m ro ps bs o ys = sizeE m ro ps bs o (resV P S C ys)) := Lib.hid (by
          unfold rofE
          rw [if_neg (by rw [H1.out]; decide), if_neg (by rw [← Hyl.out, H2.out]; decide), if_neg (by rw [H3.out]; decide)])
        go_wp2_with fail
        refine (HSz.out).mono ?_
        rintro e w5 ⟨rfl, o5⟩
        have HO5 := Lib.hid (HO4.out.trans o5)
        have HZ5 := Lib.hid (HZ.out.nix o5)
        clear o5 t0 t1 t2 p1 p6 p7 p8 p9 HSz hn4
        by_cases h4 : sizeE m ro ps bs o (resV P S C ys) = 0
        · rw [h4]
          have HF : Hid (RofR P S C m ro ps bs o ys w (.returned (.tuple #[.slice A4 n4 c4, iv 0])) w5) := Lib.hid ⟨HO5.out, fun h => absurd (HE4.out.trans h4) h, fun _ => ⟨_, _, _, rfl, HZ5.out, HFr.out⟩⟩
          clear h4
          generalize sizeN m ro ps bs o (resV P S C ys) = sn at *
          go_wp2
          go_ret2
          exact HF.out
        · have HF := Lib.hid (RofR.of HE4.out h4 HO5.out)
          have h4b : (sizeE m ro ps bs o (resV P S C ys) != 0) = true := by simpa using h4
          generalize sizeE m ro ps bs o (resV P S C ys) = E4 at *
          generalize sizeN m ro ps bs o (resV P S C ys) = sn at *
          go_wp2
          go_ret2
          exact HF.out
      · have hE3 : rofE P S C m ro ps bs o ys = resE P S C ys := by
          unfold rofE
          rw [if_neg (by rw [H1.out]; decide), if_neg (by rw [← Hyl.out, H2.out]; decide), if_pos h3]
        have HF := Lib.hid (RofR.of hE3 h3 HO4.out)
        have h3b : (resE P S C ys != 0) = true := by simpa using h3
        clear hE3
        generalize resE P S C ys = E3 at *
        generalize (resV P S C ys).length = n4 at *
        go_wp2
        go_ret2
        exact HF.out
    · have hE2 : rofE P S C m ro ps bs o ys = ckC m ro ps bs n o := by
        unfold rofE
        rw [if_neg (by rw [H1.out]; decide), if_pos (by rw [← Hyl.out]; exact h2), ← Hyl.out]
      have HF := Lib.hid (RofR.of hE2 h2 HO3.out)
      have h2b : (ckC m ro ps bs n o != 0) = true := by simpa using h2
      clear hE2
      generalize ckC m ro ps bs n o = E2 at *
      go_wp2
      go_ret2
      exact HF.out
  · have hE1 : rofE P S C m ro ps bs o ys = ckL P S C := by
      unfold rofE
      rw [if_pos h1]
    have HF := Lib.hid (RofR.of hE1 h1 HO2.out)
    have h1b : (ckL P S C != 0) = true := by simpa using h1
    clear hE1
    generalize ckL P S C = E1 at *
    go_wp2
    go_ret2
    exact HF.out
end Go.Proofs.YteklfkpeaadinaaGreatDoor.S
