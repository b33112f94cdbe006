/-
  Package subframe: split.
-/
import Derived.Test.YteklfkpeaadinaaGreatDoorPCS6
import Derived.Test.YteklfkpeaadinaaGreatDoorPCS7
namespace Go.Proofs.YteklfkpeaadinaaGreatDoor.S
open Go.RowKit
open K (linV resV fx)
def tP (k lp : Int) : Int := if k = 2 then 4 else lp
def tS (k ls : Int) : Int := if k = 2 then 0 else ls
def tC (k o : Int) (cs : List Int) : List Int := if k = 2 then fx o.toNat else cs
/-- what is wrong with a plan for samples -/
noncomputable def splE (k o wd lp ls m ro : Int) (cs ps bs : List Int) (d : Int) (xs : List Int) : Int :=
  if ckBlk xs.length d ≠ 0 then 1 else
  if ckPl k o wd lp ls m ro cs.length ps.length bs.length d ≠ 0 then ckPl k o wd lp ls m ro cs.length ps.length bs.length d else
  if ¬ (fitsD d.toNat xs ∧ dvA wd.toNat xs) then 10 else
  if k = 0 ∧ ¬ sameA xs then 12 else
  if 2 ≤ k then rofE (tP k lp) (tS k ls) (tC k o cs) m ro ps bs o (xs.map (dvd wd.toNat)) else 0
/-- the residuals of a plan -/
def splV (k o wd lp ls : Int) (cs xs : List Int) : List Int := if 2 ≤ k then resV (tP k lp) (tS k ls) (tC k o cs) (xs.map (dvd wd.toNat)) else []
/-- what split answers -/
structure SplR (k o wd lp ls m ro : Int) (cs ps bs : List Int) (d : Int) (xs : List Int) (w : World) (e : Ending) (w' : World) : Prop where
  only : Only Nix w w'
  bad : splE k o wd lp ls m ro cs ps bs d xs ≠ 0 → e = .returned (.tuple #[.slice none 0 0, .slice none 0 0, iv (splE k o wd lp ls m ro cs ps bs d xs)])
  good : splE k o wd lp ls m ro cs ps bs d xs = 0 → ∃ A1 n1 c1 A2 n2 c2, e = .returned (.tuple #[.slice A1 n1 c1, .slice A2 n2 c2, iv 0]) ∧
    ISrc w' (.slice A1 n1 c1) ((xs.map (dvd wd.toNat)).take (plM k o xs.length).toNat) ∧ ISrc w' (.slice A2 n2 c2) (splV k o wd lp ls cs xs) ∧
    (∀ ad, A1 = some ad → 0 < n1 → w.heap.size ≤ ad.block) ∧ (∀ ad, A2 = some ad → 0 < n2 → w.heap.size ≤ ad.block)
section
variable {k o wd lp ls m ro : Int} {cs ps bs : List Int} {d : Int} {xs : List Int} {w w' : World}
theorem SplR.of {E : Int} (hE : splE k o wd lp ls m ro cs ps bs d xs = E) (h0 : E ≠ 0) (ho : Only Nix w w') : SplR k o wd lp ls m ro cs ps bs d xs w (.returned (.tuple #[.slice none 0 0, .slice none 0 0, iv E])) w' :=
  ⟨ho, fun _ => by rw [hE], fun h => absurd (hE.symm.trans h) h0⟩
end
theorem rof_lt {P S : Int} {C : List Int} {m ro : Int} {ps bs : List Int} {o : Int} {ys : List Int} (h : rofE P S C m ro ps bs o ys = 0) : 0 ≤ o ∧ o < ys.length := by
  unfold rofE at h
  split at h
  · rename_i h1; exact absurd h h1
  · split at h
    · rename_i _ h2; exact absurd h h2
    · rename_i _ h2
      have h3 := (ckC_zero (by simpa using h2)).1
      obtain ⟨m', o', b', s', _, _, eb, es, _, _, _, _, _, _, hp⟩ := ckH_zero h3
      obtain ⟨h4, h5⟩ := ckP_zero hp
      have h6 : b' / 2 ^ o' ≤ b' := Nat.div_le_self _ _
      omega
theorem ckPl_zero {k o wd lp ls m ro : Int} {nc np nb : Nat} {d : Int} (h : ckPl k o wd lp ls m ro nc np nb d = 0) : 0 ≤ k ∧ k < 4 ∧ 0 ≤ wd ∧ wd < d ∧ kL k.toNat ≤ o ∧ o ≤ kM k.toNat ∧ ownOk k o lp ls m ro nc np nb := by
  unfold ckPl at h
  split at h
  · cases h
  · split at h
    · cases h
    · split at h
      · rename_i h1 h2 h3
        exact ⟨by omega, by omega, by omega, by omega, by omega, by omega, h3⟩
      · cases h
set_option maxHeartbeats 4000000 in
theorem residuals_at {w : World} (k o wd lp ls : Int) (Ac : Option Addr) (nc cc : Nat) (m ro : Int) (Ap Ab : Option Addr) (np cp nb cb : Nat) (cs ps bs : List Int) (hk : 2 ≤ k) (d : Int) (hc : ckPl k o wd lp ls m ro nc np nb d = 0)
    (hcs : ISrc w (.slice Ac nc cc) cs) (hps : ISrc w (.slice Ap np cp) ps) (hbs : ISrc w (.slice Ab nb cb) bs) (A : Option Addr) (n c : Nat) (ys : List Int) (hys : ISrc w (.slice A n c) ys) (hn : n ≤ 1000) :
    Calls Tryz.prog 66 #[spV k o wd lp ls (.slice Ac nc cc) m ro (.slice Ap np cp) (.slice Ab nb cb), .slice A n c] w fun e w' => RofR (tP k lp) (tS k ls) (tC k o cs) m ro ps bs o ys w e w' := by
  obtain ⟨_, h1, _, _, h2, h3, _⟩ := ckPl_zero hc
  obtain rfl | rfl : k = 2 ∨ k = 3 := by omega
  · have e1 : kL (2 : Int).toNat = 0 := rfl
    have e2 : kM (2 : Int).toNat = 4 := rfl
    rw [e1] at h2
    rw [e2] at h3
    obtain ⟨q, rfl⟩ := Int.eq_ofNat_of_zero_le h2
    exact residualsOf_any 2 q wd lp ls Ac nc cc m ro Ap Ab np cp nb cb 4 0 (fx q) ps bs ys A n c (fun u _ => prediction_2 q (by omega) wd lp ls Ac nc cc m ro Ap Ab np cp nb cb) hps hbs hys hn (by omega) (by omega)
  · have e1 : kL (3 : Int).toNat = 1 := rfl
    have e2 : kM (3 : Int).toNat = 32 := rfl
    rw [e1] at h2
    rw [e2] at h3
    exact residualsOf_any 3 o wd lp ls Ac nc cc m ro Ap Ab np cp nb cb lp ls cs ps bs ys A n c (fun u hu => prediction_3 o wd lp ls Ac nc cc m ro Ap Ab np cp nb cb cs (hcs.nix hu)) hps hbs hys hn (by omega) (by omega)
set_option maxHeartbeats 4000000 in
theorem split_any {w : World} (hL : Laid w) (k o wd lp ls : Int) (Ac : Option Addr) (nc cc : Nat) (m ro : Int) (Ap Ab : Option Addr) (np cp nb cb : Nat) (cs ps bs : List Int) (d : Int) (A : Option Addr) (n c : Nat) (xs : List Int)
    (hcs : ISrc w (.slice Ac nc cc) cs) (hps : ISrc w (.slice Ap np cp) ps) (hbs : ISrc w (.slice Ab nb cb) bs) (hxs : ISrc w (.slice A n c) xs) (hn : n ≤ 1000) :
    Calls Tryz.prog 34 #[spV k o wd lp ls (.slice Ac nc cc) m ro (.slice Ap np cp) (.slice Ab nb cb), iv d, .slice A n c] w fun e w' => SplR k o wd lp ls m ro cs ps bs d xs w e w' := by
  have hxl := hxs.len
  have hcl := hcs.len
  have hpl := hps.len
  have hbl := hbs.len
  have a0 := (Only.refl Nix w).alloc (.cells (spC k o wd lp ls (.slice Ac nc cc) m ro (.slice Ap np cp) (.slice Ab nb cb)) 28)
  have B0 := Box.new w 28 (spC k o wd lp ls (.slice Ac nc cc) m ro (.slice Ap np cp) (.slice Ab nb cb))
  obtain ⟨Wa, hWa⟩ : ∃ Wa, w.alloc (.cells (spC k o wd lp ls (.slice Ac nc cc) m ro (.slice Ap np cp) (.slice Ab nb cb)) 28) = Wa := ⟨_, rfl⟩
  rw [hWa] at a0 B0
  have HBk := Lib.hid (checkBlock_any Wa n d)
  have HPl := Lib.hid (checkPlan_any Wa (hL.nix a0) k o wd lp ls Ac nc cc m ro Ap Ab np cp nb cb d)
  have HB : Hid (∀ u, Only Nix Wa u → Box u w.heap.size 28 (spC k o wd lp ls (.slice Ac nc cc) m ro (.slice Ap np cp) (.slice Ab nb cb))) := Lib.hid (fun u h => B0.only h (fun e => e))
  have HE1 : Hid (ckBlk n d ≠ 0 → splE k o wd lp ls m ro cs ps bs d xs = 1) := Lib.hid (fun h => by unfold splE; rw [if_pos (by rw [← hxl]; exact h)])
  have HE2 : Hid (ckBlk n d = 0 → ckPl k o wd lp ls m ro nc np nb d ≠ 0 → splE k o wd lp ls m ro cs ps bs d xs = ckPl k o wd lp ls m ro nc np nb d) := Lib.hid (fun h1 h2 => by
    unfold splE; rw [if_neg (by rw [← hxl, h1]; decide), if_pos (by rw [← hcl, ← hpl, ← hbl]; exact h2), ← hcl, ← hpl, ← hbl])
  have HE3 : Hid (ckBlk n d = 0 → ckPl k o wd lp ls m ro nc np nb d = 0 → splE k o wd lp ls m ro cs ps bs d xs = if ¬ (fitsD d.toNat xs ∧ dvA wd.toNat xs) then 10 else
  if k = 0 ∧ ¬ sameA xs then 12 else
  if 2 ≤ k then rofE (tP k lp) (tS k ls) (tC k o cs) m ro ps bs o (xs.map (dvd wd.toNat)) else 0) := Lib.hid (fun h1 h2 => by
    unfold splE; rw [if_neg (by rw [← hxl, h1]; decide), if_neg (by rw [← hcl, ← hpl, ← hbl, h2]; decide)])
  have HA := Lib.hid a0
  have HCs := Lib.hid hcs
  have HPs := Lib.hid hps
  have HBs := Lib.hid hbs
  have HXs := Lib.hid hxs
  have Hxl := Lib.hid hxl
  have d0 := (B0).cell 0
  have d1 := (B0).cell 1
  have d2 := (B0).cell 2
  have d3 := (B0).cell 3
  have d4 := (B0).cell 4
  have d5 := (B0).cell 5
  have d6 := (B0).cell 6
  have d7 := (B0).cell 7
  have d8 := (B0).cell 8
  have d9 := (B0).cell 9
  simp only [List.getElem?_toArray, List.getElem?_cons_zero, List.getElem?_cons_succ] at d0 d1 d2 d3 d4 d5 d6 d7 d8 d9
  clear hcs hps hbs hxs hxl hcl hpl hbl hL a0 B0
  go_enter Tryz.func34, Tryz.ntmps34
  go_wp2_with fail
  refine (HBk.out).mono ?_
  rintro e w1 ⟨rfl, rfl⟩
  by_cases h1 : ckBlk n d = 0
  · rw [h1]
    have H1 := Lib.hid h1
    have hr : 4 ≤ d ∧ d ≤ 33 ∧ 1 ≤ n := by
      unfold ckBlk at h1
      split at h1
      · cases h1
      · omega
    obtain ⟨hd1, hd2, hn1⟩ := hr
    clear h1 HE1
    go_wp2_with fail
    refine (HPl.out).mono ?_
    rintro e w1 ⟨rfl, o1⟩
    have HO1 := Lib.hid (HA.out.trans o1)
    have HW1 := Lib.hid o1
    clear o1 HPl HBk d0 d1 d2 d3 d4 d5 d6 d7 d8 d9
    by_cases h2 : ckPl k o wd lp ls m ro nc np nb d = 0
    · rw [h2]
      have H2 := Lib.hid h2
      obtain ⟨hk0, hk4, hw0, hwd, _, _, _⟩ := ckPl_zero h2
      have HE := Lib.hid (HE3.out H1.out H2.out)
      clear h2 HE2 HE3
      obtain ⟨D, rfl⟩ := Int.eq_ofNat_of_zero_le (show 0 ≤ d by omega)
      obtain ⟨W, rfl⟩ := Int.eq_ofNat_of_zero_le hw0
      simp only [Int.toNat_natCast] at HE
      have HSa : ∀ q, Hid (Calls Tryz.prog 54 #[iv D, .slice A n c] (w1.drewN q) fun e w' => e = .returned (.bool (decide (fitsD D xs))) ∧ w1.drewN q = w') := fun q => Lib.hid (areSamples_any D (by omega) (by omega) A n c xs (HXs.out.nix (HO1.out.drewN q)))
      have HUn : ∀ q, Hid (Calls Tryz.prog 65 #[.slice A n c] (w1.drewN q) fun e w' => e = .returned (iv (uni xs)) ∧ w1.drewN q = w') := fun q => Lib.hid (union_any A n c xs (HXs.out.nix (HO1.out.drewN q)))
      have p0 := (HB.out w1 HW1.out).cell 0
      have p1 := (HB.out w1 HW1.out).cell 1
      have p2 := (HB.out w1 HW1.out).cell 2
      have p3 := (HB.out w1 HW1.out).cell 3
      have p4 := (HB.out w1 HW1.out).cell 4
      have p5 := (HB.out w1 HW1.out).cell 5
      have p6 := (HB.out w1 HW1.out).cell 6
      have p7 := (HB.out w1 HW1.out).cell 7
      have p8 := (HB.out w1 HW1.out).cell 8
      have p9 := (HB.out w1 HW1.out).cell 9
      simp only [List.getElem?_toArray, List.getElem?_cons_zero, List.getElem?_cons_succ] at p0 p1 p2 p3 p4 p5 p6 p7 p8 p9
      have hK := pow_le_of (show W ≤ 32 by omega)
      have hK0 := Nat.two_pow_pos W
      have hpw : (2 : Int) ^ W = ((2 ^ W : Nat) : Int) := pow_cast W
      have hand0 := uni_and xs W (by omega)
      have hcst : (((2 ^ W - 1 : Nat) : Nat) : Int) = ((2 ^ W : Nat) : Int) - 1 := by omega
      rw [hcst] at hand0
      obtain ⟨R, hR⟩ : ∃ R, bits .and .i64 (uni xs) (((2 ^ W : Nat) : Int) - 1) = R := ⟨_, rfl⟩
      rw [hR] at hand0
      have Hand := Lib.hid hand0
      clear hand0 hcst
      generalize (2 : Nat) ^ W = P at *
      have hP2 : P ≤ 4294967296 := hK
      clear hK
      generalize uni xs = U at *
      by_cases h3 : fitsD D xs
      · rw [decide_eq_true h3] at HSa
        have H3 := Lib.hid h3
        clear h3
        by_cases h4 : R = 0
        · have H4 := Lib.hid (Hand.out.1 h4)
          rw [h4] at hR
          clear h4
          have HE4 : Hid (splE k o W lp ls m ro cs ps bs D xs = if k = 0 ∧ ¬ sameA xs then 12 else
  if 2 ≤ k then rofE (tP k lp) (tS k ls) (tC k o cs) m ro ps bs o (xs.map (dvd W)) else 0) := Lib.hid (by rw [HE.out, if_neg (fun h => h ⟨H3.out, H4.out⟩)])
          clear HE
          go_wp2_with fail
          go_quiet ((first | (go_at_call 54; exact still_at ((HSa _).out)) | (go_at_call 65; exact still_at ((HUn _).out))))
          have HWq := Lib.hid (HW1.out.drewN nq)
          have HOq := Lib.hid (HO1.out.drewN nq)
          have HDv : ∀ u, Only Nix w u → Hid (Calls Tryz.prog 58 #[.slice A n c, iv W] u fun e w' => ∃ v, e = .returned v ∧ RowI w' u.heap.size v (xs.map (dvd W)) ∧ Only Nix u w') := fun u h => Lib.hid (divided_any A n c W xs (HXs.out.nix h) (by omega) (by omega))
          clear HSa HUn hR
          generalize w1.drewN nq = w2 at *
          by_cases h5 : k = 0
          · subst h5
            have HIc : Hid (Calls Tryz.prog 56 #[.slice A n c] w2 fun e w' => e = .returned (.bool (decide (sameA xs))) ∧ w2 = w') := Lib.hid (isConstant_any A n c xs (HXs.out.nix HOq.out) (by omega))
            have q0 := (HB.out w2 HWq.out).cell 0
            have q1 := (HB.out w2 HWq.out).cell 1
            have q2 := (HB.out w2 HWq.out).cell 2
            have q3 := (HB.out w2 HWq.out).cell 3
            have q4 := (HB.out w2 HWq.out).cell 4
            have q5 := (HB.out w2 HWq.out).cell 5
            have q6 := (HB.out w2 HWq.out).cell 6
            have q7 := (HB.out w2 HWq.out).cell 7
            have q8 := (HB.out w2 HWq.out).cell 8
            have q9 := (HB.out w2 HWq.out).cell 9
            simp only [List.getElem?_toArray, List.getElem?_cons_zero, List.getElem?_cons_succ] at q0 q1 q2 q3 q4 q5 q6 q7 q8 q9
            by_cases h6 : sameA xs
            · rw [decide_eq_true h6] at HIc
              have HE5 : Hid (splE 0 o W lp ls m ro cs ps bs D xs = 0) := Lib.hid (by rw [HE4.out, if_neg (fun h => h.2 h6), if_neg (by decide)])
              clear h6 HE4
              go_wp2_with fail
              refine (HIc.out).mono ?_
              rintro e w9 ⟨rfl, rfl⟩
              clear HIc
              go_wp2_with fail
              refine ((HDv w2 HOq.out).out).mono ?_
              rintro e w3 ⟨v, rfl, hrow, o3⟩
              obtain ⟨A3, c3, rfl⟩ := hrow.form
              have hrl : (xs.map (dvd W)).length = n := by rw [List.length_map, ← Hxl.out]
              rw [hrl] at hrow ⊢
              obtain ⟨g, rfl, hg, hnc⟩ := hrow.some_ (by omega)
              have HY3 := Lib.hid (hrow.isrc (by rw [hrl]; omega))
              have HG := Lib.hid (Nat.le_trans HOq.out.size hg)
              have HO3 := Lib.hid (HOq.out.trans o3)
              have HW3 := Lib.hid (HWq.out.trans o3)
              clear hrow o3 hg hrl HDv HOq
              have r0 := (HB.out w3 HW3.out).cell 0
              have r1 := (HB.out w3 HW3.out).cell 1
              have r2 := (HB.out w3 HW3.out).cell 2
              have r3 := (HB.out w3 HW3.out).cell 3
              have r4 := (HB.out w3 HW3.out).cell 4
              have r5 := (HB.out w3 HW3.out).cell 5
              have r6 := (HB.out w3 HW3.out).cell 6
              have r7 := (HB.out w3 HW3.out).cell 7
              have r8 := (HB.out w3 HW3.out).cell 8
              have r9 := (HB.out w3 HW3.out).cell 9
              simp only [List.getElem?_toArray, List.getElem?_cons_zero, List.getElem?_cons_succ] at r0 r1 r2 r3 r4 r5 r6 r7 r8 r9
              generalize w3 = w5 at *
              have HO5 := HO3
              have HY5 := HY3
              have HFin : Hid (∀ u, Only Nix w5 u → SplR 0 o W lp ls m ro cs ps bs D xs w (.returned (.tuple #[.slice (some ⟨g, 0, none⟩) 1 c3, .slice none 0 0, iv 0])) u) := Lib.hid (fun u hu => by
                refine ⟨HO5.out.trans hu, fun h => absurd HE5.out h, fun _ => ⟨_, _, _, _, _, _, rfl, ?_, by unfold splV; rw [if_neg (by decide)]; exact K.isrc_nil u, fun ad e _ => ?_, fun ad e _ => by cases e⟩⟩
                · have hm : (plM 0 o xs.length).toNat = 1 := by rw [← Hxl.out]; rfl
                  rw [hm, Int.toNat_natCast]
                  exact (HY5.out.nix hu).take 1 (by omega)
                · injection e with e
                  rw [← e]
                  exact HG.out)
              have HPm := Lib.hid (plainMany_any w5 0 o W lp ls (.slice Ac nc cc) m ro (.slice Ap np cp) (.slice Ab nb cb) n)
              clear HE5 HY5
              rw [show plM 0 o n = 1 from rfl] at HPm
              go_wp2_with fail
              refine (HPm.out).mono ?_
              rintro e w6 ⟨rfl, o6⟩
              have HF := Lib.hid (HFin.out _ o6)
              clear o6 HFin HPm
              go_wp2
              refine bodyPost_ret (v := .tuple #[.slice (some ⟨g, 0, none⟩) 1 c3, .slice none 0 0, iv 0]) ?_ rfl ?_
              · simp [results, Tryz.f34, go_sem]
              · exact HF.out
            · have HF := Lib.hid (SplR.of (E := 12) (w := w) (w' := w2) (by rw [HE4.out, if_pos ⟨rfl, h6⟩]) (by decide) HOq.out)
              rw [decide_eq_false h6] at HIc
              clear h6 HE4 HDv
              go_wp2_with fail
              refine (HIc.out).mono ?_
              rintro e w9 ⟨rfl, rfl⟩
              go_wp2
              refine bodyPost_ret (v := .tuple #[.slice none 0 0, .slice none 0 0, iv 12]) ?_ rfl ?_
              · simp [results, Tryz.f34, go_sem]
              · exact HF.out
          · have h5b : (k == 0) = false := by simpa using h5
            have q0 := (HB.out w2 HWq.out).cell 0
            have q1 := (HB.out w2 HWq.out).cell 1
            have q2 := (HB.out w2 HWq.out).cell 2
            have q3 := (HB.out w2 HWq.out).cell 3
            have q4 := (HB.out w2 HWq.out).cell 4
            have q5 := (HB.out w2 HWq.out).cell 5
            have q6 := (HB.out w2 HWq.out).cell 6
            have q7 := (HB.out w2 HWq.out).cell 7
            have q8 := (HB.out w2 HWq.out).cell 8
            have q9 := (HB.out w2 HWq.out).cell 9
            simp only [List.getElem?_toArray, List.getElem?_cons_zero, List.getElem?_cons_succ] at q0 q1 q2 q3 q4 q5 q6 q7 q8 q9
            by_cases h6 : k = 1
            · subst h6
              have HE5 : Hid (splE 1 o W lp ls m ro cs ps bs D xs = 0) := Lib.hid (by rw [HE4.out, if_neg (fun h => by cases h.1), if_neg (by decide)])
              clear HE4
              go_wp2_with fail
              refine ((HDv w2 HOq.out).out).mono ?_
              rintro e w3 ⟨v, rfl, hrow, o3⟩
              obtain ⟨A3, c3, rfl⟩ := hrow.form
              have hrl : (xs.map (dvd W)).length = n := by rw [List.length_map, ← Hxl.out]
              rw [hrl] at hrow ⊢
              obtain ⟨g, rfl, hg, hnc⟩ := hrow.some_ (by omega)
              have HY3 := Lib.hid (hrow.isrc (by rw [hrl]; omega))
              have HG := Lib.hid (Nat.le_trans HOq.out.size hg)
              have HO3 := Lib.hid (HOq.out.trans o3)
              have HW3 := Lib.hid (HWq.out.trans o3)
              clear hrow o3 hg hrl HDv HOq
              have r0 := (HB.out w3 HW3.out).cell 0
              have r1 := (HB.out w3 HW3.out).cell 1
              have r2 := (HB.out w3 HW3.out).cell 2
              have r3 := (HB.out w3 HW3.out).cell 3
              have r4 := (HB.out w3 HW3.out).cell 4
              have r5 := (HB.out w3 HW3.out).cell 5
              have r6 := (HB.out w3 HW3.out).cell 6
              have r7 := (HB.out w3 HW3.out).cell 7
              have r8 := (HB.out w3 HW3.out).cell 8
              have r9 := (HB.out w3 HW3.out).cell 9
              simp only [List.getElem?_toArray, List.getElem?_cons_zero, List.getElem?_cons_succ] at r0 r1 r2 r3 r4 r5 r6 r7 r8 r9
              generalize w3 = w5 at *
              have HO5 := HO3
              have HY5 := HY3
              have HFin : Hid (∀ u, Only Nix w5 u → SplR 1 o W lp ls m ro cs ps bs D xs w (.returned (.tuple #[.slice (some ⟨g, 0, none⟩) n c3, .slice none 0 0, iv 0])) u) := Lib.hid (fun u hu => by
                refine ⟨HO5.out.trans hu, fun h => absurd HE5.out h, fun _ => ⟨_, _, _, _, _, _, rfl, ?_, by unfold splV; rw [if_neg (by decide)]; exact K.isrc_nil u, fun ad e _ => ?_, fun ad e _ => by cases e⟩⟩
                · have hm : (plM 1 o xs.length).toNat = n := by rw [← Hxl.out]; exact Int.toNat_natCast n
                  rw [hm, Int.toNat_natCast]
                  exact (HY5.out.nix hu).take n (by omega)
                · injection e with e
                  rw [← e]
                  exact HG.out)
              have HPm := Lib.hid (plainMany_any w5 1 o W lp ls (.slice Ac nc cc) m ro (.slice Ap np cp) (.slice Ab nb cb) n)
              clear HE5 HY5
              rw [show plM 1 o n = (n : Int) from rfl] at HPm
              go_wp2_with fail
              refine (HPm.out).mono ?_
              rintro e w6 ⟨rfl, o6⟩
              have HF := Lib.hid (HFin.out _ o6)
              clear o6 HFin HPm
              go_wp2
              refine bodyPost_ret (v := .tuple #[.slice (some ⟨g, 0, none⟩) n c3, .slice none 0 0, iv 0]) ?_ rfl ?_
              · simp [results, Tryz.f34, go_sem]
              · exact HF.out
            · have h6b : (k == 1) = false := by simpa using h6
              have hk2 : 2 ≤ k := by omega
              have HRo := Lib.hid (fun (u : World) (hu : Only Nix w u) (A' : Option Addr) (c' : Nat) (ys : List Int) (hys : ISrc u (.slice A' n c') ys) => residuals_at k o W lp ls Ac nc cc m ro Ap Ab np cp nb cb cs ps bs hk2 D H2.out (HCs.out.nix hu) (HPs.out.nix hu) (HBs.out.nix hu) A' n c' ys hys hn)
              have HE6 : Hid (splE k o W lp ls m ro cs ps bs D xs = rofE (tP k lp) (tS k ls) (tC k o cs) m ro ps bs o (xs.map (dvd W))) := Lib.hid (by rw [HE4.out, if_neg (fun h => h5 h.1), if_pos hk2])
              have HV6 : Hid (splV k o W lp ls cs xs = resV (tP k lp) (tS k ls) (tC k o cs) (xs.map (dvd W))) := Lib.hid (by unfold splV; rw [if_pos hk2, Int.toNat_natCast])
              have HM6 : Hid (∀ b : Int, plM k o b = o) := Lib.hid (fun b => by unfold plM; rw [if_neg h5, if_neg h6])
              have hkk : k = 2 ∨ k = 3 := by omega
              clear HE4 hk2 hk0 hk4 h5 h6
              go_wp2_with fail
              refine ((HDv w2 HOq.out).out).mono ?_
              rintro e w3 ⟨v, rfl, hrow, o3⟩
              obtain ⟨A3, c3, rfl⟩ := hrow.form
              have hrl : (xs.map (dvd W)).length = n := by rw [List.length_map, ← Hxl.out]
              rw [hrl] at hrow ⊢
              obtain ⟨g, rfl, hg, hnc⟩ := hrow.some_ (by omega)
              have HY3 := Lib.hid (hrow.isrc (by rw [hrl]; omega))
              have HG := Lib.hid (Nat.le_trans HOq.out.size hg)
              have HO3 := Lib.hid (HOq.out.trans o3)
              have HW3 := Lib.hid (HWq.out.trans o3)
              clear hrow o3 hg hrl HDv HOq
              have r0 := (HB.out w3 HW3.out).cell 0
              have r1 := (HB.out w3 HW3.out).cell 1
              have r2 := (HB.out w3 HW3.out).cell 2
              have r3 := (HB.out w3 HW3.out).cell 3
              have r4 := (HB.out w3 HW3.out).cell 4
              have r5 := (HB.out w3 HW3.out).cell 5
              have r6 := (HB.out w3 HW3.out).cell 6
              have r7 := (HB.out w3 HW3.out).cell 7
              have r8 := (HB.out w3 HW3.out).cell 8
              have r9 := (HB.out w3 HW3.out).cell 9
              simp only [List.getElem?_toArray, List.getElem?_cons_zero, List.getElem?_cons_succ] at r0 r1 r2 r3 r4 r5 r6 r7 r8 r9
              have HR7 := Lib.hid (HRo.out w3 HO3.out _ c3 _ HY3.out)
              clear HRo
              rcases hkk with rfl | rfl
              · obtain ⟨E, hE⟩ : ∃ E, rofE (tP 2 lp) (tS 2 ls) (tC 2 o cs) m ro ps bs o (xs.map (dvd W)) = E := ⟨_, rfl⟩
                by_cases h0 : E = 0
                · subst h0
                  have ho := rof_lt hE
                  rw [List.length_map, ← Hxl.out] at ho
                  obtain ⟨O, rfl⟩ := Int.eq_ofNat_of_zero_le ho.1
                  have hon : O ≤ n := by omega
                  go_wp2_with fail
                  refine (HR7.out).mono ?_
                  rintro e w5 hr
                  obtain ⟨A2, n2, c2, rfl, hz, hfr⟩ := hr.good hE
                  have HO5 := Lib.hid (HO3.out.trans hr.only)
                  have HW5 := Lib.hid (HW3.out.trans hr.only)
                  have HY5 := Lib.hid (HY3.out.nix hr.only)
                  have HE5 := Lib.hid (HE6.out.trans hE)
                  have HZ := Lib.hid hz
                  have HFr := Lib.hid hfr
                  have HS3 := Lib.hid HO3.out.size
                  clear hr hz hfr HY3 HR7 hE ho HE6
                  have s0 := (HB.out w5 HW5.out).cell 0
                  have s1 := (HB.out w5 HW5.out).cell 1
                  have s2 := (HB.out w5 HW5.out).cell 2
                  have s3 := (HB.out w5 HW5.out).cell 3
                  have s4 := (HB.out w5 HW5.out).cell 4
                  have s5 := (HB.out w5 HW5.out).cell 5
                  have s6 := (HB.out w5 HW5.out).cell 6
                  have s7 := (HB.out w5 HW5.out).cell 7
                  have s8 := (HB.out w5 HW5.out).cell 8
                  have s9 := (HB.out w5 HW5.out).cell 9
                  simp only [List.getElem?_toArray, List.getElem?_cons_zero, List.getElem?_cons_succ] at s0 s1 s2 s3 s4 s5 s6 s7 s8 s9
                  have HFin : Hid (∀ u, Only Nix w5 u → SplR 2 O W lp ls m ro cs ps bs D xs w (.returned (.tuple #[.slice (some ⟨g, 0, none⟩) O c3, .slice A2 n2 c2, iv 0])) u) := Lib.hid (fun u hu => by
                    refine ⟨HO5.out.trans hu, fun h => absurd HE5.out h, fun _ => ⟨_, _, _, _, _, _, rfl, ?_, by rw [HV6.out]; exact HZ.out.nix hu, fun ad e _ => ?_, fun ad e hn => Nat.le_trans HS3.out (HFr.out ad e hn)⟩⟩
                    · have hm : (plM 2 O xs.length).toNat = O := by rw [← Hxl.out]; rw [HM6.out]; exact Int.toNat_natCast O
                      rw [hm, Int.toNat_natCast]
                      exact (HY5.out.nix hu).take O (by omega)
                    · injection e with e
                      rw [← e]
                      exact HG.out)
                  have HPm := Lib.hid (plainMany_any w5 2 O W lp ls (.slice Ac nc cc) m ro (.slice Ap np cp) (.slice Ab nb cb) n)
                  clear HE5 HY5
                  rw [HM6.out] at HPm
                  go_wp2_with fail
                  refine (HPm.out).mono ?_
                  rintro e w6 ⟨rfl, o6⟩
                  have HF := Lib.hid (HFin.out _ o6)
                  clear o6 HFin HPm
                  go_wp2
                  refine bodyPost_ret (v := .tuple #[.slice (some ⟨g, 0, none⟩) O c3, .slice A2 n2 c2, iv 0]) ?_ rfl ?_
                  · simp [results, Tryz.f34, go_sem]
                  · exact HF.out
                · go_wp2_with fail
                  refine (HR7.out).mono ?_
                  rintro e w5 hr
                  have hb := hr.bad (fun h => h0 (hE.symm.trans h))
                  rw [hE] at hb
                  subst hb
                  have HF := Lib.hid (SplR.of (HE6.out.trans hE) h0 (HO3.out.trans hr.only))
                  have h0b : (E != 0) = true := by simpa using h0
                  clear hr hE HE6 HR7 h0
                  go_wp2
                  refine bodyPost_ret (v := .tuple #[.slice none 0 0, .slice none 0 0, iv E]) ?_ rfl ?_
                  · simp [results, Tryz.f34, go_sem]
                  · exact HF.out
              · obtain ⟨E, hE⟩ : ∃ E, rofE (tP 3 lp) (tS 3 ls) (tC 3 o cs) m ro ps bs o (xs.map (dvd W)) = E := ⟨_, rfl⟩
                by_cases h0 : E = 0
                · subst h0
                  have ho := rof_lt hE
                  rw [List.length_map, ← Hxl.out] at ho
                  obtain ⟨O, rfl⟩ := Int.eq_ofNat_of_zero_le ho.1
                  have hon : O ≤ n := by omega
                  go_wp2_with fail
                  refine (HR7.out).mono ?_
                  rintro e w5 hr
                  obtain ⟨A2, n2, c2, rfl, hz, hfr⟩ := hr.good hE
                  have HO5 := Lib.hid (HO3.out.trans hr.only)
                  have HW5 := Lib.hid (HW3.out.trans hr.only)
                  have HY5 := Lib.hid (HY3.out.nix hr.only)
                  have HE5 := Lib.hid (HE6.out.trans hE)
                  have HZ := Lib.hid hz
                  have HFr := Lib.hid hfr
                  have HS3 := Lib.hid HO3.out.size
                  clear hr hz hfr HY3 HR7 hE ho HE6
                  have s0 := (HB.out w5 HW5.out).cell 0
                  have s1 := (HB.out w5 HW5.out).cell 1
                  have s2 := (HB.out w5 HW5.out).cell 2
                  have s3 := (HB.out w5 HW5.out).cell 3
                  have s4 := (HB.out w5 HW5.out).cell 4
                  have s5 := (HB.out w5 HW5.out).cell 5
                  have s6 := (HB.out w5 HW5.out).cell 6
                  have s7 := (HB.out w5 HW5.out).cell 7
                  have s8 := (HB.out w5 HW5.out).cell 8
                  have s9 := (HB.out w5 HW5.out).cell 9
                  simp only [List.getElem?_toArray, List.getElem?_cons_zero, List.getElem?_cons_succ] at s0 s1 s2 s3 s4 s5 s6 s7 s8 s9
                  have HFin : Hid (∀ u, Only Nix w5 u → SplR 3 O W lp ls m ro cs ps bs D xs w (.returned (.tuple #[.slice (some ⟨g, 0, none⟩) O c3, .slice A2 n2 c2, iv 0])) u) := Lib.hid (fun u hu => by
                    refine ⟨HO5.out.trans hu, fun h => absurd HE5.out h, fun _ => ⟨_, _, _, _, _, _, rfl, ?_, by rw [HV6.out]; exact HZ.out.nix hu, fun ad e _ => ?_, fun ad e hn => Nat.le_trans HS3.out (HFr.out ad e hn)⟩⟩
                    · have hm : (plM 3 O xs.length).toNat = O := by rw [← Hxl.out]; rw [HM6.out]; exact Int.toNat_natCast O
                      rw [hm, Int.toNat_natCast]
                      exact (HY5.out.nix hu).take O (by omega)
                    · injection e with e
                      rw [← e]
                      exact HG.out)
                  have HPm := Lib.hid (plainMany_any w5 3 O W lp ls (.slice Ac nc cc) m ro (.slice Ap np cp) (.slice Ab nb cb) n)
                  clear HE5 HY5
                  rw [HM6.out] at HPm
                  go_wp2_with fail
                  refine (HPm.out).mono ?_
                  rintro e w6 ⟨rfl, o6⟩
                  have HF := Lib.hid (HFin.out _ o6)
                  clear o6 HFin HPm
                  go_wp2
                  refine bodyPost_ret (v := .tuple #[.slice (some ⟨g, 0, none⟩) O c3, .slice A2 n2 c2, iv 0]) ?_ rfl ?_
                  · simp [results, Tryz.f34, go_sem]
                  · exact HF.out
                · go_wp2_with fail
                  refine (HR7.out).mono ?_
                  rintro e w5 hr
                  have hb := hr.bad (fun h => h0 (hE.symm.trans h))
                  rw [hE] at hb
                  subst hb
                  have HF := Lib.hid (SplR.of (HE6.out.trans hE) h0 (HO3.out.trans hr.only))
                  have h0b : (E != 0) = true := by simpa using h0
                  clear hr hE HE6 HR7 h0
                  go_wp2
                  refine bodyPost_ret (v := .tuple #[.slice none 0 0, .slice none 0 0, iv E]) ?_ rfl ?_
                  · simp [results, Tryz.f34, go_sem]
                  · exact HF.out
        · have HF2 : Hid (∀ q, SplR k o W lp ls m ro cs ps bs D xs w (.returned (.tuple #[.slice none 0 0, .slice none 0 0, iv 10])) (w1.drewN q)) := Lib.hid (fun q => SplR.of (E := 10) (by rw [HE.out, if_pos (fun h => h4 (Hand.out.2 h.2))]) (by decide) (HO1.out.drewN q))
          have h4b : (R != 0) = true := by simpa using h4
          clear h4 HE
          go_wp2_with fail
          go_quiet ((first | (go_at_call 54; exact still_at ((HSa _).out)) | (go_at_call 65; exact still_at ((HUn _).out))))
          go_wp2
          refine bodyPost_ret (v := .tuple #[.slice none 0 0, .slice none 0 0, iv 10]) ?_ rfl ?_
          · simp [results, Tryz.f34, go_sem]
          · exact HF2.out _
      · have HF2 : Hid (∀ q, SplR k o W lp ls m ro cs ps bs D xs w (.returned (.tuple #[.slice none 0 0, .slice none 0 0, iv 10])) (w1.drewN q)) := Lib.hid (fun q => SplR.of (E := 10) (by rw [HE.out, if_pos (fun h => h3 h.1)]) (by decide) (HO1.out.drewN q))
        rw [decide_eq_false h3] at HSa
        clear h3 HUn HE hR
        go_wp2_with fail
        go_quiet ((go_at_call 54; exact still_at ((HSa _).out)))
        go_wp2
        refine bodyPost_ret (v := .tuple #[.slice none 0 0, .slice none 0 0, iv 10]) ?_ rfl ?_
        · simp [results, Tryz.f34, go_sem]
        · exact HF2.out _
    · have hE := HE2.out H1.out h2
      have HF := Lib.hid (SplR.of hE h2 HO1.out)
      have h2b : (ckPl k o wd lp ls m ro nc np nb d != 0) = true := by simpa using h2
      clear hE h2
      generalize ckPl k o wd lp ls m ro nc np nb d = E2 at *
      go_wp2
      refine bodyPost_ret (v := .tuple #[.slice none 0 0, .slice none 0 0, iv E2]) ?_ rfl ?_
      · simp [results, Tryz.f34, go_sem]
      · exact HF.out
  · have h1b : ckBlk n d = 1 := by
      unfold ckBlk at h1 ⊢
      split
      · rfl
      · rename_i h; rw [if_neg h] at h1; exact absurd rfl h1
    have HF := Lib.hid (SplR.of (HE1.out h1) (by decide) HA.out)
    rw [h1b]
    clear h1 h1b
    go_wp2
    refine bodyPost_ret (v := .tuple #[.slice none 0 0, .slice none 0 0, iv 1]) ?_ rfl ?_
    · simp [results, Tryz.f34, go_sem]
    · exact HF.out
end Go.Proofs.YteklfkpeaadinaaGreatDoor.S
