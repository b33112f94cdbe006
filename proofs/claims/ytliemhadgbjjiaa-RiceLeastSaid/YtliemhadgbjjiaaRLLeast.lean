/-
  RiceLeast, walked.
-/
import Derived.Test.YtliemhadgbjjiaaRLeastM
import Derived.Deep.RegionHeld3
namespace Go.Proofs.Ytliemhadgbjjiaa
open Go.RowKit Go.Joins

set_option maxRecDepth 100000 in
set_option maxHeartbeats 4000000 in
theorem riceLeast_walk {w : World} (m o x y : Int) (A Ap Ab : Option Addr) (n np nb c cp cb : Nat) (ps bs l : List Int) (hs0 : -9223372036854775808 ≤ x) (hs1 : x ≤ 9223372036854775807)
    (hl : ISrc w (.slice A n c) l) (hps : ISrc w (.slice Ap np cp) ps) (hbs : ISrc w (.slice Ab nb cb) bs) :
    Calls Try.prog 7 #[planV m o (.slice Ap np cp) (.slice Ab nb cb), .agg #[iv x, iv y], .slice A n c] w fun e w' => e = .returned (.bool true) ∧ Only Nix w w' := by
  have hn := hl.len
  have sz1 := hl.small
  rw [← hn] at sz1
  obtain ⟨Wa, hWa⟩ : ∃ Wa, (w.alloc (.cells #[iv m, iv o, .slice Ap np cp, .slice Ab nb cb] 24)).alloc (.cells #[iv x, iv y] 54) = Wa := ⟨_, rfl⟩
  have a0 := ((Only.refl Nix w).alloc (.cells #[iv m, iv o, .slice Ap np cp, .slice Ab nb cb] 24)).alloc (.cells #[iv x, iv y] 54)
  have B0 := (Box.new w 24 #[iv m, iv o, .slice Ap np cp, .slice Ab nb cb]).alloc (.cells #[iv x, iv y] 54)
  have B1 := Box.new (w.alloc (.cells #[iv m, iv o, .slice Ap np cp, .slice Ab nb cb] 24)) 54 #[iv x, iv y]
  rw [World.size_alloc] at B1
  rw [hWa] at a0 B0 B1
  have HL := Lib.hid (hl.nix a0)
  have HPS := Lib.hid (hps.nix a0)
  have HBS := Lib.hid (hbs.nix a0)
  have HA := Lib.hid a0
  have HB0 := Lib.hid B0
  have HB1 := Lib.hid B1
  have HFew := Lib.hid (few_any m o A Ap Ab n np nb c cp cb ps bs l HL.out HPS.out HBS.out)
  have Hn := Lib.hid hn
  have DA := HB0.out.only (Only.refl Nix Wa) (fun e => e)
  have hA0 := DA.cell 0
  have hA1 := DA.cell 1
  have hA2 := DA.cell 2
  have hA3 := DA.cell 3
  have TA := HB1.out.only (Only.refl Nix Wa) (fun e => e)
  have tA0 := TA.cell 0
  have tA1 := TA.cell 1
  simp only [List.getElem?_toArray, List.getElem?_cons_zero, List.getElem?_cons_succ] at hA0 hA1 hA2 hA3 tA0 tA1
  clear DA TA
  clear hl hps hbs hn a0 B0 B1
  go_enter Try.func7, Try.ntmps7
  go_wp2_with fail
  refine (HFew.out).mono ?_
  rintro e w1 ⟨rr, rfl, hfew, o1⟩
  have HO1 := Lib.hid o1
  have HAw := Lib.hid (awake5 w1)
  have D1 := HB0.out.only o1 (fun e => e)
  have h10 := D1.cell 0
  have h11 := D1.cell 1
  have h12 := D1.cell 2
  have h13 := D1.cell 3
  have T1 := HB1.out.only o1 (fun e => e)
  have t10 := T1.cell 0
  have t11 := T1.cell 1
  simp only [List.getElem?_toArray, List.getElem?_cons_zero, List.getElem?_cons_succ] at h10 h11 h12 h13 t10 t11
  clear D1 T1
  clear hA0 hA1 hA2 hA3 tA0 tA1 HFew
  cases rr with
  | false =>
    clear hfew
    go_wp2_with fail
    refine (HAw.out).mono ?_
    rintro e w2 ⟨rfl, o2⟩
    go_wp2
    go_ret
    exact ⟨rfl, HA.out.trans (HO1.out.trans o2)⟩
  | true =>
    obtain ⟨hn200, hp300, _⟩ := hfew rfl
    clear hfew
    by_cases hs7 : 70000 < x
    · have hd7 : decide (70000 < x) = true := by simpa using hs7
      go_wp2_with fail
      refine (HAw.out).mono ?_
      rintro e w2 ⟨rfl, o2⟩
      go_wp2
      go_ret
      exact ⟨rfl, HA.out.trans (HO1.out.trans o2)⟩
    · have hd7 : decide (70000 < x) = false := by simpa using hs7
      by_cases hy0 : y < 0
      · have hdy : decide (y < 0) = true := by simpa using hy0
        go_wp2_with fail
        refine (HAw.out).mono ?_
        rintro e w2 ⟨rfl, o2⟩
        go_wp2
        go_ret
        exact ⟨rfl, HA.out.trans (HO1.out.trans o2)⟩
      · have hdy : decide (y < 0) = false := by simpa using hy0
        by_cases hy1 : 15 < y
        · have hdy1 : decide (15 < y) = true := by simpa using hy1
          go_wp2_with fail
          refine (HAw.out).mono ?_
          rintro e w2 ⟨rfl, o2⟩
          go_wp2
          go_ret
          exact ⟨rfl, HA.out.trans (HO1.out.trans o2)⟩
        · have hdy1 : decide (15 < y) = false := by simpa using hy1
          have HSz := Lib.hid (sizeR_any m o x n c A Ap Ab np nb cp cb ps bs l hs0 (by omega) (HL.out.nix o1) (HPS.out.nix o1) (HBS.out.nix o1))
          clear HAw o1
          go_wp2_with fail
          refine (HSz.out).mono ?_
          rintro e w2 ⟨rfl, o2⟩
          have HO2 := Lib.hid (HO1.out.trans o2)
          have HAw := Lib.hid (awake5 w2)
          clear HSz o2 h10 h11 h12 h13 t10 t11
          by_cases hE : sizeE m o ps bs x l = 0
          · rw [hE]
            obtain ⟨m, o, s, rfl, rfl, rfl, hF⟩ := sizeE_zero hE
            obtain ⟨y, rfl⟩ := Int.eq_ofNat_of_zero_le (show 0 ≤ y by omega)
            have o15 := hF.o15
            have s32 := hF.s32
            have HF := Lib.hid hF
            have hEz := hF.sizeE
            have HEz : Hid (∀ od : Int, 0 ≤ od → od ≤ 15 → bestE od (s : Int) l = 0) := Lib.hid (fun od h1 h2 => by
              have hb := hF.big
              have hlt := hF.lt
              have heq := hF.eq
              have hpp : 0 < 2 ^ o := Nat.two_pow_pos o
              have hle := Nat.le_mul_of_pos_left ((l.length + s) / 2 ^ o) hpp
              unfold bestE
              rw [if_neg (by omega)]
              have e1 : ckB ((l.length : Int) + (s : Int)) (s : Int) = 0 := by unfold ckB; rw [if_neg (by omega)]
              rw [if_neg (by rw [e1]; simp), Int.toNat_natCast]
              have e2 : ckP 0 (l.length + s) s = 0 := by
                unfold ckP
                rw [if_neg]
                simp
                omega
              rw [if_neg (by rw [e2]; simp), if_pos hF.res])
            have HBe := fun od : Int => Lib.hid (best_any od (s : Int) A n c l (by omega) (by omega) (HL.out.nix HO2.out))
            generalize hSN : sizeN (m : Int) (o : Int) ps bs (s : Int) l = SN at *
            have HSN := Lib.hid hSN
            clear hE hF hEz hSN HAw
            have D2 := HB0.out.only HO2.out (fun e => e)
            have h20 := D2.cell 0
            have h21 := D2.cell 1
            have h22 := D2.cell 2
            have h23 := D2.cell 3
            have T2 := HB1.out.only HO2.out (fun e => e)
            have t20 := T2.cell 0
            have t21 := T2.cell 1
            simp only [List.getElem?_toArray, List.getElem?_cons_zero, List.getElem?_cons_succ] at h20 h21 h22 h23 t20 t21
            clear D2 T2
            rcases Nat.lt_trichotomy 15 (o + y) with hoy | hoy | hoy
            · have hmn : (15 : Int) < (o : Int) + (y : Int) := by omega
              go_wp2_with fail
              refine ((HBe (15 : Int)).out).mono ?_
              rintro e w3 (⟨h, _⟩ | ⟨_, v, rfl, hLR⟩)
              · exact absurd (HEz.out (15 : Int) (by omega) (by omega)) h
              · have hodn : ((15 : Int) : Int).toNat = 15 := by omega
                rw [hodn, Int.toNat_natCast] at hLR
                obtain ⟨bm, bo, bA, bA', bn, bn', bc, bc', bps, bbs, st1, st2, he, i1, i2, hno, hso, hbl, hs1, hs2, o3⟩ := hLR
                injection he with he
                subst he
                obtain ⟨xp, rfl, hV, hle⟩ := least_le HF.out (od := 15) (by omega) hs1 hs2
                obtain ⟨rfl, rfl, rfl, rfl, ⟨gA, rfl⟩⟩ := hso xp rfl
                have hF2 := hV.fine (by omega) s32 HF.out.big HF.out.res
                have hz2 := hF2.sizeE
                have hN2 := hF2.sizeN
                have hpl : plS s (l.map fd) xp = 6 + szL ((l.length + s) / 2 ^ xp.2.1) s xp.1 (xp.2.2.map (·.1)) (xp.2.2.map (·.2)) (l.map fd) (List.range (2 ^ xp.2.1)) := by unfold plS; rw [List.length_map]
                rw [← hpl] at hN2
                rw [HSN.out] at hle
                have hord : xp.2.1 ≤ 15 := hV.2.1
                have o4 := (Only.refl Nix w3).alloc (.cells #[iv (xp.1 : Nat), iv (xp.2.1 : Nat), .slice (some gA) bn bc, .slice bA' bn' bc'] 24)
                have Bq := Box.new w3 24 #[iv (xp.1 : Nat), iv (xp.2.1 : Nat), .slice (some gA) bn bc, .slice bA' bn' bc']
                have HO4 := Lib.hid (HO2.out.trans (o3.trans o4))
                have HSz2 := Lib.hid (sizeR_any (xp.1 : Int) (xp.2.1 : Int) (s : Int) n c A (some gA) bA' bn bn' bc bc' (xp.2.2.map (·.1)) (xp.2.2.map (·.2)) l (by omega) (by omega) (HL.out.nix HO4.out) (i1.nix o4) (i2.nix o4))
                rw [hz2, hN2] at HSz2
                clear i1 i2 hno hso hbl hs1 hs2 hV hF2 hz2 hN2 hpl h20 h21 h22 h23 t20 t21
                generalize plS s (l.map fd) xp = PS at *
                generalize xp.2.2.map (·.1) = XA at *
                generalize xp.2.2.map (·.2) = XB at *
                generalize xp.1 = xm at *
                generalize xp.2.1 = xo at *
                obtain ⟨W4, hW4⟩ : ∃ W4, w3.alloc (.cells #[iv xm, iv xo, .slice (some gA) bn bc, .slice bA' bn' bc'] 24) = W4 := ⟨_, rfl⟩
                rw [hW4] at Bq HO4 HSz2 o4
                have HBq := Lib.hid Bq
                have q0 := Bq.cell 0
                have q1 := Bq.cell 1
                have q2 := Bq.cell 2
                have q3 := Bq.cell 3
                simp only [List.getElem?_toArray, List.getElem?_cons_zero, List.getElem?_cons_succ] at q0 q1 q2 q3
                have D4 := HB0.out.only HO4.out (fun e => e)
                have h40 := D4.cell 0
                have h41 := D4.cell 1
                have h42 := D4.cell 2
                have h43 := D4.cell 3
                have T4 := HB1.out.only HO4.out (fun e => e)
                have t40 := T4.cell 0
                have t41 := T4.cell 1
                simp only [List.getElem?_toArray, List.getElem?_cons_zero, List.getElem?_cons_succ] at h40 h41 h42 h43 t40 t41
                clear D4 T4
                clear Bq o3 o4
                go_wp2_with fail
                refine (HSz2.out).mono ?_
                rintro e w5 ⟨rfl, o5⟩
                have HO5 := Lib.hid (HO4.out.trans o5)
                have HAw := Lib.hid (awake5 w5)
                have Bq5 := HBq.out.only o5 (fun e => e)
                have r1 := Bq5.cell 1
                simp only [List.getElem?_toArray, List.getElem?_cons_zero, List.getElem?_cons_succ] at r1
                have D5 := HB0.out.only HO5.out (fun e => e)
                have h50 := D5.cell 0
                have h51 := D5.cell 1
                have h52 := D5.cell 2
                have h53 := D5.cell 3
                have T5 := HB1.out.only HO5.out (fun e => e)
                have t50 := T5.cell 0
                have t51 := T5.cell 1
                simp only [List.getElem?_toArray, List.getElem?_cons_zero, List.getElem?_cons_succ] at h50 h51 h52 h53 t50 t51
                clear D5 T5
                have hle2 : decide ((PS : Int) ≤ (SN : Int)) = true := by simp; omega
                have hle3 : decide ((xo : Int) ≤ (o : Int) + (y : Int)) = true := by simp; omega
                have hle4 : decide ((xo : Int) ≤ 15) = true := by simp; omega
                clear HSz2 o5 Bq5 q0 q1 q2 q3 h40 h41 h42 h43 t40 t41
                go_wp2_with fail
                refine (HAw.out).mono ?_
                rintro e w6 ⟨rfl, o6⟩
                go_wp2
                go_ret
                exact ⟨rfl, HA.out.trans (HO5.out.trans o6)⟩
            · have hmn : (o : Int) + (y : Int) = 15 := by omega
              go_wp2_with fail
              refine ((HBe (15 : Int)).out).mono ?_
              rintro e w3 (⟨h, _⟩ | ⟨_, v, rfl, hLR⟩)
              · exact absurd (HEz.out (15 : Int) (by omega) (by omega)) h
              · have hodn : ((15 : Int) : Int).toNat = 15 := by omega
                rw [hodn, Int.toNat_natCast] at hLR
                obtain ⟨bm, bo, bA, bA', bn, bn', bc, bc', bps, bbs, st1, st2, he, i1, i2, hno, hso, hbl, hs1, hs2, o3⟩ := hLR
                injection he with he
                subst he
                obtain ⟨xp, rfl, hV, hle⟩ := least_le HF.out (od := 15) (by omega) hs1 hs2
                obtain ⟨rfl, rfl, rfl, rfl, ⟨gA, rfl⟩⟩ := hso xp rfl
                have hF2 := hV.fine (by omega) s32 HF.out.big HF.out.res
                have hz2 := hF2.sizeE
                have hN2 := hF2.sizeN
                have hpl : plS s (l.map fd) xp = 6 + szL ((l.length + s) / 2 ^ xp.2.1) s xp.1 (xp.2.2.map (·.1)) (xp.2.2.map (·.2)) (l.map fd) (List.range (2 ^ xp.2.1)) := by unfold plS; rw [List.length_map]
                rw [← hpl] at hN2
                rw [HSN.out] at hle
                have hord : xp.2.1 ≤ 15 := hV.2.1
                have o4 := (Only.refl Nix w3).alloc (.cells #[iv (xp.1 : Nat), iv (xp.2.1 : Nat), .slice (some gA) bn bc, .slice bA' bn' bc'] 24)
                have Bq := Box.new w3 24 #[iv (xp.1 : Nat), iv (xp.2.1 : Nat), .slice (some gA) bn bc, .slice bA' bn' bc']
                have HO4 := Lib.hid (HO2.out.trans (o3.trans o4))
                have HSz2 := Lib.hid (sizeR_any (xp.1 : Int) (xp.2.1 : Int) (s : Int) n c A (some gA) bA' bn bn' bc bc' (xp.2.2.map (·.1)) (xp.2.2.map (·.2)) l (by omega) (by omega) (HL.out.nix HO4.out) (i1.nix o4) (i2.nix o4))
                rw [hz2, hN2] at HSz2
                clear i1 i2 hno hso hbl hs1 hs2 hV hF2 hz2 hN2 hpl h20 h21 h22 h23 t20 t21
                generalize plS s (l.map fd) xp = PS at *
                generalize xp.2.2.map (·.1) = XA at *
                generalize xp.2.2.map (·.2) = XB at *
                generalize xp.1 = xm at *
                generalize xp.2.1 = xo at *
                obtain ⟨W4, hW4⟩ : ∃ W4, w3.alloc (.cells #[iv xm, iv xo, .slice (some gA) bn bc, .slice bA' bn' bc'] 24) = W4 := ⟨_, rfl⟩
                rw [hW4] at Bq HO4 HSz2 o4
                have HBq := Lib.hid Bq
                have q0 := Bq.cell 0
                have q1 := Bq.cell 1
                have q2 := Bq.cell 2
                have q3 := Bq.cell 3
                simp only [List.getElem?_toArray, List.getElem?_cons_zero, List.getElem?_cons_succ] at q0 q1 q2 q3
                have D4 := HB0.out.only HO4.out (fun e => e)
                have h40 := D4.cell 0
                have h41 := D4.cell 1
                have h42 := D4.cell 2
                have h43 := D4.cell 3
                have T4 := HB1.out.only HO4.out (fun e => e)
                have t40 := T4.cell 0
                have t41 := T4.cell 1
                simp only [List.getElem?_toArray, List.getElem?_cons_zero, List.getElem?_cons_succ] at h40 h41 h42 h43 t40 t41
                clear D4 T4
                clear Bq o3 o4
                go_wp2_with fail
                refine (HSz2.out).mono ?_
                rintro e w5 ⟨rfl, o5⟩
                have HO5 := Lib.hid (HO4.out.trans o5)
                have HAw := Lib.hid (awake5 w5)
                have Bq5 := HBq.out.only o5 (fun e => e)
                have r1 := Bq5.cell 1
                simp only [List.getElem?_toArray, List.getElem?_cons_zero, List.getElem?_cons_succ] at r1
                have D5 := HB0.out.only HO5.out (fun e => e)
                have h50 := D5.cell 0
                have h51 := D5.cell 1
                have h52 := D5.cell 2
                have h53 := D5.cell 3
                have T5 := HB1.out.only HO5.out (fun e => e)
                have t50 := T5.cell 0
                have t51 := T5.cell 1
                simp only [List.getElem?_toArray, List.getElem?_cons_zero, List.getElem?_cons_succ] at h50 h51 h52 h53 t50 t51
                clear D5 T5
                have hle2 : decide ((PS : Int) ≤ (SN : Int)) = true := by simp; omega
                have hle3 : decide ((xo : Int) ≤ (o : Int) + (y : Int)) = true := by simp; omega
                have hle4 : decide ((xo : Int) ≤ 15) = true := by simp; omega
                clear HSz2 o5 Bq5 q0 q1 q2 q3 h40 h41 h42 h43 t40 t41
                go_wp2_with fail
                refine (HAw.out).mono ?_
                rintro e w6 ⟨rfl, o6⟩
                go_wp2
                go_ret
                exact ⟨rfl, HA.out.trans (HO5.out.trans o6)⟩
            · have hmn : (o : Int) + (y : Int) < 15 := by omega
              have hmn2 : ¬ ((15 : Int) < (o : Int) + (y : Int)) := by omega
              go_wp2_with fail
              refine ((HBe ((o : Int) + (y : Int))).out).mono ?_
              rintro e w3 (⟨h, _⟩ | ⟨_, v, rfl, hLR⟩)
              · exact absurd (HEz.out ((o : Int) + (y : Int)) (by omega) (by omega)) h
              · have hodn : (((o : Int) + (y : Int)) : Int).toNat = (o + y) := by omega
                rw [hodn, Int.toNat_natCast] at hLR
                obtain ⟨bm, bo, bA, bA', bn, bn', bc, bc', bps, bbs, st1, st2, he, i1, i2, hno, hso, hbl, hs1, hs2, o3⟩ := hLR
                injection he with he
                subst he
                obtain ⟨xp, rfl, hV, hle⟩ := least_le HF.out (od := (o + y)) (by omega) hs1 hs2
                obtain ⟨rfl, rfl, rfl, rfl, ⟨gA, rfl⟩⟩ := hso xp rfl
                have hF2 := hV.fine (by omega) s32 HF.out.big HF.out.res
                have hz2 := hF2.sizeE
                have hN2 := hF2.sizeN
                have hpl : plS s (l.map fd) xp = 6 + szL ((l.length + s) / 2 ^ xp.2.1) s xp.1 (xp.2.2.map (·.1)) (xp.2.2.map (·.2)) (l.map fd) (List.range (2 ^ xp.2.1)) := by unfold plS; rw [List.length_map]
                rw [← hpl] at hN2
                rw [HSN.out] at hle
                have hord : xp.2.1 ≤ (o + y) := hV.2.1
                have o4 := (Only.refl Nix w3).alloc (.cells #[iv (xp.1 : Nat), iv (xp.2.1 : Nat), .slice (some gA) bn bc, .slice bA' bn' bc'] 24)
                have Bq := Box.new w3 24 #[iv (xp.1 : Nat), iv (xp.2.1 : Nat), .slice (some gA) bn bc, .slice bA' bn' bc']
                have HO4 := Lib.hid (HO2.out.trans (o3.trans o4))
                have HSz2 := Lib.hid (sizeR_any (xp.1 : Int) (xp.2.1 : Int) (s : Int) n c A (some gA) bA' bn bn' bc bc' (xp.2.2.map (·.1)) (xp.2.2.map (·.2)) l (by omega) (by omega) (HL.out.nix HO4.out) (i1.nix o4) (i2.nix o4))
                rw [hz2, hN2] at HSz2
                clear i1 i2 hno hso hbl hs1 hs2 hV hF2 hz2 hN2 hpl h20 h21 h22 h23 t20 t21
                generalize plS s (l.map fd) xp = PS at *
                generalize xp.2.2.map (·.1) = XA at *
                generalize xp.2.2.map (·.2) = XB at *
                generalize xp.1 = xm at *
                generalize xp.2.1 = xo at *
                obtain ⟨W4, hW4⟩ : ∃ W4, w3.alloc (.cells #[iv xm, iv xo, .slice (some gA) bn bc, .slice bA' bn' bc'] 24) = W4 := ⟨_, rfl⟩
                rw [hW4] at Bq HO4 HSz2 o4
                have HBq := Lib.hid Bq
                have q0 := Bq.cell 0
                have q1 := Bq.cell 1
                have q2 := Bq.cell 2
                have q3 := Bq.cell 3
                simp only [List.getElem?_toArray, List.getElem?_cons_zero, List.getElem?_cons_succ] at q0 q1 q2 q3
                have D4 := HB0.out.only HO4.out (fun e => e)
                have h40 := D4.cell 0
                have h41 := D4.cell 1
                have h42 := D4.cell 2
                have h43 := D4.cell 3
                have T4 := HB1.out.only HO4.out (fun e => e)
                have t40 := T4.cell 0
                have t41 := T4.cell 1
                simp only [List.getElem?_toArray, List.getElem?_cons_zero, List.getElem?_cons_succ] at h40 h41 h42 h43 t40 t41
                clear D4 T4
                clear Bq o3 o4
                go_wp2_with fail
                refine (HSz2.out).mono ?_
                rintro e w5 ⟨rfl, o5⟩
                have HO5 := Lib.hid (HO4.out.trans o5)
                have HAw := Lib.hid (awake5 w5)
                have Bq5 := HBq.out.only o5 (fun e => e)
                have r1 := Bq5.cell 1
                simp only [List.getElem?_toArray, List.getElem?_cons_zero, List.getElem?_cons_succ] at r1
                have D5 := HB0.out.only HO5.out (fun e => e)
                have h50 := D5.cell 0
                have h51 := D5.cell 1
                have h52 := D5.cell 2
                have h53 := D5.cell 3
                have T5 := HB1.out.only HO5.out (fun e => e)
                have t50 := T5.cell 0
                have t51 := T5.cell 1
                simp only [List.getElem?_toArray, List.getElem?_cons_zero, List.getElem?_cons_succ] at h50 h51 h52 h53 t50 t51
                clear D5 T5
                have hle2 : decide ((PS : Int) ≤ (SN : Int)) = true := by simp; omega
                have hle3 : decide ((xo : Int) ≤ (o : Int) + (y : Int)) = true := by simp; omega
                have hle4 : decide ((xo : Int) ≤ 15) = true := by simp; omega
                clear HSz2 o5 Bq5 q0 q1 q2 q3 h40 h41 h42 h43 t40 t41
                go_wp2_with fail
                refine (HAw.out).mono ?_
                rintro e w6 ⟨rfl, o6⟩
                go_wp2
                go_ret
                exact ⟨rfl, HA.out.trans (HO5.out.trans o6)⟩
          · have hz : sizeN m o ps bs x l = 0 := by unfold sizeN; rw [if_neg hE]
            rw [hz]
            have hEb : (sizeE m o ps bs x l != 0) = true := by simpa using hE
            generalize sizeE m o ps bs x l = E at *
            go_wp2_with fail
            refine (HAw.out).mono ?_
            rintro e w3 ⟨rfl, o3⟩
            go_wp2
            go_ret
            exact ⟨rfl, HA.out.trans (HO2.out.trans o3)⟩
end Go.Proofs.Ytliemhadgbjjiaa
