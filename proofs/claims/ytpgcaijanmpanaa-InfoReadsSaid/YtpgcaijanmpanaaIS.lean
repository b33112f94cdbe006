/-
  Which infos may be.
-/
import Derived.Test.YtpgcaijanmpanaaIF
namespace Go.Proofs.Ytpgcaijanmpanaa
open Go.RowKit Go.Shelf

def wi (lo n hi : Int) : Prop := lo ≤ n ∧ n ≤ hi
instance (lo n hi : Int) : Decidable (wi lo n hi) := by unfold wi; infer_instance
def mayI (i : Nf) : Prop := wi 1 i.r 1048575 ∧ wi 1 i.c 8 ∧ wi 4 i.d 32 ∧ wi 16 i.mb 65535 ∧ wi i.mb i.xb 65535 ∧ wi 0 i.mf 16777215 ∧ wi 0 i.xf 16777215 ∧ wi 0 i.t 68719476735 ∧ (i.mf = 0 ∨ i.xf = 0 ∨ i.mf ≤ i.xf)
instance (i : Nf) : Decidable (mayI i) := by unfold mayI; infer_instance
def ckI (i : Nf) : Int := if mayI i then 0 else 10
theorem within_any (w : World) (n lo hi : Int) : Calls Try.prog 24 #[iv n, iv lo, iv hi] w fun e w' => e = .returned (.bool (decide (wi lo n hi))) ∧ w = w' := by
  have HE : Hid (decide (wi lo n hi) = (decide (lo ≤ n) && decide (n ≤ hi))) := Lib.hid (by rw [Bool.eq_iff_iff, Bool.and_eq_true, decide_eq_true_iff, decide_eq_true_iff, decide_eq_true_iff]; exact Iff.rfl)
  by_cases h1 : lo ≤ n
  · have d1 : decide (lo ≤ n) = true := decide_eq_true h1
    rw [HE.out, d1]
    clear HE
    go_enter Try.func24, Try.ntmps24
    go_wp2
    go_ret
    exact ⟨by simp, rfl⟩
  · have d1 : decide (lo ≤ n) = false := decide_eq_false h1
    rw [HE.out, d1]
    clear HE
    go_enter Try.func24, Try.ntmps24
    go_wp2
    go_ret
    exact ⟨by simp, rfl⟩
set_option maxRecDepth 100000 in
set_option maxHeartbeats 8000000 in
theorem check_any {w : World} (i : Nf) : Calls Try.prog 12 #[.agg (nfc i)] w fun e w' => e = .returned (iv (ckI i)) ∧ Only Nix w w' := by
  have a1 := (Only.refl Nix w).alloc (.cells (nfc i) 26)
  have b1 := Box.new w 26 (nfc i)
  have q0 := (b1.cell 0).trans (nfc_0 i)
  have q1 := (b1.cell 1).trans (nfc_1 i)
  have q2 := (b1.cell 2).trans (nfc_2 i)
  have q3 := (b1.cell 3).trans (nfc_3 i)
  have q4 := (b1.cell 4).trans (nfc_4 i)
  have q5 := (b1.cell 5).trans (nfc_5 i)
  have q6 := (b1.cell 6).trans (nfc_6 i)
  have q7 := (b1.cell 7).trans (nfc_7 i)
  obtain ⟨C, hC⟩ : ∃ C, nfc i = C := ⟨_, rfl⟩
  rw [hC] at a1 b1 q0 q1 q2 q3 q4 q5 q6 q7
  rw [hC]
  obtain ⟨W1, hW1⟩ : ∃ W1, w.alloc (.cells C 26) = W1 := ⟨_, rfl⟩
  rw [hW1] at a1 b1 q0 q1 q2 q3 q4 q5 q6 q7
  have HO := Lib.hid a1
  clear a1 b1 hC
  obtain ⟨E, hE⟩ : ∃ E, ckI i = E := ⟨_, rfl⟩
  rw [hE]
  obtain ⟨r, c, d, mb, xb, mf, xf, t, s⟩ := i
  simp only at q0 q1 q2 q3 q4 q5 q6 q7
  have C0 : Hid (Calls Try.prog 24 #[iv r, iv 1, iv 1048575] W1 fun e w' => e = .returned (.bool (decide (wi 1 r 1048575))) ∧ W1 = w') := Lib.hid (within_any W1 r 1 1048575)
  have C1 : Hid (Calls Try.prog 24 #[iv c, iv 1, iv 8] W1 fun e w' => e = .returned (.bool (decide (wi 1 c 8))) ∧ W1 = w') := Lib.hid (within_any W1 c 1 8)
  have C2 : Hid (Calls Try.prog 24 #[iv d, iv 4, iv 32] W1 fun e w' => e = .returned (.bool (decide (wi 4 d 32))) ∧ W1 = w') := Lib.hid (within_any W1 d 4 32)
  have C3 : Hid (Calls Try.prog 24 #[iv mb, iv 16, iv 65535] W1 fun e w' => e = .returned (.bool (decide (wi 16 mb 65535))) ∧ W1 = w') := Lib.hid (within_any W1 mb 16 65535)
  have C4 : Hid (Calls Try.prog 24 #[iv xb, iv mb, iv 65535] W1 fun e w' => e = .returned (.bool (decide (wi mb xb 65535))) ∧ W1 = w') := Lib.hid (within_any W1 xb mb 65535)
  have C5 : Hid (Calls Try.prog 24 #[iv mf, iv 0, iv 16777215] W1 fun e w' => e = .returned (.bool (decide (wi 0 mf 16777215))) ∧ W1 = w') := Lib.hid (within_any W1 mf 0 16777215)
  have C6 : Hid (Calls Try.prog 24 #[iv xf, iv 0, iv 16777215] W1 fun e w' => e = .returned (.bool (decide (wi 0 xf 16777215))) ∧ W1 = w') := Lib.hid (within_any W1 xf 0 16777215)
  have C7 : Hid (Calls Try.prog 24 #[iv t, iv 0, iv 68719476735] W1 fun e w' => e = .returned (.bool (decide (wi 0 t 68719476735))) ∧ W1 = w') := Lib.hid (within_any W1 t 0 68719476735)
  obtain ⟨B0, hB0⟩ : ∃ B, decide (wi 1 r 1048575) = B := ⟨_, rfl⟩
  rw [hB0] at C0
  obtain ⟨B1, hB1⟩ : ∃ B, decide (wi 1 c 8) = B := ⟨_, rfl⟩
  rw [hB1] at C1
  obtain ⟨B2, hB2⟩ : ∃ B, decide (wi 4 d 32) = B := ⟨_, rfl⟩
  rw [hB2] at C2
  obtain ⟨B3, hB3⟩ : ∃ B, decide (wi 16 mb 65535) = B := ⟨_, rfl⟩
  rw [hB3] at C3
  obtain ⟨B4, hB4⟩ : ∃ B, decide (wi mb xb 65535) = B := ⟨_, rfl⟩
  rw [hB4] at C4
  obtain ⟨B5, hB5⟩ : ∃ B, decide (wi 0 mf 16777215) = B := ⟨_, rfl⟩
  rw [hB5] at C5
  obtain ⟨B6, hB6⟩ : ∃ B, decide (wi 0 xf 16777215) = B := ⟨_, rfl⟩
  rw [hB6] at C6
  obtain ⟨B7, hB7⟩ : ∃ B, decide (wi 0 t 68719476735) = B := ⟨_, rfl⟩
  rw [hB7] at C7
  obtain ⟨G, hG⟩ : ∃ G, ((mf != 0 && xf != 0) && decide (xf < mf)) = G := ⟨_, rfl⟩
  have HE : Hid (E = if (((((((((B0 && B1) && B2) && B3) && B4) && B5) && B6) && B7) && !G) = true) then 0 else 10) := Lib.hid (by
    rw [← hE, ← hB0, ← hB1, ← hB2, ← hB3, ← hB4, ← hB5, ← hB6, ← hB7, ← hG]
    have e : mayI ⟨r, c, d, mb, xb, mf, xf, t, s⟩ ↔ (((((((((decide (wi 1 r 1048575) && decide (wi 1 c 8)) && decide (wi 4 d 32)) && decide (wi 16 mb 65535)) && decide (wi mb xb 65535)) && decide (wi 0 mf 16777215)) && decide (wi 0 xf 16777215)) && decide (wi 0 t 68719476735)) && !((mf != 0 && xf != 0) && decide (xf < mf))) = true) := by
      show (wi 1 r 1048575 ∧ wi 1 c 8 ∧ wi 4 d 32 ∧ wi 16 mb 65535 ∧ wi mb xb 65535 ∧ wi 0 mf 16777215 ∧ wi 0 xf 16777215 ∧ wi 0 t 68719476735 ∧ (mf = 0 ∨ xf = 0 ∨ mf ≤ xf)) ↔ _
      simp only [Bool.and_eq_true, decide_eq_true_eq, Bool.not_eq_true', Bool.and_eq_false_iff, decide_eq_false_iff_not, bne_eq_false_iff_eq, and_assoc, Int.not_lt, or_assoc]
    unfold ckI
    by_cases h : mayI ⟨r, c, d, mb, xb, mf, xf, t, s⟩
    · rw [if_pos h, if_pos (e.1 h)]
    · rw [if_neg h, if_neg (fun hh => h (e.2 hh))])
  clear hE hB0 hB1 hB2 hB3 hB4 hB5 hB6 hB7
  have HG := Lib.hid hG
  clear hG
  go_enter Try.func12, Try.ntmps12
  go_wp2_with fail
  refine (C0.out).mono ?_
  rintro e w0 ⟨rfl, rfl⟩
  clear C0
  cases B0 with
  | false =>
    have HF : Hid (E = 10) := Lib.hid (by rw [HE.out]; simp)
    clear HE HG C1 C2 C3 C4 C5 C6 C7
    go_wp2
    all_goals
      go_ret
      exact ⟨by rw [HF.out] <;> rfl, HO.out⟩
  | true =>
    go_wp2_with fail
    refine (C1.out).mono ?_
    rintro e w1 ⟨rfl, rfl⟩
    clear C1
    cases B1 with
    | false =>
      have HF : Hid (E = 10) := Lib.hid (by rw [HE.out]; simp)
      clear HE HG C2 C3 C4 C5 C6 C7
      go_wp2
      all_goals
        go_ret
        exact ⟨by rw [HF.out] <;> rfl, HO.out⟩
    | true =>
      go_wp2_with fail
      refine (C2.out).mono ?_
      rintro e w2 ⟨rfl, rfl⟩
      clear C2
      cases B2 with
      | false =>
        have HF : Hid (E = 10) := Lib.hid (by rw [HE.out]; simp)
        clear HE HG C3 C4 C5 C6 C7
        go_wp2
        all_goals
          go_ret
          exact ⟨by rw [HF.out] <;> rfl, HO.out⟩
      | true =>
        go_wp2_with fail
        refine (C3.out).mono ?_
        rintro e w3 ⟨rfl, rfl⟩
        clear C3
        cases B3 with
        | false =>
          have HF : Hid (E = 10) := Lib.hid (by rw [HE.out]; simp)
          clear HE HG C4 C5 C6 C7
          go_wp2
          all_goals
            go_ret
            exact ⟨by rw [HF.out] <;> rfl, HO.out⟩
        | true =>
          go_wp2_with fail
          refine (C4.out).mono ?_
          rintro e w4 ⟨rfl, rfl⟩
          clear C4
          cases B4 with
          | false =>
            have HF : Hid (E = 10) := Lib.hid (by rw [HE.out]; simp)
            clear HE HG C5 C6 C7
            go_wp2
            all_goals
              go_ret
              exact ⟨by rw [HF.out] <;> rfl, HO.out⟩
          | true =>
            go_wp2_with fail
            refine (C5.out).mono ?_
            rintro e w5 ⟨rfl, rfl⟩
            clear C5
            cases B5 with
            | false =>
              have HF : Hid (E = 10) := Lib.hid (by rw [HE.out]; simp)
              clear HE HG C6 C7
              go_wp2
              all_goals
                go_ret
                exact ⟨by rw [HF.out] <;> rfl, HO.out⟩
            | true =>
              go_wp2_with fail
              refine (C6.out).mono ?_
              rintro e w6 ⟨rfl, rfl⟩
              clear C6
              cases B6 with
              | false =>
                have HF : Hid (E = 10) := Lib.hid (by rw [HE.out]; simp)
                clear HE HG C7
                go_wp2
                all_goals
                  go_ret
                  exact ⟨by rw [HF.out] <;> rfl, HO.out⟩
              | true =>
                go_wp2_with fail
                refine (C7.out).mono ?_
                rintro e w7 ⟨rfl, rfl⟩
                clear C7
                cases B7 with
                | false =>
                  have HF : Hid (E = 10) := Lib.hid (by rw [HE.out]; simp)
                  clear HE HG
                  go_wp2
                  all_goals
                    go_ret
                    exact ⟨by rw [HF.out] <;> rfl, HO.out⟩
                | true =>
                  rcases (show mf = 0 ∨ (mf ≠ 0 ∧ xf = 0) ∨ (mf ≠ 0 ∧ xf ≠ 0 ∧ xf < mf) ∨ (mf ≠ 0 ∧ xf ≠ 0 ∧ ¬ xf < mf) by omega) with h | ⟨h, h2⟩ | ⟨h, h2, h3⟩ | ⟨h, h2, h3⟩
                  · have HF : Hid (E = 0) := Lib.hid (by rw [HE.out, ← HG.out]; simp [h])
                    have k1 : (mf != 0) = false := by simp [h]
                    clear HE HG
                    go_wp2
                    go_ret
                    exact ⟨by rw [HF.out] <;> rfl, HO.out⟩
                  · have HF : Hid (E = 0) := Lib.hid (by rw [HE.out, ← HG.out]; simp [h, h2])
                    have k1 : (mf != 0) = true := by simp [h]
                    have k2 : (xf != 0) = false := by simp [h2]
                    clear HE HG
                    go_wp2
                    go_ret
                    exact ⟨by rw [HF.out] <;> rfl, HO.out⟩
                  · have HF : Hid (E = 10) := Lib.hid (by rw [HE.out, ← HG.out]; simp [h, h2, h3])
                    have k1 : (mf != 0) = true := by simp [h]
                    have k2 : (xf != 0) = true := by simp [h2]
                    clear HE HG
                    go_wp2
                    go_ret
                    exact ⟨by rw [HF.out] <;> rfl, HO.out⟩
                  · have HF : Hid (E = 0) := Lib.hid (by rw [HE.out, ← HG.out]; simp [h, h2]; omega)
                    have k1 : (mf != 0) = true := by simp [h]
                    have k2 : (xf != 0) = true := by simp [h2]
                    clear HE HG
                    go_wp2
                    go_ret
                    exact ⟨by rw [HF.out] <;> rfl, HO.out⟩
end Go.Proofs.Ytpgcaijanmpanaa
