/-
  Comments: parts, check.
-/
import Derived.Test.YtphpciglpnbblaaDoorTT
import Derived.Deep.QuietTactic
namespace Go.Proofs.YtphpciglpnbblaaDoor
open Go.RowKit Go.Shelf

/-- a comment's parts -/
def ptN (s : ByteArray) : ByteArray := if eqI s < 0 then s else s.extract 0 (eqI s).toNat
def ptV (s : ByteArray) : ByteArray := if eqI s < 0 then ⟨#[]⟩ else s.extract ((eqI s).toNat + 1) s.size
def CutR (s : ByteArray) : Value := .tuple #[.string (ptN s), .string (ptV s), .bool (decide (0 ≤ eqI s))]
set_option maxHeartbeats 2000000 in
theorem cutLite_any {w : World} (s : ByteArray) (hs : s.size ≤ 1000000) : Calls Tryd.prog 73 #[.string s, .string ⟨#[61]⟩] w fun e w' => e = .returned (CutR s) ∧ Only Nix w w' := by
  have hI := Lib.hid (Tryd.stringslite_Index_one s 61 w)
  have hR : Hid (CutR s = if eqI s < 0 then .tuple #[.string s, .string ⟨#[]⟩, .bool false] else .tuple #[.string (s.extract 0 (eqI s).toNat), .string (s.extract ((eqI s).toNat + 1) s.size), .bool true]) := Lib.hid (by
    unfold CutR ptN ptV
    by_cases h : eqI s < 0
    · rw [if_pos h, if_pos h, if_pos h, decide_eq_false (by omega)]
    · rw [if_neg h, if_neg h, if_neg h, decide_eq_true (by omega)])
  have hsp := eqI_spec s
  have he : Lib.indexByte s.data.toList 61 = eqI s := rfl
  rw [he] at hI
  generalize CutR s = CR at *
  generalize eqI s = I at *
  rcases hsp with ⟨rfl, _⟩ | ⟨k, rfl, hk, _⟩
  · go_enter Tryd.func73, Tryd.ntmps73
    go_wp2_with fail
    refine (hI.out).mono ?_
    rintro e w1 ⟨rfl, rfl⟩
    go_wp2
    go_ret3
    exact ⟨by rw [hR.out]; rfl, Only.refl _ _⟩
  · have c1 : (k : Int) ≤ (s.size : Int) := by omega
    have c2 : (k : Int) + 1 ≤ (s.size : Int) := by omega
    have c3 : (0 : Int) ≤ (k : Int) := by omega
    have c4 : (0 : Int) ≤ (k : Int) + 1 := by omega
    have hR2 : Hid (CR = .tuple #[.string (s.extract 0 k), .string (s.extract (k + 1) s.size), .bool true]) := Lib.hid (by rw [hR.out, if_neg (by omega)]; rfl)
    clear he
    go_enter Tryd.func73, Tryd.ntmps73
    go_wp2_with fail
    refine (hI.out).mono ?_
    rintro e w1 ⟨rfl, rfl⟩
    go_wp2
    go_quiet (fail)
    go_wp2
    go_ret3
    exact ⟨by rw [hR2.out]; rfl, (Only.refl _ _).drewN _⟩
theorem cut_any {w : World} (s : ByteArray) (hs : s.size ≤ 1000000) : Calls Tryd.prog 59 #[.string s, .string ⟨#[61]⟩] w fun e w' => e = .returned (CutR s) ∧ Only Nix w w' := by
  have hI := Lib.hid (cutLite_any (w := w) s hs)
  unfold CutR at *
  generalize ptN s = N at *
  generalize ptV s = V at *
  generalize decide (0 ≤ eqI s) = B at *
  go_enter Tryd.func59, Tryd.ntmps59
  go_wp2_with fail
  refine (hI.out).mono ?_
  rintro e w1 ⟨rfl, ho⟩
  go_wp2
  go_ret3
  exact ⟨rfl, ho⟩
def PtR (s : ByteArray) : Value := .tuple #[.string (ptN s), .string (ptV s), .bool (isC s)]
set_option maxHeartbeats 2000000 in
theorem parts_any {w : World} (s : ByteArray) (hs : s.size ≤ 1000000) (hT : Tabs w) : Calls Tryd.prog 47 #[.string s] w fun e w' => e = .returned (PtR s) ∧ Only Nix w w' := by
  have hI := Lib.hid (cut_any (w := w) s hs)
  have hOf : Hid (∀ u, Calls Tryd.prog 52 #[.string (ptN s), .func (.func 60) #[] #[]] u fun e w' => e = .returned (.bool ((nb (ptN s)).all nmB)) ∧ Only Nix u w') := Lib.hid (fun u => isOf_any (ptN s) 60 nmB (fun r hr => by unfold nmB; rw [Bool.and_eq_false_iff]; exact .inr (decide_eq_false (by omega))) (enters_of Tryd.func60 (by kernel_rfl) rfl) (fun u r => isOfName_any r))
  have hTx : Hid (∀ u, Only Nix w u → Calls Tryd.prog 48 #[.string (ptV s)] u fun e w' => e = .returned (.bool (isT (ptV s))) ∧ Only Nix u w') := Lib.hid (fun u hu => isText_any (ptV s) (by
    unfold ptV
    split
    · exact Nat.zero_le _
    · rw [← nb_len, nb_extract, List.length_drop, List.length_take, nb_len]
      omega) (hT.nix hu))
  have hsp := eqI_spec s
  have hC : Hid (isC s = (decide (0 < eqI s) && (nb (ptN s)).all nmB && isT (ptV s))) := Lib.hid (by
    unfold isC ptN ptV
    by_cases h : eqI s < 0
    · rw [decide_eq_false (by omega), Bool.false_and, Bool.false_and, Bool.false_and, Bool.false_and]
    · rw [if_neg h, if_neg h])
  have hNe : ∀ k : Nat, eqI s = k → k ≤ s.size → (ptN s).size = k := fun k e hk => by
    unfold ptN
    rw [if_neg (by omega), e, ← nb_len, nb_extract, List.drop_zero, List.length_take, nb_len]
    simp; omega
  unfold CutR at hI
  unfold PtR
  generalize isC s = C at *
  generalize ptN s = N at *
  generalize ptV s = V at *
  generalize eqI s = I at *
  rcases hsp with ⟨rfl, _⟩ | ⟨k, rfl, hk, _⟩
  · have hC2 : Hid (C = false) := Lib.hid (by rw [hC.out]; rfl)
    have hd : decide ((0 : Int) ≤ -1) = false := rfl
    rw [hd] at hI
    clear hNe hT
    go_enter Tryd.func47, Tryd.ntmps47
    go_wp2_with fail
    refine (hI.out).mono ?_
    rintro e w1 ⟨rfl, ho⟩
    go_wp2
    go_ret3
    exact ⟨by rw [hC2.out]; rfl, ho⟩
  · have hsz := hNe k rfl (by omega)
    have hd : decide ((0 : Int) ≤ (k : Int)) = true := decide_eq_true (by omega)
    rw [hd] at hI
    clear hNe hT hd
    by_cases hk0 : k = 0
    · subst hk0
      obtain rfl : N = ⟨#[]⟩ := nb_inj (by rw [List.eq_nil_of_length_eq_zero (l := nb N) (by rw [nb_len]; exact hsz)]; rfl)
      have hC2 : Hid (C = false) := Lib.hid (by rw [hC.out]; rfl)
      go_enter Tryd.func47, Tryd.ntmps47
      go_wp2_with fail
      refine (hI.out).mono ?_
      rintro e w1 ⟨rfl, ho⟩
      go_wp2
      go_ret3
      exact ⟨by rw [hC2.out]; rfl, ho⟩
    · have hne : N.toList.isEmpty = false := by
        rw [Lib.toList_data]
        cases h : N.data.toList with
        | nil => exact absurd (by rw [← hsz, Lib.size_eq, h]; rfl) hk0
        | cons _ _ => rfl
      obtain ⟨B, hB⟩ : ∃ B, (nb N).all nmB = B := ⟨_, rfl⟩
      obtain ⟨T, hTt⟩ : ∃ T, isT V = T := ⟨_, rfl⟩
      rw [hB] at hC
      rw [hTt] at hC hTx
      rw [hB] at hOf
      have hC2 : Hid (C = (B && T)) := Lib.hid (by rw [hC.out, decide_eq_true (by omega), Bool.true_and])
      clear hC hB hTt hsz
      go_enter Tryd.func47, Tryd.ntmps47
      go_wp2_with fail
      refine (hI.out).mono ?_
      rintro e w1 ⟨rfl, ho⟩
      have HO := Lib.hid ho
      have HF := Lib.hid (hOf.out w1)
      clear ho hOf hI
      go_wp2_with fail
      refine (HF.out).mono ?_
      rintro e w2 ⟨rfl, ho⟩
      have HO2 := Lib.hid (HO.out.trans ho)
      have HG := Lib.hid (hTx.out w2 HO2.out)
      clear ho hTx
      cases B with
      | false =>
        go_wp2
        go_ret3
        exact ⟨by rw [hC2.out]; rfl, HO2.out⟩
      | true =>
        go_wp2_with fail
        refine (HG.out).mono ?_
        rintro e w3 ⟨rfl, ho⟩
        have HO3 := Lib.hid (HO2.out.trans ho)
        clear ho
        go_wp2
        go_ret3
        exact ⟨by rw [hC2.out]; rfl, HO3.out⟩
end Go.Proofs.YtphpciglpnbblaaDoor
