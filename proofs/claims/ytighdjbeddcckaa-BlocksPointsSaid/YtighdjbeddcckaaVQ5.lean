/-
  BlocksPoints: its walk.
-/
import Derived.Test.YtighdjbeddcckaaVQ4
namespace Go.Proofs.Ytighdjbeddcckaa
open Go.RowKit Go.Shelf

set_option maxRecDepth 100000 in
set_option maxHeartbeats 16000000 in
theorem blocksPoints_any {w : World} {A B : Option Addr} {n m c d : Nat} {l : List Pt} {bs : List Nat} (hl : TSrc w (.slice A n c) l) (hb : Src w (.slice B m d) bs) (hd : m ≤ d) :
    Calls Try.prog 5 #[.slice A n c, .slice B m d] w fun e w' => e = .returned (.bool true) ∧ Only Nix w w' := by
  have e1 := hl.len
  have e2 := hb.len
  subst e1 e2
  have HL := Lib.hid hl
  have HB := Lib.hid hb
  have HAw : Hid (∀ u, Calls Try.prog 9 #[] u fun e w' => e = .returned (.bool true) ∧ Only Nix u w') := Lib.hid awake_any
  clear hl hb
  by_cases g1 : 40 < l.length
  · have g1i : (40 : Int) < (l.length : Int) := by omega
    have HA1 := Lib.hid (HAw.out w)
    go_enter Try.func5, Try.ntmps5
    go_wp2_with fail
    refine (HA1.out).mono ?_
    rintro e w2 ⟨rfl, o2⟩
    have HO2 := Lib.hid o2
    clear o2
    go_wp2
    go_ret
    exact ⟨rfl, HO2.out⟩
  have g1i : ¬ (40 : Int) < (l.length : Int) := by omega
  by_cases g2 : 500 < bs.length
  · have g2i : (500 : Int) < (bs.length : Int) := by omega
    have HA1 := Lib.hid (HAw.out w)
    go_enter Try.func5, Try.ntmps5
    go_wp2_with fail
    refine (HA1.out).mono ?_
    rintro e w2 ⟨rfl, o2⟩
    have HO2 := Lib.hid o2
    clear o2
    go_wp2
    go_ret
    exact ⟨rfl, HO2.out⟩
  have g2i : ¬ (500 : Int) < (bs.length : Int) := by omega
  obtain ⟨PB, hPB⟩ : ∃ z, (if orE l = 0 then pts l else []) = z := ⟨_, rfl⟩
  have hPBl : PB.length ≤ 18000 := by rw [← hPB]; split <;> simp [pts_len]; omega
  have hPBt : ∀ x ∈ PB, x < 256 := by
    rw [← hPB]
    split
    · exact pts_lt l
    · simp
  have hPBn : orE l ≠ 0 → PB = [] := fun h => by rw [← hPB, if_neg h]
  have HW1 : Hid (Calls Try.prog 17 #[.slice A l.length c] w fun e w' => ∃ v, e = .returned (.tuple #[v, iv (orE l)]) ∧ Src w' v PB ∧ Only Nix w w') := Lib.hid ((writePoints_any HL.out (by omega)).mono fun e w' h => by
    obtain ⟨⟨v, rfl, hown⟩, ho⟩ := h
    rw [hPB] at hown
    exact ⟨v, rfl, hown.bytes (by omega) hPBt, ho⟩)
  have HPt : Hid (∀ u v k, TSrc u v k → k.length ≤ 1000 → Calls Try.prog 19 #[v] u fun e w' => ∃ v', e = .returned v' ∧ TSrc w' v' k ∧ Only Nix u w') := Lib.hid (fun u v k h hk => by
    obtain ⟨A5, c5, rfl⟩ := h.slice
    exact pointsL_any h hk)
  have HW2 : Hid (∀ u v, TSrc u v l → Calls Try.prog 18 #[v] u fun e w' => ∃ v', e = .returned (.tuple #[v', iv (orE l)]) ∧ Src w' v' PB ∧ Only Nix u w') := Lib.hid (fun u v h => (writeRef_any h (by omega)).mono fun e w' h => by
    obtain ⟨⟨v, rfl, hown⟩, ho⟩ := h
    rw [hPB] at hown
    exact ⟨v, rfl, hown.bytes (by omega) hPBt, ho⟩)
  have hpl : (psL bs).length ≤ 1000 := by
    unfold psL
    split
    · rw [rdT_len]; omega
    · simp
  have HP1 : Hid (∀ u, Only Nix w u → Calls Try.prog 20 #[.slice B bs.length d] u fun e w' => PsR u bs e w') := Lib.hid (fun u hu => points_any (HB.out.nix hu) hd (by omega))
  have HP2 : Hid (∀ u, Only Nix w u → Calls Try.prog 21 #[.slice B bs.length d] u fun e w' => PsR u bs e w') := Lib.hid (fun u hu => pointsRef_any (HB.out.nix hu) hd (by omega))
  have HPR : Hid (∀ u e w', PsR u bs e w' → ∃ v, e = .returned (.tuple #[v, iv (psE bs)]) ∧ TSrc w' v (psL bs) ∧ Only Nix u w') := Lib.hid (fun u e w' h => h)
  obtain ⟨PE, hPE⟩ : ∃ z, psE bs = z := ⟨_, rfl⟩
  obtain ⟨PL', hPL⟩ : ∃ z, psL bs = z := ⟨_, rfl⟩
  rw [hPE, hPL] at HPR
  rw [hPL] at hpl
  have HPl := Lib.hid hpl
  have HEq : Hid (∀ u v1 v2, Src u v1 PB → Src u v2 PB → Calls Try.prog 13 #[v1, v2] u fun e w' => e = .returned (.bool true) ∧ Only Nix u w') := Lib.hid (fun u v1 v2 h1 h2 => equal_at h1 h2)
  have HSm : Hid (∀ u v1 v2, TSrc u v1 PL' → TSrc u v2 PL' → Calls Try.prog 22 #[v1, v2] u fun e w' => e = .returned (.bool true) ∧ Only Nix u w') := Lib.hid (fun u v1 v2 h1 h2 => sameL_any h1 h2)
  have HPn := Lib.hid hPBn
  obtain ⟨OE, hOE⟩ : ∃ z, orE l = z := ⟨_, rfl⟩
  rw [hOE] at HW1 HW2 HPn
  clear hPB hPBl hPBt hPBn hpl hPE hPL hOE
  by_cases h0 : OE = 0
  · subst h0
    go_enter Try.func5, Try.ntmps5
    go_wp2_with fail
    refine (HW1.out).mono ?_
    rintro e w1 ⟨v1, rfl, s1, o1⟩
    have HO1 := Lib.hid o1
    have HS1 := Lib.hid s1
    have HQ1 := Lib.hid (HPt.out w1 _ l (HL.out.nix o1) (by omega))
    clear s1 o1
    go_wp2_with fail
    refine (HQ1.out).mono ?_
    rintro e w2 ⟨v2, rfl, t2, o2⟩
    have HO2 := Lib.hid (HO1.out.trans o2)
    have HS2 := Lib.hid (HS1.out.nix o2)
    have HR2 := Lib.hid (HW2.out w2 v2 t2)
    clear t2 o2 HQ1
    go_wp2_with fail
    refine (HR2.out).mono ?_
    rintro e w3 ⟨v3, rfl, s3, o3⟩
    have HO3 := Lib.hid (HO2.out.trans o3)
    have HE3 := Lib.hid (HEq.out w3 v1 v3 (HS2.out.nix o3) s3)
    clear s3 o3 HR2
    go_wp2_with fail
    refine (HE3.out).mono ?_
    rintro e w4 ⟨rfl, o4⟩
    have HO4 := Lib.hid (HO3.out.trans o4)
    have HP4 := Lib.hid (HP1.out w4 HO4.out)
    clear o4 HE3
    go_wp2_with fail
    refine (HP4.out).mono ?_
    intro e w5 hw5
    obtain ⟨v5, rfl, t5, o5⟩ := HPR.out w4 e w5 hw5
    have HO5 := Lib.hid (HO4.out.trans o5)
    have HT5 := Lib.hid t5
    have HP5 := Lib.hid (HP2.out w5 HO5.out)
    clear hw5 t5 o5 HP4
    go_wp2_with fail
    refine (HP5.out).mono ?_
    intro e w6 hw6
    obtain ⟨v6, rfl, t6, o6⟩ := HPR.out w5 e w6 hw6
    have HO6 := Lib.hid (HO5.out.trans o6)
    have HT6 := Lib.hid t6
    have HQ6 := Lib.hid (HPt.out w6 v5 PL' (HT5.out.nix o6) HPl.out)
    clear hw6 t6 o6 HP5
    go_wp2_with fail
    refine (HQ6.out).mono ?_
    rintro e w7 ⟨v7, rfl, t7, o7⟩
    have HO7 := Lib.hid (HO6.out.trans o7)
    have HS7 := Lib.hid (HSm.out w7 v7 v6 t7 (HT6.out.nix o7))
    clear t7 o7 HQ6
    go_wp2_with fail
    refine (HS7.out).mono ?_
    rintro e w8 ⟨rfl, o8⟩
    have HO8 := Lib.hid (HO7.out.trans o8)
    have HA8 := Lib.hid (HAw.out w8)
    clear o8 HS7
    go_wp2_with fail
    refine (HA8.out).mono ?_
    rintro e w9 ⟨rfl, o9⟩
    have HO9 := Lib.hid (HO8.out.trans o9)
    clear o9
    go_wp2
    go_ret
    exact ⟨rfl, HO9.out⟩
  · have hne : (OE != 0) = true := by simpa using h0
    obtain rfl := HPn.out h0
    clear h0
    go_enter Try.func5, Try.ntmps5
    go_wp2_with fail
    refine (HW1.out).mono ?_
    rintro e w1 ⟨v1, rfl, s1, o1⟩
    have HO1 := Lib.hid o1
    have HS1 := Lib.hid s1
    have HQ1 := Lib.hid (HPt.out w1 _ l (HL.out.nix o1) (by omega))
    clear s1 o1
    go_wp2_with fail
    refine (HQ1.out).mono ?_
    rintro e w2 ⟨v2, rfl, t2, o2⟩
    have HO2 := Lib.hid (HO1.out.trans o2)
    have HS2 := Lib.hid (HS1.out.nix o2)
    have HR2 := Lib.hid (HW2.out w2 v2 t2)
    clear t2 o2 HQ1
    go_wp2_with fail
    refine (HR2.out).mono ?_
    rintro e w3 ⟨v3, rfl, s3, o3⟩
    have HO3 := Lib.hid (HO2.out.trans o3)
    have HE3 := Lib.hid (HEq.out w3 v1 (.slice none 0 0) (HS2.out.nix o3) (Src.nil _))
    clear s3 o3 HR2
    go_wp2_with fail
    refine (HE3.out).mono ?_
    rintro e w4 ⟨rfl, o4⟩
    have HO4 := Lib.hid (HO3.out.trans o4)
    have HP4 := Lib.hid (HP1.out w4 HO4.out)
    clear o4 HE3
    go_wp2_with fail
    refine (HP4.out).mono ?_
    intro e w5 hw5
    obtain ⟨v5, rfl, t5, o5⟩ := HPR.out w4 e w5 hw5
    have HO5 := Lib.hid (HO4.out.trans o5)
    have HT5 := Lib.hid t5
    have HP5 := Lib.hid (HP2.out w5 HO5.out)
    clear hw5 t5 o5 HP4
    go_wp2_with fail
    refine (HP5.out).mono ?_
    intro e w6 hw6
    obtain ⟨v6, rfl, t6, o6⟩ := HPR.out w5 e w6 hw6
    have HO6 := Lib.hid (HO5.out.trans o6)
    have HT6 := Lib.hid t6
    have HQ6 := Lib.hid (HPt.out w6 v5 PL' (HT5.out.nix o6) HPl.out)
    clear hw6 t6 o6 HP5
    go_wp2_with fail
    refine (HQ6.out).mono ?_
    rintro e w7 ⟨v7, rfl, t7, o7⟩
    have HO7 := Lib.hid (HO6.out.trans o7)
    have HS7 := Lib.hid (HSm.out w7 v7 v6 t7 (HT6.out.nix o7))
    clear t7 o7 HQ6
    go_wp2_with fail
    refine (HS7.out).mono ?_
    rintro e w8 ⟨rfl, o8⟩
    have HO8 := Lib.hid (HO7.out.trans o8)
    have HA8 := Lib.hid (HAw.out w8)
    clear o8 HS7
    go_wp2_with fail
    refine (HA8.out).mono ?_
    rintro e w9 ⟨rfl, o9⟩
    have HO9 := Lib.hid (HO8.out.trans o9)
    clear o9
    go_wp2
    go_ret
    exact ⟨rfl, HO9.out⟩
end Go.Proofs.Ytighdjbeddcckaa
