/-
  BlocksTable: its walk.
-/
import Derived.Test.YtighdjbeddcckaaVN
namespace Go.Proofs.Ytighdjbeddcckaa
open Go.RowKit Go.Shelf

def TaJ (w : World) (i : Nat) (s10 : Value) (wr : World) : Prop := ∃ k : Nat, k ≤ i ∧ s10 = iv k ∧ Only Nix w wr
set_option maxRecDepth 100000 in
set_option maxHeartbeats 16000000 in
theorem table_any {w : World} {A B : Option Addr} {n m c d : Nat} {l : List Pt} {bs : List Nat} (hl : TSrc w (.slice A n c) l) (hb : Src w (.slice B m d) bs) (hd : m ≤ d) :
    Calls Try.prog 6 #[.slice A n c, .slice B m d] w fun e w' => e = .returned (.bool true) ∧ Only Nix w w' := by
  have e1 := hl.len
  have e2 := hb.len
  have hsm := hl.small
  have hsm2 := hb.small
  subst e1 e2
  have HL := Lib.hid hl
  have HB := Lib.hid hb
  have HAw : Hid (∀ u, Calls Try.prog 9 #[] u fun e w' => e = .returned (.bool true) ∧ Only Nix u w') := Lib.hid awake_any
  clear hl hb
  by_cases g1 : 40 < l.length
  · have g1i : (40 : Int) < (l.length : Int) := by omega
    have HA1 := Lib.hid (HAw.out w)
    go_enter Try.func6, Try.ntmps6
    go_wp2_with fail
    refine (HA1.out).mono ?_
    rintro e w2 ⟨rfl, o2⟩
    have HO2 := Lib.hid o2
    clear o2
    go_wp2
    go_ret
    exact ⟨rfl, HO2.out⟩
  by_cases g2 : 500 < bs.length
  · have g1i : ¬ (40 : Int) < (l.length : Int) := by omega
    have g2i : (500 : Int) < (bs.length : Int) := by omega
    have HA1 := Lib.hid (HAw.out w)
    go_enter Try.func6, Try.ntmps6
    go_wp2_with fail
    refine (HA1.out).mono ?_
    rintro e w2 ⟨rfl, o2⟩
    have HO2 := Lib.hid o2
    clear o2
    go_wp2
    go_ret
    exact ⟨rfl, HO2.out⟩
  have g1i : ¬ (40 : Int) < (l.length : Int) := by omega
  have g2i : ¬ (500 : Int) < (bs.length : Int) := by omega
  have HWp := Lib.hid (writePoints_any HL.out (by omega))
  -- the second half: of the bytes
  have HPb : Hid (∀ u, Only Nix w u → Calls Try.prog 20 #[.slice B bs.length d] u fun e w' => PsR u bs e w') := Lib.hid (fun u hu => points_any (HB.out.nix hu) hd (by omega))
  have HPr : Hid (∀ u e w', PsR u bs e w' → ∃ A6 c6, e = .returned (.tuple #[.slice A6 (psL bs).length c6, iv (psE bs)]) ∧ TSrc w' (.slice A6 (psL bs).length c6) (psL bs) ∧ Only Nix u w') := Lib.hid (fun u e w' h => by
    obtain ⟨v, rfl, hT, ho⟩ := h
    obtain ⟨A6, c6, rfl⟩ := hT.slice
    exact ⟨A6, c6, rfl, hT, ho⟩)
  have HpN : Hid (psE bs ≠ 0 → (psL bs).length = 0) := Lib.hid (fun h => by unfold psL; rw [if_neg h]; rfl)
  have HpC : Hid (psE bs = 0 ∨ psE bs = 10 ∨ psE bs = 18 ∨ psE bs = 12) := Lib.hid (by
    unfold psE
    split
    · rcases orE_cases (rdT bs) with h | h | h <;> simp [h]
    · simp)
  have HpW : Hid (psE bs = 0 → ∀ u A6 c6, TSrc u (.slice A6 (psL bs).length c6) (psL bs) → Calls Try.prog 17 #[.slice A6 (psL bs).length c6] u fun e w' => ∃ v, e = .returned (.tuple #[v, iv 0]) ∧ Src w' v bs ∧ Only Nix u w') := Lib.hid (fun h u A6 c6 hT => by
    obtain ⟨p1, p2, p3⟩ := ps_wr HB.out.lt h
    have hlen : (psL bs).length ≤ 1000 := by rw [p1, rdT_len]; omega
    refine (writePoints_any hT hlen).mono ?_
    rintro e w' ⟨⟨v, rfl, hown⟩, ho⟩
    rw [p1, p2, if_pos rfl, p3] at hown
    exact ⟨v, by rw [p1, p2], hown.bytes (by omega) HB.out.lt, ho⟩)
  have HEq : Hid (∀ u v, Only Nix w u → Src u v bs → Calls Try.prog 13 #[v, .slice B bs.length d] u fun e w' => e = .returned (.bool true) ∧ Only Nix u w') := Lib.hid (fun u v hu hv => equal_at hv (HB.out.nix hu))
  have HpL0 : Hid (psE bs ≠ 0 → (psL bs).length = 0) := HpN
  generalize psE bs = E at *
  generalize psL bs = L at *
  by_cases h0 : orE l = 0
  · obtain ⟨q1, q2⟩ := ps_pts HL.out.fits h0
    have HW2 : Hid (∀ e w', WpR w l e w' → ∃ A5 c5, e = .returned (.tuple #[.slice A5 (pts l).length c5, iv 0]) ∧ CSrc w' (.slice A5 (pts l).length c5) (pts l) ∧ (pts l).length ≤ c5 ∧ Only Nix w w') := Lib.hid (fun e w' h => by
      obtain ⟨⟨v, rfl, hown⟩, ho⟩ := h
      rw [if_pos h0] at hown
      have hc := hown.csrc (by rw [pts_len]; omega) (pts_lt l)
      obtain ⟨A5, c5, rfl, hc5⟩ := hc.form
      exact ⟨A5, c5, by rw [h0], hc, hc5, ho⟩)
    have HPl : Hid (∀ u A5 c5, CSrc u (.slice A5 (pts l).length c5) (pts l) → (pts l).length ≤ c5 → Calls Try.prog 20 #[.slice A5 (pts l).length c5] u fun e w' => ∃ v, e = .returned (.tuple #[v, iv 0]) ∧ TSrc w' v l ∧ Only Nix u w') := Lib.hid (fun u A5 c5 h h5 => by
      refine (points_any h.src h5 (by rw [pts_len]; omega)).mono ?_
      rintro e w' ⟨v, rfl, hT, ho⟩
      rw [q2] at hT
      exact ⟨v, by rw [q1], hT, ho⟩)
    have HPt : Hid (∀ u v, TSrc u v l → Calls Try.prog 19 #[v] u fun e w' => ∃ v', e = .returned v' ∧ TSrc w' v' l ∧ Only Nix u w') := Lib.hid (fun u v h => by
      obtain ⟨A5, c5, rfl⟩ := h.slice
      exact pointsL_any h (by omega))
    have HOp : Hid (∀ i, i < l.length → 0 ≤ (gt l i).1 → ∀ k, k < i → (gt l k).1 < (gt l i).1) := Lib.hid (fun i hi h k hk => ord_pairs h0 hi h k hk)
    generalize (pts l).length = N5 at *
    clear q1 q2 h0
    go_enter Try.func6, Try.ntmps6
    go_wp2_with fail
    refine (HWp.out).mono ?_
    intro e w2 hw2
    obtain ⟨A5, c5, rfl, s5, hc5, o2⟩ := HW2.out e w2 hw2
    have HO2 := Lib.hid o2
    have HP2 := Lib.hid (HPl.out w2 A5 c5 s5 hc5)
    clear hw2 o2 s5
    go_wp2_with fail
    refine (HP2.out).mono ?_
    rintro e w3 ⟨v3, rfl, t3, o3⟩
    have HO3 := Lib.hid (HO2.out.trans o3)
    have HT3 := Lib.hid t3
    have HQ3 := Lib.hid (HPt.out w3 v3 t3)
    clear t3 o3
    go_wp2_with fail
    refine (HQ3.out).mono ?_
    rintro e w4 ⟨v4, rfl, t4, o4⟩
    have HO4 := Lib.hid (HO3.out.trans o4)
    have HT4 := Lib.hid t4
    have HQ4 := Lib.hid (HPt.out w4 _ (HL.out.nix HO4.out))
    clear t4 o4
    go_wp2_with fail
    refine (HQ4.out).mono ?_
    rintro e w5 ⟨v5, rfl, t5, o5⟩
    have HO5 := Lib.hid (HO4.out.trans o5)
    have HS5 := Lib.hid (sameL_any (HT4.out.nix o5) t5)
    clear t5 o5
    go_wp2_with fail
    refine (HS5.out).mono ?_
    rintro e w6 ⟨rfl, o6⟩
    have HO6 := Lib.hid (HO5.out.trans o6)
    clear o6 HQ3 HQ4 HS5 HT3 HT4 HP2
    go_wp2
    go_loopw [9] (fun s9 wr => SaI w l.length s9 wr) (fun s9 _ => l.length - (intOf s9).toNat)
    case atStart => exact ⟨0, Nat.zero_le _, rfl, HO6.out⟩
    case round =>
      obtain ⟨i, hi, rfl, ho⟩ := hrel
      have HO := Lib.hid ho
      clear ho
      by_cases hlt : i < l.length
      · have hlti : (i : Int) < (l.length : Int) := by omega
        have HOi := Lib.hid (HOp.out i hlt)
        have HF := Lib.hid (HL.out.fits _ (List.getElem_mem hlt))
        obtain ⟨wi, hwi⟩ : ∃ x, wr = x := ⟨_, rfl⟩
        subst hwi
        go_wp2
        go_loopw [10] (fun s10 wr => TaJ w i s10 wr) (fun s10 _ => i - (intOf s10).toNat)
        case atStart => exact ⟨0, Nat.zero_le _, rfl, HO.out⟩
        case round =>
          obtain ⟨k, hk, rfl, ho⟩ := hrel
          have HOk := Lib.hid ho
          clear ho
          by_cases hkt : k < i
          · have hkti : (k : Int) < (i : Int) := by omega
            have hkl : k < l.length := by omega
            have hkli : (k : Int) < (l.length : Int) := by omega
            obtain ⟨ad, rfl, hx0, _, _⟩ := (HL.out.nix HOk.out).at_ hlt
            obtain ⟨ad', e, hy0, _, _⟩ := (HL.out.nix HOk.out).at_ hkl
            injection e with e
            subst e
            rw [← gt_eq hlt] at hx0
            rw [← gt_eq hkl] at hy0
            have hpq := fun h => HOi.out h k hkt
            generalize (gt l i).1 = p at *
            generalize (gt l k).1 = q at *
            by_cases h0 : 0 ≤ p
            · have hlt3 := hpq h0
              have hd1 : decide (0 ≤ p) = true := decide_eq_true h0
              have hd2 : decide (p ≤ q) = false := decide_eq_false (by omega)
              have hd3 : ¬ p ≤ q := by omega
              clear hpq
              go_wp2
              go_quiet (fail)
              go_wp2
              go_roundw
              case rel => exact ⟨k + 1, by omega, by go_num, HOk.out.drewN _⟩
              case measure => simp [intOf]; omega
            · have hd1 : decide (0 ≤ p) = false := decide_eq_false h0
              clear hpq
              go_wp2
              go_quiet (fail)
              go_wp2
              go_roundw
              case rel => exact ⟨k + 1, by omega, by go_num, HOk.out.drewN _⟩
              case measure => simp [intOf]; omega
          · obtain rfl : k = i := by omega
            have hkti : ¬ ((k : Nat) : Int) < (k : Int) := by omega
            go_wp2
            go_roundw
            case rel => exact ⟨k + 1, hlt, by go_num, HOk.out⟩
            case measure => simp [intOf]; omega
      · obtain rfl : i = l.length := by omega
        have hlti : ¬ ((l.length : Nat) : Int) < (l.length : Int) := by omega
        have HP9 := Lib.hid (HPb.out _ HO.out)
        go_wp2_with fail
        refine (HP9.out).mono ?_
        intro e w7 hw7
        obtain ⟨A6, c6, rfl, t7, o7⟩ := HPr.out _ e w7 hw7
        have HO7 := Lib.hid (HO.out.trans o7)
        have HT7 := Lib.hid t7
        clear hw7 t7 o7 HP9
        by_cases hE : E = 0
        · subst hE
          have HW9 := Lib.hid (HpW.out rfl w7 A6 c6 HT7.out)
          clear HpN HpC HpW HpL0
          go_wp2_with fail
          refine (HW9.out).mono ?_
          rintro e w8 ⟨v8, rfl, s8, o8⟩
          have HO8 := Lib.hid (HO7.out.trans o8)
          have HE8 := Lib.hid (HEq.out w8 v8 HO8.out s8)
          clear s8 o8 HW9
          go_wp2_with fail
          refine (HE8.out).mono ?_
          rintro e w9 ⟨rfl, o9⟩
          have HO9 := Lib.hid (HO8.out.trans o9)
          have HA9 := Lib.hid (HAw.out w9)
          clear o9 HE8
          go_wp2_with fail
          refine (HA9.out).mono ?_
          rintro e w10 ⟨rfl, o10⟩
          have HO10 := Lib.hid (HO9.out.trans o10)
          clear o10
          go_wp2
          go_ret
          exact ⟨rfl, HO10.out⟩
        · have hL0 : L.length = 0 := HpN.out hE
          have hEb : (E != 0) = true := by simpa using hE
          rw [hL0]
          have HA9 := Lib.hid (HAw.out w7)
          clear HpN HpC HpW HpL0 hL0
          go_wp2_with fail
          refine (HA9.out).mono ?_
          rintro e w10 ⟨rfl, o10⟩
          have HO10 := Lib.hid (HO7.out.trans o10)
          clear o10
          go_wp2
          go_ret
          exact ⟨rfl, HO10.out⟩
  · have hc : orE l = 10 ∨ orE l = 18 := (orE_cases l).resolve_left h0
    have HW2 : Hid (∀ e w', WpR w l e w' → ∃ v, e = .returned (.tuple #[v, iv (orE l)]) ∧ Only Nix w w') := Lib.hid (fun e w' h => by
      obtain ⟨⟨v, rfl, hown⟩, ho⟩ := h
      exact ⟨v, rfl, ho⟩)
    have hne : (orE l == 0) = false := by simpa using h0
    generalize orE l = OE at *
    clear hc h0
    go_enter Try.func6, Try.ntmps6
    go_wp2_with fail
    refine (HWp.out).mono ?_
    intro e w2 hw2
    obtain ⟨v2, rfl, o2⟩ := HW2.out e w2 hw2
    have HO := Lib.hid o2
    clear hw2 o2
    have HP9 := Lib.hid (HPb.out _ HO.out)
    go_wp2_with fail
    refine (HP9.out).mono ?_
    intro e w7 hw7
    obtain ⟨A6, c6, rfl, t7, o7⟩ := HPr.out _ e w7 hw7
    have HO7 := Lib.hid (HO.out.trans o7)
    have HT7 := Lib.hid t7
    clear hw7 t7 o7 HP9
    by_cases hE : E = 0
    · subst hE
      have HW9 := Lib.hid (HpW.out rfl w7 A6 c6 HT7.out)
      clear HpN HpC HpW HpL0
      go_wp2_with fail
      refine (HW9.out).mono ?_
      rintro e w8 ⟨v8, rfl, s8, o8⟩
      have HO8 := Lib.hid (HO7.out.trans o8)
      have HE8 := Lib.hid (HEq.out w8 v8 HO8.out s8)
      clear s8 o8 HW9
      go_wp2_with fail
      refine (HE8.out).mono ?_
      rintro e w9 ⟨rfl, o9⟩
      have HO9 := Lib.hid (HO8.out.trans o9)
      have HA9 := Lib.hid (HAw.out w9)
      clear o9 HE8
      go_wp2_with fail
      refine (HA9.out).mono ?_
      rintro e w10 ⟨rfl, o10⟩
      have HO10 := Lib.hid (HO9.out.trans o10)
      clear o10
      go_wp2
      go_ret
      exact ⟨rfl, HO10.out⟩
    · have hL0 : L.length = 0 := HpN.out hE
      have hEb : (E != 0) = true := by simpa using hE
      rw [hL0]
      have HA9 := Lib.hid (HAw.out w7)
      clear HpN HpC HpW HpL0 hL0
      go_wp2_with fail
      refine (HA9.out).mono ?_
      rintro e w10 ⟨rfl, o10⟩
      have HO10 := Lib.hid (HO7.out.trans o10)
      clear o10
      go_wp2
      go_ret
      exact ⟨rfl, HO10.out⟩
end Go.Proofs.Ytighdjbeddcckaa
