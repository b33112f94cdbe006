/-
  Seekable, and BlocksSeeks: their walks.
-/
import Derived.Test.YtighdjbeddcckaaVS
namespace Go.Proofs.Ytighdjbeddcckaa
open Go.RowKit Go.Shelf

theorem eql_two (u : World) : (binOp .eql 55 twV .nilFunc).run Try.prog u = .ok (.bool false) u := by kernel_rfl
def okS (p : Pt) : Prop := isK p ∨ rtT p
instance (p : Pt) : Decidable (okS p) := by unfold okS; infer_instance
def okN (l : List Pt) (n : Nat) : Prop := ∀ i, i < n → okS (gt l i)
instance (l : List Pt) (n : Nat) : Decidable (okN l n) := by unfold okN; infer_instance
theorem okN_one {l : List Pt} {n : Nat} (h : okN l n) (h2 : okS (gt l n)) : okN l (n + 1) := fun i hi => by
  rcases Nat.lt_succ_iff_lt_or_eq.1 hi with h3 | rfl
  · exact h i h3
  · exact h2
def skE (l : List Pt) : Int := if okN l l.length then 0 else 12
def SkI (W : World) (l : List Pt) (s6 s14 : Value) (wr : World) : Prop := ∃ j : Nat, j ≤ l.length ∧ s6 = iv 0 ∧ s14 = iv j ∧ okN l j ∧ Only Nix W wr
set_option maxRecDepth 100000 in
set_option maxHeartbeats 8000000 in
theorem seekable_any {w : World} {A : Option Addr} {n c : Nat} {l : List Pt} (hs : TSrc w (.slice A n c) l) : Calls Try.prog 24 #[.slice A n c, twV] w fun e w' => e = .returned (iv (skE l)) ∧ Only Nix w w' := by
  have hlen := hs.len
  have hsm := hs.small
  have HS := Lib.hid hs
  subst hlen
  clear hs
  have hmf : ∀ (fn : Fn) (first cap : Array Value) (w : World), (Instr.makeFunc fn first cap).run Try.prog w = .ok (.func fn first cap) w := fun _ _ _ _ => rfl
  have hE2 := eql_two
  have a1 := Lib.hid ((Only.refl Nix w).alloc (.cells #[twV] 55))
  have b1 := Box.new w 55 #[twV]
  obtain ⟨W1, hW1⟩ : ∃ W1, w.alloc (.cells #[twV] 55) = W1 := ⟨_, rfl⟩
  rw [hW1] at a1 b1
  have hc0 := b1.cell 0
  simp only [List.getElem?_toArray, List.getElem?_cons_zero] at hc0
  have HB := Lib.hid b1
  have HK : Hid (∀ p u, F3 p → Calls Try.prog 38 #[p3 p] u fun e w' => e = .returned (.bool (decide (isK p))) ∧ Only Nix u w') := Lib.hid (fun p u hp => isKept_any p hp)
  have HRt : Hid (∀ p u, F3 p → Only Nix W1 u → Calls Try.prog 36 #[p3 p, .pointer (some ⟨w.heap.size, 0, none⟩)] u fun e w' => e = .returned (.bool (decide (rtT p))) ∧ Only Nix u w') := Lib.hid (fun p u hp ho => isRight_any p hp (HB.out.only ho (fun e => e)))
  have HSW := Lib.hid (HS.out.nix a1.out)
  clear b1
  go_enter Try.func24, Try.ntmps24
  go_wp2
  go_step3
  go_wp2
  go_step3
  go_wp2
  go_loopw [6, 14] (fun s6 s14 wr => SkI W1 l s6 s14 wr) (fun _ s14 _ => l.length - (intOf s14).toNat)
  case atStart => exact ⟨0, Nat.zero_le _, rfl, rfl, fun i hi => absurd hi (by omega), Only.refl _ _⟩
  case round =>
    obtain ⟨j, hj, rfl, rfl, hm, ho⟩ := hrel
    have HM := Lib.hid hm
    have HO := Lib.hid ho
    clear hm ho
    by_cases hlt : j < l.length
    · obtain ⟨ad, rfl, hx0, hx1, hx2⟩ := (HSW.out.nix HO.out).at_ hlt
      have hF := HS.out.fits _ (List.getElem_mem hlt)
      have hgt := gt_eq hlt
      have hlti : (j : Int) < (l.length : Int) := by omega
      rw [← hgt] at hx0 hx1 hx2 hF
      have HFp := Lib.hid hF
      have HBx := Lib.hid (Box.new wr 53 #[iv (gt l j).1, iv (gt l j).2.1, iv (gt l j).2.2])
      have HO1 := Lib.hid (HO.out.alloc (.cells #[iv (gt l j).1, iv (gt l j).2.1, iv (gt l j).2.2] 53))
      have HN1 := Lib.hid (fun h => okN_one HM.out (show okS (gt l j) from h))
      have HZ : Hid (¬ okS (gt l j) → skE l = 12) := Lib.hid (fun h => if_neg (fun hh => h (hh j hlt)))
      generalize gt l j = P at *
      obtain ⟨W4, hW4⟩ : ∃ W4, wr.alloc (.cells #[iv P.1, iv P.2.1, iv P.2.2] 53) = W4 := ⟨_, rfl⟩
      rw [hW4] at HBx HO1
      have HKp := Lib.hid (HK.out P W4 HFp.out)
      have b0 := HBx.out.cell 0
      have b1 := HBx.out.cell 1
      have b2 := HBx.out.cell 2
      simp only [List.getElem?_toArray, List.getElem?_cons_zero, List.getElem?_cons_succ] at b0 b1 b2
      clear hF hgt
      by_cases hk : isK P
      · have HNj := Lib.hid (HN1.out (.inl hk))
        rw [decide_eq_true hk] at HKp
        clear hk
        go_wp2_with fail
        refine (HKp.out).mono ?_
        rintro e w2 ⟨rfl, o2⟩
        have HO2 := Lib.hid (HO1.out.trans o2)
        clear o2
        go_wp2
        go_roundw
        case rel => exact ⟨j + 1, hlt, rfl, by go_num, HNj.out, HO2.out⟩
        case measure => simp [intOf]; omega
      · rw [decide_eq_false hk] at HKp
        by_cases hr : rtT P
        · have HNj := Lib.hid (HN1.out (.inr hr))
          clear hk
          go_wp2_with fail
          refine (HKp.out).mono ?_
          rintro e w2 ⟨rfl, o2⟩
          have HO2 := Lib.hid (HO1.out.trans o2)
          have hB2 := HBx.out.only o2 (fun e => e)
          have d0 := hB2.cell 0
          have d1 := hB2.cell 1
          have d2 := hB2.cell 2
          simp only [List.getElem?_toArray, List.getElem?_cons_zero, List.getElem?_cons_succ] at d0 d1 d2
          have HR2 := Lib.hid (HRt.out P w2 HFp.out HO2.out)
          rw [decide_eq_true hr] at HR2
          clear o2 hB2 b0 b1 b2 hr
          go_wp2_with fail
          refine (HR2.out).mono ?_
          rintro e w3 ⟨rfl, o3⟩
          have HO3 := Lib.hid (HO2.out.trans o3)
          clear o3
          go_wp2
          go_roundw
          case rel => exact ⟨j + 1, hlt, rfl, by go_num, HNj.out, HO3.out⟩
          case measure => simp [intOf]; omega
        · have HZj := Lib.hid (HZ.out (fun h => h.elim hk hr))
          clear hk
          go_wp2_with fail
          refine (HKp.out).mono ?_
          rintro e w2 ⟨rfl, o2⟩
          have HO2 := Lib.hid (HO1.out.trans o2)
          have hB2 := HBx.out.only o2 (fun e => e)
          have d0 := hB2.cell 0
          have d1 := hB2.cell 1
          have d2 := hB2.cell 2
          simp only [List.getElem?_toArray, List.getElem?_cons_zero, List.getElem?_cons_succ] at d0 d1 d2
          have HR2 := Lib.hid (HRt.out P w2 HFp.out HO2.out)
          rw [decide_eq_false hr] at HR2
          clear o2 hB2 b0 b1 b2 hr
          go_wp2_with fail
          refine (HR2.out).mono ?_
          rintro e w3 ⟨rfl, o3⟩
          have HO3 := Lib.hid (a1.out.trans (HO2.out.trans o3))
          clear o3
          go_wp2
          rw [Exit.noGoto_ret]
          go_ret
          exact ⟨by rw [HZj.out]; rfl, HO3.out⟩
    · obtain rfl : j = l.length := by omega
      have HZ : Hid (skE l = 0) := Lib.hid (if_pos HM.out)
      have HO3 := Lib.hid (a1.out.trans HO.out)
      go_wp2
      rw [Exit.noGoto_ret]
      go_ret
      exact ⟨by rw [HZ.out]; rfl, HO3.out⟩
set_option maxHeartbeats 1000000 in
theorem seekable_nil {w : World} (v : Value) : Calls Try.prog 24 #[v, .nilFunc] w fun e w' => e = .returned (iv 20) ∧ Only Nix w w' := by
  have hmf : ∀ (u : World), (binOp .eql 55 .nilFunc .nilFunc).run Try.prog u = .ok (.bool true) u := fun u => by kernel_rfl
  have a1 := Lib.hid ((Only.refl Nix w).alloc (.cells #[.nilFunc] 55))
  go_enter Try.func24, Try.ntmps24
  go_wp2
  go_step3
  go_wp2
  rw [Exit.noGoto_ret]
  go_ret
  exact ⟨rfl, a1.out⟩
def SbI (w : World) (l : List Pt) (s3 s4 : Value) (wr : World) : Prop := ∃ j : Nat, j ≤ l.length ∧ s4 = iv j ∧ s3 = iv (if okN l j then 0 else 12) ∧ Only Nix w wr
theorem okN_step {l : List Pt} {j : Nat} : (if okN l (j + 1) then (0 : Int) else 12) = if okS (gt l j) then (if okN l j then 0 else 12) else 12 := by
  by_cases h : okS (gt l j)
  · rw [if_pos h]
    by_cases h2 : okN l j
    · rw [if_pos h2, if_pos (okN_one h2 h)]
    · rw [if_neg h2, if_neg (fun hh => h2 (fun i hi => hh i (by omega)))]
  · rw [if_neg h, if_neg (fun hh => h (hh j (by omega)))]
set_option maxRecDepth 100000 in
set_option maxHeartbeats 8000000 in
theorem seeks_any {w : World} {A : Option Addr} {n c : Nat} {l : List Pt} (hs : TSrc w (.slice A n c) l) : Calls Try.prog 7 #[.slice A n c] w fun e w' => e = .returned (.bool true) ∧ Only Nix w w' := by
  have hlen := hs.len
  have hsm := hs.small
  have HS := Lib.hid hs
  subst hlen
  clear hs
  have HAw : Hid (∀ u, Calls Try.prog 9 #[] u fun e w' => e = .returned (.bool true) ∧ Only Nix u w') := Lib.hid awake_any
  by_cases g1 : 40 < l.length
  · have g1i : (40 : Int) < (l.length : Int) := by omega
    have HA1 := Lib.hid (HAw.out w)
    go_enter Try.func7, Try.ntmps7
    go_wp2_with fail
    refine (HA1.out).mono ?_
    rintro e w2 ⟨rfl, o2⟩
    have HO2 := Lib.hid o2
    clear o2
    go_wp2
    go_ret
    exact ⟨rfl, HO2.out⟩
  have g1i : ¬ (40 : Int) < (l.length : Int) := by omega
  have HTw : Hid (∀ s u, (-9223372036854775808 ≤ s ∧ s ≤ 9223372036854775807) → Calls Try.prog 23 #[iv s] u fun e w' => e = .returned (.tuple #[iv (twO s), iv 2, .bool (twB s)]) ∧ w' = u) := Lib.hid (fun s u hs => two_any s hs u)
  have HSk : Hid (∀ u, Only Nix w u → Calls Try.prog 24 #[.slice A l.length c, twV] u fun e w' => e = .returned (iv (skE l)) ∧ Only Nix u w') := Lib.hid (fun u hu => seekable_any (HS.out.nix hu))
  have HSn : Hid (∀ u, Calls Try.prog 24 #[.slice A l.length c, .nilFunc] u fun e w' => e = .returned (iv 20) ∧ Only Nix u w') := Lib.hid (fun u => seekable_nil _)
  go_enter Try.func7, Try.ntmps7
  go_wp2
  go_loopw [3, 4] (fun s3 s4 wr => SbI w l s3 s4 wr) (fun _ s4 _ => l.length - (intOf s4).toNat)
  case atStart => exact ⟨0, Nat.zero_le _, rfl, by rw [if_pos (show okN l 0 from fun i hi => absurd hi (by omega))], Only.refl _ _⟩
  case round =>
    obtain ⟨j, hj, rfl, rfl, ho⟩ := hrel
    have HO := Lib.hid ho
    clear ho
    by_cases hlt : j < l.length
    · obtain ⟨ad, rfl, hx0, hx1, hx2⟩ := (HS.out.nix HO.out).at_ hlt
      have hF := HS.out.fits _ (List.getElem_mem hlt)
      have hlti : (j : Int) < (l.length : Int) := by omega
      have HSt := Lib.hid (okN_step (l := l) (j := j))
      rw [← gt_eq hlt] at hx0 hx1 hx2 hF
      generalize gt l j = P at *
      obtain ⟨s, o, c0⟩ := P
      simp only at hx0 hx1 hx2
      have HT := Lib.hid (HTw.out s wr hF.1)
      have HD : Hid (okS (s, o, c0) ↔ s = -1 ∨ (twB s = true ∧ twO s = o ∧ 2 = c0)) := Lib.hid Iff.rfl
      obtain ⟨Z, hZ⟩ : ∃ Z : Int, (if okN l j then 0 else 12) = Z := ⟨_, rfl⟩
      rw [hZ] at HSt ⊢
      clear hF hZ
      generalize twO s = O at *
      generalize twB s = Bb at *
      by_cases k1 : s = -1
      · have HE : Hid ((if okN l (j + 1) then (0 : Int) else 12) = Z) := Lib.hid (by rw [HSt.out, if_pos (HD.out.2 (.inl k1))])
        have k1i : (s != -1) = false := by simpa using k1
        have HK1 := Lib.hid k1
        clear k1 HSt HD
        go_wp2_with fail
        refine (HT.out).mono ?_
        rintro e w2 ⟨rfl, rfl⟩
        go_wp2
        go_roundw
        case rel => exact ⟨j + 1, hlt, by go_num, by rw [HE.out], HO.out⟩
        case measure => simp [intOf]; omega
      · have k1i : (s != -1) = true := by simpa using k1
        by_cases k2 : Bb = true ∧ O = o ∧ 2 = c0
        · have HE : Hid ((if okN l (j + 1) then (0 : Int) else 12) = Z) := Lib.hid (by rw [HSt.out, if_pos (HD.out.2 (.inr k2))])
          obtain ⟨rfl, q2, q3⟩ := k2
          have q2i : (O != o) = false := by simpa using q2
          have q3i : ((2 : Int) != c0) = false := by simpa using q3
          have q3j : ((2 : Int) == c0) = true := by simpa using q3
          clear k1 HSt HD q2 q3
          go_wp2_with fail
          refine (HT.out).mono ?_
          rintro e w2 ⟨rfl, rfl⟩
          go_wp2
          go_roundw
          case rel => exact ⟨j + 1, hlt, by go_num, by rw [HE.out], HO.out⟩
          case measure => simp [intOf]; omega
        · have HE : Hid ((if okN l (j + 1) then (0 : Int) else 12) = 12) := Lib.hid (by rw [HSt.out, if_neg (fun h => (HD.out.1 h).elim k1 k2)])
          clear k1 HSt HD
          cases Bb with
          | false =>
            clear k2
            go_wp2_with fail
            refine (HT.out).mono ?_
            rintro e w2 ⟨rfl, rfl⟩
            go_wp2
            go_roundw
            case rel => exact ⟨j + 1, hlt, by go_num, by rw [HE.out], HO.out⟩
            case measure => simp [intOf]; omega
          | true =>
            by_cases q2 : O = o
            · have q3 : ¬ (2 : Int) = c0 := fun h => k2 ⟨rfl, q2, h⟩
              have q2i : (O != o) = false := by simpa using q2
              have q3i : ((2 : Int) != c0) = true := by simpa using q3
              clear k2 q2 q3
              go_wp2_with fail
              refine (HT.out).mono ?_
              rintro e w2 ⟨rfl, rfl⟩
              go_wp2
              go_roundw
              case rel => exact ⟨j + 1, hlt, by go_num, by rw [HE.out], HO.out⟩
              case measure => simp [intOf]; omega
            · have q2i : (O != o) = true := by simpa using q2
              clear k2 q2
              go_wp2_with fail
              refine (HT.out).mono ?_
              rintro e w2 ⟨rfl, rfl⟩
              go_wp2
              go_roundw
              case rel => exact ⟨j + 1, hlt, by go_num, by rw [HE.out], HO.out⟩
              case measure => simp [intOf]; omega
    · obtain rfl : j = l.length := by omega
      have hlti : ¬ ((l.length : Nat) : Int) < (l.length : Int) := by omega
      have HK := Lib.hid (HSk.out wr HO.out)
      unfold skE at HK
      generalize (if okN l l.length then (0 : Int) else 12) = Z at *
      go_wp2_with fail
      refine (HK.out).mono ?_
      rintro e w2 ⟨rfl, o2⟩
      have HO2 := Lib.hid (HO.out.trans o2)
      have HN2 := Lib.hid (HSn.out w2)
      clear o2
      go_wp2_with fail
      refine (HN2.out).mono ?_
      rintro e w3 ⟨rfl, o3⟩
      have HO3 := Lib.hid (HO2.out.trans o3)
      have HA3 := Lib.hid (HAw.out w3)
      clear o3
      go_wp2_with fail
      refine (HA3.out).mono ?_
      rintro e w4 ⟨rfl, o4⟩
      have HO4 := Lib.hid (HO3.out.trans o4)
      clear o4
      go_wp2
      go_ret
      exact ⟨rfl, HO4.out⟩
end Go.Proofs.Ytighdjbeddcckaa
