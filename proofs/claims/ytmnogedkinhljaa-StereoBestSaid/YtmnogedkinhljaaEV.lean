/-
  The document's Best.
-/
import Derived.Test.YtmnogedkinhljaaEU
namespace Go.Proofs.Ytmnogedkinhljaa
open Go.RowKit Go.Shelf

/-- how many modes lie below t -/
def rk (t : Nat) : Nat := if t ≤ 1 then 0 else if t ≤ 8 then 1 else if t ≤ 9 then 2 else if t ≤ 10 then 3 else 4
/-- the least sum so far -/
def lsI (xs ys : List Int) (k : Nat) : Int := if k = 0 then -1 else ((bst xs ys k).2 : Int)
structure RbL (w : World) (xs ys : List Int) (s5 s6 s7 : Value) (wr : World) : Prop where
  ex : ∃ t : Nat, 1 ≤ t ∧ t ≤ 11 ∧ s7 = iv t ∧ s5 = iv (bst xs ys (rk t)).1 ∧ s6 = iv (lsI xs ys (rk t))
  only : Only Nix w wr
structure RbI (w : World) (m : Int) (n : Nat) (xs ys : List Int) (s8 s9 : Value) (wr : World) : Prop where
  ex : ∃ j : Nat, j ≤ n ∧ s9 = iv j ∧ s8 = iv (mgN (twA m) (twB m) xs ys j : Int)
  only : Only Nix w wr
set_option maxRecDepth 100000 in
set_option maxHeartbeats 8000000 in
theorem refBest_any {w : World} {n c m d : Nat} {A B : Option Addr} {xs ys : List Int} (hx : ISrc w (.slice A n c) xs) (hy : ISrc w (.slice B m d) ys) (hn : n ≤ 1000) (h0 : ckE xs ys = 0) :
    Calls Try.prog 14 #[.slice A n c, .slice B m d] w fun e w' => e = .returned (iv (bst xs ys 4).1) ∧ Only Nix w w' := by
  obtain ⟨hl, hxn, hyn⟩ := ckE_ok h0
  have hxl := hx.len
  have hyl := hy.len
  have hnm : n = m := by rw [hxl, hyl]; exact hl
  subst hnm
  have HF := Lib.hid (fun (m : Int) (j : Nat) => tw_bound m _ _ (getD_isN hxn j) (getD_isN hyn j))
  have HB : Hid (∀ (m : Int) j, mgN (twA m) (twB m) xs ys j ≤ 4398046511104 * j) := Lib.hid (fun m => mgN_bound (fun j => by
    have := HF.out m j
    omega))
  have HT := Lib.hid (fun (u : World) (m : Int) (j : Nat) => two_any u m _ _ (getD_isN hxn j) (getD_isN hyn j))
  have HS : Hid (∀ (m : Int) j, mgN (twA m) (twB m) xs ys (j + 1) = mgN (twA m) (twB m) xs ys j + ((twA m (xs.getD j 0) (ys.getD j 0)).natAbs + (twB m (xs.getD j 0) (ys.getD j 0)).natAbs)) := Lib.hid (fun m j => rfl)
  have HV : Hid (∀ m : Int, mgN (twA m) (twB m) xs ys n = sV xs ys m) := Lib.hid (fun m => by rw [hxl]; rfl)
  have HX := Lib.hid hx
  have HY := Lib.hid hy
  have Hxl := Lib.hid hxl
  have Hyl := Lib.hid hyl
  clear hx hy hxl hyl hl hxn hyn h0
  go_enter Try.func14, Try.ntmps14
  go_wp2
  go_loopw [5, 6, 7] (fun s5 s6 s7 wr => RbL w xs ys s5 s6 s7 wr) (fun _ _ s7 _ => 11 - (intOf s7).toNat)
  case atStart => exact ⟨⟨1, by omega, by omega, rfl, rfl, rfl⟩, Only.refl _ _⟩
  case round =>
    obtain ⟨⟨t, ht1, ht, rfl, rfl, rfl⟩, hO⟩ := hrel
    have HO := Lib.hid hO
    clear hO
    rcases (show t = 1 ∨ t = 2 ∨ t = 3 ∨ t = 4 ∨ t = 5 ∨ t = 6 ∨ t = 7 ∨ t = 8 ∨ t = 9 ∨ t = 10 ∨ t = 11 by omega) with rfl | rfl | rfl | rfl | rfl | rfl | rfl | rfl | rfl | rfl | rfl
    · go_wp2
      go_loopw [8, 9] (fun s8 s9 wr => RbI w 1 n xs ys s8 s9 wr) (fun _ s9 _ => n - (intOf s9).toNat)
      case atStart => exact ⟨⟨0, Nat.zero_le _, rfl, rfl⟩, HO.out⟩
      case round =>
        obtain ⟨⟨j, hj, rfl, rfl⟩, hO⟩ := hrel
        have HO := Lib.hid hO
        clear hO
        by_cases hlt : j < n
        · have hltx : j < xs.length := by rw [← Hxl.out]; exact hlt
          have hlty : j < ys.length := by rw [← Hyl.out]; exact hlt
          obtain ⟨ad, rfl, hcx⟩ := (HX.out.nix HO.out).at_ hltx
          obtain ⟨bd, rfl, hcy⟩ := (HY.out.nix HO.out).at_ hlty
          have ex : xs[j] = xs.getD j 0 := by rw [List.getD_eq_getElem?_getD, List.getElem?_eq_getElem hltx]; rfl
          have ey : ys[j] = ys.getD j 0 := by rw [List.getD_eq_getElem?_getD, List.getElem?_eq_getElem hlty]; rfl
          rw [ex] at hcx
          rw [ey] at hcy
          have hlti : (j : Int) < (n : Int) := by omega
          have HTj : ∀ u, Hid (Calls Try.prog 10 #[iv 1, iv (xs.getD j 0), iv (ys.getD j 0)] u fun e w' => e = two (twA 1 (xs.getD j 0) (ys.getD j 0)) (twB 1 (xs.getD j 0) (ys.getD j 0)) ∧ u = w') := fun u => Lib.hid (HT.out u 1 j)
          have hFj := HF.out 1 j
          have HSj := Lib.hid (HS.out 1 j)
          have hM := HB.out 1 j
          have hM2 : mgN (twA 1) (twB 1) xs ys j ≤ 4398046511104000 := by omega
          clear hM ex ey HS HB HV HF HT
          generalize twA 1 (xs.getD j 0) (ys.getD j 0) = p at *
          generalize twB 1 (xs.getD j 0) (ys.getD j 0) = q at *
          generalize xs.getD j 0 = x at *
          generalize ys.getD j 0 = y at *
          obtain ⟨M, hM⟩ : ∃ M, mgN (twA 1) (twB 1) xs ys j = M := ⟨_, rfl⟩
          rw [hM] at HSj hM2 ⊢
          clear hltx hlty hM
          go_wp2_with fail
          go_quiet ((go_at_call 10; exact still_at ((HTj _).out)))
          go_wp2
          all_goals
            go_roundw
            case rel => exact ⟨⟨j + 1, hlt, by go_num, by rw [HSj.out]; go_num⟩, HO.out.drewN _⟩
            case measure => simp [intOf]; omega
        · obtain rfl : j = n := by omega
          rw [HV.out 1]
          have HE := Lib.hid (bst_take (xs := xs) (ys := ys) (k := 0) (.inl rfl))
          have hls : lsI xs ys (rk 1) = -1 := rfl
          rw [hls]
          have HK : Hid (sV xs ys (mdv 0) = sV xs ys 1) := Lib.hid rfl
          obtain ⟨S, hS⟩ : ∃ S, sV xs ys 1 = S := ⟨_, rfl⟩
          rw [hS] at HK ⊢
          clear HV HS HB HT HF hS
          go_wp2
          go_roundw
          case rel => exact ⟨⟨2, by omega, by omega, by go_num, by rw [show rk 2 = 0 + 1 from rfl, HE.out]; rfl, by rw [show rk 2 = 0 + 1 from rfl]; unfold lsI; rw [if_neg (by decide), HE.out, HK.out]⟩, HO.out⟩
          case measure => simp [intOf]
    · go_wp2
      go_roundw
      case rel => exact ⟨⟨3, by omega, by omega, by go_num, rfl, rfl⟩, HO.out⟩
      case measure => simp [intOf]
    · go_wp2
      go_roundw
      case rel => exact ⟨⟨4, by omega, by omega, by go_num, rfl, rfl⟩, HO.out⟩
      case measure => simp [intOf]
    · go_wp2
      go_roundw
      case rel => exact ⟨⟨5, by omega, by omega, by go_num, rfl, rfl⟩, HO.out⟩
      case measure => simp [intOf]
    · go_wp2
      go_roundw
      case rel => exact ⟨⟨6, by omega, by omega, by go_num, rfl, rfl⟩, HO.out⟩
      case measure => simp [intOf]
    · go_wp2
      go_roundw
      case rel => exact ⟨⟨7, by omega, by omega, by go_num, rfl, rfl⟩, HO.out⟩
      case measure => simp [intOf]
    · go_wp2
      go_roundw
      case rel => exact ⟨⟨8, by omega, by omega, by go_num, rfl, rfl⟩, HO.out⟩
      case measure => simp [intOf]
    · go_wp2
      go_loopw [8, 9] (fun s8 s9 wr => RbI w 8 n xs ys s8 s9 wr) (fun _ s9 _ => n - (intOf s9).toNat)
      case atStart => exact ⟨⟨0, Nat.zero_le _, rfl, rfl⟩, HO.out⟩
      case round =>
        obtain ⟨⟨j, hj, rfl, rfl⟩, hO⟩ := hrel
        have HO := Lib.hid hO
        clear hO
        by_cases hlt : j < n
        · have hltx : j < xs.length := by rw [← Hxl.out]; exact hlt
          have hlty : j < ys.length := by rw [← Hyl.out]; exact hlt
          obtain ⟨ad, rfl, hcx⟩ := (HX.out.nix HO.out).at_ hltx
          obtain ⟨bd, rfl, hcy⟩ := (HY.out.nix HO.out).at_ hlty
          have ex : xs[j] = xs.getD j 0 := by rw [List.getD_eq_getElem?_getD, List.getElem?_eq_getElem hltx]; rfl
          have ey : ys[j] = ys.getD j 0 := by rw [List.getD_eq_getElem?_getD, List.getElem?_eq_getElem hlty]; rfl
          rw [ex] at hcx
          rw [ey] at hcy
          have hlti : (j : Int) < (n : Int) := by omega
          have HTj : ∀ u, Hid (Calls Try.prog 10 #[iv 8, iv (xs.getD j 0), iv (ys.getD j 0)] u fun e w' => e = two (twA 8 (xs.getD j 0) (ys.getD j 0)) (twB 8 (xs.getD j 0) (ys.getD j 0)) ∧ u = w') := fun u => Lib.hid (HT.out u 8 j)
          have hFj := HF.out 8 j
          have HSj := Lib.hid (HS.out 8 j)
          have hM := HB.out 8 j
          have hM2 : mgN (twA 8) (twB 8) xs ys j ≤ 4398046511104000 := by omega
          clear hM ex ey HS HB HV HF HT
          generalize twA 8 (xs.getD j 0) (ys.getD j 0) = p at *
          generalize twB 8 (xs.getD j 0) (ys.getD j 0) = q at *
          generalize xs.getD j 0 = x at *
          generalize ys.getD j 0 = y at *
          obtain ⟨M, hM⟩ : ∃ M, mgN (twA 8) (twB 8) xs ys j = M := ⟨_, rfl⟩
          rw [hM] at HSj hM2 ⊢
          clear hltx hlty hM
          go_wp2_with fail
          go_quiet ((go_at_call 10; exact still_at ((HTj _).out)))
          go_wp2
          all_goals
            go_roundw
            case rel => exact ⟨⟨j + 1, hlt, by go_num, by rw [HSj.out]; go_num⟩, HO.out.drewN _⟩
            case measure => simp [intOf]; omega
        · obtain rfl : j = n := by omega
          rw [HV.out 8]
          have hls : lsI xs ys (rk 8) = ((bst xs ys 1).2 : Int) := rfl
          rw [hls]
          have HK : Hid (sV xs ys (mdv 1) = sV xs ys 8) := Lib.hid rfl
          have HT1 := Lib.hid (fun h => bst_take (xs := xs) (ys := ys) (k := 1) (.inr h))
          have HT2 := Lib.hid (fun h => bst_keep (xs := xs) (ys := ys) (k := 1) h)
          have HR : Hid (rk 9 = 1 + 1) := Lib.hid rfl
          have HR0 : Hid (rk 8 = 1) := Lib.hid rfl
          obtain ⟨S, hS⟩ : ∃ S, sV xs ys 8 = S := ⟨_, rfl⟩
          obtain ⟨T, hT⟩ : ∃ T, (bst xs ys 1).2 = T := ⟨_, rfl⟩
          rw [hS] at HK ⊢
          rw [HK.out, hT] at HT1 HT2
          rw [hT]
          have HTe := Lib.hid hT
          clear HV HS HB HT HF hS hT
          by_cases hST : S < T
          · have hi : (S : Int) < (T : Int) := by omega
            have HE := Lib.hid (HT1.out hST)
            clear HT1 HT2
            go_wp2
            go_roundw
            case rel => exact ⟨⟨9, by omega, by omega, by go_num, by rw [HR.out, HE.out]; rfl, by rw [HR.out]; unfold lsI; rw [if_neg (by decide), HE.out]⟩, HO.out⟩
            case measure => simp [intOf]
          · have hi : ¬ (S : Int) < (T : Int) := by omega
            have HE := Lib.hid (HT2.out (fun h => by rcases h with h | h <;> omega))
            clear HT1 HT2
            go_wp2
            go_roundw
            case rel => exact ⟨⟨9, by omega, by omega, by go_num, by rw [HR.out, HE.out, HR0.out], by rw [HR.out]; unfold lsI; rw [if_neg (by decide), HE.out, HTe.out]⟩, HO.out⟩
            case measure => simp [intOf]
    · go_wp2
      go_loopw [8, 9] (fun s8 s9 wr => RbI w 9 n xs ys s8 s9 wr) (fun _ s9 _ => n - (intOf s9).toNat)
      case atStart => exact ⟨⟨0, Nat.zero_le _, rfl, rfl⟩, HO.out⟩
      case round =>
        obtain ⟨⟨j, hj, rfl, rfl⟩, hO⟩ := hrel
        have HO := Lib.hid hO
        clear hO
        by_cases hlt : j < n
        · have hltx : j < xs.length := by rw [← Hxl.out]; exact hlt
          have hlty : j < ys.length := by rw [← Hyl.out]; exact hlt
          obtain ⟨ad, rfl, hcx⟩ := (HX.out.nix HO.out).at_ hltx
          obtain ⟨bd, rfl, hcy⟩ := (HY.out.nix HO.out).at_ hlty
          have ex : xs[j] = xs.getD j 0 := by rw [List.getD_eq_getElem?_getD, List.getElem?_eq_getElem hltx]; rfl
          have ey : ys[j] = ys.getD j 0 := by rw [List.getD_eq_getElem?_getD, List.getElem?_eq_getElem hlty]; rfl
          rw [ex] at hcx
          rw [ey] at hcy
          have hlti : (j : Int) < (n : Int) := by omega
          have HTj : ∀ u, Hid (Calls Try.prog 10 #[iv 9, iv (xs.getD j 0), iv (ys.getD j 0)] u fun e w' => e = two (twA 9 (xs.getD j 0) (ys.getD j 0)) (twB 9 (xs.getD j 0) (ys.getD j 0)) ∧ u = w') := fun u => Lib.hid (HT.out u 9 j)
          have hFj := HF.out 9 j
          have HSj := Lib.hid (HS.out 9 j)
          have hM := HB.out 9 j
          have hM2 : mgN (twA 9) (twB 9) xs ys j ≤ 4398046511104000 := by omega
          clear hM ex ey HS HB HV HF HT
          generalize twA 9 (xs.getD j 0) (ys.getD j 0) = p at *
          generalize twB 9 (xs.getD j 0) (ys.getD j 0) = q at *
          generalize xs.getD j 0 = x at *
          generalize ys.getD j 0 = y at *
          obtain ⟨M, hM⟩ : ∃ M, mgN (twA 9) (twB 9) xs ys j = M := ⟨_, rfl⟩
          rw [hM] at HSj hM2 ⊢
          clear hltx hlty hM
          go_wp2_with fail
          go_quiet ((go_at_call 10; exact still_at ((HTj _).out)))
          go_wp2
          all_goals
            go_roundw
            case rel => exact ⟨⟨j + 1, hlt, by go_num, by rw [HSj.out]; go_num⟩, HO.out.drewN _⟩
            case measure => simp [intOf]; omega
        · obtain rfl : j = n := by omega
          rw [HV.out 9]
          have hls : lsI xs ys (rk 9) = ((bst xs ys 2).2 : Int) := rfl
          rw [hls]
          have HK : Hid (sV xs ys (mdv 2) = sV xs ys 9) := Lib.hid rfl
          have HT1 := Lib.hid (fun h => bst_take (xs := xs) (ys := ys) (k := 2) (.inr h))
          have HT2 := Lib.hid (fun h => bst_keep (xs := xs) (ys := ys) (k := 2) h)
          have HR : Hid (rk 10 = 2 + 1) := Lib.hid rfl
          have HR0 : Hid (rk 9 = 2) := Lib.hid rfl
          obtain ⟨S, hS⟩ : ∃ S, sV xs ys 9 = S := ⟨_, rfl⟩
          obtain ⟨T, hT⟩ : ∃ T, (bst xs ys 2).2 = T := ⟨_, rfl⟩
          rw [hS] at HK ⊢
          rw [HK.out, hT] at HT1 HT2
          rw [hT]
          have HTe := Lib.hid hT
          clear HV HS HB HT HF hS hT
          by_cases hST : S < T
          · have hi : (S : Int) < (T : Int) := by omega
            have HE := Lib.hid (HT1.out hST)
            clear HT1 HT2
            go_wp2
            go_roundw
            case rel => exact ⟨⟨10, by omega, by omega, by go_num, by rw [HR.out, HE.out]; rfl, by rw [HR.out]; unfold lsI; rw [if_neg (by decide), HE.out]⟩, HO.out⟩
            case measure => simp [intOf]
          · have hi : ¬ (S : Int) < (T : Int) := by omega
            have HE := Lib.hid (HT2.out (fun h => by rcases h with h | h <;> omega))
            clear HT1 HT2
            go_wp2
            go_roundw
            case rel => exact ⟨⟨10, by omega, by omega, by go_num, by rw [HR.out, HE.out, HR0.out], by rw [HR.out]; unfold lsI; rw [if_neg (by decide), HE.out, HTe.out]⟩, HO.out⟩
            case measure => simp [intOf]
    · go_wp2
      go_loopw [8, 9] (fun s8 s9 wr => RbI w 10 n xs ys s8 s9 wr) (fun _ s9 _ => n - (intOf s9).toNat)
      case atStart => exact ⟨⟨0, Nat.zero_le _, rfl, rfl⟩, HO.out⟩
      case round =>
        obtain ⟨⟨j, hj, rfl, rfl⟩, hO⟩ := hrel
        have HO := Lib.hid hO
        clear hO
        by_cases hlt : j < n
        · have hltx : j < xs.length := by rw [← Hxl.out]; exact hlt
          have hlty : j < ys.length := by rw [← Hyl.out]; exact hlt
          obtain ⟨ad, rfl, hcx⟩ := (HX.out.nix HO.out).at_ hltx
          obtain ⟨bd, rfl, hcy⟩ := (HY.out.nix HO.out).at_ hlty
          have ex : xs[j] = xs.getD j 0 := by rw [List.getD_eq_getElem?_getD, List.getElem?_eq_getElem hltx]; rfl
          have ey : ys[j] = ys.getD j 0 := by rw [List.getD_eq_getElem?_getD, List.getElem?_eq_getElem hlty]; rfl
          rw [ex] at hcx
          rw [ey] at hcy
          have hlti : (j : Int) < (n : Int) := by omega
          have HTj : ∀ u, Hid (Calls Try.prog 10 #[iv 10, iv (xs.getD j 0), iv (ys.getD j 0)] u fun e w' => e = two (twA 10 (xs.getD j 0) (ys.getD j 0)) (twB 10 (xs.getD j 0) (ys.getD j 0)) ∧ u = w') := fun u => Lib.hid (HT.out u 10 j)
          have hFj := HF.out 10 j
          have HSj := Lib.hid (HS.out 10 j)
          have hM := HB.out 10 j
          have hM2 : mgN (twA 10) (twB 10) xs ys j ≤ 4398046511104000 := by omega
          clear hM ex ey HS HB HV HF HT
          generalize twA 10 (xs.getD j 0) (ys.getD j 0) = p at *
          generalize twB 10 (xs.getD j 0) (ys.getD j 0) = q at *
          generalize xs.getD j 0 = x at *
          generalize ys.getD j 0 = y at *
          obtain ⟨M, hM⟩ : ∃ M, mgN (twA 10) (twB 10) xs ys j = M := ⟨_, rfl⟩
          rw [hM] at HSj hM2 ⊢
          clear hltx hlty hM
          go_wp2_with fail
          go_quiet ((go_at_call 10; exact still_at ((HTj _).out)))
          go_wp2
          all_goals
            go_roundw
            case rel => exact ⟨⟨j + 1, hlt, by go_num, by rw [HSj.out]; go_num⟩, HO.out.drewN _⟩
            case measure => simp [intOf]; omega
        · obtain rfl : j = n := by omega
          rw [HV.out 10]
          have hls : lsI xs ys (rk 10) = ((bst xs ys 3).2 : Int) := rfl
          rw [hls]
          have HK : Hid (sV xs ys (mdv 3) = sV xs ys 10) := Lib.hid rfl
          have HT1 := Lib.hid (fun h => bst_take (xs := xs) (ys := ys) (k := 3) (.inr h))
          have HT2 := Lib.hid (fun h => bst_keep (xs := xs) (ys := ys) (k := 3) h)
          have HR : Hid (rk 11 = 3 + 1) := Lib.hid rfl
          have HR0 : Hid (rk 10 = 3) := Lib.hid rfl
          obtain ⟨S, hS⟩ : ∃ S, sV xs ys 10 = S := ⟨_, rfl⟩
          obtain ⟨T, hT⟩ : ∃ T, (bst xs ys 3).2 = T := ⟨_, rfl⟩
          rw [hS] at HK ⊢
          rw [HK.out, hT] at HT1 HT2
          rw [hT]
          have HTe := Lib.hid hT
          clear HV HS HB HT HF hS hT
          by_cases hST : S < T
          · have hi : (S : Int) < (T : Int) := by omega
            have HE := Lib.hid (HT1.out hST)
            clear HT1 HT2
            go_wp2
            go_roundw
            case rel => exact ⟨⟨11, by omega, by omega, by go_num, by rw [HR.out, HE.out]; rfl, by rw [HR.out]; unfold lsI; rw [if_neg (by decide), HE.out]⟩, HO.out⟩
            case measure => simp [intOf]
          · have hi : ¬ (S : Int) < (T : Int) := by omega
            have HE := Lib.hid (HT2.out (fun h => by rcases h with h | h <;> omega))
            clear HT1 HT2
            go_wp2
            go_roundw
            case rel => exact ⟨⟨11, by omega, by omega, by go_num, by rw [HR.out, HE.out, HR0.out], by rw [HR.out]; unfold lsI; rw [if_neg (by decide), HE.out, HTe.out]⟩, HO.out⟩
            case measure => simp [intOf]
    · rw [show rk 11 = 4 from rfl]
      go_wp2
      go_ret
      exact ⟨rfl, HO.out⟩
end Go.Proofs.Ytmnogedkinhljaa
