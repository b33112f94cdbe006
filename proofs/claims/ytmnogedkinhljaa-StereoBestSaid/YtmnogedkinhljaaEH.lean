/-
  StereoParts: its walk.
-/
import Derived.Test.YtmnogedkinhljaaEG
namespace Go.Proofs.Ytmnogedkinhljaa
open Go.RowKit Go.Shelf

theorem wrE_ok {m : Int} {xs ys : List Int} (h : wrE m xs ys = 0) : isM m ∧ xs.length = ys.length ∧ (∀ x ∈ xs, isN x) ∧ (∀ y ∈ ys, isN y) := by
  unfold wrE at h
  by_cases hm : isM m
  · rw [if_pos hm] at h
    unfold ckE at h
    by_cases hl : xs.length = ys.length
    · rw [if_neg (fun hh => hh hl)] at h
      by_cases hb : (∀ x ∈ xs, isN x) ∧ (∀ y ∈ ys, isN y)
      · exact ⟨hm, hl, hb.1, hb.2⟩
      · rw [if_neg hb] at h; cases h
    · rw [if_pos hl] at h; cases h
  · rw [if_neg hm] at h; cases h
theorem ptA_nil {m : Int} {xs ys : List Int} (h : wrE m xs ys ≠ 0) : ptA m xs ys = [] := if_neg h
theorem ptB_nil {m : Int} {xs ys : List Int} (h : wrE m xs ys ≠ 0) : ptB m xs ys = [] := if_neg h
theorem ptA_len {m : Int} {xs ys : List Int} (h : wrE m xs ys = 0) : (ptA m xs ys).length = xs.length := by
  have := (wrE_ok h).2.1
  unfold ptA
  rw [if_pos h, List.length_zipWith, ← this, Nat.min_self]
theorem ptB_len {m : Int} {xs ys : List Int} (h : wrE m xs ys = 0) : (ptB m xs ys).length = xs.length := by
  have := (wrE_ok h).2.1
  unfold ptB
  rw [if_pos h, List.length_zipWith, ← this, Nat.min_self]
theorem ptA_at {m : Int} {xs ys : List Int} (h : wrE m xs ys = 0) {j : Nat} (hx : j < xs.length) (hy : j < ys.length) (hp : j < (ptA m xs ys).length) : (ptA m xs ys)[j] = twA m xs[j] ys[j] := by
  have e : ptA m xs ys = List.zipWith (twA m) xs ys := if_pos h
  simp only [e, List.getElem_zipWith]
theorem ptB_at {m : Int} {xs ys : List Int} (h : wrE m xs ys = 0) {j : Nat} (hx : j < xs.length) (hy : j < ys.length) (hp : j < (ptB m xs ys).length) : (ptB m xs ys)[j] = twB m xs[j] ys[j] := by
  have e : ptB m xs ys = List.zipWith (twB m) xs ys := if_pos h
  simp only [e, List.getElem_zipWith]

def PaL (w : World) (n : Nat) (s : Value) (wr : World) : Prop := ∃ j q : Nat, j ≤ n ∧ s = iv j ∧ wr = w.drewN q
set_option maxRecDepth 100000 in
set_option maxHeartbeats 4000000 in
theorem parts_any {w : World} (m : Int) {n c k d : Nat} {A B : Option Addr} {xs ys : List Int} (hx : ISrc w (.slice A n c) xs) (hy : ISrc w (.slice B k d) ys) :
    Calls Try.prog 3 #[iv m, .slice A n c, .slice B k d] w fun e w' => e = .returned (.bool true) ∧ Only Nix w w' := by
  have hxl := hx.len
  have hyl := hy.len
  have hxs := hx.small
  have hys := hy.small
  have HX := Lib.hid hx
  have HY := Lib.hid hy
  have Hxl := Lib.hid hxl
  have Hyl := Lib.hid hyl
  rw [← hxl] at hxs
  rw [← hyl] at hys
  clear hxl hyl hx hy
  by_cases g1 : 60 < n
  · have g1i : (60 : Int) < (n : Int) := by omega
    have HW := Lib.hid (awake9 w)
    go_enter Try.func3, Try.ntmps3
    go_wp2_with fail
    refine (HW.out).mono ?_
    rintro e w1 ⟨rfl, o1⟩
    have HO := Lib.hid o1
    clear o1 HW
    go_wp2
    go_ret
    exact ⟨rfl, HO.out⟩
  · have g1i : ¬ (60 : Int) < (n : Int) := by omega
    by_cases g2 : 60 < k
    · have g2i : (60 : Int) < (k : Int) := by omega
      have HW := Lib.hid (awake9 w)
      go_enter Try.func3, Try.ntmps3
      go_wp2_with fail
      refine (HW.out).mono ?_
      rintro e w1 ⟨rfl, o1⟩
      have HO := Lib.hid o1
      clear o1 HW
      go_wp2
      go_ret
      exact ⟨rfl, HO.out⟩
    · have g2i : ¬ (60 : Int) < (k : Int) := by omega
      have HP := Lib.hid (part_any m HX.out HY.out (by omega))
      go_enter Try.func3, Try.ntmps3
      go_wp2_with fail
      refine (HP.out).mono ?_
      rintro e w1 ⟨⟨A1, c1, B1, d1, rfl, i1, i2⟩, o1⟩
      have I1 := Lib.hid i1
      have I2 := Lib.hid i2
      have O1 := Lib.hid o1
      have HQ := Lib.hid (wrong_any m (HX.out.nix o1) (HY.out.nix o1))
      have HW := Lib.hid (awake9 w1)
      clear HP i1 i2 o1
      by_cases h0 : wrE m xs ys = 0
      · obtain ⟨hm, hl, hbx, hby⟩ := wrE_ok h0
        have hnk : n = k := by rw [Hxl.out, Hyl.out]; exact hl
        subst hnk
        have H0 := Lib.hid h0
        have Hbx := Lib.hid hbx
        have Hby := Lib.hid hby
        have lA := (ptA_len h0).trans Hxl.out.symm
        have lB := (ptB_len h0).trans Hxl.out.symm
        rw [lA] at I1 ⊢
        rw [lB] at I2 ⊢
        rw [h0] at HQ ⊢
        have LA := Lib.hid lA
        have LB := Lib.hid lB
        clear hl hbx hby h0 lA lB hm
        go_wp2_with fail
        refine (HQ.out).mono ?_
        rintro e w2 ⟨rfl, rfl⟩
        clear HQ HW
        go_wp2
        go_loopw [11] (fun s wr => PaL w1 n s wr) (fun s _ => n - (intOf s).toNat)
        case atStart => exact ⟨0, 0, Nat.zero_le _, rfl, rfl⟩
        case round =>
          obtain ⟨j, q, hj, rfl, hwr⟩ := hrel
          have oq := (Only.refl Nix w1).drewN q
          rw [← hwr] at oq
          have OQ := Lib.hid oq
          have HWr := Lib.hid hwr
          clear oq hwr
          by_cases hlt : j < n
          · have hltx : j < xs.length := by rw [← Hxl.out]; exact hlt
            have hlty : j < ys.length := by rw [← Hyl.out]; exact hlt
            have hltA : j < (ptA m xs ys).length := by rw [LA.out]; exact hlt
            have hltB : j < (ptB m xs ys).length := by rw [LB.out]; exact hlt
            obtain ⟨ad, rfl, hcx⟩ := (HX.out.nix (O1.out.trans OQ.out)).at_ hltx
            obtain ⟨bd, rfl, hcy⟩ := (HY.out.nix (O1.out.trans OQ.out)).at_ hlty
            obtain ⟨pd, rfl, hcp⟩ := (I1.out.nix OQ.out).at_ hltA
            obtain ⟨qd, rfl, hcq⟩ := (I2.out.nix OQ.out).at_ hltB
            rw [ptA_at H0.out hltx hlty hltA] at hcp
            rw [ptB_at H0.out hltx hlty hltB] at hcq
            have HT : ∀ u, Hid (Calls Try.prog 10 #[iv m, iv xs[j], iv ys[j]] u fun e w' => e = two (twA m xs[j] ys[j]) (twB m xs[j] ys[j]) ∧ u = w') := fun u => Lib.hid (two_any u m _ _ (Hbx.out _ (List.getElem_mem hltx)) (Hby.out _ (List.getElem_mem hlty)))
            have hlti : (j : Int) < (n : Int) := by omega
            generalize twA m xs[j] ys[j] = p at *
            generalize twB m xs[j] ys[j] = r at *
            generalize xs[j] = x at *
            generalize ys[j] = y at *
            clear hltx hlty hltA hltB
            go_wp2_with fail
            go_quiet ((go_at_call 10; exact still_at ((HT _).out)))
            go_wp2
            go_roundw
            case rel => exact ⟨j + 1, q + nq, hlt, by go_num, by rw [HWr.out, World.drewN_drewN]⟩
            case measure => simp [intOf]; omega
          · have hlti : ¬ (j : Int) < (n : Int) := by omega
            have HW := Lib.hid (awake9 wr)
            go_wp2_with fail
            refine (HW.out).mono ?_
            rintro e w3 ⟨rfl, o3⟩
            have HO := Lib.hid ((O1.out.trans OQ.out).trans o3)
            clear o3 HW
            go_wp2
            go_ret
            exact ⟨rfl, HO.out⟩
      · rw [ptA_nil h0, ptB_nil h0]
        generalize wrE m xs ys = E at *
        simp only [List.length_nil]
        go_wp2_with fail
        refine (HQ.out).mono ?_
        rintro e w2 ⟨rfl, rfl⟩
        clear HQ
        go_wp2_with fail
        refine (HW.out).mono ?_
        rintro e w3 ⟨rfl, o3⟩
        have HO := Lib.hid (O1.out.trans o3)
        clear o3 HW
        go_wp2
        go_ret
        exact ⟨rfl, HO.out⟩
end Go.Proofs.Ytmnogedkinhljaa
