/-
  StereoTurns: its walk.
-/
import Derived.Test.YtmnogedkinhljaaEH
namespace Go.Proofs.Ytmnogedkinhljaa
open Go.RowKit Go.Shelf

theorem ckE_comm (xs ys : List Int) : ckE ys xs = ckE xs ys := by
  unfold ckE
  by_cases h : xs.length = ys.length
  · rw [if_neg (show ¬ ys.length ≠ xs.length from fun hh => hh h.symm), if_neg (show ¬ xs.length ≠ ys.length from fun hh => hh h)]
    by_cases h2 : (∀ x ∈ xs, isN x) ∧ (∀ y ∈ ys, isN y)
    · rw [if_pos h2, if_pos ⟨h2.2, h2.1⟩]
    · rw [if_neg h2, if_neg (fun hh => h2 ⟨hh.2, hh.1⟩)]
  · rw [if_pos (show ys.length ≠ xs.length from fun hh => h hh.symm), if_pos (show xs.length ≠ ys.length from h)]
theorem wr_ck {m : Int} (hm : isM m) (xs ys : List Int) : wrE m xs ys = ckE xs ys := if_pos hm
def TuL (w : World) (n : Nat) (s : Value) (wr : World) : Prop := ∃ j q : Nat, j ≤ n ∧ s = iv j ∧ wr = w.drewN q
set_option maxRecDepth 100000 in
set_option maxHeartbeats 8000000 in
theorem turns_any {w : World} {n c k d : Nat} {A B : Option Addr} {xs ys : List Int} (hx : ISrc w (.slice A n c) xs) (hy : ISrc w (.slice B k d) ys) :
    Calls Try.prog 6 #[.slice A n c, .slice B k d] w fun e w' => e = .returned (.bool true) ∧ Only Nix w w' := by
  have hxl := hx.len
  have hyl := hy.len
  have hxs := hx.small
  have hys := hy.small
  have HX := Lib.hid hx
  have HY := Lib.hid hy
  have Hxl := Lib.hid hxl
  have Hyl := Lib.hid hyl
  rw [← hxl] at hxs
  rw [← hyl] at hys
  clear hxl hyl hx hy
  by_cases g1 : 60 < n
  · have g1i : (60 : Int) < (n : Int) := by omega
    have HW := Lib.hid (awake9 w)
    go_enter Try.func6, Try.ntmps6
    go_wp2_with fail
    refine (HW.out).mono ?_
    rintro e w1 ⟨rfl, o1⟩
    have HO := Lib.hid o1
    clear o1 HW
    go_wp2
    go_ret
    exact ⟨rfl, HO.out⟩
  · have g1i : ¬ (60 : Int) < (n : Int) := by omega
    by_cases g2 : 60 < k
    · have g2i : (60 : Int) < (k : Int) := by omega
      have HW := Lib.hid (awake9 w)
      go_enter Try.func6, Try.ntmps6
      go_wp2_with fail
      refine (HW.out).mono ?_
      rintro e w1 ⟨rfl, o1⟩
      have HO := Lib.hid o1
      clear o1 HW
      go_wp2
      go_ret
      exact ⟨rfl, HO.out⟩
    · have g2i : ¬ (60 : Int) < (k : Int) := by omega
      have HP := Lib.hid (part_any 8 HX.out HY.out (by omega))
      have E1 : Hid (wrE 8 xs ys = ckE xs ys) := Lib.hid (wr_ck (by decide) xs ys)
      have E2 : Hid (wrE 9 ys xs = ckE xs ys) := Lib.hid ((wr_ck (by decide) ys xs).trans (ckE_comm xs ys))
      have E3 : Hid (wrE 10 xs ys = ckE xs ys) := Lib.hid (wr_ck (by decide) xs ys)
      have E4 : Hid (wrE 10 ys xs = ckE xs ys) := Lib.hid ((wr_ck (by decide) ys xs).trans (ckE_comm xs ys))
      rw [E1.out] at HP
      go_enter Try.func6, Try.ntmps6
      go_wp2_with fail
      refine (HP.out).mono ?_
      rintro e w1 ⟨⟨A1, c1, A2, c2, rfl, i1, i2⟩, o1⟩
      have O1 := Lib.hid o1
      have I1 := Lib.hid i1
      have I2 := Lib.hid i2
      have HP2 := Lib.hid (part_any 9 (HY.out.nix o1) (HX.out.nix o1) (by omega))
      rw [E2.out] at HP2
      clear HP i1 i2 o1
      obtain ⟨E, hE⟩ : ∃ E, ckE xs ys = E := ⟨_, rfl⟩
      rw [hE] at HP2 E1 E2 E3 E4 ⊢
      obtain ⟨l1, hl1⟩ : ∃ l, (ptA 8 xs ys).length = l := ⟨_, rfl⟩
      obtain ⟨l2, hl2⟩ : ∃ l, (ptB 8 xs ys).length = l := ⟨_, rfl⟩
      rw [hl1] at I1 ⊢
      rw [hl2] at I2 ⊢
      have L1 := Lib.hid hl1
      have L2 := Lib.hid hl2
      have HE := Lib.hid hE
      clear hE hl1 hl2
      go_wp2_with fail
      refine (HP2.out).mono ?_
      rintro e w2 ⟨⟨A3, c3, A4, c4, rfl, i3, i4⟩, o2⟩
      have O2 := Lib.hid (O1.out.trans o2)
      replace I1 := Lib.hid (I1.out.nix o2)
      replace I2 := Lib.hid (I2.out.nix o2)
      have I3 := Lib.hid i3
      have I4 := Lib.hid i4
      have HP3 := Lib.hid (part_any 10 (HX.out.nix O2.out) (HY.out.nix O2.out) (by omega))
      rw [E3.out] at HP3
      obtain ⟨l3, hl3⟩ : ∃ l, (ptA 9 ys xs).length = l := ⟨_, rfl⟩
      obtain ⟨l4, hl4⟩ : ∃ l, (ptB 9 ys xs).length = l := ⟨_, rfl⟩
      rw [hl3] at I3 ⊢
      rw [hl4] at I4 ⊢
      have L3 := Lib.hid hl3
      have L4 := Lib.hid hl4
      clear HP2 i3 i4 o2 O1 hl3 hl4
      go_wp2_with fail
      refine (HP3.out).mono ?_
      rintro e w3 ⟨⟨A5, c5, A6, c6, rfl, i5, i6⟩, o3⟩
      have O3 := Lib.hid (O2.out.trans o3)
      replace I1 := Lib.hid (I1.out.nix o3)
      replace I2 := Lib.hid (I2.out.nix o3)
      replace I3 := Lib.hid (I3.out.nix o3)
      replace I4 := Lib.hid (I4.out.nix o3)
      have I5 := Lib.hid i5
      have I6 := Lib.hid i6
      have HP4 := Lib.hid (part_any 10 (HY.out.nix O3.out) (HX.out.nix O3.out) (by omega))
      rw [E4.out] at HP4
      obtain ⟨l5, hl5⟩ : ∃ l, (ptA 10 xs ys).length = l := ⟨_, rfl⟩
      obtain ⟨l6, hl6⟩ : ∃ l, (ptB 10 xs ys).length = l := ⟨_, rfl⟩
      rw [hl5] at I5 ⊢
      rw [hl6] at I6 ⊢
      have L5 := Lib.hid hl5
      have L6 := Lib.hid hl6
      clear HP3 i5 i6 o3 O2 hl5 hl6
      go_wp2_with fail
      refine (HP4.out).mono ?_
      rintro e w4 ⟨⟨A7, c7, A8, c8, rfl, i7, i8⟩, o4⟩
      have O4 := Lib.hid (O3.out.trans o4)
      replace I1 := Lib.hid (I1.out.nix o4)
      replace I2 := Lib.hid (I2.out.nix o4)
      replace I3 := Lib.hid (I3.out.nix o4)
      replace I4 := Lib.hid (I4.out.nix o4)
      replace I5 := Lib.hid (I5.out.nix o4)
      replace I6 := Lib.hid (I6.out.nix o4)
      have I7 := Lib.hid i7
      have I8 := Lib.hid i8
      obtain ⟨l7, hl7⟩ : ∃ l, (ptA 10 ys xs).length = l := ⟨_, rfl⟩
      obtain ⟨l8, hl8⟩ : ∃ l, (ptB 10 ys xs).length = l := ⟨_, rfl⟩
      rw [hl7] at I7 ⊢
      rw [hl8] at I8 ⊢
      have L7 := Lib.hid hl7
      have L8 := Lib.hid hl8
      clear HP4 i7 i8 o4 O3 hl7 hl8
      by_cases h0 : E = 0
      · subst h0
        have hl := (wrE_ok E1.out).2.1
        have hnk : n = k := by rw [Hxl.out, Hyl.out]; exact hl
        subst hnk
        have q1 : l1 = n := L1.out.symm.trans ((ptA_len E1.out).trans Hxl.out.symm)
        have q2 : l2 = n := L2.out.symm.trans ((ptB_len E1.out).trans Hxl.out.symm)
        have q3 : l3 = n := L3.out.symm.trans ((ptA_len E2.out).trans Hyl.out.symm)
        have q4 : l4 = n := L4.out.symm.trans ((ptB_len E2.out).trans Hyl.out.symm)
        have q5 : l5 = n := L5.out.symm.trans ((ptA_len E3.out).trans Hxl.out.symm)
        have q6 : l6 = n := L6.out.symm.trans ((ptB_len E3.out).trans Hxl.out.symm)
        have q7 : l7 = n := L7.out.symm.trans ((ptA_len E4.out).trans Hyl.out.symm)
        have q8 : l8 = n := L8.out.symm.trans ((ptB_len E4.out).trans Hyl.out.symm)
        subst q1 q2 q3 q4 q5 q6 q7 q8
        have HB := Lib.hid (wrE_ok E1.out).2.2
        clear hl
        go_wp2
        go_loopw [17] (fun s wr => TuL w4 l8 s wr) (fun s _ => l8 - (intOf s).toNat)
        case atStart => exact ⟨0, 0, Nat.zero_le _, rfl, rfl⟩
        case round =>
          obtain ⟨j, q, hj, rfl, hwr⟩ := hrel
          have oq := (Only.refl Nix w4).drewN q
          rw [← hwr] at oq
          have OQ := Lib.hid oq
          have HWr := Lib.hid hwr
          clear oq hwr
          by_cases hlt : j < l8
          · have hltx : j < xs.length := by rw [← Hxl.out]; exact hlt
            have hlty : j < ys.length := by rw [← Hyl.out]; exact hlt
            obtain ⟨a1, rfl, k1⟩ := (I1.out.nix OQ.out).at_ (k := j) (by rw [L1.out]; exact hlt)
            obtain ⟨a2, rfl, k2⟩ := (I2.out.nix OQ.out).at_ (k := j) (by rw [L2.out]; exact hlt)
            obtain ⟨a3, rfl, k3⟩ := (I3.out.nix OQ.out).at_ (k := j) (by rw [L3.out]; exact hlt)
            obtain ⟨a4, rfl, k4⟩ := (I4.out.nix OQ.out).at_ (k := j) (by rw [L4.out]; exact hlt)
            obtain ⟨a5, rfl, k5⟩ := (I5.out.nix OQ.out).at_ (k := j) (by rw [L5.out]; exact hlt)
            obtain ⟨a6, rfl, k6⟩ := (I6.out.nix OQ.out).at_ (k := j) (by rw [L6.out]; exact hlt)
            obtain ⟨a7, rfl, k7⟩ := (I7.out.nix OQ.out).at_ (k := j) (by rw [L7.out]; exact hlt)
            obtain ⟨a8, rfl, k8⟩ := (I8.out.nix OQ.out).at_ (k := j) (by rw [L8.out]; exact hlt)
            rw [ptA_at E1.out hltx hlty, show twA 8 xs[j] ys[j] = xs[j] from rfl] at k1
            rw [ptB_at E1.out hltx hlty, show twB 8 xs[j] ys[j] = xs[j] - ys[j] from rfl] at k2
            rw [ptA_at E2.out hlty hltx, show twA 9 ys[j] xs[j] = ys[j] - xs[j] from rfl] at k3
            rw [ptB_at E2.out hlty hltx, show twB 9 ys[j] xs[j] = xs[j] from rfl] at k4
            rw [ptA_at E3.out hltx hlty, show twA 10 xs[j] ys[j] = (xs[j] + ys[j]) / 2 from rfl] at k5
            rw [ptB_at E3.out hltx hlty, show twB 10 xs[j] ys[j] = xs[j] - ys[j] from rfl] at k6
            rw [ptA_at E4.out hlty hltx, show twA 10 ys[j] xs[j] = (ys[j] + xs[j]) / 2 from rfl, Int.add_comm ys[j] xs[j]] at k7
            rw [ptB_at E4.out hlty hltx, show twB 10 ys[j] xs[j] = ys[j] - xs[j] from rfl] at k8
            have hbx := HB.out.1 _ (List.getElem_mem hltx)
            have hby := HB.out.2 _ (List.getElem_mem hlty)
            unfold isN at hbx hby
            have hneg : IntKind.i64.wrap (-(ys[j] - xs[j])) = xs[j] - ys[j] := by rw [IntKind.wrap_i64]; omega
            have hlti : (j : Int) < (l8 : Int) := by omega
            generalize (xs[j] + ys[j]) / 2 = mv at *
            generalize xs[j] - ys[j] = bv at *
            generalize ys[j] - xs[j] = cv at *
            generalize xs[j] = x at *
            generalize ys[j] = y at *
            clear hltx hlty hbx hby
            go_wp2_with fail
            go_quiet (fail)
            go_wp2
            go_roundw
            case rel => exact ⟨j + 1, q + nq, hlt, by go_num, by rw [HWr.out, World.drewN_drewN]⟩
            case measure => simp [intOf]; omega
          · have hlti : ¬ (j : Int) < (l8 : Int) := by omega
            have HW := Lib.hid (awake9 wr)
            by_cases hn : 0 < l8
            · have hni : (0 : Int) < (l8 : Int) := by omega
              go_wp2_with fail
              refine (HW.out).mono ?_
              rintro e w3 ⟨rfl, o3⟩
              have HO := Lib.hid ((O4.out.trans OQ.out).trans o3)
              clear o3 HW
              go_wp2
              go_ret
              exact ⟨rfl, HO.out⟩
            · have hni : ¬ (0 : Int) < (l8 : Int) := by omega
              go_wp2_with fail
              refine (HW.out).mono ?_
              rintro e w3 ⟨rfl, o3⟩
              have HO := Lib.hid ((O4.out.trans OQ.out).trans o3)
              clear o3 HW
              go_wp2
              go_ret
              exact ⟨rfl, HO.out⟩
      · have n1 : l1 = 0 := by rw [← L1.out, ptA_nil (by rw [E1.out]; exact h0)]; rfl
        have n2 : l2 = 0 := by rw [← L2.out, ptB_nil (by rw [E1.out]; exact h0)]; rfl
        have n3 : l3 = 0 := by rw [← L3.out, ptA_nil (by rw [E2.out]; exact h0)]; rfl
        have n4 : l4 = 0 := by rw [← L4.out, ptB_nil (by rw [E2.out]; exact h0)]; rfl
        have n5 : l5 = 0 := by rw [← L5.out, ptA_nil (by rw [E3.out]; exact h0)]; rfl
        have n6 : l6 = 0 := by rw [← L6.out, ptB_nil (by rw [E3.out]; exact h0)]; rfl
        have n7 : l7 = 0 := by rw [← L7.out, ptA_nil (by rw [E4.out]; exact h0)]; rfl
        have n8 : l8 = 0 := by rw [← L8.out, ptB_nil (by rw [E4.out]; exact h0)]; rfl
        subst n1 n2 n3 n4 n5 n6 n7 n8
        clear I1 I2 I3 I4 I5 I6 I7 I8 L1 L2 L3 L4 L5 L6 L7 L8 E1 E2 E3 E4 HE
        have HW := Lib.hid (awake9 w4)
        go_wp2
        go_loopw [17] (fun s wr => s = iv 0 ∧ wr = w4) (fun _ _ => 0)
        case atStart => exact ⟨rfl, rfl⟩
        case round =>
          obtain ⟨rfl, rfl⟩ := hrel
          by_cases hn : n = 0
          · subst hn
            go_wp2_with fail
            refine (HW.out).mono ?_
            rintro e w3 ⟨rfl, o3⟩
            have HO := Lib.hid (O4.out.trans o3)
            clear o3 HW
            go_wp2
            go_ret
            exact ⟨rfl, HO.out⟩
          · have hni : ¬ (n : Int) = 0 := by omega
            have hni2 : ¬ (0 : Int) = (n : Int) := by omega
            go_wp2_with fail
            refine (HW.out).mono ?_
            rintro e w3 ⟨rfl, o3⟩
            have HO := Lib.hid (O4.out.trans o3)
            clear o3 HW
            go_wp2
            go_ret
            exact ⟨by show Ending.returned (.bool (!(E == 0))) = _; rw [show (E == 0) = false by simpa using h0]; rfl, HO.out⟩
end Go.Proofs.Ytmnogedkinhljaa
