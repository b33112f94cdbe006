/-
  Order: the blocks' order, and what is wrong with it.
-/
import Derived.Test.YtighdjbeddcckaaDoorWE
namespace Go.Proofs.YtighdjbeddcckaaDoor
open Go.RowKit Go.Shelf

/-- what Order answers -/
def odE (l : List Bk) : Int :=
  match l with
  | [] => 20
  | p :: _ => if p.1 ≠ 0 then 20 else if (decide (1 < mT l 0) || (decide (1 < mT l 3) || decide (1 < mT l 4))) = true then 19 else if p.2.length ≠ 34 then 10 else if (l.any fun p => isM p.1 p.2) = true then 12 else 0
theorem odE_cons (p : Bk) (r : List Bk) : odE (p :: r) = if p.1 ≠ 0 then 20 else if (decide (1 < mT (p :: r) 0) || (decide (1 < mT (p :: r) 3) || decide (1 < mT (p :: r) 4))) = true then 19 else if p.2.length ≠ 34 then 10 else if ((p :: r).any fun p => isM p.1 p.2) = true then 12 else 0 := rfl
set_option maxRecDepth 100000 in
set_option maxHeartbeats 8000000 in
theorem order_any {w : World} {v : Value} {l : List Bk} (hv : BSrc w v l) :
    Calls Tryd.prog 11 #[v] w fun e w' => e = .returned (iv (odE l)) ∧ Only Nix w w' := by
  obtain ⟨A, c, rfl⟩ := hv.slice
  have hsm := hv.small
  obtain ⟨n, hn⟩ : ∃ n, l.length = n := ⟨_, rfl⟩
  rw [hn] at hv hsm ⊢
  have a1 := (Only.refl Nix w).alloc (.cells #[.slice A n c] 22)
  have b1 := Box.new w 22 #[.slice A n c]
  obtain ⟨W1, hW1⟩ : ∃ W1, w.alloc (.cells #[.slice A n c] 22) = W1 := ⟨_, rfl⟩
  rw [hW1] at a1 b1
  have HO := Lib.hid a1
  have HB := Lib.hid b1
  have HV := Lib.hid (hv.nix a1)
  have hc := b1.cell 0
  simp only [List.getElem?_toArray, List.getElem?_cons_zero] at hc
  have hen : ∀ args w, (callFunc 17 args).run Tryd.prog w = .ok (.enter 17 args) w := enters_of Tryd.func17 (by kernel_rfl) rfl
  clear hv a1 b1
  obtain rfl | ⟨p, r, hl⟩ : l = [] ∨ ∃ p r, l = p :: r := by
    cases l with
    | nil => exact .inl rfl
    | cons p r => exact .inr ⟨p, r, rfl⟩
  · obtain rfl : 0 = n := hn
    clear HV HB
    go_enter Tryd.func11, Tryd.ntmps11
    go_wp2
    go_ret
    exact ⟨rfl, HO.out⟩
  · have hlen : 0 < l.length := by rw [hl]; exact Nat.succ_pos _
    obtain ⟨ad, B, d, rfl, hx, hy, z1, z2⟩ := HV.out.at_ hlen
    clear z1 z2
    have h0 : l[0] = p := by simp [hl]
    rw [h0] at hx hy
    have e0 : ad.add (0 * 2) = ad := rfl
    rw [e0] at hx hy
    have HX := Lib.hid hx
    have HY := Lib.hid hy
    have hnp : 0 < n := by omega
    have hlen0 : ¬ (n : Int) = 0 := by omega
    have hlen1 : (0 : Int) < (n : Int) := by omega
    have HE : Hid (odE l = if p.1 ≠ 0 then 20 else if (decide (1 < mT l 0) || (decide (1 < mT l 3) || decide (1 < mT l 4))) = true then 19 else if p.2.length ≠ 34 then 10 else if (l.any fun p => isM p.1 p.2) = true then 12 else 0) := Lib.hid (by rw [hl]; rfl)
    have HT : Hid (∀ k u, Only Nix W1 u → Calls Tryd.prog 17 #[iv k, .pointer (some ⟨w.heap.size, 0, none⟩)] u fun e w' => e = .returned (.bool (decide (1 < mT l k))) ∧ Only Nix u w') := Lib.hid (fun k u ho => twice_any k (HB.out.only ho (fun e => e)) (HV.out.nix ho))
    have HC : Hid (∀ u, Only Nix W1 u → Calls Tryd.prog 18 #[.slice (some ad) n c, .func (.func 19) #[] #[]] u fun e w' => e = .returned (.bool (l.any fun p => isM p.1 p.2)) ∧ Only Nix u w') := Lib.hid (fun u ho => contains_any (HV.out.nix ho))
    obtain ⟨R, hR⟩ : ∃ R, odE l = R := ⟨_, rfl⟩
    rw [hR] at HE ⊢
    have HT0 := Lib.hid (HT.out 0)
    have HT3 := Lib.hid (HT.out 3)
    have HT4 := Lib.hid (HT.out 4)
    generalize decide (1 < mT l 0) = q0 at *
    generalize decide (1 < mT l 3) = q3 at *
    generalize decide (1 < mT l 4) = q4 at *
    generalize (l.any fun p => isM p.1 p.2) = qm at *
    generalize p.2.length = m at *
    generalize p.1 = t at *
    clear hl h0 HT hR e0 HV HB hn hlen
    by_cases ht : t = 0
    · subst ht
      have HE1 : Hid (R = if (q0 || (q3 || q4)) = true then 19 else if m ≠ 34 then 10 else if qm = true then 12 else 0) := Lib.hid (HE.out.trans (if_neg (fun h => h rfl)))
      clear HE
      go_enter Tryd.func11, Tryd.ntmps11
      go_wp2_with fail
      refine (HT0.out W1 (Only.refl _ _)).mono ?_
      rintro e w2 ⟨rfl, o2⟩
      have HU2 := Lib.hid o2
      have HN2 := Lib.hid (HT3.out w2 HU2.out)
      clear o2 HT3
      cases q0 with
      | true =>
        have HE2 : Hid (R = 19) := Lib.hid (HE1.out.trans (if_pos (by simp)))
        clear HE1
        go_wp2
        go_ret
        exact ⟨by rw [HE2.out] <;> rfl, HO.out.trans HU2.out⟩
      | false =>
        go_wp2_with fail
        refine (HN2.out).mono ?_
        rintro e w3 ⟨rfl, o3⟩
        have HU3 := Lib.hid (HU2.out.trans o3)
        have HN3 := Lib.hid (HT4.out w3 HU3.out)
        clear o3 HT4
        cases q3 with
        | true =>
          have HE2 : Hid (R = 19) := Lib.hid (HE1.out.trans (if_pos (by simp)))
          clear HE1
          go_wp2
          go_ret
          exact ⟨by rw [HE2.out] <;> rfl, HO.out.trans HU3.out⟩
        | false =>
          go_wp2_with fail
          refine (HN3.out).mono ?_
          rintro e w4 ⟨rfl, o4⟩
          have HU4 := Lib.hid (HU3.out.trans o4)
          clear o4
          cases q4 with
          | true =>
            have HE2 : Hid (R = 19) := Lib.hid (HE1.out.trans (if_pos (by simp)))
            clear HE1
            go_wp2
            go_ret
            exact ⟨by rw [HE2.out] <;> rfl, HO.out.trans HU4.out⟩
          | false =>
            have HE2 : Hid (R = if m ≠ 34 then 10 else if qm = true then 12 else 0) := Lib.hid (HE1.out.trans (if_neg (by simp)))
            have hc4 := cell_keep HU4.out hc
            have hx4 := cell_keep HU4.out HX.out
            have hy4 := cell_keep HU4.out HY.out
            clear HE1
            by_cases hm : m = 34
            · subst hm
              have HE3 : Hid (R = if qm = true then 12 else 0) := Lib.hid (HE2.out.trans (if_neg (fun h => h rfl)))
              have HC4 := Lib.hid (HC.out w4 HU4.out)
              clear HE2 HC
              go_wp2_with fail
              refine (HC4.out).mono ?_
              rintro e w5 ⟨rfl, o5⟩
              have HU5 := Lib.hid (HU4.out.trans o5)
              clear o5
              cases qm with
              | true =>
                have HE4 : Hid (R = 12) := Lib.hid (HE3.out.trans (if_pos rfl))
                clear HE3
                go_wp2
                go_ret
                exact ⟨by rw [HE4.out] <;> rfl, HO.out.trans HU5.out⟩
              | false =>
                have HE4 : Hid (R = 0) := Lib.hid (HE3.out.trans (if_neg (by simp)))
                clear HE3
                go_wp2
                go_ret
                exact ⟨by rw [HE4.out] <;> rfl, HO.out.trans HU5.out⟩
            · have HE3 : Hid (R = 10) := Lib.hid (HE2.out.trans (if_pos hm))
              have hmi : ¬ (m : Int) = 34 := by omega
              have hmb : ((m : Int) != 34) = true := by simp [hmi]
              clear HE2
              go_wp2
              go_ret
              exact ⟨by rw [HE3.out] <;> rfl, HO.out.trans HU4.out⟩
    · have HE1 : Hid (R = 20) := Lib.hid (HE.out.trans (if_pos ht))
      have htb : (t != 0) = true := by simp [ht]
      clear HE
      go_enter Tryd.func11, Tryd.ntmps11
      go_wp2
      go_ret
      exact ⟨by rw [HE1.out] <;> rfl, HO.out⟩
end Go.Proofs.YtighdjbeddcckaaDoor
