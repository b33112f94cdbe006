/-
  Pictures: which may be written.
-/
import Derived.Test.YtphpciglpnbblaaDoorTPA
namespace Go.Proofs.YtphpciglpnbblaaDoor
open Go.RowKit Go.Shelf

set_option maxRecDepth 100000 in
set_option maxHeartbeats 8000000 in
theorem pcheck_any {w : World} {p : Pc} {d : Value} {bs : List Nat} (hd : CSrc w d bs) (hm : p.m.size ≤ 1000000) (ht : p.t.size ≤ 1000000) (hb : bs.length ≤ 1000000) (hT : Tabs w) :
    Calls Tryd.prog 36 #[pcV p d] w fun e w' => e = .returned (iv (pcE p)) ∧ Only Nix w w' := by
  obtain ⟨W1, hW1⟩ : ∃ W1, w.alloc (.cells (pcc p d) 40) = W1 := ⟨_, rfl⟩
  have b1 := Box.new w 40 (pcc p d)
  have a1 := Lib.hid ((Only.refl Nix w).alloc (.cells (pcc p d) 40))
  rw [hW1] at b1 a1
  have HB := Lib.hid b1
  have c2 := pc2 b1
  have H1 := Lib.hid (isText_any (w := W1) p.t ht (hT.nix a1.out))
  have H2 : Hid (∀ u, Calls Tryd.prog 52 #[.string p.m, .func (.func 53) #[] #[]] u fun e w' => e = .returned (.bool ((nb p.m).all prB)) ∧ Only Nix u w') := Lib.hid (fun u => isOf_any p.m 53 prB (fun r hr => by unfold prB; rw [Bool.and_eq_false_iff]; exact .inr (decide_eq_false (by omega))) (enters_of Tryd.func53 (by kernel_rfl) rfl) (fun u r => isPrinted_any r))
  have HW : Hid (∀ u n, Calls Tryd.prog 54 #[iv n] u fun e w' => e = .returned (.bool (isW n)) ∧ Only Nix u w') := Lib.hid (fun u n => isWord_any n)
  have HS : Hid (∀ u, Only Nix W1 u → Calls Tryd.prog 37 #[pcV p d] u fun e w' => e = .returned (iv ((32 + p.m.size + p.t.size + bs.length : Nat) : Int)) ∧ Only Nix u w') := Lib.hid (fun u hu => psize_any ((hd.nix a1.out).nix hu) hm ht hb)
  have hz : 32 + p.m.size + p.t.size + bs.length ≤ 3000032 := by omega
  have hE : Hid (pcE p = if isT p.t = true ∧ (nb p.m).all prB = true then (if 0 ≤ p.k ∧ p.k ≤ 20 ∧ isW p.w = true ∧ isW p.h = true ∧ isW p.b = true ∧ isW p.c = true then 0 else 10) else 12) := Lib.hid rfl
  have HWw := Lib.hid (fun u => HW.out u p.w)
  have HWh := Lib.hid (fun u => HW.out u p.h)
  have HWb := Lib.hid (fun u => HW.out u p.b)
  have HWc := Lib.hid (fun u => HW.out u p.c)
  generalize 32 + p.m.size + p.t.size + bs.length = Z at *
  generalize pcE p = E at *
  generalize isT p.t = TV at *
  generalize (nb p.m).all prB = MV at *
  generalize isW p.w = w1 at *
  generalize isW p.h = w2 at *
  generalize isW p.b = w3 at *
  generalize isW p.c = w4 at *
  clear b1 hd hm ht hb hT HW
  cases TV with
  | false =>
    have hE2 : Hid (E = 12) := Lib.hid (by rw [hE.out]; rfl)
    go_enter Tryd.func36, Tryd.ntmps36
    go_wp2_with fail
    refine (H1.out).mono ?_
    rintro e u1 ⟨rfl, ho⟩
    go_wp2
    go_ret
    exact ⟨by rw [hE2.out]; rfl, a1.out.trans ho⟩
  | true =>
    go_enter Tryd.func36, Tryd.ntmps36
    go_wp2_with fail
    refine (H1.out).mono ?_
    rintro e u1 ⟨rfl, ho⟩
    have HO1 := Lib.hid ho
    have k1 := pc1 (HB.out.only ho (fun e => e))
    have HN := Lib.hid (H2.out u1)
    clear ho c2
    go_wp2_with fail
    refine (HN.out).mono ?_
    rintro e u2 ⟨rfl, ho⟩
    have HO2 := Lib.hid (HO1.out.trans ho)
    have hb2 := HB.out.only HO2.out (fun e => e)
    have k0 := pc0 hb2
    have k3 := pc3 hb2
    have HN3 := Lib.hid (HWw.out u2)
    clear ho k1 hb2
    cases MV with
    | false =>
      have hE2 : Hid (E = 12) := Lib.hid (by rw [hE.out]; rfl)
      go_wp2
      go_ret
      exact ⟨by rw [hE2.out]; rfl, a1.out.trans HO2.out⟩
    | true =>
      have hE' : Hid (E = if 0 ≤ p.k ∧ p.k ≤ 20 ∧ w1 = true ∧ w2 = true ∧ w3 = true ∧ w4 = true then 0 else 10) := Lib.hid (by rw [hE.out]; simp)
      clear hE
      generalize p.k = k at *
      by_cases hk0 : k < 0
      · have hE2 : Hid (E = 10) := Lib.hid (by rw [hE'.out, if_neg (fun h => by omega)])
        go_wp2
        go_ret
        exact ⟨by rw [hE2.out]; rfl, a1.out.trans HO2.out⟩
      · by_cases hk1 : 20 < k
        · have hE2 : Hid (E = 10) := Lib.hid (by rw [hE'.out, if_neg (fun h => by omega)])
          go_wp2
          go_ret
          exact ⟨by rw [hE2.out]; rfl, a1.out.trans HO2.out⟩
        · go_wp2_with fail
          refine (HN3.out).mono ?_
          rintro e u3 ⟨rfl, ho⟩
          have HO3 := Lib.hid (HO2.out.trans ho)
          have k13 := pc4 (HB.out.only HO3.out (fun e => e))
          have HN4 := Lib.hid (HWh.out u3)
          clear ho
          cases w1 with
          | false =>
            have hE2 : Hid (E = 10) := Lib.hid (by rw [hE'.out, if_neg (fun h => by simp at h)])
            go_wp2
            go_ret
            exact ⟨by rw [hE2.out]; rfl, a1.out.trans HO3.out⟩
          | true =>
            go_wp2_with fail
            refine (HN4.out).mono ?_
            rintro e u4 ⟨rfl, ho⟩
            have HO4 := Lib.hid (HO3.out.trans ho)
            clear k13
            have k14 := pc5 (HB.out.only HO4.out (fun e => e))
            have HN5 := Lib.hid (HWb.out u4)
            clear ho
            cases w2 with
            | false =>
              have hE2 : Hid (E = 10) := Lib.hid (by rw [hE'.out, if_neg (fun h => by simp at h)])
              go_wp2
              go_ret
              exact ⟨by rw [hE2.out]; rfl, a1.out.trans HO4.out⟩
            | true =>
              go_wp2_with fail
              refine (HN5.out).mono ?_
              rintro e u5 ⟨rfl, ho⟩
              have HO5 := Lib.hid (HO4.out.trans ho)
              clear k14
              have k15 := pc6 (HB.out.only HO5.out (fun e => e))
              have HN6 := Lib.hid (HWc.out u5)
              clear ho
              cases w3 with
              | false =>
                have hE2 : Hid (E = 10) := Lib.hid (by rw [hE'.out, if_neg (fun h => by simp at h)])
                go_wp2
                go_ret
                exact ⟨by rw [hE2.out]; rfl, a1.out.trans HO5.out⟩
              | true =>
                go_wp2_with fail
                refine (HN6.out).mono ?_
                rintro e u6 ⟨rfl, ho⟩
                have HO6 := Lib.hid (HO5.out.trans ho)
                clear k15
                have HNs := Lib.hid (HS.out u6 HO6.out)
                have HB6 := Lib.hid (HB.out.only HO6.out (fun e => e))
                clear ho
                cases w4 with
                | false =>
                  have hE2 : Hid (E = 10) := Lib.hid (by rw [hE'.out, if_neg (fun h => by simp at h)])
                  go_wp2
                  go_ret
                  exact ⟨by rw [hE2.out]; rfl, a1.out.trans HO6.out⟩
                | true =>
                  have hE2 : Hid (E = 0) := Lib.hid (by rw [hE'.out, if_pos ⟨by omega, by omega, by simp⟩])
                  have hzi : ¬ (16777215 : Int) < (Z : Int) := by omega
                  go_wp2_with (first
                    | (refine load_pic rfl (.tmp 1) rfl w.heap.size p d rfl HB6.out ?_)
                    | fail)
                  refine (HNs.out).mono ?_
                  rintro e u7 ⟨rfl, ho⟩
                  have HO7 := Lib.hid (HO6.out.trans ho)
                  clear ho
                  go_wp2
                  go_ret
                  exact ⟨by rw [hE2.out]; rfl, a1.out.trans HO7.out⟩
end Go.Proofs.YtphpciglpnbblaaDoor
