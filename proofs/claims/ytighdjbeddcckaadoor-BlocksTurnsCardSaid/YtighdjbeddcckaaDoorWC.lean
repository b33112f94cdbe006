/-
  isMisshapen: are Data none that blocks of that Type have.
-/
import Derived.Test.YtighdjbeddcckaaDoorWB
namespace Go.Proofs.YtighdjbeddcckaaDoor
open Go.RowKit Go.Shelf

def isM (t : Int) (bs : List Nat) : Bool := if t = 1 then decide (¬ ∀ x ∈ bs, x = 0) else if t = 2 then decide (bs.length < 4) else if t = 3 then decide (bs.length % 18 ≠ 0) else false
set_option maxRecDepth 100000 in
set_option maxHeartbeats 4000000 in
theorem misshapen_any {w : World} {t : Int} {v : Value} {bs : List Nat} (hs : CSrc w v bs) :
    Calls Tryd.prog 19 #[.agg #[iv t, v]] w fun e w' => e = .returned (.bool (isM t bs)) ∧ Only Nix w w' := by
  obtain ⟨A, c, rfl, _⟩ := hs.form
  have hsm := hs.src.small
  have a1 := (Only.refl Nix w).alloc (.cells #[iv t, .slice A bs.length c] 38)
  have b1 := Box.new w 38 #[iv t, .slice A bs.length c]
  obtain ⟨W1, hW1⟩ : ∃ W1, w.alloc (.cells #[iv t, .slice A bs.length c] 38) = W1 := ⟨_, rfl⟩
  rw [hW1] at a1 b1
  have h0 := b1.cell 0
  have h1 := b1.cell 1
  simp only [List.getElem?_toArray, List.getElem?_cons_zero, List.getElem?_cons_succ] at h0 h1
  have HT := Lib.hid (trim_any (hs.nix a1))
  have HO := Lib.hid a1
  have HM : Hid (isM t bs = if t = 1 then decide (¬ ∀ x ∈ bs, x = 0) else if t = 2 then decide (bs.length < 4) else if t = 3 then decide (bs.length % 18 ≠ 0) else false) := Lib.hid rfl
  clear hs a1 b1
  obtain ⟨R, hR⟩ : ∃ R, isM t bs = R := ⟨_, rfl⟩
  rw [hR] at HM ⊢
  clear hR
  by_cases t1 : t = 1
  · subst t1
    have HE : Hid (R = decide (¬ ∀ x ∈ bs, x = 0)) := Lib.hid (HM.out.trans (if_pos rfl))
    clear HM
    generalize bs.length = n at *
    go_enter Tryd.func19, Tryd.ntmps19
    go_wp2_with fail
    refine (HT.out).mono ?_
    rintro e w2 ⟨⟨B, m, d, rfl, hm⟩, o2⟩
    have HO2 := Lib.hid (HO.out.trans o2)
    have HE2 : Hid (decide (0 < m) = R) := Lib.hid (hm.trans HE.out.symm)
    clear hm o2
    go_wp2
    go_ret
    exact ⟨by rw [← HE2.out] <;> simp, HO2.out⟩
  · have HM2 : Hid (R = if t = 2 then decide (bs.length < 4) else if t = 3 then decide (bs.length % 18 ≠ 0) else false) := Lib.hid (HM.out.trans (if_neg t1))
    clear HM HT
    by_cases t2 : t = 2
    · subst t2
      have HE : Hid (R = decide (bs.length < 4)) := Lib.hid (HM2.out.trans (if_pos rfl))
      clear HM2
      generalize bs.length = n at *
      go_enter Tryd.func19, Tryd.ntmps19
      go_wp2
      go_ret
      refine ⟨?_, HO.out⟩
      rw [HE.out]
      simp
      omega
    · have HM3 : Hid (R = if t = 3 then decide (bs.length % 18 ≠ 0) else false) := Lib.hid (HM2.out.trans (if_neg t2))
      clear HM2
      by_cases t3 : t = 3
      · subst t3
        have HE : Hid (R = decide (bs.length % 18 ≠ 0)) := Lib.hid (HM3.out.trans (if_pos rfl))
        clear HM3
        have e18 : (bs.length : Int).tmod 18 = ((bs.length % 18 : Nat) : Int) := by rw [Int.tmod_eq_emod_of_nonneg (by omega)]; omega
        have hlt : bs.length % 18 < 18 := Nat.mod_lt _ (by decide)
        obtain ⟨q, hq⟩ : ∃ q, bs.length % 18 = q := ⟨_, rfl⟩
        rw [hq] at HE e18 hlt
        clear hq
        generalize bs.length = n at *
        go_enter Tryd.func19, Tryd.ntmps19
        go_wp2
        go_ret
        refine ⟨?_, HO.out⟩
        rw [HE.out]
        by_cases hq0 : q = 0
        · subst hq0
          rfl
        · simp [hq0]
      · have HE : Hid (R = false) := Lib.hid (HM3.out.trans (if_neg t3))
        clear HM3
        generalize bs.length = n at *
        go_enter Tryd.func19, Tryd.ntmps19
        go_wp2
        go_ret
        exact ⟨by rw [HE.out] <;> rfl, HO.out⟩
end Go.Proofs.YtighdjbeddcckaaDoor
