/-
  Check.
-/
import Derived.Test.YtliemhadgbjjiaaRFold
namespace Go.Proofs.Ytliemhadgbjjiaa
open Go.RowKit

/-- a plan as a value -/
abbrev planV (m o : Int) (vp vb : Value) : Value := .agg #[iv m, iv o, vp, vb]
/-- what is wrong with a plan's head -/
def ckH (m o b s : Int) : Int := if ckB b s ≠ 0 then 1 else if m < 0 ∨ 2 ≤ m ∨ o < 0 ∨ 15 < o then 10 else ckP o.toNat b.toNat s.toNat
/-- may all parts be -/
def allP (m : Int) (ps bs : List Int) : Prop := ∀ i, (hi : i < ps.length) → (hb : i < bs.length) → isP m ps[i] bs[i]
/-- what is wrong with a plan -/
noncomputable def ckC (m o : Int) (ps bs : List Int) (b s : Int) : Int :=
  if ckH m o b s ≠ 0 then ckH m o b s else if ps.length ≠ 2 ^ o.toNat ∨ bs.length ≠ 2 ^ o.toNat then 1 else @ite _ (allP m ps bs) (Classical.propDecidable _) 0 10

def ChkP (w1 : World) (m : Int) (ps bs : List Int) (s62 : Value) (wr : World) : Prop := ∃ j : Nat, j ≤ ps.length ∧ s62 = iv j ∧ (∀ i, (hi : i < ps.length) → (hb : i < bs.length) → i < j → isP m ps[i] bs[i]) ∧ ∃ k, wr = w1.drewN k

set_option maxHeartbeats 2000000 in
theorem check_parts {w : World} (m : Int) (o b s : Nat) (hm : m = 0 ∨ m = 1) (ho : o ≤ 15) (hb : b ≤ 65535) (hB : ckB b s = 0) (hP : ckP o b s = 0) (A A' : Option Addr) (c c' : Nat) (ps bs : List Int)
    (hx : ISrc w (.slice A ps.length c) ps) (hy : ISrc w (.slice A' bs.length c') bs) (C : Int) (hC : C = if ps.length ≠ 2 ^ o ∨ bs.length ≠ 2 ^ o then 1 else @ite _ (allP m ps bs) (Classical.propDecidable _) 0 10) :
    Calls Try.prog 15 #[planV m o (.slice A ps.length c) (.slice A' bs.length c'), iv b, iv s] w fun e w' => e = .returned (iv C) ∧ Only Nix w w' := by
  obtain ⟨w1, hw1⟩ : ∃ w1, w1 = w.alloc (.cells #[iv m, iv o, .slice A ps.length c, .slice A' bs.length c'] 24) := ⟨_, rfl⟩
  have HB := Lib.hid (checkBlock_any w1 b s)
  have HP := Lib.hid (checkParting_any w1 o b s ho hb)
  rw [hB] at HB
  rw [hP] at HP
  have hm0 : 0 ≤ m := by omega
  have hm2 : m < 2 := by omega
  have ho15 : (o : Int) ≤ 15 := by omega
  have HBx := Lib.hid (Box.new w 24 #[iv m, iv o, .slice A ps.length c, .slice A' bs.length c'])
  have HO := Lib.hid ((Only.refl Nix w).alloc (.cells #[iv m, iv o, .slice A ps.length c, .slice A' bs.length c'] 24))
  rw [← hw1] at HBx HO
  have hp1 := hx.small
  have hp2 := hy.small
  have HX := Lib.hid hx
  have HY := Lib.hid hy
  clear hx hy hB hP
  have d0 := HBx.out.cell 0
  have d1 := HBx.out.cell 1
  have d2 := HBx.out.cell 2
  have d3 := HBx.out.cell 3
  simp only [List.getElem?_toArray, List.getElem?_cons_zero, List.getElem?_cons_succ] at d0 d1 d2 d3
  obtain ⟨P, hPp⟩ : ∃ P : Nat, Hid (2 ^ o = P) := ⟨_, Lib.hid rfl⟩
  have hP2 : P ≤ 32768 := by rw [← hPp.out]; exact Nat.pow_le_pow_right (by decide) ho
  have hP0 : 0 < P := by rw [← hPp.out]; exact Nat.two_pow_pos o
  have hpw : (2 : Int) ^ o = (P : Int) := by rw [pow_cast, hPp.out]
  rw [hPp.out] at hC
  have HC := Lib.hid hC
  have HM := Lib.hid hm
  clear hC hm
  generalize hNp : ps.length = Np at *
  generalize hNb : bs.length = Nb at *
  have HNp := Lib.hid hNp
  have HNb := Lib.hid hNb
  clear hNp hNb
  have hw1a : w.alloc (.cells #[iv m, iv o, .slice A Np c, .slice A' Nb c'] 24) = w1 := hw1.symm
  clear hw1
  by_cases h1 : Np = P
  · by_cases h2 : Nb = P
    · subst h1
      subst h2
      go_enter Try.func15, Try.ntmps15
      go_wp2_with fail
      refine (HB.out).mono ?_
      rintro e w2 ⟨rfl, rfl⟩
      go_wp2_with fail
      refine (HP.out).mono ?_
      rintro e w2 ⟨rfl, rfl⟩
      go_wp2
      go_loopw [62] (fun s62 wr => ChkP w1 m ps bs s62 wr) (fun s62 _ => Nb - (intOf s62).toNat)
      case atStart => exact ⟨0, by omega, rfl, fun i _ _ h => by omega, 0, rfl⟩
      case round =>
        obtain ⟨j, hj, rfl, hal, k, rfl⟩ := hrel
        rw [HNp.out] at hj
        have Hal := Lib.hid hal
        clear hal
        by_cases hlt : j < Nb
        · have hltp : j < ps.length := by rw [HNp.out]; exact hlt
          have hltb : j < bs.length := by rw [HNb.out]; exact hlt
          obtain ⟨ad, rfl, hxj0⟩ := HX.out.at_ hltp
          have hxj := cell_keep (HO.out.drewN k) hxj0
          obtain ⟨ad', rfl, hyj0⟩ := HY.out.at_ hltb
          have hyj := cell_keep HO.out hyj0
          clear hxj0 hyj0
          have hlt2 : (j : Int) < (Nb : Int) := by omega
          have HI : ∀ n, Hid (Calls Try.prog 43 #[iv m, iv ps[j], iv bs[j]] (w1.drewN n) fun e w' => e = .returned (.bool (decide (isP m ps[j] bs[j]))) ∧ w1.drewN n = w') := fun n => Lib.hid (isPart_any _ m _ _ HM.out)
          have HQ : Hid (isP m ps[j] bs[j] ↔ isP m (ps[j]'hltp) (bs[j]'hltb)) := Lib.hid Iff.rfl
          generalize hpj : ps[j]'hltp = pj at hxj HI HQ ⊢
          generalize hbj : bs[j]'hltb = bj at hyj HI HQ ⊢
          have Hpj := Lib.hid hpj
          have Hbj := Lib.hid hbj
          clear hpj hbj HQ
          go_wp2
          go_quiet ((go_at_call 43; exact still_at2 ((HI _).out)))
          by_cases hI : isP m pj bj
          · rw [decide_eq_true hI]
            have HIp := Lib.hid hI
            clear hI
            go_wp2
            go_roundw
            case rel =>
              refine ⟨j + 1, by rw [HNp.out]; omega, by go_num, fun i h1 h2 hij => ?_, _, rfl⟩
              by_cases e : i = j
              · subst e; rw [Hpj.out, Hbj.out]; exact HIp.out
              · exact Hal.out i h1 h2 (by omega)
            case measure => simp [intOf]; omega
          · rw [decide_eq_false hI]
            have HIp := Lib.hid hI
            clear hI
            go_wp2
            go_ret
            refine ⟨?_, (HO.out.drewN _).drewN _⟩
            rw [HC.out, if_neg (by simp), if_neg]
            · rfl
            · intro h
              have := h j hltp hltb
              rw [Hpj.out, Hbj.out] at this
              exact HIp.out this
        · obtain rfl : j = Nb := by omega
          have hlt2 : decide (j < j) = false := by simp
          go_wp2
          go_ret
          refine ⟨?_, HO.out.drewN _⟩
          rw [HC.out, if_neg (by simp), if_pos]
          · rfl
          · intro i hi hb2
            exact Hal.out i hi hb2 (by rw [HNp.out] at hi; omega)
    · subst h1
      have HC2 : C = 1 := by rw [HC.out, if_pos (.inr h2)]
      subst HC2
      have h3 : ((Nb : Int) != (Np : Int)) = true := by simp; omega
      go_enter Try.func15, Try.ntmps15
      go_wp2_with fail
      refine (HB.out).mono ?_
      rintro e w2 ⟨rfl, rfl⟩
      go_wp2_with fail
      refine (HP.out).mono ?_
      rintro e w2 ⟨rfl, rfl⟩
      go_wp2
      go_ret
      exact ⟨rfl, HO.out⟩
  · have HC2 : C = 1 := by rw [HC.out, if_pos (.inl h1)]
    subst HC2
    have h3 : ((Np : Int) != (P : Int)) = true := by simp; omega
    go_enter Try.func15, Try.ntmps15
    go_wp2_with fail
    refine (HB.out).mono ?_
    rintro e w2 ⟨rfl, rfl⟩
    go_wp2_with fail
    refine (HP.out).mono ?_
    rintro e w2 ⟨rfl, rfl⟩
    go_wp2
    go_ret
    exact ⟨rfl, HO.out⟩

set_option maxHeartbeats 2000000 in
theorem check_head {w : World} (m o b s : Int) (v v' : Value) (_ : v.cells = #[v]) (_ : v'.cells = #[v']) (h : ckH m o b s ≠ 0) :
    Calls Try.prog 15 #[planV m o v v', iv b, iv s] w fun e w' => e = .returned (iv (ckH m o b s)) ∧ Only Nix w w' := by
  obtain ⟨w1, hw1⟩ : ∃ w1, w.alloc (.cells #[iv m, iv o, v, v'] 24) = w1 := ⟨_, rfl⟩
  have HB := Lib.hid (checkBlock_any w1 b s)
  have HBx := Lib.hid (Box.new w 24 #[iv m, iv o, v, v'])
  have HO := Lib.hid ((Only.refl Nix w).alloc (.cells #[iv m, iv o, v, v'] 24))
  rw [hw1] at HBx HO
  have d0 := HBx.out.cell 0
  have d1 := HBx.out.cell 1
  simp only [List.getElem?_toArray, List.getElem?_cons_zero, List.getElem?_cons_succ] at d0 d1
  obtain ⟨E, hE⟩ : ∃ E, ckH m o b s = E := ⟨_, rfl⟩
  rw [hE]
  unfold ckH at hE
  rw [← hE]
  by_cases h1 : ckB b s = 0
  · rw [if_neg (by simpa using h1)] at hE ⊢
    rw [h1] at HB
    have hb : 1 ≤ b ∧ b ≤ 65535 ∧ 0 ≤ s ∧ s ≤ 32 := by
      unfold ckB at h1
      split at h1
      · cases h1
      · omega
    clear h1
    by_cases h2 : m < 0
    · rw [if_pos (.inl h2)]
      clear hE h
      go_enter Try.func15, Try.ntmps15
      go_wp2_with fail
      refine (HB.out).mono ?_
      rintro e w2 ⟨rfl, rfl⟩
      go_wp2
      go_ret
      exact ⟨rfl, HO.out⟩
    · by_cases h3 : 2 ≤ m
      · rw [if_pos (.inr (.inl h3))]
        clear hE h
        go_enter Try.func15, Try.ntmps15
        go_wp2_with fail
        refine (HB.out).mono ?_
        rintro e w2 ⟨rfl, rfl⟩
        go_wp2
        go_ret
        exact ⟨rfl, HO.out⟩
      · by_cases h4 : o < 0
        · rw [if_pos (.inr (.inr (.inl h4)))]
          clear hE h
          go_enter Try.func15, Try.ntmps15
          go_wp2_with fail
          refine (HB.out).mono ?_
          rintro e w2 ⟨rfl, rfl⟩
          go_wp2
          go_ret
          exact ⟨rfl, HO.out⟩
        · by_cases h5 : 15 < o
          · rw [if_pos (.inr (.inr (.inr h5)))]
            clear hE h
            go_enter Try.func15, Try.ntmps15
            go_wp2_with fail
            refine (HB.out).mono ?_
            rintro e w2 ⟨rfl, rfl⟩
            go_wp2
            go_ret
            exact ⟨rfl, HO.out⟩
          · rw [if_neg (by omega)] at hE ⊢
            obtain ⟨o, rfl⟩ := Int.eq_ofNat_of_zero_le (show 0 ≤ o by omega)
            obtain ⟨b, rfl⟩ := Int.eq_ofNat_of_zero_le (show 0 ≤ b by omega)
            obtain ⟨s, rfl⟩ := Int.eq_ofNat_of_zero_le (show 0 ≤ s by omega)
            have HP := Lib.hid (checkParting_any w1 o b s (by omega) (by omega))
            have hn : ckP o b s ≠ 0 := by
              have h' := h
              unfold ckH at h'
              simp only [Int.toNat_natCast] at h' hE
              rw [if_neg, if_neg (by omega)] at h'
              · exact h'
              · unfold ckB
                rw [if_neg (by omega)]
                simp
            simp only [Int.toNat_natCast]
            clear hE h
            have hn2 : (ckP o b s != 0) = true := by simpa using hn
            generalize ckP o b s = C at *
            go_enter Try.func15, Try.ntmps15
            go_wp2_with fail
            refine (HB.out).mono ?_
            rintro e w2 ⟨rfl, rfl⟩
            go_wp2_with fail
            refine (HP.out).mono ?_
            rintro e w2 ⟨rfl, rfl⟩
            go_wp2
            go_ret
            exact ⟨rfl, HO.out⟩
  · rw [if_pos h1]
    have h1b : ckB b s = 1 := by
      unfold ckB at h1 ⊢
      split
      · rfl
      · rename_i hh; rw [if_neg hh] at h1; exact absurd rfl h1
    rw [h1b] at HB
    clear hE h
    go_enter Try.func15, Try.ntmps15
    go_wp2_with fail
    refine (HB.out).mono ?_
    rintro e w2 ⟨rfl, rfl⟩
    go_wp2
    go_ret
    exact ⟨rfl, HO.out⟩
end Go.Proofs.Ytliemhadgbjjiaa
