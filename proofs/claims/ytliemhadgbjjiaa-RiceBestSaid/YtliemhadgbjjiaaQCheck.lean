/-
  The document's answer: Head, Check, part.
-/
import Derived.Test.YtliemhadgbjjiaaQBytes
namespace Go.Proofs.Ytliemhadgbjjiaa
open Go.RowKit

set_option maxHeartbeats 1000000 in
theorem headRef_any (w : World) (m o b s : Int) :
    Calls Try.prog 28 #[iv m, iv o, iv b, iv s] w fun e w' => e = .returned (iv (ckH m o b s)) ∧ w = w' := by
  by_cases hB : b < 1 ∨ 65535 < b ∨ s < 0 ∨ 32 < s
  · have e1 : ckH m o b s = 1 := by unfold ckH ckB; rw [if_pos hB]; rfl
    rw [e1]
    clear e1
    rcases Int.lt_or_le b 1 with h1 | h1
    · clear hB
      go_enter Try.func28, Try.ntmps28
      go_wp2
      go_ret
      exact ⟨rfl, rfl⟩
    · have g1 : decide (b < 1) = false := by simp; omega
      rcases Int.lt_or_le 65535 b with h2 | h2
      · clear hB
        go_enter Try.func28, Try.ntmps28
        go_wp2
        go_ret
        exact ⟨rfl, rfl⟩
      · have g2 : decide (65535 < b) = false := by simp; omega
        rcases Int.lt_or_le s 0 with h3 | h3
        · clear hB
          go_enter Try.func28, Try.ntmps28
          go_wp2
          go_ret
          exact ⟨rfl, rfl⟩
        · have g3 : decide (s < 0) = false := by simp; omega
          have h4 : 32 < s := by omega
          clear hB
          go_enter Try.func28, Try.ntmps28
          go_wp2
          go_ret
          exact ⟨rfl, rfl⟩
  · have e1 : ckB b s = 0 := by unfold ckB; rw [if_neg hB]
    have e2 : ckH m o b s = if m < 0 ∨ 2 ≤ m ∨ o < 0 ∨ 15 < o then 10 else ckP o.toNat b.toNat s.toNat := by unfold ckH; rw [e1]; simp
    rw [e2]
    clear e1 e2
    have g1 : decide (b < 1) = false := by simp; omega
    have g2 : decide (65535 < b) = false := by simp; omega
    have g3 : decide (s < 0) = false := by simp; omega
    have g4 : decide (32 < s) = false := by simp; omega
    obtain ⟨b, rfl⟩ := Int.eq_ofNat_of_zero_le (show 0 ≤ b by omega)
    obtain ⟨s, rfl⟩ := Int.eq_ofNat_of_zero_le (show 0 ≤ s by omega)
    have hb : b ≤ 65535 := by omega
    have hs : s ≤ 32 := by omega
    rw [Int.toNat_natCast, Int.toNat_natCast]
    by_cases hM : m < 0 ∨ 2 ≤ m ∨ o < 0 ∨ 15 < o
    · rw [if_pos hM]
      rcases Int.lt_or_le m 0 with h1 | h1
      · clear hM
        go_enter Try.func28, Try.ntmps28
        go_wp2
        go_ret
        exact ⟨rfl, rfl⟩
      · have k1 : decide (m < 0) = false := by simp; omega
        rcases Int.lt_or_le 1 m with h2 | h2
        · clear hM
          go_enter Try.func28, Try.ntmps28
          go_wp2
          go_ret
          exact ⟨rfl, rfl⟩
        · have k2 : decide (1 < m) = false := by simp; omega
          rcases Int.lt_or_le o 0 with h3 | h3
          · clear hM
            go_enter Try.func28, Try.ntmps28
            go_wp2
            go_ret
            exact ⟨rfl, rfl⟩
          · have k3 : decide (o < 0) = false := by simp; omega
            have h4 : 15 < o := by omega
            clear hM
            go_enter Try.func28, Try.ntmps28
            go_wp2
            go_ret
            exact ⟨rfl, rfl⟩
    · rw [if_neg hM]
      have k1 : decide (m < 0) = false := by simp; omega
      have k2 : decide (1 < m) = false := by simp; omega
      have k3 : decide (o < 0) = false := by simp; omega
      have k4 : decide (15 < o) = false := by simp; omega
      obtain ⟨o, rfl⟩ := Int.eq_ofNat_of_zero_le (show 0 ≤ o by omega)
      have ho : o ≤ 15 := by omega
      rw [Int.toNat_natCast]
      clear hM hB
      have hc : ckP o b s = if b % 2 ^ o ≠ 0 ∨ b / 2 ^ o ≤ s then 12 else 0 := rfl
      have hdl := Nat.div_le_self b (2 ^ o)
      generalize ckP o b s = C at *
      obtain ⟨P, hP⟩ : ∃ P : Nat, Hid (2 ^ o = P) := ⟨_, Lib.hid rfl⟩
      have hP2 : P ≤ 32768 := by rw [← hP.out]; exact Nat.pow_le_pow_right (by decide) ho
      have hP0 : 0 < P := by rw [← hP.out]; exact Nat.two_pow_pos o
      have hpw : (2 : Int) ^ o = (P : Int) := by rw [pow_cast, hP.out]
      have hPz : ¬ (P : Int) = 0 := by omega
      have hPz2 : ¬ P = 0 := by omega
      rw [hP.out] at hc hdl
      have hd : (b : Int) / (P : Int) = ((b / P : Nat) : Int) := by rw [← Int.natCast_ediv]
      have hm : Int.tmod (b : Int) (P : Int) = ((b % P : Nat) : Int) := by rw [Int.tmod_eq_emod_of_nonneg (by omega), Int.natCast_emod]
      have hm2 : (b : Int) % (P : Int) = ((b % P : Nat) : Int) := by rw [Int.natCast_emod]
      generalize b % P = R at *
      generalize b / P = D at *
      by_cases h1 : R = 0
      · subst h1
        by_cases h2 : D ≤ s
        · obtain rfl : C = 12 := by rw [hc, if_pos (.inr h2)]
          clear hc
          go_enter Try.func28, Try.ntmps28
          go_wp2
          go_ret
          exact ⟨rfl, rfl⟩
        · obtain rfl : C = 0 := by rw [hc, if_neg (by omega)]
          clear hc
          go_enter Try.func28, Try.ntmps28
          go_wp2
          go_ret
          exact ⟨rfl, rfl⟩
      · obtain rfl : C = 12 := by rw [hc, if_pos (.inl h1)]
        clear hc
        have h3 : ((R : Int) != 0) = true := by simp; omega
        go_enter Try.func28, Try.ntmps28
        go_wp2
        go_ret
        exact ⟨rfl, rfl⟩

def CkrP (w : World) (m : Int) (ps bs : List Int) (s5 : Value) (wr : World) : Prop := ∃ j : Nat, j ≤ ps.length ∧ s5 = iv j ∧ (∀ i, (hi : i < ps.length) → (hb : i < bs.length) → i < j → isP m ps[i] bs[i]) ∧ ∃ k, wr = w.drewN k

set_option maxHeartbeats 2000000 in
theorem checkRef_any {w : World} (m o b s : Int) (A A' : Option Addr) (n n' c c' : Nat) (ps bs : List Int) (hx : ISrc w (.slice A n c) ps) (hy : ISrc w (.slice A' n' c') bs) :
    Calls Try.prog 16 #[planV m o (.slice A n c) (.slice A' n' c'), iv b, iv s] w fun e w' => e = .returned (iv (ckC m o ps bs b s)) ∧ Only Nix w w' := by
  obtain rfl := hx.len
  obtain rfl := hy.len
  obtain ⟨w1, hw1⟩ : ∃ w1, w1 = w.alloc (.cells #[iv m, iv o, .slice A ps.length c, .slice A' bs.length c'] 32) := ⟨_, rfl⟩
  have HH := Lib.hid (headRef_any w1 m o b s)
  have HBx := Lib.hid (Box.new w 32 #[iv m, iv o, .slice A ps.length c, .slice A' bs.length c'])
  have HO := Lib.hid ((Only.refl Nix w).alloc (.cells #[iv m, iv o, .slice A ps.length c, .slice A' bs.length c'] 32))
  rw [← hw1] at HBx HO
  have d0 := HBx.out.cell 0
  have d1 := HBx.out.cell 1
  have d2 := HBx.out.cell 2
  have d3 := HBx.out.cell 3
  simp only [List.getElem?_toArray, List.getElem?_cons_zero, List.getElem?_cons_succ] at d0 d1 d2 d3
  clear HBx
  by_cases h : ckH m o b s = 0
  · have HC : Hid (ckC m o ps bs b s = if ps.length ≠ 2 ^ o.toNat ∨ bs.length ≠ 2 ^ o.toNat then 1 else @ite _ (allP m ps bs) (Classical.propDecidable _) 0 10) := Lib.hid (by unfold ckC; rw [if_neg (by simpa using h)])
    rw [h] at HH
    obtain ⟨m, o, b, s, rfl, rfl, rfl, rfl, h1, h2, h3, h4, h5, h6, h7⟩ := ckH_zero h
    clear h h6 h7
    rw [Int.toNat_natCast] at HC
    generalize ckC (m : Int) (o : Int) ps bs (b : Int) (s : Int) = C at *
    obtain ⟨P, hPp⟩ : ∃ P : Nat, Hid (2 ^ o = P) := ⟨_, Lib.hid rfl⟩
    have hP2 : P ≤ 32768 := by rw [← hPp.out]; exact Nat.pow_le_pow_right (by decide) h2
    have hP0 : 0 < P := by rw [← hPp.out]; exact Nat.two_pow_pos o
    have hpw : (2 : Int) ^ o = (P : Int) := by rw [pow_cast, hPp.out]
    rw [hPp.out] at HC
    have hp1 := hx.small
    have hp2 := hy.small
    have hwm1 : IntKind.i64.wrap (16 * (m : Int)) = 16 * (m : Int) := wraps_i64 _ (by omega) (by omega)
    have hwm2 : IntKind.i64.wrap (14 + 16 * (m : Int)) = 14 + 16 * (m : Int) := wraps_i64 _ (by omega) (by omega)
    have hneg : decide ((0 : Int) ≤ -1) = false := by decide
    have HX := Lib.hid hx
    have HY := Lib.hid hy
    clear hx hy
    generalize hNp : ps.length = Np at *
    generalize hNb : bs.length = Nb at *
    have HNp := Lib.hid hNp
    have HNb := Lib.hid hNb
    clear hNp hNb
    have hw1a := hw1.symm
    clear hw1
    by_cases g1 : Np = P
    · by_cases g2 : Nb = P
      · subst g1
        subst g2
        go_enter Try.func16, Try.ntmps16
        go_wp2_with fail
        refine (HH.out).mono ?_
        rintro e w2 ⟨rfl, rfl⟩
        go_wp2
        go_quiet (fail)
        go_wp2
        go_loopw [8] (fun s5 wr => CkrP w1 m ps bs s5 wr) (fun s5 _ => Nb - (intOf s5).toNat)
        case atStart => exact ⟨0, by omega, rfl, fun i _ _ h => by omega, _, rfl⟩
        case round =>
          obtain ⟨j, hj, rfl, hal, k, rfl⟩ := hrel
          rw [HNp.out] at hj
          have Hal := Lib.hid hal
          clear hal
          by_cases hlt : j < Nb
          · have hltp : j < ps.length := by rw [HNp.out]; exact hlt
            have hltb : j < bs.length := by rw [HNb.out]; exact hlt
            obtain ⟨ad, rfl, hxj0⟩ := HX.out.at_ hltp
            have hxj := cell_keep (HO.out.drewN k) hxj0
            have hxk := cell_keep HO.out hxj0
            obtain ⟨ad', rfl, hyj0⟩ := HY.out.at_ hltb
            have hyj := cell_keep (HO.out.drewN k) hyj0
            have hyk := cell_keep HO.out hyj0
            clear hxj0 hyj0
            have hlt2 : (j : Int) < (Nb : Int) := by omega
            generalize hpj : ps[j]'hltp = pj at hxj hxk
            generalize hbj : bs[j]'hltb = bj at hyj hyk
            have Hpj := Lib.hid hpj
            have Hbj := Lib.hid hbj
            clear hpj hbj
            by_cases hI : isP m pj bj
            · have HIp := Lib.hid hI
              have fin : ∀ q, Hid (CkrP w1 m ps bs (iv ((j : Int) + 1)) (w1.drewN q)) := fun q => Lib.hid (by
                refine ⟨j + 1, by rw [HNp.out]; omega, by simp, fun i h1 h2 hij => ?_, q, rfl⟩
                by_cases e : i = j
                · subst e; rw [Hpj.out, Hbj.out]; exact HIp.out
                · exact Hal.out i h1 h2 (by omega))
              rcases hI with ⟨rfl, a1, a2⟩ | ⟨a0, a1, rfl⟩
              · have b1 : decide ((0 : Int) ≤ bj) = true := by simpa using a1
                have b2 : decide (bj ≤ (31 : Int)) = true := by simpa using a2
                go_wp2
                go_quiet (fail)
                go_wp2
                go_roundw
                case rel => exact (fin _).out
                case measure => simp [intOf]; omega
              · have b0 : (pj == (-1 : Int)) = false := by rw [beq_eq_false_iff_ne]; omega
                have b1 : decide ((0 : Int) ≤ pj) = true := by simpa using a0
                have b2 : decide (pj ≤ (14 : Int) + 16 * (m : Int)) = true := by simpa using a1
                go_wp2
                go_quiet (fail)
                go_wp2
                go_roundw
                case rel => exact (fin _).out
                case measure => simp [intOf]; omega
            · have fin : Hid (Ending.returned (iv 10) = Ending.returned (iv C)) := Lib.hid (by
                rw [HC.out, if_neg (by simp), if_neg]
                intro h
                have := h j hltp hltb
                rw [Hpj.out, Hbj.out] at this
                exact hI this)
              by_cases a0 : pj = -1
              · subst a0
                by_cases a1 : 0 ≤ bj
                · have b1 : decide ((0 : Int) ≤ bj) = true := by simpa using a1
                  have b2 : decide (bj ≤ (31 : Int)) = false := by
                    rw [decide_eq_false_iff_not]
                    intro a2
                    exact hI (.inl ⟨rfl, a1, a2⟩)
                  clear hI
                  go_wp2
                  go_quiet (fail)
                  go_wp2
                  go_ret
                  exact ⟨fin.out, HO.out.drewN _⟩
                · have b1 : decide ((0 : Int) ≤ bj) = false := by simpa using a1
                  clear hI
                  go_wp2
                  go_quiet (fail)
                  go_wp2
                  go_ret
                  exact ⟨fin.out, HO.out.drewN _⟩
              · have b0 : (pj == (-1 : Int)) = false := by rw [beq_eq_false_iff_ne]; omega
                by_cases a1 : 0 ≤ pj
                · have b1 : decide ((0 : Int) ≤ pj) = true := by simpa using a1
                  by_cases a2 : pj ≤ 14 + 16 * (m : Int)
                  · have b2 : decide (pj ≤ (14 : Int) + 16 * (m : Int)) = true := by simpa using a2
                    have b3 : (bj == (0 : Int)) = false := by
                      rw [beq_eq_false_iff_ne]
                      intro a3
                      exact hI (.inr ⟨a1, a2, a3⟩)
                    clear hI
                    go_wp2
                    go_quiet (fail)
                    go_wp2
                    go_ret
                    exact ⟨fin.out, HO.out.drewN _⟩
                  · have b2 : decide (pj ≤ (14 : Int) + 16 * (m : Int)) = false := by simpa using a2
                    clear hI
                    go_wp2
                    go_quiet (fail)
                    go_wp2
                    go_ret
                    exact ⟨fin.out, HO.out.drewN _⟩
                · have b1 : decide ((0 : Int) ≤ pj) = false := by simpa using a1
                  clear hI
                  go_wp2
                  go_quiet (fail)
                  go_wp2
                  go_ret
                  exact ⟨fin.out, HO.out.drewN _⟩
          · obtain rfl : j = Nb := by omega
            have hlt2 : decide (j < j) = false := by simp
            go_wp2
            go_ret
            refine ⟨?_, HO.out.drewN _⟩
            rw [HC.out, if_neg (by simp), if_pos]
            · rfl
            intro i hi hb2
            exact Hal.out i hi hb2 (by rw [HNp.out] at hi; omega)
      · subst g1
        obtain rfl : C = 1 := by rw [HC.out, if_pos (.inr g2)]
        have k3 : ((Nb : Int) != (Np : Int)) = true := by simp; omega
        clear HC
        go_enter Try.func16, Try.ntmps16
        go_wp2_with fail
        refine (HH.out).mono ?_
        rintro e w2 ⟨rfl, rfl⟩
        go_wp2
        go_quiet (fail)
        go_wp2
        go_ret
        exact ⟨rfl, HO.out.drewN _⟩
    · obtain rfl : C = 1 := by rw [HC.out, if_pos (.inl g1)]
      have k3 : ((Np : Int) != (P : Int)) = true := by simp; omega
      clear HC
      go_enter Try.func16, Try.ntmps16
      go_wp2_with fail
      refine (HH.out).mono ?_
      rintro e w2 ⟨rfl, rfl⟩
      go_wp2
      go_quiet (fail)
      go_wp2
      go_ret
      exact ⟨rfl, HO.out.drewN _⟩
  · have e1 : ckC m o ps bs b s = ckH m o b s := by unfold ckC; rw [if_pos h]
    rw [e1]
    clear e1 hx hy
    have hw1a := hw1.symm
    clear hw1
    generalize ckH m o b s = E at *
    have k3 : (E != (0 : Int)) = true := by simpa using h
    go_enter Try.func16, Try.ntmps16
    go_wp2_with fail
    refine (HH.out).mono ?_
    rintro e w2 ⟨rfl, rfl⟩
    go_wp2
    go_ret
    exact ⟨rfl, HO.out⟩

theorem partRef_any (w : World) (m : Int) (o B s i : Nat) (v v' : Value) (P S : Nat) (ho : o ≤ 15) (hP : 2 ^ o = P) (hS : B / P = S) (hS0 : 0 < S) (hB : B ≤ 65535) (hs : s ≤ 32) (hi : i ≤ 65535) :
    Calls Try.prog 33 #[planV m o v v', iv B, iv s, iv i] w fun e w' => e = .returned (iv (((i + s) / S : Nat) : Int)) ∧ Only Nix w w' := by
  have hP2 : P ≤ 32768 := by rw [← hP]; exact Nat.pow_le_pow_right (by decide) ho
  have hP0 : 0 < P := by rw [← hP]; exact Nat.two_pow_pos o
  have hpw : (2 : Int) ^ o = (P : Int) := by rw [pow_cast, hP]
  have hPz : ¬ (P : Int) = 0 := by omega
  have hPz2 : ¬ P = 0 := by omega
  have hd : (B : Int) / (P : Int) = (S : Int) := by rw [← Int.natCast_ediv, hS]
  have hSB : S ≤ B := by rw [← hS]; exact Nat.div_le_self _ _
  have hSz : ¬ (S : Int) = 0 := by omega
  have hSz2 : ¬ S = 0 := by omega
  have hd2 : ((i : Int) + (s : Int)) / (S : Int) = (((i + s) / S : Nat) : Int) := by rw [Int.natCast_ediv, Int.natCast_add]
  have hdl := Nat.div_le_self (i + s) S
  clear hP hS
  generalize (i + s) / S = D at *
  go_enter Try.func33, Try.ntmps33
  go_wp2
  go_ret
  exact ⟨by show Ending.returned (.int .i64 (((i : Int) + (s : Int)) / (S : Int))) = _; rw [hd2], (Only.refl Nix w).alloc _⟩
end Go.Proofs.Ytliemhadgbjjiaa
