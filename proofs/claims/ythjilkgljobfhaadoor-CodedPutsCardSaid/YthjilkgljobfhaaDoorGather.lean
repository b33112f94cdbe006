/-
  gather, walked.
-/
import Derived.Test.YthjilkgljobfhaaDoorBegun
import Derived.WalkMore
namespace Go.Proofs.YthjilkgljobfhaaDoor
open Go.RowKit

theorem i64_xor_nat (a b : Nat) (ha : a < 2 ^ 62) (hb : b < 2 ^ 62) : bits .xor .i64 (a : Int) (b : Int) = ((a ^^^ b : Nat) : Int) := by
  have ha' : a % 2 ^ IntKind.i64.bits = a := Nat.mod_eq_of_lt (Nat.lt_of_lt_of_le ha (Nat.pow_le_pow_right (by decide) (by decide)))
  have hb' : b % 2 ^ IntKind.i64.bits = b := Nat.mod_eq_of_lt (Nat.lt_of_lt_of_le hb (Nat.pow_le_pow_right (by decide) (by decide)))
  have hl : a ^^^ b < 2 ^ 62 := Nat.xor_lt_two_pow ha hb
  simp only [bits, BitVec.ofInt_natCast, BitVec.toNat_xor, BitVec.toNat_ofNat, ha', hb']
  exact wraps_i64 _ (Int.natCast_nonneg _) (by exact_mod_cast hl)
theorem first_xor : ∀ x, x < 256 → begunOf x ≠ 0 → x ^^^ mrk.getD (begunOf x - 1) 0 = x - mrk.getD (begunOf x - 1) 0 ∧ x - mrk.getD (begunOf x - 1) 0 < 128 ∧ mrk.getD (begunOf x - 1) 0 < 256 := by decide +kernel
theorem and63 (v : Nat) (hv : v < 2 ^ 62) : bits .and .i64 (v : Int) 63 = ((v % 64 : Nat) : Int) := by
  have := i64_and_nat v 63 hv (by decide)
  rw [show (63 : Nat) = 2 ^ 6 - 1 from rfl, Nat.and_two_pow_sub_one_eq_mod] at this
  exact this
theorem or64 (a y : Nat) (ha : a < 2 ^ 50) (hy : y < 64) : bits .or .i64 ((a : Int) * 64) (y : Int) = ((a * 64 + y : Nat) : Int) := by
  have := i64_join (a * 64) y 6 (by omega) hy (by omega) (Nat.mul_mod_left _ _)
  rw [Int.natCast_mul] at this
  exact this
/-- where gathering stands: t bytes are gone through, N is what is gathered -/
def GatP (w : World) (bs : List Nat) (n0 S : Nat) (s4 s5 s6 : Value) (wr : World) : Prop :=
  s5 = iv 0 ∧ ∃ t N : Nat, 1 ≤ t ∧ t ≤ S ∧ t ≤ bs.length ∧ N < 128 * 64 ^ (t - 1) ∧ s4 = iv (N : Nat) ∧ s6 = iv (t : Nat) ∧ gat n0 (S - 1) (bs.drop 1) = gat N (S - t) (bs.drop t) ∧ Only Nix w wr
theorem gat_step (N k y : Nat) (r : List Nat) : gat N (k + 1) (y :: r) = if y / 64 = 2 then gat (N * 64 + y % 64) k r else (N, 12) := rfl
theorem pow64 (j : Nat) (h : j ≤ 6) : 64 ^ j ≤ 64 ^ 6 := Nat.pow_le_pow_right (by decide) h

set_option maxHeartbeats 1000000 in
theorem gather_any {w : World} (hL : Laid w) (A : Option Addr) (c : Nat) (bs : List Nat) (x : Nat) (h : Src w (.slice A bs.length c) bs) (hx : bs[0]? = some x) (hb : begunOf x ≠ 0) :
    Calls Tryd.prog 17 #[.slice A bs.length c, iv (begunOf x : Nat)] w
      fun e w' => e = .returned (.tuple #[iv ((gat (x - mrk.getD (begunOf x - 1) 0) (begunOf x - 1) (bs.drop 1)).1 : Nat), iv ((gat (x - mrk.getD (begunOf x - 1) 0) (begunOf x - 1) (bs.drop 1)).2 : Nat)]) ∧ Only Nix w w' := by
  have hb7 := begun_le x
  obtain ⟨h0, hx0⟩ := List.getElem?_eq_some_iff.1 hx
  have hx256 : x < 256 := by rw [← hx0]; exact h.lt _ (List.getElem_mem h0)
  obtain ⟨fx1, fx2, fx3⟩ := first_xor x hx256 hb
  have hmk := hL.mark (begunOf x - 1) (by omega)
  obtain ⟨ad, rfl, hc0⟩ := h.at_ h0
  rw [hx0] at hc0
  have hxr : bits .xor .i64 (x : Int) (mrk.getD (begunOf x - 1) 0 : Nat) = ((x - mrk.getD (begunOf x - 1) 0 : Nat) : Int) := by
    rw [i64_xor_nat _ _ (by omega) (by omega), fx1]
  have hsm := h.small
  have Hs := Lib.hid h
  have hS1 : 1 ≤ begunOf x := by omega
  generalize begunOf x = S at *
  generalize mrk.getD (S - 1) 0 = M at *
  have hc0' : w.cell? ad = some (byt x) := by rw [Addr.add_zero'] at hc0; exact hc0
  clear hx hx0 fx1 hL hc0 h
  generalize hN0 : x - M = N0 at *
  clear hN0
  have e1 : ((S : Int) - 1).toNat = S - 1 := by omega
  have e2 : 0 ≤ (S : Int) - 1 := by omega
  have e3 : (S : Int) - 1 < 7 := by omega
  unfold byt at hc0'
  generalize hG : gat N0 (S - 1) (bs.drop 1) = G at *
  have HG := Lib.hid hG
  clear hG
  go_enter Tryd.func17, Tryd.ntmps17
  go_wp2
  go_step3
  go_wp2
  go_quiet (fail)
  go_wp2
  go_step3
  go_wp2
  go_loopw [4, 5, 6] (fun s4 s5 s6 wr => GatP w bs N0 S s4 s5 s6 wr) (fun _ _ s6 _ => S - (intOf s6).toNat)
  case atStart => exact ⟨rfl, 1, N0, by omega, hS1, by omega, by simpa using fx2, rfl, rfl, rfl, (Only.refl _ _).drewN _⟩
  case round =>
    obtain ⟨rfl, t, N, ht1, htS, htb, hN, rfl, rfl, hg, ho⟩ := hrel
    rw [HG.out] at hg
    have Hg := Lib.hid hg
    have hp6 := pow64 (t - 1) (by omega)
    have hN2 : N < 8796093022208 := by have : 128 * 64 ^ (t - 1) ≤ 128 * 64 ^ 6 := Nat.mul_le_mul_left _ hp6; omega
    clear hg hp6
    by_cases hlt : t < S
    · by_cases hend : t = bs.length
      · have hg1 : G = (N, 11) := by
          rw [Hg.out, List.drop_of_length_le (by omega), show S - t = (S - t - 1) + 1 from by omega, gat]
        have Hg1 := Lib.hid hg1
        clear hg1
        have hlt2 : (t : Int) < (S : Int) := by omega
        have hq : ((t : Int) == (bs.length : Int)) = true := by simp; omega
        clear hN hN2
        have Hend := Lib.hid hend
        clear hend
        go_wp2
        rw [Exit.noGoto_ret]
        go_ret2
        exact ⟨ret2 (by rw [Hg1.out]) (by rw [Hg1.out]; rfl), ho⟩
      · have hltb : t < bs.length := by omega
        have hS := Hs.out.nix ho
        obtain ⟨ad', hadr, hy⟩ := hS.at_ hltb
        injection hadr with hadr
        subst hadr
        have hy256 := hS.lt _ (List.getElem_mem hltb)
        have hdrop : bs.drop t = bs[t] :: bs.drop (t + 1) := List.drop_eq_getElem_cons hltb
        have hg1 : G = if bs[t] / 64 = 2 then gat (N * 64 + bs[t] % 64) (S - (t + 1)) (bs.drop (t + 1)) else (N, 12) := by
          rw [Hg.out, hdrop, show S - t = (S - (t + 1)) + 1 from by omega, gat_step]
        have Hg1 := Lib.hid hg1
        clear hg1 hdrop hS
        unfold byt at hy
        generalize bs[t] = y at *
        have hlt2 : (t : Int) < (S : Int) := by omega
        have hq : ((t : Int) == (bs.length : Int)) = false := by simp; omega
        by_cases hy2 : y / 64 = 2
        · have hg2 : gat N0 (S - 1) (bs.drop 1) = gat (N * 64 + y % 64) (S - (t + 1)) (bs.drop (t + 1)) := by
            rw [HG.out, Hg1.out, if_pos hy2]
          have Hg2 := Lib.hid hg2
          have hd : ((y : Int) / 64 != 2) = false := by simp; omega
          have ha := and63 y (by omega)
          have hor : Hid (bits .or .i64 ((N : Int) * 64) ((y : Int) % 64) = ((N * 64 + y % 64 : Nat) : Int)) := or64 N (y % 64) (by omega) (Nat.mod_lt _ (by decide))
          have hN3 : N * 64 + y % 64 < 128 * 64 ^ (t + 1 - 1) := by
            have e : 64 ^ (t + 1 - 1) = 64 ^ (t - 1) * 64 := by rw [← Nat.pow_succ, show t + 1 - 1 = (t - 1) + 1 from by omega]
            rw [e]; generalize 64 ^ (t - 1) = P at *; omega
          have HN3 := Lib.hid hN3
          clear hg2 hN3 hN hy2 hend Hg Hg1
          go_wp2
          go_roundw
          case rel => exact ⟨rfl, t + 1, _, by omega, by omega, by omega, HN3.out, congrArg (Value.int .i64) hor.out, by go_num, Hg2.out, ho⟩
          case measure => simp [intOf]; omega
        · have hg2 : G = (N, 12) := by rw [Hg1.out, if_neg hy2]
          have Hg2 := Lib.hid hg2
          have hd : ((y : Int) / 64 != 2) = true := by simp; omega
          clear hg2 hN hy2 hend Hg Hg1
          go_wp2
          rw [Exit.noGoto_ret]
          go_ret2
          exact ⟨ret2 (by rw [Hg2.out]) (by rw [Hg2.out]; rfl), ho⟩
    · have hg1 : G = (N, 0) := by
        rw [Hg.out, show S - t = 0 from by omega, gat]
      have Hg1 := Lib.hid hg1
      have hlt2 : decide ((t : Int) < (S : Int)) = false := by simp; omega
      have hlt3 : decide (t < S) = false := by simp; omega
      clear hg1 hN Hg
      go_wp2
      rw [Exit.noGoto_ret]
      go_ret2
      exact ⟨ret2 (by rw [Hg1.out]) (by rw [Hg1.out]; rfl), ho⟩
end Go.Proofs.YthjilkgljobfhaaDoor
