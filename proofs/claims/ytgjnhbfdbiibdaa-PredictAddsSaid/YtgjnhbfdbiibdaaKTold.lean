/-
  The document's Told; may.
-/
import Derived.Test.YtgjnhbfdbiibdaaKRes
namespace Go.Proofs.Ytgjnhbfdbiibdaa
open Go.RowKit

theorem floor_is (a : Int) (U : Nat) (hU : 0 < U) : (if a < Int.tdiv a U * U then Int.tdiv a U - 1 else Int.tdiv a U) = a / (U : Int) := by
  have h1 := Int.mul_tdiv_add_tmod a U
  have hU' : (0 : Int) < (U : Int) := by omega
  have key : ∀ q r : Int, a = U * q + r → 0 ≤ r → r < U → a / (U : Int) = q := by
    intro q r h hr0 hr1
    rw [h, Int.mul_comm, Int.add_comm, Int.add_mul_ediv_right _ _ (by omega), Int.ediv_eq_zero_of_lt hr0 hr1]
    omega
  have hm : Int.tmod a U < U ∧ -(U : Int) < Int.tmod a U := by
    by_cases ha : 0 ≤ a
    · have h2 := Int.tmod_lt_of_pos a hU'
      have h3 := Int.tmod_nonneg (U : Int) ha
      omega
    · have h2 : Int.tmod (-a) U < U := Int.tmod_lt_of_pos (-a) hU'
      have h3 := Int.tmod_nonneg (U : Int) (show 0 ≤ -a by omega)
      rw [Int.neg_tmod] at h2 h3
      omega
  generalize Int.tdiv a U = q at *
  generalize Int.tmod a U = r at *
  rw [Int.mul_comm q]
  split
  · refine (key (q - 1) (r + U) ?_ (by omega) (by omega)).symm
    rw [Int.mul_sub]
    omega
  · exact (key q r (by omega) (by omega) (by omega)).symm
theorem tdiv_bound (a : Int) (U : Nat) (_ : 0 < U) (h : -2251799813685248 ≤ a ∧ a ≤ 2251799813685248) : (-2251799813685248 ≤ Int.tdiv a U ∧ Int.tdiv a U ≤ 2251799813685248) ∧ -2251799813685248 ≤ Int.tdiv a U * U ∧ Int.tdiv a U * U ≤ 2251799813685248 := by
  have h1 : (Int.tdiv a U).natAbs ≤ a.natAbs := by rw [Int.natAbs_tdiv]; exact Nat.div_le_self _ _
  have h2 : (Int.tdiv a U * U).natAbs ≤ a.natAbs := by
    rw [Int.natAbs_mul, Int.natAbs_tdiv]
    exact Nat.div_mul_le_self _ _
  omega

set_option maxHeartbeats 1000000 in
theorem told_walk {w : World} (P : Int) (s : Nat) (Ac : Option Addr) (nc cc : Nat) (cs : List Int) (A : Option Addr) (n c : Nat) (xs : List Int) (hcs : ISrc w (.slice Ac nc cc) cs) (hxs : ISrc w (.slice A n c) xs) (hn : nc ≤ n) (h32 : nc ≤ 32) (hs : s ≤ 15)
    (hcb : ∀ x ∈ cs, -16384 ≤ x ∧ x ≤ 16384) (hxb : ∀ j, j < n → isS (xs.getD j 0)) :
    Calls Try.prog 24 #[linV P (s : Int) (.slice Ac nc cc), .slice A n c] w fun e w' => e = .returned (iv (tld s cs xs n)) ∧ Only Nix w w' := by
  have hcl := hcs.len
  have hxl := hxs.len
  have hsx := hxs.small
  rw [← hxl] at hsx
  have a0 := (Only.refl Nix w).alloc (.cells #[iv P, iv (s : Int), .slice Ac nc cc] 30)
  have B0 := Box.new w 30 #[iv P, iv (s : Int), .slice Ac nc cc]
  obtain ⟨Wa, hWa⟩ : ∃ Wa, w.alloc (.cells #[iv P, iv (s : Int), .slice Ac nc cc] 30) = Wa := ⟨_, rfl⟩
  rw [hWa] at a0 B0
  have HB := Lib.hid B0
  have HA := Lib.hid a0
  have HC := Lib.hid (hcs.nix a0)
  have HX := Lib.hid (hxs.nix a0)
  have Hcl := Lib.hid hcl
  have Hxl := Lib.hid hxl
  clear hcs hxs a0 B0 hcl hxl
  go_enter Try.func24, Try.ntmps24
  go_wp2
  go_loopw [5, 6] (fun s5 s6 wr => ∃ i : Nat, i ≤ nc ∧ s6 = iv i ∧ s5 = iv (dotL cs xs n (List.range i)) ∧ Only Nix Wa wr) (fun _ s6 _ => nc - (intOf s6).toNat)
  case atStart => exact ⟨0, Nat.zero_le _, rfl, rfl, Only.refl _ _⟩
  case round =>
    obtain ⟨i, hi, rfl, rfl, hO⟩ := hrel
    have q1 := (HB.out.only hO (fun e => e)).cell 1
    have q2 := (HB.out.only hO (fun e => e)).cell 2
    simp only [List.getElem?_toArray, List.getElem?_cons_zero, List.getElem?_cons_succ] at q1 q2
    have HO := Lib.hid hO
    clear hO
    by_cases hlt : i < nc
    · have hltc : i < cs.length := by rw [← Hcl.out]; exact hlt
      obtain ⟨adc, rfl, qc⟩ := (HC.out.nix HO.out).at_ hltc
      have hxq : n - 1 - i < xs.length := by rw [← Hxl.out]; omega
      obtain ⟨adx, rfl, qx⟩ := (HX.out.nix HO.out).at_ hxq
      have hcv := hcb _ (List.getElem_mem hltc)
      have hxv := hxb (n - 1 - i) (by omega)
      rw [getD_of hxq] at hxv
      unfold isS at hxv
      have hm := mul_bound hcv (x := xs[n - 1 - i]) (by omega)
      have hdb := dotL_bound cs xs n hcb hxb (by omega) (List.range i)
      rw [List.length_range] at hdb
      have hst := dotL_snoc cs xs n (List.range i) i
      rw [← List.range_succ, getD_of hltc, getD_of hxq] at hst
      have HS := Lib.hid hst
      obtain ⟨q, hq⟩ : ∃ q, n - 1 - i = q := ⟨_, rfl⟩
      have hqn : q < n := by omega
      have hqi : (n : Int) - 1 - (i : Int) = (q : Int) := by omega
      have hqni : (q : Int) < (n : Int) := by omega
      have hlti : (i : Int) < (nc : Int) := by omega
      have hw1 : IntKind.i64.wrap ((n : Int) - 1) = (n : Int) - 1 := w64k _ (by omega) (by omega)
      have hw2 : IntKind.i64.wrap (q : Int) = (q : Int) := w64k _ (by omega) (by omega)
      generalize dotL cs xs n (List.range i) = dl at *
      generalize cs[i] = cv at *
      clear hst hltc
      have hqx : xs[n - 1 - i] = xs.getD q 0 := by rw [← getD_of hxq, hq]
      rw [hqx] at qx hxv hm HS
      rw [hq] at qx
      clear hqx hxq
      generalize xs.getD q 0 = y at *
      obtain ⟨pr, hpr⟩ : ∃ pr, cv * y = pr := ⟨_, rfl⟩
      rw [hpr] at hm HS
      have hw3 : IntKind.i64.wrap pr = pr := w64k _ (by omega) (by omega)
      have hw4 : IntKind.i64.wrap (dl + pr) = dl + pr := w64k _ (by omega) (by omega)
      clear hq hcb hxb hdb
      go_wp2_with fail
      go_quiet (fail)
      go_wp2
      go_roundw
      case rel => exact ⟨i + 1, hlt, by go_num, by rw [HS.out], HO.out.drewN _⟩
      case measure => simp [intOf]; omega
    · obtain rfl : i = nc := by omega
      have hdb := dot_bound cs xs n hcb hxb (by rw [← Hcl.out]; exact hn) (by rw [← Hcl.out]; exact h32)
      have hd : dotL cs xs n (List.range i) = dot cs xs n := by unfold dot; rw [Hcl.out]
      rw [hd]
      have hK1 := Nat.two_pow_pos s
      have hK2 := pow_le_of hs
      have hpw : (2 : Int) ^ s = ((2 ^ s : Nat) : Int) := pow_cast s
      have hfl := floor_is (dot cs xs n) (2 ^ s) hK1
      have htb := tdiv_bound (dot cs xs n) (2 ^ s) hK1 hdb
      have HT : Hid (tld s cs xs n = dot cs xs n / ((2 ^ s : Nat) : Int)) := Lib.hid (by unfold tld; rw [hpw])
      generalize dot cs xs n = a at *
      generalize (2 : Nat) ^ s = U at *
      have hU32 : U ≤ 32768 := hK2
      clear hcb hxb hd hK2
      by_cases k1 : a < Int.tdiv a U * U
      · rw [if_pos k1] at hfl
        have HF := Lib.hid hfl
        clear hfl
        go_wp2
        go_ret
        exact ⟨by rw [HT.out, ← HF.out] <;> rfl, HA.out.trans HO.out⟩
      · rw [if_neg k1] at hfl
        have HF := Lib.hid hfl
        clear hfl
        go_wp2
        go_ret
        exact ⟨by rw [HT.out, ← HF.out] <;> rfl, HA.out.trans HO.out⟩
end Go.Proofs.Ytgjnhbfdbiibdaa
