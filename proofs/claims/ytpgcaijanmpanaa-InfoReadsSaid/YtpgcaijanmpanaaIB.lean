/-
  Comparing; the sum of all blocks; a size that is told.
-/
import Derived.Test.YtpgcaijanmpanaaIA
namespace Go.Proofs.Ytpgcaijanmpanaa
open Go.RowKit

/-- numbers that frames have -/
def Ok (l : List (Int × Int)) : Prop := l.length ≤ 101 ∧ ∀ p ∈ l, 0 ≤ p.1 ∧ p.1 ≤ 65536 ∧ 0 ≤ p.2 ∧ p.2 ≤ 1073741824
def toldV (n : Int) : Int := if n > 16777215 then 0 else n
theorem told_any (w : World) (n : Int) : Calls Try.prog 33 #[iv n] w fun e w' => e = .returned (iv (toldV n)) ∧ w = w' := by
  by_cases h : n > 16777215
  · have HE : Hid (toldV n = 0) := Lib.hid (if_pos h)
    go_enter Try.func33, Try.ntmps33
    go_wp2
    go_ret
    exact ⟨by rw [HE.out] <;> rfl, rfl⟩
  · have HE : Hid (toldV n = n) := Lib.hid (if_neg h)
    go_enter Try.func33, Try.ntmps33
    go_wp2
    go_ret
    exact ⟨by rw [HE.out] <;> rfl, rfl⟩
theorem frame_any (w : World) (n : Int) : Calls Try.prog 27 #[iv n] w fun e w' => e = .returned (iv (toldV n)) ∧ w = w' := by
  by_cases h : n > 16777215
  · have HE : Hid (toldV n = 0) := Lib.hid (if_pos h)
    go_enter Try.func27, Try.ntmps27
    go_wp2
    go_ret
    exact ⟨by rw [HE.out] <;> rfl, rfl⟩
  · have HE : Hid (toldV n = n) := Lib.hid (if_neg h)
    go_enter Try.func27, Try.ntmps27
    go_wp2
    go_ret
    exact ⟨by rw [HE.out] <;> rfl, rfl⟩
theorem nan_any (w : World) (n : Int) : Calls Try.prog 40 #[iv n] w fun e w' => e = .returned (.bool false) ∧ w = w' := by
  go_enter Try.func40, Try.ntmps40
  go_wp2
  go_ret
  exact ⟨rfl, rfl⟩
def cmpV (a b : Int) : Int := if a < b then -1 else if b < a then 1 else 0
theorem cmp_any (w : World) (a b : Int) : Calls Try.prog 29 #[iv a, iv b] w fun e w' => e = .returned (iv (cmpV a b)) ∧ w = w' := by
  have hN := Lib.hid (nan_any w)
  rcases Int.lt_trichotomy a b with h | h | h
  · have HE : Hid (cmpV a b = -1) := Lib.hid (if_pos h)
    go_enter Try.func29, Try.ntmps29
    go_wp2_with (refine (hN.out _).mono ?_; rintro e w' ⟨rfl, rfl⟩)
    go_ret
    exact ⟨by rw [HE.out] <;> rfl, rfl⟩
  · subst h
    have HE : Hid (cmpV a a = 0) := Lib.hid (by unfold cmpV; rw [if_neg (by omega), if_neg (by omega)])
    go_enter Try.func29, Try.ntmps29
    go_wp2_with (refine (hN.out _).mono ?_; rintro e w' ⟨rfl, rfl⟩)
    go_ret
    exact ⟨by rw [HE.out] <;> rfl, rfl⟩
  · have HE : Hid (cmpV a b = 1) := Lib.hid (by unfold cmpV; rw [if_neg (by omega), if_pos h])
    go_enter Try.func29, Try.ntmps29
    go_wp2_with (refine (hN.out _).mono ?_; rintro e w' ⟨rfl, rfl⟩)
    go_ret
    exact ⟨by rw [HE.out] <;> rfl, rfl⟩
theorem byBlock_any (w : World) (p q : Int × Int) : Calls Try.prog 28 #[pv p, pv q] w fun e w' => e = .returned (iv (cmpV p.1 q.1)) ∧ Only Nix w w' := by
  have hC : Hid (∀ u, Calls Try.prog 29 #[iv p.1, iv q.1] u fun e w' => e = .returned (iv (cmpV p.1 q.1)) ∧ u = w') := Lib.hid (fun u => cmp_any u p.1 q.1)
  have HO := Lib.hid (((Only.refl Nix w).alloc (.cells #[iv p.1, iv p.2] 49)).alloc (.cells #[iv q.1, iv q.2] 49))
  go_enter Try.func28, Try.ntmps28
  go_wp2_with (refine (hC.out _).mono ?_; rintro e w' ⟨rfl, rfl⟩)
  go_ret
  exact ⟨rfl, HO.out⟩
theorem byBytes_any (w : World) (p q : Int × Int) : Calls Try.prog 30 #[pv p, pv q] w fun e w' => e = .returned (iv (cmpV p.2 q.2)) ∧ Only Nix w w' := by
  have hC : Hid (∀ u, Calls Try.prog 29 #[iv p.2, iv q.2] u fun e w' => e = .returned (iv (cmpV p.2 q.2)) ∧ u = w') := Lib.hid (fun u => cmp_any u p.2 q.2)
  have HO := Lib.hid (((Only.refl Nix w).alloc (.cells #[iv p.1, iv p.2] 49)).alloc (.cells #[iv q.1, iv q.2] 49))
  go_enter Try.func30, Try.ntmps30
  go_wp2_with (refine (hC.out _).mono ?_; rintro e w' ⟨rfl, rfl⟩)
  go_ret
  exact ⟨rfl, HO.out⟩
def sumB (l : List (Int × Int)) : Int := (l.map (·.1)).sum
theorem sumB_snoc (l : List (Int × Int)) (p : Int × Int) : sumB (l ++ [p]) = sumB l + p.1 := by simp [sumB]
theorem sumB_bd : ∀ (l : List (Int × Int)), (∀ p ∈ l, 0 ≤ p.1 ∧ p.1 ≤ 65536) → 0 ≤ sumB l ∧ sumB l ≤ 65536 * (l.length : Int)
  | [], _ => by simp [sumB]
  | p :: l, h => by
    have h1 := sumB_bd l (fun q hq => h q (List.mem_cons_of_mem _ hq))
    have h2 := h p (List.mem_cons_self ..)
    simp only [sumB, List.map_cons, List.sum_cons, List.length_cons] at *
    omega
theorem Ok.take {l : List (Int × Int)} (h : Ok l) (k : Nat) : Ok (l.take k) := ⟨by have := h.1; rw [List.length_take]; omega, fun p hp => h.2 p (List.mem_of_mem_take hp)⟩
theorem Ok.sum {l : List (Int × Int)} (h : Ok l) : 0 ≤ sumB l ∧ sumB l ≤ 6619136 := by
  have := sumB_bd l (fun p hp => ⟨(h.2 p hp).1, (h.2 p hp).2.1⟩)
  have := h.1
  omega
def SamRel (w : World) (l : List (Int × Int)) (s2 s7 : Value) (wr : World) : Prop := ∃ k : Nat, k ≤ l.length ∧ s7 = iv k ∧ s2 = iv (sumB (l.take k)) ∧ Only Nix w wr
set_option maxHeartbeats 1000000 in
theorem samples_any {w : World} {v : Value} {l : List (Int × Int)} (hv : PSrc w v l) (hl : Ok l) : Calls Try.prog 34 #[v] w fun e w' => e = .returned (iv (sumB l)) ∧ Only Nix w w' := by
  obtain ⟨A, c, rfl⟩ := hv.slice
  have hsm := hv.small
  have HV := Lib.hid hv
  have HL := Lib.hid hl
  clear hv hl
  go_enter Try.func34, Try.ntmps34
  go_wp2
  go_loopw [2, 7] (fun s2 s7 wr => SamRel w l s2 s7 wr) (fun _ s7 _ => l.length - (intOf s7).toNat)
  case atStart => exact ⟨0, Nat.zero_le _, rfl, rfl, Only.refl _ _⟩
  case round =>
    obtain ⟨k, hk, rfl, rfl, ho⟩ := hrel
    have Ho := Lib.hid ho
    by_cases hlt : k < l.length
    · obtain ⟨ad, rfl, hx, hy⟩ := (HV.out.nix ho).at_ hlt
      have hlt2 : (k : Int) < (l.length : Int) := by omega
      have HS := Lib.hid (show sumB (l.take (k + 1)) = sumB (l.take k) + l[k].1 by rw [List.take_succ_eq_append_getElem hlt, sumB_snoc])
      have b1 := (HL.out.take k).sum
      have b2 := (HL.out.take (k + 1)).sum
      rw [HS.out] at b2
      generalize l[k] = p at *
      generalize sumB (l.take k) = S at *
      clear ho
      go_wp2
      go_roundw
      case rel => exact ⟨k + 1, by omega, by go_num, by rw [HS.out], Ho.out.alloc _⟩
      case measure => simp [intOf]; omega
    · have hlt2 : decide (k < l.length) = false := by simp; omega
      have hlt3 : ¬ ((k : Int) < (l.length : Int)) := by omega
      go_wp2
      go_ret
      exact ⟨by rw [List.take_of_length_le (by omega)] <;> rfl, Ho.out⟩
end Go.Proofs.Ytpgcaijanmpanaa
