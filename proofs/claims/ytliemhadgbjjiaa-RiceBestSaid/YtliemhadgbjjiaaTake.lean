/-
  The Reader's Take, Signed, Align, Seek: for every argument, what is answered, and where the Reader stands then.
-/
import Derived.Test.YtliemhadgbjjiaaAhead
namespace Go.Proofs.Ytliemhadgbjjiaa
open Go.RowKit

/-- the number of n bits from bit a on -/
def numAt (bs : List Nat) (a n : Nat) : Nat := val (((bitsOf bs).drop a).take n)
/-- Take's error -/
def takeE (bs : List Nat) (a : Nat) (n : Int) : Int := if n < 0 ∨ 48 < n then 1 else if 8 * (bs.length : Int) - a < n then 11 else 0
/-- Take's number -/
def takeR (bs : List Nat) (a : Nat) (n : Int) : Int := if takeE bs a n = 0 then (numAt bs a n.toNat : Int) else 0
/-- where it stands then -/
def takeA (bs : List Nat) (a : Nat) (n : Int) : Nat := if takeE bs a n = 0 then a + n.toNat else a
/-- Signed's number -/
def signR (bs : List Nat) (a : Nat) (n : Int) : Int :=
  if takeE bs a n = 0 then (if 0 < n ∧ 2 ^ (n.toNat - 1) ≤ numAt bs a n.toNat then (numAt bs a n.toNat : Int) - 2 ^ n.toNat else (numAt bs a n.toNat : Int)) else 0

theorem numAt_lt (bs : List Nat) (a n : Nat) : numAt bs a n < 2 ^ n := by
  have h := val_lt (((bitsOf bs).drop a).take n) (fun x hx => bitsOf_le bs x (List.mem_of_mem_drop (List.mem_of_mem_take hx)))
  exact Nat.lt_of_lt_of_le h (Nat.pow_le_pow_right (by decide) (List.length_take_le _ _))
theorem numAt_lt48 (bs : List Nat) (a n : Nat) (hn : n ≤ 48) : numAt bs a n < 281474976710656 :=
  Nat.lt_of_lt_of_le (numAt_lt bs a n) (pow_le_of hn)
theorem takeE_arg {bs : List Nat} {a : Nat} {n : Int} (h : n < 0 ∨ 48 < n) : takeE bs a n = 1 := by unfold takeE; rw [if_pos h]
theorem takeE_end {bs : List Nat} {a : Nat} {n : Int} (h : ¬ (n < 0 ∨ 48 < n)) (h2 : 8 * (bs.length : Int) - a < n) : takeE bs a n = 11 := by unfold takeE; rw [if_neg h, if_pos h2]
theorem takeE_ok {bs : List Nat} {a : Nat} {n : Int} (h : ¬ (n < 0 ∨ 48 < n)) (h2 : ¬ 8 * (bs.length : Int) - a < n) : takeE bs a n = 0 := by unfold takeE; rw [if_neg h, if_neg h2]

/-- what Take and Signed answer: a number, an error -/
abbrev two (a b : Int) : Ending := .returned (.tuple #[.int .i64 a, .int .i64 b])

section
variable {w : World} {r : Nat} {v : Value} {bs : List Nat} {a : Nat}

set_option maxHeartbeats 400000 in
theorem take_arg (r : Nat) (w : World) (n : Int) (hn : n < 0 ∨ 48 < n) :
    Calls Try.prog 72 #[.pointer (some ⟨r, 0, none⟩), .int .i64 n] w fun e w' => e = two 0 1 ∧ w = w' := by
  go_enter Try.func72, Try.ntmps72
  go_wp2_with fail
  refine (maybe_no _ _ hn).mono ?_
  rintro e w1 ⟨rfl, rfl⟩
  go_wp2
  go_ret2
  exact ⟨rfl, rfl⟩

set_option maxHeartbeats 400000 in
theorem take_end (h : Rd w r v bs a) (n : Int) (hn : ¬ (n < 0 ∨ 48 < n)) (he : 8 * (bs.length : Int) - a < n) :
    Calls Try.prog 72 #[.pointer (some ⟨r, 0, none⟩), .int .i64 n] w fun e w' => e = two 0 11 ∧ ∃ k, w' = w.drewN k := by
  have h0 : 0 ≤ n := by omega
  have h48 : n ≤ 48 := by omega
  clear hn
  go_enter Try.func72, Try.ntmps72
  go_wp2_with fail
  refine (maybe_yes _ _ h0 h48).mono ?_
  rintro e w1 ⟨rfl, rfl⟩
  go_wp2_with fail
  refine (left_any h).mono ?_
  rintro e w1 ⟨rfl, k, rfl⟩
  go_wp2
  go_ret2
  exact ⟨rfl, k, rfl⟩

set_option maxHeartbeats 400000 in
theorem take_ok (h : Rd w r v bs a) (n : Nat) (h48 : n ≤ 48) (ha : a + n ≤ 8 * bs.length) :
    Calls Try.prog 72 #[.pointer (some ⟨r, 0, none⟩), .int .i64 (n : Int)] w fun e w' => e = two (numAt bs a n : Int) 0 ∧ Rd w' r v bs (a + n) ∧ Only (Just r) w w' := by
  have hsm := h.small
  have hnl : ¬ (8 * (bs.length : Int) - a < (n : Int)) := by omega
  go_enter Try.func72, Try.ntmps72
  go_wp2_with fail
  refine (maybe_yes _ _ (by omega) (by omega)).mono ?_
  rintro e w1 ⟨rfl, rfl⟩
  go_wp2_with fail
  refine (left_any h).mono ?_
  rintro e w1 ⟨rfl, k, rfl⟩
  go_wp2_with fail
  refine (ahead_any (h.drewN k) n h48 ha).mono ?_
  rintro e w1 ⟨rfl, ho⟩
  have h1 := (h.drewN k).nix ho
  have hc := h1.cell0
  have hf := h1.box.frozen 0
  go_wp2_with fail
  refine (forth_any _ a (n : Int) _ hc hf (by omega) (by omega)).mono ?_
  rintro e w2 ⟨rfl, rfl⟩
  go_wp2
  go_ret2
  refine ⟨rfl, ?_, ?_⟩
  · have := h1.to (a + n) ha
    simpa using this
  · exact ((((Only.refl (Just r) w).drewN k).trans ho.nix).setCell (p := ⟨r, 0, none⟩) (.inl rfl) _)

theorem take_any (h : Rd w r v bs a) (n : Int) :
    Calls Try.prog 72 #[.pointer (some ⟨r, 0, none⟩), .int .i64 n] w fun e w' => e = two (takeR bs a n) (takeE bs a n) ∧ Rd w' r v bs (takeA bs a n) ∧ Only (Just r) w w' := by
  by_cases hn : n < 0 ∨ 48 < n
  · have e1 : takeE bs a n = 1 := takeE_arg hn
    have e2 : takeR bs a n = 0 := by unfold takeR; rw [e1]; rfl
    have e3 : takeA bs a n = a := by unfold takeA; rw [e1]; rfl
    rw [e1, e2, e3]
    exact (take_arg r w n hn).mono fun e w' ⟨he, hw⟩ => ⟨he, hw ▸ h, hw ▸ Only.refl _ _⟩
  · by_cases hl : 8 * (bs.length : Int) - a < n
    · have e1 : takeE bs a n = 11 := takeE_end hn hl
      have e2 : takeR bs a n = 0 := by unfold takeR; rw [e1]; rfl
      have e3 : takeA bs a n = a := by unfold takeA; rw [e1]; rfl
      rw [e1, e2, e3]
      exact (take_end h n hn hl).mono fun e w' ⟨he, k, hw⟩ => ⟨he, hw ▸ h.drewN k, hw ▸ (Only.refl _ _).drewN k⟩
    · have e1 : takeE bs a n = 0 := takeE_ok hn hl
      obtain ⟨m, rfl⟩ := Int.eq_ofNat_of_zero_le (show 0 ≤ n by omega)
      have e2 : takeR bs a (m : Int) = (numAt bs a m : Int) := by unfold takeR; rw [e1, if_pos rfl, Int.toNat_natCast]
      have e3 : takeA bs a (m : Int) = a + m := by unfold takeA; rw [e1, if_pos rfl, Int.toNat_natCast]
      rw [e1, e2, e3]
      exact take_ok h m (by omega) (by omega)

theorem takeR_pos {n : Int} (h : takeE bs a n = 0) : ∃ m : Nat, n = (m : Int) ∧ m ≤ 48 ∧ a + m ≤ 8 * bs.length ∧ takeR bs a n = (numAt bs a m : Int) ∧ takeA bs a n = a + m := by
  have hn : ¬ (n < 0 ∨ 48 < n) := fun hn => by rw [takeE_arg hn] at h; cases h
  have hl : ¬ (8 * (bs.length : Int) - a < n) := fun hl => by rw [takeE_end hn hl] at h; cases h
  obtain ⟨m, rfl⟩ := Int.eq_ofNat_of_zero_le (show 0 ≤ n by omega)
  exact ⟨m, rfl, by omega, by omega, by unfold takeR; rw [h, if_pos rfl, Int.toNat_natCast], by unfold takeA; rw [h, if_pos rfl, Int.toNat_natCast]⟩

set_option maxHeartbeats 1000000 in
theorem signed_any (h : Rd w r v bs a) (n : Int) :
    Calls Try.prog 77 #[.pointer (some ⟨r, 0, none⟩), .int .i64 n] w fun e w' => e = two (signR bs a n) (takeE bs a n) ∧ Rd w' r v bs (takeA bs a n) ∧ Only (Just r) w w' := by
  by_cases hE : takeE bs a n = 0
  · obtain ⟨m, rfl, hm, hma, e2, e3⟩ := takeR_pos hE
    have hlt := numAt_lt48 bs a m hm
    have hlt2 := numAt_lt bs a m
    have es : signR bs a (m : Int) = if 0 < m ∧ 2 ^ (m - 1) ≤ numAt bs a m then (numAt bs a m : Int) - 2 ^ m else (numAt bs a m : Int) := by
      unfold signR; rw [if_pos hE, Int.toNat_natCast]; simp
    rw [e3, hE]
    have ht := take_ok h m hm hma
    clear hE e2 e3
    generalize signR bs a (m : Int) = S at *
    generalize numAt bs a m = V at *
    have Ht := Lib.hid ht
    clear ht h
    rcases Nat.eq_zero_or_pos m with rfl | hp
    · obtain rfl : S = (V : Int) := by rw [es, if_neg (by omega)]
      clear es
      go_enter Try.func77, Try.ntmps77
      go_wp2_with fail
      refine (Ht.out).mono ?_
      rintro e w1 ⟨rfl, hR, ho⟩
      go_wp2
      go_ret2
      exact ⟨rfl, hR, ho⟩
    · obtain ⟨m, rfl⟩ : ∃ k, m = k + 1 := ⟨m - 1, by omega⟩
      rw [Nat.add_sub_cancel] at es
      have hpl : 0 < 2 ^ m := Nat.two_pow_pos m
      have hps : 2 ^ (m + 1) = 2 ^ m * 2 := Nat.pow_succ 2 m
      have hdv : (V : Int) / 2 ^ m = ((V / 2 ^ m : Nat) : Int) := by rw [pow_cast, ← Int.natCast_ediv]
      by_cases hc : 2 ^ m ≤ V
      · have hq : V / 2 ^ m = 1 := Nat.div_eq_of_lt_le (by omega) (by omega)
        have hb : ((V : Int) / 2 ^ m == 1) = true := by rw [hdv, hq]; rfl
        have HS : Hid (S = wrap64 ((V : Int) - wrap64 (2 ^ (m + 1)))) := by
          have h1 := pow_le_of hm
          rw [es, if_pos ⟨hp, hc⟩, w64_pow _ (by omega), pow_cast]
          generalize 2 ^ (m + 1) = P at *
          exact (w64 _ (by omega) (by omega)).symm
        clear es hdv hq hps hc hlt2 hpl
        go_enter Try.func77, Try.ntmps77
        go_wp2_with fail
        refine (Ht.out).mono ?_
        rintro e w1 ⟨rfl, hR, ho⟩
        go_wp2
        go_ret2
        exact ⟨ret2 HS.out.symm rfl, hR, ho⟩
      · have hq : V / 2 ^ m = 0 := Nat.div_eq_of_lt (by omega)
        have hb : ((V : Int) / 2 ^ m == 1) = false := by rw [hdv, hq]; rfl
        obtain rfl : S = (V : Int) := by rw [es, if_neg (by omega)]
        clear es hdv hq hps hc hlt2 hpl
        go_enter Try.func77, Try.ntmps77
        go_wp2_with fail
        refine (Ht.out).mono ?_
        rintro e w1 ⟨rfl, hR, ho⟩
        go_wp2
        go_ret2
        exact ⟨rfl, hR, ho⟩
  · have es : signR bs a n = 0 := by unfold signR; rw [if_neg hE]
    have e2 : takeR bs a n = 0 := by unfold takeR; rw [if_neg hE]
    have ht := take_any h n
    rw [es]
    rw [e2] at ht
    clear es e2
    have hb : (takeE bs a n != 0) = true := by simpa using hE
    have hb2 : (takeE bs a n == 0) = false := by simpa using hE
    generalize takeE bs a n = E at *
    have Ht := Lib.hid ht
    clear ht hE
    go_enter Try.func77, Try.ntmps77
    go_wp2_with fail
    refine (Ht.out).mono ?_
    rintro e w1 ⟨rfl, hR, ho⟩
    go_wp2
    go_ret2
    exact ⟨rfl, hR, ho⟩

/-- Seek's answers -/
def seekE (bs : List Nat) (at_ : Int) : Int := if at_ < 0 ∨ 8 * (bs.length : Int) < at_ then 10 else 0
def seekA (bs : List Nat) (a : Nat) (at_ : Int) : Nat := if at_ < 0 ∨ 8 * (bs.length : Int) < at_ then a else at_.toNat

set_option maxHeartbeats 400000 in
theorem seek_any (h : Rd w r v bs a) (t : Int) :
    Calls Try.prog 27 #[.pointer (some ⟨r, 0, none⟩), .int .i64 t] w fun e w' => e = .returned (.int .i64 (seekE bs t)) ∧ Rd w' r v bs (seekA bs a t) ∧ Only (Just r) w w' := by
  have hsm := h.small
  obtain ⟨A, c, hv⟩ := h.slice
  have hc1 := h.cell1
  rw [hv] at hc1
  have Hv := Lib.hid hv
  clear hv
  by_cases h0 : t < 0
  · have hd : decide (t < 0) = true := by simpa using h0
    have e1 : seekE bs t = 10 := by unfold seekE; rw [if_pos (.inl h0)]
    have e2 : seekA bs a t = a := by unfold seekA; rw [if_pos (.inl h0)]
    rw [e1, e2]
    clear e1 e2
    go_enter Try.func27, Try.ntmps27
    go_wp2
    go_ret
    exact ⟨rfl, h, Only.refl _ _⟩
  · have hd : decide (t < 0) = false := by simpa using h0
    by_cases h1 : 8 * (bs.length : Int) < t
    · have e1 : seekE bs t = 10 := by unfold seekE; rw [if_pos (.inr h1)]
      have e2 : seekA bs a t = a := by unfold seekA; rw [if_pos (.inr h1)]
      rw [e1, e2]
      clear e1 e2
      go_enter Try.func27, Try.ntmps27
      go_wp2_with fail
      refine (size_any _ _ _ _ _ hc1 hsm).mono ?_
      rintro e w1 ⟨rfl, rfl⟩
      go_wp2
      go_ret
      exact ⟨rfl, h, Only.refl _ _⟩
    · obtain ⟨m, rfl⟩ := Int.eq_ofNat_of_zero_le (show 0 ≤ t by omega)
      have e1 : seekE bs (m : Int) = 0 := by unfold seekE; rw [if_neg (by omega)]
      have e2 : seekA bs a (m : Int) = m := by unfold seekA; rw [if_neg (by omega), Int.toNat_natCast]
      rw [e1, e2]
      clear e1 e2
      have hf := h.box.frozen 0
      have hc0 := h.cell0
      go_enter Try.func27, Try.ntmps27
      go_wp2_with fail
      refine (size_any _ _ _ _ _ hc1 hsm).mono ?_
      rintro e w1 ⟨rfl, rfl⟩
      go_wp2
      go_ret
      exact ⟨rfl, h.to m (by omega), (Only.refl (Just r) w).setCell (p := ⟨r, 0, none⟩) (.inl rfl) _⟩
end
end Go.Proofs.Ytliemhadgbjjiaa
