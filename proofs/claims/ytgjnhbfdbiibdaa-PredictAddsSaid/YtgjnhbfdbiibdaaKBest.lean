/-
  Best.
-/
import Derived.Test.YtgjnhbfdbiibdaaKFix
namespace Go.Proofs.Ytgjnhbfdbiibdaa
open Go.RowKit

/-- the best of the first ones, and what it leaves -/
def bst (f : Nat → Nat) : Nat → Nat × Nat
  | 0 => (0, 0)
  | k + 1 => if k = 0 ∨ f k < (bst f k).2 then (k, f k) else bst f k
/-- what a fixed order leaves -/
def lf (xs : List Int) (k : Nat) : Nat := mg (resV 4 0 (fx k) xs)
/-- which fixed order is the best one -/
def bestV (xs : List Int) : Nat := if ∀ x ∈ xs, isS x then (bst (lf xs) (min xs.length 5)).1 else 0
theorem resE_fx (xs : List Int) (k : Nat) (hk : k ≤ 4) (hn : k ≤ xs.length) (h : ∀ x ∈ xs, isS x) : resE 4 0 (fx k) xs = 0 := by
  unfold resE
  rw [if_pos (fx_ok k hk), if_neg (by rw [fx_len k hk]; omega), if_pos h]
theorem resV_len (P S : Int) (cs xs : List Int) : (resV P S cs xs).length ≤ xs.length := by
  unfold resV
  split
  · rw [resT_len]; omega
  · simp
theorem lf_bound (xs : List Int) (k : Nat) (hn : xs.length ≤ 1000) : lf xs k ≤ 4503599627370496000 := by
  have h := mg_bound (resV 4 0 (fx k) xs) (resV_bound 4 0 (fx k) xs)
  have h2 := resV_len 4 0 (fx k) xs
  unfold lf
  omega
theorem bst_bound (xs : List Int) (hn : xs.length ≤ 1000) (k : Nat) : (bst (lf xs) k).2 ≤ 4503599627370496000 ∧ (bst (lf xs) k).1 ≤ k := by
  induction k with
  | zero => simp [bst]
  | succ k ih =>
    have := lf_bound xs k hn
    unfold bst
    split
    · exact ⟨this, by simp⟩
    · exact ⟨ih.1, by omega⟩


set_option maxRecDepth 100000 in
set_option maxHeartbeats 4000000 in
theorem best_big {w : World} (A : Option Addr) (n c m : Nat) (xs : List Int) (hxs : ISrc w (.slice A n c) xs) (hn : n ≤ 1000) (h5 : 5 < n) (hm : min n 5 = m) :
    Calls Try.prog 18 #[.slice A n c] w fun e w' => e = .returned (iv (bestV xs : Nat)) ∧ Only Nix w w' := by
  have hxl := hxs.len
  have HX := Lib.hid hxs
  have Hxl := Lib.hid hxl
  have h5i : (5 : Int) < (n : Int) := by omega
  have hm5 : m ≤ 5 := by omega
  have hmn : m ≤ n := by omega
  have Hm := Lib.hid hm
  clear hxs hxl hm
  by_cases hal : ∀ x ∈ xs, isS x
  · have HV : Hid (bestV xs = (bst (lf xs) m).1) := Lib.hid (by unfold bestV; rw [if_pos hal, ← Hxl.out, Hm.out])
    have HAl := Lib.hid hal
    clear hal
    go_enter Try.func18, Try.ntmps18
    go_wp2
    go_loopw [3, 4, 14] (fun s3 s4 s14 wr => ∃ k : Nat, k ≤ m ∧ s14 = iv k ∧ s3 = iv ((bst (lf xs) k).1 : Nat) ∧ s4 = .int .u64 ((bst (lf xs) k).2 : Nat) ∧ Only Nix w wr) (fun _ _ s14 _ => m - (intOf s14).toNat)
    case atStart => exact ⟨0, Nat.zero_le _, rfl, rfl, rfl, Only.refl _ _⟩
    case round =>
      obtain ⟨k, hk, rfl, rfl, rfl, hO⟩ := hrel
      have HO := Lib.hid hO
      clear hO
      by_cases hlt : k < m
      · have hlti : (k : Int) < 5 := by have := Hm.out; omega
        have HF := Lib.hid (fixed_any wr k (by omega))
        have hb := bst_bound xs (by rw [← Hxl.out]; exact hn) k
        have hlb := lf_bound xs k (by rw [← Hxl.out]; exact hn)
        have HB : Hid (bst (lf xs) (k + 1) = if k = 0 ∨ lf xs k < (bst (lf xs) k).2 then (k, lf xs k) else bst (lf xs) k) := Lib.hid rfl
        have HRb := Lib.hid (resV_bound 4 0 (fx k) xs)
        have HRl := Lib.hid (resV_len 4 0 (fx k) xs)
        have HE0 := Lib.hid (resE_fx xs k (by omega) (by rw [← Hxl.out]; omega) HAl.out)
        have HLF : Hid (lf xs k = mg (resV 4 0 (fx k) xs)) := Lib.hid rfl
        generalize bst (lf xs) k = bl at *
        obtain ⟨b, l⟩ := bl
        have hb2 : l ≤ 4503599627370496000 := hb.1
        have HB2 : Hid (b ≤ k) := Lib.hid hb.2
        clear hb
        dsimp only at HB
        go_wp2_with fail
        refine (HF.out).mono ?_
        rintro e w1 ⟨⟨A1, c1, rfl, hI1⟩, o1⟩
        have a1 := (Only.refl Nix w1).alloc (.cells #[iv 4, iv 0, .slice A1 k c1] 24)
        have HO1 := Lib.hid ((HO.out.trans o1).trans a1)
        have HRe := Lib.hid (residual_any 4 0 A1 k c1 (fx k) A n c xs (hI1.nix a1) (HX.out.nix HO1.out) hn)
        clear hI1 o1 HF a1
        go_wp2_with fail
        refine (HRe.out).mono ?_
        rintro e w2 ⟨⟨A2, c2, rfl, hI2⟩, o2⟩
        rw [HE0.out]
        have HMg := Lib.hid (magnitude_any A2 _ c2 (resV 4 0 (fx k) xs) hI2 (by have := HRl.out; have := Hxl.out; omega) HRb.out)
        rw [← HLF.out] at HMg
        have HO2 := Lib.hid (HO1.out.trans o2)
        clear HRe hI2 o2 HRb HRl HE0 HLF
        generalize (resV 4 0 (fx k) xs).length = rl at *
        generalize lf xs k = q at *
        go_wp2_with fail
        refine (HMg.out).mono ?_
        rintro e w3 ⟨rfl, rfl⟩
        by_cases h0 : k = 0 ∨ q < l
        · rw [if_pos h0] at HB
          by_cases hk0 : k = 0
          · subst hk0
            go_wp2
            go_roundw
            case rel => exact ⟨1, by omega, by go_num, by rw [HB.out] <;> rfl, by rw [HB.out] <;> rfl, HO2.out⟩
            case measure => simp [intOf]; omega
          · have hql : q < l := by omega
            have hqli : (q : Int) < (l : Int) := by omega
            have hkd : ((k : Int) == 0) = false := by simp; omega
            go_wp2
            go_roundw
            case rel => exact ⟨k + 1, by omega, by go_num, by rw [HB.out] <;> rfl, by rw [HB.out] <;> rfl, HO2.out⟩
            case measure => simp [intOf]; omega
        · rw [if_neg h0] at HB
          have hql : ¬ q < l := fun h => h0 (.inr h)
          have hk0 : ¬ k = 0 := fun h => h0 (.inl h)
          have hqli : ¬ (q : Int) < (l : Int) := by omega
          have hkd : ((k : Int) == 0) = false := by simp; omega
          clear h0
          go_wp2
          go_roundw
          case rel => exact ⟨k + 1, by omega, by go_num, by rw [HB.out], by rw [HB.out], HO2.out⟩
          case measure => simp [intOf]; omega
      · have hmk : k = m := by omega
        subst hmk
        have hlti : ¬ (k : Int) < 5 := by have := Hm.out; omega
        go_wp2
        go_ret
        exact ⟨by rw [HV.out] <;> rfl, HO.out⟩
  · have HV : Hid (bestV xs = 0) := Lib.hid (if_neg hal)
    have h1 : 0 < n := by
      rw [Hxl.out]
      rcases Nat.eq_zero_or_pos xs.length with h | h
      · exact absurd (fun x hx => by rw [List.length_eq_zero_iff.1 h] at hx; cases hx) hal
      · exact h
    have hE : resE 4 0 (fx 0) xs = 10 := by
      unfold resE
      rw [if_pos (fx_ok 0 (by omega)), if_neg (by rw [fx_len 0 (by omega)]; omega), if_neg hal]
    have HE := Lib.hid hE
    have hV0 : (resV 4 0 (fx 0) xs).length = 0 := by
      unfold resV
      rw [if_neg (by rw [hE]; decide)]
      rfl
    have HV0 := Lib.hid hV0
    clear hE hal hV0
    go_enter Try.func18, Try.ntmps18
    go_wp2
    go_loopw [3, 4, 14] (fun s3 s4 s14 wr => s14 = iv 0 ∧ s3 = iv 0 ∧ s4 = .int .u64 0 ∧ Only Nix w wr) (fun _ _ _ _ => 0)
    case atStart => exact ⟨rfl, rfl, rfl, Only.refl _ _⟩
    case round =>
      obtain ⟨rfl, rfl, rfl, hO⟩ := hrel
      have HO := Lib.hid hO
      clear hO
      have hlti : (0 : Int) < 5 := by omega
      have HF := Lib.hid (fixed_0 wr)
      go_wp2_with fail
      refine (HF.out).mono ?_
      rintro e w1 ⟨⟨A1, c1, rfl, hI1⟩, o1⟩
      have a1 := (Only.refl Nix w1).alloc (.cells #[iv 4, iv 0, .slice A1 0 c1] 24)
      have HO1 := Lib.hid ((HO.out.trans o1).trans a1)
      have HRe := Lib.hid (residual_any 4 0 A1 0 c1 (fx 0) A n c xs (hI1.nix a1) (HX.out.nix HO1.out) hn)
      clear hI1 o1 HF a1
      go_wp2_with fail
      refine (HRe.out).mono ?_
      rintro e w2 ⟨⟨A2, c2, rfl, hI2⟩, o2⟩
      rw [HE.out, HV0.out]
      have HO2 := Lib.hid (HO1.out.trans o2)
      clear HRe hI2 o2
      go_wp2
      go_ret
      exact ⟨by rw [HV.out] <;> rfl, HO2.out⟩

set_option maxRecDepth 100000 in
set_option maxHeartbeats 4000000 in
theorem best_small {w : World} (A : Option Addr) (n c m : Nat) (xs : List Int) (hxs : ISrc w (.slice A n c) xs) (hn : n ≤ 1000) (h5 : n ≤ 5) (hm : min n 5 = m) :
    Calls Try.prog 18 #[.slice A n c] w fun e w' => e = .returned (iv (bestV xs : Nat)) ∧ Only Nix w w' := by
  have hxl := hxs.len
  have HX := Lib.hid hxs
  have Hxl := Lib.hid hxl
  have h5i : (n : Int) ≤ 5 := by omega
  have hm5 : m ≤ 5 := by omega
  have hmn : m ≤ n := by omega
  have Hm := Lib.hid hm
  clear hxs hxl hm
  by_cases hal : ∀ x ∈ xs, isS x
  · have HV : Hid (bestV xs = (bst (lf xs) m).1) := Lib.hid (by unfold bestV; rw [if_pos hal, ← Hxl.out, Hm.out])
    have HAl := Lib.hid hal
    clear hal
    go_enter Try.func18, Try.ntmps18
    go_wp2
    go_loopw [3, 4, 14] (fun s3 s4 s14 wr => ∃ k : Nat, k ≤ m ∧ s14 = iv k ∧ s3 = iv ((bst (lf xs) k).1 : Nat) ∧ s4 = .int .u64 ((bst (lf xs) k).2 : Nat) ∧ Only Nix w wr) (fun _ _ s14 _ => m - (intOf s14).toNat)
    case atStart => exact ⟨0, Nat.zero_le _, rfl, rfl, rfl, Only.refl _ _⟩
    case round =>
      obtain ⟨k, hk, rfl, rfl, rfl, hO⟩ := hrel
      have HO := Lib.hid hO
      clear hO
      by_cases hlt : k < m
      · have hlti : (k : Int) < (n : Int) := by have := Hm.out; omega
        have HF := Lib.hid (fixed_any wr k (by omega))
        have hb := bst_bound xs (by rw [← Hxl.out]; exact hn) k
        have hlb := lf_bound xs k (by rw [← Hxl.out]; exact hn)
        have HB : Hid (bst (lf xs) (k + 1) = if k = 0 ∨ lf xs k < (bst (lf xs) k).2 then (k, lf xs k) else bst (lf xs) k) := Lib.hid rfl
        have HRb := Lib.hid (resV_bound 4 0 (fx k) xs)
        have HRl := Lib.hid (resV_len 4 0 (fx k) xs)
        have HE0 := Lib.hid (resE_fx xs k (by omega) (by rw [← Hxl.out]; omega) HAl.out)
        have HLF : Hid (lf xs k = mg (resV 4 0 (fx k) xs)) := Lib.hid rfl
        generalize bst (lf xs) k = bl at *
        obtain ⟨b, l⟩ := bl
        have hb2 : l ≤ 4503599627370496000 := hb.1
        have HB2 : Hid (b ≤ k) := Lib.hid hb.2
        clear hb
        dsimp only at HB
        go_wp2_with fail
        refine (HF.out).mono ?_
        rintro e w1 ⟨⟨A1, c1, rfl, hI1⟩, o1⟩
        have a1 := (Only.refl Nix w1).alloc (.cells #[iv 4, iv 0, .slice A1 k c1] 24)
        have HO1 := Lib.hid ((HO.out.trans o1).trans a1)
        have HRe := Lib.hid (residual_any 4 0 A1 k c1 (fx k) A n c xs (hI1.nix a1) (HX.out.nix HO1.out) hn)
        clear hI1 o1 HF a1
        go_wp2_with fail
        refine (HRe.out).mono ?_
        rintro e w2 ⟨⟨A2, c2, rfl, hI2⟩, o2⟩
        rw [HE0.out]
        have HMg := Lib.hid (magnitude_any A2 _ c2 (resV 4 0 (fx k) xs) hI2 (by have := HRl.out; have := Hxl.out; omega) HRb.out)
        rw [← HLF.out] at HMg
        have HO2 := Lib.hid (HO1.out.trans o2)
        clear HRe hI2 o2 HRb HRl HE0 HLF
        generalize (resV 4 0 (fx k) xs).length = rl at *
        generalize lf xs k = q at *
        go_wp2_with fail
        refine (HMg.out).mono ?_
        rintro e w3 ⟨rfl, rfl⟩
        by_cases h0 : k = 0 ∨ q < l
        · rw [if_pos h0] at HB
          by_cases hk0 : k = 0
          · subst hk0
            go_wp2
            go_roundw
            case rel => exact ⟨1, by omega, by go_num, by rw [HB.out] <;> rfl, by rw [HB.out] <;> rfl, HO2.out⟩
            case measure => simp [intOf]; omega
          · have hql : q < l := by omega
            have hqli : (q : Int) < (l : Int) := by omega
            have hkd : ((k : Int) == 0) = false := by simp; omega
            go_wp2
            go_roundw
            case rel => exact ⟨k + 1, by omega, by go_num, by rw [HB.out] <;> rfl, by rw [HB.out] <;> rfl, HO2.out⟩
            case measure => simp [intOf]; omega
        · rw [if_neg h0] at HB
          have hql : ¬ q < l := fun h => h0 (.inr h)
          have hk0 : ¬ k = 0 := fun h => h0 (.inl h)
          have hqli : ¬ (q : Int) < (l : Int) := by omega
          have hkd : ((k : Int) == 0) = false := by simp; omega
          clear h0
          go_wp2
          go_roundw
          case rel => exact ⟨k + 1, by omega, by go_num, by rw [HB.out], by rw [HB.out], HO2.out⟩
          case measure => simp [intOf]; omega
      · have hmk : k = m := by omega
        subst hmk
        have hlti : ¬ (k : Int) < (n : Int) := by have := Hm.out; omega
        go_wp2
        go_ret
        exact ⟨by rw [HV.out] <;> rfl, HO.out⟩
  · have HV : Hid (bestV xs = 0) := Lib.hid (if_neg hal)
    have h1 : 0 < n := by
      rw [Hxl.out]
      rcases Nat.eq_zero_or_pos xs.length with h | h
      · exact absurd (fun x hx => by rw [List.length_eq_zero_iff.1 h] at hx; cases hx) hal
      · exact h
    have hE : resE 4 0 (fx 0) xs = 10 := by
      unfold resE
      rw [if_pos (fx_ok 0 (by omega)), if_neg (by rw [fx_len 0 (by omega)]; omega), if_neg hal]
    have HE := Lib.hid hE
    have hV0 : (resV 4 0 (fx 0) xs).length = 0 := by
      unfold resV
      rw [if_neg (by rw [hE]; decide)]
      rfl
    have HV0 := Lib.hid hV0
    clear hE hal hV0
    go_enter Try.func18, Try.ntmps18
    go_wp2
    go_loopw [3, 4, 14] (fun s3 s4 s14 wr => s14 = iv 0 ∧ s3 = iv 0 ∧ s4 = .int .u64 0 ∧ Only Nix w wr) (fun _ _ _ _ => 0)
    case atStart => exact ⟨rfl, rfl, rfl, Only.refl _ _⟩
    case round =>
      obtain ⟨rfl, rfl, rfl, hO⟩ := hrel
      have HO := Lib.hid hO
      clear hO
      have hlti : (0 : Int) < (n : Int) := by omega
      have HF := Lib.hid (fixed_0 wr)
      go_wp2_with fail
      refine (HF.out).mono ?_
      rintro e w1 ⟨⟨A1, c1, rfl, hI1⟩, o1⟩
      have a1 := (Only.refl Nix w1).alloc (.cells #[iv 4, iv 0, .slice A1 0 c1] 24)
      have HO1 := Lib.hid ((HO.out.trans o1).trans a1)
      have HRe := Lib.hid (residual_any 4 0 A1 0 c1 (fx 0) A n c xs (hI1.nix a1) (HX.out.nix HO1.out) hn)
      clear hI1 o1 HF a1
      go_wp2_with fail
      refine (HRe.out).mono ?_
      rintro e w2 ⟨⟨A2, c2, rfl, hI2⟩, o2⟩
      rw [HE.out, HV0.out]
      have HO2 := Lib.hid (HO1.out.trans o2)
      clear HRe hI2 o2
      go_wp2
      go_ret
      exact ⟨by rw [HV.out] <;> rfl, HO2.out⟩

theorem best_any {w : World} (A : Option Addr) (n c : Nat) (xs : List Int) (hxs : ISrc w (.slice A n c) xs) (hn : n ≤ 1000) :
    Calls Try.prog 18 #[.slice A n c] w fun e w' => e = .returned (iv (bestV xs : Nat)) ∧ Only Nix w w' := by
  by_cases h5 : 5 < n
  · exact best_big A n c 5 xs hxs hn h5 (by omega)
  · exact best_small A n c n xs hxs hn (by omega) (by omega)
end Go.Proofs.Ytgjnhbfdbiibdaa
