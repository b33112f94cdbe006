/-
  SumsShift, walked; the document's Shift.
-/
import Derived.Test.YtmnnjbamphoghaaDoorAwaken
namespace Go.Proofs.YtmnnjbamphoghaaDoor
open Go.RowKit
theorem nous_succ' (n r k v : Nat) : nous n r (k + 1) v = nou n r (nous n r k v) := nous_nou n r k v

def RefShift8 (s m : Nat) (s0 s9 : Value) : Prop := ∃ k : Nat, k ≤ m ∧ s9 = iv k ∧ s0 = iv (nous 8 7 k s : Nat)

set_option maxHeartbeats 400000 in
theorem refShift_8 (s m : Nat) (w : World) (hs : s < 256) (hm : m ≤ 3000) :
    Calls Tryd.prog 16 #[iv (s : Int), iv 8, iv 7, iv (m : Int)] w fun e w' => e = .returned (iv (nous 8 7 m s : Nat)) ∧ w = w' := by
  go_enter Tryd.func16, Tryd.ntmps16
  go_wp2
  go_loop [0, 9] (fun s0 s9 => RefShift8 s m s0 s9) (fun _ s9 => m - (intOf s9).toNat)
  case atStart => exact ⟨0, Nat.zero_le _, rfl, rfl⟩
  case round =>
    obtain ⟨k, hk, rfl, rfl⟩ := hrel
    by_cases hlt : k < m
    · have hlt2 : (k : Int) < (m : Int) := by omega
      have hx : nous 8 7 k s < 256 := nous_lt (n := 8) (by decide) k s hs
      have hst : Hid (nous 8 7 (k + 1) s = if 2 ^ 8 ≤ 2 * nous 8 7 k s + 0 then (2 * nous 8 7 k s + 0 - 2 ^ 8) ^^^ 7 else 2 * nous 8 7 k s + 0) := by
        show _ = _
        rw [nous_succ', ← ref_step (n := 8) (by decide) hx (by decide), Nat.xor_zero]
      generalize nous 8 7 k s = x at *
      by_cases hp : 256 ≤ 2 * x
      · have hp2 : (256 : Int) ≤ 2 * (x : Int) := by omega
        have hq : Hid (bits .xor .i64 (2 * (x : Int) - 256) 7 = ((nous 8 7 (k + 1) s : Nat) : Int)) := by
          show _ = _
          rw [hst.out, if_pos (by omega), show 2 * (x : Int) - 256 = ((2 * x + 0 - 2 ^ 8 : Nat) : Int) from by omega]
          exact i64_xor_nat _ 7 (by omega) (by decide)
        go_wp2
        go_round
        case rel => exact ⟨k + 1, by omega, by go_num, congrArg iv hq.out⟩
        case measure => simp [intOf]; omega
      · have hp2 : ¬ (256 : Int) ≤ 2 * (x : Int) := by omega
        go_wp2
        go_round
        case rel => exact ⟨k + 1, by omega, by go_num, by rw [hst.out, if_neg (by omega)]; go_num⟩
        case measure => simp [intOf]; omega
    · obtain rfl : k = m := by omega
      go_wp2
      go_ret
      exact ⟨rfl, rfl⟩

def RefShift16 (s m : Nat) (s0 s9 : Value) : Prop := ∃ k : Nat, k ≤ m ∧ s9 = iv k ∧ s0 = iv (nous 16 32773 k s : Nat)

set_option maxHeartbeats 400000 in
theorem refShift_16 (s m : Nat) (w : World) (hs : s < 65536) (hm : m ≤ 3000) :
    Calls Tryd.prog 16 #[iv (s : Int), iv 16, iv 32773, iv (m : Int)] w fun e w' => e = .returned (iv (nous 16 32773 m s : Nat)) ∧ w = w' := by
  go_enter Tryd.func16, Tryd.ntmps16
  go_wp2
  go_loop [0, 9] (fun s0 s9 => RefShift16 s m s0 s9) (fun _ s9 => m - (intOf s9).toNat)
  case atStart => exact ⟨0, Nat.zero_le _, rfl, rfl⟩
  case round =>
    obtain ⟨k, hk, rfl, rfl⟩ := hrel
    by_cases hlt : k < m
    · have hlt2 : (k : Int) < (m : Int) := by omega
      have hx : nous 16 32773 k s < 65536 := nous_lt (n := 16) (by decide) k s hs
      have hst : Hid (nous 16 32773 (k + 1) s = if 2 ^ 16 ≤ 2 * nous 16 32773 k s + 0 then (2 * nous 16 32773 k s + 0 - 2 ^ 16) ^^^ 32773 else 2 * nous 16 32773 k s + 0) := by
        show _ = _
        rw [nous_succ', ← ref_step (n := 16) (by decide) hx (by decide), Nat.xor_zero]
      generalize nous 16 32773 k s = x at *
      by_cases hp : 65536 ≤ 2 * x
      · have hp2 : (65536 : Int) ≤ 2 * (x : Int) := by omega
        have hq : Hid (bits .xor .i64 (2 * (x : Int) - 65536) 32773 = ((nous 16 32773 (k + 1) s : Nat) : Int)) := by
          show _ = _
          rw [hst.out, if_pos (by omega), show 2 * (x : Int) - 65536 = ((2 * x + 0 - 2 ^ 16 : Nat) : Int) from by omega]
          exact i64_xor_nat _ 32773 (by omega) (by decide)
        go_wp2
        go_round
        case rel => exact ⟨k + 1, by omega, by go_num, congrArg iv hq.out⟩
        case measure => simp [intOf]; omega
      · have hp2 : ¬ (65536 : Int) ≤ 2 * (x : Int) := by omega
        go_wp2
        go_round
        case rel => exact ⟨k + 1, by omega, by go_num, by rw [hst.out, if_neg (by omega)]; go_num⟩
        case measure => simp [intOf]; omega
    · obtain rfl : k = m := by omega
      go_wp2
      go_ret
      exact ⟨rfl, rfl⟩

set_option maxHeartbeats 1000000 in
theorem sumsShift_walk (s m : Int) (w : World) (hL : Laid w) :
    Calls Tryd.prog 4 #[iv s, iv m] w fun e w' => e = .returned (.bool true) ∧ Only Nix w w' := by
  have HL := Lib.hid hL
  clear hL
  by_cases h0 : 3000 < m ∧ m ≤ 1048576
  · obtain ⟨h1, h2⟩ := h0
    have d1 : decide (3000 < m) = true := by simpa using h1
    have d2 : decide (m ≤ 1048576) = true := by simpa using h2
    go_enter Tryd.func4, Tryd.ntmps4
    go_wp2_with fail
    refine (awake_any HL.out).mono ?_
    rintro e w1 ⟨rfl, ho1⟩
    go_wp2
    go_ret
    exact ⟨rfl, ho1⟩
  · by_cases hbad : m < 0 ∨ 1048576 < m ∨ s < 0 ∨ 65535 < s
    · have HB := Lib.hid hbad
      have H0 := Lib.hid h0
      clear h0
      have key : ∀ (a b c d : Bool) (f : Bool), decide (m < 0) = a → decide (1048576 < m) = b → decide (s < 0) = c → decide (65535 < s) = d → decide (3000 < m) = f → (f = true → decide (m ≤ 1048576) = false) → (a || (b || (c || d))) = true →
          Calls Tryd.prog 4 #[iv s, iv m] w fun e w' => e = .returned (.bool true) ∧ Only Nix w w' := by
        intro a b c d f ha hb hc hd hf hg habcd
        have C8 := fun (w : World) (hL : Laid w) => Shift8_no hL s m (by omega)
        have C16 := fun (w : World) (hL : Laid w) => Shift16_no hL s m (by omega)
        have K8 := Lib.hid C8
        have K16 := Lib.hid C16
        clear C8 C16 hbad
        cases f
        all_goals (try (have hg' := hg rfl))
        all_goals clear hg
        all_goals (cases a)
        all_goals (try (cases b))
        all_goals (try (cases c))
        all_goals (try (cases d))
        all_goals (first | (exfalso; revert habcd; decide) | skip)
        all_goals clear habcd
        all_goals
          go_enter Tryd.func4, Tryd.ntmps4
          go_wp2_with fail
          refine (K8.out _ HL.out).mono ?_
          rintro e w1 ⟨rfl, ho1⟩
          have HL1 := Lib.hid (HL.out.nix ho1)
          go_wp2_with fail
          refine (K16.out _ HL1.out).mono ?_
          rintro e w2 ⟨rfl, ho2⟩
          have HL2 := Lib.hid (HL1.out.nix ho2)
          go_wp2_with fail
          refine (awake_any HL2.out).mono ?_
          rintro e w3 ⟨rfl, ho3⟩
          go_wp2
          go_ret
          exact ⟨rfl, (ho1.trans ho2).trans ho3⟩
      refine key _ _ _ _ _ rfl rfl rfl rfl rfl (fun hf => ?_) ?_
      · have := H0.out
        simp at hf ⊢
        omega
      · have := HB.out
        simp
        omega
    · obtain ⟨s', rfl⟩ := Int.eq_ofNat_of_zero_le (show 0 ≤ s by omega)
      obtain ⟨m', rfl⟩ := Int.eq_ofNat_of_zero_le (show 0 ≤ m by omega)
      have hs : s' < 65536 := by omega
      have hm : m' ≤ 3000 := by omega
      clear h0 hbad
      have d0 : decide (3000 < (m' : Int)) = false := by simp; omega
      have d1 : decide ((m' : Int) < 0) = false := by simp
      have d2 : decide (1048576 < (m' : Int)) = false := by simp; omega
      have d3 : decide ((s' : Int) < 0) = false := by simp
      have d4 : decide (65535 < (s' : Int)) = false := by simp; omega
      by_cases h255 : 255 < s'
      · have d5 : 255 < (s' : Int) := by omega
        go_enter Tryd.func4, Tryd.ntmps4
        go_wp2_with fail
        refine (Shift8_no HL.out (s' : Int) (m' : Int) (by omega)).mono ?_
        rintro e w1 ⟨rfl, ho1⟩
        have HL1 := Lib.hid (HL.out.nix ho1)
        go_wp2_with fail
        refine (Shift16_yes HL1.out s' m' hs (by omega)).mono ?_
        rintro e w2 ⟨rfl, ho2⟩
        have HL2 := Lib.hid (HL1.out.nix ho2)
        go_wp2_with fail
        refine (refShift_16 s' m' _ hs hm).mono ?_
        rintro e w2' ⟨rfl, rfl⟩
        have hne : (((nous 16 32773 m' s' : Nat) : Int) != ((nous 16 32773 m' s' : Nat) : Int)) = false := by simp
        go_wp2_with fail
        refine (awake_any HL2.out).mono ?_
        rintro e w3 ⟨rfl, ho3⟩
        go_wp2
        go_ret
        exact ⟨rfl, (ho1.trans ho2).trans ho3⟩
      · have d5 : ¬ 255 < (s' : Int) := by omega
        go_enter Tryd.func4, Tryd.ntmps4
        go_wp2_with fail
        refine (Shift8_yes HL.out s' m' (by omega) (by omega)).mono ?_
        rintro e w1 ⟨rfl, ho1⟩
        have HL1 := Lib.hid (HL.out.nix ho1)
        go_wp2_with fail
        refine (Shift16_yes HL1.out s' m' hs (by omega)).mono ?_
        rintro e w2 ⟨rfl, ho2⟩
        have HL2 := Lib.hid (HL1.out.nix ho2)
        go_wp2_with fail
        refine (refShift_16 s' m' _ hs hm).mono ?_
        rintro e w2' ⟨rfl, rfl⟩
        have hne : (((nous 16 32773 m' s' : Nat) : Int) != ((nous 16 32773 m' s' : Nat) : Int)) = false := by simp
        go_wp2_with fail
        refine (refShift_8 s' m' _ (by omega) hm).mono ?_
        rintro e w2' ⟨rfl, rfl⟩
        have heq : (((nous 8 7 m' s' : Nat) : Int) == ((nous 8 7 m' s' : Nat) : Int)) = true := by simp
        go_wp2_with fail
        refine (awake_any HL2.out).mono ?_
        rintro e w3 ⟨rfl, ho3⟩
        go_wp2
        go_ret
        exact ⟨rfl, (ho1.trans ho2).trans ho3⟩
end Go.Proofs.YtmnnjbamphoghaaDoor
