/-
  The divisors of 8 and of 16 bits: nought, times, shift, and the calls that shift.
-/
import Derived.Test.YtmnnjbamphoghaaDoorMem
import Derived.Test.YtmnnjbamphoghaaDoorInts
import Derived.Test.YtmnnjbamphoghaaDoorCrc
import Derived.Outline
namespace Go.Proofs.YtmnnjbamphoghaaDoor
open Go.RowKit

/-- an int -/
abbrev iv (n : Int) : Value := .int .i64 n
theorem i64_xor_nat (a b : Nat) (ha : a < 2 ^ 62) (hb : b < 2 ^ 62) : bits .xor .i64 (a : Int) (b : Int) = ((a ^^^ b : Nat) : Int) := by
  have ha' : a % 2 ^ IntKind.i64.bits = a := Nat.mod_eq_of_lt (Nat.lt_of_lt_of_le ha (Nat.pow_le_pow_right (by decide) (by decide)))
  have hb' : b % 2 ^ IntKind.i64.bits = b := Nat.mod_eq_of_lt (Nat.lt_of_lt_of_le hb (Nat.pow_le_pow_right (by decide) (by decide)))
  have hl : a ^^^ b < 2 ^ 62 := Nat.xor_lt_two_pow ha hb
  simp only [bits, BitVec.ofInt_natCast, BitVec.toNat_xor, BitVec.toNat_ofNat, ha', hb']
  exact wraps_i64 _ (Int.natCast_nonneg _) (by exact_mod_cast hl)
theorem i64_and_one (a : Nat) (h : a < 2 ^ 62) : bits .and .i64 (a : Int) 1 = ((a % 2 : Nat) : Int) := by
  have := i64_and_nat a 1 h (by decide)
  rw [Nat.and_one_is_mod] at this
  exact this
theorem testBit_mod (b i : Nat) : b.testBit i = decide (b / 2 ^ i % 2 = 1) := by
  rw [Nat.testBit, Nat.shiftRight_eq_div_pow, Nat.and_comm, Nat.and_one_is_mod]
  have := Nat.mod_lt (b / 2 ^ i) (show 0 < 2 by decide)
  by_cases h : b / 2 ^ i % 2 = 1
  · rw [h]; rfl
  · rw [show b / 2 ^ i % 2 = 0 from by omega]; rfl
theorem nou_hi {n r v : Nat} (hn : 1 ≤ n) (hr : r < 2 ^ n) (hv : v < 2 ^ n) (h : 2 ^ n ≤ 2 * v) : nou n r v = (2 * v) ^^^ (2 ^ n ||| r) := by
  unfold nou
  rw [testBit_top hn hv, if_pos (by simpa using h)]
  have e1 : 2 * v = 2 ^ n ^^^ (2 * v % 2 ^ n) := by
    have := xor_add_high 1 (2 * v % 2 ^ n) n (Nat.mod_lt _ (Nat.two_pow_pos n))
    rw [Nat.one_mul] at this
    rw [this, Nat.mod_eq_sub_mod h, Nat.mod_eq_of_lt (by omega)]
    omega
  have e2 : 2 ^ n ||| r = 2 ^ n ^^^ r := by
    have a := Nat.two_pow_add_eq_or_of_lt hr 1
    have b := xor_add_high 1 r n hr
    rw [Nat.mul_one] at a
    rw [Nat.one_mul] at b
    omega
  rw [e2]
  generalize 2 * v % 2 ^ n = x at *
  rw [e1, xor4, Nat.xor_self, Nat.zero_xor]
/-- a struct of a divisor lies here -/
abbrev dv (n r : Int) : Value := .agg #[iv n, iv r]

/-! The divisor of 8 bits. -/
set_option maxHeartbeats 400000 in
theorem nought_8 (v : Nat) (w : World) (hv : v < 256) :
    Calls Tryd.prog 36 #[dv 8 7, iv (v : Int)] w fun e w' => e = .returned (iv (nou 8 7 v : Nat)) ∧ Only Nix w w' := by
  by_cases h : 128 ≤ v
  · have hd : (((v : Int) * 2 / 256) == 1) = true := by rw [beq_iff_eq]; omega
    have hr : Hid (bits .xor .i64 ((v : Int) * 2) 263 = ((nou 8 7 v : Nat) : Int)) := by
      show _ = _
      rw [nou_hi (by decide) (by decide) hv (by omega), show ((v : Int) * 2) = ((2 * v : Nat) : Int) from by omega]
      exact i64_xor_nat _ 263 (by omega) (by decide)
    go_enter Tryd.func36, Tryd.ntmps36
    go_wp2
    go_quiet (fail)
    go_wp2
    go_ret
    exact ⟨ret1 hr.out, ((Only.refl _ _).alloc _).drewN _⟩
  · have hd : (((v : Int) * 2 / 256) == 1) = false := by rw [beq_eq_false_iff_ne]; omega
    have hr : Hid (((v : Int) * 2) = ((nou 8 7 v : Nat) : Int)) := by
      show _ = _
      rw [nou_small (n := 8) 7 (by decide) (by omega)]; omega
    go_enter Tryd.func36, Tryd.ntmps36
    go_wp2
    go_ret
    exact ⟨ret1 hr.out, (Only.refl _ _).alloc _⟩

def Times8 (w : World) (a b : Nat) (s7 s8 : Value) (wr : World) : Prop :=
  ∃ k v : Nat, k ≤ 8 ∧ s8 = iv ((k : Int) - 1) ∧ s7 = iv (v : Int) ∧ v < 256 ∧ ml 8 7 a b k ^^^ nous 8 7 k v = ml 8 7 a b 8 ∧ Only Nix w wr ∧ Box wr w.heap.size 44 #[iv 8, iv 7]

set_option maxHeartbeats 1000000 in
theorem times_8 (a b : Nat) (w : World) (ha : a < 256) (hb : b < 256) :
    Calls Tryd.prog 31 #[dv 8 7, iv (a : Int), iv (b : Int)] w fun e w' => e = .returned (iv (ml 8 7 a b 8 : Nat)) ∧ Only Nix w w' := by
  go_enter Tryd.func31, Tryd.ntmps31
  go_wp2
  go_loopw [7, 8] (fun s7 s8 wr => Times8 w a b s7 s8 wr) (fun _ s8 _ => (intOf s8 + 1).toNat)
  case atStart => exact ⟨8, 0, by omega, rfl, rfl, by omega, by rw [nous_zero, Nat.xor_zero], (Only.refl _ _).alloc _, Box.new _ _ _⟩
  case round =>
    obtain ⟨k, v, hk, rfl, rfl, hv, he, ho, hB⟩ := hrel
    by_cases hk0 : k = 0
    · subst hk0
      have hge : ¬ (0 : Int) ≤ ((0 : Nat) : Int) - 1 := by omega
      have HE := Lib.hid he
      clear he
      go_wp2
      go_ret
      refine ⟨ret1 ?_, ho⟩
      have he := HE.out
      rw [show ml 8 7 a b 0 = 0 from rfl, show nous 8 7 0 v = v from rfl, Nat.zero_xor] at he
      rw [he]
    · obtain ⟨j, rfl⟩ : ∃ j, k = j + 1 := ⟨k - 1, by omega⟩
      have hj : ((j + 1 : Nat) : Int) - 1 = (j : Int) := by omega
      rw [hj]
      have hge : (0 : Int) ≤ (j : Int) := by omega
      have c0 := hB.cell 0
      have c1 := hB.cell 1
      simp at c0 c1
      have HE := Lib.hid he
      have HB := Lib.hid hB
      have HJ := Lib.hid hj
      clear he hB hj
      have e5 : (b : Int) / 2 ^ j = ((b / 2 ^ j : Nat) : Int) := by rw [pow_cast, ← Int.natCast_ediv]
      have hle : b / 2 ^ j ≤ b := Nat.div_le_self _ _
      have hbit : Hid (bits .and .i64 ((b : Int) / 2 ^ j) 1 = ((b / 2 ^ j % 2 : Nat) : Int)) := by
        show _ = _
        rw [e5, i64_and_one _ (by omega)]
      clear e5
      by_cases ht : b / 2 ^ j % 2 = 1
      · have hd : (bits .and .i64 ((b : Int) / 2 ^ j) 1 == 1) = true := by rw [hbit.out, ht]; decide
        go_wp2_with (go_at_call 36; refine (nought_8 v _ hv).mono ?_; rintro e w' ⟨rfl, ho'⟩)
        go_roundw
        case rel =>
          have hn := nou_lt (n := 8) (r := 7) (by decide) v
          refine ⟨j, nou 8 7 v ^^^ a, by omega, by have := HJ.out; go_num, ?_, Nat.xor_lt_two_pow (n := 8) hn ha, ?_, ho.trans ho', HB.out.only ho' (fun e => e)⟩
          · exact congrArg iv (i64_xor_nat _ _ (by omega) (by omega))
          · rw [← HE.out, nous_xor]
            simp only [ml, nous]
            rw [testBit_mod, if_pos (by simpa using ht), Nat.xor_assoc, Nat.xor_comm (nous 8 7 j a)]
        case measure => have := HJ.out; first | (simp [intOf]; done) | (simp [intOf]; omega)
      · have h0 : b / 2 ^ j % 2 = 0 := by omega
        have hd : (bits .and .i64 ((b : Int) / 2 ^ j) 1 == 1) = false := by rw [hbit.out, h0]; decide
        go_wp2_with (go_at_call 36; refine (nought_8 v _ hv).mono ?_; rintro e w' ⟨rfl, ho'⟩)
        go_roundw
        case rel =>
          have hn := nou_lt (n := 8) (r := 7) (by decide) v
          refine ⟨j, nou 8 7 v, by omega, by have := HJ.out; go_num, rfl, hn, ?_, ho.trans ho', HB.out.only ho' (fun e => e)⟩
          rw [← HE.out]
          simp only [ml, nous]
          rw [testBit_mod, if_neg (by simpa using ht), Nat.xor_zero]
        case measure => have := HJ.out; first | (simp [intOf]; done) | (simp [intOf]; omega)

def Shift8 (w : World) (T : Nat) (s1 s2 s8 : Value) (wr : World) : Prop :=
  ∃ s m k : Nat, s1 = iv (s : Int) ∧ s2 = iv (m : Int) ∧ s8 = iv (nous 8 7 k 1 : Nat) ∧ s < 256 ∧ m ≤ 1048576 ∧ nous 8 7 (k * m) s = T ∧ Only Nix w wr ∧ Box wr w.heap.size 44 #[iv 8, iv 7]

set_option maxHeartbeats 1000000 in
theorem shift_8 (s m : Nat) (w : World) (hs : s < 256) (hm : m ≤ 1048576) :
    Calls Tryd.prog 25 #[dv 8 7, iv (s : Int), iv (m : Int)] w fun e w' => e = .returned (.tuple #[iv (nous 8 7 m s : Nat), iv 0]) ∧ Only Nix w w' := by
  have d1 : decide ((s : Int) < 0) = false := by simp
  have d2 : decide (256 ≤ (s : Int)) = false := by simp; omega
  have d3 : decide ((m : Int) < 0) = false := by simp
  have d4 : decide (1048576 < (m : Int)) = false := by simp; omega
  go_enter Tryd.func25, Tryd.ntmps25
  go_wp2
  clear d1 d2 d3 d4
  go_loopw [1, 2, 8] (fun s1 s2 s8 wr => Shift8 w (nous 8 7 m s) s1 s2 s8 wr) (fun _ s2 _ _ => (intOf s2).toNat)
  case atStart => exact ⟨s, m, 1, rfl, rfl, rfl, hs, hm, by rw [Nat.one_mul], (Only.refl _ _).alloc _, Box.new _ _ _⟩
  case round =>
    clear hs hm
    obtain ⟨s', m', k, rfl, rfl, rfl, hs, hm, he, ho, hB⟩ := hrel
    have HE := Lib.hid he
    clear he
    by_cases hm0 : m' = 0
    · subst hm0
      have hge : ¬ (0 : Int) < ((0 : Nat) : Int) := by omega
      go_wp2
      go_ret2
      refine ⟨ret2 ?_ rfl, ho⟩
      have he := HE.out
      rw [Nat.mul_zero] at he
      rw [← he]; rfl
    · have hge : (0 : Int) < (m' : Int) := by omega
      have hx1 : nous 8 7 k 1 < 256 := nous_lt (n := 8) (by decide) k 1 (by decide)
      have hx2 : ml 8 7 (nous 8 7 k 1) (nous 8 7 k 1) 8 = nous 8 7 (k + k) 1 := by rw [ml_pow (by decide) (by decide) hx1, nous_add]
      have hx3 : ml 8 7 s' (nous 8 7 k 1) 8 = nous 8 7 k s' := ml_pow (by decide) (by decide) hs k
      have hxl : nous 8 7 k s' < 256 := nous_lt (n := 8) (by decide) k s' hs
      have HX2 := Lib.hid hx2
      have HX3 := Lib.hid hx3
      clear hx2 hx3
      have c0 := hB.cell 0
      have c1 := hB.cell 1
      simp at c0 c1
      have HB := Lib.hid hB
      clear hB
      obtain ⟨x, hx⟩ : ∃ x, x = nous 8 7 k 1 := ⟨_, rfl⟩
      rw [← hx] at hx1 ⊢
      have HX := Lib.hid hx
      clear hx
      have hbit : Hid (bits .and .i64 (m' : Int) 1 = ((m' % 2 : Nat) : Int)) := i64_and_one _ (by omega)
      by_cases ht : m' % 2 = 1
      · have hd : (bits .and .i64 (m' : Int) 1 == 1) = true := by rw [hbit.out, ht]; decide
        go_wp2_with fail
        refine (times_8 s' x _ hs hx1).mono ?_
        rintro e w1 ⟨rfl, ho1⟩
        have hB1 := HB.out.only ho1 (fun e => e)
        have c0' := hB1.cell 0
        have c1' := hB1.cell 1
        simp at c0' c1'
        have HB1 := Lib.hid hB1
        clear hB1 c0 c1
        go_wp2_with fail
        refine (times_8 x x _ hx1 hx1).mono ?_
        rintro e w2 ⟨rfl, ho2⟩
        go_wp2
        go_roundw
        case rel =>
          refine ⟨nous 8 7 k s', m' / 2, k + k, ?_, by go_num, ?_, hxl, by omega, ?_, (ho.trans ho1).trans ho2, HB1.out.only ho2 (fun e => e)⟩
          · rw [HX.out, HX3.out]
          · rw [HX.out, HX2.out]
          · rw [← HE.out, ← nous_add]
            congr 1
            have : k * m' = k * (2 * (m' / 2) + 1) := by congr 1; omega
            rw [this, Nat.mul_add, ← Nat.mul_assoc, Nat.mul_comm k 2, Nat.two_mul]; omega
        case measure => simp [intOf]; omega
      · have h0 : m' % 2 = 0 := by omega
        have hd : (bits .and .i64 (m' : Int) 1 == 1) = false := by rw [hbit.out, h0]; decide
        go_wp2_with fail
        refine (times_8 x x _ hx1 hx1).mono ?_
        rintro e w2 ⟨rfl, ho2⟩
        go_wp2
        go_roundw
        case rel =>
          refine ⟨s', m' / 2, k + k, rfl, by go_num, ?_, hs, by omega, ?_, ho.trans ho2, HB.out.only ho2 (fun e => e)⟩
          · rw [HX.out, HX2.out]
          · rw [← HE.out]
            congr 1
            have : k * m' = k * (2 * (m' / 2)) := by congr 1; omega
            rw [this, ← Nat.mul_assoc, Nat.mul_comm k 2, Nat.two_mul]
        case measure => simp [intOf]; omega

set_option maxHeartbeats 1000000 in
theorem shiftNo_8 (s m : Int) (w : World) (h : s < 0 ∨ 256 ≤ s ∨ m < 0 ∨ 1048576 < m) :
    Calls Tryd.prog 25 #[dv 8 7, iv s, iv m] w fun e w' => e = .returned (.tuple #[iv 0, iv 10]) ∧ Only Nix w w' := by
  by_cases h1 : s < 0
  · have d1 : decide (s < 0) = true := by simpa using h1
    go_enter Tryd.func25, Tryd.ntmps25
    go_wp2
    go_ret2
    exact ⟨rfl, (Only.refl _ _).alloc _⟩
  · have d1 : decide (s < 0) = false := by simpa using h1
    by_cases h2 : 256 ≤ s
    · have d2 : decide (256 ≤ s) = true := by simpa using h2
      go_enter Tryd.func25, Tryd.ntmps25
      go_wp2
      go_ret2
      exact ⟨rfl, (Only.refl _ _).alloc _⟩
    · have d2 : decide (256 ≤ s) = false := by simpa using h2
      by_cases h3 : m < 0
      · have d3 : decide (m < 0) = true := by simpa using h3
        go_enter Tryd.func25, Tryd.ntmps25
        go_wp2
        go_ret2
        exact ⟨rfl, (Only.refl _ _).alloc _⟩
      · have d3 : decide (m < 0) = false := by simpa using h3
        have h4 : 1048576 < m := by omega
        have d4 : decide (1048576 < m) = true := by simpa using h4
        go_enter Tryd.func25, Tryd.ntmps25
        go_wp2
        go_ret2
        exact ⟨rfl, (Only.refl _ _).alloc _⟩

/-! The divisor of 16 bits. -/
set_option maxHeartbeats 400000 in
theorem nought_16 (v : Nat) (w : World) (hv : v < 65536) :
    Calls Tryd.prog 36 #[dv 16 32773, iv (v : Int)] w fun e w' => e = .returned (iv (nou 16 32773 v : Nat)) ∧ Only Nix w w' := by
  by_cases h : 32768 ≤ v
  · have hd : (((v : Int) * 2 / 65536) == 1) = true := by rw [beq_iff_eq]; omega
    have hr : Hid (bits .xor .i64 ((v : Int) * 2) 98309 = ((nou 16 32773 v : Nat) : Int)) := by
      show _ = _
      rw [nou_hi (by decide) (by decide) hv (by omega), show ((v : Int) * 2) = ((2 * v : Nat) : Int) from by omega]
      exact i64_xor_nat _ 98309 (by omega) (by decide)
    go_enter Tryd.func36, Tryd.ntmps36
    go_wp2
    go_quiet (fail)
    go_wp2
    go_ret
    exact ⟨ret1 hr.out, ((Only.refl _ _).alloc _).drewN _⟩
  · have hd : (((v : Int) * 2 / 65536) == 1) = false := by rw [beq_eq_false_iff_ne]; omega
    have hr : Hid (((v : Int) * 2) = ((nou 16 32773 v : Nat) : Int)) := by
      show _ = _
      rw [nou_small (n := 16) 32773 (by decide) (by omega)]; omega
    go_enter Tryd.func36, Tryd.ntmps36
    go_wp2
    go_ret
    exact ⟨ret1 hr.out, (Only.refl _ _).alloc _⟩

def Times16 (w : World) (a b : Nat) (s7 s8 : Value) (wr : World) : Prop :=
  ∃ k v : Nat, k ≤ 16 ∧ s8 = iv ((k : Int) - 1) ∧ s7 = iv (v : Int) ∧ v < 65536 ∧ ml 16 32773 a b k ^^^ nous 16 32773 k v = ml 16 32773 a b 16 ∧ Only Nix w wr ∧ Box wr w.heap.size 44 #[iv 16, iv 32773]

set_option maxHeartbeats 1000000 in
theorem times_16 (a b : Nat) (w : World) (ha : a < 65536) (hb : b < 65536) :
    Calls Tryd.prog 31 #[dv 16 32773, iv (a : Int), iv (b : Int)] w fun e w' => e = .returned (iv (ml 16 32773 a b 16 : Nat)) ∧ Only Nix w w' := by
  go_enter Tryd.func31, Tryd.ntmps31
  go_wp2
  go_loopw [7, 8] (fun s7 s8 wr => Times16 w a b s7 s8 wr) (fun _ s8 _ => (intOf s8 + 1).toNat)
  case atStart => exact ⟨16, 0, by omega, rfl, rfl, by omega, by rw [nous_zero, Nat.xor_zero], (Only.refl _ _).alloc _, Box.new _ _ _⟩
  case round =>
    obtain ⟨k, v, hk, rfl, rfl, hv, he, ho, hB⟩ := hrel
    by_cases hk0 : k = 0
    · subst hk0
      have hge : ¬ (0 : Int) ≤ ((0 : Nat) : Int) - 1 := by omega
      have HE := Lib.hid he
      clear he
      go_wp2
      go_ret
      refine ⟨ret1 ?_, ho⟩
      have he := HE.out
      rw [show ml 16 32773 a b 0 = 0 from rfl, show nous 16 32773 0 v = v from rfl, Nat.zero_xor] at he
      rw [he]
    · obtain ⟨j, rfl⟩ : ∃ j, k = j + 1 := ⟨k - 1, by omega⟩
      have hj : ((j + 1 : Nat) : Int) - 1 = (j : Int) := by omega
      rw [hj]
      have hge : (0 : Int) ≤ (j : Int) := by omega
      have c0 := hB.cell 0
      have c1 := hB.cell 1
      simp at c0 c1
      have HE := Lib.hid he
      have HB := Lib.hid hB
      have HJ := Lib.hid hj
      clear he hB hj
      have e5 : (b : Int) / 2 ^ j = ((b / 2 ^ j : Nat) : Int) := by rw [pow_cast, ← Int.natCast_ediv]
      have hle : b / 2 ^ j ≤ b := Nat.div_le_self _ _
      have hbit : Hid (bits .and .i64 ((b : Int) / 2 ^ j) 1 = ((b / 2 ^ j % 2 : Nat) : Int)) := by
        show _ = _
        rw [e5, i64_and_one _ (by omega)]
      clear e5
      by_cases ht : b / 2 ^ j % 2 = 1
      · have hd : (bits .and .i64 ((b : Int) / 2 ^ j) 1 == 1) = true := by rw [hbit.out, ht]; decide
        go_wp2_with (go_at_call 36; refine (nought_16 v _ hv).mono ?_; rintro e w' ⟨rfl, ho'⟩)
        go_roundw
        case rel =>
          have hn := nou_lt (n := 16) (r := 32773) (by decide) v
          refine ⟨j, nou 16 32773 v ^^^ a, by omega, by have := HJ.out; go_num, ?_, Nat.xor_lt_two_pow (n := 16) hn ha, ?_, ho.trans ho', HB.out.only ho' (fun e => e)⟩
          · exact congrArg iv (i64_xor_nat _ _ (by omega) (by omega))
          · rw [← HE.out, nous_xor]
            simp only [ml, nous]
            rw [testBit_mod, if_pos (by simpa using ht), Nat.xor_assoc, Nat.xor_comm (nous 16 32773 j a)]
        case measure => have := HJ.out; first | (simp [intOf]; done) | (simp [intOf]; omega)
      · have h0 : b / 2 ^ j % 2 = 0 := by omega
        have hd : (bits .and .i64 ((b : Int) / 2 ^ j) 1 == 1) = false := by rw [hbit.out, h0]; decide
        go_wp2_with (go_at_call 36; refine (nought_16 v _ hv).mono ?_; rintro e w' ⟨rfl, ho'⟩)
        go_roundw
        case rel =>
          have hn := nou_lt (n := 16) (r := 32773) (by decide) v
          refine ⟨j, nou 16 32773 v, by omega, by have := HJ.out; go_num, rfl, hn, ?_, ho.trans ho', HB.out.only ho' (fun e => e)⟩
          rw [← HE.out]
          simp only [ml, nous]
          rw [testBit_mod, if_neg (by simpa using ht), Nat.xor_zero]
        case measure => have := HJ.out; first | (simp [intOf]; done) | (simp [intOf]; omega)

def Shift16 (w : World) (T : Nat) (s1 s2 s8 : Value) (wr : World) : Prop :=
  ∃ s m k : Nat, s1 = iv (s : Int) ∧ s2 = iv (m : Int) ∧ s8 = iv (nous 16 32773 k 1 : Nat) ∧ s < 65536 ∧ m ≤ 1048576 ∧ nous 16 32773 (k * m) s = T ∧ Only Nix w wr ∧ Box wr w.heap.size 44 #[iv 16, iv 32773]

set_option maxHeartbeats 1000000 in
theorem shift_16 (s m : Nat) (w : World) (hs : s < 65536) (hm : m ≤ 1048576) :
    Calls Tryd.prog 25 #[dv 16 32773, iv (s : Int), iv (m : Int)] w fun e w' => e = .returned (.tuple #[iv (nous 16 32773 m s : Nat), iv 0]) ∧ Only Nix w w' := by
  have d1 : decide ((s : Int) < 0) = false := by simp
  have d2 : decide (65536 ≤ (s : Int)) = false := by simp; omega
  have d3 : decide ((m : Int) < 0) = false := by simp
  have d4 : decide (1048576 < (m : Int)) = false := by simp; omega
  go_enter Tryd.func25, Tryd.ntmps25
  go_wp2
  clear d1 d2 d3 d4
  go_loopw [1, 2, 8] (fun s1 s2 s8 wr => Shift16 w (nous 16 32773 m s) s1 s2 s8 wr) (fun _ s2 _ _ => (intOf s2).toNat)
  case atStart => exact ⟨s, m, 1, rfl, rfl, rfl, hs, hm, by rw [Nat.one_mul], (Only.refl _ _).alloc _, Box.new _ _ _⟩
  case round =>
    clear hs hm
    obtain ⟨s', m', k, rfl, rfl, rfl, hs, hm, he, ho, hB⟩ := hrel
    have HE := Lib.hid he
    clear he
    by_cases hm0 : m' = 0
    · subst hm0
      have hge : ¬ (0 : Int) < ((0 : Nat) : Int) := by omega
      go_wp2
      go_ret2
      refine ⟨ret2 ?_ rfl, ho⟩
      have he := HE.out
      rw [Nat.mul_zero] at he
      rw [← he]; rfl
    · have hge : (0 : Int) < (m' : Int) := by omega
      have hx1 : nous 16 32773 k 1 < 65536 := nous_lt (n := 16) (by decide) k 1 (by decide)
      have hx2 : ml 16 32773 (nous 16 32773 k 1) (nous 16 32773 k 1) 16 = nous 16 32773 (k + k) 1 := by rw [ml_pow (by decide) (by decide) hx1, nous_add]
      have hx3 : ml 16 32773 s' (nous 16 32773 k 1) 16 = nous 16 32773 k s' := ml_pow (by decide) (by decide) hs k
      have hxl : nous 16 32773 k s' < 65536 := nous_lt (n := 16) (by decide) k s' hs
      have HX2 := Lib.hid hx2
      have HX3 := Lib.hid hx3
      clear hx2 hx3
      have c0 := hB.cell 0
      have c1 := hB.cell 1
      simp at c0 c1
      have HB := Lib.hid hB
      clear hB
      obtain ⟨x, hx⟩ : ∃ x, x = nous 16 32773 k 1 := ⟨_, rfl⟩
      rw [← hx] at hx1 ⊢
      have HX := Lib.hid hx
      clear hx
      have hbit : Hid (bits .and .i64 (m' : Int) 1 = ((m' % 2 : Nat) : Int)) := i64_and_one _ (by omega)
      by_cases ht : m' % 2 = 1
      · have hd : (bits .and .i64 (m' : Int) 1 == 1) = true := by rw [hbit.out, ht]; decide
        go_wp2_with fail
        refine (times_16 s' x _ hs hx1).mono ?_
        rintro e w1 ⟨rfl, ho1⟩
        have hB1 := HB.out.only ho1 (fun e => e)
        have c0' := hB1.cell 0
        have c1' := hB1.cell 1
        simp at c0' c1'
        have HB1 := Lib.hid hB1
        clear hB1 c0 c1
        go_wp2_with fail
        refine (times_16 x x _ hx1 hx1).mono ?_
        rintro e w2 ⟨rfl, ho2⟩
        go_wp2
        go_roundw
        case rel =>
          refine ⟨nous 16 32773 k s', m' / 2, k + k, ?_, by go_num, ?_, hxl, by omega, ?_, (ho.trans ho1).trans ho2, HB1.out.only ho2 (fun e => e)⟩
          · rw [HX.out, HX3.out]
          · rw [HX.out, HX2.out]
          · rw [← HE.out, ← nous_add]
            congr 1
            have : k * m' = k * (2 * (m' / 2) + 1) := by congr 1; omega
            rw [this, Nat.mul_add, ← Nat.mul_assoc, Nat.mul_comm k 2, Nat.two_mul]; omega
        case measure => simp [intOf]; omega
      · have h0 : m' % 2 = 0 := by omega
        have hd : (bits .and .i64 (m' : Int) 1 == 1) = false := by rw [hbit.out, h0]; decide
        go_wp2_with fail
        refine (times_16 x x _ hx1 hx1).mono ?_
        rintro e w2 ⟨rfl, ho2⟩
        go_wp2
        go_roundw
        case rel =>
          refine ⟨s', m' / 2, k + k, rfl, by go_num, ?_, hs, by omega, ?_, ho.trans ho2, HB.out.only ho2 (fun e => e)⟩
          · rw [HX.out, HX2.out]
          · rw [← HE.out]
            congr 1
            have : k * m' = k * (2 * (m' / 2)) := by congr 1; omega
            rw [this, ← Nat.mul_assoc, Nat.mul_comm k 2, Nat.two_mul]
        case measure => simp [intOf]; omega

set_option maxHeartbeats 1000000 in
theorem shiftNo_16 (s m : Int) (w : World) (h : s < 0 ∨ 65536 ≤ s ∨ m < 0 ∨ 1048576 < m) :
    Calls Tryd.prog 25 #[dv 16 32773, iv s, iv m] w fun e w' => e = .returned (.tuple #[iv 0, iv 10]) ∧ Only Nix w w' := by
  by_cases h1 : s < 0
  · have d1 : decide (s < 0) = true := by simpa using h1
    go_enter Tryd.func25, Tryd.ntmps25
    go_wp2
    go_ret2
    exact ⟨rfl, (Only.refl _ _).alloc _⟩
  · have d1 : decide (s < 0) = false := by simpa using h1
    by_cases h2 : 65536 ≤ s
    · have d2 : decide (65536 ≤ s) = true := by simpa using h2
      go_enter Tryd.func25, Tryd.ntmps25
      go_wp2
      go_ret2
      exact ⟨rfl, (Only.refl _ _).alloc _⟩
    · have d2 : decide (65536 ≤ s) = false := by simpa using h2
      by_cases h3 : m < 0
      · have d3 : decide (m < 0) = true := by simpa using h3
        go_enter Tryd.func25, Tryd.ntmps25
        go_wp2
        go_ret2
        exact ⟨rfl, (Only.refl _ _).alloc _⟩
      · have d3 : decide (m < 0) = false := by simpa using h3
        have h4 : 1048576 < m := by omega
        have d4 : decide (1048576 < m) = true := by simpa using h4
        go_enter Tryd.func25, Tryd.ntmps25
        go_wp2
        go_ret2
        exact ⟨rfl, (Only.refl _ _).alloc _⟩
end Go.Proofs.YtmnnjbamphoghaaDoor
