/-
  writeRaw, writeCoded.
-/
import Derived.Test.YtliemhadgbjjiaaRSize
namespace Go.Proofs.Ytliemhadgbjjiaa
open Go.RowKit

/-- a residual's bits -/
def resB (p wd : Int) (x : Int) : List Nat := if p = -1 then bitsN wd.toNat (x % 2 ^ wd.toNat).toNat else (List.replicate (fd x / 2 ^ p.toNat) 0 ++ [1]) ++ bitsN p.toNat (fd x % 2 ^ p.toNat)
/-- what stands ahead of a part's residuals -/
def hdB (m : Nat) (p wd : Int) : List Nat := if p = -1 then bitsN (4 + m) (15 + 16 * m) ++ bitsN 5 wd.toNat else bitsN (4 + m) p.toNat
/-- a part's bits -/
def partB (m : Nat) (p wd : Int) (xs : List Int) : List Nat := hdB m p wd ++ xs.flatMap (resB p wd)
/-- a block's bits -/
def blockB (S s P m o : Nat) (ps bs : List Int) (l : List Int) : List Nat := (bitsN 2 m ++ bitsN 4 o) ++ (List.range P).flatMap fun k => partB m (ps.getD k 0) (bs.getD k 0) (pt S s l k)

theorem isS_fd (wd : Nat) (x : Int) : isS wd x ↔ fd x < 2 ^ wd := by
  unfold isS fd
  cases wd with
  | zero =>
    rw [if_pos rfl]
    simp only [Nat.pow_zero]
    split <;> omega
  | succ k =>
    rw [if_neg (by omega), Nat.add_sub_cancel, Nat.pow_succ, pow_cast]
    generalize 2 ^ k = P
    split <;> omega
theorem resB_len (m : Nat) (p wd : Int) (_ : isP m p wd) (x : Int) : (resB p wd x).length = if p = -1 then wd.toNat else fd x / 2 ^ p.toNat + 1 + p.toNat := by
  unfold resB
  split
  · rw [bitsN_len]
  · simp [bitsN_len]; omega
theorem resB_sum (m : Nat) (p wd : Int) (hp : isP m p wd) (xs : List Int) : (xs.flatMap (resB p wd)).length = if p = -1 then wd.toNat * xs.length else (1 + p.toNat) * xs.length + hiS p.toNat (xs.map fd) := by
  induction xs with
  | nil => simp [hiS]
  | cons x xs ih =>
    rw [List.flatMap_cons, List.length_append, ih, resB_len m p wd hp]
    split
    · rw [List.length_cons, Nat.mul_succ]; omega
    · simp only [hiS, List.map_cons, List.sum_cons, List.length_cons, Nat.mul_succ]; omega
theorem partB_len (m : Nat) (p wd : Int) (hp : isP m p wd) (xs : List Int) : (partB m p wd xs).length = szP m p wd (xs.map fd) := by
  unfold partB szP
  rw [List.length_append, resB_sum m p wd hp]
  unfold hdB szR szK
  split
  · simp [bitsN_len, Nat.add_assoc]
  · simp [bitsN_len, Nat.add_assoc]

section
variable {w : World} {b : Nat} {v : Value} {bs l : List Nat}
theorem put_bits (h : Wr w b v bs l) (hl : l.length ≤ 281474976710656) (n x : Nat) (hn : n ≤ 48) (hx : x < 2 ^ n) :
    Calls Try.prog 38 #[.pointer (some ⟨b, 0, none⟩), iv n, iv x] w fun e w' => e = .returned (iv 0) ∧ WrTo w b v (l ++ bitsN n x) w' := by
  have := put_ok h hl n (x : Int) hn (by omega) (by omega)
  have e : ((x : Int) % 2 ^ n).toNat = x := by
    rw [pow_cast, ← Int.natCast_emod, Int.toNat_natCast, Nat.mod_eq_of_lt hx]
  rw [e] at this
  exact this
theorem sgn_bits (h : Wr w b v bs l) (hl : l.length ≤ 281474976710656) (n : Nat) (x : Int) (hn : n ≤ 48) (hx : isS n x) :
    Calls Try.prog 62 #[.pointer (some ⟨b, 0, none⟩), iv n, iv x] w fun e w' => e = .returned (iv 0) ∧ WrTo w b v (l ++ bitsN n (x % 2 ^ n).toNat) w' := by
  have := signedW_any h hl (n : Int) x
  have e1 : sgnE (n : Int) x = 0 := by unfold sgnE; rw [if_neg (by omega), Int.toNat_natCast, if_pos hx]
  have e2 : sgnL l (n : Int) x = l ++ bitsN n (x % 2 ^ n).toNat := by unfold sgnL; rw [e1, if_pos rfl, Int.toNat_natCast]
  rw [e1, e2] at this
  exact this
theorem un_bits (h : Wr w b v bs l) (hl : l.length ≤ 281474976710656) (n : Nat) (hn : n ≤ 65536) :
    Calls Try.prog 63 #[.pointer (some ⟨b, 0, none⟩), iv n] w fun e w' => e = .returned (iv 0) ∧ WrTo w b v (l ++ (List.replicate n 0 ++ [1])) w' := by
  have := unaryW_any h hl (n : Int)
  have e1 : unE (n : Int) = 0 := by unfold unE; rw [if_neg (by omega)]
  have e2 : unL l (n : Int) = l ++ (List.replicate n 0 ++ [1]) := by unfold unL; rw [e1, if_pos rfl, Int.toNat_natCast, List.append_assoc]
  rw [e1, e2] at this
  exact this
end
/-- this slice lies apart from a Writer -/
def Apart (v0 : Value) (b : Nat) (v : Value) : Prop := ∀ ad n c, v0 = .slice (some ad) n c → 0 < n → ad.block ≠ b ∧ v.ownBlock ≠ some ad.block
theorem ISrc.wr {w w' : World} {v0 : Value} {xs : List Int} {b : Nat} {v : Value} (h : ISrc w v0 xs) (ho : Only (WF b v) w w') (ha : Apart v0 b v) : ISrc w' v0 xs :=
  h.only ho (fun i hi hF ad n c e hn => by
    obtain ⟨h1, h2⟩ := ha ad n c e hn
    rcases hF with rfl | hF
    · exact h1
    · intro e2; rw [e2] at h2; exact h2 hF)

def WrP (w : World) (b : Nat) (v : Value) (L : List Nat) (p wd : Int) (xs : List Int) (s : Value) (wr : World) : Prop := ∃ j : Nat, j ≤ xs.length ∧ s = iv j ∧ WrTo w b v (L ++ (xs.take j).flatMap (resB p wd)) wr
set_option maxHeartbeats 1000000 in
theorem writeRaw_any {w : World} {b : Nat} {v : Value} {bs L : List Nat} (h : Wr w b v bs L) (m wd : Nat) (hm : m ≤ 1) (hwd : wd ≤ 31) (A : Option Addr) (n c : Nat) (xs : List Int) (hx : ISrc w (.slice A n c) xs) (ha : Apart (.slice A n c) b v)
    (hf : ∀ x ∈ xs, fd x < 2 ^ wd) (hl : (L ++ partB m (-1) wd xs).length ≤ 281474976710656) :
    Calls Try.prog 39 #[.pointer (some ⟨b, 0, none⟩), iv m, iv wd, .slice A n c] w fun e w' => e = .returned (.tuple #[]) ∧ WrTo w b v (L ++ partB m (-1) wd xs) w' := by
  have hp : isP m (-1) (wd : Int) := .inl ⟨rfl, by omega, by omega⟩
  have hn := hx.len
  have hsm := hx.small
  have hpl := partB_len m (-1) wd hp xs
  have HX := Lib.hid hx
  clear hx
  have ht : partB m (-1) wd xs = (bitsN (4 + m) (15 + 16 * m) ++ bitsN 5 wd) ++ xs.flatMap (resB (-1) wd) := by unfold partB hdB; rw [if_pos rfl, Int.toNat_natCast]
  rw [List.length_append] at hl
  have hl2 := hl
  rw [ht] at hl2
  simp only [List.length_append, bitsN_len] at hl2
  have HP := Lib.hid (paramSize_any w (m : Int) (by omega))
  have HRc := Lib.hid (rawCode_any w (m : Int) (by omega))
  have e4 : (4 : Int) + (m : Int) = ((4 + m : Nat) : Int) := by omega
  have e15 : (15 : Int) + 16 * (m : Int) = ((15 + 16 * m : Nat) : Int) := by omega
  rw [e4] at HP
  rw [e15] at HRc
  have HPut := Lib.hid (put_bits h (by omega) (4 + m) (15 + 16 * m) (by omega) (by
    obtain rfl | rfl : m = 0 ∨ m = 1 := by omega
    · decide
    · decide))
  have HT := Lib.hid ht
  have HF := Lib.hid hf
  have Hl := Lib.hid hl2
  clear ht hf hl hl2 hpl e4 e15
  generalize 4 + m = m4 at *
  generalize 15 + 16 * m = m15 at *
  have HN : Hid (xs.length = n) := Lib.hid hn.symm
  rw [← hn] at hsm
  clear hn
  go_enter Try.func39, Try.ntmps39
  go_wp2_with fail
  refine (HP.out).mono ?_
  rintro e w1 ⟨rfl, rfl⟩
  go_wp2_with fail
  refine (HRc.out).mono ?_
  rintro e w1 ⟨rfl, rfl⟩
  go_wp2_with fail
  refine (HPut.out).mono ?_
  rintro e w1 ⟨rfl, v1, bs1, hw1, ho1, hm1⟩
  have HPut2 := Lib.hid (put_bits hw1 (by have := Hl.out; simp only [List.length_append, bitsN_len]; omega) 5 wd (by omega) (by
    have : (31 : Nat) < 2 ^ 5 := by decide
    omega))
  go_wp2_with fail
  refine (HPut2.out).mono ?_
  rintro e w2 ⟨rfl, hwt⟩
  have HW2 := Lib.hid (WrTo.of ho1 hm1 hwt)
  clear hwt hw1 ho1 hm1 HPut HPut2 HP HRc
  go_wp2
  go_loopw [21] (fun s21 wr => WrP w b v ((L ++ bitsN m4 m15) ++ bitsN 5 wd) (-1) wd xs s21 wr) (fun s21 _ => n - (intOf s21).toNat)
  case atStart => exact ⟨0, Nat.zero_le _, rfl, by simpa using HW2.out⟩
  case round =>
    obtain ⟨j, hj, rfl, v3, bs3, hw3, ho3, hm3⟩ := hrel
    rw [HN.out] at hj
    by_cases hlt : j < n
    · have hltx : j < xs.length := by rw [HN.out]; exact hlt
      obtain ⟨ad, rfl, hxj⟩ := (HX.out.wr ho3 ha).at_ hltx
      have hlt2 : (j : Int) < (n : Int) := by omega
      have hfx := HF.out _ (List.getElem_mem hltx)
      have hfit := HX.out.fits _ (List.getElem_mem hltx)
      have HE := Lib.hid (List.take_succ_eq_append_getElem hltx)
      have hle : ((xs.take j).flatMap (resB (-1) wd)).length ≤ (xs.flatMap (resB (-1) wd)).length := by
        rw [resB_sum m _ _ hp, resB_sum m _ _ hp, if_pos rfl, if_pos rfl]
        exact Nat.mul_le_mul_left _ (by rw [List.length_take]; omega)
      have HS := Lib.hid (sgn_bits hw3 (by have := Hl.out; simp only [List.length_append, bitsN_len]; omega) wd xs[j] (by omega) ((isS_fd _ _).2 hfx))
      clear hfx hle
      generalize xs[j] = x at *
      clear hltx
      go_wp2_with fail
      refine (HS.out).mono ?_
      rintro e w4 ⟨rfl, hw4⟩
      go_wp2
      go_roundw
      case rel =>
        refine ⟨j + 1, by rw [HN.out]; omega, by go_num, ?_⟩
        have := WrTo.of ho3 hm3 hw4
        rw [HE.out, List.flatMap_append, List.flatMap_singleton, ← List.append_assoc]
        have er : resB (-1) wd x = bitsN wd (x % 2 ^ wd).toNat := by unfold resB; rw [if_pos rfl, Int.toNat_natCast]
        rw [er]
        exact this
      case measure => simp [intOf]; omega
    · obtain rfl : j = n := by omega
      have hlt2 : decide (j < j) = false := by simp
      go_wp2
      go_end0
      refine ⟨rfl, ?_⟩
      have : xs.take j = xs := by rw [← HN.out]; exact List.take_length
      rw [this] at hw3
      rw [HT.out, ← List.append_assoc, ← List.append_assoc]
      exact ⟨v3, bs3, hw3, ho3, hm3⟩
set_option maxHeartbeats 1000000 in
theorem writeCoded_any {w : World} {b : Nat} {v : Value} {bs L : List Nat} (h : Wr w b v bs L) (m p : Nat) (hm : m ≤ 1) (hpm : p ≤ 14 + 16 * m) (A : Option Addr) (n c : Nat) (xs : List Int) (hx : ISrc w (.slice A n c) xs) (ha : Apart (.slice A n c) b v)
    (hr : ∀ x ∈ xs, isR x) (hf : ∀ x ∈ xs, fd x / 2 ^ p ≤ 65536) (hl : (L ++ partB m p 0 xs).length ≤ 281474976710656) :
    Calls Try.prog 40 #[.pointer (some ⟨b, 0, none⟩), iv m, iv p, .slice A n c] w fun e w' => e = .returned (.tuple #[]) ∧ WrTo w b v (L ++ partB m p 0 xs) w' := by
  have hp : isP m (p : Int) 0 := .inr ⟨by omega, by omega, rfl⟩
  have hpn : ¬ ((p : Int) = -1) := by omega
  have hn := hx.len
  have hsm := hx.small
  have HX := Lib.hid hx
  clear hx
  have ht : partB m p 0 xs = bitsN (4 + m) p ++ xs.flatMap (resB p 0) := by unfold partB hdB; rw [if_neg hpn, Int.toNat_natCast]
  rw [List.length_append] at hl
  have hl2 := hl
  rw [ht] at hl2
  simp only [List.length_append, bitsN_len] at hl2
  have HP := Lib.hid (paramSize_any w (m : Int) (by omega))
  have e4 : (4 : Int) + (m : Int) = ((4 + m : Nat) : Int) := by omega
  rw [e4] at HP
  have HPut := Lib.hid (put_bits h (by omega) (4 + m) p (by omega) (by
    obtain rfl | rfl : m = 0 ∨ m = 1 := by omega
    · have : (2 : Nat) ^ (4 + 0) = 16 := by decide
      omega
    · have : (2 : Nat) ^ (4 + 1) = 32 := by decide
      omega))
  have HT := Lib.hid ht
  have HF := Lib.hid hf
  have HR := Lib.hid hr
  have Hl := Lib.hid hl2
  clear ht hf hl hl2 e4 hr
  generalize 4 + m = m4 at *
  have HN : Hid (xs.length = n) := Lib.hid hn.symm
  rw [← hn] at hsm
  clear hn
  have hp30 : p ≤ 30 := by omega
  clear hpm
  go_enter Try.func40, Try.ntmps40
  go_wp2_with fail
  refine (HP.out).mono ?_
  rintro e w1 ⟨rfl, rfl⟩
  go_wp2_with fail
  refine (HPut.out).mono ?_
  rintro e w2 ⟨rfl, hwt⟩
  have HW2 := Lib.hid hwt
  clear hwt HPut HP
  go_wp2
  go_loopw [18] (fun s18 wr => WrP w b v (L ++ bitsN m4 p) p 0 xs s18 wr) (fun s18 _ => n - (intOf s18).toNat)
  case atStart => exact ⟨0, Nat.zero_le _, rfl, by simpa using HW2.out⟩
  case round =>
    obtain ⟨j, hj, rfl, v3, bs3, hw3, ho3, hm3⟩ := hrel
    rw [HN.out] at hj
    by_cases hlt : j < n
    · have hltx : j < xs.length := by rw [HN.out]; exact hlt
      obtain ⟨ad, rfl, hxj⟩ := (HX.out.wr ho3 ha).at_ hltx
      have hlt2 : (j : Int) < (n : Int) := by omega
      have hfx := HF.out _ (List.getElem_mem hltx)
      have hrx := HR.out _ (List.getElem_mem hltx)
      have hfit := HX.out.fits _ (List.getElem_mem hltx)
      have HE := Lib.hid (List.take_succ_eq_append_getElem hltx)
      have hle : ((xs.take (j + 1)).flatMap (resB p 0)).length ≤ (xs.flatMap (resB p 0)).length := by
        have e : xs.flatMap (resB p 0) = (xs.take (j + 1)).flatMap (resB p 0) ++ (xs.drop (j + 1)).flatMap (resB p 0) := by rw [← List.flatMap_append, List.take_append_drop]
        rw [e, List.length_append]
        omega
      rw [HE.out, List.flatMap_append, List.flatMap_singleton, List.length_append, resB_len m _ _ hp, if_neg hpn, Int.toNat_natCast] at hle
      have hlen2 := Hl.out
      generalize hfq : fd xs[j] / 2 ^ p = fq at *
      have HU := Lib.hid (un_bits hw3 (by simp only [List.length_append, bitsN_len]; omega) fq hfx)
      have er : Hid (resB p 0 xs[j] = (List.replicate fq 0 ++ [1]) ++ bitsN p (fd xs[j] % 2 ^ p)) := Lib.hid (by unfold resB; rw [if_neg hpn, Int.toNat_natCast, hfq])
      have HFo := Lib.hid (fold_any wr xs[j] hrx)
      have hfl := fd_lt hrx
      have hdv : ((fd xs[j] : Nat) : Int) / 2 ^ p = (fq : Int) := by rw [pow_cast, ← Int.natCast_ediv, hfq]
      have hmk := i64_mask (fd xs[j]) p (by omega) (by omega)
      have hml := Nat.mod_lt (fd xs[j]) (Nat.two_pow_pos p)
      have HP2 : ∀ {u : World} {v4 : Value} {bs4 : List Nat}, Wr u b v4 bs4 ((L ++ bitsN m4 p ++ (xs.take j).flatMap (resB p 0)) ++ (List.replicate fq 0 ++ [1])) → Hid (Calls Try.prog 38 #[.pointer (some ⟨b, 0, none⟩), iv p, iv (fd xs[j] % 2 ^ p : Nat)] u fun e w' => e = .returned (iv 0) ∧ WrTo u b v4 (((L ++ bitsN m4 p ++ (xs.take j).flatMap (resB p 0)) ++ (List.replicate fq 0 ++ [1])) ++ bitsN p (fd xs[j] % 2 ^ p)) w') :=
        fun hu => Lib.hid (put_bits hu (by simp only [List.length_append, bitsN_len, List.length_replicate, List.length_singleton]; omega) p _ (by omega) hml)
      clear hrx hlen2 hfq
      generalize fd xs[j] % 2 ^ p = fm at *
      generalize fd xs[j] = f at *
      generalize xs[j] = x at *
      clear hltx
      go_wp2_with fail
      refine (HFo.out).mono ?_
      rintro e w4 ⟨rfl, rfl⟩
      go_wp2_with fail
      refine (HU.out).mono ?_
      rintro e w4 ⟨rfl, v4, bs4, hw4, ho4, hm4⟩
      have HP3 := HP2 hw4
      clear HP2
      go_wp2_with fail
      refine (HP3.out).mono ?_
      rintro e w5 ⟨rfl, hw5⟩
      go_wp2
      go_roundw
      case rel =>
        refine ⟨j + 1, by rw [HN.out]; omega, by go_num, ?_⟩
        have := WrTo.of ho3 hm3 (WrTo.of ho4 hm4 hw5)
        rw [HE.out, List.flatMap_append, List.flatMap_singleton, er.out, ← List.append_assoc, ← List.append_assoc]
        exact this
      case measure => simp [intOf]; omega
    · obtain rfl : j = n := by omega
      have hlt2 : decide (j < j) = false := by simp
      go_wp2
      go_end0
      refine ⟨rfl, ?_⟩
      have : xs.take j = xs := by rw [← HN.out]; exact List.take_length
      rw [this] at hw3
      rw [HT.out, ← List.append_assoc]
      exact ⟨v3, bs3, hw3, ho3, hm3⟩
end Go.Proofs.Ytliemhadgbjjiaa
