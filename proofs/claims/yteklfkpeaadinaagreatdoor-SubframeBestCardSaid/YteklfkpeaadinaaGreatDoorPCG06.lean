/-
  writeRaw, writeCoded.
-/
import Derived.Test.YteklfkpeaadinaaGreatDoorPCG05
namespace Go.Proofs.YteklfkpeaadinaaGreatDoor
open Go.RowKit

/-- a residual's bits -/
def resB (p wd : Int) (x : Int) : List Nat := if p = -1 then bitsN wd.toNat (x % 2 ^ wd.toNat).toNat else (List.replicate (fd x / 2 ^ p.toNat) 0 ++ [1]) ++ bitsN p.toNat (fd x % 2 ^ p.toNat)
/-- what stands ahead of a part's residuals -/
def hdB (m : Nat) (p wd : Int) : List Nat := if p = -1 then bitsN (4 + m) (15 + 16 * m) ++ bitsN 5 wd.toNat else bitsN (4 + m) p.toNat
/-- a part's bits -/
def partB (m : Nat) (p wd : Int) (xs : List Int) : List Nat := hdB m p wd ++ xs.flatMap (resB p wd)
/-- a block's bits -/
def blockB (S s P m o : Nat) (ps bs : List Int) (l : List Int) : List Nat := (bitsN 2 m ++ bitsN 4 o) ++ (List.range P).flatMap fun k => partB m (ps.getD k 0) (bs.getD k 0) (pt S s l k)
theorem isS_fd (wd : Nat) (x : Int) : isS wd x ↔ fd x < 2 ^ wd := by
  unfold isS fd
  cases wd with
  | zero =>
    rw [if_pos rfl]
    simp only [Nat.pow_zero]
    split <;> omega
  | succ k =>
    rw [if_neg (by omega), Nat.add_sub_cancel, Nat.pow_succ, pow_cast]
    generalize 2 ^ k = P
    split <;> omega
theorem resB_len (m : Nat) (p wd : Int) (_ : isP m p wd) (x : Int) : (resB p wd x).length = if p = -1 then wd.toNat else fd x / 2 ^ p.toNat + 1 + p.toNat := by
  unfold resB
  split
  · rw [bitsN_len]
  · simp [bitsN_len]; omega
theorem resB_sum (m : Nat) (p wd : Int) (hp : isP m p wd) (xs : List Int) : (xs.flatMap (resB p wd)).length = if p = -1 then wd.toNat * xs.length else (1 + p.toNat) * xs.length + hiS p.toNat (xs.map fd) := by
  induction xs with
  | nil => simp [hiS]
  | cons x xs ih =>
    rw [List.flatMap_cons, List.length_append, ih, resB_len m p wd hp]
    split
    · rw [List.length_cons, Nat.mul_succ]; omega
    · simp only [hiS, List.map_cons, List.sum_cons, List.length_cons, Nat.mul_succ]; omega
theorem partB_len (m : Nat) (p wd : Int) (hp : isP m p wd) (xs : List Int) : (partB m p wd xs).length = szP m p wd (xs.map fd) := by
  unfold partB szP
  rw [List.length_append, resB_sum m p wd hp]
  unfold hdB szR szK
  split
  · simp [bitsN_len, Nat.add_assoc]
  · simp [bitsN_len, Nat.add_assoc]
section
variable {w : World} {b : Nat} {v : Value} {bs l : List Nat}
theorem put_bits (h : Wr w b v bs l) (hl : l.length ≤ 281474976710656) (n x : Nat) (hn : n ≤ 48) (hx : x < 2 ^ n) :
    Calls Tryz.prog 68 #[.pointer (some ⟨b, 0, none⟩), iv n, iv x] w fun e w' => e = .returned (iv 0) ∧ WrTo w b v (l ++ bitsN n x) w' := by
  have := put_ok h hl n (x : Int) hn (by omega) (by omega)
  have e : ((x : Int) % 2 ^ n).toNat = x := by
    rw [pow_cast, ← Int.natCast_emod, Int.toNat_natCast, Nat.mod_eq_of_lt hx]
  rw [e] at this
  exact this
theorem sgn_bits (h : Wr w b v bs l) (hl : l.length ≤ 281474976710656) (n : Nat) (x : Int) (hn : n ≤ 48) (hx : isS n x) :
    Calls Tryz.prog 36 #[.pointer (some ⟨b, 0, none⟩), iv n, iv x] w fun e w' => e = .returned (iv 0) ∧ WrTo w b v (l ++ bitsN n (x % 2 ^ n).toNat) w' := by
  have := signedW_any h hl (n : Int) x
  have e1 : sgnE (n : Int) x = 0 := by unfold sgnE; rw [if_neg (by omega), Int.toNat_natCast, if_pos hx]
  have e2 : sgnL l (n : Int) x = l ++ bitsN n (x % 2 ^ n).toNat := by unfold sgnL; rw [e1, if_pos rfl, Int.toNat_natCast]
  rw [e1, e2] at this
  exact this
theorem un_bits (h : Wr w b v bs l) (hl : l.length ≤ 281474976710656) (n : Nat) (hn : n ≤ 65536) :
    Calls Tryz.prog 69 #[.pointer (some ⟨b, 0, none⟩), iv n] w fun e w' => e = .returned (iv 0) ∧ WrTo w b v (l ++ (List.replicate n 0 ++ [1])) w' := by
  have := unaryW_any h hl (n : Int)
  have e1 : unE (n : Int) = 0 := by unfold unE; rw [if_neg (by omega)]
  have e2 : unL l (n : Int) = l ++ (List.replicate n 0 ++ [1]) := by unfold unL; rw [e1, if_pos rfl, Int.toNat_natCast, List.append_assoc]
  rw [e1, e2] at this
  exact this
end
/-- this slice lies apart from a Writer -/
def Apart (v0 : Value) (b : Nat) (v : Value) : Prop := ∀ ad n c, v0 = .slice (some ad) n c → 0 < n → ad.block ≠ b ∧ v.ownBlock ≠ some ad.block
theorem ISrc.wr {w w' : World} {v0 : Value} {xs : List Int} {b : Nat} {v : Value} (h : ISrc w v0 xs) (ho : Only (WF b v) w w') (ha : Apart v0 b v) : ISrc w' v0 xs :=
  h.only ho (fun i hi hF ad n c e hn => by
    obtain ⟨h1, h2⟩ := ha ad n c e hn
    rcases hF with rfl | hF
    · exact h1
    · intro e2; rw [e2] at h2; exact h2 hF)
def WrP (w : World) (b : Nat) (v : Value) (L : List Nat) (p wd : Int) (xs : List Int) (s : Value) (wr : World) : Prop := ∃ j : Nat, j ≤ xs.length ∧ s = iv j ∧ WrTo w b v (L ++ (xs.take j).flatMap (resB p wd)) wr
set_option maxHeartbeats 1000000 in
theorem writeRaw_any {w : World} {b : Nat} {v : Value} {bs L : List Nat} (h : Wr w b v bs L) (m wd : Nat) (hm : m ≤ 1) (hwd : wd ≤ 31) (A : Option Addr) (n c : Nat) (xs : List Int) (hx : ISrc w (.slice A n c) xs) (ha : Apart (.slice A n c) b v)
    (hf : ∀ x ∈ xs, fd x < 2 ^ wd) (hl : (L ++ partB m (-1) wd xs).length ≤ 281474976710656) :
    Calls Tryz.prog 74 #[.pointer (some ⟨b, 0, none⟩), iv m, iv wd, .slice A n c] w fun e w' => e = .returned (.tuple #[]) ∧ WrTo w b v (L ++ partB m (-1) wd xs) w' := by
  have hp : isP m (-1) (wd : Int) := .inl ⟨rfl, by omega, by omega⟩
  have hn := hx.len
  have hsm := hx.small
  have hpl := partB_len m (-1) wd hp xs
  have HX := Lib.hid hx
  clear hx
  have ht : partB m (-1) wd xs = (bitsN (4 + m) (15 + 16 * m) ++ bitsN 5 wd) ++ xs.flatMap (resB (-1) wd) := by unfold partB hdB; rw [if_pos rfl, Int.toNat_natCast]
  rw [List.length_append] at hl
  have hl2 := hl
  rw [ht] at hl2
  simp only [List.length_append, bitsN_len] at hl2
  have HP := Lib.hid (paramSize_any w (m : Int) (by omega))
  have HRc := Lib.hid (rawCode_any w (m : Int) (by omega))
  have e4 : (4 : Int) + (m : Int) = ((4 + m : Nat) : Int) := by omega
  have e15 : (15 : Int) + 16 * (m : Int) = ((15 + 16 * m : Nat) : Int) := by omega
  rw [e4] at HP
  rw [e15] at HRc
  have HPut := Lib.hid (put_bits h (by omega) (4 + m) (15 + 16 * m) (by omega) (by
    obtain rfl | rfl : m = 0 ∨ m = 1 := by omega
    · decide
    · decide))
  have HT := Lib.hid ht
  have HF := Lib.hid hf
  have Hl := Lib.hid hl2
  clear ht hf hl hl2 hpl e4 e15
  generalize 4 + m = m4 at *
  generalize 15 + 16 * m = m15 at *
  have HN : Hid (xs.length = n) := Lib.hid hn.symm
  rw [← hn] at hsm
  clear hn
  go_enter Tryz.func74, Tryz.ntmps74
  go_wp2_with fail
  refine (HP.out).mono ?_
  rintro e w1 ⟨rfl, rfl⟩
  go_wp2_with fail
  refine (HRc.out).mono ?_
  rintro e w1 ⟨rfl, rfl⟩
  go_wp2_with fail
  refine (HPut.out).mono ?_
  rintro e w1 ⟨rfl, v1, bs1, hw1, ho1, hm1⟩
  have HPut2 := Lib.hid (put_bits hw1 (by have := Hl.out; simp only [List.length_append, bitsN_len]; omega) 5 wd (by omega) (by
    have : (31 : Nat) < 2 ^ 5 := by decide
    omega))
  go_wp2_with fail
  refine (HPut2.out).mono ?_
  rintro e w2 ⟨rfl, hwt⟩
  have HW2 := Lib.hid (WrTo.of ho1 hm1 hwt)
  clear hwt hw1 ho1 hm1 HPut HPut2 HP HRc
  go_wp2
  go_loopw [21] (fun s21 wr => WrP w b v ((L ++ bitsN m4 m15) ++ bitsN 5 wd) (-1) wd xs s21 wr) (fun s21 _ => n - (intOf s21).toNat)
  case atStart => exact ⟨0, Nat.zero_le _, rfl, by simpa using HW2.out⟩
  case round =>
    obtain ⟨j, hj, rfl, v3, bs3, hw3, ho3, hm3⟩ := hrel
    rw [HN.out] at hj
    by_cases hlt : j < n
    · have hltx : j < xs.length := by rw [HN.out]; exact hlt
      obtain ⟨ad, rfl, hxj⟩ := (HX.out.wr ho3 ha).at_ hltx
      have hlt2 : (j : Int) < (n : Int) := by omega
      have hfx := HF.out _ (List.getElem_mem hltx)
      have hfit := HX.out.fits _ (List.getElem_mem hltx)
      have HE := Lib.hid (List.take_succ_eq_append_getElem hltx)
      have hle : ((xs.take j).flatMap (resB (-1) wd)).length ≤ (xs.flatMap (resB (-1) wd)).length := by
        rw [resB_sum m _ _ hp, resB_sum m _ _ hp, if_pos rfl, if_pos rfl]
        exact Nat.mul_le_mul_left _ (by rw [List.length_take]; omega)
      have HS := Lib.hid (sgn_bits hw3 (by have := Hl.out; simp only [List.length_append, bitsN_len]; omega) wd xs[j] (by omega) ((isS_fd _ _).2 hfx))
      clear hfx hle
      generalize xs[j] = x at *
      clear hltx
      go_wp2_with fail
      refine (HS.out).mono ?_
      rintro e w4 ⟨rfl, hw4⟩
      go_wp2
      go_roundw
      case rel =>
        refine ⟨j + 1, by rw [HN.out]; omega, by go_num, ?_⟩
        have := WrTo.of ho3 hm3 hw4
        rw [HE.out, List.flatMap_append, List.flatMap_singleton, ← List.append_assoc]
        have er : resB (-1) wd x = bitsN wd (x % 2 ^ wd).toNat := by unfold resB; rw [if_pos rfl, Int.toNat_natCast]
        rw [er]
        exact this
      case measure => simp [intOf]; omega
    · obtain rfl : j = n := by omega
      have hlt2 : decide (j < j) = false := by simp
      go_wp2
      go_end0
      refine ⟨rfl, ?_⟩
      have : xs.take j = xs := by rw [← HN.out]; exact List.take_length
      rw [this] at hw3
      rw [HT.out, ← List.append_assoc, ← List.append_assoc]
      exact ⟨v3, bs3, hw3, ho3, hm3⟩
set_option maxHeartbeats 1000000 in
theorem writeCoded_any {w : World} {b : Nat} {v : Value} {bs L : List Nat} (h : Wr w b v bs L) (m p : Nat) (hm : m ≤ 1) (hpm : p ≤ 14 + 16 * m) (A : Option Addr) (n c : Nat) (xs : List Int) (hx : ISrc w (.slice A n c) xs) (ha : Apart (.slice A n c) b v)
    (hr : ∀ x ∈ xs, isR x) (hf : ∀ x ∈ xs, fd x / 2 ^ p ≤ 65536) (hl : (L ++ partB m p 0 xs).length ≤ 281474976710656) :
    Calls Tryz.prog 75 #[.pointer (some ⟨b, 0, none⟩), iv m, iv p, .slice A n c] w fun e w' => e = .returned (.tuple #[]) ∧ WrTo w b v (L ++ partB m p 0 xs) w' := by
  have hp : isP m (p : Int) 0 := .inr ⟨by omega, by omega, rfl⟩
  have hpn : ¬ ((p : Int) = -1) := by omega
  have hn := hx.len
  have hsm := hx.small
  have HX := Lib.hid hx
  clear hx
  have ht : partB m p 0 xs = bitsN (4 + m) p ++ xs.flatMap (resB p 0) := by unfold partB hdB; rw [if_neg hpn, Int.toNat_natCast]
  rw [List.length_append] at hl
  have hl2 := hl
  rw [ht] at hl2
  simp only [List.length_append, bitsN_len] at hl2
  have HP := Lib.hid (paramSize_any w (m : Int) (by omega))
  have e4 : (4 : Int) + (m : Int) = ((4 + m : Nat) : Int) := by omega
  rw [e4] at HP
  have HPut := Lib.hid (put_bits h (by omega) (4 + m) p (by omega) (by
    obtain rfl | rfl : m = 0 ∨ m = 1 := by omega
    · have : (2 : Nat) ^ (4 + 0) = 16 := by decide
      omega
    · have : (2 : Nat) ^ (4 + 1) = 32 := by decide
      omega))
  have HT := Lib.hid ht
  have HF := Lib.hid hf
  have HR := Lib.hid hr
  have Hl := Lib.hid hl2
  clear ht hf hl hl2 e4 hr
  generalize 4 + m = m4 at *
  have HN : Hid (xs.length = n) := Lib.hid hn.symm
  rw [← hn] at hsm
  clear hn
  have hp30 : p ≤ 30 := by omega
  clear hpm
  go_enter Tryz.func75, Tryz.ntmps75
  go_wp2_with fail
  refine (HP.out).mono ?_
  rintro e w1 ⟨rfl, rfl⟩
  go_wp2_with fail
  refine (HPut.out).mono ?_
  rintro e w2 ⟨rfl, hwt⟩
  have HW2 := Lib.hid hwt
  clear hwt HPut HP
  go_wp2
  go_loopw [18] (fun s18 wr => WrP w b v (L ++ bitsN m4 p) p 0 xs s18 wr) (fun s18 _ => n - (intOf s18).toNat)
  case atStart => exact ⟨0, Nat.zero_le _, rfl, by simpa using HW2.out⟩
  case round =>
    obtain ⟨j, hj, rfl, v3, bs3, hw3, ho3, hm3⟩ := hrel
    rw [HN.out] at hj
    by_cases hlt : j < n
    · have hltx : j < xs.length := by rw [HN.out]; exact hlt
      obtain ⟨ad, rfl, hxj⟩ := (HX.out.wr ho3 ha).at_ hltx
      have hlt2 : (j : Int) < (n : Int) := by omega
      have hfx := HF.out _ (List.getElem_mem hltx)
      have hrx := HR.out _ (List.getElem_mem hltx)
      have hfit := HX.out.fits _ (List.getElem_mem hltx)
      have HE := Lib.hid (List.take_succ_eq_append_getElem hltx)
      have hle : ((xs.take (j + 1)).flatMap (resB p 0)).length ≤ (xs.flatMap (resB p 0)).length := by
        have e : xs.flatMap (resB p 0) = (xs.take (j + 1)).flatMap (resB p 0) ++ (xs.drop (j + 1)).flatMap (resB p 0) := by rw [← List.flatMap_append, List.take_append_drop]
        rw [e, List.length_append]
        omega
      rw [HE.out, List.flatMap_append, List.flatMap_singleton, List.length_append, resB_len m _ _ hp, if_neg hpn, Int.toNat_natCast] at hle
      have hlen2 := Hl.out
      generalize hfq : fd xs[j] / 2 ^ p = fq at *
      have HU := Lib.hid (un_bits hw3 (by simp only [List.length_append, bitsN_len]; omega) fq hfx)
      have er : Hid (resB p 0 xs[j] = (List.replicate fq 0 ++ [1]) ++ bitsN p (fd xs[j] % 2 ^ p)) := Lib.hid (by unfold resB; rw [if_neg hpn, Int.toNat_natCast, hfq])
      have HFo := Lib.hid (fold_any wr xs[j] hrx)
      have hfl := fd_lt hrx
      have hdv : ((fd xs[j] : Nat) : Int) / 2 ^ p = (fq : Int) := by rw [pow_cast, ← Int.natCast_ediv, hfq]
      have hmk := i64_mask (fd xs[j]) p (by omega) (by omega)
      have hml := Nat.mod_lt (fd xs[j]) (Nat.two_pow_pos p)
      have HP2 : ∀ {u : World} {v4 : Value} {bs4 : List Nat}, Wr u b v4 bs4 ((L ++ bitsN m4 p ++ (xs.take j).flatMap (resB p 0)) ++ (List.replicate fq 0 ++ [1])) → Hid (Calls Tryz.prog 68 #[.pointer (some ⟨b, 0, none⟩), iv p, iv (fd xs[j] % 2 ^ p : Nat)] u fun e w' => e = .returned (iv 0) ∧ WrTo u b v4 (((L ++ bitsN m4 p ++ (xs.take j).flatMap (resB p 0)) ++ (List.replicate fq 0 ++ [1])) ++ bitsN p (fd xs[j] % 2 ^ p)) w') :=
        fun hu => Lib.hid (put_bits hu (by simp only [List.length_append, bitsN_len, List.length_replicate, List.length_singleton]; omega) p _ (by omega) hml)
      clear hrx hlen2 hfq
      generalize fd xs[j] % 2 ^ p = fm at *
      generalize fd xs[j] = f at *
      generalize xs[j] = x at *
      clear hltx
      go_wp2_with fail
      refine (HFo.out).mono ?_
      rintro e w4 ⟨rfl, rfl⟩
      go_wp2_with fail
      refine (HU.out).mono ?_
      rintro e w4 ⟨rfl, v4, bs4, hw4, ho4, hm4⟩
      have HP3 := HP2 hw4
      clear HP2
      go_wp2_with fail
      refine (HP3.out).mono ?_
      rintro e w5 ⟨rfl, hw5⟩
      go_wp2
      go_roundw
      case rel =>
        refine ⟨j + 1, by rw [HN.out]; omega, by go_num, ?_⟩
        have := WrTo.of ho3 hm3 (WrTo.of ho4 hm4 hw5)
        rw [HE.out, List.flatMap_append, List.flatMap_singleton, er.out, ← List.append_assoc, ← List.append_assoc]
        exact this
      case measure => simp [intOf]; omega
    · obtain rfl : j = n := by omega
      have hlt2 : decide (j < j) = false := by simp
      go_wp2
      go_end0
      refine ⟨rfl, ?_⟩
      have : xs.take j = xs := by rw [← HN.out]; exact List.take_length
      rw [this] at hw3
      rw [HT.out, ← List.append_assoc]
      exact ⟨v3, bs3, hw3, ho3, hm3⟩
end Go.Proofs.YteklfkpeaadinaaGreatDoor
namespace Go.Proofs.YteklfkpeaadinaaGreatDoor
open Go.RowKit Go.Shelf
attribute [local go_sem] Oper.semAt_some
theorem ckB_zero {b s : Int} (h : ckB b s = 0) : 1 ≤ b ∧ b ≤ 65535 ∧ 0 ≤ s ∧ s ≤ 32 := by
  unfold ckB at h
  split at h
  · cases h
  · omega
theorem ckH_zero {m o b s : Int} (h : ckH m o b s = 0) : ∃ m' o' b' s' : Nat, m = (m' : Int) ∧ o = (o' : Int) ∧ b = (b' : Int) ∧ s = (s' : Int) ∧ m' ≤ 1 ∧ o' ≤ 15 ∧ 1 ≤ b' ∧ b' ≤ 65535 ∧ s' ≤ 32 ∧ ckB b s = 0 ∧ ckP o' b' s' = 0 := by
  unfold ckH at h
  by_cases h1 : ckB b s = 0
  · rw [if_neg (by simpa using h1)] at h
    obtain ⟨k1, k2, k3, k4⟩ := ckB_zero h1
    split at h
    · cases h
    · rename_i hh
      obtain ⟨m, rfl⟩ := Int.eq_ofNat_of_zero_le (show 0 ≤ m by omega)
      obtain ⟨o, rfl⟩ := Int.eq_ofNat_of_zero_le (show 0 ≤ o by omega)
      obtain ⟨b, rfl⟩ := Int.eq_ofNat_of_zero_le (show 0 ≤ b by omega)
      obtain ⟨s, rfl⟩ := Int.eq_ofNat_of_zero_le (show 0 ≤ s by omega)
      exact ⟨m, o, b, s, rfl, rfl, rfl, rfl, by omega, by omega, by omega, by omega, by omega, h1, by simpa using h⟩
  · rw [if_pos h1] at h
    cases h
theorem ckP_zero {o b s : Nat} (h : ckP o b s = 0) : 2 ^ o * (b / 2 ^ o) = b ∧ s < b / 2 ^ o := by
  unfold ckP at h
  split at h
  · cases h
  · rename_i hh
    have h1 : b % 2 ^ o = 0 := Classical.byContradiction fun hc => hh (.inl hc)
    have h2 := Nat.div_add_mod b (2 ^ o)
    rw [h1] at h2
    exact ⟨by omega, Classical.byContradiction fun hc => hh (.inr (by omega))⟩
theorem check_any {w : World} (m o b s : Int) (A A' : Option Addr) (n n' c c' : Nat) (ps bs : List Int) (hx : ISrc w (.slice A n c) ps) (hy : ISrc w (.slice A' n' c') bs) :
    Calls Tryz.prog 96 #[planV m o (.slice A n c) (.slice A' n' c'), iv b, iv s] w fun e w' => e = .returned (iv (ckC m o ps bs b s)) ∧ Only Nix w w' := by
  obtain rfl := hx.len
  obtain rfl := hy.len
  by_cases h : ckH m o b s = 0
  · obtain ⟨m, o, b, s, rfl, rfl, rfl, rfl, h1, h2, h3, h4, h5, h6, h7⟩ := ckH_zero h
    refine check_parts m o b s (by omega) h2 h4 h6 h7 A A' c c' ps bs hx hy _ ?_
    unfold ckC
    rw [if_neg (by simpa using h), Int.toNat_natCast]
  · have : ckC m o ps bs b s = ckH m o b s := by unfold ckC; rw [if_pos h]
    rw [this]
    exact check_head m o b s _ _ rfl rfl h
/-- may residuals be written by a plan: Size's error -/
noncomputable def sizeE (m o : Int) (ps bs : List Int) (s : Int) (l : List Int) : Int :=
  if ckC m o ps bs ((l.length : Int) + s) s ≠ 0 then ckC m o ps bs ((l.length : Int) + s) s else
    @ite _ ((∀ x ∈ l, isR x) ∧ mayAll ((l.length + s.toNat) / 2 ^ o.toNat) s.toNat (2 ^ o.toNat) ps bs (l.map fd)) (Classical.propDecidable _) 0 10
/-- Size's number -/
noncomputable def sizeN (m o : Int) (ps bs : List Int) (s : Int) (l : List Int) : Nat :=
  if sizeE m o ps bs s l = 0 then 6 + szL ((l.length + s.toNat) / 2 ^ o.toNat) s.toNat m.toNat ps bs (l.map fd) (List.range (2 ^ o.toNat)) else 0
/-- all that is so where residuals may be written -/
structure Fine (m o s P S : Nat) (ps bs l : List Int) : Prop where
  m1 : m ≤ 1
  o15 : o ≤ 15
  s32 : s ≤ 32
  pw : 2 ^ o = P
  eq : P * S = l.length + s
  lt : s < S
  big : l.length + s ≤ 65535
  np : ps.length = P
  nb : bs.length = P
  all : allP m ps bs
  res : ∀ x ∈ l, isR x
  may : mayAll S s P ps bs (l.map fd)
theorem ckC_zero {m o : Int} {ps bs : List Int} {b s : Int} (h : ckC m o ps bs b s = 0) : ckH m o b s = 0 ∧ ps.length = 2 ^ o.toNat ∧ bs.length = 2 ^ o.toNat ∧ allP m ps bs := by
  unfold ckC at h
  by_cases h1 : ckH m o b s = 0
  · rw [if_neg (by simpa using h1)] at h
    split at h
    · cases h
    · rename_i hh
      split at h
      · exact ⟨h1, by omega, by omega, by assumption⟩
      · cases h
  · rw [if_pos h1] at h
    exact absurd h h1
theorem sizeE_zero {m o : Int} {ps bs : List Int} {s : Int} {l : List Int} (h : sizeE m o ps bs s l = 0) : ∃ m' o' s' : Nat, m = (m' : Int) ∧ o = (o' : Int) ∧ s = (s' : Int) ∧ Fine m' o' s' (2 ^ o') ((l.length + s') / 2 ^ o') ps bs l := by
  unfold sizeE at h
  by_cases h1 : ckC m o ps bs ((l.length : Int) + s) s = 0
  · rw [if_neg (by simpa using h1)] at h
    obtain ⟨k1, k2, k3, k4⟩ := ckC_zero h1
    obtain ⟨m, o, b, s, rfl, rfl, e, rfl, j1, j2, j3, j4, j5, j6, j7⟩ := ckH_zero k1
    obtain rfl : b = l.length + s := by omega
    obtain ⟨i1, i2⟩ := ckP_zero j7
    split at h
    · rename_i hh
      simp only [Int.toNat_natCast] at hh k2 k3
      exact ⟨m, o, s, rfl, rfl, rfl, j1, j2, j5, rfl, i1, i2, j4, k2, k3, k4, hh.1, hh.2⟩
    · cases h
  · rw [if_pos h1] at h
    exact absurd h h1
theorem Fine.sizeE {m o s P S : Nat} {ps bs l : List Int} (h : Fine m o s P S ps bs l) : sizeE m o ps bs s l = 0 := by
  obtain ⟨m1, o15, s32, rfl, eq, lt, big, np, nb, all, res, may⟩ := h
  have hp := Nat.two_pow_pos o
  have hS : (l.length + s) / 2 ^ o = S := by rw [← eq]; exact Nat.mul_div_cancel_left _ hp
  have hl : 1 ≤ l.length + s := by
    have := Nat.le_mul_of_pos_left S hp
    omega
  have hB : ckB ((l.length : Int) + s) s = 0 := by unfold ckB; rw [if_neg (by omega)]
  have hH : ckH m o ((l.length : Int) + s) s = 0 := by
    unfold ckH
    rw [if_neg (by simpa using hB), if_neg (by omega)]
    simp only [Int.toNat_natCast]
    rw [show ((l.length : Int) + (s : Int)).toNat = l.length + s from by omega]
    unfold ckP
    rw [if_neg]
    rw [hS, ← eq]
    simp
    omega
  have hC : ckC m o ps bs ((l.length : Int) + s) s = 0 := by
    unfold ckC
    rw [if_neg (by simpa using hH), Int.toNat_natCast, if_neg (by omega), if_pos all]
  unfold Go.Proofs.YteklfkpeaadinaaGreatDoor.sizeE
  rw [if_neg (by simpa using hC)]
  refine if_pos ⟨res, ?_⟩
  simp only [Int.toNat_natCast]
  rw [hS]
  exact may
set_option maxRecDepth 100000 in
set_option maxHeartbeats 2000000 in
theorem size_err {w : World} (m o s E : Int) (n c : Nat) (A Ap Ab : Option Addr) (np nb cp cb : Nat) (hs0 : -9223372036854775808 ≤ s) (hs1 : s ≤ 4611686018427387904) (hn : n ≤ 140737488355328) (hE : E ≠ 0)
    (HCk : ∀ u, Only Nix w u → Calls Tryz.prog 96 #[planV m o (.slice Ap np cp) (.slice Ab nb cb), iv ((n : Int) + s), iv s] u fun e w' => e = .returned (iv E) ∧ Only Nix u w') :
    Calls Tryz.prog 72 #[planV m o (.slice Ap np cp) (.slice Ab nb cb), iv s, .slice A n c] w fun e w' => e = two 0 E ∧ Only Nix w w' := by
  have a0 := (((Only.refl Nix w).alloc (.cells #[iv m, iv o, .slice Ap np cp, .slice Ab nb cb] 26)).alloc (.cells #[Value.int .i64 0] 3)).alloc (.cells #[Value.int .i64 0] 35)
  have B1 := Lib.hid ((Box.new (w.alloc (.cells #[iv m, iv o, .slice Ap np cp, .slice Ab nb cb] 26)) 3 #[Value.int .i64 0]).alloc (.cells #[Value.int .i64 0] 35))
  have B2 := Lib.hid (Box.new ((w.alloc (.cells #[iv m, iv o, .slice Ap np cp, .slice Ab nb cb] 26)).alloc (.cells #[Value.int .i64 0] 3)) 35 #[Value.int .i64 0])
  rw [World.size_alloc] at B1
  rw [World.size_alloc, World.size_alloc] at B2
  have HC1 := Lib.hid (HCk _ a0)
  have hE2 : (E != 0) = true := by simpa using hE
  clear HCk
  refine (callsIn_wide (n := 4)).1 ?_
  refine callsIn_of_wp_marks Tryz.func72 rfl trivial ?_ rfl
  simp only [Tryz.ntmps72, List.size_toArray, List.length_cons, List.length_nil, Nat.reduceAdd, Nat.reduceSub, Array.replicate_succ, Array.replicate_zero, List.push_toArray, List.append_toArray, List.nil_append, List.cons_append]
  gi_wp2_with fail
  refine ⟨trivial, (callsIn_wide.2 HC1.out).mono ?_⟩
  rintro e w1 ⟨rfl, o1⟩
  have B11 := Lib.hid (B1.out.only o1 (fun e => e))
  have B21 := Lib.hid (B2.out.only o1 (fun e => e))
  have oA := a0.trans o1
  clear o1 HC1 B1 B2 a0
  have f6 := B11.out.frozen 0
  have f7 := B21.out.frozen 0
  have c6 := B11.out.cell 0
  have c7 := B21.out.cell 0
  simp only [List.getElem?_toArray, List.getElem?_cons_zero] at c6 c7
  gi_wp2
  have y6 := ((B11.out.put 0 (Value.int .i64 0)).off (p := ⟨w.heap.size + 1 + 1, 0, none⟩) (by show w.heap.size + 1 ≠ w.heap.size + 1 + 1; omega) (iv E)).cell 0
  have y7 := ((B21.out.off (p := ⟨w.heap.size + 1, 0, none⟩) (by show w.heap.size + 1 + 1 ≠ w.heap.size + 1; omega) (Value.int .i64 0)).put 0 (iv E)).cell 0
  simp at y6 y7
  refine ⟨.tuple #[iv 0, iv E], ?_, rfl, (oA.setCell (p := ⟨w.heap.size + 1, 0, none⟩) (.inr (by show w.heap.size ≤ w.heap.size + 1; omega)) _).setCell (p := ⟨w.heap.size + 1 + 1, 0, none⟩) (.inr (by show w.heap.size ≤ w.heap.size + 1 + 1; omega)) _⟩
  simp [results, Tryz.f72, go_sem, y6, y7]
theorem sizeR_any {w : World} (m o s : Int) (n c : Nat) (A Ap Ab : Option Addr) (np nb cp cb : Nat) (ps bs l : List Int) (hs0 : -9223372036854775808 ≤ s) (hs1 : s ≤ 4611686018427387904)
    (hl : ISrc w (.slice A n c) l) (hps : ISrc w (.slice Ap np cp) ps) (hbs : ISrc w (.slice Ab nb cb) bs) :
    Calls Tryz.prog 72 #[planV m o (.slice Ap np cp) (.slice Ab nb cb), iv s, .slice A n c] w fun e w' => e = two (sizeN m o ps bs s l) (sizeE m o ps bs s l) ∧ Only Nix w w' := by
  have hn := hl.len
  have HCk : ∀ u, Only Nix w u → Calls Tryz.prog 96 #[planV m o (.slice Ap np cp) (.slice Ab nb cb), iv ((n : Int) + s), iv s] u fun e w' => e = .returned (iv (ckC m o ps bs ((n : Int) + s) s)) ∧ Only Nix u w' :=
    fun u hu => check_any m o ((n : Int) + s) s Ap Ab np nb cp cb ps bs (hps.nix hu) (hbs.nix hu)
  by_cases h1 : ckC m o ps bs ((n : Int) + s) s = 0
  · rw [h1] at HCk
    obtain ⟨k1, k2, k3, k4⟩ := ckC_zero h1
    obtain ⟨m, o, b, s, rfl, rfl, e, rfl, j1, j2, j3, j4, j5, j6, j7⟩ := ckH_zero k1
    obtain rfl : b = n + s := by omega
    obtain ⟨i1, i2⟩ := ckP_zero j7
    simp only [Int.toNat_natCast] at k2 k3
    refine (size_walk m o s (2 ^ o) ((n + s) / 2 ^ o) c n j1 j2 rfl l hn.symm i1 i2 j4 A Ap Ab np nb cp cb ps bs k2 k3 k4 hl hps hbs HCk).mono ?_
    subst hn
    rintro e w' ⟨⟨hg, rfl⟩ | ⟨hg, rfl⟩, ho⟩
    · have hE : sizeE m o ps bs s l = 0 := by unfold sizeE; rw [if_neg (by simpa using h1)]; simp only [Int.toNat_natCast]; rw [if_pos hg]
      have hN : sizeN m o ps bs s l = 6 + szL ((l.length + s) / 2 ^ o) s m ps bs (l.map fd) (List.range (2 ^ o)) := by unfold sizeN; rw [if_pos hE]; simp only [Int.toNat_natCast]
      rw [hE, hN]
      exact ⟨rfl, ho⟩
    · have hE : sizeE m o ps bs s l = 10 := by unfold sizeE; rw [if_neg (by simpa using h1)]; simp only [Int.toNat_natCast]; rw [if_neg hg]
      have hN : sizeN m o ps bs s l = 0 := by unfold sizeN; rw [hE]; rfl
      rw [hE, hN]
      exact ⟨rfl, ho⟩
  · have hE : sizeE m o ps bs s l = ckC m o ps bs ((n : Int) + s) s := by unfold sizeE; rw [← hn, if_pos h1]
    have hN : sizeN m o ps bs s l = 0 := by unfold sizeN; rw [hE, if_neg h1]
    rw [hE, hN]
    exact size_err m o s _ n c A Ap Ab np nb cp cb hs0 hs1 (by have := hl.small; omega) h1 HCk
end Go.Proofs.YteklfkpeaadinaaGreatDoor
namespace Go.Proofs.YteklfkpeaadinaaGreatDoor
open Go.RowKit Go.Shelf
attribute [local go_sem] Oper.semAt_some
/-- a Writer's blocks are cells -/
theorem Wr.cells {w : World} {b : Nat} {v : Value} {bs l : List Nat} (h : Wr w b v bs l) (k : Nat) (hk : WF b v k) : ∃ t cs, Box w k t cs := by
  rcases hk with rfl | hk
  · exact ⟨_, _, h.box⟩
  · rcases h.own.2 with ⟨rfl, _⟩ | ⟨g, cap, cur, rfl, _, hgg, _⟩
    · simp [Value.ownBlock] at hk
    · have hgb : g = k := by simpa [Value.ownBlock] using hk
      subst hgb
      exact ⟨_, _, hgg⟩
theorem Wr.abide {X Y : World} {b B : Nat} {v : Value} {bs l : List Nat} {row : Option Nat} (h : Wr X b v bs l) (hg : X.grownBy Y row) (hr : ∀ r, row = some r → B ≤ r ∧ ∃ o : Obj, X.heap[r]? = some o ∧ o.isCells = false) : Wr Y b v bs l := by
  have ho : Only (fun k => row = some k) X Y := ⟨hg.os, hg.tape, hg.output, hg.size, fun k hk hn => hg.block k hk (fun e => hn e.symm)⟩
  have hne : ∀ k, WF b v k → ¬ row = some k := fun k hk e => by
    obtain ⟨_, o, ho, hc⟩ := hr k e
    obtain ⟨t, cs, hb⟩ := h.cells k hk
    rw [show X.heap[k]? = _ from hb] at ho
    cases ho
    cases hc
  exact h.keep ho (hne b (.inl rfl)) (fun g hgv => hne g (.inr hgv))
theorem WrTo.abide {w X Y : World} {b B : Nat} {v : Value} {l : List Nat} {row : Option Nat} (hB : w.heap.size ≤ B) (h : WrTo w b v l X) (hg : X.grownBy Y row) (hr : ∀ r, row = some r → B ≤ r ∧ ∃ o : Obj, X.heap[r]? = some o ∧ o.isCells = false) : WrTo w b v l Y := by
  obtain ⟨v', bs', h1, h2, h3⟩ := h
  exact ⟨v', bs', h1.abide hg hr, own_only (β := Unit) hB () _ _ _ h2 hg hr, h3⟩
theorem pt_subI {w : World} {ad : Addr} {n c : Nat} {xs : List Int} (S s P : Nat) (h : ISrc w (.slice (some ad) n c) xs) (hS : s < S) (hn : P * S = n + s) (k : Nat) (hk : k < P) :
    ISrc w (.slice (some (ad.add (frm S s k))) (frm S s (k + 1) - frm S s k) (c - frm S s k)) (pt S s xs k) := by
  have hl := h.len
  have h1 := (frm_step S s k hS).1
  have h2 := frm_le S s (k + 1) P n hk hn
  have h3 := h.cap
  exact h.sub _ _ (by omega) _ (by omega)
theorem notYet {ops : Array Oper} {L : Nat → Bool} (hc : ∀ j o k, ops[j]? = some o → L j = true → needs o k = true → L k = true) {j k : Nat} {o : Oper} (ho : ops[j]? = some o) (hn : needs o k = true) (hk : L k = false) : L j = false := by
  cases h : L j with
  | false => rfl
  | true => rw [hc j o k ho h hn] at hk; cases hk
/-- a call has been made, or not yet -/
structure CaW (i : Nat) (W : World) (Q : World → Prop) (L : Nat → Bool) (u : World) : Prop where
  no : L i = false → ∃ k, u = W.drewN k
  yes : L i = true → Q u
theorem CaW.same {i j : Nat} {W : World} {Q : World → Prop} {L : Nat → Bool} {u : World} (h : CaW i W Q L u) (hj : i ≠ j) : CaW i W Q (andOne L j) u :=
  ⟨fun e => h.no (by unfold andOne at e; rwa [if_neg hj] at e), fun e => h.yes (by unfold andOne at e; rwa [if_neg hj] at e)⟩
theorem CaW.made {i : Nat} {W : World} {Q : World → Prop} {L : Nat → Bool} {u : World} (h : Q u) : CaW i W Q (andOne L i) u :=
  ⟨(fun e => by unfold andOne at e; rw [if_pos rfl] at e; cases e), fun _ => h⟩
/-- Write between two rounds -/
structure WrI (w : World) (b : Nat) (v : Value) (L : List Nat) (z o s : Nat) (sl : Value) (plan : Array Value) (W : World) : Prop where
  wt : WrTo w b v L W
  b4 : Box W w.heap.size 33 #[.pointer (some ⟨b, 0, none⟩)]
  b5 : Box W (w.heap.size + 1) 26 plan
  its : Its W z o s sl
  big : z + 3 ≤ W.heap.size
theorem WrI.own {w : World} {b : Nat} {v : Value} {LL : List Nat → List Nat} {z o s : Nat} {sl : Value} {plan : Array Value} {P B : Nat} (hB : w.heap.size ≤ B) : OwnFrom B (fun (pre : List (Fin P)) W => WrI w b v (LL (pre.map Fin.val)) z o s sl plan W) :=
  fun _ _ _ _ hs hg hr => ⟨hs.wt.abide hB hg hr, box_abide hs.b4 hg hr, box_abide hs.b5 hg hr, ⟨box_abide hs.its.b0 hg hr, box_abide hs.its.b1 hg hr, box_abide hs.its.b2 hg hr⟩, Nat.le_trans hs.big hg.size⟩
set_option maxRecDepth 100000 in
set_option maxHeartbeats 4000000 in
theorem write_ok {w : World} {b : Nat} {v : Value} {bs0 L : List Nat} (hW : Wr w b v bs0 L) (m o s P S c n : Nat) (l : List Int) (A Ap Ab : Option Addr) (np nb cp cb : Nat) (ps bs : List Int) (hF : Fine m o s P S ps bs l)
    (hl : ISrc w (.slice A n c) l) (hps : ISrc w (.slice Ap np cp) ps) (hbs : ISrc w (.slice Ab nb cb) bs) (al : Apart (.slice A n c) b v) (ap : Apart (.slice Ap np cp) b v) (ab : Apart (.slice Ab nb cb) b v)
    (hlen : L.length ≤ 4000000000) :
    Calls Tryz.prog 38 #[.pointer (some ⟨b, 0, none⟩), planV m o (.slice Ap np cp) (.slice Ab nb cb), iv s, .slice A n c] w fun e w' => e = .returned (iv 0) ∧ WrTo w b v (L ++ blockB S s P m o ps bs l) w' := by
  have hn := hl.len
  have hbw := hW.box.lt
  have hn1 : 1 ≤ n := by
    have h1 := hF.eq
    have h2 := hF.lt
    have h3 : 0 < P := by rw [← hF.pw]; exact Nat.two_pow_pos o
    have h4 := Nat.le_mul_of_pos_left S h3
    omega
  obtain ⟨ad, rfl, hx00⟩ := hl.at_ (k := 0) (by omega)
  clear hx00
  have a0 := ((Only.refl Nix w).alloc (.cells #[.pointer (some ⟨b, 0, none⟩)] 33)).alloc (.cells #[iv m, iv o, .slice Ap np cp, .slice Ab nb cb] 26)
  have B0 := Lib.hid ((Box.new w 33 #[.pointer (some ⟨b, 0, none⟩)]).alloc (.cells #[iv m, iv o, .slice Ap np cp, .slice Ab nb cb] 26))
  have B1 := Lib.hid (Box.new (w.alloc (.cells #[.pointer (some ⟨b, 0, none⟩)] 33)) 26 #[iv m, iv o, .slice Ap np cp, .slice Ab nb cb])
  rw [World.size_alloc] at B1
  have HSz := Lib.hid (sizeR_any (m : Int) (o : Int) (s : Int) n c (some ad) Ap Ab np nb cp cb ps bs l (by omega) (by have := hF.s32; omega) (hl.nix a0) (hps.nix a0) (hbs.nix a0))
  rw [hF.sizeE] at HSz
  generalize sizeN m o ps bs s l = SN at HSz
  have HFi := Lib.hid hF
  have m1 := hF.m1
  have o15 := hF.o15
  have s32 := hF.s32
  have h16 := hF.big
  rw [← hn] at h16
  have HL := Lib.hid hl
  have HPS := Lib.hid hps
  have HBS := Lib.hid hbs
  have HW := Lib.hid (hW.nix a0)
  have Hlen := Lib.hid hlen
  have Hn := Lib.hid hn
  have Hal := Lib.hid al
  have Hap := Lib.hid ap
  have Hab := Lib.hid ab
  have HW0 := Lib.hid hW
  clear hl hps hbs hF hW hlen hn al ap ab
  have hsz0 : ((w.alloc (.cells #[.pointer (some ⟨b, 0, none⟩)] 33)).alloc (.cells #[iv m, iv o, .slice Ap np cp, .slice Ab nb cb] 26)).heap.size = w.heap.size + 2 := by simp
  refine (callsIn_wide (n := 4)).1 ?_
  refine callsIn_of_wp_marks Tryz.func38 rfl trivial ?_ rfl
  simp only [Tryz.ntmps38, List.size_toArray, List.length_cons, List.length_nil, Nat.reduceAdd, Nat.reduceSub, Array.replicate_succ, Array.replicate_zero, List.push_toArray, List.append_toArray, List.nil_append, List.cons_append]
  gi_wp2_with fail
  refine ⟨trivial, (callsIn_wide.2 HSz.out).mono ?_⟩
  rintro e w1 ⟨rfl, o1⟩
  have B01 := Lib.hid (B0.out.only o1 (fun e => e))
  have B11 := Lib.hid (B1.out.only o1 (fun e => e))
  have oA := a0.trans o1
  have hsz1 := o1.size
  rw [hsz0] at hsz1
  have HW1 := Lib.hid (HW.out.nix o1)
  clear o1 HSz B0 B1 hsz0 a0 HW
  have c4 := B01.out.cell 0
  have c5 := B11.out.cell 0
  have c51 := B11.out.cell 1
  simp only [List.getElem?_toArray, List.getElem?_cons_zero, List.getElem?_cons_succ] at c4 c5 c51
  have HP1 := Lib.hid (put_bits HW1.out (by have := Hlen.out; omega) 2 m (by omega) (by
    have : (2 : Nat) ^ 2 = 4 := by decide
    omega))
  gi_wp2_with fail
  refine ⟨trivial, (callsIn_wide.2 HP1.out).mono ?_⟩
  rintro e w2 ⟨rfl, v2, bs2, hw2, ho2, hm2⟩
  have nb4 : ¬ WF b v w.heap.size := by
    rintro (e | e)
    · omega
    · exact owns_box HW1.out.own B01.out (by decide) e
  have nb5 : ¬ WF b v (w.heap.size + 1) := by
    rintro (e | e)
    · omega
    · exact owns_box HW1.out.own B11.out (by decide) e
  have B02 := Lib.hid (B01.out.only ho2 nb4)
  have B12 := Lib.hid (B11.out.only ho2 nb5)
  have d4 := B02.out.cell 0
  have d51 := B12.out.cell 1
  simp only [List.getElem?_toArray, List.getElem?_cons_zero, List.getElem?_cons_succ] at d4 d51
  have HP2 := Lib.hid (put_bits hw2 (by have := Hlen.out; rw [List.length_append, bitsN_len]; omega) 4 o (by omega) (by
    have : (2 : Nat) ^ 4 = 16 := by decide
    omega))
  gi_wp2_with fail
  refine ⟨trivial, (callsIn_wide.2 HP2.out).mono ?_⟩
  rintro e w3 ⟨rfl, hwt3⟩
  have mb4 : ¬ WF b v2 w.heap.size := by
    rintro (e | e)
    · omega
    · exact owns_box hw2.own B02.out (by decide) e
  have mb5 : ¬ WF b v2 (w.heap.size + 1) := by
    rintro (e | e)
    · omega
    · exact owns_box hw2.own B12.out (by decide) e
  have HWt := Lib.hid (WrTo.of (oA.nix (F := WF b v)) (Moves.refl _ _) (WrTo.of ho2 hm2 hwt3))
  obtain ⟨v3, bs3, hw3, ho3, hm3⟩ := hwt3
  have B03 := Lib.hid (B02.out.only ho3 mb4)
  have B13 := Lib.hid (B12.out.only ho3 mb5)
  have hsz3 : w.heap.size + 2 ≤ w3.heap.size := Nat.le_trans hsz1 (Nat.le_trans ho2.size ho3.size)
  clear HP1 HP2 B01 B11 B02 B12 hw2 ho2 hm2 hw3 ho3 hm3 nb4 nb5 mb4 mb5 c4 c5 c51 d4 d51 HW1
  have d51 := B13.out.cell 1
  simp only [List.getElem?_toArray, List.getElem?_cons_zero, List.getElem?_cons_succ] at d51
  have HPa := Lib.hid (parts_any (w := w3) (o : Int) (s : Int) (some ad) n c)
  gi_wp2_with fail
  refine ⟨trivial, (callsIn_wide.2 HPa.out).mono ?_⟩
  rintro e w4 ⟨rfl, rfl⟩
  gi_wp2_with fail
  have hIts := its_new w3 o s (.slice (some ad) n c)
  have o4 : Only Nix w3 (((w3.alloc (.cells #[iv o] 3)).alloc (.cells #[iv s] 3)).alloc (.cells #[.slice (some ad) n c] 22)) := (((Only.refl Nix w3).alloc _).alloc _).alloc _
  have hsz4 : (((w3.alloc (.cells #[iv o] 3)).alloc (.cells #[iv s] 3)).alloc (.cells #[.slice (some ad) n c] 22)).heap.size = w3.heap.size + 3 := by simp
  generalize (((w3.alloc (.cells #[iv o] 3)).alloc (.cells #[iv s] 3)).alloc (.cells #[.slice (some ad) n c] 22)) = w4 at *
  have HIt := Lib.hid hIts
  have B04 := Lib.hid (B03.out.only o4 (fun e => e))
  have B14 := Lib.hid (B13.out.only o4 (fun e => e))
  have HWt4 : Hid (WrTo w b v (L ++ (bitsN 2 m ++ bitsN 4 o)) w4) := by
    refine Lib.hid ?_
    obtain ⟨v5, bs5, k1, k2, k3⟩ := HWt.out
    rw [← List.append_assoc]
    exact ⟨v5, bs5, k1.nix o4, k2.trans o4.nix, k3⟩
  clear hIts HPa HWt B03 B13 o4 d51
  have hPe := HFi.out.pw
  have hS := HFi.out.lt
  have hE0 := HFi.out.eq
  rw [← Hn.out] at hE0
  have hcap := HL.out.cap
  rw [← Hn.out] at hcap
  refine wpIn_rangeFunc_ownG rfl (by decide) (gf := 99) (lb := itsV w3.heap.size) rfl trivial (enters_of Tryz.func99 (by kernel_rfl) rfl)
    (parts_stops o15 hPe hE0 hS h16 hcap (by omega) HIt.out) KeepB.t (KeepB.b (by omega)) (Below.refl _ _) (fun _ => rfl)
    (fun pre W => WrI w b v (L ++ ((bitsN 2 m ++ bitsN 4 o) ++ (pre.map Fin.val).flatMap fun k => partB m (ps.getD k 0) (bs.getD k 0) (pt S s l k))) w3.heap.size o s (.slice (some ad) n c) #[iv m, iv o, .slice Ap np cp, .slice Ab nb cb] W)
    (fun _ _ _ => False)
    (WrI.own (LL := fun ks => L ++ ((bitsN 2 m ++ bitsN 4 o) ++ ks.flatMap fun k => partB m (ps.getD k 0) (bs.getD k 0) (pt S s l k))) (by omega))
    (fun _ _ _ _ _ hs _ _ => hs)
    ⟨by simpa using HWt4.out, B04.out, B14.out, HIt.out, by omega⟩
    (fun x => { tmps := #[.pointer (some ⟨b, 0, none⟩), planV m o (.slice Ap np cp) (.slice Ab nb cb), iv s, .slice (some ad) n c, .pointer (some ⟨w.heap.size, 0, none⟩), .pointer (some ⟨w.heap.size + 1, 0, none⟩), undef, undef, .int .i64 0, .int .i64 (SN : Int), .int .i64 0, iv (x.val : Int), (.slice (some (ad.add (frm S s x.val))) (frm S s (x.val + 1) - frm S s x.val) (c - frm S s x.val)), .pointer (some ⟨b, 0, none⟩), .bool false, .tuple #[.int .i64 (SN : Int), .int .i64 0], .agg #[iv m, iv o, .slice Ap np cp, .slice Ab nb cb], iv s, .slice (some ad) n c, .tuple #[.int .i64 (SN : Int), .int .i64 0], .int .i64 (SN : Int), .int .i64 0, .int .i64 0, .bool false, undef, .pointer (some ⟨b, 0, none⟩), .pointer (some ⟨w.heap.size + 1, 0, none⟩), iv m, iv 0, .pointer (some ⟨b, 0, none⟩), .pointer (some ⟨w.heap.size + 1, 1, none⟩), iv o, iv 0, .pointer (some ⟨w.heap.size + 1, 1, none⟩), iv o, iv s, .slice (some ad) n c, .func (.func 99) #[] (itsV w3.heap.size), iv (x.val : Int), (.slice (some (ad.add (frm S s x.val))) (frm S s (x.val + 1) - frm S s x.val) (c - frm S s x.val)), undef, undef, undef, undef, undef, undef, undef, undef, undef, undef, undef, undef, undef, undef, undef, undef, undef, undef, undef, undef, undef, undef, undef, undef, undef, undef], defers := [] }) ?assign ?body ?done ?stop
  case assign =>
    intro l x W K hK
    unfold partE
    gi_wp2
    exact hK
  case body =>
    rintro lp pre x W ⟨⟨v5, bs5, hw5, ho5, hm5⟩, b4, b5, hit, hbig⟩ hpl
    have hkP := x.isLt
    have hnp := HFi.out.np
    have hnb := HFi.out.nb
    have nA : ∀ (vv : Value) (xs : List Int), ISrc w vv xs → Apart vv b v → Apart vv b v5 := fun vv xs hs ha ad' n' c' e hn' => by
      obtain ⟨h1, h2⟩ := ha ad' n' c' e hn'
      refine ⟨h1, fun e2 => ?_⟩
      rcases hm5 _ e2 with h3 | h3
      · exact h2 h3
      · subst e
        have hl := hs.len
        obtain ⟨ad2, e3, hc⟩ := hs.at_ (k := 0) (by omega)
        injection e3 with e3
        subst e3
        have := World.block_lt_of_cell? w _ hc
        rw [add_block] at this
        omega
    have hlW := HL.out.wr ho5 Hal.out
    have hpt := pt_subI S s P hlW hS hE0 x.val hkP
    have apt : Apart (.slice (some (ad.add (frm S s x.val))) (frm S s (x.val + 1) - frm S s x.val) (c - frm S s x.val)) b v5 := fun ad' n' c' e hn' => by
      injection e with e1 _ _
      injection e1 with e1
      subst e1
      rw [add_block]
      exact nA _ _ HL.out Hal.out ad n c rfl (by omega)
    have hptl := pt_len S s P l x.val hS hkP (by rw [← Hn.out]; exact hE0)
    have hst := (frm_step S s x.val hS).1
    have hfl := frm_le S s (x.val + 1) P n hkP hE0
    obtain ⟨adp, rfl, qp⟩ := (HPS.out.wr ho5 Hap.out).at_ (k := x.val) (by rw [hnp]; exact hkP)
    obtain ⟨adb, rfl, qb⟩ := (HBS.out.wr ho5 Hab.out).at_ (k := x.val) (by rw [hnb]; exact hkP)
    have hip := HFi.out.all x.val (by rw [hnp]; exact hkP) (by rw [hnb]; exact hkP)
    have hmy := HFi.out.may x.val hkP
    have ep : ps.getD x.val 0 = ps[x.val]'(by rw [hnp]; exact hkP) := by rw [List.getD_eq_getElem?_getD, List.getElem?_eq_getElem (by rw [hnp]; exact hkP)]; rfl
    have eb : bs.getD x.val 0 = bs[x.val]'(by rw [hnb]; exact hkP) := by rw [List.getD_eq_getElem?_getD, List.getElem?_eq_getElem (by rw [hnb]; exact hkP)]; rfl
    rw [← ep] at qp hip
    rw [← eb] at qb hip
    have hnpl : np = P := by rw [HPS.out.len, hnp]
    have hnbl : nb = P := by rw [HBS.out.len, hnb]
    have hkn : x.val < np := by omega
    have hkb : x.val < nb := by omega
    have hkn2 : (x.val : Int) < (np : Int) := by omega
    have hkb2 : (x.val : Int) < (nb : Int) := by omega
    have hkl : x.val ≤ 32768 := by
      have h32 : P ≤ 32768 := by rw [← hPe]; exact Nat.pow_le_pow_right (by decide) o15
      omega
    have hres : ∀ y ∈ pt S s l x.val, isR y := fun y hy => HFi.out.res y (List.mem_of_mem_drop (List.mem_of_mem_take hy))
    have hmap : pt S s (l.map fd) x.val = (pt S s l x.val).map fd := by unfold pt; rw [List.map_take, List.map_drop]
    rw [hmap] at hmy
    have hlenP : (L ++ ((bitsN 2 m ++ bitsN 4 o) ++ (pre.map Fin.val).flatMap fun k => partB m (ps.getD k 0) (bs.getD k 0) (pt S s l k))).length + (partB m (ps.getD x.val 0) (bs.getD x.val 0) (pt S s l x.val)).length ≤ 281474976710656 := by
      have hone : ∀ k, k < P → (partB m (ps.getD k 0) (bs.getD k 0) (pt S s l k)).length ≤ 4294967400 * S := fun k hkk => by
        have hw := frm_width S s k
        have hl1 := (frm_step S s k hS).1
        have hl2 := pt_len S s P l k hS hkk (by rw [← Hn.out]; exact hE0)
        have hik : isP m (ps.getD k 0) (bs.getD k 0) := by
          have := HFi.out.all k (by rw [hnp]; exact hkk) (by rw [hnb]; exact hkk)
          rw [List.getD_eq_getElem?_getD, List.getElem?_eq_getElem (by rw [hnp]; exact hkk), List.getD_eq_getElem?_getD, List.getElem?_eq_getElem (by rw [hnb]; exact hkk)]
          exact this
        rw [partB_len m _ _ hik]
        have h2 := szP_bound m (ps.getD k 0) (bs.getD k 0) ((pt S s l k).map fd) m1 hik (by rw [List.length_map, hl2]; omega) (fun y hy => by
          obtain ⟨z, hz, rfl⟩ := List.mem_map.1 hy
          exact fd_lt (HFi.out.res z (List.mem_of_mem_drop (List.mem_of_mem_take hz))))
        rw [List.length_map, hl2] at h2
        have := Nat.mul_le_mul_left 4294967400 hw
        omega
      have hsum : ∀ ks : List Nat, (∀ k ∈ ks, k < P) → (ks.flatMap fun k => partB m (ps.getD k 0) (bs.getD k 0) (pt S s l k)).length ≤ 4294967400 * (ks.length * S) := by
        intro ks
        induction ks with
        | nil => intro _; simp
        | cons k ks ih =>
          intro hk
          have h1 := ih (fun j hj => hk j (List.mem_cons_of_mem _ hj))
          have h2 := hone k (hk k (List.mem_cons_self ..))
          rw [List.flatMap_cons, List.length_append, List.length_cons]
          have e : (ks.length + 1) * S = ks.length * S + S := Nat.succ_mul _ _
          omega
      have h3 := hsum (pre.map Fin.val) (fun k hk => by obtain ⟨f, _, rfl⟩ := List.mem_map.1 hk; exact f.isLt)
      rw [List.length_map] at h3
      have h4 := hone x.val hkP
      have h5 := Nat.mul_le_mul_right S (show pre.length + 1 ≤ P from hpl)
      rw [Nat.succ_mul] at h5
      have h6 := Hlen.out
      rw [List.length_append, List.length_append, List.length_append, bitsN_len, bitsN_len]
      omega
    have hLk : ((pre ++ [x]).map Fin.val).flatMap (fun k => partB m (ps.getD k 0) (bs.getD k 0) (pt S s l k)) = (pre.map Fin.val).flatMap (fun k => partB m (ps.getD k 0) (bs.getD k 0) (pt S s l k)) ++ partB m (ps.getD x.val 0) (bs.getD x.val 0) (pt S s l x.val) := by
      rw [List.map_append, List.flatMap_append]
      simp
    have HFin : Hid (∀ u, WrTo W b v5 ((L ++ ((bitsN 2 m ++ bitsN 4 o) ++ (pre.map Fin.val).flatMap fun k => partB m (ps.getD k 0) (bs.getD k 0) (pt S s l k))) ++ partB m (ps.getD x.val 0) (bs.getD x.val 0) (pt S s l x.val)) u → KeepsFrom w4.heap.size W u ∧ KeepB w3.heap.size W u ∧
        WrI w b v (L ++ ((bitsN 2 m ++ bitsN 4 o) ++ ((pre ++ [x]).map Fin.val).flatMap fun k => partB m (ps.getD k 0) (bs.getD k 0) (pt S s l k))) w3.heap.size o s (.slice (some ad) n c) #[iv m, iv o, .slice (some adp) np cp, .slice (some adb) nb cb] u) := by
      refine Lib.hid (fun u hu => ?_)
      have hu2 := WrTo.of ho5 hm5 hu
      obtain ⟨v6, bs6, k1, k2, k3⟩ := hu
      have no_ : ∀ k t cs, Box W k t cs → w.heap.size ≤ k → t ≠ 5 → ¬ WF b v5 k := fun k t cs hb hk ht => by
        rintro (e | e)
        · omega
        · exact owns_box hw5.own hb (fun e => ht e.symm) e
      have n0 := no_ _ _ _ hit.b0 (by omega) (by decide)
      have n1 := no_ _ _ _ hit.b1 (by omega) (by decide)
      have n2 := no_ _ _ _ hit.b2 (by omega) (by decide)
      have kB : KeepB w3.heap.size W u := KeepB.of k2 hbig (fun k h1 h2 => by
        obtain rfl | rfl | rfl : k = w3.heap.size ∨ k = w3.heap.size + 1 ∨ k = w3.heap.size + 2 := by omega
        · exact n0
        · exact n1
        · exact n2)
      refine ⟨keeps_of k2 (fun k hk _ _ => hw5.cells k hk), kB, ?_, b4.only k2 (no_ _ _ _ b4 (Nat.le_refl _) (by decide)), b5.only k2 (no_ _ _ _ b5 (by omega) (by decide)), hit.keep kB, Nat.le_trans hbig k2.size⟩
      rw [hLk, ← List.append_assoc, ← List.append_assoc]
      rw [← List.append_assoc] at hu2
      exact hu2
    generalize (L ++ ((bitsN 2 m ++ bitsN 4 o) ++ (pre.map Fin.val).flatMap fun k => partB m (ps.getD k 0) (bs.getD k 0) (pt S s l k))) = LW at *
    have q4 := b4.cell 0
    have q0 := b5.cell 0
    have q2 := b5.cell 2
    have q3 := b5.cell 3
    simp only [List.getElem?_toArray, List.getElem?_cons_zero, List.getElem?_cons_succ] at q4 q0 q2 q3
    have HCall : Hid ((ps.getD x.val 0 = -1 → ∀ kk, Hid (Calls Tryz.prog 74 #[.pointer (some ⟨b, 0, none⟩), iv m, iv (bs.getD x.val 0), (Value.slice (some (ad.add (frm S s x.val))) (frm S s (x.val + 1) - frm S s x.val) (c - frm S s x.val))] (W.drewN kk) fun e w' => e = .returned (.tuple #[]) ∧ WrTo W b v5 (LW ++ partB m (ps.getD x.val 0) (bs.getD x.val 0) (pt S s l x.val)) w')) ∧
        (ps.getD x.val 0 ≠ -1 → ∀ kk, Hid (Calls Tryz.prog 75 #[.pointer (some ⟨b, 0, none⟩), iv m, iv (ps.getD x.val 0), (Value.slice (some (ad.add (frm S s x.val))) (frm S s (x.val + 1) - frm S s x.val) (c - frm S s x.val))] (W.drewN kk) fun e w' => e = .returned (.tuple #[]) ∧ WrTo W b v5 (LW ++ partB m (ps.getD x.val 0) (bs.getD x.val 0) (pt S s l x.val)) w'))) := by
      have conv : ∀ kk u Lx, WrTo (W.drewN kk) b v5 Lx u → WrTo W b v5 Lx u := fun kk u Lx h => by
        obtain ⟨v6, bs6, k1, k2, k3⟩ := h
        exact ⟨v6, bs6, k1, ((Only.refl _ W).drewN kk).trans k2, k3⟩
      refine Lib.hid ⟨fun e kk => ?_, fun e kk => ?_⟩
      · rcases hip with ⟨_, h2, h3⟩ | ⟨h2, h3, h4⟩
        · rw [e] at hmy hlenP ⊢
          obtain ⟨wd, ewd⟩ := Int.eq_ofNat_of_zero_le h2
          rw [ewd] at hmy hlenP ⊢
          refine Lib.hid ((writeRaw_any (hw5.drewN kk) m wd m1 (by omega) _ _ _ (pt S s l x.val) (hpt.nix ((Only.refl _ W).drewN kk)) apt ?_ (by rw [List.length_append]; exact hlenP)).mono fun e' u hh => ⟨hh.1, conv kk u _ hh.2⟩)
          intro y hy
          unfold mayP at hmy
          rw [if_pos rfl, Int.toNat_natCast, decide_eq_true_eq] at hmy
          exact Nat.lt_of_le_of_lt (mxN_le _ (List.mem_map.2 ⟨y, hy, rfl⟩)) hmy
        · omega
      · rcases hip with ⟨h1, _⟩ | ⟨h2, h3, h4⟩
        · exact absurd h1 e
        · rw [h4] at hmy hlenP ⊢
          obtain ⟨p, ep2⟩ := Int.eq_ofNat_of_zero_le h2
          rw [ep2] at hmy hlenP ⊢
          refine Lib.hid ((writeCoded_any (hw5.drewN kk) m p m1 (by omega) _ _ _ (pt S s l x.val) (hpt.nix ((Only.refl _ W).drewN kk)) apt hres ?_ (by rw [List.length_append]; exact hlenP)).mono fun e' u hh => ⟨hh.1, conv kk u _ hh.2⟩)
          intro y hy
          unfold mayP at hmy
          rw [if_neg (by omega), Int.toNat_natCast, decide_eq_true_eq] at hmy
          exact Nat.le_trans (Nat.div_le_div_right (mxN_le _ (List.mem_map.2 ⟨y, hy, rfl⟩))) hmy
    clear hmy hip hpt apt hres hlW hLk hlenP hptl hst hfl nA hnpl hnbl hmap
    generalize partB m (ps.getD x.val 0) (bs.getD x.val 0) (pt S s l x.val) = pbits at *
    generalize ps.getD x.val 0 = pk at *
    generalize bs.getD x.val 0 = bk at *
    clear ep eb
    generalize ((Value.slice (some (ad.add (frm S s x.val))) (frm S s (x.val + 1) - frm S s x.val) (c - frm S s x.val)) : Value) = PV at *
    obtain ⟨HCr, HCc⟩ := HCall.out
    clear HCall
    have Hw5 := Lib.hid hw5
    have Ho5 := Lib.hid ho5
    have Hm5 := Lib.hid hm5
    clear hw5 ho5 hm5
    by_cases hpk : pk = -1
    · subst hpk
      have HC := HCr rfl
      clear HCr HCc
      gi_wp2_with fail
      have noOut : ∀ j s, j < 10 → (([some 46, some 47, some 48, some 49, some 50, some 51, some 52, some 53, some 54, some 55] : List (Option Nat)).all fun d => d != some s) = true → ([some 46, some 47, some 48, some 49, some 50, some 51, some 52, some 53, some 54, some 55] : List (Option Nat)).getD j none ≠ some s := by
        intro j s hj ha e
        rw [List.getD_eq_getElem?_getD, List.getElem?_eq_getElem (by exact hj), Option.getD_some] at e
        have := List.all_eq_true.1 ha _ (List.getElem_mem (by exact hj))
        rw [e] at this
        simp at this
      refine region_val_in _ _ (by kernel_rfl) (fun k0 => ([some 46, some 47, some 48, some 49, some 50, some 51, some 52, some 53, some 54, some 55] : List (Option Nat)).getD k0 none) (fun k0 => ([(.pointer (some ⟨b, 0, none⟩)), (.pointer (some ⟨w.heap.size + 1, 0, none⟩)), (iv m), (.pointer (some ⟨w.heap.size + 1, 3, none⟩)), (.slice (some adb) nb cb), (iv (x.val : Int)), (.pointer (some (adb.add x.val))), (iv bk), (PV), (.tuple #[])] : List Value).getD k0 undef) (CaW 9 W (fun u => WrTo W b v5 (LW ++ pbits) u)) 66 10 rfl (by kernel_rfl) (by kernel_rfl) rfl (by kernel_rfl) (by kernel_rfl) (by kernel_rfl) ⟨fun _ => ⟨1, rfl⟩, fun e => by cases e⟩ ?stepsR [(46, .pointer (some ⟨b, 0, none⟩)), (47, .pointer (some ⟨w.heap.size + 1, 0, none⟩)), (48, iv m), (49, .pointer (some ⟨w.heap.size + 1, 3, none⟩)), (50, .slice (some adb) nb cb), (51, iv (x.val : Int)), (52, .pointer (some (adb.add x.val))), (53, iv bk), (54, PV), (55, .tuple #[])] rfl ?doneR
      case stepsR =>
        refine ⟨?_, ?_, ?_, ?_, ?_, ?_, ?_, ?_, ?_, ?_, trivial⟩
        · intro L A' u hW hL0 hnd K' hK
          have r4 : A'.tmps[4]? = some (.pointer (some ⟨w.heap.size, 0, none⟩)) := (hW.out 4 (fun j hj => noOut j 4 hj (by kernel_rfl))).trans rfl
          obtain ⟨kk, rfl⟩ := hW.wi.no (notYet hW.closed (j := 9) (by rfl) (k := 0) (by kernel_rfl) hL0)
          go_simp
          exact hK _ (hW.wi.same (by decide))
        · intro L A' u hW hL0 hnd K' hK
          have r5 : A'.tmps[5]? = some (.pointer (some ⟨w.heap.size + 1, 0, none⟩)) := (hW.out 5 (fun j hj => noOut j 5 hj (by kernel_rfl))).trans rfl
          go_simp
          exact hK _ (hW.wi.same (by decide))
        · intro L A' u hW hL0 hnd K' hK
          have r47 : A'.tmps[47]? = some (.pointer (some ⟨w.heap.size + 1, 0, none⟩)) := hW.val 1 47 (by decide) (hnd 1 (by kernel_rfl)) rfl
          obtain ⟨kk, rfl⟩ := hW.wi.no (notYet hW.closed (j := 9) (by rfl) (k := 2) (by kernel_rfl) hL0)
          go_simp
          exact hK _ (hW.wi.same (by decide))
        · intro L A' u hW hL0 hnd K' hK
          have r5 : A'.tmps[5]? = some (.pointer (some ⟨w.heap.size + 1, 0, none⟩)) := (hW.out 5 (fun j hj => noOut j 5 hj (by kernel_rfl))).trans rfl
          go_simp
          exact hK _ (hW.wi.same (by decide))
        · intro L A' u hW hL0 hnd K' hK
          have r49 : A'.tmps[49]? = some (.pointer (some ⟨w.heap.size + 1, 3, none⟩)) := hW.val 3 49 (by decide) (hnd 3 (by kernel_rfl)) rfl
          obtain ⟨kk, rfl⟩ := hW.wi.no (notYet hW.closed (j := 9) (by rfl) (k := 7) (by kernel_rfl) (notYet hW.closed (j := 7) (by rfl) (k := 6) (by kernel_rfl) (notYet hW.closed (j := 6) (by rfl) (k := 4) (by kernel_rfl) hL0)))
          go_simp
          exact hK _ (hW.wi.same (by decide))
        · intro L A' u hW hL0 hnd K' hK
          have r11 : A'.tmps[11]? = some (iv (x.val : Int)) := (hW.out 11 (fun j hj => noOut j 11 hj (by kernel_rfl))).trans rfl
          go_simp
          exact hK _ (hW.wi.same (by decide))
        · intro L A' u hW hL0 hnd K' hK
          have r50 : A'.tmps[50]? = some (.slice (some adb) nb cb) := hW.val 4 50 (by decide) (hnd 4 (by kernel_rfl)) rfl
          have r51 : A'.tmps[51]? = some (iv (x.val : Int)) := hW.val 5 51 (by decide) (hnd 5 (by kernel_rfl)) rfl
          go_simp
          exact hK _ (hW.wi.same (by decide))
        · intro L A' u hW hL0 hnd K' hK
          have r52 : A'.tmps[52]? = some (.pointer (some (adb.add x.val))) := hW.val 6 52 (by decide) (hnd 6 (by kernel_rfl)) rfl
          obtain ⟨kk, rfl⟩ := hW.wi.no (notYet hW.closed (j := 9) (by rfl) (k := 7) (by kernel_rfl) hL0)
          go_simp
          exact hK _ (hW.wi.same (by decide))
        · intro L A' u hW hL0 hnd K' hK
          have r12 : A'.tmps[12]? = some (PV) := (hW.out 12 (fun j hj => noOut j 12 hj (by kernel_rfl))).trans rfl
          go_simp
          exact hK _ (hW.wi.same (by decide))
        · intro L A' u hW hL0 hnd K' hK
          have r46 : A'.tmps[46]? = some (.pointer (some ⟨b, 0, none⟩)) := hW.val 0 46 (by decide) (hnd 0 (by kernel_rfl)) rfl
          have r48 : A'.tmps[48]? = some (iv m) := hW.val 2 48 (by decide) (hnd 2 (by kernel_rfl)) rfl
          have r53 : A'.tmps[53]? = some (iv bk) := hW.val 7 53 (by decide) (hnd 7 (by kernel_rfl)) rfl
          have r54 : A'.tmps[54]? = some (PV) := hW.val 8 54 (by decide) (hnd 8 (by kernel_rfl)) rfl
          obtain ⟨kk, rfl⟩ := hW.wi.no hL0
          have HCL := Lib.hid (HC kk)
          go_simp
          refine (HCL.out.out).mono ?_
          rintro e' u' ⟨rfl, hq'⟩
          exact hK _ (CaW.made hq')
      case doneR =>
        intro Ls u hWI hall
        have hq := hWI.yes (hall 9 (by decide))
        clear hWI hall noOut
        simp only [putV, List.foldl_cons, List.foldl_nil]
        first
          | exact HFin.out u hq
          | (gi_wp2; exact HFin.out u hq)
    · have hpk2 : (pk == -1) = false := by simpa using hpk
      have HC := HCc hpk
      clear HCr HCc
      gi_wp2_with fail
      have noOut : ∀ j s, j < 10 → (([some 56, some 57, some 58, some 59, some 60, some 61, some 62, some 63, some 64, some 65] : List (Option Nat)).all fun d => d != some s) = true → ([some 56, some 57, some 58, some 59, some 60, some 61, some 62, some 63, some 64, some 65] : List (Option Nat)).getD j none ≠ some s := by
        intro j s hj ha e
        rw [List.getD_eq_getElem?_getD, List.getElem?_eq_getElem (by exact hj), Option.getD_some] at e
        have := List.all_eq_true.1 ha _ (List.getElem_mem (by exact hj))
        rw [e] at this
        simp at this
      refine region_val_in _ _ (by kernel_rfl) (fun k0 => ([some 56, some 57, some 58, some 59, some 60, some 61, some 62, some 63, some 64, some 65] : List (Option Nat)).getD k0 none) (fun k0 => ([(.pointer (some ⟨b, 0, none⟩)), (.pointer (some ⟨w.heap.size + 1, 0, none⟩)), (iv m), (.pointer (some ⟨w.heap.size + 1, 2, none⟩)), (.slice (some adp) np cp), (iv (x.val : Int)), (.pointer (some (adp.add x.val))), (iv pk), (PV), (.tuple #[])] : List Value).getD k0 undef) (CaW 9 W (fun u => WrTo W b v5 (LW ++ pbits) u)) 66 10 rfl (by kernel_rfl) (by kernel_rfl) rfl (by kernel_rfl) (by kernel_rfl) (by kernel_rfl) ⟨fun _ => ⟨1, rfl⟩, fun e => by cases e⟩ ?stepsC [(56, .pointer (some ⟨b, 0, none⟩)), (57, .pointer (some ⟨w.heap.size + 1, 0, none⟩)), (58, iv m), (59, .pointer (some ⟨w.heap.size + 1, 2, none⟩)), (60, .slice (some adp) np cp), (61, iv (x.val : Int)), (62, .pointer (some (adp.add x.val))), (63, iv pk), (64, PV), (65, .tuple #[])] rfl ?doneC
      case stepsC =>
        refine ⟨?_, ?_, ?_, ?_, ?_, ?_, ?_, ?_, ?_, ?_, trivial⟩
        · intro L A' u hW hL0 hnd K' hK
          have r4 : A'.tmps[4]? = some (.pointer (some ⟨w.heap.size, 0, none⟩)) := (hW.out 4 (fun j hj => noOut j 4 hj (by kernel_rfl))).trans rfl
          obtain ⟨kk, rfl⟩ := hW.wi.no (notYet hW.closed (j := 9) (by rfl) (k := 0) (by kernel_rfl) hL0)
          go_simp
          exact hK _ (hW.wi.same (by decide))
        · intro L A' u hW hL0 hnd K' hK
          have r5 : A'.tmps[5]? = some (.pointer (some ⟨w.heap.size + 1, 0, none⟩)) := (hW.out 5 (fun j hj => noOut j 5 hj (by kernel_rfl))).trans rfl
          go_simp
          exact hK _ (hW.wi.same (by decide))
        · intro L A' u hW hL0 hnd K' hK
          have r57 : A'.tmps[57]? = some (.pointer (some ⟨w.heap.size + 1, 0, none⟩)) := hW.val 1 57 (by decide) (hnd 1 (by kernel_rfl)) rfl
          obtain ⟨kk, rfl⟩ := hW.wi.no (notYet hW.closed (j := 9) (by rfl) (k := 2) (by kernel_rfl) hL0)
          go_simp
          exact hK _ (hW.wi.same (by decide))
        · intro L A' u hW hL0 hnd K' hK
          have r5 : A'.tmps[5]? = some (.pointer (some ⟨w.heap.size + 1, 0, none⟩)) := (hW.out 5 (fun j hj => noOut j 5 hj (by kernel_rfl))).trans rfl
          go_simp
          exact hK _ (hW.wi.same (by decide))
        · intro L A' u hW hL0 hnd K' hK
          have r59 : A'.tmps[59]? = some (.pointer (some ⟨w.heap.size + 1, 2, none⟩)) := hW.val 3 59 (by decide) (hnd 3 (by kernel_rfl)) rfl
          obtain ⟨kk, rfl⟩ := hW.wi.no (notYet hW.closed (j := 9) (by rfl) (k := 7) (by kernel_rfl) (notYet hW.closed (j := 7) (by rfl) (k := 6) (by kernel_rfl) (notYet hW.closed (j := 6) (by rfl) (k := 4) (by kernel_rfl) hL0)))
          go_simp
          exact hK _ (hW.wi.same (by decide))
        · intro L A' u hW hL0 hnd K' hK
          have r11 : A'.tmps[11]? = some (iv (x.val : Int)) := (hW.out 11 (fun j hj => noOut j 11 hj (by kernel_rfl))).trans rfl
          go_simp
          exact hK _ (hW.wi.same (by decide))
        · intro L A' u hW hL0 hnd K' hK
          have r60 : A'.tmps[60]? = some (.slice (some adp) np cp) := hW.val 4 60 (by decide) (hnd 4 (by kernel_rfl)) rfl
          have r61 : A'.tmps[61]? = some (iv (x.val : Int)) := hW.val 5 61 (by decide) (hnd 5 (by kernel_rfl)) rfl
          go_simp
          exact hK _ (hW.wi.same (by decide))
        · intro L A' u hW hL0 hnd K' hK
          have r62 : A'.tmps[62]? = some (.pointer (some (adp.add x.val))) := hW.val 6 62 (by decide) (hnd 6 (by kernel_rfl)) rfl
          obtain ⟨kk, rfl⟩ := hW.wi.no (notYet hW.closed (j := 9) (by rfl) (k := 7) (by kernel_rfl) hL0)
          go_simp
          exact hK _ (hW.wi.same (by decide))
        · intro L A' u hW hL0 hnd K' hK
          have r12 : A'.tmps[12]? = some (PV) := (hW.out 12 (fun j hj => noOut j 12 hj (by kernel_rfl))).trans rfl
          go_simp
          exact hK _ (hW.wi.same (by decide))
        · intro L A' u hW hL0 hnd K' hK
          have r56 : A'.tmps[56]? = some (.pointer (some ⟨b, 0, none⟩)) := hW.val 0 56 (by decide) (hnd 0 (by kernel_rfl)) rfl
          have r58 : A'.tmps[58]? = some (iv m) := hW.val 2 58 (by decide) (hnd 2 (by kernel_rfl)) rfl
          have r63 : A'.tmps[63]? = some (iv pk) := hW.val 7 63 (by decide) (hnd 7 (by kernel_rfl)) rfl
          have r64 : A'.tmps[64]? = some (PV) := hW.val 8 64 (by decide) (hnd 8 (by kernel_rfl)) rfl
          obtain ⟨kk, rfl⟩ := hW.wi.no hL0
          have HCL := Lib.hid (HC kk)
          go_simp
          refine (HCL.out.out).mono ?_
          rintro e' u' ⟨rfl, hq'⟩
          exact hK _ (CaW.made hq')
      case doneC =>
        intro Ls u hWI hall
        have hq := hWI.yes (hall 9 (by decide))
        clear hWI hall noOut
        simp only [putV, List.foldl_cons, List.foldl_nil]
        first
          | exact HFin.out u hq
          | (gi_wp2; exact HFin.out u hq)
  case done =>
    rintro D ys W hD hys hI hK
    rw [hys] at hI
    have hwt := hI.wt
    clear hI
    have HK := Lib.hid hK
    clear hK
    have hwt2 := WrTo.abide (B := w.heap.size) (Nat.le_refl _) hwt (grownBy_putObj' W D (.deferred none)) (fun r e => by cases e; exact ⟨by omega, _, HK.out, rfl⟩)
    have HWT := Lib.hid hwt2
    clear hwt hwt2
    gi_wp2
    refine ⟨by simp, .inl ⟨_, _, rfl, run_takeDeferred HK.out, ?_⟩⟩
    exact ⟨_, results_tmp rfl _ _ _, rfl, HWT.out⟩
  case stop =>
    rintro D cd pre W _ _ h _
    exact h.elim
end Go.Proofs.YteklfkpeaadinaaGreatDoor
