/-
  Samples of channels: what slices of them hold; mayBe, within: walked.
-/
import Derived.Test.YtekmebbioalpdaaDoorDLeast
namespace Go.Proofs.YtekmebbioalpdaaDoor
open Go.RowKit

/-- The slice v0 holds these numbers. -/
structure ISrc (w : World) (v0 : Value) (xs : List Int) : Prop where
  form : ∃ A c, v0 = .slice A xs.length c ∧ ∀ j, (hj : j < xs.length) → ∃ ad, A = some ad ∧ w.cell? (ad.add j) = some (iv xs[j])
  small : xs.length ≤ 140737488355328
  fits : ∀ x ∈ xs, -9223372036854775808 ≤ x ∧ x ≤ 9223372036854775807
theorem ISrc.nix {w w' : World} {v : Value} {xs : List Int} (h : ISrc w v xs) (ho : Only Nix w w') : ISrc w' v xs := by
  obtain ⟨A, c, hv, hc⟩ := h.form
  refine ⟨⟨A, c, hv, fun j hj => ?_⟩, h.small, h.fits⟩
  obtain ⟨ad, hA, hx⟩ := hc j hj
  exact ⟨ad, hA, cell_keep ho hx⟩
theorem ISrc.at_ {w : World} {A : Option Addr} {n c : Nat} {xs : List Int} (h : ISrc w (.slice A n c) xs) {k : Nat} (hk : k < xs.length) : ∃ ad, A = some ad ∧ w.cell? (ad.add k) = some (iv xs[k]) := by
  obtain ⟨A', c', hv, hc⟩ := h.form
  injection hv with e1 _ _
  subst e1
  exact hc k hk
theorem ISrc.len {w : World} {A : Option Addr} {n c : Nat} {xs : List Int} (h : ISrc w (.slice A n c) xs) : n = xs.length := by
  obtain ⟨A', c', hv, _⟩ := h.form
  injection hv
/-- The slice v0 holds slices that hold these numbers. -/
structure Rws (w : World) (v0 : Value) (xss : List (List Int)) : Prop where
  form : ∃ A c, v0 = .slice A xss.length c ∧ ∀ j, (hj : j < xss.length) → ∃ ad A' c', A = some ad ∧ w.cell? (ad.add j) = some (.slice A' xss[j].length c') ∧ ISrc w (.slice A' xss[j].length c') xss[j]
  small : xss.length ≤ 140737488355328
theorem Rws.nix {w w' : World} {v : Value} {xss : List (List Int)} (h : Rws w v xss) (ho : Only Nix w w') : Rws w' v xss := by
  obtain ⟨A, c, hv, hc⟩ := h.form
  refine ⟨⟨A, c, hv, fun j hj => ?_⟩, h.small⟩
  obtain ⟨ad, A', c', hA, hx, hs⟩ := hc j hj
  exact ⟨ad, A', c', hA, cell_keep ho hx, hs.nix ho⟩
theorem Rws.at_ {w : World} {A : Option Addr} {n c : Nat} {xss : List (List Int)} (h : Rws w (.slice A n c) xss) {k : Nat} (hk : k < xss.length) : ∃ ad A' c', A = some ad ∧ w.cell? (ad.add k) = some (.slice A' xss[k].length c') ∧ ISrc w (.slice A' xss[k].length c') xss[k] := by
  obtain ⟨A', c', hv, hc⟩ := h.form
  injection hv with e1 _ _
  subst e1
  exact hc k hk
theorem Rws.len {w : World} {A : Option Addr} {n c : Nat} {xss : List (List Int)} (h : Rws w (.slice A n c) xss) : n = xss.length := by
  obtain ⟨A', c', hv, _⟩ := h.form
  injection hv

/-- may there be such a depth, so many channels, all as long -/
def okC (xss : List (List Int)) : Prop := 1 ≤ xss.length ∧ xss.length ≤ 8 ∧ ∀ j, (hj : j < xss.length) → xss[j].length = (xss.getD 0 []).length
def okD (d : Int) : Prop := 4 ≤ d ∧ d ≤ 32
def MayP (w : World) (xss : List (List Int)) (s23 : Value) (wr : World) : Prop :=
  ∃ j : Nat, j ≤ xss.length ∧ s23 = iv j ∧ (∀ i, (hi : i < xss.length) → i < j → xss[i].length = (xss.getD 0 []).length) ∧ w = wr

set_option maxHeartbeats 1000000 in
theorem mayBe_loop {w : World} (d : Int) (hd : okD d) (A : Option Addr) (c : Nat) (xss : List (List Int)) (hx : Rws w (.slice A xss.length c) xss) (h1 : 1 ≤ xss.length) (h8 : xss.length ≤ 8) (r : Bool) (hr : r = true ↔ okC xss) :
    Calls Tryd.prog 25 #[iv d, .slice A xss.length c] w fun e w' => e = .returned (.bool r) ∧ w = w' := by
  obtain ⟨d4, d32⟩ := hd
  have g1 : ¬ d < 4 := by omega
  have g2 : ¬ 32 < d := by omega
  have g3 : ¬ ((xss.length : Int) < 1) := by omega
  have g4 : ¬ (8 < (xss.length : Int)) := by omega
  have g5 : ¬ xss.length = 0 := by omega
  have g6 : ¬ xss.length < 1 := by omega
  have g7 : ¬ 8 < xss.length := by omega
  have HX := Lib.hid hx
  have HR := Lib.hid hr
  clear hx hr
  obtain ⟨ad, A0, c0, rfl, hx0, _⟩ := HX.out.at_ (k := 0) (by omega)
  rw [Addr.add_zero'] at hx0
  have h0 : xss.getD 0 [] = xss[0] := by rw [List.getD_eq_getElem?_getD, List.getElem?_eq_getElem (by omega)]; rfl
  have hs0 : xss[0].length ≤ 140737488355328 := by
    obtain ⟨_, _, _, _, _, hs⟩ := HX.out.at_ (k := 0) (by omega)
    exact hs.small
  have H0 := Lib.hid h0
  generalize hl0 : xss[0].length = l0 at *
  have Hl0 : Hid ((xss.getD 0 []).length = l0) := Lib.hid (by rw [h0, hl0])
  clear h0 hl0
  go_enter Tryd.func25, Tryd.ntmps25
  go_wp2
  go_loopw [23] (fun s23 wr => MayP w xss s23 wr) (fun s23 _ => xss.length - (intOf s23).toNat)
  case atStart => exact ⟨0, by omega, rfl, fun i _ h => by omega, rfl⟩
  case round =>
    obtain ⟨j, hj, rfl, hal, rfl⟩ := hrel
    by_cases hlt : j < xss.length
    · obtain ⟨ad', A', c', e1, hxj, hsj⟩ := HX.out.at_ hlt
      injection e1 with e1
      subst e1
      have hsm := hsj.small
      have hlt2 : (j : Int) < (xss.length : Int) := by omega
      have Hal := Lib.hid hal
      clear hal hsj
      by_cases he : xss[j].length = l0
      · have HE := Lib.hid he
        rw [he] at hxj
        go_wp2
        go_roundw
        case rel =>
          refine ⟨j + 1, by omega, by go_num, fun i hi hij => ?_, rfl⟩
          by_cases e : i = j
          · subst e; rw [HE.out, Hl0.out]
          · exact Hal.out i hi (by omega)
        case measure => simp [intOf]; omega
      · have hrf : r = false := by
          cases r with
          | false => rfl
          | true => exact absurd ((HR.out.1 rfl).2.2 j hlt) (by rw [Hl0.out]; exact he)
        generalize xss[j].length = lj at *
        have hne : ((lj : Int) != (l0 : Int)) = true := by simp; omega
        have hne2 : ¬ (lj : Int) = (l0 : Int) := by omega
        go_wp2
        go_ret
        exact ⟨by first | rfl | (rw [hrf]; rfl), rfl⟩
    · have hrt : r = true := HR.out.2 ⟨h1, h8, fun i hi => hal i hi (by omega)⟩
      have hlt2 : decide (j < xss.length) = false := by simp; omega
      clear hal
      go_wp2
      go_ret
      exact ⟨by rw [hrt]; rfl, rfl⟩
set_option maxHeartbeats 1000000 in
theorem mayBe_no {w : World} (d : Int) (A : Option Addr) (m c : Nat) (h : ¬ okD d ∨ m < 1 ∨ 8 < m) :
    Calls Tryd.prog 25 #[iv d, .slice A m c] w fun e w' => e = .returned (.bool false) ∧ w = w' := by
  by_cases h1 : d < 4
  · go_enter Tryd.func25, Tryd.ntmps25
    go_wp2
    go_ret
    exact ⟨rfl, rfl⟩
  · by_cases h2 : 32 < d
    · go_enter Tryd.func25, Tryd.ntmps25
      go_wp2
      go_ret
      exact ⟨rfl, rfl⟩
    · have h3 : m < 1 ∨ 8 < m := by
        rcases h with h | h
        · exact absurd ⟨by omega, by omega⟩ h
        · exact h
      clear h
      rcases h3 with h3 | h3
      · obtain rfl : m = 0 := by omega
        go_enter Tryd.func25, Tryd.ntmps25
        go_wp2
        go_ret
        exact ⟨rfl, rfl⟩
      · have g3 : ¬ ((m : Int) < 1) := by omega
        have g4 : (8 < (m : Int)) := by omega
        have g5 : ¬ m = 0 := by omega
        have g6 : ¬ m < 1 := by omega
        go_enter Tryd.func25, Tryd.ntmps25
        go_wp2
        go_ret
        exact ⟨rfl, rfl⟩

/-- are samples of a depth -/
def inD (k : Nat) (xs : List Int) : Prop := ∀ x ∈ xs, -(2 ^ k : Int) ≤ x ∧ x < 2 ^ k
def WithP (w : World) (k : Nat) (xs : List Int) (s13 : Value) (wr : World) : Prop := ∃ j : Nat, j ≤ xs.length ∧ s13 = iv j ∧ (∀ i, (hi : i < xs.length) → i < j → -(2 ^ k : Int) ≤ xs[i] ∧ xs[i] < 2 ^ k) ∧ w = wr
set_option maxHeartbeats 1000000 in
theorem within_any {w : World} (d : Int) (k : Nat) (hk : d = (k : Int) + 1) (hk2 : k < 32) (A : Option Addr) (c : Nat) (xs : List Int) (hx : ISrc w (.slice A xs.length c) xs) (r : Bool) (hr : r = true ↔ inD k xs) :
    Calls Tryd.prog 26 #[iv d, .slice A xs.length c] w fun e w' => e = .returned (.bool r) ∧ w = w' := by
  subst hk
  have HX := Lib.hid hx
  have HR := Lib.hid hr
  have hsm := hx.small
  clear hx hr
  obtain ⟨P, hP⟩ : ∃ P : Nat, Hid (2 ^ k = P) := ⟨_, Lib.hid rfl⟩
  have hP2 : P ≤ 2147483648 := by rw [← hP.out]; exact Nat.pow_le_pow_right (by decide) (by omega : k ≤ 31)
  have hpw : (2 : Int) ^ k = (P : Int) := by rw [pow_cast, hP.out]
  have hw1 : IntKind.i64.wrap ((2 : Int) ^ k) = (P : Int) := by rw [hpw]; exact wraps_i64 _ (by omega) (by omega)
  have e1 : ((k : Int) + 1 - 1) = (k : Int) := by omega
  go_enter Tryd.func26, Tryd.ntmps26
  go_wp2
  go_loopw [13] (fun s13 wr => WithP w k xs s13 wr) (fun s13 _ => xs.length - (intOf s13).toNat)
  case atStart => exact ⟨0, by omega, rfl, fun i _ h => by omega, rfl⟩
  case round =>
    obtain ⟨j, hj, rfl, hal, rfl⟩ := hrel
    have Hal := Lib.hid hal
    clear hal
    by_cases hlt : j < xs.length
    · obtain ⟨ad, rfl, hxj⟩ := HX.out.at_ hlt
      have hft := HX.out.fits _ (List.getElem_mem hlt)
      have HM := Lib.hid (List.getElem_mem hlt)
      have hlt2 : (j : Int) < (xs.length : Int) := by omega
      generalize hxx : xs[j] = x at *
      have Hxx := Lib.hid hxx
      clear hxx
      by_cases hin : -(P : Int) ≤ x ∧ x < (P : Int)
      · obtain ⟨i1, i2⟩ := hin
        have k1 : ¬ x < -(P : Int) := by omega
        have k2 : ¬ (P : Int) ≤ x := by omega
        go_wp2
        go_roundw
        case rel =>
          refine ⟨j + 1, by omega, by go_num, fun i hi hij => ?_, rfl⟩
          by_cases e : i = j
          · subst e; rw [Hxx.out, hpw]; exact ⟨i1, i2⟩
          · exact Hal.out i hi (by omega)
        case measure => simp [intOf]; omega
      · have hrf : r = false := by
          cases r with
          | false => rfl
          | true => exact absurd (by have := HR.out.1 rfl x HM.out; rw [hpw] at this; exact this) hin
        by_cases k1 : x < -(P : Int)
        · clear hin
          go_wp2
          go_ret
          exact ⟨by first | rfl | (rw [hrf]; rfl), rfl⟩
        · have k2 : (P : Int) ≤ x := by omega
          clear hin
          go_wp2
          go_ret
          exact ⟨by first | rfl | (rw [hrf]; rfl), rfl⟩
    · have hrt : r = true := HR.out.2 (fun x hx => by
        obtain ⟨i, hi, rfl⟩ := List.mem_iff_getElem.1 hx
        exact Hal.out i hi (by omega))
      have hlt2 : decide (j < xs.length) = false := by simp; omega
      go_wp2
      go_ret
      exact ⟨by rw [hrt]; rfl, rfl⟩
end Go.Proofs.YtekmebbioalpdaaDoor
