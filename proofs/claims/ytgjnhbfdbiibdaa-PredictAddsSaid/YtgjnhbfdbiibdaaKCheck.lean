/-
  Check, the document's and the program's; may a sample be.
-/
import Derived.Test.YtgjnhbfdbiibdaaKTell
namespace Go.Proofs.Ytgjnhbfdbiibdaa
open Go.RowKit

/-- may a coefficient be -/
def isC (P c : Int) : Prop := -(2 ^ (P - 1).toNat) ≤ c ∧ c < 2 ^ (P - 1).toNat
instance (P c : Int) : Decidable (isC P c) := by unfold isC; exact inferInstance
/-- may a prediction be -/
def okL (P S : Int) (cs : List Int) : Prop := (cs.length ≤ 32 ∧ 1 ≤ P ∧ P ≤ 15 ∧ 0 ≤ S ∧ S ≤ 15) ∧ ∀ c ∈ cs, isC P c
instance (P S : Int) (cs : List Int) : Decidable (okL P S cs) := by unfold okL; exact inferInstance
/-- what is wrong with one -/
def ckL (P S : Int) (cs : List Int) : Int := if okL P S cs then 0 else 10
theorem okL_coef {P S : Int} {cs : List Int} (h : okL P S cs) : ∀ c ∈ cs, -16384 ≤ c ∧ c ≤ 16384 := fun c hc => by
  have h1 := h.2 c hc
  have h2 := h.1
  unfold isC at h1
  have h3 := pow_le_of (show (P - 1).toNat ≤ 14 by omega)
  rw [pow_cast] at h1
  omega

set_option maxHeartbeats 1000000 in
theorem isSample_any (w : World) (x : Int) : Calls Try.prog 22 #[iv x] w fun e w' => e = .returned (.bool (decide (isS x))) ∧ w = w' := by
  by_cases h1 : -4294967296 ≤ x
  · by_cases h2 : x < 4294967296
    · have e1 : decide (isS x) = true := decide_eq_true ⟨h1, h2⟩
      rw [e1]
      go_enter Try.func22, Try.ntmps22
      go_wp2
      go_ret
      exact ⟨rfl, rfl⟩
    · have e1 : decide (isS x) = false := decide_eq_false (fun h => h2 h.2)
      rw [e1]
      go_enter Try.func22, Try.ntmps22
      go_wp2
      go_ret
      exact ⟨rfl, rfl⟩
  · have e1 : decide (isS x) = false := decide_eq_false (fun h => h1 h.1)
    rw [e1]
    go_enter Try.func22, Try.ntmps22
    go_wp2
    go_ret
    exact ⟨rfl, rfl⟩
set_option maxHeartbeats 1000000 in
theorem may_any (w : World) (x : Int) : Calls Try.prog 23 #[iv x] w fun e w' => e = .returned (.bool (decide (isS x))) ∧ w = w' := by
  by_cases h1 : -4294967296 ≤ x
  · by_cases h2 : x < 4294967296
    · have e1 : decide (isS x) = true := decide_eq_true ⟨h1, h2⟩
      rw [e1]
      go_enter Try.func23, Try.ntmps23
      go_wp2
      go_ret
      exact ⟨rfl, rfl⟩
    · have e1 : decide (isS x) = false := decide_eq_false (fun h => h2 h.2)
      rw [e1]
      go_enter Try.func23, Try.ntmps23
      go_wp2
      go_ret
      exact ⟨rfl, rfl⟩
  · have e1 : decide (isS x) = false := decide_eq_false (fun h => h1 h.1)
    rw [e1]
    go_enter Try.func23, Try.ntmps23
    go_wp2
    go_ret
    exact ⟨rfl, rfl⟩

def Ckp (w1 : World) (P : Int) (cs : List Int) (s : Value) (wr : World) : Prop := ∃ j : Nat, j ≤ cs.length ∧ s = iv j ∧ (∀ c ∈ cs.take j, isC P c) ∧ Only Nix w1 wr
set_option maxHeartbeats 2000000 in
theorem check_any {w : World} (P S : Int) (A : Option Addr) (n c : Nat) (cs : List Int) (hcs : ISrc w (.slice A n c) cs) :
    Calls Try.prog 12 #[linV P S (.slice A n c)] w fun e w' => e = .returned (iv (ckL P S cs)) ∧ Only Nix w w' := by
  have hl := hcs.len
  have hsm := hcs.small
  rw [← hl] at hsm
  have a0 := (Only.refl Nix w).alloc (.cells #[iv P, iv S, .slice A n c] 24)
  have B0 := Box.new w 24 #[iv P, iv S, .slice A n c]
  obtain ⟨Wa, hWa⟩ : ∃ Wa, w.alloc (.cells #[iv P, iv S, .slice A n c] 24) = Wa := ⟨_, rfl⟩
  rw [hWa] at a0 B0
  have HC := Lib.hid (hcs.nix a0)
  have HA := Lib.hid a0
  have HB := Lib.hid B0
  have d0 := B0.cell 0
  have d1 := B0.cell 1
  have d2 := B0.cell 2
  simp only [List.getElem?_toArray, List.getElem?_cons_zero, List.getElem?_cons_succ] at d0 d1 d2
  have Hl := Lib.hid hl
  clear hcs a0 B0
  by_cases g0 : 32 < n
  · have e1 : ckL P S cs = 10 := if_neg (fun h => by have := h.1; omega)
    rw [e1]
    clear hl
    have gi : (32 : Int) < (n : Int) := by omega
    go_enter Try.func12, Try.ntmps12
    go_wp2
    go_ret
    exact ⟨rfl, HA.out⟩
  · have gi1 : ¬ (32 : Int) < (n : Int) := by omega
    by_cases g1 : P < 1
    · have e1 : ckL P S cs = 10 := if_neg (fun h => by have := h.1; omega)
      rw [e1]
      clear hl
      go_enter Try.func12, Try.ntmps12
      go_wp2
      go_ret
      exact ⟨rfl, HA.out⟩
    · have _hh := True.intro
      by_cases g2 : 15 < P
      · have e1 : ckL P S cs = 10 := if_neg (fun h => by have := h.1; omega)
        rw [e1]
        clear hl
        go_enter Try.func12, Try.ntmps12
        go_wp2
        go_ret
        exact ⟨rfl, HA.out⟩
      · have _hh := True.intro
        by_cases g3 : S < 0
        · have e1 : ckL P S cs = 10 := if_neg (fun h => by have := h.1; omega)
          rw [e1]
          clear hl
          go_enter Try.func12, Try.ntmps12
          go_wp2
          go_ret
          exact ⟨rfl, HA.out⟩
        · have _hh := True.intro
          by_cases g4 : 15 < S
          · have e1 : ckL P S cs = 10 := if_neg (fun h => by have := h.1; omega)
            rw [e1]
            clear hl
            go_enter Try.func12, Try.ntmps12
            go_wp2
            go_ret
            exact ⟨rfl, HA.out⟩
          · have _hh := True.intro
            obtain ⟨p, rfl⟩ := Int.eq_ofNat_of_zero_le (show 0 ≤ P by omega)
            obtain ⟨q, hq⟩ : ∃ q, p - 1 = q := ⟨_, rfl⟩
            have hqi : (p : Int) - 1 = (q : Int) := by omega
            have hq14 : q ≤ 14 := by omega
            have HP : Hid (∀ x, isC (p : Int) x ↔ -((2 ^ q : Nat) : Int) ≤ x ∧ x < ((2 ^ q : Nat) : Int)) := Lib.hid (fun x => by
              unfold isC
              rw [show ((p : Int) - 1).toNat = q by omega, pow_cast])
            have hK1 := Nat.two_pow_pos q
            have hK2 := pow_le_of hq14
            have hpw : (2 : Int) ^ q = ((2 ^ q : Nat) : Int) := pow_cast q
            have HY : Hid ((∀ x ∈ cs, isC (p : Int) x) → ckL p S cs = 0) := Lib.hid (fun h => if_pos ⟨⟨by omega, by omega, by omega, by omega, by omega⟩, h⟩)
            have HN : Hid (¬ (∀ x ∈ cs, isC (p : Int) x) → ckL p S cs = 10) := Lib.hid (fun h => if_neg (fun h2 => h h2.2))
            generalize (2 : Nat) ^ q = K at *
            have hK3 : K ≤ 16384 := hK2
            clear hK2 hl hq
            go_enter Try.func12, Try.ntmps12
            go_wp2
            go_loopw [37] (fun s wr => Ckp Wa p cs s wr) (fun s _ => n - (intOf s).toNat)
            case atStart => exact ⟨0, Nat.zero_le _, rfl, by simp, Only.refl _ _⟩
            case round =>
              obtain ⟨j, hj, rfl, hal, hO⟩ := hrel
              rw [← Hl.out] at hj
              have q0 := (HB.out.only hO (fun e => e)).cell 0
              have q2 := (HB.out.only hO (fun e => e)).cell 2
              simp only [List.getElem?_toArray, List.getElem?_cons_zero, List.getElem?_cons_succ] at q0 q2
              have HAl := Lib.hid hal
              have HO := Lib.hid hO
              clear hal hO
              by_cases hlt : j < n
              · have hltx : j < cs.length := by rw [← Hl.out]; exact hlt
                obtain ⟨ad, rfl, hx⟩ := (HC.out.nix HO.out).at_ hltx
                have hft := HC.out.fits _ (List.getElem_mem hltx)
                have hlt2 : (j : Int) < (n : Int) := by omega
                have HM := Lib.hid (List.getElem_mem hltx)
                have HE := Lib.hid (List.take_succ_eq_append_getElem hltx)
                have HI := Lib.hid (HP.out cs[j])
                generalize cs[j] = x at *
                clear hltx
                by_cases k1 : x < -(K : Int)
                · have HX := Lib.hid (HN.out (fun h => by have := HI.out.1 (h _ HM.out); omega))
                  clear HY HN HI
                  go_wp2
                  go_ret
                  exact ⟨by rw [HX.out] <;> rfl, HA.out.trans HO.out⟩
                · by_cases k2 : (K : Int) ≤ x
                  · have HX := Lib.hid (HN.out (fun h => by have := HI.out.1 (h _ HM.out); omega))
                    clear HY HN HI
                    go_wp2
                    go_ret
                    exact ⟨by rw [HX.out] <;> rfl, HA.out.trans HO.out⟩
                  · have HI2 := Lib.hid (HI.out.2 ⟨by omega, by omega⟩)
                    clear HI
                    go_wp2
                    go_roundw
                    case rel => exact ⟨j + 1, by rw [← Hl.out]; omega, by go_num, fun y hy => by
                        rw [HE.out] at hy
                        rcases List.mem_append.1 hy with hy | hy
                        · exact HAl.out y hy
                        · simp at hy; subst hy; exact HI2.out, HO.out⟩
                    case measure => simp [intOf]; omega
              · have HX := Lib.hid (HY.out (fun y hy => HAl.out y (by rw [List.take_of_length_le (by rw [← Hl.out]; omega)]; exact hy)))
                clear HY HN
                go_wp2
                go_ret
                exact ⟨by rw [HX.out] <;> rfl, HA.out.trans HO.out⟩

def Ckr (w1 : World) (P : Int) (cs : List Int) (s : Value) (wr : World) : Prop := ∃ j : Nat, j ≤ cs.length ∧ s = iv j ∧ (∀ c ∈ cs.take j, isC P c) ∧ Only Nix w1 wr
set_option maxHeartbeats 2000000 in
theorem checkRef_any {w : World} (P S : Int) (A : Option Addr) (n c : Nat) (cs : List Int) (hcs : ISrc w (.slice A n c) cs) :
    Calls Try.prog 13 #[linV P S (.slice A n c)] w fun e w' => e = .returned (iv (ckL P S cs)) ∧ Only Nix w w' := by
  have hl := hcs.len
  have hsm := hcs.small
  rw [← hl] at hsm
  have a0 := (Only.refl Nix w).alloc (.cells #[iv P, iv S, .slice A n c] 30)
  have B0 := Box.new w 30 #[iv P, iv S, .slice A n c]
  obtain ⟨Wa, hWa⟩ : ∃ Wa, w.alloc (.cells #[iv P, iv S, .slice A n c] 30) = Wa := ⟨_, rfl⟩
  rw [hWa] at a0 B0
  have HC := Lib.hid (hcs.nix a0)
  have HA := Lib.hid a0
  have HB := Lib.hid B0
  have d0 := B0.cell 0
  have d1 := B0.cell 1
  have d2 := B0.cell 2
  simp only [List.getElem?_toArray, List.getElem?_cons_zero, List.getElem?_cons_succ] at d0 d1 d2
  have Hl := Lib.hid hl
  clear hcs a0 B0
  by_cases g0 : 32 < n
  · have e1 : ckL P S cs = 10 := if_neg (fun h => by have := h.1; omega)
    rw [e1]
    clear hl
    have gi : (32 : Int) < (n : Int) := by omega
    go_enter Try.func13, Try.ntmps13
    go_wp2
    go_ret
    exact ⟨rfl, HA.out⟩
  · have gi1 : ¬ (32 : Int) < (n : Int) := by omega
    by_cases g1 : P < 1
    · have e1 : ckL P S cs = 10 := if_neg (fun h => by have := h.1; omega)
      rw [e1]
      clear hl
      go_enter Try.func13, Try.ntmps13
      go_wp2
      go_ret
      exact ⟨rfl, HA.out⟩
    · have _hh := True.intro
      by_cases g2 : 15 < P
      · have e1 : ckL P S cs = 10 := if_neg (fun h => by have := h.1; omega)
        rw [e1]
        clear hl
        go_enter Try.func13, Try.ntmps13
        go_wp2
        go_ret
        exact ⟨rfl, HA.out⟩
      · have _hh := True.intro
        by_cases g3 : S < 0
        · have e1 : ckL P S cs = 10 := if_neg (fun h => by have := h.1; omega)
          rw [e1]
          clear hl
          go_enter Try.func13, Try.ntmps13
          go_wp2
          go_ret
          exact ⟨rfl, HA.out⟩
        · have _hh := True.intro
          by_cases g4 : 15 < S
          · have e1 : ckL P S cs = 10 := if_neg (fun h => by have := h.1; omega)
            rw [e1]
            clear hl
            go_enter Try.func13, Try.ntmps13
            go_wp2
            go_ret
            exact ⟨rfl, HA.out⟩
          · have _hh := True.intro
            obtain ⟨p, rfl⟩ := Int.eq_ofNat_of_zero_le (show 0 ≤ P by omega)
            obtain ⟨q, hq⟩ : ∃ q, p - 1 = q := ⟨_, rfl⟩
            have hqi : (p : Int) - 1 = (q : Int) := by omega
            have hq14 : q ≤ 14 := by omega
            have HP : Hid (∀ x, isC (p : Int) x ↔ -((2 ^ q : Nat) : Int) ≤ x ∧ x < ((2 ^ q : Nat) : Int)) := Lib.hid (fun x => by
              unfold isC
              rw [show ((p : Int) - 1).toNat = q by omega, pow_cast])
            have hK1 := Nat.two_pow_pos q
            have hK2 := pow_le_of hq14
            have hpw : (2 : Int) ^ q = ((2 ^ q : Nat) : Int) := pow_cast q
            have HY : Hid ((∀ x ∈ cs, isC (p : Int) x) → ckL p S cs = 0) := Lib.hid (fun h => if_pos ⟨⟨by omega, by omega, by omega, by omega, by omega⟩, h⟩)
            have HN : Hid (¬ (∀ x ∈ cs, isC (p : Int) x) → ckL p S cs = 10) := Lib.hid (fun h => if_neg (fun h2 => h h2.2))
            generalize (2 : Nat) ^ q = K at *
            have hK3 : K ≤ 16384 := hK2
            clear hK2 hl hq
            have hwq : IntKind.i64.wrap (q : Int) = (q : Int) := w64k _ (by omega) (by omega)
            have hwK : IntKind.i64.wrap (K : Int) = (K : Int) := w64k _ (by omega) (by omega)
            have hwN : IntKind.i64.wrap (-(K : Int)) = -(K : Int) := w64k _ (by omega) (by omega)
            go_enter Try.func13, Try.ntmps13
            go_wp2
            go_loopw [3] (fun s wr => Ckr Wa p cs s wr) (fun s _ => n - (intOf s).toNat)
            case atStart => exact ⟨0, Nat.zero_le _, rfl, by simp, Only.refl _ _⟩
            case round =>
              obtain ⟨j, hj, rfl, hal, hO⟩ := hrel
              rw [← Hl.out] at hj
              have q0 := (HB.out.only hO (fun e => e)).cell 0
              have q2 := (HB.out.only hO (fun e => e)).cell 2
              simp only [List.getElem?_toArray, List.getElem?_cons_zero, List.getElem?_cons_succ] at q0 q2
              have HAl := Lib.hid hal
              have HO := Lib.hid hO
              clear hal hO
              by_cases hlt : j < n
              · have hltx : j < cs.length := by rw [← Hl.out]; exact hlt
                obtain ⟨ad, rfl, hx⟩ := (HC.out.nix HO.out).at_ hltx
                have hft := HC.out.fits _ (List.getElem_mem hltx)
                have hlt2 : (j : Int) < (n : Int) := by omega
                have HM := Lib.hid (List.getElem_mem hltx)
                have HE := Lib.hid (List.take_succ_eq_append_getElem hltx)
                have HI := Lib.hid (HP.out cs[j])
                generalize cs[j] = x at *
                clear hltx
                by_cases k1 : x < -(K : Int)
                · have HX := Lib.hid (HN.out (fun h => by have := HI.out.1 (h _ HM.out); omega))
                  clear HY HN HI
                  go_wp2_with fail
                  go_quiet (fail)
                  go_wp2
                  go_ret
                  exact ⟨by rw [HX.out] <;> rfl, (HA.out.trans HO.out).drewN _⟩
                · by_cases k2 : (K : Int) ≤ x
                  · have HX := Lib.hid (HN.out (fun h => by have := HI.out.1 (h _ HM.out); omega))
                    clear HY HN HI
                    go_wp2_with fail
                    go_quiet (fail)
                    go_wp2
                    go_ret
                    exact ⟨by rw [HX.out] <;> rfl, (HA.out.trans HO.out).drewN _⟩
                  · have HI2 := Lib.hid (HI.out.2 ⟨by omega, by omega⟩)
                    clear HI
                    go_wp2_with fail
                    go_quiet (fail)
                    go_wp2
                    go_roundw
                    case rel => exact ⟨j + 1, by rw [← Hl.out]; omega, by go_num, fun y hy => by
                        rw [HE.out] at hy
                        rcases List.mem_append.1 hy with hy | hy
                        · exact HAl.out y hy
                        · simp at hy; subst hy; exact HI2.out, HO.out.drewN _⟩
                    case measure => simp [intOf]; omega
              · have HX := Lib.hid (HY.out (fun y hy => HAl.out y (by rw [List.take_of_length_le (by rw [← Hl.out]; omega)]; exact hy)))
                clear HY HN
                go_wp2
                go_ret
                exact ⟨by rw [HX.out] <;> rfl, HA.out.trans HO.out⟩
end Go.Proofs.Ytgjnhbfdbiibdaa
