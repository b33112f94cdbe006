/-
  The document's answer: cost.
-/
import Derived.Test.YtliemhadgbjjiaaRChp
import Derived.Test.YtliemhadgbjjiaaQOne
import Derived.Deep.RegionHeld3
namespace Go.Proofs.Ytliemhadgbjjiaa
open Go.RowKit

/-- a small residual -/
def Sm (x : Int) : Prop := -2000 ≤ x ∧ x ≤ 2000
theorem Sm.isR {x : Int} (h : Sm x) : isR x := ⟨by unfold Sm at h; omega, by unfold Sm at h; omega⟩
theorem Sm.fd {x : Int} (h : Sm x) : fd x ≤ 4000 := by unfold Sm at h; unfold Go.Proofs.Ytliemhadgbjjiaa.fd; split <;> omega
theorem Sm.coded {x : Int} (h : Sm x) (p : Nat) : okR (p : Int) 0 x := ⟨h.isR, by
  rw [if_neg (by omega), Int.toNat_natCast]
  have := Nat.div_le_self (Go.Proofs.Ytliemhadgbjjiaa.fd x) (2 ^ p)
  have := h.fd
  omega⟩
theorem raw_iff (x : Int) (h : Sm x) (wd : Nat) : okR (-1) (wd : Int) x ↔ Lib.bitLen (fd x) ≤ wd := by
  have h1 := h.fd
  unfold okR
  rw [if_pos rfl, Int.toNat_natCast]
  constructor
  · rintro ⟨_, h2⟩
    exact bl_lower _ _ h2
  · intro h2
    exact ⟨h.isR, Nat.lt_of_lt_of_le (bl_upper _ (by omega)) (Nat.pow_le_pow_right (by decide) h2)⟩
theorem bl_mono {a b : Nat} (h : a ≤ b) (hb : b < 18446744073709551616) : Lib.bitLen a ≤ Lib.bitLen b := bl_lower _ _ (Nat.lt_of_le_of_lt h (bl_upper b hb))
/-- the greatest width so far -/
def mxW (l : List Int) : Nat := (l.map fun x => Lib.bitLen (fd x)).foldl max 0
theorem mxW_snoc (l : List Int) (x : Int) : mxW (l ++ [x]) = max (mxW l) (Lib.bitLen (fd x)) := by simp [mxW]
theorem foldl_max_ge : ∀ (l : List Nat) (a : Nat), a ≤ l.foldl max a ∧ ∀ x ∈ l, x ≤ l.foldl max a
  | [], a => ⟨Nat.le_refl _, fun x hx => by cases hx⟩
  | y :: l, a => by
    obtain ⟨h1, h2⟩ := foldl_max_ge l (max a y)
    rw [List.foldl_cons]
    refine ⟨by omega, fun x hx => ?_⟩
    rcases List.mem_cons.1 hx with rfl | hx
    · omega
    · exact h2 x hx
theorem foldl_max_le : ∀ (l : List Nat) (a b : Nat), a ≤ b → (∀ x ∈ l, x ≤ b) → l.foldl max a ≤ b
  | [], _, _, h, _ => h
  | y :: l, a, b, h, hl => by
    rw [List.foldl_cons]
    exact foldl_max_le l (max a y) b (by have := hl y (List.mem_cons_self ..); omega) (fun x hx => hl x (List.mem_cons_of_mem _ hx))
theorem mxW_eq (l : List Int) (h : 0 < l.length) (hs : ∀ x ∈ l, Sm x) : mxW l = Lib.bitLen (mxN (l.map fd)) := by
  have hm := mxN_mem (ns := l.map fd) (by simpa using h)
  obtain ⟨x, hx, e⟩ := List.mem_map.1 hm
  have hb := (hs x hx).fd
  apply Nat.le_antisymm
  · refine foldl_max_le _ _ _ (Nat.zero_le _) (fun w hw => ?_)
    obtain ⟨y, hy, rfl⟩ := List.mem_map.1 hw
    exact bl_mono (mxN_le _ (List.mem_map_of_mem hy)) (by rw [← e]; omega)
  · rw [← e]
    exact (foldl_max_ge _ 0).2 _ (List.mem_map.2 ⟨x, hx, rfl⟩)
/-- how many bits some residuals have by a parameter -/
def cdS (p : Nat) (l : List Int) : Nat := (1 + p) * l.length + hiS p (l.map fd)
theorem cdS_snoc (p : Nat) (l : List Int) (x : Int) : cdS p (l ++ [x]) = cdS p l + (resB p 0 x).length := by
  unfold cdS resB
  rw [if_neg (by omega), List.map_append, List.length_append]
  simp only [List.map_cons, List.map_nil, List.length_singleton]
  rw [hiS_snoc, List.length_append, List.length_append, List.length_replicate, List.length_singleton, bitsN_len, Int.toNat_natCast, Nat.mul_add]
  omega
theorem cdS_bound (p : Nat) (l : List Int) (hp : p ≤ 30) (hs : ∀ x ∈ l, Sm x) : cdS p l ≤ 5000 * l.length := by
  unfold cdS
  have h1 : (1 + p) * l.length ≤ 31 * l.length := Nat.mul_le_mul_right _ (by omega)
  have h2 : hiS p (l.map fd) ≤ 4000 * l.length := by
    clear h1
    induction l with
    | nil => simp [hiS]
    | cons y l ih =>
      have h3 := ih (fun x hx => hs x (List.mem_cons_of_mem _ hx))
      have h4 := (hs y (List.mem_cons_self ..)).fd
      have h5 := Nat.div_le_self (fd y) (2 ^ p)
      unfold hiS at h3 ⊢
      rw [List.map_cons, List.map_cons, List.sum_cons, List.length_cons]
      omega
  omega
def CcP (w : World) (p : Nat) (l : List Int) (s5 s6 : Value) (wr : World) : Prop := ∃ i : Nat, i ≤ l.length ∧ s6 = iv i ∧ s5 = iv (cdS p (l.take i) : Nat) ∧ Only Nix w wr
def CrP (w : World) (l : List Int) (s4 s6 : Value) (wr : World) : Prop := ∃ i : Nat, i ≤ l.length ∧ s6 = iv i ∧ s4 = iv (mxW (l.take i) : Nat) ∧ Only Nix w wr
def CmP (w : World) (W : Nat) (s7 : Value) (wr : World) : Prop := ∃ k : Nat, k ≤ W ∧ s7 = iv k ∧ Only Nix w wr

set_option maxRecDepth 100000 in
set_option maxHeartbeats 2000000 in
theorem costRef_coded {w : World} (A : Option Addr) (n c : Nat) (l : List Int) (p : Nat) (hp : p ≤ 30) (hx : ISrc w (.slice A n c) l) (hn : n ≤ 40) (hs : ∀ x ∈ l, Sm x) :
    Calls Try.prog 51 #[.slice A n c, iv p] w fun e w' => e = .returned (.tuple #[iv (cdS p l : Nat), iv 0]) ∧ Only Nix w w' := by
  obtain rfl := hx.len
  have HX := Lib.hid hx
  have HS := Lib.hid hs
  have hp0 : decide ((p : Int) < 0) = false := by simp
  have hp1 : decide ((0 : Int) ≤ (p : Int)) = true := by simp
  clear hx hs
  go_enter Try.func51, Try.ntmps51
  go_wp2
  go_loopw [7, 8] (fun s7 s8 wr => CcP w p l s7 s8 wr) (fun _ s8 _ => l.length - (intOf s8).toNat)
  case atStart => exact ⟨0, Nat.zero_le _, rfl, by simp [cdS, hiS], Only.refl _ _⟩
  case round =>
    obtain ⟨i, hi, rfl, rfl, ho⟩ := hrel
    by_cases hlt : i < l.length
    · obtain ⟨ad, rfl, hxj⟩ := (HX.out.nix ho).at_ hlt
      have hsm := HS.out _ (List.getElem_mem hlt)
      have hsn := cdS_snoc p (l.take i) l[i]
      rw [← List.take_succ_eq_append_getElem hlt] at hsn
      have hbd := cdS_bound p (l.take i) hp (fun x hx => HS.out x (List.mem_of_mem_take hx))
      rw [List.length_take] at hbd
      have hbd2 := cdS_bound p (l.take (i + 1)) hp (fun x hx => HS.out x (List.mem_of_mem_take hx))
      rw [List.length_take] at hbd2
      rw [hsn] at hbd2
      have Hsn := Lib.hid hsn
      have HOn := Lib.hid (oneRef_any wr l[i] (p : Int) 0 (.inr ⟨by omega, by omega⟩))
      have Hok := Lib.hid (hsm.coded p)
      have HO := Lib.hid ho
      have hlt2 : (i : Int) < (l.length : Int) := by omega
      have hln : l.length ≤ 40 := hn
      generalize l[i] = x at *
      generalize cdS p (l.take i) = C0 at *
      generalize hR : (resB (p : Int) 0 x).length = R at *
      have HR := Lib.hid hR
      clear hsm hsn ho hR
      generalize hN : l.length = N at *
      have HN := Lib.hid hN
      clear hN
      go_wp2_with fail
      refine (HOn.out).mono ?_
      rintro e w1 ⟨v, r, rfl, o1, hy, hno⟩
      cases r with
      | false => exact absurd Hok.out (hno rfl)
      | true =>
        have HY := (hy rfl).2
        have HO1 := Lib.hid (HO.out.trans o1)
        obtain ⟨A1, c1, hv1⟩ := owns_slice HY
        subst hv1
        rw [HR.out]
        clear hy hno HY o1 HOn
        go_wp2
        go_roundw
        case rel => exact ⟨i + 1, by rw [HN.out]; exact hlt, by go_num, by rw [Hsn.out]; go_num, HO1.out⟩
        case measure => simp [intOf]; omega
    · obtain rfl : i = l.length := by omega
      have hlt2 : decide ((l.length : Int) < (l.length : Int)) = false := by simp
      rw [List.take_length]
      go_wp2
      go_ret2
      exact ⟨rfl, ho⟩
def CmQ (w : World) (W : Nat) (s9 : Value) (wr : World) : Prop := ∃ k : Nat, k ≤ W ∧ s9 = iv k ∧ Only Nix w wr
set_option maxRecDepth 100000 in
set_option maxHeartbeats 2000000 in
theorem costRef_raw {w : World} (A : Option Addr) (n c : Nat) (l : List Int) (hx : ISrc w (.slice A n c) l) (hn : n ≤ 40) (hs : ∀ x ∈ l, Sm x) :
    Calls Try.prog 51 #[.slice A n c, iv (-1)] w fun e w' => e = .returned (.tuple #[iv (5 + mxW l * n : Nat), iv (mxW l : Nat)]) ∧ Only Nix w w' := by
  obtain rfl := hx.len
  have HX := Lib.hid hx
  have HS := Lib.hid hs
  have hmw : ∀ k, mxW (l.take k) ≤ 12 := fun k => foldl_max_le _ _ _ (Nat.zero_le _) (fun y hy => by
    obtain ⟨x, hx, rfl⟩ := List.mem_map.1 hy
    have := (HS.out x (List.mem_of_mem_take hx)).fd
    exact bl_lower _ 12 (by omega))
  clear hx hs
  go_enter Try.func51, Try.ntmps51
  go_wp2
  go_loopw [6, 8] (fun s6 s8 wr => CrP w l s6 s8 wr) (fun _ s8 _ => l.length - (intOf s8).toNat)
  case atStart => exact ⟨0, Nat.zero_le _, rfl, by simp [mxW], Only.refl _ _⟩
  case round =>
    obtain ⟨i, hi, rfl, rfl, ho⟩ := hrel
    by_cases hlt : i < l.length
    · obtain ⟨ad, rfl, hxj⟩ := (HX.out.nix ho).at_ hlt
      have hsm := HS.out _ (List.getElem_mem hlt)
      have hsn := mxW_snoc (l.take i) l[i]
      rw [← List.take_succ_eq_append_getElem hlt] at hsn
      have hMb := hmw i
      have hWb : Lib.bitLen (fd l[i]) ≤ 12 := bl_lower _ 12 (by have := hsm.fd; omega)
      have hraw := raw_iff l[i] hsm
      have Hsn := Lib.hid hsn
      have HRaw := Lib.hid hraw
      have HO := Lib.hid ho
      have hlt2 : (i : Int) < (l.length : Int) := by omega
      have hxw := Lib.hid hxj
      generalize l[i] = x at *
      generalize mxW (l.take i) = M at *
      generalize Lib.bitLen (fd x) = W at *
      clear hsm hsn ho hraw hmw hxj
      generalize hN : l.length = N at *
      have HN := Lib.hid hN
      clear hN
      generalize wr = wo at *
      go_wp2
      go_loopw [9] (fun s9 u => CmQ wo W s9 u) (fun s9 _ => W + 1 - (intOf s9).toNat)
      case atStart => exact ⟨0, Nat.zero_le _, rfl, Only.refl _ _⟩
      case round =>
        obtain ⟨k, hk, rfl, hou⟩ := hrel
        have hxk := cell_keep hou hxw.out
        have HOu := Lib.hid hou
        have hOne := Lib.hid (oneRef_any wr x (-1) (k : Int) (.inl ⟨rfl, by omega, by omega⟩))
        have hk32 : (k : Int) < 32 := by omega
        have Hk := Lib.hid (HRaw.out k)
        clear hou
        by_cases hkW : k < W
        · go_wp2_with fail
          refine (hOne.out).mono ?_
          rintro e w1 ⟨v, r, rfl, o1, hy, hno⟩
          cases r with
          | true => exact absurd (Hk.out.1 (hy rfl).1) (by omega)
          | false =>
            have HO1 := Lib.hid (HOu.out.trans o1)
            clear hy hno o1 hOne hxk
            go_wp2
            go_roundw
            case rel => exact ⟨k + 1, hkW, by go_num, HO1.out⟩
            case measure => simp [intOf]; omega
        · obtain rfl : k = W := by omega
          go_wp2_with fail
          refine (hOne.out).mono ?_
          rintro e w1 ⟨v, r, rfl, o1, hy, hno⟩
          cases r with
          | false => exact absurd (Hk.out.2 (Nat.le_refl _)) (hno rfl)
          | true =>
            have HO1 := Lib.hid (HO.out.trans (HOu.out.trans o1))
            clear hy hno o1 hOne hxk
            rcases Nat.lt_trichotomy M k with hMk | hMk | hMk
            · have hmx1 : (M : Int) < (k : Int) := by omega
              go_wp2
              go_roundw
              case rel => exact ⟨i + 1, by rw [HN.out]; exact hlt, by go_num, by rw [Hsn.out]; congr 2; omega, HO1.out⟩
              case measure => simp [intOf]; omega
            · subst hMk
              go_wp2
              go_roundw
              case rel => exact ⟨i + 1, by rw [HN.out]; exact hlt, by go_num, by rw [Hsn.out]; congr 2; omega, HO1.out⟩
              case measure => simp [intOf]; omega
            · have hmx1 : (k : Int) < (M : Int) := by omega
              go_wp2
              go_roundw
              case rel => exact ⟨i + 1, by rw [HN.out]; exact hlt, by go_num, by rw [Hsn.out]; congr 2; omega, HO1.out⟩
              case measure => simp [intOf]; omega
    · obtain rfl : i = l.length := by omega
      have hlt2 : decide ((l.length : Int) < (l.length : Int)) = false := by simp
      have hMb := hmw l.length
      rw [List.take_length] at hMb ⊢
      have hml : mxW l * l.length ≤ 12 * 40 := Nat.mul_le_mul hMb hn
      have hmi : (mxW l : Int) * (l.length : Int) = ((mxW l * l.length : Nat) : Int) := by rw [Int.natCast_mul]
      clear hmw
      obtain ⟨M, hM⟩ : ∃ M, mxW l = M := ⟨_, rfl⟩
      obtain ⟨ML, hML⟩ : ∃ ML, mxW l * l.length = ML := ⟨_, rfl⟩
      have HF := Lib.hid (And.intro hML hM)
      rw [hML] at hml hmi
      rw [hM] at hMb hmi
      rw [hM]
      clear hML hM
      go_wp2
      go_ret2
      rw [HF.out.1, HF.out.2, show ((5 + ML : Nat) : Int) = 5 + (ML : Int) from by omega]
      exact ⟨rfl, ho⟩
end Go.Proofs.Ytliemhadgbjjiaa
