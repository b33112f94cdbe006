/-
  The document's Text walked.
-/
import Derived.Test.YtphpciglpnbblaaDoorTN
import Derived.Test.YtphpciglpnbblaaDoorTW
namespace Go.Proofs.YtphpciglpnbblaaDoor
open Go.RowKit Go.Shelf

def TrRel (w : World) (s : ByteArray) (B : Bool) (s3 : Value) (wr : World) : Prop := ∃ i : Nat, i ≤ s.size ∧ s3 = iv i ∧ vD s i = B ∧ w = wr
def TiRel (w : World) (s : ByteArray) (i M n : Nat) (s7 s8 : Value) (wr : World) : Prop := ∃ k K : Nat, k + 1 = K ∧ K ≤ n ∧ s8 = iv K ∧ s7 = iv (vN s i M k : Nat) ∧ cN s i k ∧ w = wr
def T1Rel (w : World) (c : Nat) (s7 s8 : Value) (wr : World) : Prop := s8 = iv 1 ∧ s7 = iv c ∧ w = wr
set_option maxRecDepth 100000 in
set_option maxHeartbeats 16000000 in
theorem text13_any {w : World} (s : ByteArray) (hs : s.size ≤ 1000000) : Calls Tryd.prog 27 #[.string s] w fun e w' => e = .returned (.bool (isT s)) ∧ w = w' := by
  obtain ⟨B, hB⟩ : ∃ B, isT s = B := ⟨_, rfl⟩
  have HB : Hid (vD s 0 = B) := Lib.hid (by rw [← hB]; rfl)
  have HEnd := Lib.hid (vD_end s)
  rw [hB]
  clear hB
  go_enter Tryd.func27, Tryd.ntmps27
  go_wp2
  go_loopw [3] (fun s3 wr => TrRel w s B s3 wr) (fun s3 _ => s.size - (intOf s3).toNat)
  case atStart => exact ⟨0, Nat.zero_le _, rfl, HB.out, rfl⟩
  case round =>
    obtain ⟨i, hi, rfl, hv, rfl⟩ := hrel
    have HV := Lib.hid hv
    clear hv
    by_cases hlt : i < s.size
    · have hlti : (i : Int) < (s.size : Int) := by omega
      obtain ⟨x, hx⟩ : ∃ x, s.get! i = x := ⟨_, rfl⟩
      have hg0 : ∀ h : i < s.size, s[i]'h = x := fun h => by rw [← hx]; exact (Utf8W.get!_of_lt s i h).symm
      have hb : bt s i 0 = x.toNat := by rw [bt_get s i 0 hlt, Nat.add_zero, hx]
      have hx256 : x.toNat < 256 := x.toNat_lt
      have H1 := Lib.hid (vD_one s i hlt)
      have HBd := Lib.hid (vD_bad s i hlt)
      have H2 := Lib.hid (vD_2 s i hlt)
      have H3 := Lib.hid (vD_3 s i hlt)
      have H4 := Lib.hid (vD_4 s i hlt)
      have HV0 : Hid (∀ M, vN s i M 0 = x.toNat % M) := Lib.hid (fun M => by show bt s i 0 % M = _; rw [hb])
      rw [hb] at H1 HBd H2 H3 H4
      clear hb hx
      by_cases hc1 : x.toNat < 128
      · have hc1i : (x.toNat : Int) < 128 := by omega
        have hi1 : (i : Int) + 1 ≤ (s.size : Int) := by omega
        have HF : Hid (vD s (i + 1) = B) := Lib.hid (by rw [← H1.out hc1]; exact HV.out)
        have hn1 : ¬ (1114111 : Int) < (x.toNat : Int) := by omega
        have hn2 : ¬ (x.toNat : Int) < 0 := by omega
        have hn3 : decide ((55296 : Int) ≤ (x.toNat : Int)) = false := by simp; omega
        have hn4 : decide (55296 ≤ x.toNat) = false := by simp; omega
        go_wp2
        go_loopw [7, 8] (fun s7 s8 wr => T1Rel w x.toNat s7 s8 wr) (fun _ _ _ => 0)
        case atStart => exact ⟨rfl, rfl, rfl⟩
        case round =>
          obtain ⟨rfl, rfl, rfl⟩ := hrel
          go_wp2
          go_roundw
          case rel => exact ⟨i + 1, hlt, by go_num, HF.out, rfl⟩
          case measure => simp [intOf]; omega
      · have hc1i : ¬ (x.toNat : Int) < 128 := by omega
        by_cases hbad : x.toNat < 194 ∨ 245 ≤ x.toNat
        · have HF : Hid (B = false) := Lib.hid (by rw [← HV.out]; exact HBd.out (by omega))
          by_cases h194 : x.toNat < 194
          · have g1 : decide ((194 : Int) ≤ (x.toNat : Int)) = false := by simp; omega
            have g2 : decide (194 ≤ x.toNat) = false := by simp; omega
            have g3 : decide ((224 : Int) ≤ (x.toNat : Int)) = false := by simp; omega
            have g4 : decide (224 ≤ x.toNat) = false := by simp; omega
            have g5 : decide ((240 : Int) ≤ (x.toNat : Int)) = false := by simp; omega
            have g6 : decide (240 ≤ x.toNat) = false := by simp; omega
            go_wp2
            go_ret
            exact ⟨by rw [HF.out]; rfl, rfl⟩
          · have g1 : (194 : Int) ≤ (x.toNat : Int) := by omega
            have g2 : decide ((x.toNat : Int) < 224) = false := by simp; omega
            have g3 : (224 : Int) ≤ (x.toNat : Int) := by omega
            have g4 : decide ((x.toNat : Int) < 240) = false := by simp; omega
            have g5 : (240 : Int) ≤ (x.toNat : Int) := by omega
            have g6 : decide ((x.toNat : Int) < 245) = false := by simp; omega
            have g7 : decide (x.toNat < 224) = false := by simp; omega
            have g8 : decide (x.toNat < 240) = false := by simp; omega
            have g9 : decide (x.toNat < 245) = false := by simp; omega
            go_wp2
            go_ret
            exact ⟨by rw [HF.out]; rfl, rfl⟩
        · by_cases hc2 : x.toNat < 224
          · have hc2' := hc2
            have HH := Lib.hid (H2.out (by omega) (by omega))
            have a0 : (194 : Int) ≤ (x.toNat : Int) := by omega
            have a1 : (x.toNat : Int) < 224 := by omega
            have hM : ((x.toNat : Nat) : Int).tmod 32 = ((x.toNat % 32 : Nat) : Int) := by rw [Int.tmod_eq_emod_of_nonneg (by omega)]; omega
            have hV0 := HV0.out 32
            have HV0' := Lib.hid hV0
            clear hV0 HV0 H1 HBd H2 H3 H4
            by_cases hfit : i + 2 ≤ s.size
            · have hfi : (i : Int) + 2 ≤ (s.size : Int) := by omega
              go_wp2
              go_loopw [7, 8] (fun s7 s8 wr => TiRel w s i 32 2 s7 s8 wr) (fun _ s8 _ => (2 - intOf s8).toNat)
              case atStart => exact ⟨0, 1, rfl, by decide, rfl, by rw [HV0'.out]; simp, fun j hj => by omega, rfl⟩
              case round =>
                obtain ⟨k, K, hkK, hK, rfl, rfl, hcn, rfl⟩ := hrel
                have HCn := Lib.hid hcn
                have HkK := Lib.hid hkK
                have HVl := Lib.hid (vN_lt s i 32 (by decide) (by decide) k (by omega) hcn)
                clear hcn
                by_cases hlk : K < 2
                · have hlki : (K : Int) < 2 := by omega
                  obtain ⟨P, hP⟩ : ∃ P, i + K = P := ⟨_, rfl⟩
                  have hPi : (i : Int) + (K : Int) = (P : Int) := by omega
                  have hPs : P < s.size := by omega
                  have hPs2 : (P : Int) < (s.size : Int) := by omega
                  obtain ⟨y, hy⟩ : ∃ y, s.get! P = y := ⟨_, rfl⟩
                  have hgP : ∀ h : P < s.size, s[P]'h = y := fun h => by rw [← hy]; exact (Utf8W.get!_of_lt s P h).symm
                  have HBy : Hid (bt s i (k + 1) = y.toNat) := Lib.hid (by rw [hkK, bt_get s i K (by omega), hP, hy])
                  have hy256 : y.toNat < 256 := y.toNat_lt
                  have HVs : Hid (vN s i 32 (k + 1) = vN s i 32 k * 64 + (y.toNat - 128)) := Lib.hid (by show vN s i 32 k * 64 + (bt s i (k + 1) - 128) = _; rw [HBy.out])
                  have HPK := Lib.hid hP
                  clear hP hy hkK
                  have hVb : vN s i 32 k ≤ 8388608 := by have h := HVl.out; have h2 : 32 * 64 ^ k ≤ 32 * 64 ^ 3 := Nat.mul_le_mul_left _ (Nat.pow_le_pow_right (by decide) (by have := HkK.out; omega)); omega
                  generalize vN s i 32 k = V at *
                  by_cases hy1 : y.toNat < 128
                  · have hy1i : (y.toNat : Int) < 128 := by omega
                    have HF : Hid (B = false) := Lib.hid (by
                      rcases HH.out with h | h
                      · have := h.1 k (by have := HkK.out; omega)
                        rw [HBy.out] at this
                        omega
                      · rw [← HV.out]; exact h.2)
                    go_wp2
                    go_ret
                    exact ⟨by rw [HF.out]; rfl, rfl⟩
                  · have hy1i : decide ((y.toNat : Int) < 128) = false := by simp; omega
                    have hy1j : decide (y.toNat < 128) = false := by simp; omega
                    by_cases hy2 : 191 < y.toNat
                    · have hy2i : (191 : Int) < (y.toNat : Int) := by omega
                      have HF : Hid (B = false) := Lib.hid (by
                        rcases HH.out with h | h
                        · have := h.1 k (by have := HkK.out; omega)
                          rw [HBy.out] at this
                          omega
                        · rw [← HV.out]; exact h.2)
                      go_wp2
                      go_ret
                      exact ⟨by rw [HF.out]; rfl, rfl⟩
                    · have hy2i : ¬ (191 : Int) < (y.toNat : Int) := by omega
                      have hsub : 64 * (V : Int) + (y.toNat : Int) - 128 = ((V * 64 + (y.toNat - 128) : Nat) : Int) := by omega
                      go_wp2
                      go_roundw
                      case rel => exact ⟨k + 1, K + 1, by have := HkK.out; omega, hlk, by go_num, by rw [HVs.out, Int.natCast_add, Int.natCast_mul]; rfl, cN_succ s i k HCn.out (by rw [HBy.out]; omega) (by rw [HBy.out]; omega), rfl⟩
                      case measure => simp [intOf]; omega
                · obtain rfl : K = 2 := by omega
                  obtain rfl : k = 1 := by omega
                  rw [show ((2 : Nat) : Int) = 2 from rfl]
                  generalize vN s i 32 1 = V at *
                  by_cases v1 : V < 128
                  · have v1i : (V : Int) < 128 := by omega
                    have HF : Hid (B = false) := Lib.hid (by
                      rcases HH.out with h | h
                      · have h1 := h.2.2.1; have h2 := h.2.2.2.1; have h3 := h.2.2.2.2.1
                        omega
                      · rw [← HV.out]; exact h.2)
                    go_wp2
                    go_ret
                    exact ⟨by rw [HF.out]; rfl, rfl⟩
                  · have v1i : decide ((V : Int) < 128) = false := by simp; omega
                    have v1j : decide (V < 128) = false := by simp; omega
                    by_cases v2 : 1114111 < V
                    · have v2i : (1114111 : Int) < (V : Int) := by omega
                      have HF : Hid (B = false) := Lib.hid (by
                        rcases HH.out with h | h
                        · have h1 := h.2.2.1; have h2 := h.2.2.2.1; have h3 := h.2.2.2.2.1
                          omega
                        · rw [← HV.out]; exact h.2)
                      go_wp2
                      go_ret
                      exact ⟨by rw [HF.out]; rfl, rfl⟩
                    · have v2i : decide ((1114111 : Int) < (V : Int)) = false := by simp; omega
                      have v2j : decide (1114111 < V) = false := by simp; omega
                      by_cases v3 : 55296 ≤ V
                      · have v3i : (55296 : Int) ≤ (V : Int) := by omega
                        by_cases v4 : V ≤ 57343
                        · have v4i : (V : Int) ≤ 57343 := by omega
                          have HF : Hid (B = false) := Lib.hid (by
                            rcases HH.out with h | h
                            · have h1 := h.2.2.1; have h2 := h.2.2.2.1; have h3 := h.2.2.2.2.1
                              omega
                            · rw [← HV.out]; exact h.2)
                          go_wp2
                          go_ret
                          exact ⟨by rw [HF.out]; rfl, rfl⟩
                        · have v4i : decide ((V : Int) ≤ 57343) = false := by simp; omega
                          have v4j : decide (V ≤ 57343) = false := by simp; omega
                          have HF : Hid (vD s (i + 2) = B) := Lib.hid (by
                            rcases HH.out with h | h
                            · rw [← h.2.2.2.2.2]; exact HV.out
                            · exact absurd ⟨HCn.out, hfit, by omega, by omega, by omega⟩ h.1)
                          go_wp2
                          go_roundw
                          case rel => exact ⟨i + 2, hfit, by go_num, HF.out, rfl⟩
                          case measure => simp [intOf]; omega
                      · have v3i : decide ((55296 : Int) ≤ (V : Int)) = false := by simp; omega
                        have v3j : decide (55296 ≤ V) = false := by simp; omega
                        have HF : Hid (vD s (i + 2) = B) := Lib.hid (by
                          rcases HH.out with h | h
                          · rw [← h.2.2.2.2.2]; exact HV.out
                          · exact absurd ⟨HCn.out, hfit, by omega, by omega, by omega⟩ h.1)
                        go_wp2
                        go_roundw
                        case rel => exact ⟨i + 2, hfit, by go_num, HF.out, rfl⟩
                        case measure => simp [intOf]; omega
            · have hfi : (s.size : Int) < (i : Int) + 2 := by omega
              have HF : Hid (B = false) := Lib.hid (by
                rcases HH.out with h | h
                · exact absurd h.2.1 hfit
                · rw [← HV.out]; exact h.2)
              go_wp2
              go_ret
              exact ⟨by rw [HF.out]; rfl, rfl⟩
          · by_cases hc3 : x.toNat < 240
            · have hc3' := hc3
              have HH := Lib.hid (H3.out (by omega) (by omega))
              have a0 : (194 : Int) ≤ (x.toNat : Int) := by omega
              have a1 : decide ((x.toNat : Int) < 224) = false := by simp; omega
              have b1 : decide (x.toNat < 224) = false := by simp; omega
              have a2 : (224 : Int) ≤ (x.toNat : Int) := by omega
              have a3 : (x.toNat : Int) < 240 := by omega
              have hM : ((x.toNat : Nat) : Int).tmod 16 = ((x.toNat % 16 : Nat) : Int) := by rw [Int.tmod_eq_emod_of_nonneg (by omega)]; omega
              have hV0 := HV0.out 16
              have HV0' := Lib.hid hV0
              clear hV0 HV0 H1 HBd H2 H3 H4
              by_cases hfit : i + 3 ≤ s.size
              · have hfi : (i : Int) + 3 ≤ (s.size : Int) := by omega
                go_wp2
                go_loopw [7, 8] (fun s7 s8 wr => TiRel w s i 16 3 s7 s8 wr) (fun _ s8 _ => (3 - intOf s8).toNat)
                case atStart => exact ⟨0, 1, rfl, by decide, rfl, by rw [HV0'.out]; simp, fun j hj => by omega, rfl⟩
                case round =>
                  obtain ⟨k, K, hkK, hK, rfl, rfl, hcn, rfl⟩ := hrel
                  have HCn := Lib.hid hcn
                  have HkK := Lib.hid hkK
                  have HVl := Lib.hid (vN_lt s i 16 (by decide) (by decide) k (by omega) hcn)
                  clear hcn
                  by_cases hlk : K < 3
                  · have hlki : (K : Int) < 3 := by omega
                    obtain ⟨P, hP⟩ : ∃ P, i + K = P := ⟨_, rfl⟩
                    have hPi : (i : Int) + (K : Int) = (P : Int) := by omega
                    have hPs : P < s.size := by omega
                    have hPs2 : (P : Int) < (s.size : Int) := by omega
                    obtain ⟨y, hy⟩ : ∃ y, s.get! P = y := ⟨_, rfl⟩
                    have hgP : ∀ h : P < s.size, s[P]'h = y := fun h => by rw [← hy]; exact (Utf8W.get!_of_lt s P h).symm
                    have HBy : Hid (bt s i (k + 1) = y.toNat) := Lib.hid (by rw [hkK, bt_get s i K (by omega), hP, hy])
                    have hy256 : y.toNat < 256 := y.toNat_lt
                    have HVs : Hid (vN s i 16 (k + 1) = vN s i 16 k * 64 + (y.toNat - 128)) := Lib.hid (by show vN s i 16 k * 64 + (bt s i (k + 1) - 128) = _; rw [HBy.out])
                    have HPK := Lib.hid hP
                    clear hP hy hkK
                    have hVb : vN s i 16 k ≤ 8388608 := by have h := HVl.out; have h2 : 32 * 64 ^ k ≤ 32 * 64 ^ 3 := Nat.mul_le_mul_left _ (Nat.pow_le_pow_right (by decide) (by have := HkK.out; omega)); omega
                    generalize vN s i 16 k = V at *
                    by_cases hy1 : y.toNat < 128
                    · have hy1i : (y.toNat : Int) < 128 := by omega
                      have HF : Hid (B = false) := Lib.hid (by
                        rcases HH.out with h | h
                        · have := h.1 k (by have := HkK.out; omega)
                          rw [HBy.out] at this
                          omega
                        · rw [← HV.out]; exact h.2)
                      go_wp2
                      go_ret
                      exact ⟨by rw [HF.out]; rfl, rfl⟩
                    · have hy1i : decide ((y.toNat : Int) < 128) = false := by simp; omega
                      have hy1j : decide (y.toNat < 128) = false := by simp; omega
                      by_cases hy2 : 191 < y.toNat
                      · have hy2i : (191 : Int) < (y.toNat : Int) := by omega
                        have HF : Hid (B = false) := Lib.hid (by
                          rcases HH.out with h | h
                          · have := h.1 k (by have := HkK.out; omega)
                            rw [HBy.out] at this
                            omega
                          · rw [← HV.out]; exact h.2)
                        go_wp2
                        go_ret
                        exact ⟨by rw [HF.out]; rfl, rfl⟩
                      · have hy2i : ¬ (191 : Int) < (y.toNat : Int) := by omega
                        have hsub : 64 * (V : Int) + (y.toNat : Int) - 128 = ((V * 64 + (y.toNat - 128) : Nat) : Int) := by omega
                        go_wp2
                        go_roundw
                        case rel => exact ⟨k + 1, K + 1, by have := HkK.out; omega, hlk, by go_num, by rw [HVs.out, Int.natCast_add, Int.natCast_mul]; rfl, cN_succ s i k HCn.out (by rw [HBy.out]; omega) (by rw [HBy.out]; omega), rfl⟩
                        case measure => simp [intOf]; omega
                  · obtain rfl : K = 3 := by omega
                    obtain rfl : k = 2 := by omega
                    rw [show ((3 : Nat) : Int) = 3 from rfl]
                    generalize vN s i 16 2 = V at *
                    by_cases v1 : V < 2048
                    · have v1i : (V : Int) < 2048 := by omega
                      have HF : Hid (B = false) := Lib.hid (by
                        rcases HH.out with h | h
                        · have h1 := h.2.2.1; have h2 := h.2.2.2.1; have h3 := h.2.2.2.2.1
                          omega
                        · rw [← HV.out]; exact h.2)
                      go_wp2
                      go_ret
                      exact ⟨by rw [HF.out]; rfl, rfl⟩
                    · have v1i : decide ((V : Int) < 2048) = false := by simp; omega
                      have v1j : decide (V < 2048) = false := by simp; omega
                      by_cases v2 : 1114111 < V
                      · have v2i : (1114111 : Int) < (V : Int) := by omega
                        have HF : Hid (B = false) := Lib.hid (by
                          rcases HH.out with h | h
                          · have h1 := h.2.2.1; have h2 := h.2.2.2.1; have h3 := h.2.2.2.2.1
                            omega
                          · rw [← HV.out]; exact h.2)
                        go_wp2
                        go_ret
                        exact ⟨by rw [HF.out]; rfl, rfl⟩
                      · have v2i : decide ((1114111 : Int) < (V : Int)) = false := by simp; omega
                        have v2j : decide (1114111 < V) = false := by simp; omega
                        by_cases v3 : 55296 ≤ V
                        · have v3i : (55296 : Int) ≤ (V : Int) := by omega
                          by_cases v4 : V ≤ 57343
                          · have v4i : (V : Int) ≤ 57343 := by omega
                            have HF : Hid (B = false) := Lib.hid (by
                              rcases HH.out with h | h
                              · have h1 := h.2.2.1; have h2 := h.2.2.2.1; have h3 := h.2.2.2.2.1
                                omega
                              · rw [← HV.out]; exact h.2)
                            go_wp2
                            go_ret
                            exact ⟨by rw [HF.out]; rfl, rfl⟩
                          · have v4i : decide ((V : Int) ≤ 57343) = false := by simp; omega
                            have v4j : decide (V ≤ 57343) = false := by simp; omega
                            have HF : Hid (vD s (i + 3) = B) := Lib.hid (by
                              rcases HH.out with h | h
                              · rw [← h.2.2.2.2.2]; exact HV.out
                              · exact absurd ⟨HCn.out, hfit, by omega, by omega, by omega⟩ h.1)
                            go_wp2
                            go_roundw
                            case rel => exact ⟨i + 3, hfit, by go_num, HF.out, rfl⟩
                            case measure => simp [intOf]; omega
                        · have v3i : decide ((55296 : Int) ≤ (V : Int)) = false := by simp; omega
                          have v3j : decide (55296 ≤ V) = false := by simp; omega
                          have HF : Hid (vD s (i + 3) = B) := Lib.hid (by
                            rcases HH.out with h | h
                            · rw [← h.2.2.2.2.2]; exact HV.out
                            · exact absurd ⟨HCn.out, hfit, by omega, by omega, by omega⟩ h.1)
                          go_wp2
                          go_roundw
                          case rel => exact ⟨i + 3, hfit, by go_num, HF.out, rfl⟩
                          case measure => simp [intOf]; omega
              · have hfi : (s.size : Int) < (i : Int) + 3 := by omega
                have HF : Hid (B = false) := Lib.hid (by
                  rcases HH.out with h | h
                  · exact absurd h.2.1 hfit
                  · rw [← HV.out]; exact h.2)
                go_wp2
                go_ret
                exact ⟨by rw [HF.out]; rfl, rfl⟩
            · have hc4' := hc3
              have HH := Lib.hid (H4.out (by omega) (by omega))
              have a0 : (194 : Int) ≤ (x.toNat : Int) := by omega
              have a1 : decide ((x.toNat : Int) < 224) = false := by simp; omega
              have b1 : decide (x.toNat < 224) = false := by simp; omega
              have a2 : (224 : Int) ≤ (x.toNat : Int) := by omega
              have a3 : decide ((x.toNat : Int) < 240) = false := by simp; omega
              have b3 : decide (x.toNat < 240) = false := by simp; omega
              have a4 : (240 : Int) ≤ (x.toNat : Int) := by omega
              have a5 : (x.toNat : Int) < 245 := by omega
              have hM : ((x.toNat : Nat) : Int).tmod 8 = ((x.toNat % 8 : Nat) : Int) := by rw [Int.tmod_eq_emod_of_nonneg (by omega)]; omega
              have hV0 := HV0.out 8
              have HV0' := Lib.hid hV0
              clear hV0 HV0 H1 HBd H2 H3 H4
              by_cases hfit : i + 4 ≤ s.size
              · have hfi : (i : Int) + 4 ≤ (s.size : Int) := by omega
                go_wp2
                go_loopw [7, 8] (fun s7 s8 wr => TiRel w s i 8 4 s7 s8 wr) (fun _ s8 _ => (4 - intOf s8).toNat)
                case atStart => exact ⟨0, 1, rfl, by decide, rfl, by rw [HV0'.out]; simp, fun j hj => by omega, rfl⟩
                case round =>
                  obtain ⟨k, K, hkK, hK, rfl, rfl, hcn, rfl⟩ := hrel
                  have HCn := Lib.hid hcn
                  have HkK := Lib.hid hkK
                  have HVl := Lib.hid (vN_lt s i 8 (by decide) (by decide) k (by omega) hcn)
                  clear hcn
                  by_cases hlk : K < 4
                  · have hlki : (K : Int) < 4 := by omega
                    obtain ⟨P, hP⟩ : ∃ P, i + K = P := ⟨_, rfl⟩
                    have hPi : (i : Int) + (K : Int) = (P : Int) := by omega
                    have hPs : P < s.size := by omega
                    have hPs2 : (P : Int) < (s.size : Int) := by omega
                    obtain ⟨y, hy⟩ : ∃ y, s.get! P = y := ⟨_, rfl⟩
                    have hgP : ∀ h : P < s.size, s[P]'h = y := fun h => by rw [← hy]; exact (Utf8W.get!_of_lt s P h).symm
                    have HBy : Hid (bt s i (k + 1) = y.toNat) := Lib.hid (by rw [hkK, bt_get s i K (by omega), hP, hy])
                    have hy256 : y.toNat < 256 := y.toNat_lt
                    have HVs : Hid (vN s i 8 (k + 1) = vN s i 8 k * 64 + (y.toNat - 128)) := Lib.hid (by show vN s i 8 k * 64 + (bt s i (k + 1) - 128) = _; rw [HBy.out])
                    have HPK := Lib.hid hP
                    clear hP hy hkK
                    have hVb : vN s i 8 k ≤ 8388608 := by have h := HVl.out; have h2 : 32 * 64 ^ k ≤ 32 * 64 ^ 3 := Nat.mul_le_mul_left _ (Nat.pow_le_pow_right (by decide) (by have := HkK.out; omega)); omega
                    generalize vN s i 8 k = V at *
                    by_cases hy1 : y.toNat < 128
                    · have hy1i : (y.toNat : Int) < 128 := by omega
                      have HF : Hid (B = false) := Lib.hid (by
                        rcases HH.out with h | h
                        · have := h.1 k (by have := HkK.out; omega)
                          rw [HBy.out] at this
                          omega
                        · rw [← HV.out]; exact h.2)
                      go_wp2
                      go_ret
                      exact ⟨by rw [HF.out]; rfl, rfl⟩
                    · have hy1i : decide ((y.toNat : Int) < 128) = false := by simp; omega
                      have hy1j : decide (y.toNat < 128) = false := by simp; omega
                      by_cases hy2 : 191 < y.toNat
                      · have hy2i : (191 : Int) < (y.toNat : Int) := by omega
                        have HF : Hid (B = false) := Lib.hid (by
                          rcases HH.out with h | h
                          · have := h.1 k (by have := HkK.out; omega)
                            rw [HBy.out] at this
                            omega
                          · rw [← HV.out]; exact h.2)
                        go_wp2
                        go_ret
                        exact ⟨by rw [HF.out]; rfl, rfl⟩
                      · have hy2i : ¬ (191 : Int) < (y.toNat : Int) := by omega
                        have hsub : 64 * (V : Int) + (y.toNat : Int) - 128 = ((V * 64 + (y.toNat - 128) : Nat) : Int) := by omega
                        go_wp2
                        go_roundw
                        case rel => exact ⟨k + 1, K + 1, by have := HkK.out; omega, hlk, by go_num, by rw [HVs.out, Int.natCast_add, Int.natCast_mul]; rfl, cN_succ s i k HCn.out (by rw [HBy.out]; omega) (by rw [HBy.out]; omega), rfl⟩
                        case measure => simp [intOf]; omega
                  · obtain rfl : K = 4 := by omega
                    obtain rfl : k = 3 := by omega
                    rw [show ((4 : Nat) : Int) = 4 from rfl]
                    generalize vN s i 8 3 = V at *
                    by_cases v1 : V < 65536
                    · have v1i : (V : Int) < 65536 := by omega
                      have HF : Hid (B = false) := Lib.hid (by
                        rcases HH.out with h | h
                        · have h1 := h.2.2.1; have h2 := h.2.2.2.1; have h3 := h.2.2.2.2.1
                          omega
                        · rw [← HV.out]; exact h.2)
                      go_wp2
                      go_ret
                      exact ⟨by rw [HF.out]; rfl, rfl⟩
                    · have v1i : decide ((V : Int) < 65536) = false := by simp; omega
                      have v1j : decide (V < 65536) = false := by simp; omega
                      by_cases v2 : 1114111 < V
                      · have v2i : (1114111 : Int) < (V : Int) := by omega
                        have HF : Hid (B = false) := Lib.hid (by
                          rcases HH.out with h | h
                          · have h1 := h.2.2.1; have h2 := h.2.2.2.1; have h3 := h.2.2.2.2.1
                            omega
                          · rw [← HV.out]; exact h.2)
                        go_wp2
                        go_ret
                        exact ⟨by rw [HF.out]; rfl, rfl⟩
                      · have v2i : decide ((1114111 : Int) < (V : Int)) = false := by simp; omega
                        have v2j : decide (1114111 < V) = false := by simp; omega
                        by_cases v3 : 55296 ≤ V
                        · have v3i : (55296 : Int) ≤ (V : Int) := by omega
                          by_cases v4 : V ≤ 57343
                          · have v4i : (V : Int) ≤ 57343 := by omega
                            have HF : Hid (B = false) := Lib.hid (by
                              rcases HH.out with h | h
                              · have h1 := h.2.2.1; have h2 := h.2.2.2.1; have h3 := h.2.2.2.2.1
                                omega
                              · rw [← HV.out]; exact h.2)
                            go_wp2
                            go_ret
                            exact ⟨by rw [HF.out]; rfl, rfl⟩
                          · have v4i : decide ((V : Int) ≤ 57343) = false := by simp; omega
                            have v4j : decide (V ≤ 57343) = false := by simp; omega
                            have HF : Hid (vD s (i + 4) = B) := Lib.hid (by
                              rcases HH.out with h | h
                              · rw [← h.2.2.2.2.2]; exact HV.out
                              · exact absurd ⟨HCn.out, hfit, by omega, by omega, by omega⟩ h.1)
                            go_wp2
                            go_roundw
                            case rel => exact ⟨i + 4, hfit, by go_num, HF.out, rfl⟩
                            case measure => simp [intOf]; omega
                        · have v3i : decide ((55296 : Int) ≤ (V : Int)) = false := by simp; omega
                          have v3j : decide (55296 ≤ V) = false := by simp; omega
                          have HF : Hid (vD s (i + 4) = B) := Lib.hid (by
                            rcases HH.out with h | h
                            · rw [← h.2.2.2.2.2]; exact HV.out
                            · exact absurd ⟨HCn.out, hfit, by omega, by omega, by omega⟩ h.1)
                          go_wp2
                          go_roundw
                          case rel => exact ⟨i + 4, hfit, by go_num, HF.out, rfl⟩
                          case measure => simp [intOf]; omega
              · have hfi : (s.size : Int) < (i : Int) + 4 := by omega
                have HF : Hid (B = false) := Lib.hid (by
                  rcases HH.out with h | h
                  · exact absurd h.2.1 hfit
                  · rw [← HV.out]; exact h.2)
                go_wp2
                go_ret
                exact ⟨by rw [HF.out]; rfl, rfl⟩
    · obtain rfl : i = s.size := by omega
      have hlti : ¬ ((s.size : Nat) : Int) < (s.size : Int) := by omega
      have HF : Hid (B = true) := Lib.hid (by rw [← HV.out]; exact HEnd.out)
      go_wp2
      go_ret
      exact ⟨by rw [HF.out]; rfl, rfl⟩
end Go.Proofs.YtphpciglpnbblaaDoor
