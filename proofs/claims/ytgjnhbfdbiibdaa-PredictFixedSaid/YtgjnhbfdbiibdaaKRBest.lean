/-
  The document's Best.
-/
import Derived.Test.YtgjnhbfdbiibdaaKDif
namespace Go.Proofs.Ytgjnhbfdbiibdaa
open Go.RowKit

/-- what the document has as the least so far -/
def lst (f : Nat → Nat) (k : Nat) : Int := if k = 0 then (-1 : Int) else (((bst f k).2 : Nat) : Int)
theorem lf_dif (xs : List Int) (k : Nat) (hk : k ≤ 4) (hn : k ≤ xs.length) (h : ∀ x ∈ xs, isS x) : lf xs k = mg (difN k xs) := by unfold lf; rw [res_difN xs k hk hn h]

set_option maxRecDepth 100000 in
set_option maxHeartbeats 4000000 in
theorem bestRef_any {w : World} (A : Option Addr) (n c : Nat) (xs : List Int) (hxs : ISrc w (.slice A n c) xs) (hn : n ≤ 1000) :
    Calls Try.prog 19 #[.slice A n c] w fun e w' => e = .returned (iv (bestV xs : Nat)) ∧ Only Nix w w' := by
  have hxl := hxs.len
  have HX := Lib.hid hxs
  have Hxl := Lib.hid hxl
  clear hxs hxl
  go_enter Try.func19, Try.ntmps19
  go_wp2
  go_loopw [3] (fun s3 wr => ∃ j : Nat, j ≤ n ∧ s3 = iv j ∧ (∀ x ∈ xs.take j, isS x) ∧ Only Nix w wr) (fun s3 _ => n - (intOf s3).toNat)
  case atStart => exact ⟨0, Nat.zero_le _, rfl, by simp, Only.refl _ _⟩
  case round =>
    obtain ⟨j, hj, rfl, hal, hO⟩ := hrel
    have HAl := Lib.hid hal
    have HO := Lib.hid hO
    clear hal
    by_cases hlt : j < n
    · have hltx : j < xs.length := by rw [← Hxl.out]; exact hlt
      obtain ⟨ad, rfl, hx⟩ := (HX.out.nix hO).at_ hltx
      have HM := Lib.hid (List.getElem_mem hltx)
      have HE := Lib.hid (List.take_succ_eq_append_getElem hltx)
      have hlti : (j : Int) < (n : Int) := by omega
      have HI := Lib.hid (may_any wr xs[j])
      generalize xs[j] = x at *
      clear hltx hO
      by_cases hS : isS x
      · rw [decide_eq_true hS] at HI
        have HS := Lib.hid hS
        clear hS
        go_wp2_with fail
        refine (HI.out).mono ?_
        rintro e w9 ⟨rfl, rfl⟩
        go_wp2
        go_roundw
        case rel =>
          refine ⟨j + 1, hlt, by go_num, fun y hy => ?_, HO.out⟩
          rw [HE.out] at hy
          rcases List.mem_append.1 hy with hy | hy
          · exact HAl.out y hy
          · simp at hy; subst hy; exact HS.out
        case measure => simp [intOf]; omega
      · rw [decide_eq_false hS] at HI
        have HV : Hid (bestV xs = 0) := Lib.hid (if_neg (fun h => hS (h x HM.out)))
        clear hS
        go_wp2_with fail
        refine (HI.out).mono ?_
        rintro e w9 ⟨rfl, rfl⟩
        go_wp2
        go_ret
        exact ⟨by rw [HV.out] <;> rfl, HO.out⟩
    · obtain rfl : j = n := by omega
      have hS : ∀ x ∈ xs, isS x := fun x hx => HAl.out x (by rw [List.take_of_length_le (by rw [← Hxl.out]; exact Nat.le_refl _)]; exact hx)
      have HS := Lib.hid hS
      have HV : Hid (bestV xs = (bst (lf xs) (min j 5)).1) := Lib.hid (by unfold bestV; rw [if_pos hS, ← Hxl.out])
      clear hS hO HAl
      go_wp2
      go_loopw [4, 5, 6] (fun s4 s5 s6 wy => ∃ k : Nat, k ≤ min j 5 ∧ s6 = iv k ∧ s4 = iv ((bst (lf xs) k).1 : Nat) ∧ s5 = iv (lst (lf xs) k) ∧ Only Nix w wy) (fun _ _ s6 _ => 5 - (intOf s6).toNat)
      case atStart => exact ⟨0, Nat.zero_le _, rfl, rfl, rfl, HO.out⟩
      case round =>
        obtain ⟨k, hk, rfl, rfl, rfl, hO⟩ := hrel
        have HOk := Lib.hid hO
        have hk5 : k ≤ 5 := by omega
        have hkn : k ≤ j := by omega
        clear hO
        by_cases hlt2 : k < 5 ∧ k < j
        · have hl5 : (k : Int) < 5 := by omega
          have hlj : (k : Int) < (j : Int) := by omega
          have hb := bst_bound xs (by rw [← Hxl.out]; exact hn) k
          have HB : Hid (bst (lf xs) (k + 1) = if k = 0 ∨ lf xs k < (bst (lf xs) k).2 then (k, lf xs k) else bst (lf xs) k) := Lib.hid rfl
          have HL : Hid (lst (lf xs) (k + 1) = ((bst (lf xs) (k + 1)).2 : Nat)) := Lib.hid (by unfold lst; rw [if_neg (by omega)])
          have HL0 : Hid (lst (lf xs) k = if k = 0 then (-1 : Int) else (((bst (lf xs) k).2 : Nat) : Int)) := Lib.hid rfl
          have HLF := Lib.hid (lf_dif xs k (by omega) (by rw [← Hxl.out]; omega) HS.out)
          have HDf := Lib.hid (differ_any (w := wr) k (by omega) A j c xs (HX.out.nix HOk.out) hn HS.out)
          have hdl := difN_len k xs
          rw [← Hxl.out] at hdl
          have HBD := Lib.hid (difN_small xs HS.out k (by omega))
          generalize bst (lf xs) k = bl at *
          obtain ⟨b, l⟩ := bl
          generalize lst (lf xs) k = ls at *
          have hb2 : l ≤ 4503599627370496000 := hb.1
          clear hb
          dsimp only at HB HL0
          have hlt3 := hlt2
          clear hlt2
          go_wp2_with fail
          refine (HDf.out).mono ?_
          rintro e w1 ⟨⟨A3, c3, rfl, hI3⟩, o3⟩
          rw [← Hxl.out] at hI3 ⊢
          have HO3 := Lib.hid (HOk.out.trans o3)
          obtain ⟨m, hm⟩ : ∃ m, j - k = m := ⟨_, rfl⟩
          rw [hm] at hI3 hdl ⊢
          have hm1 : m ≤ 1000 := by omega
          generalize difN k xs = ds at *
          have HI3 := Lib.hid hI3
          have Hdl := Lib.hid hdl
          have H3 := Lib.hid hlt3
          clear o3 hI3 hdl hm HDf hlt3
          go_wp2
          go_loopw [8, 9] (fun s8 s9 wz => ∃ i : Nat, i ≤ m ∧ s9 = iv i ∧ s8 = iv (mg (ds.take i) : Nat) ∧ Only Nix w1 wz) (fun _ s9 _ => m - (intOf s9).toNat)
          case atStart => exact ⟨0, Nat.zero_le _, rfl, rfl, Only.refl _ _⟩
          case round =>
            obtain ⟨i, hi, rfl, rfl, hOi⟩ := hrel
            by_cases hli : i < m
            · have hlx : i < ds.length := by rw [Hdl.out]; exact hli
              obtain ⟨ad, rfl, hx⟩ := (HI3.out.nix hOi).at_ hlx
              have hbx := HBD.out _ (List.getElem_mem hlx)
              have hSn := mg_snoc (ds.take i) ds[i]
              rw [← List.take_succ_eq_append_getElem hlx] at hSn
              have HSn := Lib.hid hSn
              have hmb := mg_bound (ds.take i) (fun d hd => by have := HBD.out d (List.mem_of_mem_take hd); omega)
              have hml : (ds.take i).length ≤ 1000 := by rw [List.length_take]; omega
              have hm2 : mg (ds.take i) ≤ 4503599627370496000 := by omega
              have hlii : (i : Int) < (m : Int) := by omega
              have HOi := Lib.hid hOi
              generalize ds[i] = d at *
              generalize mg (ds.take i) = M at *
              have hmx : max d (-d) = ((d.natAbs : Nat) : Int) := by omega
              obtain ⟨q, hq⟩ : ∃ q, d.natAbs = q := ⟨_, rfl⟩
              rw [hq] at hmx HSn
              have hqb : q ≤ 68719476736 := by omega
              have hw1 : IntKind.i64.wrap (-d) = -d := w64k _ (by omega) (by omega)
              have hw2 : IntKind.i64.wrap ((M : Int) + (q : Int)) = (M : Int) + (q : Int) := w64k _ (by omega) (by omega)
              clear hq hmb hml hSn hlx hOi
              go_wp2_with fail
              go_quiet (fail)
              go_wp2
              have hmx2 : (if d < -d then -d else d) = (q : Int) := by
                rw [← hmx]
                split <;> omega
              exact ⟨⟨i + 1, hli, by go_num, by rw [HSn.out, hmx2]; go_num, HOi.out.drewN _⟩, by simp [intOf]; omega⟩
            · obtain rfl : i = m := by omega
              rw [List.take_of_length_le (by rw [Hdl.out]; exact Nat.le_refl _)]
              have HLF2 : Hid (mg ds = lf xs k) := Lib.hid HLF.out.symm
              rw [HLF2.out]
              have HO5 := Lib.hid (HO3.out.trans hOi)
              have hk1 : k + 1 ≤ min j 5 := by have := H3.out; omega
              have Hk1 := Lib.hid hk1
              clear hOi HLF HLF2 HBD hk1
              generalize lf xs k = q at *
              by_cases h0 : k = 0 ∨ q < l
              · rw [if_pos h0] at HB
                have HL1 : Hid (lst (lf xs) (k + 1) = (q : Int)) := Lib.hid (by rw [HL.out, HB.out])
                by_cases hk0 : k = 0
                · have hls := HL0.out
                  rw [if_pos hk0] at hls
                  subst hls
                  clear HL0 HL
                  go_wp2
                  go_roundw
                  case rel => exact ⟨k + 1, Hk1.out, by go_num, by rw [HB.out], by rw [HL1.out], HO5.out⟩
                  case measure => simp [intOf]; omega
                · have hls := HL0.out
                  rw [if_neg hk0] at hls
                  subst hls
                  have hql : q < l := by omega
                  have hqli : (q : Int) < (l : Int) := by omega
                  have hl0 : ¬ (l : Int) < 0 := by omega
                  clear HL0 HL
                  go_wp2
                  go_roundw
                  case rel => exact ⟨k + 1, Hk1.out, by go_num, by rw [HB.out], by rw [HL1.out], HO5.out⟩
                  case measure => simp [intOf]; omega
              · rw [if_neg h0] at HB
                have HL1 : Hid (lst (lf xs) (k + 1) = (l : Int)) := Lib.hid (by rw [HL.out, HB.out])
                have hk0 : ¬ k = 0 := fun h => h0 (.inl h)
                have hls := HL0.out
                rw [if_neg hk0] at hls
                subst hls
                have hql : ¬ q < l := fun h => h0 (.inr h)
                have hqli : ¬ (q : Int) < (l : Int) := by omega
                have hl0 : ¬ (l : Int) < 0 := by omega
                clear h0 HL0 HL
                go_wp2
                go_roundw
                case rel => exact ⟨k + 1, Hk1.out, by go_num, by rw [HB.out], by rw [HL1.out], HO5.out⟩
                case measure => simp [intOf]; omega
        · have HE : Hid (k = min j 5) := Lib.hid (by omega)
          by_cases hl5 : k < 5
          · have hl5i : (k : Int) < 5 := by omega
            have hlji : ¬ (k : Int) < (j : Int) := by omega
            clear hlt2
            go_wp2
            go_ret
            exact ⟨by rw [HV.out, ← HE.out] <;> rfl, HOk.out⟩
          · have hl5i : ¬ (k : Int) < 5 := by omega
            clear hlt2
            go_wp2
            go_ret
            exact ⟨by rw [HV.out, ← HE.out] <;> rfl, HOk.out⟩
end Go.Proofs.Ytgjnhbfdbiibdaa
