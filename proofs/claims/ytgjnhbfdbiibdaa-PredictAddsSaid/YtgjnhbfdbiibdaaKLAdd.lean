/-
  PredictAdds: its walk.
-/
import Derived.Test.YtgjnhbfdbiibdaaKAdd
namespace Go.Proofs.Ytgjnhbfdbiibdaa
open Go.RowKit

def AdI (W0 : World) (l1 l2 : List Int) (s8 s9 : Value) (NN : Nat) (wr : World) : Prop :=
  ∃ j A c, j ≤ NN ∧ s9 = iv j ∧ s8 = .slice A j c ∧ (∀ i, i < j → sm30 (l1.getD i 0)) ∧ (∀ i, i < j → sm30 (l2.getD i 0)) ∧ wr.ownsRow W0.heap.size 3 1 (.slice A j c) j ((add2 l1 l2 j).map iv) ∧ Only Nix W0 wr

set_option maxRecDepth 100000 in
set_option maxHeartbeats 8000000 in
theorem adds_lt {w : World} (P S : Int) (Ac : Option Addr) (nc cc : Nat) (cs : List Int) (A1 : Option Addr) (n1 c1 : Nat) (l1 : List Int) (A2 : Option Addr) (n2 c2 : Nat) (l2 : List Int) (hcs : ISrc w (.slice Ac nc cc) cs) (h1 : ISrc w (.slice A1 n1 c1) l1) (h2 : ISrc w (.slice A2 n2 c2) l2) (hlt : n2 < n1) (hlti : (n2 : Int) < (n1 : Int)) :
    Calls Try.prog 7 #[linV P S (.slice Ac nc cc), .slice A1 n1 c1, .slice A2 n2 c2] w fun e w' => e = .returned (.bool true) ∧ Only Nix w w' := by
  have hcl := hcs.len
  have hsc := hcs.small
  rw [← hcl] at hsc
  have hb1 := h1.len
  have hs1 := h1.small
  rw [← hb1] at hs1
  have hb2 := h2.len
  have hs2 := h2.small
  rw [← hb2] at hs2
  have hq1 := h1.cap
  have hq2 := h2.cap
  rw [← hb1] at hq1
  rw [← hb2] at hq2
  have hN1 : n2 ≤ n1 := by omega
  have hN2 : n2 ≤ n2 := by omega
  have HC := Lib.hid hcs
  have H1 := Lib.hid h1
  have H2 := Lib.hid h2
  have Hcl := Lib.hid hcl
  have Hb1 := Lib.hid hb1
  have Hb2 := Lib.hid hb2
  have HA := Lib.hid ((Only.refl Nix w).alloc (.cells #[iv P, iv S, .slice Ac nc cc] 24))
  clear hcs h1 h2 hcl hb1 hb2
  by_cases g0 : 40 < nc
  · have g0i : (40 : Int) < (nc : Int) := by omega
    have HW := Lib.hid (awake6 (w.alloc (.cells #[iv P, iv S, .slice Ac nc cc] 24)))
    go_enter Try.func7, Try.ntmps7
    go_wp2_with fail
    refine (HW.out).mono ?_
    rintro e w1 ⟨rfl, o1⟩
    have HO := Lib.hid (HA.out.trans o1)
    clear o1 HW
    go_wp2
    go_ret
    exact ⟨rfl, HO.out⟩
  · have g0i : ¬ (40 : Int) < (nc : Int) := by omega
    by_cases g1 : 100 < n2
    · have g1i : (100 : Int) < (n2 : Int) := by omega
      have HW := Lib.hid (awake6 (w.alloc (.cells #[iv P, iv S, .slice Ac nc cc] 24)))
      go_enter Try.func7, Try.ntmps7
      go_wp2_with fail
      refine (HW.out).mono ?_
      rintro e w1 ⟨rfl, o1⟩
      have HO := Lib.hid (HA.out.trans o1)
      clear o1 HW
      go_wp2
      go_ret
      exact ⟨rfl, HO.out⟩
    · have g1i : ¬ (100 : Int) < (n2 : Int) := by omega
      go_enter Try.func7, Try.ntmps7
      go_wp2
      have a0 := (Only.refl Nix w).alloc (.cells #[iv P, iv 0, .slice Ac nc cc] 24)
      have B0 := Box.new w 24 #[iv P, iv 0, .slice Ac nc cc]
      have d0 := B0.cell 0
      have d1 := B0.cell 1
      have d2 := B0.cell 2
      simp only [List.getElem?_toArray, List.getElem?_cons_zero, List.getElem?_cons_succ] at d0 d1 d2
      clear B0 HA
      generalize w.alloc (.cells #[iv P, iv 0, .slice Ac nc cc] 24) = W0 at *
      have HA0 := Lib.hid a0
      clear a0
      go_loopw [8, 9] (fun s8 s9 wr => AdI W0 l1 l2 s8 s9 n2 wr) (fun _ s9 _ => n2 - (intOf s9).toNat)
      case atStart => exact ⟨0, none, 0, Nat.zero_le _, rfl, rfl, fun i hi => by omega, fun i hi => by omega, World.ownsRow_nil _ _ _ _, Only.refl _ _⟩
      case round =>
        obtain ⟨j, A7, c7, hj, rfl, rfl, hma, hmb, hown, hOw⟩ := hrel
        have HMa := Lib.hid hma
        have HMb := Lib.hid hmb
        have HOw := Lib.hid hown
        have HW := Lib.hid hOw
        have HW2 := Lib.hid (HA0.out.trans hOw)
        have e0 := cell_keep hOw d0
        have e1 := cell_keep hOw d1
        have e2 := cell_keep hOw d2
        clear hma hmb hown hOw
        by_cases hjn : j < n2
        · have hjni : (j : Int) < (n2 : Int) := by omega
          have hjl1 : j < l1.length := by rw [← Hb1.out]; omega
          have hjl2 : j < l2.length := by rw [← Hb2.out]; omega
          obtain ⟨ad, rfl, hx⟩ := (H1.out.nix HW2.out).at_ hjl1
          obtain ⟨bd, rfl, hy⟩ := (H2.out.nix HW2.out).at_ hjl2
          have hj1 : j < n1 := by omega
          have hj2 : j < n2 := by omega
          have hj1i : (j : Int) < (n1 : Int) := by omega
          have hj2i : (j : Int) < (n2 : Int) := by omega
          have HG1 := Lib.hid (getD_of hjl1)
          have HG2 := Lib.hid (getD_of hjl2)
          have HSn := Lib.hid (add2_snoc l1 l2 j)
          generalize l1[j] = x at *
          generalize l2[j] = y at *
          clear hjl1 hjl2
          have HAw := Lib.hid (awake6 wr)
          by_cases b1 : 1073741824 < x
          · go_wp2_with fail
            refine (HAw.out).mono ?_
            rintro e w1 ⟨rfl, o1⟩
            have HO := Lib.hid (HW2.out.trans o1)
            clear o1 HAw
            go_wp2
            go_ret
            exact ⟨rfl, HO.out⟩
          · by_cases b2 : x < -1073741824
            · go_wp2_with fail
              refine (HAw.out).mono ?_
              rintro e w1 ⟨rfl, o1⟩
              have HO := Lib.hid (HW2.out.trans o1)
              clear o1 HAw
              go_wp2
              go_ret
              exact ⟨rfl, HO.out⟩
            · by_cases b3 : 1073741824 < y
              · go_wp2_with fail
                refine (HAw.out).mono ?_
                rintro e w1 ⟨rfl, o1⟩
                have HO := Lib.hid (HW2.out.trans o1)
                clear o1 HAw
                go_wp2
                go_ret
                exact ⟨rfl, HO.out⟩
              · by_cases b4 : y < -1073741824
                · go_wp2_with fail
                  refine (HAw.out).mono ?_
                  rintro e w1 ⟨rfl, o1⟩
                  have HO := Lib.hid (HW2.out.trans o1)
                  clear o1 HAw
                  go_wp2
                  go_ret
                  exact ⟨rfl, HO.out⟩
                · clear HAw
                  have HM2 : Hid ((∀ i, i < j + 1 → sm30 (l1.getD i 0)) ∧ (∀ i, i < j + 1 → sm30 (l2.getD i 0))) := Lib.hid ⟨fun i hi => by
                      by_cases h : i < j
                      · exact HMa.out i h
                      · obtain rfl : i = j := by omega
                        rw [HG1.out]; unfold sm30; omega, fun i hi => by
                      by_cases h : i < j
                      · exact HMb.out i h
                      · obtain rfl : i = j := by omega
                        rw [HG2.out]; unfold sm30; omega⟩
                  go_wp2
                  have noOutC : ∀ j s, j < 13 → (([some 64, some 65, some 66, some 67, some 68, some 69, some 70, some 71, some 72, some 73, some 74, some 75, some 8] : List (Option Nat)).all fun d => d != some s) = true → ([some 64, some 65, some 66, some 67, some 68, some 69, some 70, some 71, some 72, some 73, some 74, some 75, some 8] : List (Option Nat)).getD j none ≠ some s := by
                    intro j s hj ha e
                    rw [List.getD_eq_getElem?_getD, List.getElem?_eq_getElem (by exact hj), Option.getD_some] at e
                    have := List.all_eq_true.1 ha _ (List.getElem_mem (by exact hj))
                    rw [e] at this
                    simp at this
                  refine region_gho (by kernel_rfl) (fun k0 => ([some 64, some 65, some 66, some 67, some 68, some 69, some 70, some 71, some 72, some 73, some 74, some 75, some 8] : List (Option Nat)).getD k0 none) (fun k0 => ([some (.slice A7 j c7), some (.slice (some ad) n1 c1), some (iv j), some (.pointer (some (ad.add j))), some (iv x), some (.slice (some bd) n2 c2), some (iv j), some (.pointer (some (bd.add j))), some (iv y), some (iv (x + y)), none, none, none] : List (Option Value)).getD k0 none) (RrW W0 wr W0.heap.size 11 (.slice A7 j c7) j ((add2 l1 l2 j).map iv) (x + y)) 141 13 rfl (by kernel_rfl) (by kernel_rfl) rfl (by kernel_rfl) (by kernel_rfl) ⟨fun _ => (Only.refl Nix wr).drew, (fun e => by cases e), (fun e => by cases e), (fun e => by cases e)⟩ ?stepsC (fun vs => [(64, vs 0), (65, vs 1), (66, vs 2), (67, vs 3), (68, vs 4), (69, vs 5), (70, vs 6), (71, vs 7), (72, vs 8), (73, vs 9), (74, vs 10), (75, vs 11), (8, vs 12)]) (fun vs => rfl) ?doneC
                  case stepsC =>
                    refine ⟨?_, ?_, ?_, ?_, ?_, ?_, ?_, ?_, ?_, ?_, ?_, ?_, ?_, trivial⟩
                    · intro L vs A' u hW hL0 hnd K' hK
                      have hns : L 12 = false := notYet hW.closed (j := 12) (by rfl) (k := 0) (by kernel_rfl) hL0
                      have r8 : A'.tmps[8]? = some (.slice A7 j c7) := (hW.fresh 12 8 (by decide) hns rfl).trans rfl
                      go_simp
                      exact hK _ _ (fun v0 e => by cases e; rfl) (hW.wi.step (Only.refl _ _) (by decide))
                    · intro L vs A' u hW hL0 hnd K' hK
                      have r1 : A'.tmps[1]? = some (.slice (some ad) n1 c1) := (hW.out 1 (fun j hj => noOutC j 1 hj (by kernel_rfl))).trans rfl
                      go_simp
                      exact hK _ _ (fun v0 e => by cases e; rfl) (hW.wi.step (Only.refl _ _) (by decide))
                    · intro L vs A' u hW hL0 hnd K' hK
                      have r9 : A'.tmps[9]? = some (iv j) := (hW.out 9 (fun j hj => noOutC j 9 hj (by kernel_rfl))).trans rfl
                      go_simp
                      exact hK _ _ (fun v0 e => by cases e; rfl) (hW.wi.step (Only.refl _ _) (by decide))
                    · intro L vs A' u hW hL0 hnd K' hK
                      have r65 : A'.tmps[65]? = some (.slice (some ad) n1 c1) := by
                        have h := hW.val 1 65 (by decide) (hnd 1 (by kernel_rfl)) rfl
                        rw [hW.known 1 _ (hnd 1 (by kernel_rfl)) rfl] at h
                        exact h
                      have r66 : A'.tmps[66]? = some (iv j) := by
                        have h := hW.val 2 66 (by decide) (hnd 2 (by kernel_rfl)) rfl
                        rw [hW.known 2 _ (hnd 2 (by kernel_rfl)) rfl] at h
                        exact h
                      go_simp
                      exact hK _ _ (fun v0 e => by cases e; rfl) (hW.wi.step (Only.refl _ _) (by decide))
                    · intro L vs A' u hW hL0 hnd K' hK
                      have n9 : L 9 = false := notYet hW.closed (j := 9) (by rfl) (k := 4) (by kernel_rfl) hL0
                      have n10 : L 10 = false := notYet hW.closed (j := 10) (by rfl) (k := 9) (by kernel_rfl) n9
                      have n11 : L 11 = false := notYet hW.closed (j := 11) (by rfl) (k := 10) (by kernel_rfl) n10
                      have r67 : A'.tmps[67]? = some (.pointer (some (ad.add j))) := by
                        have h := hW.val 3 67 (by decide) (hnd 3 (by kernel_rfl)) rfl
                        rw [hW.known 3 _ (hnd 3 (by kernel_rfl)) rfl] at h
                        exact h
                      have hc := cell_keep (hW.wi.only n11) hx
                      go_simp
                      exact hK _ _ (fun v0 e => by cases e; rfl) (hW.wi.step (Only.refl _ _) (by decide))
                    · intro L vs A' u hW hL0 hnd K' hK
                      have r2 : A'.tmps[2]? = some (.slice (some bd) n2 c2) := (hW.out 2 (fun j hj => noOutC j 2 hj (by kernel_rfl))).trans rfl
                      go_simp
                      exact hK _ _ (fun v0 e => by cases e; rfl) (hW.wi.step (Only.refl _ _) (by decide))
                    · intro L vs A' u hW hL0 hnd K' hK
                      have r9 : A'.tmps[9]? = some (iv j) := (hW.out 9 (fun j hj => noOutC j 9 hj (by kernel_rfl))).trans rfl
                      go_simp
                      exact hK _ _ (fun v0 e => by cases e; rfl) (hW.wi.step (Only.refl _ _) (by decide))
                    · intro L vs A' u hW hL0 hnd K' hK
                      have r69 : A'.tmps[69]? = some (.slice (some bd) n2 c2) := by
                        have h := hW.val 5 69 (by decide) (hnd 5 (by kernel_rfl)) rfl
                        rw [hW.known 5 _ (hnd 5 (by kernel_rfl)) rfl] at h
                        exact h
                      have r70 : A'.tmps[70]? = some (iv j) := by
                        have h := hW.val 6 70 (by decide) (hnd 6 (by kernel_rfl)) rfl
                        rw [hW.known 6 _ (hnd 6 (by kernel_rfl)) rfl] at h
                        exact h
                      go_simp
                      exact hK _ _ (fun v0 e => by cases e; rfl) (hW.wi.step (Only.refl _ _) (by decide))
                    · intro L vs A' u hW hL0 hnd K' hK
                      have n9 : L 9 = false := notYet hW.closed (j := 9) (by rfl) (k := 8) (by kernel_rfl) hL0
                      have n10 : L 10 = false := notYet hW.closed (j := 10) (by rfl) (k := 9) (by kernel_rfl) n9
                      have n11 : L 11 = false := notYet hW.closed (j := 11) (by rfl) (k := 10) (by kernel_rfl) n10
                      have r71 : A'.tmps[71]? = some (.pointer (some (bd.add j))) := by
                        have h := hW.val 7 71 (by decide) (hnd 7 (by kernel_rfl)) rfl
                        rw [hW.known 7 _ (hnd 7 (by kernel_rfl)) rfl] at h
                        exact h
                      have hc := cell_keep (hW.wi.only n11) hy
                      go_simp
                      exact hK _ _ (fun v0 e => by cases e; rfl) (hW.wi.step (Only.refl _ _) (by decide))
                    · intro L vs A' u hW hL0 hnd K' hK
                      have r68 : A'.tmps[68]? = some (iv x) := by
                        have h := hW.val 4 68 (by decide) (hnd 4 (by kernel_rfl)) rfl
                        rw [hW.known 4 _ (hnd 4 (by kernel_rfl)) rfl] at h
                        exact h
                      have r72 : A'.tmps[72]? = some (iv y) := by
                        have h := hW.val 8 72 (by decide) (hnd 8 (by kernel_rfl)) rfl
                        rw [hW.known 8 _ (hnd 8 (by kernel_rfl)) rfl] at h
                        exact h
                      go_simp
                      rw [w64k (x + y) (by omega) (by omega)]
                      exact hK _ _ (fun v0 e => by cases e; rfl) (hW.wi.step (Only.refl _ _) (by decide))
                    · intro L vs A' u hW hL0 hnd K' hK
                      have n11 : L 11 = false := notYet hW.closed (j := 11) (by rfl) (k := 10) (by kernel_rfl) hL0
                      have r73 : A'.tmps[73]? = some (iv (x + y)) := by
                        have h := hW.val 9 73 (by decide) (hnd 9 (by kernel_rfl)) rfl
                        rw [hW.known 9 _ (hnd 9 (by kernel_rfl)) rfl] at h
                        exact h
                      go_simp
                      exact hK _ _ (fun v0 e => by cases e) (hW.wi.lay n11 (by decide) rfl rfl)
                    · intro L vs A' u hW hL0 hnd K' hK
                      have n12 : L 12 = false := notYet hW.closed (j := 12) (by rfl) (k := 11) (by kernel_rfl) hL0
                      have r64 : A'.tmps[64]? = some (.slice A7 j c7) := by
                        have h := hW.val 0 64 (by decide) (hnd 0 (by kernel_rfl)) rfl
                        rw [hW.known 0 _ (hnd 0 (by kernel_rfl)) rfl] at h
                        exact h
                      have r74 : A'.tmps[74]? = some (vs 10) := hW.val 10 74 (by decide) (hnd 10 (by kernel_rfl)) rfl
                      obtain ⟨H, h5, h6⟩ := hW.wi.arg (hnd 10 (by kernel_rfl))
                      rw [h5] at r74
                      refine step_append_one rfl (.tmp 64) (.tmp 74) rfl W0.heap.size (.slice A7 j c7) j ((add2 l1 l2 j).map iv) (by simp [Act.eval, r64]) (owns_only HOw.out (hW.wi.only hL0) (fun _ _ e => e)) H (x + y) (by simp [Act.eval, r74]) (h6 hL0) (by omega) ?_ ?_
                      · exact Nat.le_trans HW.out.size (hW.wi.only hL0).size
                      · intro g cap u' k1 k2 k3
                        exact hK _ _ (fun v0 e => by cases e) (hW.wi.app hL0 n12 HW.out HOw.out (Nat.le_refl _) g cap k1 k2 k3 (by decide) rfl rfl)
                    · intro L vs A' u hW hL0 hnd K' hK
                      have r75 : A'.tmps[75]? = some (vs 11) := hW.val 11 75 (by decide) (hnd 11 (by kernel_rfl)) rfl
                      go_simp
                      exact hK _ _ (fun v0 e => by cases e) (hW.wi.put rfl rfl (hnd 11 (by kernel_rfl)))
                  case doneC =>
                    intro L vs u hWI hkn hall
                    obtain ⟨⟨g, cap, e12, hg, hrow⟩, hW1, hWr⟩ := hWI.done (hall 11 (by decide))
                    have e13 := hWI.same (hall 12 (by decide))
                    rw [e12] at e13
                    have HF := Lib.hid (And.intro hrow hW1)
                    clear hWI hkn hall noOutC hrow hW1 hWr hg
                    simp only [putV, List.foldl_cons, List.foldl_nil, e13, List.setIfInBounds_toArray, List.set_cons_zero, List.set_cons_succ]
                    clear e12 e13
                    go_wp2
                    go_roundw
                    case rel => exact ⟨j + 1, _, _, hjn, by go_num, rfl, HM2.out.1, HM2.out.2, by rw [HSn.out, HG1.out, HG2.out, List.map_append]; exact HF.out.1, HF.out.2⟩
                    case measure => simp [intOf]; omega
        · have hjN : j = n2 := by omega
          rw [hjN] at HMa HMb HOw ⊢
          clear hjn hj hjN
          have hsA : ∀ x ∈ l1.take n2, isS x := sm30_take HMa.out
          have hsB : ∀ x ∈ l2.take n2, isS x := sm30_take HMb.out
          have hsC : ∀ x ∈ add2 l1 l2 n2, isS x := sm30_add HMa.out HMb.out
          have hlA : (l1.take n2).length = n2 := by rw [List.length_take, ← Hb1.out]; omega
          have hlB : (l2.take n2).length = n2 := by rw [List.length_take, ← Hb2.out]; omega
          have hlC : (add2 l1 l2 n2).length = n2 := add2_len l1 l2 n2
          obtain ⟨A8, c8, e8, hI8⟩ := row_isrc HOw.out hlC hsC (by omega)
          injection e8 with eA _ ec
          subst eA ec
          have HI8 := Lib.hid hI8
          obtain ⟨MM, hMM⟩ : ∃ MM, resM P cs n2 = MM := ⟨_, rfl⟩
          obtain ⟨EE, hEE⟩ : ∃ EE, resS P cs n2 = EE := ⟨_, rfl⟩
          have HEqs : Hid (∀ i, i < MM → (resV P 0 cs (add2 l1 l2 n2)).getD i 0 = (resV P 0 cs (l1.take n2)).getD i 0 + (resV P 0 cs (l2.take n2)).getD i 0) := Lib.hid (fun i hi => adds_at P cs l1 l2 n2 HMa.out HMb.out (by rw [← Hb1.out]; omega) (by rw [← Hb2.out]; omega) i (by rw [hMM]; exact hi))
          have gen : ∀ (xs : List Int) (hs : ∀ x ∈ xs, isS x) (hl : xs.length = n2) (u : World) (A : Option Addr) (c : Nat), ISrc u (.slice Ac nc cc) cs → ISrc u (.slice A n2 c) xs → Calls Try.prog 9 #[linV P 0 (.slice Ac nc cc), .slice A n2 c] u fun e w' => (∃ A c, e = .returned (.tuple #[.slice A MM c, iv EE]) ∧ ISrc w' (.slice A MM c) (resV P 0 cs xs)) ∧ Only Nix u w' := fun xs hs hl u A c hc hx => by
            have h := residual_any P 0 Ac nc cc cs A n2 c xs hc hx (by omega)
            unfold ResR at h
            rw [resE_small P cs xs hs, resV_small P cs xs hs, hl, hMM, hEE] at h
            exact h
          have hlenV : ∀ (xs : List Int), (∀ x ∈ xs, isS x) → xs.length = n2 → (resV P 0 cs xs).length = MM := fun xs hs hl => by rw [resV_small P cs xs hs, hl, hMM]
          have HbA := Lib.hid (resV_bound P 0 cs (l1.take n2))
          have HbB := Lib.hid (resV_bound P 0 cs (l2.take n2))
          have HlA := Lib.hid (hlenV _ hsA hlA)
          have HlB := Lib.hid (hlenV _ hsB hlB)
          have HlC := Lib.hid (hlenV _ hsC hlC)
          have HTA : Hid (∀ u, Only Nix wr u → Calls Try.prog 9 #[linV P 0 (.slice Ac nc cc), .slice A1 n2 c1] u fun e w' => (∃ A c, e = .returned (.tuple #[.slice A MM c, iv EE]) ∧ ISrc w' (.slice A MM c) (resV P 0 cs (l1.take n2))) ∧ Only Nix u w') := Lib.hid (fun u hu => gen _ hsA hlA u A1 c1 (HC.out.nix (HW2.out.trans hu)) ((H1.out.nix (HW2.out.trans hu)).take n2 hN1))
          have HTB : Hid (∀ u, Only Nix wr u → Calls Try.prog 9 #[linV P 0 (.slice Ac nc cc), .slice A2 n2 c2] u fun e w' => (∃ A c, e = .returned (.tuple #[.slice A MM c, iv EE]) ∧ ISrc w' (.slice A MM c) (resV P 0 cs (l2.take n2))) ∧ Only Nix u w') := Lib.hid (fun u hu => gen _ hsB hlB u A2 c2 (HC.out.nix (HW2.out.trans hu)) ((H2.out.nix (HW2.out.trans hu)).take n2 hN2))
          have HTC : Hid (∀ u, Only Nix wr u → Calls Try.prog 9 #[linV P 0 (.slice Ac nc cc), .slice A7 n2 c7] u fun e w' => (∃ A c, e = .returned (.tuple #[.slice A MM c, iv EE]) ∧ ISrc w' (.slice A MM c) (resV P 0 cs (add2 l1 l2 n2))) ∧ Only Nix u w') := Lib.hid (fun u hu => gen _ hsC hlC u A7 c7 (HC.out.nix (HW2.out.trans hu)) (HI8.out.nix hu))
          have hMb : MM ≤ 100 := by
            rw [← hMM]
            unfold resM
            split <;> omega
          obtain ⟨DSA, hDA⟩ : ∃ DSA, resV P 0 cs (l1.take n2) = DSA := ⟨_, rfl⟩
          obtain ⟨DSB, hDB⟩ : ∃ DSB, resV P 0 cs (l2.take n2) = DSB := ⟨_, rfl⟩
          obtain ⟨DSC, hDC⟩ : ∃ DSC, resV P 0 cs (add2 l1 l2 n2) = DSC := ⟨_, rfl⟩
          rw [hDA] at HbA HlA HTA HEqs
          rw [hDB] at HbB HlB HTB HEqs
          rw [hDC] at HlC HTC HEqs
          obtain ⟨w5, hw5⟩ : ∃ w5, w5 = wr := ⟨_, rfl⟩
          subst hw5
          clear hsA hsB hsC hlA hlB hlC hI8 hMM hEE gen hlenV hDA hDB hDC HI8 HMa HMb HOw d0 d1 d2
          have q0 := e0
          have q1 := e1
          have q2 := e2
          go_wp2
          have noOutA : ∀ j s, j < 10 → (([some 77, some 78, some 79, some 80, some 81, some 76, some 82, some 83, some 10, some 11] : List (Option Nat)).all fun d => d != some s) = true → ([some 77, some 78, some 79, some 80, some 81, some 76, some 82, some 83, some 10, some 11] : List (Option Nat)).getD j none ≠ some s := by
            intro j s hj ha e
            rw [List.getD_eq_getElem?_getD, List.getElem?_eq_getElem (by exact hj), Option.getD_some] at e
            have := List.all_eq_true.1 ha _ (List.getElem_mem (by exact hj))
            rw [e] at this
            simp at this
          refine region_gho (by kernel_rfl) (fun k0 => ([some 77, some 78, some 79, some 80, some 81, some 76, some 82, some 83, some 10, some 11] : List (Option Nat)).getD k0 none) (fun k0 => ([some (linV P 0 (.slice Ac nc cc)), some (.slice A1 n1 c1), some (iv n2), some (.slice A1 n2 c1), none, none, none, none, none, none] : List (Option Value)).getD k0 none) (AdW w5 MM EE DSA) 141 10 rfl (by kernel_rfl) (by kernel_rfl) rfl (by kernel_rfl) (by kernel_rfl) ⟨(Only.refl Nix _).drew, (fun e => by cases e)⟩ ?stepsA (fun vs => [(77, vs 0), (78, vs 1), (79, vs 2), (80, vs 3), (81, vs 4), (76, vs 5), (82, vs 6), (83, vs 7), (10, vs 8), (11, vs 9)]) (fun vs => rfl) ?doneA
          case stepsA =>
            refine ⟨?_, ?_, ?_, ?_, ?_, ?_, ?_, ?_, ?_, ?_, trivial⟩
            · intro L vs A' u hW hL0 hnd K' hK
              have n4 : L 4 = false := notYet hW.closed (j := 4) (by rfl) (k := 0) (by kernel_rfl) hL0
              have r3 : A'.tmps[3]? = some (.pointer (some ⟨w.heap.size, 0, none⟩)) := (hW.out 3 (fun j hj => noOutA j 3 hj (by kernel_rfl))).trans rfl
              have hc0 := cell_keep hW.wi.only q0
              have hc1 := cell_keep hW.wi.only q1
              have hc2 := cell_keep hW.wi.only q2
              go_simp
              exact hK _ _ (fun v0 e => by cases e; rfl) (hW.wi.low n4 (by decide))
            · intro L vs A' u hW hL0 hnd K' hK
              have n3 : L 3 = false := notYet hW.closed (j := 3) (by rfl) (k := 1) (by kernel_rfl) hL0
              have n4 : L 4 = false := notYet hW.closed (j := 4) (by rfl) (k := 3) (by kernel_rfl) n3
              have r1 : A'.tmps[1]? = some (.slice A1 n1 c1) := (hW.out 1 (fun j hj => noOutA j 1 hj (by kernel_rfl))).trans rfl
              go_simp
              exact hK _ _ (fun v0 e => by cases e; rfl) (hW.wi.low n4 (by decide))
            · intro L vs A' u hW hL0 hnd K' hK
              have n3 : L 3 = false := notYet hW.closed (j := 3) (by rfl) (k := 2) (by kernel_rfl) hL0
              have n4 : L 4 = false := notYet hW.closed (j := 4) (by rfl) (k := 3) (by kernel_rfl) n3
              have r7 : A'.tmps[7]? = some (iv n2) := (hW.out 7 (fun j hj => noOutA j 7 hj (by kernel_rfl))).trans rfl
              go_simp
              exact hK _ _ (fun v0 e => by cases e; rfl) (hW.wi.low n4 (by decide))
            · intro L vs A' u hW hL0 hnd K' hK
              have n4 : L 4 = false := notYet hW.closed (j := 4) (by rfl) (k := 3) (by kernel_rfl) hL0
              have r78 : A'.tmps[78]? = some (.slice A1 n1 c1) := by
                have h := hW.val 1 78 (by decide) (hnd 1 (by kernel_rfl)) rfl
                rw [hW.known 1 _ (hnd 1 (by kernel_rfl)) rfl] at h
                exact h
              have r79 : A'.tmps[79]? = some (iv n2) := by
                have h := hW.val 2 79 (by decide) (hnd 2 (by kernel_rfl)) rfl
                rw [hW.known 2 _ (hnd 2 (by kernel_rfl)) rfl] at h
                exact h
              have hjc : n2 ≤ c1 := by omega
              go_simp
              exact hK _ _ (fun v0 e => by cases e; rfl) (hW.wi.low n4 (by decide))
            · intro L vs A' u hW hL0 hnd K' hK
              have n5 : L 5 = false := notYet hW.closed (j := 5) (by rfl) (k := 4) (by kernel_rfl) hL0
              have n6 : L 6 = false := notYet hW.closed (j := 6) (by rfl) (k := 5) (by kernel_rfl) n5
              have n8 : L 8 = false := notYet hW.closed (j := 8) (by rfl) (k := 6) (by kernel_rfl) n6
              have p5 : L 5 = false := notYet hW.closed (j := 5) (by rfl) (k := 4) (by kernel_rfl) hL0
              have p7 : L 7 = false := notYet hW.closed (j := 7) (by rfl) (k := 5) (by kernel_rfl) p5
              have p9 : L 9 = false := notYet hW.closed (j := 9) (by rfl) (k := 7) (by kernel_rfl) p7
              have r77 : A'.tmps[77]? = some (linV P 0 (.slice Ac nc cc)) := by
                have h := hW.val 0 77 (by decide) (hnd 0 (by kernel_rfl)) rfl
                rw [hW.known 0 _ (hnd 0 (by kernel_rfl)) rfl] at h
                exact h
              have r80 : A'.tmps[80]? = some (.slice A1 n2 c1) := by
                have h := hW.val 3 80 (by decide) (hnd 3 (by kernel_rfl)) rfl
                rw [hW.known 3 _ (hnd 3 (by kernel_rfl)) rfl] at h
                exact h
              have HCL := Lib.hid (HTA.out u hW.wi.only)
              go_simp
              refine (HCL.out).mono ?_
              rintro e' u' ⟨⟨A9, c9, rfl, hI9⟩, ho'⟩
              exact hK _ _ (fun v0 e => by cases e) (hW.wi.ask ho' n5 n6 p7 n8 p9 A9 c9 rfl hI9)
            · intro L vs A' u hW hL0 hnd K' hK
              have r81 : A'.tmps[81]? = some (vs 4) := hW.val 4 81 (by decide) (hnd 4 (by kernel_rfl)) rfl
              go_simp
              exact hK _ _ (fun v0 e => by cases e) (hW.wi.s5 rfl)
            · intro L vs A' u hW hL0 hnd K' hK
              obtain ⟨A9, c9, h4, hI9, h5, h6, h7, h8, h9⟩ := hW.wi.got (hW.closed 5 _ 4 (by rfl) (hnd 5 (by kernel_rfl)) (by kernel_rfl))
              have r76 : A'.tmps[76]? = some (.tuple #[.slice A9 MM c9, iv EE]) := by rw [hW.val 5 76 (by decide) (hnd 5 (by kernel_rfl)) rfl, h5 (hnd 5 (by kernel_rfl))]
              go_simp
              exact hK _ _ (fun v0 e => by cases e) (hW.wi.s6 (fun A c e => by rw [h4] at e; injection e with e; simp at e; rw [e.1, e.2]))
            · intro L vs A' u hW hL0 hnd K' hK
              obtain ⟨A9, c9, h4, hI9, h5, h6, h7, h8, h9⟩ := hW.wi.got (hW.closed 5 _ 4 (by rfl) (hnd 5 (by kernel_rfl)) (by kernel_rfl))
              have r76 : A'.tmps[76]? = some (.tuple #[.slice A9 MM c9, iv EE]) := by rw [hW.val 5 76 (by decide) (hnd 5 (by kernel_rfl)) rfl, h5 (hnd 5 (by kernel_rfl))]
              go_simp
              exact hK _ _ (fun v0 e => by cases e) (hW.wi.s7 rfl)
            · intro L vs A' u hW hL0 hnd K' hK
              have l5 := hW.closed 6 _ 5 (by rfl) (hnd 6 (by kernel_rfl)) (by kernel_rfl)
              obtain ⟨A9, c9, h4, hI9, h5, h6, h7, h8, h9⟩ := hW.wi.got (hW.closed 5 _ 4 (by rfl) l5 (by kernel_rfl))
              have r82 : A'.tmps[82]? = some (.slice A9 MM c9) := by rw [hW.val 6 82 (by decide) (hnd 6 (by kernel_rfl)) rfl, h6 (hnd 6 (by kernel_rfl))]
              go_simp
              exact hK _ _ (fun v0 e => by cases e) (hW.wi.s8 (fun A c e => by rw [h4] at e; injection e with e; simp at e; rw [e.1, e.2]))
            · intro L vs A' u hW hL0 hnd K' hK
              have l5 := hW.closed 7 _ 5 (by rfl) (hnd 7 (by kernel_rfl)) (by kernel_rfl)
              obtain ⟨A9, c9, h4, hI9, h5, h6, h7, h8, h9⟩ := hW.wi.got (hW.closed 5 _ 4 (by rfl) l5 (by kernel_rfl))
              have r83 : A'.tmps[83]? = some (iv EE) := by rw [hW.val 7 83 (by decide) (hnd 7 (by kernel_rfl)) rfl, h7 (hnd 7 (by kernel_rfl))]
              go_simp
              exact hK _ _ (fun v0 e => by cases e) (hW.wi.s9 rfl)
          case doneA =>
            intro L vs u hWI hkn hall
            obtain ⟨A3, c3, h4, hI3, h5, h6, h7, h8, h9⟩ := hWI.got (hall 4 (by decide))
            have h8 := h8 (hall 8 (by decide))
            have h9 := h9 (hall 9 (by decide))
            have o6 := hWI.only
            obtain ⟨w6, hw6⟩ : ∃ w6, w6 = u := ⟨_, rfl⟩
            subst hw6
            have HI3 := Lib.hid hI3
            have HO6 := Lib.hid o6
            have HTB2 : Hid (∀ u, Only Nix w6 u → Calls Try.prog 9 #[linV P 0 (.slice Ac nc cc), .slice A2 n2 c2] u fun e w' => (∃ A c, e = .returned (.tuple #[.slice A MM c, iv EE]) ∧ ISrc w' (.slice A MM c) DSB) ∧ Only Nix u w') := Lib.hid (fun u hu => HTB.out u (o6.trans hu))
            have q0 := cell_keep o6 e0
            have q1 := cell_keep o6 e1
            have q2 := cell_keep o6 e2
            simp only [putV, List.foldl_cons, List.foldl_nil, h8, h9, List.setIfInBounds_toArray, List.set_cons_zero, List.set_cons_succ]
            clear hWI hkn hall noOutA HTA HTB h4 h5 h6 h7 h8 h9 hI3 o6 e0 e1 e2
            generalize vs 0 = vz0
            generalize vs 1 = vz1
            generalize vs 2 = vz2
            generalize vs 3 = vz3
            generalize vs 4 = vz4
            generalize vs 5 = vz5
            generalize vs 6 = vz6
            generalize vs 7 = vz7
            go_wp2
            have noOutB : ∀ j s, j < 10 → (([some 85, some 86, some 87, some 88, some 89, some 84, some 90, some 91, some 12, some 13] : List (Option Nat)).all fun d => d != some s) = true → ([some 85, some 86, some 87, some 88, some 89, some 84, some 90, some 91, some 12, some 13] : List (Option Nat)).getD j none ≠ some s := by
              intro j s hj ha e
              rw [List.getD_eq_getElem?_getD, List.getElem?_eq_getElem (by exact hj), Option.getD_some] at e
              have := List.all_eq_true.1 ha _ (List.getElem_mem (by exact hj))
              rw [e] at this
              simp at this
            refine region_gho (by kernel_rfl) (fun k0 => ([some 85, some 86, some 87, some 88, some 89, some 84, some 90, some 91, some 12, some 13] : List (Option Nat)).getD k0 none) (fun k0 => ([some (linV P 0 (.slice Ac nc cc)), some (.slice A2 n2 c2), some (iv n2), some (.slice A2 n2 c2), none, none, none, none, none, none] : List (Option Value)).getD k0 none) (AdW w6 MM EE DSB) 141 10 rfl (by kernel_rfl) (by kernel_rfl) rfl (by kernel_rfl) (by kernel_rfl) ⟨(Only.refl Nix _).drew, (fun e => by cases e)⟩ ?stepsB (fun vs => [(85, vs 0), (86, vs 1), (87, vs 2), (88, vs 3), (89, vs 4), (84, vs 5), (90, vs 6), (91, vs 7), (12, vs 8), (13, vs 9)]) (fun vs => rfl) ?doneB
            case stepsB =>
              refine ⟨?_, ?_, ?_, ?_, ?_, ?_, ?_, ?_, ?_, ?_, trivial⟩
              · intro L vs A' u hW hL0 hnd K' hK
                have n4 : L 4 = false := notYet hW.closed (j := 4) (by rfl) (k := 0) (by kernel_rfl) hL0
                have r3 : A'.tmps[3]? = some (.pointer (some ⟨w.heap.size, 0, none⟩)) := (hW.out 3 (fun j hj => noOutB j 3 hj (by kernel_rfl))).trans rfl
                have hc0 := cell_keep hW.wi.only q0
                have hc1 := cell_keep hW.wi.only q1
                have hc2 := cell_keep hW.wi.only q2
                go_simp
                exact hK _ _ (fun v0 e => by cases e; rfl) (hW.wi.low n4 (by decide))
              · intro L vs A' u hW hL0 hnd K' hK
                have n3 : L 3 = false := notYet hW.closed (j := 3) (by rfl) (k := 1) (by kernel_rfl) hL0
                have n4 : L 4 = false := notYet hW.closed (j := 4) (by rfl) (k := 3) (by kernel_rfl) n3
                have r2 : A'.tmps[2]? = some (.slice A2 n2 c2) := (hW.out 2 (fun j hj => noOutB j 2 hj (by kernel_rfl))).trans rfl
                go_simp
                exact hK _ _ (fun v0 e => by cases e; rfl) (hW.wi.low n4 (by decide))
              · intro L vs A' u hW hL0 hnd K' hK
                have n3 : L 3 = false := notYet hW.closed (j := 3) (by rfl) (k := 2) (by kernel_rfl) hL0
                have n4 : L 4 = false := notYet hW.closed (j := 4) (by rfl) (k := 3) (by kernel_rfl) n3
                have r7 : A'.tmps[7]? = some (iv n2) := (hW.out 7 (fun j hj => noOutB j 7 hj (by kernel_rfl))).trans rfl
                go_simp
                exact hK _ _ (fun v0 e => by cases e; rfl) (hW.wi.low n4 (by decide))
              · intro L vs A' u hW hL0 hnd K' hK
                have n4 : L 4 = false := notYet hW.closed (j := 4) (by rfl) (k := 3) (by kernel_rfl) hL0
                have r86 : A'.tmps[86]? = some (.slice A2 n2 c2) := by
                  have h := hW.val 1 86 (by decide) (hnd 1 (by kernel_rfl)) rfl
                  rw [hW.known 1 _ (hnd 1 (by kernel_rfl)) rfl] at h
                  exact h
                have r87 : A'.tmps[87]? = some (iv n2) := by
                  have h := hW.val 2 87 (by decide) (hnd 2 (by kernel_rfl)) rfl
                  rw [hW.known 2 _ (hnd 2 (by kernel_rfl)) rfl] at h
                  exact h
                have hjc : n2 ≤ c2 := by omega
                go_simp
                exact hK _ _ (fun v0 e => by cases e; rfl) (hW.wi.low n4 (by decide))
              · intro L vs A' u hW hL0 hnd K' hK
                have n5 : L 5 = false := notYet hW.closed (j := 5) (by rfl) (k := 4) (by kernel_rfl) hL0
                have n6 : L 6 = false := notYet hW.closed (j := 6) (by rfl) (k := 5) (by kernel_rfl) n5
                have n8 : L 8 = false := notYet hW.closed (j := 8) (by rfl) (k := 6) (by kernel_rfl) n6
                have p5 : L 5 = false := notYet hW.closed (j := 5) (by rfl) (k := 4) (by kernel_rfl) hL0
                have p7 : L 7 = false := notYet hW.closed (j := 7) (by rfl) (k := 5) (by kernel_rfl) p5
                have p9 : L 9 = false := notYet hW.closed (j := 9) (by rfl) (k := 7) (by kernel_rfl) p7
                have r85 : A'.tmps[85]? = some (linV P 0 (.slice Ac nc cc)) := by
                  have h := hW.val 0 85 (by decide) (hnd 0 (by kernel_rfl)) rfl
                  rw [hW.known 0 _ (hnd 0 (by kernel_rfl)) rfl] at h
                  exact h
                have r88 : A'.tmps[88]? = some (.slice A2 n2 c2) := by
                  have h := hW.val 3 88 (by decide) (hnd 3 (by kernel_rfl)) rfl
                  rw [hW.known 3 _ (hnd 3 (by kernel_rfl)) rfl] at h
                  exact h
                have HCL := Lib.hid (HTB2.out u hW.wi.only)
                go_simp
                refine (HCL.out).mono ?_
                rintro e' u' ⟨⟨A9, c9, rfl, hI9⟩, ho'⟩
                exact hK _ _ (fun v0 e => by cases e) (hW.wi.ask ho' n5 n6 p7 n8 p9 A9 c9 rfl hI9)
              · intro L vs A' u hW hL0 hnd K' hK
                have r89 : A'.tmps[89]? = some (vs 4) := hW.val 4 89 (by decide) (hnd 4 (by kernel_rfl)) rfl
                go_simp
                exact hK _ _ (fun v0 e => by cases e) (hW.wi.s5 rfl)
              · intro L vs A' u hW hL0 hnd K' hK
                obtain ⟨A9, c9, h4, hI9, h5, h6, h7, h8, h9⟩ := hW.wi.got (hW.closed 5 _ 4 (by rfl) (hnd 5 (by kernel_rfl)) (by kernel_rfl))
                have r84 : A'.tmps[84]? = some (.tuple #[.slice A9 MM c9, iv EE]) := by rw [hW.val 5 84 (by decide) (hnd 5 (by kernel_rfl)) rfl, h5 (hnd 5 (by kernel_rfl))]
                go_simp
                exact hK _ _ (fun v0 e => by cases e) (hW.wi.s6 (fun A c e => by rw [h4] at e; injection e with e; simp at e; rw [e.1, e.2]))
              · intro L vs A' u hW hL0 hnd K' hK
                obtain ⟨A9, c9, h4, hI9, h5, h6, h7, h8, h9⟩ := hW.wi.got (hW.closed 5 _ 4 (by rfl) (hnd 5 (by kernel_rfl)) (by kernel_rfl))
                have r84 : A'.tmps[84]? = some (.tuple #[.slice A9 MM c9, iv EE]) := by rw [hW.val 5 84 (by decide) (hnd 5 (by kernel_rfl)) rfl, h5 (hnd 5 (by kernel_rfl))]
                go_simp
                exact hK _ _ (fun v0 e => by cases e) (hW.wi.s7 rfl)
              · intro L vs A' u hW hL0 hnd K' hK
                have l5 := hW.closed 6 _ 5 (by rfl) (hnd 6 (by kernel_rfl)) (by kernel_rfl)
                obtain ⟨A9, c9, h4, hI9, h5, h6, h7, h8, h9⟩ := hW.wi.got (hW.closed 5 _ 4 (by rfl) l5 (by kernel_rfl))
                have r90 : A'.tmps[90]? = some (.slice A9 MM c9) := by rw [hW.val 6 90 (by decide) (hnd 6 (by kernel_rfl)) rfl, h6 (hnd 6 (by kernel_rfl))]
                go_simp
                exact hK _ _ (fun v0 e => by cases e) (hW.wi.s8 (fun A c e => by rw [h4] at e; injection e with e; simp at e; rw [e.1, e.2]))
              · intro L vs A' u hW hL0 hnd K' hK
                have l5 := hW.closed 7 _ 5 (by rfl) (hnd 7 (by kernel_rfl)) (by kernel_rfl)
                obtain ⟨A9, c9, h4, hI9, h5, h6, h7, h8, h9⟩ := hW.wi.got (hW.closed 5 _ 4 (by rfl) l5 (by kernel_rfl))
                have r91 : A'.tmps[91]? = some (iv EE) := by rw [hW.val 7 91 (by decide) (hnd 7 (by kernel_rfl)) rfl, h7 (hnd 7 (by kernel_rfl))]
                go_simp
                exact hK _ _ (fun v0 e => by cases e) (hW.wi.s9 rfl)
            case doneB =>
              intro L vs u hWI hkn hall
              obtain ⟨A4, c4, h4, hI4, h5, h6, h7, h8, h9⟩ := hWI.got (hall 4 (by decide))
              have h8 := h8 (hall 8 (by decide))
              have h9 := h9 (hall 9 (by decide))
              have o7 := hWI.only
              have HI3b := Lib.hid (HI3.out.nix o7)
              have HI4 := Lib.hid hI4
              have HTC2 := Lib.hid (HTC.out u (HO6.out.trans o7))
              have HO7 := Lib.hid ((HW2.out.trans HO6.out).trans o7)
              have f0 := cell_keep o7 q0
              have f1 := cell_keep o7 q1
              have f2 := cell_keep o7 q2
              simp only [putV, List.foldl_cons, List.foldl_nil, h8, h9, List.setIfInBounds_toArray, List.set_cons_zero, List.set_cons_succ]
              clear hWI hkn hall noOutB HTB2 HTC h4 h5 h6 h7 h8 h9 hI4 o7 q0 q1 q2 HI3
              generalize vs 0 = vy0
              generalize vs 1 = vy1
              generalize vs 2 = vy2
              generalize vs 3 = vy3
              generalize vs 4 = vy4
              generalize vs 5 = vy5
              generalize vs 6 = vy6
              generalize vs 7 = vy7
              go_wp2_with fail
              refine (HTC2.out).mono ?_
              rintro e w8 ⟨⟨A5, c5, rfl, hI5⟩, o8⟩
              have HIA := Lib.hid (HI3b.out.nix o8)
              have HIB := Lib.hid (HI4.out.nix o8)
              have HIC := Lib.hid hI5
              have HO8 := Lib.hid (HO7.out.trans o8)
              clear o8 hI5 HTC2 HI3b HI4 f0 f1 f2 HO7
              go_wp2
              go_loopw [16] (fun s16 wy => ∃ i : Nat, i ≤ MM ∧ s16 = iv i ∧ Only Nix w8 wy) (fun s16 _ => MM - (intOf s16).toNat)
              case atStart => exact ⟨0, Nat.zero_le _, rfl, Only.refl _ _⟩
              case round =>
                obtain ⟨i, hi, rfl, hOi⟩ := hrel
                by_cases hlt2 : i < MM
                · have hlt2i : (i : Int) < (MM : Int) := by omega
                  have ha : i < DSA.length := by rw [HlA.out]; exact hlt2
                  have hb : i < DSB.length := by rw [HlB.out]; exact hlt2
                  have hc : i < DSC.length := by rw [HlC.out]; exact hlt2
                  obtain ⟨xa, rfl, qa⟩ := (HIA.out.nix hOi).at_ ha
                  obtain ⟨xb, rfl, qb⟩ := (HIB.out.nix hOi).at_ hb
                  obtain ⟨xc, rfl, qc⟩ := (HIC.out.nix hOi).at_ hc
                  have hEq := HEqs.out i hlt2
                  rw [getD_of ha, getD_of hb, getD_of hc] at hEq
                  rw [hEq] at qc
                  have ba := HbA.out _ (List.getElem_mem ha)
                  have bb := HbB.out _ (List.getElem_mem hb)
                  have HOi := Lib.hid hOi
                  generalize DSA[i] = x at *
                  generalize DSB[i] = y at *
                  have hw1 : IntKind.i64.wrap (x + y) = x + y := w64k _ (by omega) (by omega)
                  clear hEq ha hb hc hOi
                  go_wp2_with fail
                  go_quiet (fail)
                  go_wp2
                  go_roundw
                  case rel => exact ⟨i + 1, hlt2, by go_num, HOi.out.drewN _⟩
                  case measure => simp [intOf]; omega
                · obtain rfl : i = MM := by omega
                  have HW9 := Lib.hid (awake6 wr)
                  have HO9 := Lib.hid (HO8.out.trans hOi)
                  clear hOi
                  go_wp2_with fail
                  refine (HW9.out).mono ?_
                  rintro e w9 ⟨rfl, o9⟩
                  have HO10 := Lib.hid (HO9.out.trans o9)
                  clear o9 HW9
                  go_wp2
                  go_ret
                  exact ⟨rfl, HO10.out⟩

set_option maxRecDepth 100000 in
set_option maxHeartbeats 8000000 in
theorem adds_ge {w : World} (P S : Int) (Ac : Option Addr) (nc cc : Nat) (cs : List Int) (A1 : Option Addr) (n1 c1 : Nat) (l1 : List Int) (A2 : Option Addr) (n2 c2 : Nat) (l2 : List Int) (hcs : ISrc w (.slice Ac nc cc) cs) (h1 : ISrc w (.slice A1 n1 c1) l1) (h2 : ISrc w (.slice A2 n2 c2) l2) (hlt : n1 ≤ n2) (_hlti : (n1 : Int) ≤ (n2 : Int)) :
    Calls Try.prog 7 #[linV P S (.slice Ac nc cc), .slice A1 n1 c1, .slice A2 n2 c2] w fun e w' => e = .returned (.bool true) ∧ Only Nix w w' := by
  have hcl := hcs.len
  have hsc := hcs.small
  rw [← hcl] at hsc
  have hb1 := h1.len
  have hs1 := h1.small
  rw [← hb1] at hs1
  have hb2 := h2.len
  have hs2 := h2.small
  rw [← hb2] at hs2
  have hq1 := h1.cap
  have hq2 := h2.cap
  rw [← hb1] at hq1
  rw [← hb2] at hq2
  have hN1 : n1 ≤ n1 := by omega
  have hN2 : n1 ≤ n2 := by omega
  have HC := Lib.hid hcs
  have H1 := Lib.hid h1
  have H2 := Lib.hid h2
  have Hcl := Lib.hid hcl
  have Hb1 := Lib.hid hb1
  have Hb2 := Lib.hid hb2
  have HA := Lib.hid ((Only.refl Nix w).alloc (.cells #[iv P, iv S, .slice Ac nc cc] 24))
  clear hcs h1 h2 hcl hb1 hb2
  by_cases g0 : 40 < nc
  · have g0i : (40 : Int) < (nc : Int) := by omega
    have HW := Lib.hid (awake6 (w.alloc (.cells #[iv P, iv S, .slice Ac nc cc] 24)))
    go_enter Try.func7, Try.ntmps7
    go_wp2_with fail
    refine (HW.out).mono ?_
    rintro e w1 ⟨rfl, o1⟩
    have HO := Lib.hid (HA.out.trans o1)
    clear o1 HW
    go_wp2
    go_ret
    exact ⟨rfl, HO.out⟩
  · have g0i : ¬ (40 : Int) < (nc : Int) := by omega
    by_cases g1 : 100 < n1
    · have g1i : (100 : Int) < (n1 : Int) := by omega
      have HW := Lib.hid (awake6 (w.alloc (.cells #[iv P, iv S, .slice Ac nc cc] 24)))
      go_enter Try.func7, Try.ntmps7
      go_wp2_with fail
      refine (HW.out).mono ?_
      rintro e w1 ⟨rfl, o1⟩
      have HO := Lib.hid (HA.out.trans o1)
      clear o1 HW
      go_wp2
      go_ret
      exact ⟨rfl, HO.out⟩
    · have g1i : ¬ (100 : Int) < (n1 : Int) := by omega
      go_enter Try.func7, Try.ntmps7
      go_wp2
      have a0 := (Only.refl Nix w).alloc (.cells #[iv P, iv 0, .slice Ac nc cc] 24)
      have B0 := Box.new w 24 #[iv P, iv 0, .slice Ac nc cc]
      have d0 := B0.cell 0
      have d1 := B0.cell 1
      have d2 := B0.cell 2
      simp only [List.getElem?_toArray, List.getElem?_cons_zero, List.getElem?_cons_succ] at d0 d1 d2
      clear B0 HA
      generalize w.alloc (.cells #[iv P, iv 0, .slice Ac nc cc] 24) = W0 at *
      have HA0 := Lib.hid a0
      clear a0
      go_loopw [8, 9] (fun s8 s9 wr => AdI W0 l1 l2 s8 s9 n1 wr) (fun _ s9 _ => n1 - (intOf s9).toNat)
      case atStart => exact ⟨0, none, 0, Nat.zero_le _, rfl, rfl, fun i hi => by omega, fun i hi => by omega, World.ownsRow_nil _ _ _ _, Only.refl _ _⟩
      case round =>
        obtain ⟨j, A7, c7, hj, rfl, rfl, hma, hmb, hown, hOw⟩ := hrel
        have HMa := Lib.hid hma
        have HMb := Lib.hid hmb
        have HOw := Lib.hid hown
        have HW := Lib.hid hOw
        have HW2 := Lib.hid (HA0.out.trans hOw)
        have e0 := cell_keep hOw d0
        have e1 := cell_keep hOw d1
        have e2 := cell_keep hOw d2
        clear hma hmb hown hOw
        by_cases hjn : j < n1
        · have hjni : (j : Int) < (n1 : Int) := by omega
          have hjl1 : j < l1.length := by rw [← Hb1.out]; omega
          have hjl2 : j < l2.length := by rw [← Hb2.out]; omega
          obtain ⟨ad, rfl, hx⟩ := (H1.out.nix HW2.out).at_ hjl1
          obtain ⟨bd, rfl, hy⟩ := (H2.out.nix HW2.out).at_ hjl2
          have hj1 : j < n1 := by omega
          have hj2 : j < n2 := by omega
          have hj1i : (j : Int) < (n1 : Int) := by omega
          have hj2i : (j : Int) < (n2 : Int) := by omega
          have HG1 := Lib.hid (getD_of hjl1)
          have HG2 := Lib.hid (getD_of hjl2)
          have HSn := Lib.hid (add2_snoc l1 l2 j)
          generalize l1[j] = x at *
          generalize l2[j] = y at *
          clear hjl1 hjl2
          have HAw := Lib.hid (awake6 wr)
          by_cases b1 : 1073741824 < x
          · go_wp2_with fail
            refine (HAw.out).mono ?_
            rintro e w1 ⟨rfl, o1⟩
            have HO := Lib.hid (HW2.out.trans o1)
            clear o1 HAw
            go_wp2
            go_ret
            exact ⟨rfl, HO.out⟩
          · by_cases b2 : x < -1073741824
            · go_wp2_with fail
              refine (HAw.out).mono ?_
              rintro e w1 ⟨rfl, o1⟩
              have HO := Lib.hid (HW2.out.trans o1)
              clear o1 HAw
              go_wp2
              go_ret
              exact ⟨rfl, HO.out⟩
            · by_cases b3 : 1073741824 < y
              · go_wp2_with fail
                refine (HAw.out).mono ?_
                rintro e w1 ⟨rfl, o1⟩
                have HO := Lib.hid (HW2.out.trans o1)
                clear o1 HAw
                go_wp2
                go_ret
                exact ⟨rfl, HO.out⟩
              · by_cases b4 : y < -1073741824
                · go_wp2_with fail
                  refine (HAw.out).mono ?_
                  rintro e w1 ⟨rfl, o1⟩
                  have HO := Lib.hid (HW2.out.trans o1)
                  clear o1 HAw
                  go_wp2
                  go_ret
                  exact ⟨rfl, HO.out⟩
                · clear HAw
                  have HM2 : Hid ((∀ i, i < j + 1 → sm30 (l1.getD i 0)) ∧ (∀ i, i < j + 1 → sm30 (l2.getD i 0))) := Lib.hid ⟨fun i hi => by
                      by_cases h : i < j
                      · exact HMa.out i h
                      · obtain rfl : i = j := by omega
                        rw [HG1.out]; unfold sm30; omega, fun i hi => by
                      by_cases h : i < j
                      · exact HMb.out i h
                      · obtain rfl : i = j := by omega
                        rw [HG2.out]; unfold sm30; omega⟩
                  go_wp2
                  have noOutC : ∀ j s, j < 13 → (([some 64, some 65, some 66, some 67, some 68, some 69, some 70, some 71, some 72, some 73, some 74, some 75, some 8] : List (Option Nat)).all fun d => d != some s) = true → ([some 64, some 65, some 66, some 67, some 68, some 69, some 70, some 71, some 72, some 73, some 74, some 75, some 8] : List (Option Nat)).getD j none ≠ some s := by
                    intro j s hj ha e
                    rw [List.getD_eq_getElem?_getD, List.getElem?_eq_getElem (by exact hj), Option.getD_some] at e
                    have := List.all_eq_true.1 ha _ (List.getElem_mem (by exact hj))
                    rw [e] at this
                    simp at this
                  refine region_gho (by kernel_rfl) (fun k0 => ([some 64, some 65, some 66, some 67, some 68, some 69, some 70, some 71, some 72, some 73, some 74, some 75, some 8] : List (Option Nat)).getD k0 none) (fun k0 => ([some (.slice A7 j c7), some (.slice (some ad) n1 c1), some (iv j), some (.pointer (some (ad.add j))), some (iv x), some (.slice (some bd) n2 c2), some (iv j), some (.pointer (some (bd.add j))), some (iv y), some (iv (x + y)), none, none, none] : List (Option Value)).getD k0 none) (RrW W0 wr W0.heap.size 11 (.slice A7 j c7) j ((add2 l1 l2 j).map iv) (x + y)) 141 13 rfl (by kernel_rfl) (by kernel_rfl) rfl (by kernel_rfl) (by kernel_rfl) ⟨fun _ => (Only.refl Nix wr).drew, (fun e => by cases e), (fun e => by cases e), (fun e => by cases e)⟩ ?stepsC (fun vs => [(64, vs 0), (65, vs 1), (66, vs 2), (67, vs 3), (68, vs 4), (69, vs 5), (70, vs 6), (71, vs 7), (72, vs 8), (73, vs 9), (74, vs 10), (75, vs 11), (8, vs 12)]) (fun vs => rfl) ?doneC
                  case stepsC =>
                    refine ⟨?_, ?_, ?_, ?_, ?_, ?_, ?_, ?_, ?_, ?_, ?_, ?_, ?_, trivial⟩
                    · intro L vs A' u hW hL0 hnd K' hK
                      have hns : L 12 = false := notYet hW.closed (j := 12) (by rfl) (k := 0) (by kernel_rfl) hL0
                      have r8 : A'.tmps[8]? = some (.slice A7 j c7) := (hW.fresh 12 8 (by decide) hns rfl).trans rfl
                      go_simp
                      exact hK _ _ (fun v0 e => by cases e; rfl) (hW.wi.step (Only.refl _ _) (by decide))
                    · intro L vs A' u hW hL0 hnd K' hK
                      have r1 : A'.tmps[1]? = some (.slice (some ad) n1 c1) := (hW.out 1 (fun j hj => noOutC j 1 hj (by kernel_rfl))).trans rfl
                      go_simp
                      exact hK _ _ (fun v0 e => by cases e; rfl) (hW.wi.step (Only.refl _ _) (by decide))
                    · intro L vs A' u hW hL0 hnd K' hK
                      have r9 : A'.tmps[9]? = some (iv j) := (hW.out 9 (fun j hj => noOutC j 9 hj (by kernel_rfl))).trans rfl
                      go_simp
                      exact hK _ _ (fun v0 e => by cases e; rfl) (hW.wi.step (Only.refl _ _) (by decide))
                    · intro L vs A' u hW hL0 hnd K' hK
                      have r65 : A'.tmps[65]? = some (.slice (some ad) n1 c1) := by
                        have h := hW.val 1 65 (by decide) (hnd 1 (by kernel_rfl)) rfl
                        rw [hW.known 1 _ (hnd 1 (by kernel_rfl)) rfl] at h
                        exact h
                      have r66 : A'.tmps[66]? = some (iv j) := by
                        have h := hW.val 2 66 (by decide) (hnd 2 (by kernel_rfl)) rfl
                        rw [hW.known 2 _ (hnd 2 (by kernel_rfl)) rfl] at h
                        exact h
                      go_simp
                      exact hK _ _ (fun v0 e => by cases e; rfl) (hW.wi.step (Only.refl _ _) (by decide))
                    · intro L vs A' u hW hL0 hnd K' hK
                      have n9 : L 9 = false := notYet hW.closed (j := 9) (by rfl) (k := 4) (by kernel_rfl) hL0
                      have n10 : L 10 = false := notYet hW.closed (j := 10) (by rfl) (k := 9) (by kernel_rfl) n9
                      have n11 : L 11 = false := notYet hW.closed (j := 11) (by rfl) (k := 10) (by kernel_rfl) n10
                      have r67 : A'.tmps[67]? = some (.pointer (some (ad.add j))) := by
                        have h := hW.val 3 67 (by decide) (hnd 3 (by kernel_rfl)) rfl
                        rw [hW.known 3 _ (hnd 3 (by kernel_rfl)) rfl] at h
                        exact h
                      have hc := cell_keep (hW.wi.only n11) hx
                      go_simp
                      exact hK _ _ (fun v0 e => by cases e; rfl) (hW.wi.step (Only.refl _ _) (by decide))
                    · intro L vs A' u hW hL0 hnd K' hK
                      have r2 : A'.tmps[2]? = some (.slice (some bd) n2 c2) := (hW.out 2 (fun j hj => noOutC j 2 hj (by kernel_rfl))).trans rfl
                      go_simp
                      exact hK _ _ (fun v0 e => by cases e; rfl) (hW.wi.step (Only.refl _ _) (by decide))
                    · intro L vs A' u hW hL0 hnd K' hK
                      have r9 : A'.tmps[9]? = some (iv j) := (hW.out 9 (fun j hj => noOutC j 9 hj (by kernel_rfl))).trans rfl
                      go_simp
                      exact hK _ _ (fun v0 e => by cases e; rfl) (hW.wi.step (Only.refl _ _) (by decide))
                    · intro L vs A' u hW hL0 hnd K' hK
                      have r69 : A'.tmps[69]? = some (.slice (some bd) n2 c2) := by
                        have h := hW.val 5 69 (by decide) (hnd 5 (by kernel_rfl)) rfl
                        rw [hW.known 5 _ (hnd 5 (by kernel_rfl)) rfl] at h
                        exact h
                      have r70 : A'.tmps[70]? = some (iv j) := by
                        have h := hW.val 6 70 (by decide) (hnd 6 (by kernel_rfl)) rfl
                        rw [hW.known 6 _ (hnd 6 (by kernel_rfl)) rfl] at h
                        exact h
                      go_simp
                      exact hK _ _ (fun v0 e => by cases e; rfl) (hW.wi.step (Only.refl _ _) (by decide))
                    · intro L vs A' u hW hL0 hnd K' hK
                      have n9 : L 9 = false := notYet hW.closed (j := 9) (by rfl) (k := 8) (by kernel_rfl) hL0
                      have n10 : L 10 = false := notYet hW.closed (j := 10) (by rfl) (k := 9) (by kernel_rfl) n9
                      have n11 : L 11 = false := notYet hW.closed (j := 11) (by rfl) (k := 10) (by kernel_rfl) n10
                      have r71 : A'.tmps[71]? = some (.pointer (some (bd.add j))) := by
                        have h := hW.val 7 71 (by decide) (hnd 7 (by kernel_rfl)) rfl
                        rw [hW.known 7 _ (hnd 7 (by kernel_rfl)) rfl] at h
                        exact h
                      have hc := cell_keep (hW.wi.only n11) hy
                      go_simp
                      exact hK _ _ (fun v0 e => by cases e; rfl) (hW.wi.step (Only.refl _ _) (by decide))
                    · intro L vs A' u hW hL0 hnd K' hK
                      have r68 : A'.tmps[68]? = some (iv x) := by
                        have h := hW.val 4 68 (by decide) (hnd 4 (by kernel_rfl)) rfl
                        rw [hW.known 4 _ (hnd 4 (by kernel_rfl)) rfl] at h
                        exact h
                      have r72 : A'.tmps[72]? = some (iv y) := by
                        have h := hW.val 8 72 (by decide) (hnd 8 (by kernel_rfl)) rfl
                        rw [hW.known 8 _ (hnd 8 (by kernel_rfl)) rfl] at h
                        exact h
                      go_simp
                      rw [w64k (x + y) (by omega) (by omega)]
                      exact hK _ _ (fun v0 e => by cases e; rfl) (hW.wi.step (Only.refl _ _) (by decide))
                    · intro L vs A' u hW hL0 hnd K' hK
                      have n11 : L 11 = false := notYet hW.closed (j := 11) (by rfl) (k := 10) (by kernel_rfl) hL0
                      have r73 : A'.tmps[73]? = some (iv (x + y)) := by
                        have h := hW.val 9 73 (by decide) (hnd 9 (by kernel_rfl)) rfl
                        rw [hW.known 9 _ (hnd 9 (by kernel_rfl)) rfl] at h
                        exact h
                      go_simp
                      exact hK _ _ (fun v0 e => by cases e) (hW.wi.lay n11 (by decide) rfl rfl)
                    · intro L vs A' u hW hL0 hnd K' hK
                      have n12 : L 12 = false := notYet hW.closed (j := 12) (by rfl) (k := 11) (by kernel_rfl) hL0
                      have r64 : A'.tmps[64]? = some (.slice A7 j c7) := by
                        have h := hW.val 0 64 (by decide) (hnd 0 (by kernel_rfl)) rfl
                        rw [hW.known 0 _ (hnd 0 (by kernel_rfl)) rfl] at h
                        exact h
                      have r74 : A'.tmps[74]? = some (vs 10) := hW.val 10 74 (by decide) (hnd 10 (by kernel_rfl)) rfl
                      obtain ⟨H, h5, h6⟩ := hW.wi.arg (hnd 10 (by kernel_rfl))
                      rw [h5] at r74
                      refine step_append_one rfl (.tmp 64) (.tmp 74) rfl W0.heap.size (.slice A7 j c7) j ((add2 l1 l2 j).map iv) (by simp [Act.eval, r64]) (owns_only HOw.out (hW.wi.only hL0) (fun _ _ e => e)) H (x + y) (by simp [Act.eval, r74]) (h6 hL0) (by omega) ?_ ?_
                      · exact Nat.le_trans HW.out.size (hW.wi.only hL0).size
                      · intro g cap u' k1 k2 k3
                        exact hK _ _ (fun v0 e => by cases e) (hW.wi.app hL0 n12 HW.out HOw.out (Nat.le_refl _) g cap k1 k2 k3 (by decide) rfl rfl)
                    · intro L vs A' u hW hL0 hnd K' hK
                      have r75 : A'.tmps[75]? = some (vs 11) := hW.val 11 75 (by decide) (hnd 11 (by kernel_rfl)) rfl
                      go_simp
                      exact hK _ _ (fun v0 e => by cases e) (hW.wi.put rfl rfl (hnd 11 (by kernel_rfl)))
                  case doneC =>
                    intro L vs u hWI hkn hall
                    obtain ⟨⟨g, cap, e12, hg, hrow⟩, hW1, hWr⟩ := hWI.done (hall 11 (by decide))
                    have e13 := hWI.same (hall 12 (by decide))
                    rw [e12] at e13
                    have HF := Lib.hid (And.intro hrow hW1)
                    clear hWI hkn hall noOutC hrow hW1 hWr hg
                    simp only [putV, List.foldl_cons, List.foldl_nil, e13, List.setIfInBounds_toArray, List.set_cons_zero, List.set_cons_succ]
                    clear e12 e13
                    go_wp2
                    go_roundw
                    case rel => exact ⟨j + 1, _, _, hjn, by go_num, rfl, HM2.out.1, HM2.out.2, by rw [HSn.out, HG1.out, HG2.out, List.map_append]; exact HF.out.1, HF.out.2⟩
                    case measure => simp [intOf]; omega
        · have hjN : j = n1 := by omega
          rw [hjN] at HMa HMb HOw ⊢
          clear hjn hj hjN
          have hsA : ∀ x ∈ l1.take n1, isS x := sm30_take HMa.out
          have hsB : ∀ x ∈ l2.take n1, isS x := sm30_take HMb.out
          have hsC : ∀ x ∈ add2 l1 l2 n1, isS x := sm30_add HMa.out HMb.out
          have hlA : (l1.take n1).length = n1 := by rw [List.length_take, ← Hb1.out]; omega
          have hlB : (l2.take n1).length = n1 := by rw [List.length_take, ← Hb2.out]; omega
          have hlC : (add2 l1 l2 n1).length = n1 := add2_len l1 l2 n1
          obtain ⟨A8, c8, e8, hI8⟩ := row_isrc HOw.out hlC hsC (by omega)
          injection e8 with eA _ ec
          subst eA ec
          have HI8 := Lib.hid hI8
          obtain ⟨MM, hMM⟩ : ∃ MM, resM P cs n1 = MM := ⟨_, rfl⟩
          obtain ⟨EE, hEE⟩ : ∃ EE, resS P cs n1 = EE := ⟨_, rfl⟩
          have HEqs : Hid (∀ i, i < MM → (resV P 0 cs (add2 l1 l2 n1)).getD i 0 = (resV P 0 cs (l1.take n1)).getD i 0 + (resV P 0 cs (l2.take n1)).getD i 0) := Lib.hid (fun i hi => adds_at P cs l1 l2 n1 HMa.out HMb.out (by rw [← Hb1.out]; omega) (by rw [← Hb2.out]; omega) i (by rw [hMM]; exact hi))
          have gen : ∀ (xs : List Int) (hs : ∀ x ∈ xs, isS x) (hl : xs.length = n1) (u : World) (A : Option Addr) (c : Nat), ISrc u (.slice Ac nc cc) cs → ISrc u (.slice A n1 c) xs → Calls Try.prog 9 #[linV P 0 (.slice Ac nc cc), .slice A n1 c] u fun e w' => (∃ A c, e = .returned (.tuple #[.slice A MM c, iv EE]) ∧ ISrc w' (.slice A MM c) (resV P 0 cs xs)) ∧ Only Nix u w' := fun xs hs hl u A c hc hx => by
            have h := residual_any P 0 Ac nc cc cs A n1 c xs hc hx (by omega)
            unfold ResR at h
            rw [resE_small P cs xs hs, resV_small P cs xs hs, hl, hMM, hEE] at h
            exact h
          have hlenV : ∀ (xs : List Int), (∀ x ∈ xs, isS x) → xs.length = n1 → (resV P 0 cs xs).length = MM := fun xs hs hl => by rw [resV_small P cs xs hs, hl, hMM]
          have HbA := Lib.hid (resV_bound P 0 cs (l1.take n1))
          have HbB := Lib.hid (resV_bound P 0 cs (l2.take n1))
          have HlA := Lib.hid (hlenV _ hsA hlA)
          have HlB := Lib.hid (hlenV _ hsB hlB)
          have HlC := Lib.hid (hlenV _ hsC hlC)
          have HTA : Hid (∀ u, Only Nix wr u → Calls Try.prog 9 #[linV P 0 (.slice Ac nc cc), .slice A1 n1 c1] u fun e w' => (∃ A c, e = .returned (.tuple #[.slice A MM c, iv EE]) ∧ ISrc w' (.slice A MM c) (resV P 0 cs (l1.take n1))) ∧ Only Nix u w') := Lib.hid (fun u hu => gen _ hsA hlA u A1 c1 (HC.out.nix (HW2.out.trans hu)) ((H1.out.nix (HW2.out.trans hu)).take n1 hN1))
          have HTB : Hid (∀ u, Only Nix wr u → Calls Try.prog 9 #[linV P 0 (.slice Ac nc cc), .slice A2 n1 c2] u fun e w' => (∃ A c, e = .returned (.tuple #[.slice A MM c, iv EE]) ∧ ISrc w' (.slice A MM c) (resV P 0 cs (l2.take n1))) ∧ Only Nix u w') := Lib.hid (fun u hu => gen _ hsB hlB u A2 c2 (HC.out.nix (HW2.out.trans hu)) ((H2.out.nix (HW2.out.trans hu)).take n1 hN2))
          have HTC : Hid (∀ u, Only Nix wr u → Calls Try.prog 9 #[linV P 0 (.slice Ac nc cc), .slice A7 n1 c7] u fun e w' => (∃ A c, e = .returned (.tuple #[.slice A MM c, iv EE]) ∧ ISrc w' (.slice A MM c) (resV P 0 cs (add2 l1 l2 n1))) ∧ Only Nix u w') := Lib.hid (fun u hu => gen _ hsC hlC u A7 c7 (HC.out.nix (HW2.out.trans hu)) (HI8.out.nix hu))
          have hMb : MM ≤ 100 := by
            rw [← hMM]
            unfold resM
            split <;> omega
          obtain ⟨DSA, hDA⟩ : ∃ DSA, resV P 0 cs (l1.take n1) = DSA := ⟨_, rfl⟩
          obtain ⟨DSB, hDB⟩ : ∃ DSB, resV P 0 cs (l2.take n1) = DSB := ⟨_, rfl⟩
          obtain ⟨DSC, hDC⟩ : ∃ DSC, resV P 0 cs (add2 l1 l2 n1) = DSC := ⟨_, rfl⟩
          rw [hDA] at HbA HlA HTA HEqs
          rw [hDB] at HbB HlB HTB HEqs
          rw [hDC] at HlC HTC HEqs
          obtain ⟨w5, hw5⟩ : ∃ w5, w5 = wr := ⟨_, rfl⟩
          subst hw5
          clear hsA hsB hsC hlA hlB hlC hI8 hMM hEE gen hlenV hDA hDB hDC HI8 HMa HMb HOw d0 d1 d2
          have q0 := e0
          have q1 := e1
          have q2 := e2
          go_wp2
          have noOutA : ∀ j s, j < 10 → (([some 77, some 78, some 79, some 80, some 81, some 76, some 82, some 83, some 10, some 11] : List (Option Nat)).all fun d => d != some s) = true → ([some 77, some 78, some 79, some 80, some 81, some 76, some 82, some 83, some 10, some 11] : List (Option Nat)).getD j none ≠ some s := by
            intro j s hj ha e
            rw [List.getD_eq_getElem?_getD, List.getElem?_eq_getElem (by exact hj), Option.getD_some] at e
            have := List.all_eq_true.1 ha _ (List.getElem_mem (by exact hj))
            rw [e] at this
            simp at this
          refine region_gho (by kernel_rfl) (fun k0 => ([some 77, some 78, some 79, some 80, some 81, some 76, some 82, some 83, some 10, some 11] : List (Option Nat)).getD k0 none) (fun k0 => ([some (linV P 0 (.slice Ac nc cc)), some (.slice A1 n1 c1), some (iv n1), some (.slice A1 n1 c1), none, none, none, none, none, none] : List (Option Value)).getD k0 none) (AdW w5 MM EE DSA) 141 10 rfl (by kernel_rfl) (by kernel_rfl) rfl (by kernel_rfl) (by kernel_rfl) ⟨(Only.refl Nix _).drew, (fun e => by cases e)⟩ ?stepsA (fun vs => [(77, vs 0), (78, vs 1), (79, vs 2), (80, vs 3), (81, vs 4), (76, vs 5), (82, vs 6), (83, vs 7), (10, vs 8), (11, vs 9)]) (fun vs => rfl) ?doneA
          case stepsA =>
            refine ⟨?_, ?_, ?_, ?_, ?_, ?_, ?_, ?_, ?_, ?_, trivial⟩
            · intro L vs A' u hW hL0 hnd K' hK
              have n4 : L 4 = false := notYet hW.closed (j := 4) (by rfl) (k := 0) (by kernel_rfl) hL0
              have r3 : A'.tmps[3]? = some (.pointer (some ⟨w.heap.size, 0, none⟩)) := (hW.out 3 (fun j hj => noOutA j 3 hj (by kernel_rfl))).trans rfl
              have hc0 := cell_keep hW.wi.only q0
              have hc1 := cell_keep hW.wi.only q1
              have hc2 := cell_keep hW.wi.only q2
              go_simp
              exact hK _ _ (fun v0 e => by cases e; rfl) (hW.wi.low n4 (by decide))
            · intro L vs A' u hW hL0 hnd K' hK
              have n3 : L 3 = false := notYet hW.closed (j := 3) (by rfl) (k := 1) (by kernel_rfl) hL0
              have n4 : L 4 = false := notYet hW.closed (j := 4) (by rfl) (k := 3) (by kernel_rfl) n3
              have r1 : A'.tmps[1]? = some (.slice A1 n1 c1) := (hW.out 1 (fun j hj => noOutA j 1 hj (by kernel_rfl))).trans rfl
              go_simp
              exact hK _ _ (fun v0 e => by cases e; rfl) (hW.wi.low n4 (by decide))
            · intro L vs A' u hW hL0 hnd K' hK
              have n3 : L 3 = false := notYet hW.closed (j := 3) (by rfl) (k := 2) (by kernel_rfl) hL0
              have n4 : L 4 = false := notYet hW.closed (j := 4) (by rfl) (k := 3) (by kernel_rfl) n3
              have r7 : A'.tmps[7]? = some (iv n1) := (hW.out 7 (fun j hj => noOutA j 7 hj (by kernel_rfl))).trans rfl
              go_simp
              exact hK _ _ (fun v0 e => by cases e; rfl) (hW.wi.low n4 (by decide))
            · intro L vs A' u hW hL0 hnd K' hK
              have n4 : L 4 = false := notYet hW.closed (j := 4) (by rfl) (k := 3) (by kernel_rfl) hL0
              have r78 : A'.tmps[78]? = some (.slice A1 n1 c1) := by
                have h := hW.val 1 78 (by decide) (hnd 1 (by kernel_rfl)) rfl
                rw [hW.known 1 _ (hnd 1 (by kernel_rfl)) rfl] at h
                exact h
              have r79 : A'.tmps[79]? = some (iv n1) := by
                have h := hW.val 2 79 (by decide) (hnd 2 (by kernel_rfl)) rfl
                rw [hW.known 2 _ (hnd 2 (by kernel_rfl)) rfl] at h
                exact h
              have hjc : n1 ≤ c1 := by omega
              go_simp
              exact hK _ _ (fun v0 e => by cases e; rfl) (hW.wi.low n4 (by decide))
            · intro L vs A' u hW hL0 hnd K' hK
              have n5 : L 5 = false := notYet hW.closed (j := 5) (by rfl) (k := 4) (by kernel_rfl) hL0
              have n6 : L 6 = false := notYet hW.closed (j := 6) (by rfl) (k := 5) (by kernel_rfl) n5
              have n8 : L 8 = false := notYet hW.closed (j := 8) (by rfl) (k := 6) (by kernel_rfl) n6
              have p5 : L 5 = false := notYet hW.closed (j := 5) (by rfl) (k := 4) (by kernel_rfl) hL0
              have p7 : L 7 = false := notYet hW.closed (j := 7) (by rfl) (k := 5) (by kernel_rfl) p5
              have p9 : L 9 = false := notYet hW.closed (j := 9) (by rfl) (k := 7) (by kernel_rfl) p7
              have r77 : A'.tmps[77]? = some (linV P 0 (.slice Ac nc cc)) := by
                have h := hW.val 0 77 (by decide) (hnd 0 (by kernel_rfl)) rfl
                rw [hW.known 0 _ (hnd 0 (by kernel_rfl)) rfl] at h
                exact h
              have r80 : A'.tmps[80]? = some (.slice A1 n1 c1) := by
                have h := hW.val 3 80 (by decide) (hnd 3 (by kernel_rfl)) rfl
                rw [hW.known 3 _ (hnd 3 (by kernel_rfl)) rfl] at h
                exact h
              have HCL := Lib.hid (HTA.out u hW.wi.only)
              go_simp
              refine (HCL.out).mono ?_
              rintro e' u' ⟨⟨A9, c9, rfl, hI9⟩, ho'⟩
              exact hK _ _ (fun v0 e => by cases e) (hW.wi.ask ho' n5 n6 p7 n8 p9 A9 c9 rfl hI9)
            · intro L vs A' u hW hL0 hnd K' hK
              have r81 : A'.tmps[81]? = some (vs 4) := hW.val 4 81 (by decide) (hnd 4 (by kernel_rfl)) rfl
              go_simp
              exact hK _ _ (fun v0 e => by cases e) (hW.wi.s5 rfl)
            · intro L vs A' u hW hL0 hnd K' hK
              obtain ⟨A9, c9, h4, hI9, h5, h6, h7, h8, h9⟩ := hW.wi.got (hW.closed 5 _ 4 (by rfl) (hnd 5 (by kernel_rfl)) (by kernel_rfl))
              have r76 : A'.tmps[76]? = some (.tuple #[.slice A9 MM c9, iv EE]) := by rw [hW.val 5 76 (by decide) (hnd 5 (by kernel_rfl)) rfl, h5 (hnd 5 (by kernel_rfl))]
              go_simp
              exact hK _ _ (fun v0 e => by cases e) (hW.wi.s6 (fun A c e => by rw [h4] at e; injection e with e; simp at e; rw [e.1, e.2]))
            · intro L vs A' u hW hL0 hnd K' hK
              obtain ⟨A9, c9, h4, hI9, h5, h6, h7, h8, h9⟩ := hW.wi.got (hW.closed 5 _ 4 (by rfl) (hnd 5 (by kernel_rfl)) (by kernel_rfl))
              have r76 : A'.tmps[76]? = some (.tuple #[.slice A9 MM c9, iv EE]) := by rw [hW.val 5 76 (by decide) (hnd 5 (by kernel_rfl)) rfl, h5 (hnd 5 (by kernel_rfl))]
              go_simp
              exact hK _ _ (fun v0 e => by cases e) (hW.wi.s7 rfl)
            · intro L vs A' u hW hL0 hnd K' hK
              have l5 := hW.closed 6 _ 5 (by rfl) (hnd 6 (by kernel_rfl)) (by kernel_rfl)
              obtain ⟨A9, c9, h4, hI9, h5, h6, h7, h8, h9⟩ := hW.wi.got (hW.closed 5 _ 4 (by rfl) l5 (by kernel_rfl))
              have r82 : A'.tmps[82]? = some (.slice A9 MM c9) := by rw [hW.val 6 82 (by decide) (hnd 6 (by kernel_rfl)) rfl, h6 (hnd 6 (by kernel_rfl))]
              go_simp
              exact hK _ _ (fun v0 e => by cases e) (hW.wi.s8 (fun A c e => by rw [h4] at e; injection e with e; simp at e; rw [e.1, e.2]))
            · intro L vs A' u hW hL0 hnd K' hK
              have l5 := hW.closed 7 _ 5 (by rfl) (hnd 7 (by kernel_rfl)) (by kernel_rfl)
              obtain ⟨A9, c9, h4, hI9, h5, h6, h7, h8, h9⟩ := hW.wi.got (hW.closed 5 _ 4 (by rfl) l5 (by kernel_rfl))
              have r83 : A'.tmps[83]? = some (iv EE) := by rw [hW.val 7 83 (by decide) (hnd 7 (by kernel_rfl)) rfl, h7 (hnd 7 (by kernel_rfl))]
              go_simp
              exact hK _ _ (fun v0 e => by cases e) (hW.wi.s9 rfl)
          case doneA =>
            intro L vs u hWI hkn hall
            obtain ⟨A3, c3, h4, hI3, h5, h6, h7, h8, h9⟩ := hWI.got (hall 4 (by decide))
            have h8 := h8 (hall 8 (by decide))
            have h9 := h9 (hall 9 (by decide))
            have o6 := hWI.only
            obtain ⟨w6, hw6⟩ : ∃ w6, w6 = u := ⟨_, rfl⟩
            subst hw6
            have HI3 := Lib.hid hI3
            have HO6 := Lib.hid o6
            have HTB2 : Hid (∀ u, Only Nix w6 u → Calls Try.prog 9 #[linV P 0 (.slice Ac nc cc), .slice A2 n1 c2] u fun e w' => (∃ A c, e = .returned (.tuple #[.slice A MM c, iv EE]) ∧ ISrc w' (.slice A MM c) DSB) ∧ Only Nix u w') := Lib.hid (fun u hu => HTB.out u (o6.trans hu))
            have q0 := cell_keep o6 e0
            have q1 := cell_keep o6 e1
            have q2 := cell_keep o6 e2
            simp only [putV, List.foldl_cons, List.foldl_nil, h8, h9, List.setIfInBounds_toArray, List.set_cons_zero, List.set_cons_succ]
            clear hWI hkn hall noOutA HTA HTB h4 h5 h6 h7 h8 h9 hI3 o6 e0 e1 e2
            generalize vs 0 = vz0
            generalize vs 1 = vz1
            generalize vs 2 = vz2
            generalize vs 3 = vz3
            generalize vs 4 = vz4
            generalize vs 5 = vz5
            generalize vs 6 = vz6
            generalize vs 7 = vz7
            go_wp2
            have noOutB : ∀ j s, j < 10 → (([some 85, some 86, some 87, some 88, some 89, some 84, some 90, some 91, some 12, some 13] : List (Option Nat)).all fun d => d != some s) = true → ([some 85, some 86, some 87, some 88, some 89, some 84, some 90, some 91, some 12, some 13] : List (Option Nat)).getD j none ≠ some s := by
              intro j s hj ha e
              rw [List.getD_eq_getElem?_getD, List.getElem?_eq_getElem (by exact hj), Option.getD_some] at e
              have := List.all_eq_true.1 ha _ (List.getElem_mem (by exact hj))
              rw [e] at this
              simp at this
            refine region_gho (by kernel_rfl) (fun k0 => ([some 85, some 86, some 87, some 88, some 89, some 84, some 90, some 91, some 12, some 13] : List (Option Nat)).getD k0 none) (fun k0 => ([some (linV P 0 (.slice Ac nc cc)), some (.slice A2 n2 c2), some (iv n1), some (.slice A2 n1 c2), none, none, none, none, none, none] : List (Option Value)).getD k0 none) (AdW w6 MM EE DSB) 141 10 rfl (by kernel_rfl) (by kernel_rfl) rfl (by kernel_rfl) (by kernel_rfl) ⟨(Only.refl Nix _).drew, (fun e => by cases e)⟩ ?stepsB (fun vs => [(85, vs 0), (86, vs 1), (87, vs 2), (88, vs 3), (89, vs 4), (84, vs 5), (90, vs 6), (91, vs 7), (12, vs 8), (13, vs 9)]) (fun vs => rfl) ?doneB
            case stepsB =>
              refine ⟨?_, ?_, ?_, ?_, ?_, ?_, ?_, ?_, ?_, ?_, trivial⟩
              · intro L vs A' u hW hL0 hnd K' hK
                have n4 : L 4 = false := notYet hW.closed (j := 4) (by rfl) (k := 0) (by kernel_rfl) hL0
                have r3 : A'.tmps[3]? = some (.pointer (some ⟨w.heap.size, 0, none⟩)) := (hW.out 3 (fun j hj => noOutB j 3 hj (by kernel_rfl))).trans rfl
                have hc0 := cell_keep hW.wi.only q0
                have hc1 := cell_keep hW.wi.only q1
                have hc2 := cell_keep hW.wi.only q2
                go_simp
                exact hK _ _ (fun v0 e => by cases e; rfl) (hW.wi.low n4 (by decide))
              · intro L vs A' u hW hL0 hnd K' hK
                have n3 : L 3 = false := notYet hW.closed (j := 3) (by rfl) (k := 1) (by kernel_rfl) hL0
                have n4 : L 4 = false := notYet hW.closed (j := 4) (by rfl) (k := 3) (by kernel_rfl) n3
                have r2 : A'.tmps[2]? = some (.slice A2 n2 c2) := (hW.out 2 (fun j hj => noOutB j 2 hj (by kernel_rfl))).trans rfl
                go_simp
                exact hK _ _ (fun v0 e => by cases e; rfl) (hW.wi.low n4 (by decide))
              · intro L vs A' u hW hL0 hnd K' hK
                have n3 : L 3 = false := notYet hW.closed (j := 3) (by rfl) (k := 2) (by kernel_rfl) hL0
                have n4 : L 4 = false := notYet hW.closed (j := 4) (by rfl) (k := 3) (by kernel_rfl) n3
                have r7 : A'.tmps[7]? = some (iv n1) := (hW.out 7 (fun j hj => noOutB j 7 hj (by kernel_rfl))).trans rfl
                go_simp
                exact hK _ _ (fun v0 e => by cases e; rfl) (hW.wi.low n4 (by decide))
              · intro L vs A' u hW hL0 hnd K' hK
                have n4 : L 4 = false := notYet hW.closed (j := 4) (by rfl) (k := 3) (by kernel_rfl) hL0
                have r86 : A'.tmps[86]? = some (.slice A2 n2 c2) := by
                  have h := hW.val 1 86 (by decide) (hnd 1 (by kernel_rfl)) rfl
                  rw [hW.known 1 _ (hnd 1 (by kernel_rfl)) rfl] at h
                  exact h
                have r87 : A'.tmps[87]? = some (iv n1) := by
                  have h := hW.val 2 87 (by decide) (hnd 2 (by kernel_rfl)) rfl
                  rw [hW.known 2 _ (hnd 2 (by kernel_rfl)) rfl] at h
                  exact h
                have hjc : n1 ≤ c2 := by omega
                go_simp
                exact hK _ _ (fun v0 e => by cases e; rfl) (hW.wi.low n4 (by decide))
              · intro L vs A' u hW hL0 hnd K' hK
                have n5 : L 5 = false := notYet hW.closed (j := 5) (by rfl) (k := 4) (by kernel_rfl) hL0
                have n6 : L 6 = false := notYet hW.closed (j := 6) (by rfl) (k := 5) (by kernel_rfl) n5
                have n8 : L 8 = false := notYet hW.closed (j := 8) (by rfl) (k := 6) (by kernel_rfl) n6
                have p5 : L 5 = false := notYet hW.closed (j := 5) (by rfl) (k := 4) (by kernel_rfl) hL0
                have p7 : L 7 = false := notYet hW.closed (j := 7) (by rfl) (k := 5) (by kernel_rfl) p5
                have p9 : L 9 = false := notYet hW.closed (j := 9) (by rfl) (k := 7) (by kernel_rfl) p7
                have r85 : A'.tmps[85]? = some (linV P 0 (.slice Ac nc cc)) := by
                  have h := hW.val 0 85 (by decide) (hnd 0 (by kernel_rfl)) rfl
                  rw [hW.known 0 _ (hnd 0 (by kernel_rfl)) rfl] at h
                  exact h
                have r88 : A'.tmps[88]? = some (.slice A2 n1 c2) := by
                  have h := hW.val 3 88 (by decide) (hnd 3 (by kernel_rfl)) rfl
                  rw [hW.known 3 _ (hnd 3 (by kernel_rfl)) rfl] at h
                  exact h
                have HCL := Lib.hid (HTB2.out u hW.wi.only)
                go_simp
                refine (HCL.out).mono ?_
                rintro e' u' ⟨⟨A9, c9, rfl, hI9⟩, ho'⟩
                exact hK _ _ (fun v0 e => by cases e) (hW.wi.ask ho' n5 n6 p7 n8 p9 A9 c9 rfl hI9)
              · intro L vs A' u hW hL0 hnd K' hK
                have r89 : A'.tmps[89]? = some (vs 4) := hW.val 4 89 (by decide) (hnd 4 (by kernel_rfl)) rfl
                go_simp
                exact hK _ _ (fun v0 e => by cases e) (hW.wi.s5 rfl)
              · intro L vs A' u hW hL0 hnd K' hK
                obtain ⟨A9, c9, h4, hI9, h5, h6, h7, h8, h9⟩ := hW.wi.got (hW.closed 5 _ 4 (by rfl) (hnd 5 (by kernel_rfl)) (by kernel_rfl))
                have r84 : A'.tmps[84]? = some (.tuple #[.slice A9 MM c9, iv EE]) := by rw [hW.val 5 84 (by decide) (hnd 5 (by kernel_rfl)) rfl, h5 (hnd 5 (by kernel_rfl))]
                go_simp
                exact hK _ _ (fun v0 e => by cases e) (hW.wi.s6 (fun A c e => by rw [h4] at e; injection e with e; simp at e; rw [e.1, e.2]))
              · intro L vs A' u hW hL0 hnd K' hK
                obtain ⟨A9, c9, h4, hI9, h5, h6, h7, h8, h9⟩ := hW.wi.got (hW.closed 5 _ 4 (by rfl) (hnd 5 (by kernel_rfl)) (by kernel_rfl))
                have r84 : A'.tmps[84]? = some (.tuple #[.slice A9 MM c9, iv EE]) := by rw [hW.val 5 84 (by decide) (hnd 5 (by kernel_rfl)) rfl, h5 (hnd 5 (by kernel_rfl))]
                go_simp
                exact hK _ _ (fun v0 e => by cases e) (hW.wi.s7 rfl)
              · intro L vs A' u hW hL0 hnd K' hK
                have l5 := hW.closed 6 _ 5 (by rfl) (hnd 6 (by kernel_rfl)) (by kernel_rfl)
                obtain ⟨A9, c9, h4, hI9, h5, h6, h7, h8, h9⟩ := hW.wi.got (hW.closed 5 _ 4 (by rfl) l5 (by kernel_rfl))
                have r90 : A'.tmps[90]? = some (.slice A9 MM c9) := by rw [hW.val 6 90 (by decide) (hnd 6 (by kernel_rfl)) rfl, h6 (hnd 6 (by kernel_rfl))]
                go_simp
                exact hK _ _ (fun v0 e => by cases e) (hW.wi.s8 (fun A c e => by rw [h4] at e; injection e with e; simp at e; rw [e.1, e.2]))
              · intro L vs A' u hW hL0 hnd K' hK
                have l5 := hW.closed 7 _ 5 (by rfl) (hnd 7 (by kernel_rfl)) (by kernel_rfl)
                obtain ⟨A9, c9, h4, hI9, h5, h6, h7, h8, h9⟩ := hW.wi.got (hW.closed 5 _ 4 (by rfl) l5 (by kernel_rfl))
                have r91 : A'.tmps[91]? = some (iv EE) := by rw [hW.val 7 91 (by decide) (hnd 7 (by kernel_rfl)) rfl, h7 (hnd 7 (by kernel_rfl))]
                go_simp
                exact hK _ _ (fun v0 e => by cases e) (hW.wi.s9 rfl)
            case doneB =>
              intro L vs u hWI hkn hall
              obtain ⟨A4, c4, h4, hI4, h5, h6, h7, h8, h9⟩ := hWI.got (hall 4 (by decide))
              have h8 := h8 (hall 8 (by decide))
              have h9 := h9 (hall 9 (by decide))
              have o7 := hWI.only
              have HI3b := Lib.hid (HI3.out.nix o7)
              have HI4 := Lib.hid hI4
              have HTC2 := Lib.hid (HTC.out u (HO6.out.trans o7))
              have HO7 := Lib.hid ((HW2.out.trans HO6.out).trans o7)
              have f0 := cell_keep o7 q0
              have f1 := cell_keep o7 q1
              have f2 := cell_keep o7 q2
              simp only [putV, List.foldl_cons, List.foldl_nil, h8, h9, List.setIfInBounds_toArray, List.set_cons_zero, List.set_cons_succ]
              clear hWI hkn hall noOutB HTB2 HTC h4 h5 h6 h7 h8 h9 hI4 o7 q0 q1 q2 HI3
              generalize vs 0 = vy0
              generalize vs 1 = vy1
              generalize vs 2 = vy2
              generalize vs 3 = vy3
              generalize vs 4 = vy4
              generalize vs 5 = vy5
              generalize vs 6 = vy6
              generalize vs 7 = vy7
              go_wp2_with fail
              refine (HTC2.out).mono ?_
              rintro e w8 ⟨⟨A5, c5, rfl, hI5⟩, o8⟩
              have HIA := Lib.hid (HI3b.out.nix o8)
              have HIB := Lib.hid (HI4.out.nix o8)
              have HIC := Lib.hid hI5
              have HO8 := Lib.hid (HO7.out.trans o8)
              clear o8 hI5 HTC2 HI3b HI4 f0 f1 f2 HO7
              go_wp2
              go_loopw [16] (fun s16 wy => ∃ i : Nat, i ≤ MM ∧ s16 = iv i ∧ Only Nix w8 wy) (fun s16 _ => MM - (intOf s16).toNat)
              case atStart => exact ⟨0, Nat.zero_le _, rfl, Only.refl _ _⟩
              case round =>
                obtain ⟨i, hi, rfl, hOi⟩ := hrel
                by_cases hlt2 : i < MM
                · have hlt2i : (i : Int) < (MM : Int) := by omega
                  have ha : i < DSA.length := by rw [HlA.out]; exact hlt2
                  have hb : i < DSB.length := by rw [HlB.out]; exact hlt2
                  have hc : i < DSC.length := by rw [HlC.out]; exact hlt2
                  obtain ⟨xa, rfl, qa⟩ := (HIA.out.nix hOi).at_ ha
                  obtain ⟨xb, rfl, qb⟩ := (HIB.out.nix hOi).at_ hb
                  obtain ⟨xc, rfl, qc⟩ := (HIC.out.nix hOi).at_ hc
                  have hEq := HEqs.out i hlt2
                  rw [getD_of ha, getD_of hb, getD_of hc] at hEq
                  rw [hEq] at qc
                  have ba := HbA.out _ (List.getElem_mem ha)
                  have bb := HbB.out _ (List.getElem_mem hb)
                  have HOi := Lib.hid hOi
                  generalize DSA[i] = x at *
                  generalize DSB[i] = y at *
                  have hw1 : IntKind.i64.wrap (x + y) = x + y := w64k _ (by omega) (by omega)
                  clear hEq ha hb hc hOi
                  go_wp2_with fail
                  go_quiet (fail)
                  go_wp2
                  go_roundw
                  case rel => exact ⟨i + 1, hlt2, by go_num, HOi.out.drewN _⟩
                  case measure => simp [intOf]; omega
                · obtain rfl : i = MM := by omega
                  have HW9 := Lib.hid (awake6 wr)
                  have HO9 := Lib.hid (HO8.out.trans hOi)
                  clear hOi
                  go_wp2_with fail
                  refine (HW9.out).mono ?_
                  rintro e w9 ⟨rfl, o9⟩
                  have HO10 := Lib.hid (HO9.out.trans o9)
                  clear o9 HW9
                  go_wp2
                  go_ret
                  exact ⟨rfl, HO10.out⟩

theorem adds_any {w : World} (P S : Int) (Ac : Option Addr) (nc cc : Nat) (cs : List Int) (A1 : Option Addr) (n1 c1 : Nat) (l1 : List Int) (A2 : Option Addr) (n2 c2 : Nat) (l2 : List Int) (hcs : ISrc w (.slice Ac nc cc) cs) (h1 : ISrc w (.slice A1 n1 c1) l1) (h2 : ISrc w (.slice A2 n2 c2) l2) :
    Calls Try.prog 7 #[linV P S (.slice Ac nc cc), .slice A1 n1 c1, .slice A2 n2 c2] w fun e w' => e = .returned (.bool true) ∧ Only Nix w w' := by
  by_cases h : n2 < n1
  · exact adds_lt P S Ac nc cc cs A1 n1 c1 l1 A2 n2 c2 l2 hcs h1 h2 h (by omega)
  · exact adds_ge P S Ac nc cc cs A1 n1 c1 l1 A2 n2 c2 l2 hcs h1 h2 (by omega) (by omega)
end Go.Proofs.Ytgjnhbfdbiibdaa
