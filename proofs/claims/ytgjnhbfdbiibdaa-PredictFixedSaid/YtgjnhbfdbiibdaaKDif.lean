/-
  The document's Differ.
-/
import Derived.Test.YtgjnhbfdbiibdaaKDMath
namespace Go.Proofs.Ytgjnhbfdbiibdaa
open Go.RowKit

theorem row_isrcB {W : World} {base m : Nat} {v : Value} {xs : List Int} (h : W.ownsRow base 3 1 v m (xs.map iv)) (hm : xs.length = m) (hb : ∀ x ∈ xs, -68719476736 ≤ x ∧ x ≤ 68719476736) (hs : m ≤ 100000) : ∃ A c, v = .slice A m c ∧ ISrc W (.slice A m c) xs := by
  rcases Nat.eq_zero_or_pos m with h0 | h0
  · obtain ⟨A, c, e⟩ := owns_slice h
    subst h0
    have : xs = [] := List.length_eq_zero_iff.1 hm
    subst this
    exact ⟨A, c, e, ⟨A, c, rfl, Nat.zero_le _, fun i hi => by simp at hi⟩, by simp, by simp⟩
  · obtain ⟨g, c, e, _⟩ := row_form h h0
    subst e
    exact ⟨_, _, rfl, isrc_row h rfl (fun x hx => by have := hb x hx; omega) (by omega)⟩
/-- what Differ answers -/
def DifR (w : World) (k : Nat) (xs : List Int) (e : Ending) (w' : World) : Prop :=
  (∃ A c, e = .returned (.slice A (xs.length - k) c) ∧ ISrc w' (.slice A (xs.length - k) c) (difN k xs)) ∧ Only Nix w w'
def DfO (w : World) (K : Nat) (xs : List Int) (s5 s6 : Value) (wr : World) : Prop :=
  ∃ i A c, i ≤ K ∧ s6 = iv i ∧ s5 = .slice A (xs.length - i) c ∧ ISrc wr (.slice A (xs.length - i) c) (difN i xs) ∧ Only Nix w wr
def DfI (W0 : World) (ys : List Int) (s7 s8 : Value) (wr : World) : Prop :=
  ∃ j A c, j ≤ ys.length - 1 ∧ s8 = iv (j + 1 : Nat) ∧ s7 = .slice A j c ∧ wr.ownsRow W0.heap.size 3 1 (.slice A j c) j (((dif1 ys).take j).map iv) ∧ Only Nix W0 wr

set_option maxRecDepth 100000 in
set_option maxHeartbeats 4000000 in
theorem differ_any {w : World} (K : Nat) (hK4 : K ≤ 4) (A : Option Addr) (n c : Nat) (xs : List Int) (hxs : ISrc w (.slice A n c) xs) (hn : n ≤ 1000) (hS : ∀ x ∈ xs, isS x) :
    Calls Try.prog 20 #[iv K, .slice A n c] w fun e w' => DifR w K xs e w' := by
  have hxl := hxs.len
  have HX := Lib.hid hxs
  have Hxl := Lib.hid hxl
  have HS := Lib.hid hS
  clear hxs hxl hS
  go_enter Try.func20, Try.ntmps20
  go_wp2_with (at_builtin; refine wpList_append_ints rfl (.tmp 9) (.tmp 10) rfl w.heap.size (.slice none 0 0) 0 [] rfl ?ownA A n c xs rfl ?srcA ?nA ?baseA ?restA)
  case ownA => exact World.ownsRow_nil _ _ _ _
  case srcA => exact HX.out
  case nA => omega
  case baseA => exact Nat.le_refl _
  case restA =>
    intro v' w1 h1 h2 _
    have o1 : Only Nix w w1 := (Only.refl Nix w).grown h2 (fun k e => by cases e)
    obtain ⟨A1, c1, e1, hs1⟩ := row_isrcB h1 Hxl.out.symm (fun x hx => by have := HS.out x hx; unfold isS at this; omega) (by omega)
    subst e1
    have HO1 := Lib.hid o1
    have HI1 := Lib.hid hs1
    clear h1 h2 o1 hs1
    go_wp2
    go_loopw [5, 6] (fun s5 s6 wr => DfO w K xs s5 s6 wr) (fun _ s6 _ => K - (intOf s6).toNat)
    case atStart => exact ⟨0, A1, c1, Nat.zero_le _, rfl, by rw [Nat.sub_zero, ← Hxl.out], by rw [Nat.sub_zero, ← Hxl.out]; exact HI1.out, HO1.out⟩
    case round =>
      obtain ⟨i, A2, co, hi, rfl, rfl, hI2, hO⟩ := hrel
      by_cases hlt : i < K
      · have hlti : (i : Int) < (K : Int) := by omega
        obtain ⟨m, hm⟩ : ∃ m, xs.length - i = m := ⟨_, rfl⟩
        rw [hm] at hI2 ⊢
        have hml : (difN i xs).length = m := by rw [difN_len, hm]
        have hmb : m ≤ 1000 := by have := Hxl.out; omega
        have hbd := difN_small xs HS.out i (by omega)
        have HD : Hid (dif1 (difN i xs) = difN (i + 1) xs) := Lib.hid rfl
        have HB1 := Lib.hid (difN_small xs HS.out (i + 1) (by omega))
        generalize difN i xs = ys at *
        have HI2 := Lib.hid hI2
        have HO := Lib.hid hO
        have Hm := Lib.hid hm
        have Hml := Lib.hid hml
        have HBD := Lib.hid hbd
        clear hI2 hO hm hml hbd
        obtain ⟨W0, hW0⟩ : ∃ W0, W0 = wr := ⟨_, rfl⟩
        subst hW0
        go_wp2
        go_loopw [7, 8] (fun s7 s8 wz => DfI W0 ys s7 s8 wz) (fun _ s8 _ => m - (intOf s8).toNat)
        case atStart => exact ⟨0, none, 0, Nat.zero_le _, rfl, rfl, World.ownsRow_nil _ _ _ _, Only.refl _ _⟩
        case round =>
          obtain ⟨j, A7, c7, hj, rfl, rfl, hown, hOw⟩ := hrel
          rw [Hml.out] at hj
          have HW := Lib.hid hOw
          have HOw := Lib.hid hown
          obtain ⟨k, hk⟩ : ∃ k, j + 1 = k := ⟨_, rfl⟩
          rw [hk]
          have hkj : (k : Int) - 1 = (j : Int) := by omega
          by_cases hlt2 : k < m
          · have hlt2i : (k : Int) < (m : Int) := by omega
            have hky : k < ys.length := by rw [Hml.out]; exact hlt2
            have hjy : j < ys.length := by rw [Hml.out]; omega
            obtain ⟨ad, rfl, hx⟩ := (HI2.out.nix hOw).at_ hky
            obtain ⟨ad', e9, hy⟩ := (HI2.out.nix hOw).at_ hjy
            injection e9 with e9
            subst e9
            have hbx := HBD.out _ (List.getElem_mem hky)
            have hby := HBD.out _ (List.getElem_mem hjy)
            have hT := dif1_take ys j (by omega)
            rw [hk, getD_of hky, getD_of hjy] at hT
            have HT := Lib.hid hT
            generalize ys[k] = x at *
            generalize ys[j] = y at *
            have hjm : j < m := by omega
            have Hk := Lib.hid hk
            clear hown hOw hT hky hjy
            go_wp2
            have noOut : ∀ j s, j < 14 → (([some 23, some 24, some 25, some 26, some 27, some 28, some 29, some 30, some 31, some 32, some 33, some 34, some 35, some 7] : List (Option Nat)).all fun d => d != some s) = true → ([some 23, some 24, some 25, some 26, some 27, some 28, some 29, some 30, some 31, some 32, some 33, some 34, some 35, some 7] : List (Option Nat)).getD j none ≠ some s := by
              intro j s hj ha e
              rw [List.getD_eq_getElem?_getD, List.getElem?_eq_getElem (by exact hj), Option.getD_some] at e
              have := List.all_eq_true.1 ha _ (List.getElem_mem (by exact hj))
              rw [e] at this
              simp at this
            refine region_gho (by kernel_rfl) (fun k0 => ([some 23, some 24, some 25, some 26, some 27, some 28, some 29, some 30, some 31, some 32, some 33, some 34, some 35, some 7] : List (Option Nat)).getD k0 none) (fun k0 => ([some (.slice A7 j c7), some (.slice (some ad) m co), some (iv k), some (.pointer (some (ad.add k))), some (iv x), some (.slice (some ad) m co), some (iv k), some (iv j), some (.pointer (some (ad.add j))), some (iv y), some (iv (x - y)), none, none, none] : List (Option Value)).getD k0 none) (RrW W0 wr W0.heap.size 12 (.slice A7 j c7) j (((dif1 ys).take j).map iv) (x - y)) 38 14 rfl (by kernel_rfl) (by kernel_rfl) rfl (by kernel_rfl) (by kernel_rfl) ⟨fun _ => (Only.refl Nix wr).drew, (fun e => by cases e), (fun e => by cases e), (fun e => by cases e)⟩ ?stepsR (fun vs => [(23, vs 0), (24, vs 1), (25, vs 2), (26, vs 3), (27, vs 4), (28, vs 5), (29, vs 6), (30, vs 7), (31, vs 8), (32, vs 9), (33, vs 10), (34, vs 11), (35, vs 12), (7, vs 13)]) (fun vs => rfl) ?doneR
            case stepsR =>
              refine ⟨?_, ?_, ?_, ?_, ?_, ?_, ?_, ?_, ?_, ?_, ?_, ?_, ?_, ?_, trivial⟩
              · intro L vs A' u hW hL0 hnd K' hK
                have hns : L 13 = false := notYet hW.closed (j := 13) (by rfl) (k := 0) (by kernel_rfl) hL0
                have r7 : A'.tmps[7]? = some (.slice A7 j c7) := (hW.fresh 13 7 (by decide) hns rfl).trans rfl
                go_simp
                exact hK _ _ (fun v0 e => by cases e; rfl) (hW.wi.step (Only.refl _ _) (by decide))
              · intro L vs A' u hW hL0 hnd K' hK
                have r5 : A'.tmps[5]? = some (.slice (some ad) m co) := (hW.out 5 (fun j hj => noOut j 5 hj (by kernel_rfl))).trans rfl
                go_simp
                exact hK _ _ (fun v0 e => by cases e; rfl) (hW.wi.step (Only.refl _ _) (by decide))
              · intro L vs A' u hW hL0 hnd K' hK
                have r8 : A'.tmps[8]? = some (iv k) := (hW.out 8 (fun j hj => noOut j 8 hj (by kernel_rfl))).trans rfl
                go_simp
                exact hK _ _ (fun v0 e => by cases e; rfl) (hW.wi.step (Only.refl _ _) (by decide))
              · intro L vs A' u hW hL0 hnd K' hK
                have r24 : A'.tmps[24]? = some (.slice (some ad) m co) := by
                  have h := hW.val 1 24 (by decide) (hnd 1 (by kernel_rfl)) rfl
                  rw [hW.known 1 _ (hnd 1 (by kernel_rfl)) rfl] at h
                  exact h
                have r25 : A'.tmps[25]? = some (iv k) := by
                  have h := hW.val 2 25 (by decide) (hnd 2 (by kernel_rfl)) rfl
                  rw [hW.known 2 _ (hnd 2 (by kernel_rfl)) rfl] at h
                  exact h
                go_simp
                exact hK _ _ (fun v0 e => by cases e; rfl) (hW.wi.step (Only.refl _ _) (by decide))
              · intro L vs A' u hW hL0 hnd K' hK
                have n10 : L 10 = false := notYet hW.closed (j := 10) (by rfl) (k := 4) (by kernel_rfl) hL0
                have n11 : L 11 = false := notYet hW.closed (j := 11) (by rfl) (k := 10) (by kernel_rfl) n10
                have n12 : L 12 = false := notYet hW.closed (j := 12) (by rfl) (k := 11) (by kernel_rfl) n11
                have r26 : A'.tmps[26]? = some (.pointer (some (ad.add k))) := by
                  have h := hW.val 3 26 (by decide) (hnd 3 (by kernel_rfl)) rfl
                  rw [hW.known 3 _ (hnd 3 (by kernel_rfl)) rfl] at h
                  exact h
                have hc := cell_keep (hW.wi.only n12) hx
                go_simp
                exact hK _ _ (fun v0 e => by cases e; rfl) (hW.wi.step (Only.refl _ _) (by decide))
              · intro L vs A' u hW hL0 hnd K' hK
                have r5 : A'.tmps[5]? = some (.slice (some ad) m co) := (hW.out 5 (fun j hj => noOut j 5 hj (by kernel_rfl))).trans rfl
                go_simp
                exact hK _ _ (fun v0 e => by cases e; rfl) (hW.wi.step (Only.refl _ _) (by decide))
              · intro L vs A' u hW hL0 hnd K' hK
                have r8 : A'.tmps[8]? = some (iv k) := (hW.out 8 (fun j hj => noOut j 8 hj (by kernel_rfl))).trans rfl
                go_simp
                exact hK _ _ (fun v0 e => by cases e; rfl) (hW.wi.step (Only.refl _ _) (by decide))
              · intro L vs A' u hW hL0 hnd K' hK
                have r29 : A'.tmps[29]? = some (iv k) := by
                  have h := hW.val 6 29 (by decide) (hnd 6 (by kernel_rfl)) rfl
                  rw [hW.known 6 _ (hnd 6 (by kernel_rfl)) rfl] at h
                  exact h
                go_simp
                rw [w64k (j : Int) (by omega) (by omega)]
                exact hK _ _ (fun v0 e => by cases e; rfl) (hW.wi.step (Only.refl _ _) (by decide))
              · intro L vs A' u hW hL0 hnd K' hK
                have r28 : A'.tmps[28]? = some (.slice (some ad) m co) := by
                  have h := hW.val 5 28 (by decide) (hnd 5 (by kernel_rfl)) rfl
                  rw [hW.known 5 _ (hnd 5 (by kernel_rfl)) rfl] at h
                  exact h
                have r30 : A'.tmps[30]? = some (iv j) := by
                  have h := hW.val 7 30 (by decide) (hnd 7 (by kernel_rfl)) rfl
                  rw [hW.known 7 _ (hnd 7 (by kernel_rfl)) rfl] at h
                  exact h
                go_simp
                exact hK _ _ (fun v0 e => by cases e; rfl) (hW.wi.step (Only.refl _ _) (by decide))
              · intro L vs A' u hW hL0 hnd K' hK
                have n10 : L 10 = false := notYet hW.closed (j := 10) (by rfl) (k := 9) (by kernel_rfl) hL0
                have n11 : L 11 = false := notYet hW.closed (j := 11) (by rfl) (k := 10) (by kernel_rfl) n10
                have n12 : L 12 = false := notYet hW.closed (j := 12) (by rfl) (k := 11) (by kernel_rfl) n11
                have r31 : A'.tmps[31]? = some (.pointer (some (ad.add j))) := by
                  have h := hW.val 8 31 (by decide) (hnd 8 (by kernel_rfl)) rfl
                  rw [hW.known 8 _ (hnd 8 (by kernel_rfl)) rfl] at h
                  exact h
                have hc := cell_keep (hW.wi.only n12) hy
                go_simp
                exact hK _ _ (fun v0 e => by cases e; rfl) (hW.wi.step (Only.refl _ _) (by decide))
              · intro L vs A' u hW hL0 hnd K' hK
                have r27 : A'.tmps[27]? = some (iv x) := by
                  have h := hW.val 4 27 (by decide) (hnd 4 (by kernel_rfl)) rfl
                  rw [hW.known 4 _ (hnd 4 (by kernel_rfl)) rfl] at h
                  exact h
                have r32 : A'.tmps[32]? = some (iv y) := by
                  have h := hW.val 9 32 (by decide) (hnd 9 (by kernel_rfl)) rfl
                  rw [hW.known 9 _ (hnd 9 (by kernel_rfl)) rfl] at h
                  exact h
                go_simp
                rw [w64k (x - y) (by omega) (by omega)]
                exact hK _ _ (fun v0 e => by cases e; rfl) (hW.wi.step (Only.refl _ _) (by decide))
              · intro L vs A' u hW hL0 hnd K' hK
                have n12 : L 12 = false := notYet hW.closed (j := 12) (by rfl) (k := 11) (by kernel_rfl) hL0
                have r33 : A'.tmps[33]? = some (iv (x - y)) := by
                  have h := hW.val 10 33 (by decide) (hnd 10 (by kernel_rfl)) rfl
                  rw [hW.known 10 _ (hnd 10 (by kernel_rfl)) rfl] at h
                  exact h
                go_simp
                exact hK _ _ (fun v0 e => by cases e) (hW.wi.lay n12 (by decide) rfl rfl)
              · intro L vs A' u hW hL0 hnd K' hK
                have n13 : L 13 = false := notYet hW.closed (j := 13) (by rfl) (k := 12) (by kernel_rfl) hL0
                have r23 : A'.tmps[23]? = some (.slice A7 j c7) := by
                  have h := hW.val 0 23 (by decide) (hnd 0 (by kernel_rfl)) rfl
                  rw [hW.known 0 _ (hnd 0 (by kernel_rfl)) rfl] at h
                  exact h
                have r34 : A'.tmps[34]? = some (vs 11) := hW.val 11 34 (by decide) (hnd 11 (by kernel_rfl)) rfl
                obtain ⟨H, h5, h6⟩ := hW.wi.arg (hnd 11 (by kernel_rfl))
                rw [h5] at r34
                refine step_append_one rfl (.tmp 23) (.tmp 34) rfl W0.heap.size (.slice A7 j c7) j (((dif1 ys).take j).map iv) (by simp [Act.eval, r23]) (owns_only HOw.out (hW.wi.only hL0) (fun _ _ e => e)) H (x - y) (by simp [Act.eval, r34]) (h6 hL0) (by omega) ?_ ?_
                · exact Nat.le_trans HW.out.size (hW.wi.only hL0).size
                · intro g cap u' k1 k2 k3
                  exact hK _ _ (fun v0 e => by cases e) (hW.wi.app hL0 n13 HW.out HOw.out (Nat.le_refl _) g cap k1 k2 k3 (by decide) rfl rfl)
              · intro L vs A' u hW hL0 hnd K' hK
                have r35 : A'.tmps[35]? = some (vs 12) := hW.val 12 35 (by decide) (hnd 12 (by kernel_rfl)) rfl
                go_simp
                exact hK _ _ (fun v0 e => by cases e) (hW.wi.put rfl rfl (hnd 12 (by kernel_rfl)))
            case doneR =>
              intro L vs u hWI hkn hall
              obtain ⟨⟨g, cap, e12, hg, hrow⟩, hW1, hWr⟩ := hWI.done (hall 12 (by decide))
              have e13 := hWI.same (hall 13 (by decide))
              rw [e12] at e13
              have HF := Lib.hid (And.intro hrow hW1)
              clear hWI hkn hall noOut hrow hW1 hWr hg
              simp only [putV, List.foldl_cons, List.foldl_nil, e13, List.setIfInBounds_toArray, List.set_cons_zero, List.set_cons_succ]
              clear e12 e13
              go_wp2
              go_roundw
              case rel => exact ⟨j + 1, _, _, by rw [Hml.out]; omega, by rw [Hk.out]; go_num, rfl, by rw [Hk.out, HT.out, List.map_append, ← Hk.out]; exact HF.out.1, HF.out.2⟩
              case measure => simp [intOf]; omega
          · have hlt2i : ¬ (k : Int) < (m : Int) := by omega
            have hjm : j = m - 1 := by omega
            have hT : (dif1 ys).take j = dif1 ys := List.take_of_length_le (by rw [dif1_len, Hml.out, hjm]; exact Nat.le_refl _)
            rw [hT, HD.out] at hown
            have hjl : (difN (i + 1) xs).length = j := by rw [difN_len, hjm]; have := Hm.out; omega
            obtain ⟨A8, c8, e8, hI8⟩ := row_isrcB hown hjl HB1.out (by omega)
            injection e8 with eA _ ec
            subst eA ec
            have hji : xs.length - (i + 1) = j := by have := Hm.out; omega
            have HF := Lib.hid (And.intro hI8 (HO.out.trans hOw))
            have Hji := Lib.hid hji
            clear hown hOw hT hjl hI8 hji
            go_wp2
            go_roundw
            case rel => exact ⟨i + 1, A7, c7, hlt, by go_num, by rw [Hji.out], by rw [Hji.out]; exact HF.out.1, HF.out.2⟩
            case measure => simp [intOf]; omega
      · obtain rfl : i = K := by omega
        have HFin : Hid (DifR w i xs (.returned (.slice A2 (xs.length - i) co)) wr) := Lib.hid ⟨⟨A2, co, rfl, hI2⟩, hO⟩
        clear hI2 hO
        go_wp2
        go_ret
        exact HFin.out
end Go.Proofs.Ytgjnhbfdbiibdaa
