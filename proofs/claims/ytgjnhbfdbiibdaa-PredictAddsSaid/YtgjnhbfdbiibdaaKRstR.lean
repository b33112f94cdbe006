/-
  The document's Restore.
-/
import Derived.Test.YtgjnhbfdbiibdaaKRst
namespace Go.Proofs.Ytgjnhbfdbiibdaa
open Go.RowKit

theorem row_isrc {W : World} {base m : Nat} {v : Value} {xs : List Int} (h : W.ownsRow base 3 1 v m (xs.map iv)) (hm : xs.length = m) (hb : ∀ x ∈ xs, isS x) (hs : m ≤ 100000) : ∃ A c, v = .slice A m c ∧ ISrc W (.slice A m c) xs := by
  rcases Nat.eq_zero_or_pos m with h0 | h0
  · obtain ⟨A, c, e⟩ := owns_slice h
    subst h0
    have : xs = [] := List.length_eq_zero_iff.1 hm
    subst this
    exact ⟨A, c, e, ⟨A, c, rfl, Nat.zero_le _, fun i hi => by simp at hi⟩, by simp, by simp⟩
  · obtain ⟨g, c, e, _⟩ := row_form h h0
    subst e
    exact ⟨_, _, rfl, isrc_row h rfl (fun x hx => by have := hb x hx; unfold isS at this; omega) (by omega)⟩
def RrI (w1 : World) (j : Nat) (X : List Int) (v : Value) (wr : World) : Prop :=
  (∃ A c, v = .slice A j c) ∧ (∀ x ∈ X.take j, isS x) ∧ wr.ownsRow w1.heap.size 3 1 v j ((X.take j).map iv) ∧ Only Nix w1 wr

set_option maxRecDepth 100000 in
set_option maxHeartbeats 4000000 in
theorem restoreRef_any {w : World} (P S : Int) (Ac : Option Addr) (nc cc : Nat) (cs : List Int) (Af : Option Addr) (nf cf : Nat) (fs : List Int) (A : Option Addr) (n c : Nat) (l : List Int)
    (hcs : ISrc w (.slice Ac nc cc) cs) (hfs : ISrc w (.slice Af nf cf) fs) (hl : ISrc w (.slice A n c) l) (hn : n ≤ 1000) :
    Calls Try.prog 16 #[linV P S (.slice Ac nc cc), .slice Af nf cf, .slice A n c] w fun e w' => RstR w P S cs fs l e w' := by
  have hcl := hcs.len
  have hfl := hfs.len
  have hll := hl.len
  have hsc := hcs.small
  have hsf := hfs.small
  rw [← hcl] at hsc
  rw [← hfl] at hsf
  have a0 := (Only.refl Nix w).alloc (.cells #[iv P, iv S, .slice Ac nc cc] 30)
  have B0 := Box.new w 30 #[iv P, iv S, .slice Ac nc cc]
  obtain ⟨Wa, hWa⟩ : ∃ Wa, w.alloc (.cells #[iv P, iv S, .slice Ac nc cc] 30) = Wa := ⟨_, rfl⟩
  rw [hWa] at a0 B0
  have HCk := Lib.hid (checkRef_any P S Ac nc cc cs (hcs.nix a0))
  have d0 := B0.cell 0
  have d1 := B0.cell 1
  have d2 := B0.cell 2
  simp only [List.getElem?_toArray, List.getElem?_cons_zero, List.getElem?_cons_succ] at d0 d1 d2
  have HA := Lib.hid a0
  have HC := Lib.hid hcs
  have HF := Lib.hid hfs
  have HL := Lib.hid hl
  have Hcl := Lib.hid hcl
  have Hfl := Lib.hid hfl
  have Hll := Lib.hid hll
  clear hcs hfs hl a0 B0 hcl hfl hll
  go_enter Try.func16, Try.ntmps16
  by_cases hok : okL P S cs
  · obtain ⟨s, hs⟩ : ∃ s : Nat, S = (s : Int) := ⟨S.toNat, by have := hok.1; omega⟩
    subst hs
    have e0 : ckL P (s : Int) cs = 0 := if_pos hok
    rw [e0] at HCk
    go_wp2_with fail
    refine (HCk.out).mono ?_
    rintro e w1 ⟨rfl, o1⟩
    have c0 := cell_keep o1 d0
    have c1 := cell_keep o1 d1
    have c2 := cell_keep o1 d2
    have HO1 := Lib.hid (HA.out.trans o1)
    clear o1 d0 d1 d2 HCk e0
    have HOK := Lib.hid hok
    clear hok
    by_cases hne : nf = nc
    · have hs15 : s ≤ 15 := by have := HOK.out.1; omega
      have h32 : nc ≤ 32 := by have := HOK.out.1; have := Hcl.out; omega
      subst hne
      obtain ⟨N, hN⟩ : ∃ N, nf + n = N := ⟨_, rfl⟩
      have hN2 : N ≤ 1100 := by omega
      obtain ⟨X, hX⟩ : ∃ X, curK s cs fs l n = X := ⟨_, rfl⟩
      have hXl : X.length = N := by rw [← hX, curK_len, ← Hfl.out, hN]
      have hXf : X.take nf = fs := by rw [← hX, Hfl.out]; exact curK_first s cs fs l n
      have HXat : Hid (∀ k, k < n → X.getD (nf + k) 0 = tld s cs X (nf + k) + l.getD k 0) := Lib.hid (fun k hk => by
        rw [← hX, Hfl.out]
        exact curK_at s cs fs l hk (by rw [← Hcl.out, ← Hfl.out]; exact Nat.le_refl _))
      have HEE : Hid (rstE P (s : Int) cs fs l = if ∀ x ∈ X, isS x then 0 else 10) := Lib.hid (by
        unfold rstE
        rw [if_pos HOK.out, if_neg (by rw [← Hfl.out, ← Hcl.out]; simp), Int.toNat_natCast, ← Hll.out, hX])
      have HVV : Hid (rstV P (s : Int) cs fs l = if ∀ x ∈ X, isS x then X else []) := Lib.hid (by
        unfold rstV
        rw [HEE.out, Int.toNat_natCast, ← Hll.out, hX]
        by_cases hal : ∀ x ∈ X, isS x
        · rw [if_pos hal, if_pos hal, if_pos rfl]
        · rw [if_neg hal, if_neg hal, if_neg (by decide)])
      have HXl := Lib.hid hXl
      have HXf := Lib.hid hXf
      have HN := Lib.hid hN
      clear hX hXl hXf hN
      go_wp2
      go_loopw [9, 10] (fun s9 s10 wr => ∃ j : Nat, j ≤ nf ∧ s10 = iv j ∧ RrI w1 j X s9 wr) (fun _ s10 _ => nf - (intOf s10).toNat)
      case atStart => exact ⟨0, Nat.zero_le _, rfl, ⟨none, 0, rfl⟩, by simp, World.ownsRow_nil _ _ _ _, Only.refl _ _⟩
      case round =>
        obtain ⟨j, hj, rfl, ⟨A5, c5, rfl⟩, hal, hown, hOw⟩ := hrel
        have HAl := Lib.hid hal
        have HW := Lib.hid hOw
        have HW2 := Lib.hid (HO1.out.trans hOw)
        have HOw := Lib.hid hown
        have q0 := cell_keep hOw c0
        have q1 := cell_keep hOw c1
        have q2 := cell_keep hOw c2
        clear hal hown hOw
        by_cases hlt2 : j < nf
        · have hltx : j < fs.length := by rw [← Hfl.out]; exact hlt2
          obtain ⟨ad, rfl, hx⟩ := (HF.out.nix HW2.out).at_ hltx
          have hjX : j < X.length := by rw [HXl.out]; have := HN.out; omega
          have hXj : fs[j] = X[j] := by
            have h1 : X.getD j 0 = fs.getD j 0 := by rw [← HXf.out, take_getD _ _ _ hlt2]
            rw [getD_of hjX, getD_of hltx] at h1
            exact h1.symm
          rw [hXj] at hx
          have HM := Lib.hid (List.getElem_mem hjX)
          have HE := Lib.hid (List.take_succ_eq_append_getElem hjX)
          have hlt2i : (j : Int) < (nf : Int) := by omega
          have HI := Lib.hid (may_any wr X[j])
          generalize X[j] = x at *
          clear hltx hXj hjX
          by_cases hS : isS x
          · rw [decide_eq_true hS] at HI
            have HS := Lib.hid hS
            have HAl2 : Hid (∀ y ∈ X.take (j + 1), isS y) := Lib.hid (fun y hy => by
              rw [HE.out] at hy
              rcases List.mem_append.1 hy with hy | hy
              · exact HAl.out y hy
              · simp at hy; subst hy; exact HS.out)
            clear hS
            go_wp2_with fail
            refine (HI.out).mono ?_
            rintro e w9 ⟨rfl, rfl⟩
            clear HI
            go_wp2_with (at_builtin; refine wpList_append_one rfl (.tmp 36) (.tmp 41) rfl w1.heap.size (.slice A5 j c5) j ((X.take j).map iv) rfl ?ownM wr.heap.size x rfl ?cellM ?nM ?baseM ?restM)
            case ownM => exact HOw.out.alloc _
            case cellM => exact (Box.new wr 3 #[iv x]).cell 0
            case nM => omega
            case baseM => rw [World.size_alloc]; have := HW.out.size; omega
            case restM =>
              intro g cap w10 h10 h11 _
              have HO10 := Lib.hid ((HW.out.alloc (.cells #[iv x] 3)).grown h11 (fun q e => .inr (HOw.out.lt q e).1))
              have HR10 := Lib.hid h10
              clear h10 h11
              go_wp2
              go_roundw
              case rel => exact ⟨j + 1, hlt2, by go_num, ⟨_, _, rfl⟩, HAl2.out, by rw [HE.out, List.map_append, List.map_take]; exact HR10.out, HO10.out⟩
              case measure => simp [intOf]; omega
          · rw [decide_eq_false hS] at HI
            have hE : rstE P (s : Int) cs fs l = 10 := by rw [HEE.out, if_neg (fun h => hS (h x HM.out))]
            have HF10 := Lib.hid hE
            clear hS hE
            go_wp2_with fail
            refine (HI.out).mono ?_
            rintro e w9 ⟨rfl, rfl⟩
            go_wp2
            go_ret2
            exact RstR.bad HF10.out (by decide) HW2.out
        · obtain rfl : j = nf := by omega
          clear hj hlt2 q0 q1 q2
          obtain ⟨wz, hwz⟩ : ∃ wz, wr = wz := ⟨_, rfl⟩
          subst hwz
          go_wp2
          go_loopw [9, 11, 12] (fun s9 s11 _ wy => ∃ k : Nat, k ≤ n ∧ s11 = iv k ∧ RrI w1 (j + k) X s9 wy) (fun _ s11 _ _ => n - (intOf s11).toNat)
          case atStart => exact ⟨0, Nat.zero_le _, rfl, ⟨A5, c5, rfl⟩, HAl.out, HOw.out, HW.out⟩
          case round =>
            obtain ⟨k, hk, rfl, ⟨A5, c5, rfl⟩, hal, hown, hOw⟩ := hrel
            obtain ⟨i, hi⟩ : ∃ i, j + k = i := ⟨_, rfl⟩
            rw [hi] at hal hown ⊢
            have HAl := Lib.hid hal
            have HW := Lib.hid hOw
            have HW2 := Lib.hid (HO1.out.trans hOw)
            have HOw := Lib.hid hown
            have q0 := cell_keep hOw c0
            have q1 := cell_keep hOw c1
            have q2 := cell_keep hOw c2
            have Hi := Lib.hid hi
            clear hal hown hOw
            by_cases hlt2 : k < n
            · have hkl : k < l.length := by rw [← Hll.out]; exact hlt2
              obtain ⟨ad, rfl, hx⟩ := (HL.out.nix HW2.out).at_ hkl
              have hd := HL.out.fits _ (List.getElem_mem hkl)
              have hiX : i < X.length := by rw [HXl.out]; have := HN.out; omega
              have hXv := HXat.out k hlt2
              rw [hi, getD_of hkl, getD_of hiX] at hXv
              have HM := Lib.hid (List.getElem_mem hiX)
              have HE := Lib.hid (List.take_succ_eq_append_getElem hiX)
              have hlt2i : (k : Int) < (n : Int) := by omega
              have hxs : ∀ q, q < i → isS (X.getD q 0) := allS_getD HAl.out
              have htb := tld_bound s cs X i (okL_coef HOK.out) hxs (by rw [← Hcl.out]; omega) (by rw [← Hcl.out]; exact h32)
              obtain ⟨A6, c6, e6, hsrc⟩ := row_isrc HOw.out (by rw [List.length_take]; omega) HAl.out (by omega)
              injection e6 with eA _ ec
              subst eA ec
              have HTo : Hid (∀ u, Only Nix wr u → Calls Try.prog 24 #[linV P (s : Int) (.slice Ac j cc), .slice A5 i c5] u fun e w' => e = .returned (iv (tld s cs X i)) ∧ Only Nix u w') := Lib.hid (fun u hu => by
                have h := told_walk (w := u) P s Ac j cc cs A5 i c5 (X.take i) (HC.out.nix (HW2.out.trans hu)) (hsrc.nix hu) (by omega) h32 hs15 (okL_coef HOK.out) (fun q hq => by rw [take_getD X i q hq]; exact hxs q hq)
                rw [tld_congr s cs (X.take i) X i (by rw [← Hcl.out]; omega) (fun q hq => take_getD X i q hq)] at h
                exact h)
              generalize l[k] = d at *
              generalize X[i] = x at *
              generalize tld s cs X i = tl at *
              have HXv := Lib.hid hXv
              have Hdx : Hid (d + tl = x) := Lib.hid (by rw [hXv]; exact Int.add_comm _ _)
              have hnS : ¬ (-1152921504606846976 ≤ d ∧ d ≤ 1152921504606846976) → ¬ isS x := fun h h2 => by
                unfold isS at h2
                omega
              have HnS := Lib.hid hnS
              have HI := fun (u : World) => Lib.hid (may_any u x)
              clear hnS hXv hxs hsrc hiX hkl
              by_cases b1 : d < -1152921504606846976
              · have hE : rstE P (s : Int) cs fs l = 10 := by rw [HEE.out, if_neg (fun h => HnS.out (fun h2 => by omega) (h x HM.out))]
                have HF10 := Lib.hid hE
                clear hE
                go_wp2
                go_ret2
                exact RstR.bad HF10.out (by decide) HW2.out
              · by_cases b2 : 1152921504606846976 < d
                · have hE : rstE P (s : Int) cs fs l = 10 := by rw [HEE.out, if_neg (fun h => HnS.out (fun h2 => by omega) (h x HM.out))]
                  have HF10 := Lib.hid hE
                  clear hE
                  go_wp2
                  go_ret2
                  exact RstR.bad HF10.out (by decide) HW2.out
                · clear HnS
                  go_wp2
                  have noOut : ∀ j s, j < 9 → (([some 61, some 62, some 63, some 64, some 65, some 66, some 67, some 68, some 12] : List (Option Nat)).all fun d => d != some s) = true → ([some 61, some 62, some 63, some 64, some 65, some 66, some 67, some 68, some 12] : List (Option Nat)).getD j none ≠ some s := by
                    intro j s hj ha e
                    rw [List.getD_eq_getElem?_getD, List.getElem?_eq_getElem (by exact hj), Option.getD_some] at e
                    have := List.all_eq_true.1 ha _ (List.getElem_mem (by exact hj))
                    rw [e] at this
                    simp at this
                  refine region_val (by kernel_rfl) (fun k0 => ([some 61, some 62, some 63, some 64, some 65, some 66, some 67, some 68, some 12] : List (Option Nat)).getD k0 none) (fun k0 => ([(.slice (some ad) n c), (iv k), (.pointer (some (ad.add k))), (iv d), (linV P (s : Int) (.slice Ac j cc)), (.slice A5 i c5), (iv tl), (iv x), (iv x)] : List Value).getD k0 undef) (fun _ u => Only Nix wr u) 77 9 rfl (by kernel_rfl) (by kernel_rfl) rfl (by kernel_rfl) (by kernel_rfl) (Only.refl _ wr).drew ?stepsR [(61, .slice (some ad) n c), (62, iv k), (63, .pointer (some (ad.add k))), (64, iv d), (65, linV P (s : Int) (.slice Ac j cc)), (66, .slice A5 i c5), (67, iv tl), (68, iv x), (12, iv x)] rfl ?doneR
                  case stepsR =>
                    refine ⟨?_, ?_, ?_, ?_, ?_, ?_, ?_, ?_, ?_, trivial⟩
                    · intro L A' u hW hL0 hnd K' hK
                      have r2 : A'.tmps[2]? = some (.slice (some ad) n c) := (hW.out 2 (fun j hj => noOut j 2 hj (by kernel_rfl))).trans rfl
                      go_simp
                      exact hK _ (hW.wi)
                    · intro L A' u hW hL0 hnd K' hK
                      have r11 : A'.tmps[11]? = some (iv k) := (hW.out 11 (fun j hj => noOut j 11 hj (by kernel_rfl))).trans rfl
                      go_simp
                      exact hK _ (hW.wi)
                    · intro L A' u hW hL0 hnd K' hK
                      have r61 : A'.tmps[61]? = some (.slice (some ad) n c) := hW.val 0 61 (by decide) (hnd 0 (by kernel_rfl)) rfl
                      have r62 : A'.tmps[62]? = some (iv k) := hW.val 1 62 (by decide) (hnd 1 (by kernel_rfl)) rfl
                      go_simp
                      exact hK _ (hW.wi)
                    · intro L A' u hW hL0 hnd K' hK
                      have r63 : A'.tmps[63]? = some (.pointer (some (ad.add k))) := hW.val 2 63 (by decide) (hnd 2 (by kernel_rfl)) rfl
                      have hc := cell_keep hW.wi hx
                      go_simp
                      exact hK _ (hW.wi)
                    · intro L A' u hW hL0 hnd K' hK
                      have r3 : A'.tmps[3]? = some (.pointer (some ⟨w.heap.size, 0, none⟩)) := (hW.out 3 (fun j hj => noOut j 3 hj (by kernel_rfl))).trans rfl
                      have hc0 := cell_keep hW.wi q0
                      have hc1 := cell_keep hW.wi q1
                      have hc2 := cell_keep hW.wi q2
                      go_simp
                      exact hK _ (hW.wi)
                    · intro L A' u hW hL0 hnd K' hK
                      have r9 : A'.tmps[9]? = some (.slice A5 i c5) := (hW.out 9 (fun j hj => noOut j 9 hj (by kernel_rfl))).trans rfl
                      go_simp
                      exact hK _ (hW.wi)
                    · intro L A' u hW hL0 hnd K' hK
                      have r65 : A'.tmps[65]? = some (linV P (s : Int) (.slice Ac j cc)) := hW.val 4 65 (by decide) (hnd 4 (by kernel_rfl)) rfl
                      have r66 : A'.tmps[66]? = some (.slice A5 i c5) := hW.val 5 66 (by decide) (hnd 5 (by kernel_rfl)) rfl
                      have HCL := Lib.hid (HTo.out u hW.wi)
                      go_simp
                      refine (HCL.out).mono ?_
                      rintro e' u' ⟨rfl, ho'⟩
                      exact hK _ (hW.wi.trans ho')
                    · intro L A' u hW hL0 hnd K' hK
                      have r64 : A'.tmps[64]? = some (iv d) := hW.val 3 64 (by decide) (hnd 3 (by kernel_rfl)) rfl
                      have r67 : A'.tmps[67]? = some (iv tl) := hW.val 6 67 (by decide) (hnd 6 (by kernel_rfl)) rfl
                      go_simp
                      rw [w64k (d + tl) (by omega) (by omega), Hdx.out]
                      exact hK _ hW.wi
                    · intro L A' u hW hL0 hnd K' hK
                      have r68 : A'.tmps[68]? = some (iv x) := hW.val 7 68 (by decide) (hnd 7 (by kernel_rfl)) rfl
                      go_simp
                      exact hK _ (hW.wi)
                  case doneR =>
                    intro L u hWI hall
                    have HWu := Lib.hid (HW.out.trans hWI)
                    have HWu2 := Lib.hid (HW2.out.trans hWI)
                    have HOu := Lib.hid (owns_only HOw.out hWI (fun _ _ e => e))
                    have HIu := HI u
                    clear hWI hall noOut HTo HI
                    simp only [putV, List.foldl_cons, List.foldl_nil, List.setIfInBounds_toArray, List.set_cons_zero, List.set_cons_succ]
                    by_cases hS : isS x
                    · rw [decide_eq_true hS] at HIu
                      have HS := Lib.hid hS
                      have HAl2 : Hid (∀ y ∈ X.take (i + 1), isS y) := Lib.hid (fun y hy => by
                        rw [HE.out] at hy
                        rcases List.mem_append.1 hy with hy | hy
                        · exact HAl.out y hy
                        · simp at hy; subst hy; exact HS.out)
                      clear hS
                      go_wp2_with fail
                      refine (HIu.out).mono ?_
                      rintro e w9 ⟨rfl, rfl⟩
                      clear HIu
                      go_wp2_with (at_builtin; refine wpList_append_one rfl (.tmp 72) (.tmp 74) rfl w1.heap.size (.slice A5 i c5) i ((X.take i).map iv) rfl ?ownM u.heap.size x rfl ?cellM ?nM ?baseM ?restM)
                      case ownM => exact HOu.out.alloc _
                      case cellM => exact (Box.new u 3 #[iv x]).cell 0
                      case nM => have := HN.out; omega
                      case baseM => rw [World.size_alloc]; have := HWu.out.size; omega
                      case restM =>
                        intro g cap w10 h10 h11 _
                        have HO10 := Lib.hid ((HWu.out.alloc (.cells #[iv x] 3)).grown h11 (fun q e => .inr (HOu.out.lt q e).1))
                        have HR10 := Lib.hid h10
                        clear h10 h11
                        go_wp2
                        go_roundw
                        case rel =>
                          refine ⟨k + 1, hlt2, by go_num, ?_⟩
                          rw [show j + (k + 1) = i + 1 by have := Hi.out; omega]
                          exact ⟨⟨_, _, rfl⟩, HAl2.out, by rw [HE.out, List.map_append, List.map_take]; exact HR10.out, HO10.out⟩
                        case measure => simp [intOf]; omega
                    · rw [decide_eq_false hS] at HIu
                      have hE : rstE P (s : Int) cs fs l = 10 := by rw [HEE.out, if_neg (fun h => hS (h x HM.out))]
                      have HF10 := Lib.hid hE
                      clear hS hE
                      go_wp2_with fail
                      refine (HIu.out).mono ?_
                      rintro e w9 ⟨rfl, rfl⟩
                      go_wp2
                      go_ret2
                      exact RstR.bad HF10.out (by decide) HWu2.out
            · obtain rfl : k = n := by omega
              have hiN : i = X.length := by rw [HXl.out]; have := HN.out; omega
              have hT : X.take i = X := List.take_of_length_le (by omega)
              have hS : ∀ y ∈ X, isS y := fun y hy => HAl.out y (by rw [hT]; exact hy)
              have hE : rstE P (s : Int) cs fs l = 0 := by rw [HEE.out, if_pos hS]
              have hV : rstV P (s : Int) cs fs l = X := by rw [HVV.out, if_pos hS]
              have HFin : Hid (RstR w P (s : Int) cs fs l (.returned (.tuple #[.slice A5 i c5, iv 0])) wr) := Lib.hid (by
                obtain ⟨A6, c6, e6, hsrc⟩ := row_isrc HOw.out (by rw [hT]; exact hiN.symm) HAl.out (by have := HN.out; omega)
                injection e6 with eA _ ec
                subst eA ec
                rw [hT] at hsrc
                refine ⟨⟨A5, c5, by rw [hV, ← hiN, hE], ?_⟩, HW2.out⟩
                rw [hV, ← hiN]
                exact hsrc)
              clear hS hE hV hT hiN
              go_wp2
              go_ret2
              exact HFin.out
    · have hE : rstE P (s : Int) cs fs l = 1 := by unfold rstE; rw [if_pos HOK.out, if_pos (by rw [← Hfl.out, ← Hcl.out]; exact hne)]
      have HE := Lib.hid hE
      have hnei : ¬ (nf : Int) = (nc : Int) := by omega
      clear hE
      go_wp2
      go_ret2
      exact RstR.bad HE.out (by decide) HO1.out
  · have e0 : ckL P S cs = 10 := if_neg hok
    have hE : rstE P S cs fs l = 10 := if_neg hok
    rw [e0] at HCk
    have HE := Lib.hid hE
    clear hok e0 hE
    go_wp2_with fail
    refine (HCk.out).mono ?_
    rintro e w1 ⟨rfl, o1⟩
    have HO1 := Lib.hid (HA.out.trans o1)
    clear o1
    go_wp2
    go_ret2
    exact RstR.bad HE.out (by decide) HO1.out
end Go.Proofs.Ytgjnhbfdbiibdaa
