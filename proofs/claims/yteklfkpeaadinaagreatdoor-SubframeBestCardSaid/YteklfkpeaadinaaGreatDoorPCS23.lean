/-
  SubframeBack's own: samples divided; a fixed order's coefficients.
-/
import Derived.Test.YteklfkpeaadinaaGreatDoorPCS7
import Derived.Test.YteklfkpeaadinaaGreatDoorPCG20
namespace Go.Proofs.YteklfkpeaadinaaGreatDoor.S
open Go.RowKit Go.Shelf
open K (linV fx region_gho andV notYet isrc_row row_form)
theorem row_src {W : World} {base m : Nat} {v : Value} {xs : List Int} (h : W.ownsRow base 3 1 v m (xs.map iv)) (hm : xs.length = m) (hb : ∀ x ∈ xs, -9223372036854775808 ≤ x ∧ x ≤ 9223372036854775807) (hs : m ≤ 100000) : ∃ A c, v = .slice A m c ∧ ISrc W (.slice A m c) xs := by
  rcases Nat.eq_zero_or_pos m with h0 | h0
  · obtain ⟨A, c, e⟩ := owns_slice h
    subst h0
    have : xs = [] := List.length_eq_zero_iff.1 hm
    subst this
    exact ⟨A, c, e, ⟨A, c, rfl, Nat.zero_le _, fun i hi => by simp at hi⟩, by simp, by simp⟩
  · obtain ⟨g, c, e, _⟩ := row_form h h0
    subst e
    exact ⟨_, _, rfl, isrc_row h rfl (fun x hx => by have := hb x hx; omega) (by omega)⟩
/-- what Less answers -/
structure LesR (wd : Nat) (xs : List Int) (w : World) (e : Ending) (w' : World) : Prop where
  only : Only Nix w w'
  bad : ¬ dvA wd xs → e = .returned (.tuple #[.slice none 0 0, .bool false])
  good : dvA wd xs → ∃ A c, e = .returned (.tuple #[.slice A xs.length c, .bool true]) ∧ ISrc w' (.slice A xs.length c) (xs.map (dvd wd))
def LesP (w : World) (wd : Nat) (xs : List Int) (s6 s7 : Value) (wr : World) : Prop :=
  ∃ (j : Nat) (v : Value), j ≤ xs.length ∧ s7 = iv j ∧ s6 = v ∧ (∃ A c, v = .slice A j c) ∧ (∀ x ∈ xs.take j, x % 2 ^ wd = 0) ∧
    wr.ownsRow w.heap.size 3 1 v j (((xs.take j).map (dvd wd)).map iv) ∧ Only Nix w wr
set_option maxRecDepth 100000 in
set_option maxHeartbeats 4000000 in
theorem less_any {w : World} (wd : Nat) (hwd : wd ≤ 61) (A : Option Addr) (n c : Nat) (xs : List Int) (hxs : ISrc w (.slice A n c) xs) (hn : n ≤ 1000) :
    Calls Tryz.prog 26 #[iv wd, .slice A n c] w fun e w' => LesR wd xs w e w' := by
  have hxl := hxs.len
  have HX := Lib.hid hxs
  have Hxl := Lib.hid hxl
  have hwi : (wd : Int) ≤ 61 := by omega
  have hp : (2 : Int) ^ wd ≤ 2305843009213693952 := by
    have h : (2 : Nat) ^ wd ≤ 2 ^ 61 := Nat.pow_le_pow_right (by omega) hwd
    have h3 : (2 : Int) ^ wd ≤ 2 ^ 61 := by exact_mod_cast h
    exact h3
  have hp0 : (0 : Int) < 2 ^ wd := Int.pow_pos (by decide)
  have HP : Hid ((2 : Int) ^ wd = 2 ^ wd) := Lib.hid rfl
  clear hxs hxl hwd
  go_enter Tryz.func26, Tryz.ntmps26
  go_wp2
  go_loopw [6, 7] (fun s6 s7 wr => LesP w wd xs s6 s7 wr) (fun _ s7 _ => n - (intOf s7).toNat)
  case atStart =>
    exact ⟨0, _, Nat.zero_le _, rfl, rfl, ⟨none, 0, rfl⟩, by simp, World.ownsRow_nil _ _ _ _, Only.refl _ _⟩
  case round =>
    obtain ⟨j, v, hj, rfl, rfl, ⟨A5, c5, rfl⟩, hal, hown, hOw⟩ := hrel
    rw [← Hxl.out] at hj
    have HAl := Lib.hid hal
    have HW := Lib.hid hOw
    have HOw := Lib.hid hown
    clear hal hown hOw
    by_cases hlt2 : j < n
    · have hltx : j < xs.length := by rw [← Hxl.out]; exact hlt2
      obtain ⟨ad, rfl, hx⟩ := (HX.out.nix HW.out).at_ hltx
      have hft := HX.out.fits _ (List.getElem_mem hltx)
      have HM := Lib.hid (List.getElem_mem hltx)
      have HE := Lib.hid (List.take_succ_eq_append_getElem hltx)
      have hlt2i : (j : Int) < (n : Int) := by omega
      generalize xs[j] = x at *
      clear hltx
      by_cases hS : x % 2 ^ wd = 0
      · have hdq : x.tdiv (2 ^ wd) = dvd wd x := by unfold dvd; rw [Int.tdiv_eq_ediv_of_dvd (Int.dvd_of_emod_eq_zero hS)]
        have hdt : x.tmod (2 ^ wd) = 0 := Int.tmod_eq_zero_of_dvd (Int.dvd_of_emod_eq_zero hS)
        have hdf := dvd_fits wd x hft
        have HS := Lib.hid hS
        have HT : Hid (((xs.take (j + 1)).map (dvd wd)).map iv = ((xs.take j).map (dvd wd)).map iv ++ [iv (dvd wd x)]) := Lib.hid (by rw [HE.out]; simp)
        have HAl2 : Hid (∀ y ∈ xs.take (j + 1), y % 2 ^ wd = 0) := Lib.hid (fun y hy => by
          rw [HE.out] at hy
          rcases List.mem_append.1 hy with hy | hy
          · exact HAl.out y hy
          · simp at hy; subst hy; exact HS.out)
        have hsh : IntKind.i64.wrap (1 * 2 ^ wd) = 2 ^ wd := by rw [Int.one_mul]; exact K.w64k _ (by omega) (by omega)
        have hqu : IntKind.i64.wrap (x.tdiv (2 ^ wd)) = dvd wd x := by rw [hdq]; exact K.w64k _ hdf.1 hdf.2
        generalize hy : dvd wd x = y at *
        obtain ⟨P, hP⟩ : ∃ P : Int, (2 : Int) ^ wd = P := ⟨_, rfl⟩
        rw [hP] at hdt hqu hsh
        have hwP : IntKind.i64.wrap P = P := by have h := hsh; rwa [Int.one_mul] at h
        have hPn : ¬ P = 0 := by rw [← hP]; omega
        have hdb : (x.tmod P != 0) = false := by simpa using hdt
        have hP0 : (P == 0) = false := by rw [← hP]; simp; omega
        clear hS hy hdq hdt
        go_wp2_with fail
        go_quiet (fail)
        have ow := (Only.refl Nix wr).drewN nq
        have HW := Lib.hid (HW.out.trans ow)
        have HOw := Lib.hid (owns_only HOw.out ow (fun _ _ e => e))
        have hx := cell_keep ow hx
        clear ow
        generalize wr.drewN nq = wr at *
        go_wp2_with fail
        have noOutR : ∀ j s, j < 11 → (([some 22, some 23, some 24, some 25, some 26, some 27, some 28, some 29, some 30, some 31, some 6] : List (Option Nat)).all fun d => d != some s) = true → ([some 22, some 23, some 24, some 25, some 26, some 27, some 28, some 29, some 30, some 31, some 6] : List (Option Nat)).getD j none ≠ some s := by
          intro j s hj ha e
          rw [List.getD_eq_getElem?_getD, List.getElem?_eq_getElem (by exact hj), Option.getD_some] at e
          have := List.all_eq_true.1 ha _ (List.getElem_mem (by exact hj))
          rw [e] at this
          simp at this
        refine region_gho (by kernel_rfl) (fun k0 => ([some 22, some 23, some 24, some 25, some 26, some 27, some 28, some 29, some 30, some 31, some 6] : List (Option Nat)).getD k0 none) (fun k0 => ([some (.slice A5 j c5), some (.slice (some ad) n c), some (iv j), some (.pointer (some (ad.add j))), some (iv x), some (iv wd), some (iv P), some (iv y), none, none, none] : List (Option Value)).getD k0 none) (K.RrW w wr w.heap.size 9 (.slice A5 j c5) j (((xs.take j).map (dvd wd)).map iv) y) 33 11 rfl (by kernel_rfl) (by kernel_rfl) rfl (by kernel_rfl) (by kernel_rfl) ⟨fun _ => (Only.refl Nix _).drew, (fun e => by cases e), (fun e => by cases e), (fun e => by cases e)⟩ ?stepsR (fun vs => [(22, vs 0), (23, vs 1), (24, vs 2), (25, vs 3), (26, vs 4), (27, vs 5), (28, vs 6), (29, vs 7), (30, vs 8), (31, vs 9), (6, vs 10)]) (fun vs => rfl) ?doneR
        case stepsR =>
          refine ⟨?_, ?_, ?_, ?_, ?_, ?_, ?_, ?_, ?_, ?_, ?_, trivial⟩
          · intro L vs A' u hW hL0 hnd K' hK
            have hns : L 10 = false := notYet hW.closed (j := 10) (by rfl) (k := 0) (by kernel_rfl) hL0
            have r6 : A'.tmps[6]? = some (.slice A5 j c5) := (hW.fresh 10 6 (by decide) hns rfl).trans rfl
            go_simp
            exact hK _ _ (fun v0 e => by cases e; rfl) (hW.wi.step (Only.refl _ _) (by decide))
          · intro L vs A' u hW hL0 hnd K' hK
            have r1 : A'.tmps[1]? = some (.slice (some ad) n c) := (hW.out 1 (fun j hj => noOutR j 1 hj (by kernel_rfl))).trans rfl
            go_simp
            exact hK _ _ (fun v0 e => by cases e; rfl) (hW.wi.step (Only.refl _ _) (by decide))
          · intro L vs A' u hW hL0 hnd K' hK
            have r7 : A'.tmps[7]? = some (iv j) := (hW.out 7 (fun j hj => noOutR j 7 hj (by kernel_rfl))).trans rfl
            go_simp
            exact hK _ _ (fun v0 e => by cases e; rfl) (hW.wi.step (Only.refl _ _) (by decide))
          · intro L vs A' u hW hL0 hnd K' hK
            have r23 : A'.tmps[23]? = some (.slice (some ad) n c) := by
              have h := hW.val 1 23 (by decide) (hnd 1 (by kernel_rfl)) rfl
              rw [hW.known 1 _ (hnd 1 (by kernel_rfl)) rfl] at h
              exact h
            have r24 : A'.tmps[24]? = some (iv j) := by
              have h := hW.val 2 24 (by decide) (hnd 2 (by kernel_rfl)) rfl
              rw [hW.known 2 _ (hnd 2 (by kernel_rfl)) rfl] at h
              exact h
            go_simp
            exact hK _ _ (fun v0 e => by cases e; rfl) (hW.wi.step (Only.refl _ _) (by decide))
          · intro L vs A' u hW hL0 hnd K' hK
            have n7 : L 7 = false := notYet hW.closed (j := 7) (by rfl) (k := 4) (by kernel_rfl) hL0
            have n8 : L 8 = false := notYet hW.closed (j := 8) (by rfl) (k := 7) (by kernel_rfl) n7
            have n9 : L 9 = false := notYet hW.closed (j := 9) (by rfl) (k := 8) (by kernel_rfl) n8
            have r25 : A'.tmps[25]? = some (.pointer (some (ad.add j))) := by
              have h := hW.val 3 25 (by decide) (hnd 3 (by kernel_rfl)) rfl
              rw [hW.known 3 _ (hnd 3 (by kernel_rfl)) rfl] at h
              exact h
            have hc := cell_keep (hW.wi.only n9) hx
            go_simp
            exact hK _ _ (fun v0 e => by cases e; rfl) (hW.wi.step (Only.refl _ _) (by decide))
          · intro L vs A' u hW hL0 hnd K' hK
            have r0 : A'.tmps[0]? = some (iv wd) := (hW.out 0 (fun j hj => noOutR j 0 hj (by kernel_rfl))).trans rfl
            go_simp
            exact hK _ _ (fun v0 e => by cases e; rfl) (hW.wi.step (Only.refl _ _) (by decide))
          · intro L vs A' u hW hL0 hnd K' hK
            have r27 : A'.tmps[27]? = some (iv wd) := by
              have h := hW.val 5 27 (by decide) (hnd 5 (by kernel_rfl)) rfl
              rw [hW.known 5 _ (hnd 5 (by kernel_rfl)) rfl] at h
              exact h
            go_simp
            first | rw [hwP] | skip
            exact hK _ _ (fun v0 e => by cases e; rfl) (hW.wi.step (Only.refl _ _) (by decide))
          · intro L vs A' u hW hL0 hnd K' hK
            have r26 : A'.tmps[26]? = some (iv x) := by
              have h := hW.val 4 26 (by decide) (hnd 4 (by kernel_rfl)) rfl
              rw [hW.known 4 _ (hnd 4 (by kernel_rfl)) rfl] at h
              exact h
            have r28 : A'.tmps[28]? = some (iv P) := by
              have h := hW.val 6 28 (by decide) (hnd 6 (by kernel_rfl)) rfl
              rw [hW.known 6 _ (hnd 6 (by kernel_rfl)) rfl] at h
              exact h
            go_simp
            first | exact hK _ _ (fun v0 e => by cases e; rfl) (hW.wi.step (Only.refl _ _) (by decide)) | (rw [if_neg hPn]; exact hK _ _ (fun v0 e => by cases e; rfl) (hW.wi.step (Only.refl _ _) (by decide)))
          · intro L vs A' u hW hL0 hnd K' hK
            have n9 : L 9 = false := notYet hW.closed (j := 9) (by rfl) (k := 8) (by kernel_rfl) hL0
            have r29 : A'.tmps[29]? = some (iv y) := by
              have h := hW.val 7 29 (by decide) (hnd 7 (by kernel_rfl)) rfl
              rw [hW.known 7 _ (hnd 7 (by kernel_rfl)) rfl] at h
              exact h
            go_simp
            exact hK _ _ (fun v0 e => by cases e) (hW.wi.lay n9 (by decide) rfl rfl)
          · intro L vs A' u hW hL0 hnd K' hK
            have n10 : L 10 = false := notYet hW.closed (j := 10) (by rfl) (k := 9) (by kernel_rfl) hL0
            have r22 : A'.tmps[22]? = some (.slice A5 j c5) := by
              have h := hW.val 0 22 (by decide) (hnd 0 (by kernel_rfl)) rfl
              rw [hW.known 0 _ (hnd 0 (by kernel_rfl)) rfl] at h
              exact h
            have r30 : A'.tmps[30]? = some (vs 8) := hW.val 8 30 (by decide) (hnd 8 (by kernel_rfl)) rfl
            obtain ⟨H, h5, h6⟩ := hW.wi.arg (hnd 8 (by kernel_rfl))
            rw [h5] at r30
            refine K.step_append_one rfl (.tmp 22) (.tmp 30) rfl w.heap.size (.slice A5 j c5) j (((xs.take j).map (dvd wd)).map iv) (by simp [Act.eval, r22]) (owns_only HOw.out (hW.wi.only hL0) (fun _ _ e => e)) H y (by simp [Act.eval, r30]) (h6 hL0) (by omega) ?_ ?_
            · exact Nat.le_trans HW.out.size (hW.wi.only hL0).size
            · intro g cap u' k1 k2 k3
              exact hK _ _ (fun v0 e => by cases e) (hW.wi.app hL0 n10 HW.out HOw.out (Nat.le_refl _) g cap k1 k2 k3 (by decide) rfl rfl)
          · intro L vs A' u hW hL0 hnd K' hK
            have r31 : A'.tmps[31]? = some (vs 9) := hW.val 9 31 (by decide) (hnd 9 (by kernel_rfl)) rfl
            go_simp
            exact hK _ _ (fun v0 e => by cases e) (hW.wi.put rfl rfl (hnd 9 (by kernel_rfl)))
        case doneR =>
          intro L vs u hWI hkn hall
          obtain ⟨⟨g, cap, e9, hg, hrow⟩, hW1, hWr⟩ := hWI.done (hall 9 (by decide))
          have e10 := hWI.same (hall 10 (by decide))
          rw [e9] at e10
          have HF := Lib.hid (And.intro hrow hW1)
          clear hWI hkn hall noOutR hrow hW1 hWr hg
          simp only [putV, List.foldl_cons, List.foldl_nil, e9, e10, List.setIfInBounds_toArray, List.set_cons_zero, List.set_cons_succ]
          clear e9 e10
          go_wp2
          go_roundw
          case rel => exact ⟨j + 1, _, by rw [← Hxl.out]; omega, by go_num, rfl, ⟨_, _, rfl⟩, HAl2.out, by rw [HT.out]; exact HF.out.1, HF.out.2⟩
          case measure => simp [intOf]; omega
      · have hF : LesR wd xs w (.returned (.tuple #[.slice none 0 0, .bool false])) wr := ⟨HW.out, fun _ => rfl, fun h => absurd (h x HM.out) hS⟩
        have HF := Lib.hid hF
        have hdt : ¬ x.tmod (2 ^ wd) = 0 := fun h => hS (Int.emod_eq_zero_of_dvd (Int.dvd_of_tmod_eq_zero h))
        have hsh : IntKind.i64.wrap (1 * 2 ^ wd) = 2 ^ wd := by rw [Int.one_mul]; exact K.w64k _ (by omega) (by omega)
        obtain ⟨P, hP⟩ : ∃ P : Int, (2 : Int) ^ wd = P := ⟨_, rfl⟩
        rw [hP] at hdt hsh
        have hdb : (x.tmod P != 0) = true := by simpa using hdt
        have hP0 : (P == 0) = false := by rw [← hP]; simp; omega
        have HFq : Hid (∀ q, LesR wd xs w (.returned (.tuple #[.slice none 0 0, .bool false])) (wr.drewN q)) := Lib.hid (fun q => ⟨hF.only.drewN q, hF.bad, fun h => absurd (h x HM.out) hS⟩)
        clear hS hF hdt HF
        go_wp2_with fail
        go_quiet (fail)
        go_wp2
        go_ret2
        exact HFq.out _
    · obtain rfl : n = j := by omega
      have hsrc : ISrc wr (.slice A5 n c5) (xs.map (dvd wd)) := by
        have e : xs.take n = xs := List.take_of_length_le (by rw [← Hxl.out]; exact Nat.le_refl _)
        have h := HOw.out
        rw [e] at h
        obtain ⟨A', c', e', hs⟩ := row_src h (by rw [List.length_map, ← Hxl.out]) (fun z hz => by
          obtain ⟨x, hx, rfl⟩ := List.mem_map.1 hz
          exact dvd_fits wd x (HX.out.fits x hx)) (by omega)
        rw [e']
        exact hs
      have hF : LesR wd xs w (.returned (.tuple #[.slice A5 n c5, .bool true])) wr := ⟨HW.out, fun h => absurd (fun x hx => HAl.out x (by rw [List.take_of_length_le (by rw [← Hxl.out]; exact Nat.le_refl _)]; exact hx)) h, fun _ => ⟨A5, c5, by rw [← Hxl.out], by rw [← Hxl.out]; exact hsrc⟩⟩
      have HF := Lib.hid hF
      clear hF hsrc
      go_wp2
      go_ret2
      exact HF.out
end Go.Proofs.YteklfkpeaadinaaGreatDoor.S
