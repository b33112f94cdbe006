/-
  SubframeBest: its walk.
-/
import Derived.Test.YteklfkpeaadinaaGreatDoorPCS38
import Derived.Test.YteklfkpeaadinaaGreatDoorPCS31
import Derived.Test.YteklfkpeaadinaaGreatDoorPCS21
import Derived.Test.YteklfkpeaadinaaGreatDoorPCS22
import Derived.Test.YteklfkpeaadinaaGreatDoorPCS24
import Derived.Test.YteklfkpeaadinaaGreatDoorPCG19
namespace Go.Proofs.YteklfkpeaadinaaGreatDoor.S
open Go.RowKit Go.Shelf Go.Joins
open K (linV fx resV resE bestV region_gho andV notYet isrc_row row_form)
theorem ckBlk_zero {b d : Int} (h : ckBlk b d = 0) : 4 ≤ d ∧ d ≤ 33 ∧ 1 ≤ b ∧ b ≤ 65535 := by
  unfold ckBlk at h
  split at h
  · cases h
  · omega
theorem same_dvd {W : Nat} {S : List Int} (h : dvA W S) : sameA (S.map (dvd W)) ↔ sameA S := by
  have key : ∀ a ∈ S, ∀ b ∈ S, dvd W a = dvd W b → a = b := fun a ha b hb e => by
    have h1 : dvd W a * 2 ^ W = a := by unfold dvd; exact Int.ediv_mul_cancel (Int.dvd_of_emod_eq_zero (h a ha))
    have h2 : dvd W b * 2 ^ W = b := by unfold dvd; exact Int.ediv_mul_cancel (Int.dvd_of_emod_eq_zero (h b hb))
    rw [← h1, ← h2, e]
  cases S with
  | nil => exact ⟨(fun _ x hx => by cases hx), (fun _ x hx => by cases hx)⟩
  | cons z l =>
    constructor
    · intro hs x hx
      exact key x hx z (by simp) (hs (dvd W x) (List.mem_map.2 ⟨x, hx, rfl⟩))
    · intro hs y hy
      obtain ⟨x, hx, rfl⟩ := List.mem_map.1 hy
      rw [hs x hx]
      rfl
theorem two_hundred {wd W : Nat} {x y : Int} (h : wd ≤ W) (hx : -200 ≤ x ∧ x ≤ 200) (e : y * 2 ^ W = x * 2 ^ wd) : -200 ≤ y ∧ y ≤ 200 := by
  have hp : (0 : Int) < 2 ^ wd := Int.pow_pos (by decide)
  have hM : (0 : Int) < 2 ^ (W - wd) := Int.pow_pos (by decide)
  have he : (2 : Int) ^ W = 2 ^ (W - wd) * 2 ^ wd := by rw [← Int.pow_add]; congr 1; omega
  rw [he, ← Int.mul_assoc] at e
  have e2 := Int.eq_of_mul_eq_mul_right (Int.ne_of_gt hp) e
  generalize (2 : Int) ^ (W - wd) = M at *
  rcases (by omega : 0 ≤ y ∨ y < 0) with hy | hy
  · have := Int.mul_le_mul_of_nonneg_left (show 1 ≤ M by omega) hy
    rw [Int.mul_one] at this
    omega
  · have := Int.mul_le_mul_of_nonpos_left (show y ≤ 0 by omega) (show 1 ≤ M by omega)
    rw [Int.mul_one] at this
    omega
theorem difN_two (ys : List Int) (h : ∀ y ∈ ys, -200 ≤ y ∧ y ≤ 200) (k : Nat) : ∀ y ∈ K.difN k ys, -(200 * ((2 ^ k : Nat) : Int)) ≤ y ∧ y ≤ 200 * ((2 ^ k : Nat) : Int) := by
  induction k with
  | zero =>
    intro y hy
    have := h y hy
    simp
    omega
  | succ k ih =>
    intro y hy
    obtain ⟨j, _, rfl⟩ := List.mem_map.1 hy
    have hp := Nat.two_pow_pos k
    have h1 := K.getD_all (p := fun y => -(200 * ((2 ^ k : Nat) : Int)) ≤ y ∧ y ≤ 200 * ((2 ^ k : Nat) : Int)) ih (by omega) (j + 1)
    have h2 := K.getD_all (p := fun y => -(200 * ((2 ^ k : Nat) : Int)) ≤ y ∧ y ≤ 200 * ((2 ^ k : Nat) : Int)) ih (by omega) j
    rw [show 2 ^ (k + 1) = 2 ^ k + 2 ^ k by rw [Nat.pow_succ]; omega]
    generalize 2 ^ k = K at *
    omega
theorem res_small {q : Nat} {ys : List Int} (hq : q ≤ 4) (hn : q ≤ ys.length) (hS : ∀ y ∈ ys, K.isS y) (h : ∀ y ∈ ys, -200 ≤ y ∧ y ≤ 200) : ∀ r ∈ resV 4 0 (fx q) ys, Sm r := by
  intro r hr
  rw [K.res_difN ys q hq hn hS] at hr
  have h1 := difN_two ys h q r hr
  have h2 := pow_le_of hq
  have h3 : (2 : Nat) ^ 4 = 16 := rfl
  unfold Sm
  generalize 2 ^ q = K2 at *
  omega
def AlP (w7 : World) (ys : List Int) (s14 s15 : Value) (wr : World) : Prop := ∃ (j : Nat) (b : Bool), j ≤ ys.length ∧ s15 = iv j ∧ s14 = .bool b ∧ (b = true ↔ ∀ y ∈ ys.take j, y = ys.getD 0 0) ∧ Only Nix w7 wr
def mt (wd : Nat) (x : Int) : Int := x * 2 ^ wd
def SmpP (w : World) (wd : Nat) (xs : List Int) (s7 s8 : Value) (wr : World) : Prop :=
  ∃ (j : Nat) (v : Value), j ≤ xs.length ∧ s8 = iv j ∧ s7 = v ∧ (∃ A c, v = .slice A j c) ∧ (∀ x ∈ xs.take j, -200 ≤ x ∧ x ≤ 200) ∧
    wr.ownsRow w.heap.size 3 1 v j (((xs.take j).map (mt wd)).map iv) ∧ Only Nix w wr
theorem mt_fits {wd : Nat} (h : wd ≤ 24) {x : Int} (h1 : -200 ≤ x ∧ x ≤ 200) : -3355443200 ≤ mt wd x ∧ mt wd x ≤ 3355443200 := by
  have h2 : (2 : Nat) ^ wd ≤ 2 ^ 24 := Nat.pow_le_pow_right (by decide) h
  have h3 : (2 : Int) ^ wd ≤ 2 ^ 24 := by exact_mod_cast h2
  have h4 : (2 : Int) ^ 24 = 16777216 := by decide
  have h0 : (0 : Int) < 2 ^ wd := Int.pow_pos (by decide)
  unfold mt
  generalize (2 : Int) ^ wd = M at *
  have h5 := Int.mul_le_mul_of_nonneg_right h1.1 (show 0 ≤ M by omega)
  have h6 := Int.mul_le_mul_of_nonneg_right h1.2 (show 0 ≤ M by omega)
  rw [Int.neg_mul] at h5
  omega
set_option maxRecDepth 100000 in
set_option maxHeartbeats 16000000 in
theorem subframeBest_walk {w : World} (hLd : Laid w) (hT : Tab w) (d t : Int) (A : Option Addr) (n c : Nat) (xs : List Int) (hxs : ISrc w (.slice A n c) xs) :
    Calls Tryz.prog 5 #[iv d, iv t, .slice A n c] w fun e w' => e = .returned (.bool true) ∧ Only Nix w w' := by
  have hxl := hxs.len
  have hsm := hxs.small
  rw [← hxl] at hsm
  have HX := Lib.hid hxs
  have Hxl := Lib.hid hxl
  have HT := Lib.hid hT
  have HAw : Hid (∀ u, Only Nix w u → Calls Tryz.prog 8 #[] u fun e w' => e = .returned (.bool true) ∧ Only Nix u w') := Lib.hid (fun u hu => awake7 (hLd.nix hu) (hT.nix hu))
  clear hxs hxl hLd hT
  by_cases hn40 : 40 < n
  · have hn40i : (40 : Int) < (n : Int) := by omega
    go_enter Tryz.func5, Tryz.ntmps5
    go_wp2_with fail
    refine (HAw.out _ (Only.refl _ _)).mono ?_
    rintro e wz ⟨rfl, oz⟩
    have HFin := Lib.hid ((Only.refl Nix w).trans oz)
    go_wp2
    go_ret
    exact ⟨rfl, HFin.out⟩
  have hn40i : ¬ (40 : Int) < (n : Int) := by omega
  by_cases ht0 : t < 0
  · go_enter Tryz.func5, Tryz.ntmps5
    go_wp2_with fail
    refine (HAw.out _ (Only.refl _ _)).mono ?_
    rintro e wz ⟨rfl, oz⟩
    have HFin := Lib.hid ((Only.refl Nix w).trans oz)
    go_wp2
    go_ret
    exact ⟨rfl, HFin.out⟩
  by_cases ht24 : 24 < t
  · go_enter Tryz.func5, Tryz.ntmps5
    go_wp2_with fail
    refine (HAw.out _ (Only.refl _ _)).mono ?_
    rintro e wz ⟨rfl, oz⟩
    have HFin := Lib.hid ((Only.refl Nix w).trans oz)
    go_wp2
    go_ret
    exact ⟨rfl, HFin.out⟩
  obtain ⟨wd, hwdE⟩ := Int.eq_ofNat_of_zero_le (show 0 ≤ t by omega)
  have hwdE : t = (wd : Int) := hwdE
  subst hwdE
  have hwd : wd ≤ 24 := by omega
  have hwi : (wd : Int) ≤ 61 := by omega
  have hp : (2 : Int) ^ wd ≤ 16777216 := by
    have h : (2 : Nat) ^ wd ≤ 2 ^ 24 := Nat.pow_le_pow_right (by omega) hwd
    have h3 : (2 : Int) ^ wd ≤ 2 ^ 24 := by exact_mod_cast h
    exact h3
  have hp0 : (0 : Int) < 2 ^ wd := Int.pow_pos (by decide)
  go_enter Tryz.func5, Tryz.ntmps5
  go_wp2
  go_loopw [7, 8] (fun s7 s8 wr => SmpP w wd xs s7 s8 wr) (fun _ s8 _ => n - (intOf s8).toNat)
  case atStart =>
    exact ⟨0, _, Nat.zero_le _, rfl, rfl, ⟨none, 0, rfl⟩, by simp, World.ownsRow_nil _ _ _ _, Only.refl _ _⟩
  case round =>
    obtain ⟨j, v, hj, rfl, rfl, ⟨A5, c5, rfl⟩, hal, hown, hOw⟩ := hrel
    rw [← Hxl.out] at hj
    have HAl := Lib.hid hal
    have HW := Lib.hid hOw
    have HOw := Lib.hid hown
    clear hal hown hOw
    by_cases hlt2 : j < n
    · have hltx : j < xs.length := by rw [← Hxl.out]; exact hlt2
      obtain ⟨ad, rfl, hx⟩ := (HX.out.nix HW.out).at_ hltx
      have hft := HX.out.fits _ (List.getElem_mem hltx)
      have HE := Lib.hid (List.take_succ_eq_append_getElem hltx)
      have hlt2i : (j : Int) < (n : Int) := by omega
      generalize xs[j] = x at *
      clear hltx
      by_cases g1 : 200 < x
      · go_wp2_with fail
        refine (HAw.out _ (HW.out)).mono ?_
        rintro e wz ⟨rfl, oz⟩
        have HFin := Lib.hid ((HW.out).trans oz)
        go_wp2
        go_ret
        exact ⟨rfl, HFin.out⟩
      by_cases g2 : x < -200
      · go_wp2_with fail
        refine (HAw.out _ (HW.out)).mono ?_
        rintro e wz ⟨rfl, oz⟩
        have HFin := Lib.hid ((HW.out).trans oz)
        go_wp2
        go_ret
        exact ⟨rfl, HFin.out⟩
      have hfit := mt_fits hwd (x := x) ⟨by omega, by omega⟩
      have HTk : Hid (((xs.take (j + 1)).map (mt wd)).map iv = ((xs.take j).map (mt wd)).map iv ++ [iv (mt wd x)]) := Lib.hid (by rw [HE.out]; simp)
      have HAl2 : Hid (∀ y ∈ xs.take (j + 1), -200 ≤ y ∧ y ≤ 200) := Lib.hid (fun y hy => by
        rw [HE.out] at hy
        rcases List.mem_append.1 hy with hy | hy
        · exact HAl.out y hy
        · simp at hy; subst hy; exact ⟨by omega, by omega⟩)
      have hsh : IntKind.i64.wrap (1 * 2 ^ wd) = 2 ^ wd := by rw [Int.one_mul]; exact K.w64k _ (by omega) (by omega)
      have hmu : x * 2 ^ wd = mt wd x := rfl
      have hwm : IntKind.i64.wrap (mt wd x) = mt wd x := K.w64k _ (by omega) (by omega)
      generalize hy : mt wd x = y at *
      obtain ⟨P, hP⟩ : ∃ P : Int, (2 : Int) ^ wd = P := ⟨_, rfl⟩
      rw [hP] at hmu hsh
      have hwP : IntKind.i64.wrap P = P := by have h := hsh; rwa [Int.one_mul] at h
      have hmw : IntKind.i64.wrap (x * P) = y := by rw [hmu]; exact hwm
      clear hy
      go_wp2_with fail
      have noOutR : ∀ j s, j < 11 → (([some 58, some 59, some 60, some 61, some 62, some 63, some 64, some 65, some 66, some 67, some 7] : List (Option Nat)).all fun d => d != some s) = true → ([some 58, some 59, some 60, some 61, some 62, some 63, some 64, some 65, some 66, some 67, some 7] : List (Option Nat)).getD j none ≠ some s := by
        intro j s hj ha e
        rw [List.getD_eq_getElem?_getD, List.getElem?_eq_getElem (by exact hj), Option.getD_some] at e
        have := List.all_eq_true.1 ha _ (List.getElem_mem (by exact hj))
        rw [e] at this
        simp at this
      refine region_gho (by kernel_rfl) (fun k0 => ([some 58, some 59, some 60, some 61, some 62, some 63, some 64, some 65, some 66, some 67, some 7] : List (Option Nat)).getD k0 none) (fun k0 => ([some (.slice A5 j c5), some (.slice (some ad) n c), some (iv j), some (.pointer (some (ad.add j))), some (iv x), some (iv wd), some (iv P), some (iv y), none, none, none] : List (Option Value)).getD k0 none) (K.RrW w wr w.heap.size 9 (.slice A5 j c5) j (((xs.take j).map (mt wd)).map iv) y) 290 11 rfl (by kernel_rfl) (by kernel_rfl) rfl (by kernel_rfl) (by kernel_rfl) ⟨fun _ => (Only.refl Nix _).drew, (fun e => by cases e), (fun e => by cases e), (fun e => by cases e)⟩ ?stepsR (fun vs => [(58, vs 0), (59, vs 1), (60, vs 2), (61, vs 3), (62, vs 4), (63, vs 5), (64, vs 6), (65, vs 7), (66, vs 8), (67, vs 9), (7, vs 10)]) (fun vs => rfl) ?doneR
      case stepsR =>
        refine ⟨?_, ?_, ?_, ?_, ?_, ?_, ?_, ?_, ?_, ?_, ?_, trivial⟩
        · intro L vs A' u hW hL0 hnd K' hK
          have hns : L 10 = false := notYet hW.closed (j := 10) (by rfl) (k := 0) (by kernel_rfl) hL0
          have r7 : A'.tmps[7]? = some (.slice A5 j c5) := (hW.fresh 10 7 (by decide) hns rfl).trans rfl
          go_simp
          exact hK _ _ (fun v0 e => by cases e; rfl) (hW.wi.step (Only.refl _ _) (by decide))
        · intro L vs A' u hW hL0 hnd K' hK
          have r2 : A'.tmps[2]? = some (.slice (some ad) n c) := (hW.out 2 (fun j hj => noOutR j 2 hj (by kernel_rfl))).trans rfl
          go_simp
          exact hK _ _ (fun v0 e => by cases e; rfl) (hW.wi.step (Only.refl _ _) (by decide))
        · intro L vs A' u hW hL0 hnd K' hK
          have r8 : A'.tmps[8]? = some (iv j) := (hW.out 8 (fun j hj => noOutR j 8 hj (by kernel_rfl))).trans rfl
          go_simp
          exact hK _ _ (fun v0 e => by cases e; rfl) (hW.wi.step (Only.refl _ _) (by decide))
        · intro L vs A' u hW hL0 hnd K' hK
          have r59 : A'.tmps[59]? = some (.slice (some ad) n c) := by
            have h := hW.val 1 59 (by decide) (hnd 1 (by kernel_rfl)) rfl
            rw [hW.known 1 _ (hnd 1 (by kernel_rfl)) rfl] at h
            exact h
          have r60 : A'.tmps[60]? = some (iv j) := by
            have h := hW.val 2 60 (by decide) (hnd 2 (by kernel_rfl)) rfl
            rw [hW.known 2 _ (hnd 2 (by kernel_rfl)) rfl] at h
            exact h
          go_simp
          exact hK _ _ (fun v0 e => by cases e; rfl) (hW.wi.step (Only.refl _ _) (by decide))
        · intro L vs A' u hW hL0 hnd K' hK
          have n7 : L 7 = false := notYet hW.closed (j := 7) (by rfl) (k := 4) (by kernel_rfl) hL0
          have n8 : L 8 = false := notYet hW.closed (j := 8) (by rfl) (k := 7) (by kernel_rfl) n7
          have n9 : L 9 = false := notYet hW.closed (j := 9) (by rfl) (k := 8) (by kernel_rfl) n8
          have r61 : A'.tmps[61]? = some (.pointer (some (ad.add j))) := by
            have h := hW.val 3 61 (by decide) (hnd 3 (by kernel_rfl)) rfl
            rw [hW.known 3 _ (hnd 3 (by kernel_rfl)) rfl] at h
            exact h
          have hc := cell_keep (hW.wi.only n9) hx
          go_simp
          exact hK _ _ (fun v0 e => by cases e; rfl) (hW.wi.step (Only.refl _ _) (by decide))
        · intro L vs A' u hW hL0 hnd K' hK
          have r1 : A'.tmps[1]? = some (iv wd) := (hW.out 1 (fun j hj => noOutR j 1 hj (by kernel_rfl))).trans rfl
          go_simp
          exact hK _ _ (fun v0 e => by cases e; rfl) (hW.wi.step (Only.refl _ _) (by decide))
        · intro L vs A' u hW hL0 hnd K' hK
          have r63 : A'.tmps[63]? = some (iv wd) := by
            have h := hW.val 5 63 (by decide) (hnd 5 (by kernel_rfl)) rfl
            rw [hW.known 5 _ (hnd 5 (by kernel_rfl)) rfl] at h
            exact h
          go_simp
          first | rw [hwP] | skip
          exact hK _ _ (fun v0 e => by cases e; rfl) (hW.wi.step (Only.refl _ _) (by decide))
        · intro L vs A' u hW hL0 hnd K' hK
          have r62 : A'.tmps[62]? = some (iv x) := by
            have h := hW.val 4 62 (by decide) (hnd 4 (by kernel_rfl)) rfl
            rw [hW.known 4 _ (hnd 4 (by kernel_rfl)) rfl] at h
            exact h
          have r64 : A'.tmps[64]? = some (iv P) := by
            have h := hW.val 6 64 (by decide) (hnd 6 (by kernel_rfl)) rfl
            rw [hW.known 6 _ (hnd 6 (by kernel_rfl)) rfl] at h
            exact h
          go_simp
          exact hK _ _ (fun v0 e => by cases e; rfl) (hW.wi.step (Only.refl _ _) (by decide))
        · intro L vs A' u hW hL0 hnd K' hK
          have n9 : L 9 = false := notYet hW.closed (j := 9) (by rfl) (k := 8) (by kernel_rfl) hL0
          have r65 : A'.tmps[65]? = some (iv y) := by
            have h := hW.val 7 65 (by decide) (hnd 7 (by kernel_rfl)) rfl
            rw [hW.known 7 _ (hnd 7 (by kernel_rfl)) rfl] at h
            exact h
          go_simp
          exact hK _ _ (fun v0 e => by cases e) (hW.wi.lay n9 (by decide) rfl rfl)
        · intro L vs A' u hW hL0 hnd K' hK
          have n10 : L 10 = false := notYet hW.closed (j := 10) (by rfl) (k := 9) (by kernel_rfl) hL0
          have r58 : A'.tmps[58]? = some (.slice A5 j c5) := by
            have h := hW.val 0 58 (by decide) (hnd 0 (by kernel_rfl)) rfl
            rw [hW.known 0 _ (hnd 0 (by kernel_rfl)) rfl] at h
            exact h
          have r66 : A'.tmps[66]? = some (vs 8) := hW.val 8 66 (by decide) (hnd 8 (by kernel_rfl)) rfl
          obtain ⟨H, h5, h6⟩ := hW.wi.arg (hnd 8 (by kernel_rfl))
          rw [h5] at r66
          refine K.step_append_one rfl (.tmp 58) (.tmp 66) rfl w.heap.size (.slice A5 j c5) j (((xs.take j).map (mt wd)).map iv) (by simp [Act.eval, r58]) (owns_only HOw.out (hW.wi.only hL0) (fun _ _ e => e)) H y (by simp [Act.eval, r66]) (h6 hL0) (by omega) ?_ ?_
          · exact Nat.le_trans HW.out.size (hW.wi.only hL0).size
          · intro g cap u' k1 k2 k3
            exact hK _ _ (fun v0 e => by cases e) (hW.wi.app hL0 n10 HW.out HOw.out (Nat.le_refl _) g cap k1 k2 k3 (by decide) rfl rfl)
        · intro L vs A' u hW hL0 hnd K' hK
          have r67 : A'.tmps[67]? = some (vs 9) := hW.val 9 67 (by decide) (hnd 9 (by kernel_rfl)) rfl
          go_simp
          exact hK _ _ (fun v0 e => by cases e) (hW.wi.put rfl rfl (hnd 9 (by kernel_rfl)))
      case doneR =>
        intro L vs u hWI hkn hall
        obtain ⟨⟨g, cap, e9, hg, hrow⟩, hW1, hWr⟩ := hWI.done (hall 9 (by decide))
        have e10 := hWI.same (hall 10 (by decide))
        rw [e9] at e10
        have HF := Lib.hid (And.intro hrow hW1)
        clear hWI hkn hall noOutR hrow hW1 hWr hg
        simp only [putV, List.foldl_cons, List.foldl_nil, e9, e10, List.setIfInBounds_toArray, List.set_cons_zero, List.set_cons_succ]
        clear e9 e10
        go_wp2
        go_roundw
        case rel => exact ⟨j + 1, _, by rw [← Hxl.out]; omega, by go_num, rfl, ⟨_, _, rfl⟩, HAl2.out, by rw [HTk.out]; exact HF.out.1, HF.out.2⟩
        case measure => simp [intOf]; omega
    · obtain rfl : n = j := by omega
      generalize wr = w1 at *
      have hlt2i : ¬ (n : Int) < (n : Int) := by omega
      have hn40n : n ≤ 40 := by omega
      have htk : xs.take n = xs := List.take_of_length_le (by rw [← Hxl.out]; exact Nat.le_refl _)
      have hall : ∀ x ∈ xs, -200 ≤ x ∧ x ≤ 200 := fun x hx => HAl.out x (by rw [htk]; exact hx)
      have hsrc : ISrc w1 (.slice A5 n c5) (xs.map (mt wd)) := by
        have h := HOw.out
        rw [htk] at h
        obtain ⟨A', c', e', hs⟩ := row_src h (by rw [List.length_map, ← Hxl.out]) (fun z hz => by
          obtain ⟨x, hx, rfl⟩ := List.mem_map.1 hz
          have := mt_fits hwd (hall x hx)
          omega) (by omega)
        rw [e']
        exact hs
      have HS := Lib.hid hsrc
      have HAll := Lib.hid hall
      obtain ⟨S, hS⟩ : ∃ S, xs.map (mt wd) = S := ⟨_, rfl⟩
      have HSE := Lib.hid hS
      have hSl : S.length = n := by rw [← hS, List.length_map, Hxl.out]
      have HSl := Lib.hid hSl
      rw [hS] at HS
      have HBe := Lib.hid (bestP_any (w := w1) d A5 n c5 S HS.out (by omega) (HT.out.nix HW.out))
      clear hall hsrc hS hSl htk HOw HAl hp hp0 hwi
      go_wp2_with fail
      refine (HBe.out).mono ?_
      rintro e w2 ⟨o2, hcs⟩
      have HO2 := Lib.hid (HW.out.trans o2)
      have HS2 := Lib.hid (HS.out.nix o2)
      clear o2 HBe
      rcases hcs with ⟨hck, rfl⟩ | ⟨hck, ⟨hnf, rfl⟩ | ⟨hf, hsame, rfl⟩ | ⟨hf, hsame, k, o, m, ro, A1, A2, n1, c1, n2, c2, ps, bs, rfl, hs1, hs2, hpl, hg⟩⟩
      · have hcase : d < 4 ∨ (¬ d < 4 ∧ 33 < d) ∨ (¬ d < 4 ∧ ¬ 33 < d ∧ n = 0) := by
          unfold ckBlk at hck
          split at hck
          · rw [HSl.out] at *
            omega
          · exact absurd rfl hck
        clear hck
        go_wp2_with (refine wpList_store_row rfl 28 (.tmp 9) (.tmp 72) rfl rfl w2.heap.size 28 zC (zC) rfl rfl (Box.new w2 _ _) Tryz.size_plan rfl (spC_one _ _ _ _ _ _ _ _ _ _ _ _ _ _ _ _) ?sa)
        case sa =>
          intro w3 hb3 ho3
          have o23 : Only Nix w2 w3 := ((Only.refl Nix w2).alloc _).then ho3 (fun i e => .inr (by cases e; exact Nat.le_refl _))
          have HO3 := Lib.hid (HO2.out.trans o23)
          have HS3 := Lib.hid (HS2.out.nix o23)
          have HB3 := Lib.hid hb3
          have H23 : Hid (Only Nix w2 w3) := Lib.hid o23
          clear hb3 ho3 o23
          have HSa := Lib.hid (same7 (w := w3) 0 0 0 0 0 0 0 none none none none none none 0 0 0 0 0 0 0 0 0 0 0 0 [] [] [] (K.isrc_nil _) (K.isrc_nil _) (K.isrc_nil _) (K.isrc_nil _) (K.isrc_nil _) (K.isrc_nil _))
          have z0 := HB3.out.cell 0
          have z1 := HB3.out.cell 1
          have z2 := HB3.out.cell 2
          have z3 := HB3.out.cell 3
          have z4 := HB3.out.cell 4
          have z5 := HB3.out.cell 5
          have z6 := HB3.out.cell 6
          have z7 := HB3.out.cell 7
          have z8 := HB3.out.cell 8
          have z9 := HB3.out.cell 9
          simp only [List.getElem?_toArray, List.getElem?_cons_zero, List.getElem?_cons_succ] at z0 z1 z2 z3 z4 z5 z6 z7 z8 z9
          rcases hcase with q1 | ⟨q1, q2⟩ | ⟨q1, q2, q3⟩
          rotate_left 2
          · subst q3
            go_wp2_with fail
            refine (HSa.out).mono ?_
            rintro e w4 ⟨rfl, o4⟩
            have HO4 := Lib.hid (HO3.out.trans o4)
            go_wp2_with fail
            refine (HAw.out _ (HO4.out)).mono ?_
            rintro e wz ⟨rfl, oz⟩
            have HFin := Lib.hid ((HO4.out).trans oz)
            go_wp2
            go_ret
            exact ⟨rfl, HFin.out⟩
          all_goals
            go_wp2_with fail
            refine (HSa.out).mono ?_
            rintro e w4 ⟨rfl, o4⟩
            have HO4 := Lib.hid (HO3.out.trans o4)
            go_wp2_with fail
            refine (HAw.out _ (HO4.out)).mono ?_
            rintro e wz ⟨rfl, oz⟩
            have HFin := Lib.hid ((HO4.out).trans oz)
            go_wp2
            go_ret
            exact ⟨rfl, HFin.out⟩
      · have hD : 4 ≤ d ∧ d ≤ 33 ∧ 1 ≤ n := by
          have h := ckBlk_zero hck
          rw [HSl.out] at h
          omega
        obtain ⟨D0, hD0⟩ := Int.eq_ofNat_of_zero_le (show 0 ≤ d by omega)
        have hD0 : d = (D0 : Int) := hD0
        subst hD0
        have q1 : ¬ (D0 : Int) < 4 := by omega
        have q2 : ¬ 33 < (D0 : Int) := by omega
        have q3 : ((n : Int) == 0) = false := by simp; omega
        have hn1 : 1 ≤ n := by omega
        have hd33 : D0 ≤ 33 := by omega
        have hd4 : 4 ≤ D0 := by omega
        clear hck hD
        rw [Int.toNat_natCast] at hnf
        have Hnf := Lib.hid hnf
        clear hnf
        go_wp2_with (refine wpList_store_row rfl 28 (.tmp 9) (.tmp 72) rfl rfl w2.heap.size 28 zC (zC) rfl rfl (Box.new w2 _ _) Tryz.size_plan rfl (spC_one _ _ _ _ _ _ _ _ _ _ _ _ _ _ _ _) ?sb)
        case sb =>
          intro w3 hb3 ho3
          have o23 : Only Nix w2 w3 := ((Only.refl Nix w2).alloc _).then ho3 (fun i e => .inr (by cases e; exact Nat.le_refl _))
          have HO3 := Lib.hid (HO2.out.trans o23)
          have HS3 := Lib.hid (HS2.out.nix o23)
          have HB3 := Lib.hid hb3
          have H23 : Hid (Only Nix w2 w3) := Lib.hid o23
          clear hb3 ho3 o23
          have HFr := Lib.hid (fitsRef_any (w := w3) D0 (by omega) hd33 A5 n c5 S HS3.out)
          rw [decide_eq_false Hnf.out] at HFr
          go_wp2_with fail
          refine (HFr.out).mono ?_
          rintro e w4 ⟨rfl, o4⟩
          have HO4 := Lib.hid (HO3.out.trans o4)
          have HB4 := Lib.hid (HB3.out.only o4 (fun e => e))
          have HSa := Lib.hid (same7 (w := w4) 0 0 0 0 0 0 0 none none none none none none 0 0 0 0 0 0 0 0 0 0 0 0 [] [] [] (K.isrc_nil _) (K.isrc_nil _) (K.isrc_nil _) (K.isrc_nil _) (K.isrc_nil _) (K.isrc_nil _))
          have z0 := HB4.out.cell 0
          have z1 := HB4.out.cell 1
          have z2 := HB4.out.cell 2
          have z3 := HB4.out.cell 3
          have z4 := HB4.out.cell 4
          have z5 := HB4.out.cell 5
          have z6 := HB4.out.cell 6
          have z7 := HB4.out.cell 7
          have z8 := HB4.out.cell 8
          have z9 := HB4.out.cell 9
          simp only [List.getElem?_toArray, List.getElem?_cons_zero, List.getElem?_cons_succ] at z0 z1 z2 z3 z4 z5 z6 z7 z8 z9
          go_wp2_with fail
          refine (HSa.out).mono ?_
          rintro e w5 ⟨rfl, o5⟩
          have HO5 := Lib.hid (HO4.out.trans o5)
          go_wp2_with fail
          refine (HAw.out _ (HO5.out)).mono ?_
          rintro e wz ⟨rfl, oz⟩
          have HFin := Lib.hid ((HO5.out).trans oz)
          go_wp2
          go_ret
          exact ⟨rfl, HFin.out⟩
      · have hD : 4 ≤ d ∧ d ≤ 33 ∧ 1 ≤ n := by
          have h := ckBlk_zero hck
          rw [HSl.out] at h
          omega
        obtain ⟨D0, hD0⟩ := Int.eq_ofNat_of_zero_le (show 0 ≤ d by omega)
        have hD0 : d = (D0 : Int) := hD0
        subst hD0
        have q1 : ¬ (D0 : Int) < 4 := by omega
        have q2 : ¬ 33 < (D0 : Int) := by omega
        have q3 : ((n : Int) == 0) = false := by simp; omega
        have hn1 : 1 ≤ n := by omega
        have hd33 : D0 ≤ 33 := by omega
        have hd4 : 4 ≤ D0 := by omega
        clear hck hD
        rw [Int.toNat_natCast] at hf
        obtain ⟨W, hW⟩ : ∃ W, nou S = W := ⟨_, rfl⟩
        have hWd : dvA W S ∧ W ≤ 33 := by
          by_cases h0 : ∀ x ∈ S, x = 0
          · refine ⟨fun x hx => by rw [h0 x hx]; simp, ?_⟩
            rw [← hW, nou_zero h0]
            omega
          · obtain ⟨p1, p2, p3⟩ := nou_pos (show 1 ≤ D0 by omega) hd33 hf h0
            rw [hW] at p1 p3
            exact ⟨p1, by omega⟩
        obtain ⟨hdv, hW33⟩ := hWd
        have Hf := Lib.hid hf
        have HWE := Lib.hid hW
        have HDv := Lib.hid hdv
        have Hsame := Lib.hid hsame
        rw [hW]
        clear hf hW hdv hsame
        go_wp2_with (refine wpList_store_row rfl 28 (.tmp 9) (.tmp 72) rfl rfl w2.heap.size 28 zC (spC 0 0 W 0 0 (.slice none 0 0) 0 0 (.slice none 0 0) (.slice none 0 0)) rfl rfl (Box.new w2 _ _) Tryz.size_plan rfl (spC_one _ _ _ _ _ _ _ _ _ _ _ _ _ _ _ _) ?sc)
        case sc =>
          intro w3 hb3 ho3
          have o23 : Only Nix w2 w3 := ((Only.refl Nix w2).alloc _).then ho3 (fun i e => .inr (by cases e; exact Nat.le_refl _))
          have HO3 := Lib.hid (HO2.out.trans o23)
          have HS3 := Lib.hid (HS2.out.nix o23)
          have HB3 := Lib.hid hb3
          have H23 : Hid (Only Nix w2 w3) := Lib.hid o23
          clear hb3 ho3 o23
          have HFr := Lib.hid (fitsRef_any (w := w3) D0 (by omega) hd33 A5 n c5 S HS3.out)
          rw [decide_eq_true Hf.out] at HFr
          go_wp2_with fail
          refine (HFr.out).mono ?_
          rintro e w4 ⟨rfl, o4⟩
          have HO4 := Lib.hid (HO3.out.trans o4)
          have HS4 := Lib.hid (HS3.out.nix o4)
          have H24 := Lib.hid (H23.out.trans o4)
          have HB4 := Lib.hid (HB3.out.only o4 (fun e => e))
          have HWs := Lib.hid (wastedRef_any (w := w4) D0 (by omega) hd33 A5 n c5 S HS4.out (by omega) Hf.out)
          rw [HWE.out] at HWs
          clear o4 HFr
          go_wp2_with fail
          refine (HWs.out).mono ?_
          rintro e w5 ⟨rfl, o5⟩
          have HO5 := Lib.hid (HO4.out.trans o5)
          have H25 := Lib.hid (H24.out.trans o5)
          have HS5 := Lib.hid (HS4.out.nix o5)
          have HB5 := Lib.hid (HB4.out.only o5 (fun e => e))
          have hb25 := HB5.out.lt
          clear o5 HWs
          go_wp2_with (refine wpList_store_row rfl 56 (.tmp 11) (.tmp 111) rfl rfl w5.heap.size 56 zC (spC 1 0 W 0 0 (.slice none 0 0) 0 0 (.slice none 0 0) (.slice none 0 0)) rfl rfl (Box.new w5 _ _) Tryz.size_plan7 rfl (spC_one _ _ _ _ _ _ _ _ _ _ _ _ _ _ _ _) ?tsc)
          case tsc =>
            intro w6 hb6 ho6
            have o56 : Only Nix w5 w6 := ((Only.refl Nix w5).alloc _).then ho6 (fun i e => .inr (by cases e; exact Nat.le_refl _))
            have HO6 := Lib.hid (HO5.out.trans o56)
            have H26 := Lib.hid (H25.out.trans o56)
            have HS6 := Lib.hid (HS5.out.nix o56)
            have HB6 := Lib.hid (HB5.out.only o56 (fun e => e))
            have HW6 := Lib.hid hb6
            have y0 := hb6.cell 0
            have y1 := hb6.cell 1
            have y2 := hb6.cell 2
            have y3 := hb6.cell 3
            have y4 := hb6.cell 4
            have y5 := hb6.cell 5
            have y6 := hb6.cell 6
            have y7 := hb6.cell 7
            have y8 := hb6.cell 8
            have y9 := hb6.cell 9
            simp only [List.getElem?_toArray, List.getElem?_cons_zero, List.getElem?_cons_succ] at y0 y1 y2 y3 y4 y5 y6 y7 y8 y9
            clear hb6 ho6 o56
            have HLe := Lib.hid (less_any (w := w6) W (by omega) A5 n c5 S HS6.out (by omega))
            go_wp2_with fail
            refine (HLe.out).mono ?_
            intro e w7 hls
            obtain ⟨A7, c7, he, hs7⟩ := hls.good HDv.out
            rw [HSl.out] at he hs7
            subst he
            have HO7 := Lib.hid (HO6.out.trans hls.only)
            have H27 := Lib.hid (H26.out.trans hls.only)
            have HB7 := Lib.hid (HB6.out.only hls.only (fun e => e))
            have HW7 := Lib.hid (HW6.out.only hls.only (fun e => e))
            clear y0 y1 y2 y3 y4 y5 y6 y7 y8 y9
            have hyl : (S.map (dvd W)).length = n := by rw [List.length_map, HSl.out]
            obtain ⟨ys, hys⟩ : ∃ ys, S.map (dvd W) = ys := ⟨_, rfl⟩
            rw [hys] at hs7 hyl
            have HYE := Lib.hid hys
            have HY7 := Lib.hid hs7
            have HYl := Lib.hid hyl
            have hsm2 : sameA ys ↔ sameA S := by rw [← hys]; exact same_dvd HDv.out
            have HSm2 := Lib.hid hsm2
            clear hls hs7 hys hyl HLe hsm2
            go_wp2
            go_loopw [14, 15] (fun s14 s15 wr => AlP w7 ys s14 s15 wr) (fun _ s15 _ => n - (intOf s15).toNat)
            case atStart => exact ⟨0, true, Nat.zero_le _, rfl, rfl, by simp, Only.refl _ _⟩
            case round =>
              obtain ⟨j, b, hj, rfl, rfl, hb, hO⟩ := hrel
              rw [HYl.out] at hj
              have HBb := Lib.hid hb
              have HOr := Lib.hid hO
              clear hb hO
              by_cases hlt : j < n
              · have hlty : j < ys.length := by rw [HYl.out]; exact hlt
                have hlt0 : 0 < ys.length := by rw [HYl.out]; omega
                obtain ⟨ad, hA, hxj⟩ := (HY7.out.nix HOr.out).at_ hlty
                subst hA
                obtain ⟨ad', hA, hx0⟩ := (HY7.out.nix HOr.out).at_ hlt0
                injection hA with hA
                subst hA
                rw [Addr.add_zero'] at hx0
                have HG : Hid (ys[0] = ys.getD 0 0) := Lib.hid (K.getD_of hlt0).symm
                have hft := HY7.out.fits _ (List.getElem_mem hlty)
                have hft0 := HY7.out.fits _ (List.getElem_mem hlt0)
                have HE := Lib.hid (List.take_succ_eq_append_getElem hlty)
                have hlti : (j : Int) < (n : Int) := by omega
                have hn0 : 0 < n := by omega
                have hn0i : (0 : Int) < (n : Int) := by omega
                generalize ys[j] = y at *
                generalize ys[0] = y0 at *
                clear hlty hlt0
                cases b with
                | false =>
                  have hb2 : ¬ ∀ z ∈ ys.take (j + 1), z = ys.getD 0 0 := fun h => by
                    have := HBb.out.2 (fun z hz => h z (by rw [HE.out]; exact List.mem_append.2 (.inl hz)))
                    cases this
                  have Hb2 := Lib.hid hb2
                  clear hb2
                  go_wp2_with fail
                  go_quiet (fail)
                  go_wp2
                  go_roundw
                  case rel => exact ⟨j + 1, false, by rw [HYl.out]; omega, by go_num, rfl, ⟨(fun h => by cases h), fun h => absurd h Hb2.out⟩, HOr.out.drewN _⟩
                  case measure => simp [intOf]; omega
                | true =>
                  by_cases hy : y = y0
                  · subst hy
                    have hb2 : ∀ z ∈ ys.take (j + 1), z = ys.getD 0 0 := fun z hz => by
                      rw [HE.out] at hz
                      rcases List.mem_append.1 hz with hz | hz
                      · exact HBb.out.1 rfl z hz
                      · simp at hz; subst hz; exact HG.out
                    have Hb2 := Lib.hid hb2
                    clear hb2
                    go_wp2_with fail
                    go_quiet (fail)
                    go_wp2
                    go_roundw
                    case rel => exact ⟨j + 1, true, by rw [HYl.out]; omega, by go_num, rfl, ⟨fun _ => Hb2.out, fun _ => rfl⟩, HOr.out.drewN _⟩
                    case measure => simp [intOf]; omega
                  · have hyb : (y == y0) = false := by simpa using hy
                    have hb2 : ¬ ∀ z ∈ ys.take (j + 1), z = ys.getD 0 0 := fun h => hy (by rw [HG.out]; exact h y (by rw [HE.out]; simp))
                    have Hb2 := Lib.hid hb2
                    clear hb2 hy
                    go_wp2_with fail
                    go_quiet (fail)
                    go_wp2
                    go_roundw
                    case rel => exact ⟨j + 1, false, by rw [HYl.out]; omega, by go_num, rfl, ⟨(fun h => by cases h), fun h => absurd h Hb2.out⟩, HOr.out.drewN _⟩
                    case measure => simp [intOf]; omega
              · have hlti : ¬ (j : Int) < (n : Int) := by omega
                obtain rfl : n = j := by omega
                have ht : ys.take n = ys := List.take_of_length_le (by rw [HYl.out]; exact Nat.le_refl _)
                rw [ht] at HBb
                have hbs : b = true ↔ sameA S := HBb.out.trans HSm2.out
                have HO8 := Lib.hid (HO7.out.trans HOr.out)
                have HB8 := Lib.hid (HB7.out.only HOr.out (fun e => e))
                have HW8 := Lib.hid (HW7.out.only HOr.out (fun e => e))
                have HY8 := Lib.hid (HY7.out.nix HOr.out)
                have H28 := Lib.hid (H27.out.trans HOr.out)
                clear ht HBb
                generalize wr = w8 at *
                obtain rfl : b = true := hbs.2 Hsame.out
                clear hbs
                obtain ⟨V, hV⟩ : ∃ V, w8.setCell ⟨w5.heap.size, 0, none⟩ (iv 0) = V := ⟨_, rfl⟩
                have oS := (Only.refl (Just w5.heap.size) w8).setCell (p := ⟨w5.heap.size, 0, none⟩) (.inl rfl) (iv 0)
                have HBV := HB8.out.off (p := ⟨w5.heap.size, 0, none⟩) (show w2.heap.size ≠ w5.heap.size by omega) (iv 0)
                have HWV := HW8.out.put 0 (iv 0)
                have f0 := HW8.out.frozen 0
                have x0 := HW8.out.cell 0
                simp only [List.getElem?_toArray, List.getElem?_cons_zero] at x0
                rw [hV] at oS HBV HWV
                have z0 := HBV.cell 0
                have z1 := HBV.cell 1
                have z2 := HBV.cell 2
                have z3 := HBV.cell 3
                have z4 := HBV.cell 4
                have z5 := HBV.cell 5
                have z6 := HBV.cell 6
                have z7 := HBV.cell 7
                have z8 := HBV.cell 8
                have z9 := HBV.cell 9
                simp only [List.getElem?_toArray, List.getElem?_cons_zero, List.getElem?_cons_succ] at z0 z1 z2 z3 z4 z5 z6 z7 z8 z9
                have y2 := HWV.cell 2
                have e2 : (#[iv 1, iv 0, iv W, iv 0, iv 0, (.slice none 0 0), iv 0, iv 0, (.slice none 0 0), (.slice none 0 0)] : Array Value).setIfInBounds 0 (iv 0) = #[iv 0, iv 0, iv W, iv 0, iv 0, (.slice none 0 0), iv 0, iv 0, (.slice none 0 0), (.slice none 0 0)] := rfl
                rw [e2] at y2
                simp only [List.getElem?_toArray, List.getElem?_cons_zero, List.getElem?_cons_succ] at y2
                have HOV : Hid (Only Nix w V) := Lib.hid (HO8.out.then oS (fun i e => .inr (by cases e; have := HO5.out.size; exact this)))
                have HSa := Lib.hid (same7 (w := V) 0 0 W 0 0 0 0 none none none none none none 0 0 0 0 0 0 0 0 0 0 0 0 [] [] [] (K.isrc_nil _) (K.isrc_nil _) (K.isrc_nil _) (K.isrc_nil _) (K.isrc_nil _) (K.isrc_nil _))
                clear oS HBV HWV e2
                go_wp2_with fail
                refine (HSa.out).mono ?_
                rintro e w9 ⟨rfl, o9⟩
                have HO9 := Lib.hid (HOV.out.trans o9)
                clear o9
                go_wp2_with fail
                refine (HAw.out _ (HO9.out)).mono ?_
                rintro e wz ⟨rfl, oz⟩
                have HFin := Lib.hid ((HO9.out).trans oz)
                go_wp2
                go_ret
                exact ⟨rfl, HFin.out⟩
      · have hD : 4 ≤ d ∧ d ≤ 33 ∧ 1 ≤ n := by
          have h := ckBlk_zero hck
          rw [HSl.out] at h
          omega
        obtain ⟨D0, hD0⟩ := Int.eq_ofNat_of_zero_le (show 0 ≤ d by omega)
        have hD0 : d = (D0 : Int) := hD0
        subst hD0
        have q1 : ¬ (D0 : Int) < 4 := by omega
        have q2 : ¬ 33 < (D0 : Int) := by omega
        have q3 : ((n : Int) == 0) = false := by simp; omega
        have hn1 : 1 ≤ n := by omega
        have hd33 : D0 ≤ 33 := by omega
        have hd4 : 4 ≤ D0 := by omega
        clear hck hD
        rw [Int.toNat_natCast] at hf
        obtain ⟨W, hW⟩ : ∃ W, nou S = W := ⟨_, rfl⟩
        have hWd : dvA W S ∧ W ≤ 33 := by
          by_cases h0 : ∀ x ∈ S, x = 0
          · refine ⟨fun x hx => by rw [h0 x hx]; simp, ?_⟩
            rw [← hW, nou_zero h0]
            omega
          · obtain ⟨p1, p2, p3⟩ := nou_pos (show 1 ≤ D0 by omega) hd33 hf h0
            rw [hW] at p1 p3
            exact ⟨p1, by omega⟩
        obtain ⟨hdv, hW33⟩ := hWd
        have Hf := Lib.hid hf
        have HWE := Lib.hid hW
        have HDv := Lib.hid hdv
        have Hsame := Lib.hid hsame
        rw [hW, Int.toNat_natCast, HSl.out] at hpl
        rw [hW]
        have HPL := Lib.hid hpl
        have Hs1 := Lib.hid hs1
        have Hs2 := Lib.hid hs2
        have Hg := Lib.hid hg
        have hWlt : W < D0 := by
          obtain ⟨_, _, p3⟩ := nou_pos (show 1 ≤ D0 by omega) hd33 hf (not_same_zero hsame)
          rw [hW] at p3
          exact p3
        have hWge : wd ≤ W := by
          obtain ⟨_, p2, _⟩ := nou_pos (show 1 ≤ D0 by omega) hd33 hf (not_same_zero hsame)
          rw [hW] at p2
          apply Classical.byContradiction
          intro hlt
          refine p2 (dvA_mono (show W + 1 ≤ wd by omega) (fun z hz => ?_))
          rw [← HSE.out] at hz
          obtain ⟨x, _, rfl⟩ := List.mem_map.1 hz
          exact Int.mul_emod_left _ _
        clear hpl hs1 hs2 hg
        clear hf hW hdv hsame
        go_wp2_with (refine wpList_store_row rfl 28 (.tmp 9) (.tmp 72) rfl rfl w2.heap.size 28 zC (spC k o W 0 0 (.slice none 0 0) m ro (.slice A1 n1 c1) (.slice A2 n2 c2)) rfl rfl (Box.new w2 _ _) Tryz.size_plan rfl (spC_one _ _ _ _ _ _ _ _ _ _ _ _ _ _ _ _) ?sd)
        case sd =>
          intro w3 hb3 ho3
          have o23 : Only Nix w2 w3 := ((Only.refl Nix w2).alloc _).then ho3 (fun i e => .inr (by cases e; exact Nat.le_refl _))
          have HO3 := Lib.hid (HO2.out.trans o23)
          have HS3 := Lib.hid (HS2.out.nix o23)
          have HB3 := Lib.hid hb3
          have H23 : Hid (Only Nix w2 w3) := Lib.hid o23
          clear hb3 ho3 o23
          have HFr := Lib.hid (fitsRef_any (w := w3) D0 (by omega) hd33 A5 n c5 S HS3.out)
          rw [decide_eq_true Hf.out] at HFr
          go_wp2_with fail
          refine (HFr.out).mono ?_
          rintro e w4 ⟨rfl, o4⟩
          have HO4 := Lib.hid (HO3.out.trans o4)
          have HS4 := Lib.hid (HS3.out.nix o4)
          have H24 := Lib.hid (H23.out.trans o4)
          have HB4 := Lib.hid (HB3.out.only o4 (fun e => e))
          have HWs := Lib.hid (wastedRef_any (w := w4) D0 (by omega) hd33 A5 n c5 S HS4.out (by omega) Hf.out)
          rw [HWE.out] at HWs
          clear o4 HFr
          go_wp2_with fail
          refine (HWs.out).mono ?_
          rintro e w5 ⟨rfl, o5⟩
          have HO5 := Lib.hid (HO4.out.trans o5)
          have H25 := Lib.hid (H24.out.trans o5)
          have HS5 := Lib.hid (HS4.out.nix o5)
          have HB5 := Lib.hid (HB4.out.only o5 (fun e => e))
          have hb25 := HB5.out.lt
          clear o5 HWs
          go_wp2_with (refine wpList_store_row rfl 56 (.tmp 11) (.tmp 111) rfl rfl w5.heap.size 56 zC (spC 1 0 W 0 0 (.slice none 0 0) 0 0 (.slice none 0 0) (.slice none 0 0)) rfl rfl (Box.new w5 _ _) Tryz.size_plan7 rfl (spC_one _ _ _ _ _ _ _ _ _ _ _ _ _ _ _ _) ?tsd)
          case tsd =>
            intro w6 hb6 ho6
            have o56 : Only Nix w5 w6 := ((Only.refl Nix w5).alloc _).then ho6 (fun i e => .inr (by cases e; exact Nat.le_refl _))
            have HO6 := Lib.hid (HO5.out.trans o56)
            have H26 := Lib.hid (H25.out.trans o56)
            have HS6 := Lib.hid (HS5.out.nix o56)
            have HB6 := Lib.hid (HB5.out.only o56 (fun e => e))
            have HW6 := Lib.hid hb6
            have y0 := hb6.cell 0
            have y1 := hb6.cell 1
            have y2 := hb6.cell 2
            have y3 := hb6.cell 3
            have y4 := hb6.cell 4
            have y5 := hb6.cell 5
            have y6 := hb6.cell 6
            have y7 := hb6.cell 7
            have y8 := hb6.cell 8
            have y9 := hb6.cell 9
            simp only [List.getElem?_toArray, List.getElem?_cons_zero, List.getElem?_cons_succ] at y0 y1 y2 y3 y4 y5 y6 y7 y8 y9
            clear hb6 ho6 o56
            have HLe := Lib.hid (less_any (w := w6) W (by omega) A5 n c5 S HS6.out (by omega))
            go_wp2_with fail
            refine (HLe.out).mono ?_
            intro e w7 hls
            obtain ⟨A7, c7, he, hs7⟩ := hls.good HDv.out
            rw [HSl.out] at he hs7
            subst he
            have HO7 := Lib.hid (HO6.out.trans hls.only)
            have H27 := Lib.hid (H26.out.trans hls.only)
            have HB7 := Lib.hid (HB6.out.only hls.only (fun e => e))
            have HW7 := Lib.hid (HW6.out.only hls.only (fun e => e))
            clear y0 y1 y2 y3 y4 y5 y6 y7 y8 y9
            have hyl : (S.map (dvd W)).length = n := by rw [List.length_map, HSl.out]
            obtain ⟨ys, hys⟩ : ∃ ys, S.map (dvd W) = ys := ⟨_, rfl⟩
            rw [hys] at hs7 hyl
            have HYE := Lib.hid hys
            have HY7 := Lib.hid hs7
            have HYl := Lib.hid hyl
            have hsm2 : sameA ys ↔ sameA S := by rw [← hys]; exact same_dvd HDv.out
            have HSm2 := Lib.hid hsm2
            clear hls hs7 hys hyl HLe hsm2
            go_wp2
            go_loopw [14, 15] (fun s14 s15 wr => AlP w7 ys s14 s15 wr) (fun _ s15 _ => n - (intOf s15).toNat)
            case atStart => exact ⟨0, true, Nat.zero_le _, rfl, rfl, by simp, Only.refl _ _⟩
            case round =>
              obtain ⟨j, b, hj, rfl, rfl, hb, hO⟩ := hrel
              rw [HYl.out] at hj
              have HBb := Lib.hid hb
              have HOr := Lib.hid hO
              clear hb hO
              by_cases hlt : j < n
              · have hlty : j < ys.length := by rw [HYl.out]; exact hlt
                have hlt0 : 0 < ys.length := by rw [HYl.out]; omega
                obtain ⟨ad, hA, hxj⟩ := (HY7.out.nix HOr.out).at_ hlty
                subst hA
                obtain ⟨ad', hA, hx0⟩ := (HY7.out.nix HOr.out).at_ hlt0
                injection hA with hA
                subst hA
                rw [Addr.add_zero'] at hx0
                have HG : Hid (ys[0] = ys.getD 0 0) := Lib.hid (K.getD_of hlt0).symm
                have hft := HY7.out.fits _ (List.getElem_mem hlty)
                have hft0 := HY7.out.fits _ (List.getElem_mem hlt0)
                have HE := Lib.hid (List.take_succ_eq_append_getElem hlty)
                have hlti : (j : Int) < (n : Int) := by omega
                have hn0 : 0 < n := by omega
                have hn0i : (0 : Int) < (n : Int) := by omega
                generalize ys[j] = y at *
                generalize ys[0] = y0 at *
                clear hlty hlt0
                cases b with
                | false =>
                  have hb2 : ¬ ∀ z ∈ ys.take (j + 1), z = ys.getD 0 0 := fun h => by
                    have := HBb.out.2 (fun z hz => h z (by rw [HE.out]; exact List.mem_append.2 (.inl hz)))
                    cases this
                  have Hb2 := Lib.hid hb2
                  clear hb2
                  go_wp2_with fail
                  go_quiet (fail)
                  go_wp2
                  go_roundw
                  case rel => exact ⟨j + 1, false, by rw [HYl.out]; omega, by go_num, rfl, ⟨(fun h => by cases h), fun h => absurd h Hb2.out⟩, HOr.out.drewN _⟩
                  case measure => simp [intOf]; omega
                | true =>
                  by_cases hy : y = y0
                  · subst hy
                    have hb2 : ∀ z ∈ ys.take (j + 1), z = ys.getD 0 0 := fun z hz => by
                      rw [HE.out] at hz
                      rcases List.mem_append.1 hz with hz | hz
                      · exact HBb.out.1 rfl z hz
                      · simp at hz; subst hz; exact HG.out
                    have Hb2 := Lib.hid hb2
                    clear hb2
                    go_wp2_with fail
                    go_quiet (fail)
                    go_wp2
                    go_roundw
                    case rel => exact ⟨j + 1, true, by rw [HYl.out]; omega, by go_num, rfl, ⟨fun _ => Hb2.out, fun _ => rfl⟩, HOr.out.drewN _⟩
                    case measure => simp [intOf]; omega
                  · have hyb : (y == y0) = false := by simpa using hy
                    have hb2 : ¬ ∀ z ∈ ys.take (j + 1), z = ys.getD 0 0 := fun h => hy (by rw [HG.out]; exact h y (by rw [HE.out]; simp))
                    have Hb2 := Lib.hid hb2
                    clear hb2 hy
                    go_wp2_with fail
                    go_quiet (fail)
                    go_wp2
                    go_roundw
                    case rel => exact ⟨j + 1, false, by rw [HYl.out]; omega, by go_num, rfl, ⟨(fun h => by cases h), fun h => absurd h Hb2.out⟩, HOr.out.drewN _⟩
                    case measure => simp [intOf]; omega
              · have hlti : ¬ (j : Int) < (n : Int) := by omega
                obtain rfl : n = j := by omega
                have ht : ys.take n = ys := List.take_of_length_le (by rw [HYl.out]; exact Nat.le_refl _)
                rw [ht] at HBb
                have hbs : b = true ↔ sameA S := HBb.out.trans HSm2.out
                have HO8 := Lib.hid (HO7.out.trans HOr.out)
                have HB8 := Lib.hid (HB7.out.only HOr.out (fun e => e))
                have HW8 := Lib.hid (HW7.out.only HOr.out (fun e => e))
                have HY8 := Lib.hid (HY7.out.nix HOr.out)
                have H28 := Lib.hid (H27.out.trans HOr.out)
                clear ht HBb
                generalize wr = w8 at *
                obtain rfl : b = false := by
                  cases b with
                  | false => rfl
                  | true => exact absurd (hbs.1 rfl) Hsame.out
                clear hbs
                have hyS : ∀ y ∈ ys, K.isS y ∧ (-200 ≤ y ∧ y ≤ 200) := fun y hy => by
                  have h2 : -200 ≤ y ∧ y ≤ 200 := by
                    rw [← HYE.out] at hy
                    obtain ⟨z, hz, rfl⟩ := List.mem_map.1 hy
                    have e : dvd W z * 2 ^ W = z := by unfold dvd; exact Int.ediv_mul_cancel (Int.dvd_of_emod_eq_zero (HDv.out z hz))
                    rw [← HSE.out] at hz
                    obtain ⟨x, hx, rfl⟩ := List.mem_map.1 hz
                    exact two_hundred hWge (HAll.out x hx) e
                  exact ⟨by unfold K.isS; omega, h2⟩
                obtain ⟨hq4, hqn⟩ := bestV_lt ys (by rw [HYl.out]; exact hn1)
                rw [HYl.out] at hqn
                have HBr := Lib.hid (K.bestRef_any (w := w8) A7 n c7 ys HY8.out (by omega))
                have hrE := K.resE_fx ys (bestV ys) hq4 (by rw [HYl.out]; omega) (fun y hy => (hyS y hy).1)
                have hrl := resV_fx_len hq4 (by rw [HYl.out]; omega) (fun y hy => (hyS y hy).1)
                rw [HYl.out] at hrl
                have hsmall : ∀ r ∈ resV 4 0 (fx (bestV ys)) ys, Sm r := res_small hq4 (by rw [HYl.out]; omega) (fun y hy => (hyS y hy).1) (fun y hy => (hyS y hy).2)
                rw [HYE.out] at HPL
                obtain ⟨q, hq⟩ : ∃ q, bestV ys = q := ⟨_, rfl⟩
                rw [hq] at hq4 hqn HBr hrE hrl hsmall HPL
                obtain ⟨rs, hrs⟩ : ∃ rs, resV 4 0 (fx q) ys = rs := ⟨_, rfl⟩
                rw [hrs] at hrl hsmall HPL
                obtain ⟨p, hp⟩ : ∃ p, n - q = p := ⟨_, rfl⟩
                rw [hp] at hrl
                have HrE := Lib.hid (And.intro hrE hrs)
                have HS := Lib.hid hsmall
                have Hp := Lib.hid hrl
                have hpn : p + q = n := by omega
                have hp1 : 1 ≤ p := by omega
                have hp40 : p ≤ 40 := by omega
                have hq32 : q ≤ 32 := by omega
                clear hyS hrE hrl hsmall hq hrs hp
                go_wp2_with fail
                refine (HBr.out).mono ?_
                rintro e w9 ⟨rfl, o9⟩
                have H29 := Lib.hid (H28.out.trans o9)
                have HO9 := Lib.hid (HO8.out.trans o9)
                have HY9 := Lib.hid (HY8.out.nix o9)
                have HB9 := Lib.hid (HB8.out.only o9 (fun e => e))
                have HW9 := Lib.hid (HW8.out.only o9 (fun e => e))
                have HCo := Lib.hid (coefs_any (w := w9) q hq4)
                clear o9 HBr
                go_wp2_with fail
                refine (HCo.out).mono ?_
                rintro e w10 ⟨A10, n10, c10, rfl, hs10, o10, _⟩
                have H210 := Lib.hid (H29.out.trans o10)
                have HO10 := Lib.hid (HO9.out.trans o10)
                have HY10 := Lib.hid (HY9.out.nix o10)
                have HB10 := Lib.hid (HB9.out.only o10 (fun e => e))
                have HW10 := Lib.hid (HW9.out.only o10 (fun e => e))
                have HRe := Lib.hid (K.residualRef_any (w := w10) 4 0 A10 n10 c10 (fx q) A7 n c7 ys hs10 HY10.out (by omega))
                clear o10 HCo hs10
                go_wp2_with fail
                refine (HRe.out).mono ?_
                rintro e w11 ⟨⟨A11, c11, he, hs11⟩, o11⟩
                rw [HrE.out.1, HrE.out.2, Hp.out] at he
                rw [HrE.out.2, Hp.out] at hs11
                subst he
                have H211 := Lib.hid (H210.out.trans o11)
                have HO11 := Lib.hid (HO10.out.trans o11)
                have HB11 := Lib.hid (HB10.out.only o11 (fun e => e))
                have HW11 := Lib.hid (HW10.out.only o11 (fun e => e))
                have h5lt := HW11.out.lt
                clear o11 HRe
                obtain ⟨ad, rfl, _⟩ := hs11.at_ (k := 0) (by rw [Hp.out]; omega)
                have HRS := Lib.hid hs11
                have oV := (Only.refl Nix w11).alloc (.cells #[iv 0, iv 0, .slice none 0 0, .slice none 0 0] 54)
                have hbV := Box.new w11 54 #[iv 0, iv 0, .slice none 0 0, .slice none 0 0]
                have HB20 := Lib.hid hbV
                have HV0 := Lib.hid oV
                have Hw11 : Hid (w.heap.size ≤ w11.heap.size) := Lib.hid HO11.out.size
                clear hs11 oV hbV
                have hckB : ckB ((rs.length : Int) + (q : Int)) q = 0 := by
                  unfold ckB
                  rw [if_neg (by rw [Hp.out]; omega)]
                have hckP : ckP 0 (rs.length + q) q = 0 := by
                  unfold ckP
                  rw [if_neg]
                  rw [Hp.out]
                  simp
                  omega
                have HcB := Lib.hid hckB
                have HcP := Lib.hid hckP
                clear hckB hckP
                go_wp2
                generalize w11.alloc (.cells #[iv 0, iv 0, .slice none 0 0, .slice none 0 0] 54) = V at *
                have HV := Lib.hid (HO11.out.trans HV0.out)
                have H2V := Lib.hid (H211.out.trans HV0.out)
                have HBV := Lib.hid (HB11.out.only HV0.out (fun e => e))
                have HWV := Lib.hid (HW11.out.only HV0.out (fun e => e))
                have HHo : Hid (∀ (u : World) (m' o' : Nat), m' ≤ 1 → o' ≤ 15 → Calls Tryz.prog 30 #[iv m', iv o', iv n, iv q] u fun e w' => e = .returned (iv (ckP o' (rs.length + q) q)) ∧ u = w') := Lib.hid (fun u m' o' hm ho => by
                  have h := headRef_any u m' o' (n : Int) q
                  rw [show (n : Int) = (rs.length : Int) + (q : Int) by rw [Hp.out]; omega, head_order hm ho HcB.out] at h
                  rw [show (n : Int) = (rs.length : Int) + (q : Int) by rw [Hp.out]; omega]
                  exact h)
                go_loopw [19, 21] (fun s19 s21 wr => BoP V w11.heap.size 4 q (rs.map fd) s19 s21 wr) (fun _ s21 _ => 2 - (intOf s21).toNat)
                case atStart => exact ⟨0, none, by omega, rfl, rfl, HB20.out, Only.refl _ _, fun _ => rfl, (fun e => by omega), (fun e => by omega)⟩
                case round =>
                  obtain ⟨mm, st, hmm, rfl, rfl, hbs, hO, hm0, hm1, hm2⟩ := hrel
                  by_cases hlt : mm < 2
                  · have hlti : (mm : Int) < 2 := by omega
                    have Hst := Lib.hid (And.intro hbs hO)
                    have HM0 := Lib.hid hm0
                    have HM1 := Lib.hid hm1
                    have hmm1 : mm ≤ 1 := by omega
                    clear hbs hO hm0 hm1 hm2
                    obtain ⟨ls0, hls0⟩ : ∃ ls0, lsV q (rs.map fd) st = ls0 := ⟨_, rfl⟩
                    have Hls0 := Lib.hid hls0
                    rw [hls0]
                    clear hls0
                    go_wp2
                    go_loopw [19, 22] (fun s19 s22 wy => BiP V w11.heap.size 4 q mm (rs.map fd) st s19 s22 wy) (fun _ s22 _ => 4 + 1 - (intOf s22).toNat)
                    case atStart =>
                      refine ⟨0, st, Nat.zero_le _, rfl, by rw [Hls0.out], Hst.out.1, Hst.out.2, fun fin h => h, ?_⟩
                      rcases Nat.eq_zero_or_pos mm with h | h
                      · exact .inr ⟨h, rfl⟩
                      · exact .inl (HM1.out (by omega)).2
                    case round =>
                      obtain ⟨oo, cur, hoo, rfl, rfl, hbs, hO, hscan, hsome2⟩ := hrel
                      have HScan := Lib.hid hscan
                      have HSm2 := Lib.hid hsome2
                      have HBS := Lib.hid hbs
                      have HO := Lib.hid hO
                      clear hscan hsome2 hbs hO
                      by_cases hle : oo ≤ 4
                      · have hlei : (oo : Int) ≤ (4 : Int) := by omega
                        have HH := Lib.hid (HHo.out wr mm oo hmm1 (by omega))
                        obtain ⟨lc, hlc⟩ : ∃ lc, lsV q (rs.map fd) cur = lc := ⟨_, rfl⟩
                        have Hlc := Lib.hid hlc
                        rw [hlc]
                        clear hlc
                        by_cases hp : ckP oo (rs.length + q) q = 0
                        · obtain ⟨i1, i2⟩ := ckP_zero hp
                          have HW3 := Lib.hid (HV.out.then (HO.out) (fun i e => by rw [e]; have := Hw11.out; exact .inr (by omega)))
                          have HLe := Lib.hid (leastRef_any (w := wr) mm oo q (2 ^ oo) ((rs.length + q) / 2 ^ oo) ad p c11 rs hmm1 (by omega) hq32 rfl i1 i2 (HRS.out.nix (HV0.out.then HO.out (fun i e => .inr (by rw [e]; exact Nat.le_refl _)))) (by omega) HS.out)
                          rw [hp] at HH
                          have HPz : Hid (ckP oo ((rs.map fd).length + q) q = 0) := Lib.hid (by rw [List.length_map]; exact hp)
                          have hbl := HBS.out.lt
                          clear hp i1 i2
                          go_wp2_with fail
                          refine (HH.out).mono ?_
                          rintro e w3 ⟨rfl, rfl⟩
                          clear HH
                          go_wp2_with fail
                          refine (HLe.out).mono ?_
                          rintro e w4 ⟨cs, v2, v3, rfl, hcs, hr2, hr3, o4⟩
                          obtain ⟨hcl, hcg⟩ := csOk_get hcs
                          have hpos : 0 < cs.length := by rw [hcl]; exact Nat.two_pow_pos oo
                          obtain ⟨g2, k2, rfl, hg2⟩ := row_form hr2 hpos
                          obtain ⟨g3, k3, rfl, hg3⟩ := row_form hr3 hpos
                          have hpl := plS_szZ (m := mm) (s := q) (l := rs) hcl
                          rw [hpl]
                          have hcs' : CsOk mm (((rs.map fd).length + q) / 2 ^ oo) q (rs.map fd) (List.range (2 ^ oo)) cs := by rw [List.length_map]; exact hcs
                          have hip := csOk_isP hcs
                          have hlen100 : cs.length ≤ 100000000 := by
                            rw [hcl]
                            exact Nat.le_trans (Nat.pow_le_pow_right (by decide) (show oo ≤ 15 by omega)) (by decide)
                          have hI2 := isrc_row hr2 (xs := cs.map (·.1)) (by rw [List.map_map]; rfl) (fun x hx => by
                            obtain ⟨c0, hc0, rfl⟩ := List.mem_map.1 hx
                            exact (isP_small hmm1 (hip c0 hc0)).1) hlen100
                          have hI3 := isrc_row hr3 (xs := cs.map (·.2)) (by rw [List.map_map]; rfl) (fun x hx => by
                            obtain ⟨c0, hc0, rfl⟩ := List.mem_map.1 hx
                            exact (isP_small hmm1 (hip c0 hc0)).2) hlen100
                          have HCs := Lib.hid hcs'
                          have HMore : Hid (∀ fin, ScanR mm q 4 (rs.map fd) (oo + 1) (betterP q (rs.map fd) cur (mm, oo, cs)) fin → ScanR mm q 4 (rs.map fd) 0 st fin) := Lib.hid (fun fin h => HScan.out fin (.more oo cur fin cs hle HPz.out hcs' h))
                          have HI2 := Lib.hid hI2
                          have HI3 := Lib.hid hI3
                          have HO4 := Lib.hid (HO.out.trans o4.nix)
                          have HBS4 := Lib.hid (HBS.out.nix o4)
                          obtain ⟨pl, hpl2⟩ : ∃ pl, plS q (rs.map fd) (mm, oo, cs) = pl := ⟨_, rfl⟩
                          have Hpl := Lib.hid hpl2
                          rw [hpl2]
                          obtain ⟨qq, hq⟩ : ∃ qq, cs.length = qq := ⟨_, rfl⟩
                          have Hq := Lib.hid hq
                          rw [hq] at HI2 HI3 ⊢
                          have hb4 := HBS4.out.lt
                          clear hcs hr2 hr3 o4 hcl hcg hpos hpl hcs' hip hlen100 hI2 hI3 HLe hpl2 hq HBS HO
                          by_cases hbt : lc < 0 ∨ (pl : Int) < lc
                          · have hY := better_yes (s := q) (ns := rs.map fd) (st := cur) (x := (mm, oo, cs)) (by rw [Hpl.out, Hlc.out]; exact hbt)
                            rw [hY] at HMore
                            clear hY
                            obtain ⟨x0, x1, x2, x3, hbx⟩ := HBS4.out.box
                            have qc0 := hbx.cell 0
                            have qc1 := hbx.cell 1
                            have qc2 := hbx.cell 2
                            have qc3 := hbx.cell 3
                            simp only [List.getElem?_toArray, List.getElem?_cons_zero, List.getElem?_cons_succ] at qc0 qc1 qc2 qc3
                            have qf0 := hbx.frozen 0
                            have qf1 := hbx.frozen 1
                            have qf2 := hbx.frozen 2
                            have qf3 := hbx.frozen 3
                            have Hbx2 := Lib.hid hbx
                            have HFin : Hid (∀ W5, Box W5 (w11.heap.size) 54 #[x0, x1, x2, x3] → Only (Just (w11.heap.size)) V W5 → ISrc W5 (.slice (some ⟨g2, 0, none⟩) qq k2) (cs.map (·.1)) → ISrc W5 (.slice (some ⟨g3, 0, none⟩) qq k3) (cs.map (·.2)) →
                                BestS ((((W5.setCell ⟨w11.heap.size, 0, none⟩ (iv mm)).setCell ⟨w11.heap.size, 1, none⟩ (iv oo)).setCell ⟨w11.heap.size, 2, none⟩ (.slice (some ⟨g2, 0, none⟩) qq k2)).setCell ⟨w11.heap.size, 3, none⟩ (.slice (some ⟨g3, 0, none⟩) qq k3)) (w11.heap.size) (some (mm, oo, cs)) ∧
                                Only (Just (w11.heap.size)) V ((((W5.setCell ⟨w11.heap.size, 0, none⟩ (iv mm)).setCell ⟨w11.heap.size, 1, none⟩ (iv oo)).setCell ⟨w11.heap.size, 2, none⟩ (.slice (some ⟨g2, 0, none⟩) qq k2)).setCell ⟨w11.heap.size, 3, none⟩ (.slice (some ⟨g3, 0, none⟩) qq k3))) := Lib.hid (fun W5 hb5 ho5 hi2 hi3 => by
                              have hp := (((hb5.put 0 (iv mm)).put 1 (iv oo)).put 2 (.slice (some ⟨g2, 0, none⟩) qq k2)).put 3 (.slice (some ⟨g3, 0, none⟩) qq k3)
                              have oJ : Only (Just (w11.heap.size)) W5 ((((W5.setCell ⟨w11.heap.size, 0, none⟩ (iv mm)).setCell ⟨w11.heap.size, 1, none⟩ (iv oo)).setCell ⟨w11.heap.size, 2, none⟩ (.slice (some ⟨g2, 0, none⟩) qq k2)).setCell ⟨w11.heap.size, 3, none⟩ (.slice (some ⟨g3, 0, none⟩) qq k3)) :=
                                ((((Only.refl (Just (w11.heap.size)) W5).setCell (p := ⟨w11.heap.size, 0, none⟩) (.inl rfl) _).setCell (p := ⟨w11.heap.size, 1, none⟩) (.inl rfl) _).setCell (p := ⟨w11.heap.size, 2, none⟩) (.inl rfl) _).setCell (p := ⟨w11.heap.size, 3, none⟩) (.inl rfl) _
                              have hl : cs.length = qq := Hq.out
                              refine ⟨⟨g2, g3, k2, k3, ?_, ?_, ?_, by omega, by omega⟩, ho5.trans oJ⟩
                              · rw [hl]
                                exact hp
                              · rw [hl]
                                exact hi2.only oJ (fun i _ e a n c ea h0 => by cases e; injection ea with ea _ _; injection ea with ea; rw [← ea]; show g2 ≠ w11.heap.size; omega)
                              · rw [hl]
                                exact hi3.only oJ (fun i _ e a n c ea h0 => by cases e; injection ea with ea _ _; injection ea with ea; rw [← ea]; show g3 ≠ w11.heap.size; omega))
                            clear hbx
                            by_cases h0 : lc < 0
                            · clear hbt
                              go_wp2
                              have hF := HFin.out _ Hbx2.out HO4.out HI2.out HI3.out
                              go_roundw
                              case rel => exact ⟨oo + 1, some (mm, oo, cs), by omega, by go_num, by rw [← Hpl.out]; rfl, hF.1.nix ((Only.refl Nix _).alloc _), hF.2.alloc _, HMore.out, .inl (by simp)⟩
                              case measure => simp [intOf]; omega
                            · have h1 : (pl : Int) < lc := by omega
                              clear hbt
                              go_wp2
                              have hF := HFin.out _ Hbx2.out HO4.out HI2.out HI3.out
                              go_roundw
                              case rel => exact ⟨oo + 1, some (mm, oo, cs), by omega, by go_num, by rw [← Hpl.out]; rfl, hF.1.nix ((Only.refl Nix _).alloc _), hF.2.alloc _, HMore.out, .inl (by simp)⟩
                              case measure => simp [intOf]; omega
                          · have hNn := better_no (s := q) (ns := rs.map fd) (st := cur) (x := (mm, oo, cs)) (by rw [Hpl.out, Hlc.out]; exact hbt)
                            rw [hNn] at HMore
                            have h0 : ¬ lc < 0 := fun h => hbt (.inl h)
                            have h1 : ¬ (pl : Int) < lc := fun h => hbt (.inr h)
                            have Hcur : Hid (cur ≠ none) := Lib.hid (fun e => by rw [e] at Hlc; have : (-1 : Int) = lc := Hlc.out; omega)
                            clear hNn hbt
                            go_wp2
                            go_roundw
                            case rel =>
                              refine ⟨oo + 1, cur, by omega, by go_num, by rw [Hlc.out], ?_, ?_, HMore.out, .inl Hcur.out⟩
                              · exact HBS4.out.nix ((Only.refl Nix _).alloc _)
                              · exact HO4.out.alloc _
                            case measure => simp [intOf]; omega
                        · have hp' : ckP oo ((rs.map fd).length + q) q ≠ 0 := by rw [List.length_map]; exact hp
                          have HP := Lib.hid hp'
                          obtain ⟨h, hh⟩ : ∃ h, ckP oo (rs.length + q) q = h := ⟨_, rfl⟩
                          rw [hh] at HH hp
                          have hne : ¬ h = 0 := hp
                          have Hh0 : Hid (oo = 0 → False) := Lib.hid (fun e => by subst e; exact hp (by rw [← hh]; exact HcP.out))
                          clear hh hp' hp
                          go_wp2_with fail
                          refine (HH.out).mono ?_
                          rintro e w3 ⟨rfl, rfl⟩
                          clear HH
                          go_wp2
                          go_roundw
                          case rel => exact ⟨oo + 1, cur, by omega, by go_num, by rw [Hlc.out], HBS.out, HO.out, fun fin h => HScan.out fin (ScanR.skip HP.out h), .inl (HSm2.out.elim id (fun h => (Hh0.out h.2).elim))⟩
                          case measure => simp [intOf]; omega
                      · have hlei : ¬ (oo : Int) ≤ (4 : Int) := by omega
                        have hcur : cur ≠ none := HSm2.out.elim id (fun h => by omega)
                        have hdone : ScanR mm q 4 (rs.map fd) 0 st cur := HScan.out cur (.over oo cur (by omega))
                        have HD := Lib.hid (And.intro hcur hdone)
                        clear hcur hdone
                        go_wp2
                        go_roundw
                        case rel =>
                          refine ⟨mm + 1, cur, by omega, by go_num, rfl, HBS.out, HO.out, (fun e => by omega), fun e => ?_, fun e => ?_⟩
                          · obtain rfl : mm = 0 := by omega
                            rw [HM0.out rfl] at HD
                            exact ⟨HD.out.2, HD.out.1⟩
                          · obtain rfl : mm = 1 := by omega
                            exact ⟨⟨st, (HM1.out rfl).1, HD.out.2⟩, HD.out.1⟩
                        case measure => simp [intOf]; omega
                  · obtain rfl : mm = 2 := by omega
                    obtain ⟨⟨sa, hsa, hsb⟩, hne⟩ := hm2 rfl
                    obtain ⟨x, rfl⟩ : ∃ x, st = some x := by
                      cases st with
                      | none => exact absurd rfl hne
                      | some x => exact ⟨x, rfl⟩
                    obtain ⟨g2, g3, k2, k3, hbx, hI2, hI3, hg2, hg3⟩ := hbs
                    have hscn : Scn q rs x := ⟨sa, hsa, hsb⟩
                    have huniq : ∀ y, Scn q rs y → y = x := fun y hy => by
                      obtain ⟨sb, h1, h2⟩ := hy
                      obtain rfl := hsa.det _ h1
                      have h3 := hsb.det _ h2
                      injection h3 with h3
                      exact h3.symm
                    have hR : ∀ r ∈ rs, isR r := fun r hr => (HS.out r hr).isR
                    have hval : ValidP q 4 (rs.map fd) x := ScanR.valid hsb (by decide) (ScanR.valid hsa (by decide) (fun y e => by cases e)) x rfl
                    have hfine := hval.fine (by omega) hq32 (by rw [Hp.out]; omega) hR
                    have hplS : szX q rs x = plS q (rs.map fd) x := by
                      unfold szX
                      rw [hfine.sizeN]
                      unfold plS
                      rw [List.length_map]
                    have hbd := block_bound hfine
                    rw [blockB_len hfine, hfine.eq, Hp.out, hpn] at hbd
                    have hbd : szX q rs x ≤ 6 + 4294967400 * n := hbd
                    rw [hplS] at hbd
                    have hlsv : lsV q (rs.map fd) (some x) = ((plS q (rs.map fd) x : Nat) : Int) := rfl
                    rw [hlsv]
                    have hne2 : w2.heap.size ≠ w11.heap.size := by have := H25.out.size; omega
                    have hne5 : w5.heap.size ≠ w11.heap.size := by omega
                    have HBr := Lib.hid (HBV.out.only hO (fun e => hne2 e))
                    have HWr := Lib.hid (HWV.out.only hO (fun e => hne5 e))
                    have HOr := Lib.hid (HV.out.then hO (fun i e => .inr (by rw [e]; exact Hw11.out)))
                    have HL1 := Lib.hid (isrc_ltB Hs1.out)
                    have HL2 := Lib.hid (isrc_ltB Hs2.out)
                    have HP1 := Lib.hid ((Hs1.out.nix H2V.out).only hO (fun i _ hF ad n c e hn => by
                      cases hF
                      injection e with e1 e2
                      have := HL1.out ad e1 (by omega)
                      have := H25.out.size
                      omega))
                    have HP2 := Lib.hid ((Hs2.out.nix H2V.out).only hO (fun i _ hF ad n c e hn => by
                      cases hF
                      injection e with e1 e2
                      have := HL2.out ad e1 (by omega)
                      have := H25.out.size
                      omega))
                    have HI2 := Lib.hid hI2
                    have HI3 := Lib.hid hI3
                    obtain ⟨pl, hplE⟩ : ∃ pl, plS q (rs.map fd) x = pl := ⟨_, rfl⟩
                    rw [hplE] at hplS hbd ⊢
                    obtain ⟨D, hDE⟩ : ∃ D, D0 - W = D := ⟨_, rfl⟩
                    rw [hDE] at HPL
                    have hDi : (D0 : Int) - (W : Int) = (D : Int) := by omega
                    have hD33 : D ≤ 33 := by omega
                    have hqD : (q : Int) * (D : Int) = ((q * D : Nat) : Int) := by rw [Int.natCast_mul]
                    have hqD2 : q * D ≤ 4 * 33 := Nat.mul_le_mul hq4 hD33
                    have hnD : (n : Int) * (D : Int) = ((n * D : Nat) : Int) := by rw [Int.natCast_mul]
                    have hnD2 : n * D ≤ 40 * 33 := Nat.mul_le_mul hn40n hD33
                    have hbd2 : pl ≤ 6 + 4294967400 * 40 := by omega
                    have hPL := HPL.out
                    have HbX := Lib.hid hbx
                    clear hbx hI2 hI3 hval hfine hlsv hplE hsa hsb hne hm0 hm1 hm2 HHo hbd
                    by_cases hlt : pl + q * D < n * D
                    · have hk2 : k = 2 ∧ o = q ∧ m = x.1 ∧ ro = x.2.1 ∧ ps = x.2.2.map (·.1) ∧ bs = x.2.2.map (·.2) := by
                        rcases hPL with ⟨_, _, _, _, _, _, h⟩ | ⟨e1, e2, _, y, hy, e3, e4, e5, e6, _⟩
                        · obtain ⟨y, hy, h2⟩ := h hR
                          rw [huniq y hy, hplS] at h2
                          omega
                        · have := huniq y hy
                          subst this
                          exact ⟨e1, e2, e3, e4, e5, e6⟩
                      obtain ⟨rfl, rfl, rfl, rfl, rfl, rfl⟩ := hk2
                      obtain ⟨QD, hQD⟩ : ∃ QD, q * D = QD := ⟨_, rfl⟩
                      obtain ⟨ND, hND⟩ : ∃ ND, n * D = ND := ⟨_, rfl⟩
                      rw [hQD] at hlt hqD hqD2
                      rw [hND] at hlt hnD hnD2
                      have hlti : (pl : Int) + (QD : Int) < (ND : Int) := by omega
                      have hpl0 : (0 : Int) ≤ (pl : Int) := by omega
                      have y0 := HWr.out.cell 0
                      have y1 := HWr.out.cell 1
                      have y2 := HWr.out.cell 2
                      have y3 := HWr.out.cell 3
                      have y4 := HWr.out.cell 4
                      have y5 := HWr.out.cell 5
                      have y6 := HWr.out.cell 6
                      have y7 := HWr.out.cell 7
                      have y8 := HWr.out.cell 8
                      have y9 := HWr.out.cell 9
                      simp only [List.getElem?_toArray, List.getElem?_cons_zero, List.getElem?_cons_succ] at y0 y1 y2 y3 y4 y5 y6 y7 y8 y9
                      have HxC := HbX.out.cell
                      have x0 := HxC 0
                      have x1 := HxC 1
                      have x2 := HxC 2
                      have x3 := HxC 3
                      simp only [List.getElem?_toArray, List.getElem?_cons_zero, List.getElem?_cons_succ] at x0 x1 x2 x3
                      clear HxC hPL huniq hscn hR hplS hlt hQD hND
                      go_wp2_with (refine wpList_store_row rfl 56 (.tmp 11) (.tmp 218) rfl rfl w5.heap.size 56 (spC 1 0 W 0 0 (.slice none 0 0) 0 0 (.slice none 0 0) (.slice none 0 0)) (spC 2 q W 0 0 (.slice none 0 0) x.1 x.2.1 (.slice (some ⟨g2, 0, none⟩) x.2.2.length k2) (.slice (some ⟨g3, 0, none⟩) x.2.2.length k3)) rfl rfl HWr.out Tryz.size_plan7 rfl (spC_one _ _ _ _ _ _ _ _ _ _ _ _ _ _ _ _) ?va)
                      case va =>
                        intro w13 hb13 ho13
                        have HWe := Lib.hid hb13
                        have HBe := Lib.hid (HBr.out.only ho13 (fun e => by have e : w2.heap.size = w5.heap.size := e; omega))
                        have HOe : Hid (Only Nix w w13) := Lib.hid (HOr.out.then ho13 (fun i e => .inr (by cases e; exact HO5.out.size)))
                        have Hi1 := Lib.hid (HP1.out.only ho13 (fun i _ hF ad n c e hn => by
                          cases hF
                          injection e with e1 e2
                          have := HL1.out ad e1 (by omega)
                          omega))
                        have Hi2 := Lib.hid (HP2.out.only ho13 (fun i _ hF ad n c e hn => by
                          cases hF
                          injection e with e1 e2
                          have := HL2.out ad e1 (by omega)
                          omega))
                        have Hj1 := Lib.hid (HI2.out.only ho13 (fun i _ hF ad n c e hn => by
                          cases hF
                          injection e with e1 e2
                          injection e1 with e1
                          subst e1
                          show g2 ≠ w5.heap.size
                          omega))
                        have Hj2 := Lib.hid (HI3.out.only ho13 (fun i _ hF ad n c e hn => by
                          cases hF
                          injection e with e1 e2
                          injection e1 with e1
                          subst e1
                          show g3 ≠ w5.heap.size
                          omega))
                        clear hb13 ho13 x0 x1 x2 x3
                        clear y0 y1 y2 y3 y4 y5 y6 y7 y8 y9
                        have z0 := HBe.out.cell 0
                        have z1 := HBe.out.cell 1
                        have z2 := HBe.out.cell 2
                        have z3 := HBe.out.cell 3
                        have z4 := HBe.out.cell 4
                        have z5 := HBe.out.cell 5
                        have z6 := HBe.out.cell 6
                        have z7 := HBe.out.cell 7
                        have z8 := HBe.out.cell 8
                        have z9 := HBe.out.cell 9
                        simp only [List.getElem?_toArray, List.getElem?_cons_zero, List.getElem?_cons_succ] at z0 z1 z2 z3 z4 z5 z6 z7 z8 z9
                        have HPn := Lib.hid (plain7_any w13 2 q W 0 0 none 0 0 x.1 x.2.1 A1 A2 n1 c1 n2 c2)
                        go_wp2_with fail
                        refine (HPn.out).mono ?_
                        rintro e w14 ⟨rfl, o14⟩
                        have HO14 := Lib.hid (HOe.out.trans o14)
                        have HW14 := Lib.hid (HWe.out.only o14 (fun e => e))
                        have HI1 := Lib.hid (And.intro (Hi1.out.nix o14) (Hj1.out.nix o14))
                        have HI2 := Lib.hid (And.intro (Hi2.out.nix o14) (Hj2.out.nix o14))
                        clear z0 z1 z2 z3 z4 z5 z6 z7 z8 z9
                        clear o14 HPn
                        go_wp2_with (refine wpList_store_row rfl 56 (.tmp 26) (.tmp 220) rfl rfl w14.heap.size 56 zC (spC 2 q W 0 0 (.slice none 0 0) x.1 x.2.1 (.slice A1 n1 c1) (.slice A2 n2 c2)) rfl rfl (Box.new w14 _ _) Tryz.size_plan7 rfl (spC_one _ _ _ _ _ _ _ _ _ _ _ _ _ _ _ _) ?ua)
                        case ua =>
                          intro w15 hb15 ho15
                          have o45 : Only Nix w14 w15 := ((Only.refl Nix w14).alloc _).then ho15 (fun i e => .inr (by cases e; exact Nat.le_refl _))
                          have HO15 := Lib.hid (HO14.out.trans o45)
                          have HW15 := Lib.hid (HW14.out.only o45 (fun e => e))
                          have HIa := Lib.hid (ints_nix5 (HI1.out.1.nix o45) (HI1.out.2.nix o45))
                          have HIb := Lib.hid (And.intro (HI2.out.1.nix o45) (HI2.out.2.nix o45))
                          have Hb15 := Lib.hid hb15
                          have y0 := hb15.cell 0
                          have y1 := hb15.cell 1
                          have y2 := hb15.cell 2
                          have y3 := hb15.cell 3
                          have y4 := hb15.cell 4
                          have y5 := hb15.cell 5
                          have y6 := hb15.cell 6
                          have y7 := hb15.cell 7
                          have y8 := hb15.cell 8
                          have y9 := hb15.cell 9
                          simp only [List.getElem?_toArray, List.getElem?_cons_zero, List.getElem?_cons_succ] at y0 y1 y2 y3 y4 y5 y6 y7 y8 y9
                          have z0 := HW15.out.cell 0
                          have z1 := HW15.out.cell 1
                          have z2 := HW15.out.cell 2
                          have z3 := HW15.out.cell 3
                          have z4 := HW15.out.cell 4
                          have z5 := HW15.out.cell 5
                          have z6 := HW15.out.cell 6
                          have z7 := HW15.out.cell 7
                          have z8 := HW15.out.cell 8
                          have z9 := HW15.out.cell 9
                          simp only [List.getElem?_toArray, List.getElem?_cons_zero, List.getElem?_cons_succ] at z0 z1 z2 z3 z4 z5 z6 z7 z8 z9
                          clear hb15 ho15 o45
                          go_wp2_with fail
                          refine (HIa.out).mono ?_
                          rintro e w16 ⟨rfl, o16⟩
                          have HO16 := Lib.hid (HO15.out.trans o16)
                          have HW16 := Lib.hid (HW15.out.only o16 (fun e => e))
                          have Hb16 := Lib.hid (Hb15.out.only o16 (fun e => e))
                          have HIc := Lib.hid (ints_nix5 (HIb.out.1.nix o16) (HIb.out.2.nix o16))
                          clear z0 z1 z2 z3 z4 z5 z6 z7 z8 z9
                          clear y0 y1 y2 y3 y4 y5 y6 y7 y8 y9
                          have y0 := Hb16.out.cell 0
                          have y1 := Hb16.out.cell 1
                          have y2 := Hb16.out.cell 2
                          have y3 := Hb16.out.cell 3
                          have y4 := Hb16.out.cell 4
                          have y5 := Hb16.out.cell 5
                          have y6 := Hb16.out.cell 6
                          have y7 := Hb16.out.cell 7
                          have y8 := Hb16.out.cell 8
                          have y9 := Hb16.out.cell 9
                          simp only [List.getElem?_toArray, List.getElem?_cons_zero, List.getElem?_cons_succ] at y0 y1 y2 y3 y4 y5 y6 y7 y8 y9
                          have z0 := HW16.out.cell 0
                          have z1 := HW16.out.cell 1
                          have z2 := HW16.out.cell 2
                          have z3 := HW16.out.cell 3
                          have z4 := HW16.out.cell 4
                          have z5 := HW16.out.cell 5
                          have z6 := HW16.out.cell 6
                          have z7 := HW16.out.cell 7
                          have z8 := HW16.out.cell 8
                          have z9 := HW16.out.cell 9
                          simp only [List.getElem?_toArray, List.getElem?_cons_zero, List.getElem?_cons_succ] at z0 z1 z2 z3 z4 z5 z6 z7 z8 z9
                          clear o16 HIa
                          go_wp2_with fail
                          refine (HIc.out).mono ?_
                          rintro e w17 ⟨rfl, o17⟩
                          have HO17 := Lib.hid (HO16.out.trans o17)
                          clear o17
                          go_wp2_with fail
                          refine (HAw.out _ (HO17.out)).mono ?_
                          rintro e wz ⟨rfl, oz⟩
                          have HFin := Lib.hid ((HO17.out).trans oz)
                          go_wp2
                          go_ret
                          exact ⟨rfl, HFin.out⟩
                    · have hk1 : k = 1 ∧ o = 0 ∧ m = 0 ∧ ro = 0 ∧ ps = [] ∧ bs = [] := by
                        rcases hPL with ⟨e1, e2, e3, e4, e5, e6, _⟩ | ⟨_, _, _, y, hy, _, _, _, _, h2⟩
                        · exact ⟨e1, e2, e3, e4, e5, e6⟩
                        · rw [huniq y hy, hplS] at h2
                          omega
                      obtain ⟨rfl, rfl, rfl, rfl, rfl, rfl⟩ := hk1
                      obtain ⟨QD, hQD⟩ : ∃ QD, q * D = QD := ⟨_, rfl⟩
                      obtain ⟨ND, hND⟩ : ∃ ND, n * D = ND := ⟨_, rfl⟩
                      rw [hQD] at hlt hqD hqD2
                      rw [hND] at hlt hnD hnD2
                      have hlti : ¬ (pl : Int) + (QD : Int) < (ND : Int) := by omega
                      have hpl0 : (0 : Int) ≤ (pl : Int) := by omega
                      have HWe := HWr
                      have HBe := HBr
                      have HOe := HOr
                      have Hi1 := HP1
                      have Hi2 := HP2
                      have Hj1 : Hid (ISrc wr (.slice none 0 0) []) := Lib.hid (K.isrc_nil wr)
                      have Hj2 := Hj1
                      have y0 := HWr.out.cell 0
                      have y1 := HWr.out.cell 1
                      have y2 := HWr.out.cell 2
                      have y3 := HWr.out.cell 3
                      have y4 := HWr.out.cell 4
                      have y5 := HWr.out.cell 5
                      have y6 := HWr.out.cell 6
                      have y7 := HWr.out.cell 7
                      have y8 := HWr.out.cell 8
                      have y9 := HWr.out.cell 9
                      simp only [List.getElem?_toArray, List.getElem?_cons_zero, List.getElem?_cons_succ] at y0 y1 y2 y3 y4 y5 y6 y7 y8 y9
                      clear hPL huniq hscn hR hplS hlt hQD hND
                      generalize wr = w13 at *
                      have z0 := HBe.out.cell 0
                      have z1 := HBe.out.cell 1
                      have z2 := HBe.out.cell 2
                      have z3 := HBe.out.cell 3
                      have z4 := HBe.out.cell 4
                      have z5 := HBe.out.cell 5
                      have z6 := HBe.out.cell 6
                      have z7 := HBe.out.cell 7
                      have z8 := HBe.out.cell 8
                      have z9 := HBe.out.cell 9
                      simp only [List.getElem?_toArray, List.getElem?_cons_zero, List.getElem?_cons_succ] at z0 z1 z2 z3 z4 z5 z6 z7 z8 z9
                      have HPn := Lib.hid (plain7_any w13 1 0 W 0 0 none 0 0 0 0 A1 A2 n1 c1 n2 c2)
                      go_wp2_with fail
                      refine (HPn.out).mono ?_
                      rintro e w14 ⟨rfl, o14⟩
                      have HO14 := Lib.hid (HOe.out.trans o14)
                      have HW14 := Lib.hid (HWe.out.only o14 (fun e => e))
                      have HI1 := Lib.hid (And.intro (Hi1.out.nix o14) (Hj1.out.nix o14))
                      have HI2 := Lib.hid (And.intro (Hi2.out.nix o14) (Hj2.out.nix o14))
                      clear z0 z1 z2 z3 z4 z5 z6 z7 z8 z9
                      clear o14 HPn
                      go_wp2_with (refine wpList_store_row rfl 56 (.tmp 26) (.tmp 220) rfl rfl w14.heap.size 56 zC (spC 1 0 W 0 0 (.slice none 0 0) 0 0 (.slice A1 n1 c1) (.slice A2 n2 c2)) rfl rfl (Box.new w14 _ _) Tryz.size_plan7 rfl (spC_one _ _ _ _ _ _ _ _ _ _ _ _ _ _ _ _) ?ub)
                      case ub =>
                        intro w15 hb15 ho15
                        have o45 : Only Nix w14 w15 := ((Only.refl Nix w14).alloc _).then ho15 (fun i e => .inr (by cases e; exact Nat.le_refl _))
                        have HO15 := Lib.hid (HO14.out.trans o45)
                        have HW15 := Lib.hid (HW14.out.only o45 (fun e => e))
                        have HIa := Lib.hid (ints_nix5 (HI1.out.1.nix o45) (HI1.out.2.nix o45))
                        have HIb := Lib.hid (And.intro (HI2.out.1.nix o45) (HI2.out.2.nix o45))
                        have Hb15 := Lib.hid hb15
                        have y0 := hb15.cell 0
                        have y1 := hb15.cell 1
                        have y2 := hb15.cell 2
                        have y3 := hb15.cell 3
                        have y4 := hb15.cell 4
                        have y5 := hb15.cell 5
                        have y6 := hb15.cell 6
                        have y7 := hb15.cell 7
                        have y8 := hb15.cell 8
                        have y9 := hb15.cell 9
                        simp only [List.getElem?_toArray, List.getElem?_cons_zero, List.getElem?_cons_succ] at y0 y1 y2 y3 y4 y5 y6 y7 y8 y9
                        have z0 := HW15.out.cell 0
                        have z1 := HW15.out.cell 1
                        have z2 := HW15.out.cell 2
                        have z3 := HW15.out.cell 3
                        have z4 := HW15.out.cell 4
                        have z5 := HW15.out.cell 5
                        have z6 := HW15.out.cell 6
                        have z7 := HW15.out.cell 7
                        have z8 := HW15.out.cell 8
                        have z9 := HW15.out.cell 9
                        simp only [List.getElem?_toArray, List.getElem?_cons_zero, List.getElem?_cons_succ] at z0 z1 z2 z3 z4 z5 z6 z7 z8 z9
                        clear hb15 ho15 o45
                        go_wp2_with fail
                        refine (HIa.out).mono ?_
                        rintro e w16 ⟨rfl, o16⟩
                        have HO16 := Lib.hid (HO15.out.trans o16)
                        have HW16 := Lib.hid (HW15.out.only o16 (fun e => e))
                        have Hb16 := Lib.hid (Hb15.out.only o16 (fun e => e))
                        have HIc := Lib.hid (ints_nix5 (HIb.out.1.nix o16) (HIb.out.2.nix o16))
                        clear z0 z1 z2 z3 z4 z5 z6 z7 z8 z9
                        clear y0 y1 y2 y3 y4 y5 y6 y7 y8 y9
                        have y0 := Hb16.out.cell 0
                        have y1 := Hb16.out.cell 1
                        have y2 := Hb16.out.cell 2
                        have y3 := Hb16.out.cell 3
                        have y4 := Hb16.out.cell 4
                        have y5 := Hb16.out.cell 5
                        have y6 := Hb16.out.cell 6
                        have y7 := Hb16.out.cell 7
                        have y8 := Hb16.out.cell 8
                        have y9 := Hb16.out.cell 9
                        simp only [List.getElem?_toArray, List.getElem?_cons_zero, List.getElem?_cons_succ] at y0 y1 y2 y3 y4 y5 y6 y7 y8 y9
                        have z0 := HW16.out.cell 0
                        have z1 := HW16.out.cell 1
                        have z2 := HW16.out.cell 2
                        have z3 := HW16.out.cell 3
                        have z4 := HW16.out.cell 4
                        have z5 := HW16.out.cell 5
                        have z6 := HW16.out.cell 6
                        have z7 := HW16.out.cell 7
                        have z8 := HW16.out.cell 8
                        have z9 := HW16.out.cell 9
                        simp only [List.getElem?_toArray, List.getElem?_cons_zero, List.getElem?_cons_succ] at z0 z1 z2 z3 z4 z5 z6 z7 z8 z9
                        clear o16 HIa
                        go_wp2_with fail
                        refine (HIc.out).mono ?_
                        rintro e w17 ⟨rfl, o17⟩
                        have HO17 := Lib.hid (HO16.out.trans o17)
                        clear o17
                        go_wp2_with fail
                        refine (HAw.out _ (HO17.out)).mono ?_
                        rintro e wz ⟨rfl, oz⟩
                        have HFin := Lib.hid ((HO17.out).trans oz)
                        go_wp2
                        go_ret
                        exact ⟨rfl, HFin.out⟩
end Go.Proofs.YteklfkpeaadinaaGreatDoor.S
