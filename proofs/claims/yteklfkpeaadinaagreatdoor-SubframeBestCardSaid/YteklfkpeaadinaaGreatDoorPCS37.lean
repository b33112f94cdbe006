/-
  How many noughts all samples end with: plain mathematics; the document's answer Wasted.
-/
import Derived.Test.YteklfkpeaadinaaGreatDoorPCS23
import Derived.Test.YteklfkpeaadinaaGreatDoorPCS20
import Derived.Test.YteklfkpeaadinaaGreatDoorPCS3
namespace Go.Proofs.YteklfkpeaadinaaGreatDoor.S
open Go.RowKit Go.Shelf

theorem dvA_mono {a b : Nat} (h : b ≤ a) {xs : List Int} (hd : dvA a xs) : dvA b xs := fun x hx => by
  have h1 := Int.dvd_of_emod_eq_zero (hd x hx)
  have h2 : (2 : Int) ^ b ∣ 2 ^ a := ⟨2 ^ (a - b), by rw [← Int.pow_add]; congr 1; omega⟩
  exact Int.emod_eq_zero_of_dvd (Int.dvd_trans h2 h1)
theorem uni_zeros : ∀ {xs : List Int}, (∀ x ∈ xs, x = 0) → uni xs = 0 := by
  intro xs h
  have key : ∀ (l : List Int), (∀ x ∈ l, x = 0) → l.foldl (fun a x => bits .or .i64 a x) 0 = 0 := by
    intro l
    induction l with
    | nil => intro _; rfl
    | cons x l ih =>
      intro hl
      rw [List.foldl_cons, hl x (by simp)]
      exact ih (fun y hy => hl y (by simp [hy]))
  exact key xs h
theorem nou_zero {xs : List Int} (h : ∀ x ∈ xs, x = 0) : nou xs = 0 := if_pos (uni_zeros h)
theorem dvd_bound {k d : Nat} {x : Int} (hd1 : 1 ≤ d) (hx : x ≠ 0) (h : x % 2 ^ k = 0) (h1 : -((2 : Int) ^ (d - 1)) ≤ x ∧ x < (2 : Int) ^ (d - 1)) : k < d := by
  apply Classical.byContradiction
  intro hk
  obtain ⟨z, rfl⟩ := Int.dvd_of_emod_eq_zero h
  have hz : z ≠ 0 := fun e => hx (by rw [e, Int.mul_zero])
  have hp : (0 : Int) < 2 ^ (d - 1) := Int.pow_pos (by decide)
  have he : (2 : Int) ^ k = 2 ^ (d - 1) * 2 ^ (k - (d - 1)) := by rw [← Int.pow_add]; congr 1; omega
  have h2 : (2 : Int) ^ 1 ≤ 2 ^ (k - (d - 1)) := by
    have : (2 : Nat) ^ 1 ≤ 2 ^ (k - (d - 1)) := Nat.pow_le_pow_right (by decide) (by omega)
    exact_mod_cast this
  have h3 : (2 : Int) ^ (d - 1) * 2 ≤ 2 ^ k := by
    rw [he]
    exact Int.mul_le_mul_of_nonneg_left (by simpa using h2) (Int.le_of_lt hp)
  generalize (2 : Int) ^ k = M at *
  generalize (2 : Int) ^ (d - 1) = P at *
  rcases (by omega : 1 ≤ z ∨ z ≤ -1) with hz1 | hz1
  · have := Int.mul_le_mul_of_nonneg_left hz1 (show 0 ≤ M by omega)
    rw [Int.mul_one] at this
    omega
  · have := Int.mul_le_mul_of_nonneg_left hz1 (show 0 ≤ M by omega)
    rw [Int.mul_neg, Int.mul_one] at this
    omega
theorem nou_pos {d : Nat} {xs : List Int} (hd1 : 1 ≤ d) (hd : d ≤ 33) (hf : fitsD d xs) (h : ¬ ∀ x ∈ xs, x = 0) : dvA (nou xs) xs ∧ ¬ dvA (nou xs + 1) xs ∧ nou xs < d := by
  obtain ⟨x, hx, hx0⟩ : ∃ x, x ∈ xs ∧ x ≠ 0 := by
    apply Classical.byContradiction
    intro hn
    exact h (fun x hx => Classical.byContradiction fun hx0 => hn ⟨x, hx, hx0⟩)
  have hU : (b64 (uni xs)).toNat ≠ 0 := fun e => by
    have h1 : dvA 64 xs := (uni_b64 xs 64 (by decide)).1 (by rw [e])
    have := dvd_bound hd1 hx0 (h1 x hx) (hf x hx)
    omega
  have hu : uni xs ≠ 0 := fun e => hU (by rw [e]; rfl)
  have hn : nou xs = Lib.ctz 64 (b64 (uni xs)).toNat := if_neg hu
  have hc : Lib.ctz 64 (b64 (uni xs)).toNat = Lib.ctzFrom 64 (b64 (uni xs)).toNat := if_neg hU
  obtain ⟨m, hm, hk⟩ := Lib.ctzFrom_spec 64 (b64 (uni xs)).toNat (by omega) (b64 (uni xs)).isLt
  rw [hn, hc]
  obtain ⟨k, hkE⟩ : ∃ k, Lib.ctzFrom 64 (b64 (uni xs)).toNat = k := ⟨_, rfl⟩
  rw [hkE] at hm hk ⊢
  have h1 : dvA k xs := (uni_b64 xs k (by omega)).1 (by rw [hm, Nat.mul_mod_right])
  refine ⟨h1, fun h2 => ?_, dvd_bound hd1 hx0 (h1 x hx) (hf x hx)⟩
  have h3 := (uni_b64 xs (k + 1) (by omega)).2 h2
  rw [hm, Nat.pow_succ, Nat.mul_mod_mul_left] at h3
  have hp := Nat.two_pow_pos k
  have h4 : (2 * m + 1) % 2 = 1 := by omega
  rw [h4] at h3
  omega
theorem nou_is {d k : Nat} {xs : List Int} (hd1 : 1 ≤ d) (hd : d ≤ 33) (hf : fitsD d xs) (h : ¬ ∀ x ∈ xs, x = 0) (h1 : dvA k xs) (h2 : ¬ dvA (k + 1) xs) : nou xs = k := by
  obtain ⟨p1, p2, _⟩ := nou_pos hd1 hd hf h
  rcases Nat.lt_trichotomy (nou xs) k with hlt | he | hgt
  · exact absurd (dvA_mono (show nou xs + 1 ≤ k by omega) h1) p2
  · exact he
  · exact absurd (dvA_mono (show k + 1 ≤ nou xs by omega) p1) h2
theorem dvd_ne {k : Nat} {x : Int} (h : x % 2 ^ k = 0) (hx : x ≠ 0) : dvd k x ≠ 0 := fun e => hx (by
  have h1 : dvd k x * 2 ^ k = x := by unfold dvd; exact Int.ediv_mul_cancel (Int.dvd_of_emod_eq_zero h)
  rw [e, Int.zero_mul] at h1
  exact h1.symm)
def WaP (w : World) (xs : List Int) (s3 : Value) (wr : World) : Prop := ∃ k : Nat, k ≤ 33 ∧ s3 = iv k ∧ dvA k xs ∧ (k = 0 ∨ ¬ ∀ x ∈ xs, x = 0) ∧ Only Nix w wr
def WiP (W : World) (ys : List Int) (s6 s7 : Value) (wr : World) : Prop := ∃ (j : Nat) (b : Bool), j ≤ ys.length ∧ s7 = iv j ∧ s6 = .bool b ∧ (b = true ↔ ¬ ∀ y ∈ ys.take j, y = 0) ∧ W = wr
set_option maxRecDepth 100000 in
set_option maxHeartbeats 4000000 in
theorem wastedRef_any {w : World} (d : Nat) (hd1 : 1 ≤ d) (hd : d ≤ 33) (A : Option Addr) (n c : Nat) (xs : List Int) (hx : ISrc w (.slice A n c) xs) (hn : n ≤ 1000) (hf : fitsD d xs) :
    Calls Tryz.prog 25 #[.slice A n c] w fun e w' => e = .returned (iv (nou xs)) ∧ Only Nix w w' := by
  have hxl := hx.len
  have HX := Lib.hid hx
  have Hxl := Lib.hid hxl
  have HF := Lib.hid hf
  clear hx hxl hf
  go_enter Tryz.func25, Tryz.ntmps25
  go_wp2
  go_loopw [3] (fun s3 wr => WaP w xs s3 wr) (fun s3 _ => 33 - (intOf s3).toNat)
  case atStart => exact ⟨0, by omega, rfl, fun x _ => by simp, .inl rfl, Only.refl _ _⟩
  case round =>
    obtain ⟨k, hk, rfl, hdk, hz, hO⟩ := hrel
    have HDk := Lib.hid hdk
    have HZ := Lib.hid hz
    have HO := Lib.hid hO
    clear hdk hz hO
    by_cases hlt : k < 33
    · have hlti : (k : Int) < 33 := by omega
      obtain ⟨q, hq⟩ : ∃ q, k + 1 = q := ⟨_, rfl⟩
      have hk1 : (k : Int) + 1 = (q : Int) := by omega
      have hq33 : q ≤ 33 := by omega
      have Hq := Lib.hid hq
      clear hq
      have HLe := Lib.hid (less_any (w := wr) q (by omega) A n c xs (HX.out.nix HO.out) hn)
      go_wp2_with fail
      refine (HLe.out).mono ?_
      intro e w1 hls
      have HO1 := Lib.hid (HO.out.trans hls.only)
      clear HLe
      by_cases hd2 : dvA q xs
      · obtain ⟨A1, c1, rfl, hs1⟩ := hls.good hd2
        have HS1 := Lib.hid hs1
        have HD2 := Lib.hid hd2
        have hyl : (xs.map (dvd q)).length = xs.length := List.length_map ..
        obtain ⟨ys, hys⟩ : ∃ ys, xs.map (dvd q) = ys := ⟨_, rfl⟩
        have Hys := Lib.hid hys
        rw [hys, ← Hxl.out] at hyl
        rw [hys] at HS1
        rw [← Hxl.out] at HS1 ⊢
        have Hyl := Lib.hid hyl
        clear hls hs1 hd2 hys hyl
        go_wp2
        go_loopw [6, 7] (fun s6 s7 wx => WiP w1 ys s6 s7 wx) (fun _ s7 _ => n - (intOf s7).toNat)
        case atStart => exact ⟨0, false, Nat.zero_le _, rfl, rfl, by simp, rfl⟩
        case round =>
          obtain ⟨j, b, hj, rfl, rfl, hb, rfl⟩ := hrel
          rw [Hyl.out] at hj
          have HBb := Lib.hid hb
          clear hb
          by_cases hltj : j < n
          · have hlty : j < ys.length := by rw [Hyl.out]; exact hltj
            obtain ⟨ad, rfl, hxj⟩ := HS1.out.at_ hlty
            have hft := HS1.out.fits _ (List.getElem_mem hlty)
            have hltji : (j : Int) < (n : Int) := by omega
            have HE := Lib.hid (List.take_succ_eq_append_getElem hlty)
            generalize ys[j] = y at *
            clear hlty
            cases b with
            | true =>
              go_wp2
              go_roundw
              case rel =>
                refine ⟨j + 1, true, by rw [Hyl.out]; omega, by go_num, rfl, ⟨fun _ h => ?_, fun _ => rfl⟩, rfl⟩
                exact (HBb.out.1 rfl) (fun z hz => h z (by rw [HE.out]; exact List.mem_append.2 (.inl hz)))
              case measure => simp [intOf]; omega
            | false =>
              have h0 : ∀ z ∈ ys.take j, z = 0 := Classical.byContradiction fun h => by have := HBb.out.2 h; cases this
              have H0 := Lib.hid h0
              clear h0
              by_cases hy0 : y = 0
              · subst hy0
                go_wp2
                go_roundw
                case rel =>
                  refine ⟨j + 1, false, by rw [Hyl.out]; omega, by go_num, rfl, ⟨(fun h => by cases h), fun h => (h (fun z hz => ?_)).elim⟩, rfl⟩
                  rw [HE.out] at hz
                  rcases List.mem_append.1 hz with hz | hz
                  · exact H0.out z hz
                  · simpa using hz
                case measure => simp [intOf]; omega
              · have hy1 : (y != 0) = true := by simpa using hy0
                have HY0 := Lib.hid hy0
                clear hy0
                go_wp2
                go_roundw
                case rel =>
                  refine ⟨j + 1, true, by rw [Hyl.out]; omega, by go_num, rfl, ⟨fun _ h => ?_, fun _ => rfl⟩, rfl⟩
                  exact HY0.out (h y (by rw [HE.out]; simp))
                case measure => simp [intOf]; omega
          · have hltji : ¬ (j : Int) < (n : Int) := by omega
            obtain rfl : j = n := by omega
            have ht : ys.take j = ys := List.take_of_length_le (by rw [Hyl.out]; exact Nat.le_refl _)
            rw [ht] at HBb
            have hall : (∀ y ∈ ys, y = 0) ↔ ∀ x ∈ xs, x = 0 := by
              rw [← Hys.out]
              constructor
              · intro h x hx
                apply Classical.byContradiction
                intro hx0
                exact dvd_ne (HD2.out x hx) hx0 (h _ (List.mem_map.2 ⟨x, hx, rfl⟩))
              · intro h y hy
                obtain ⟨x, hx, rfl⟩ := List.mem_map.1 hy
                rw [h x hx]
                simp [dvd]
            have HAll := Lib.hid hall
            clear ht hall
            cases b with
            | true =>
              have hn0 : ¬ ∀ x ∈ xs, x = 0 := fun h => (HBb.out.1 rfl) (HAll.out.2 h)
              have HN0 := Lib.hid hn0
              clear hn0
              go_wp2
              go_roundw
              case rel => exact ⟨q, by omega, by go_num, HD2.out, .inr HN0.out, HO1.out⟩
              case measure => simp [intOf]; omega
            | false =>
              have h0 : ∀ x ∈ xs, x = 0 := HAll.out.1 (Classical.byContradiction fun h => by have := HBb.out.2 h; cases this)
              have H0 := Lib.hid (nou_zero h0)
              clear h0
              go_wp2
              go_ret
              exact ⟨by rw [H0.out] <;> rfl, HO1.out⟩
      · have he := hls.bad hd2
        subst he
        have hn0 : ¬ ∀ x ∈ xs, x = 0 := fun h => hd2 (fun x hx => by rw [h x hx]; simp)
        have HE := Lib.hid (nou_is hd1 hd HF.out hn0 HDk.out (by rw [Hq.out]; exact hd2))
        clear hls hd2 hn0
        go_wp2
        go_ret
        exact ⟨by rw [HE.out] <;> rfl, HO1.out⟩
    · have hlti : ¬ (k : Int) < 33 := by omega
      exfalso
      obtain rfl : k = 33 := by omega
      have hn0 : ¬ ∀ x ∈ xs, x = 0 := HZ.out.elim (fun h => by omega) id
      obtain ⟨_, p2, p3⟩ := nou_pos hd1 hd HF.out hn0
      exact p2 (dvA_mono (by omega) HDk.out)
end Go.Proofs.YteklfkpeaadinaaGreatDoor.S
