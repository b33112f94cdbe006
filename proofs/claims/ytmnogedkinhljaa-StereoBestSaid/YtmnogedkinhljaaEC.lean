/-
  check: what is wrong with two channels.
-/
import Derived.Test.YtmnogedkinhljaaEB
import Derived.WalkMore
namespace Go.Proofs.Ytmnogedkinhljaa
open Go.RowKit

/-- of the two channels, as many as k have been held against the bounds -/
structure Upto (xs ys : List Int) (k : Nat) : Prop where
  le : k ≤ 2
  one : 1 ≤ k → ∀ x ∈ xs, isN x
  two : 2 ≤ k → ∀ y ∈ ys, isN y
def CkO (w : World) (n m : Nat) (s2 s : Value) (wr : World) : Prop := ∃ k : Nat, k ≤ 2 ∧ s = iv k ∧ s2 = iv 0 ∧ (2 ≤ k → n = m) ∧ w = wr
def CkS (w : World) (xs ys : List Int) (s2 s25 : Value) (wr : World) : Prop := ∃ k : Nat, Upto xs ys k ∧ s25 = iv k ∧ s2 = iv 0 ∧ w = wr
def CkI (w : World) (L : List Int) (s2 s31 : Value) (wr : World) : Prop := ∃ j : Nat, j ≤ L.length ∧ s31 = iv j ∧ s2 = iv 0 ∧ (∀ x ∈ L.take j, isN x) ∧ w = wr
set_option maxHeartbeats 2000000 in
theorem check_any {w : World} {g n c m d : Nat} {A B : Option Addr} {xs ys : List Int} (hg : Box w g 22 #[.slice A n c, .slice B m d]) (hx : ISrc w (.slice A n c) xs) (hy : ISrc w (.slice B m d) ys) :
    Calls Try.prog 20 #[.slice (some ⟨g, 0, none⟩) 2 2] w fun e w' => e = .returned (iv (ckE xs ys)) ∧ w = w' := by
  have hxl := hx.len
  have hyl := hy.len
  have hxs := hx.small
  have hys := hy.small
  have c0 := hg.cell 0
  have c1 := hg.cell 1
  simp only [List.getElem?_toArray, List.getElem?_cons_zero, List.getElem?_cons_succ] at c0 c1
  have HX := Lib.hid hx
  have HY := Lib.hid hy
  have Hxl := Lib.hid hxl
  have Hyl := Lib.hid hyl
  rw [← hxl] at hxs
  rw [← hyl] at hys
  have HE1 : Hid (¬ n = m → ckE xs ys = 1) := Lib.hid (fun h => if_pos (by rw [← Hxl.out, ← Hyl.out]; exact h))
  have HE0 : Hid (n = m → (∀ x ∈ xs, isN x) → (∀ y ∈ ys, isN y) → ckE xs ys = 0) := Lib.hid (fun h h1 h2 => by
    unfold ckE
    rw [if_neg (by rw [← Hxl.out, ← Hyl.out]; exact fun hh => hh h), if_pos ⟨h1, h2⟩])
  have HE10 : Hid (n = m → ¬ ((∀ x ∈ xs, isN x) ∧ (∀ y ∈ ys, isN y)) → ckE xs ys = 10) := Lib.hid (fun h h1 => by
    unfold ckE
    rw [if_neg (by rw [← Hxl.out, ← Hyl.out]; exact fun hh => hh h), if_neg h1])
  clear hxl hyl hx hy hg
  go_enter Try.func20, Try.ntmps20
  go_wp2
  go_step3
  go_wp2
  go_loopw [2, 11] (fun s2 s wr => CkO w n m s2 s wr) (fun _ s _ => 2 - (intOf s).toNat)
  case atStart => exact ⟨0, by omega, rfl, rfl, by omega, rfl⟩
  case round =>
    obtain ⟨k, hk, rfl, rfl, hnm, rfl⟩ := hrel
    have HNM := Lib.hid hnm
    clear hnm
    rcases (show k = 0 ∨ k = 1 ∨ k = 2 by omega) with rfl | rfl | rfl
    · go_wp2
      go_roundw
      case rel => exact ⟨1, by omega, by go_num, rfl, by omega, rfl⟩
      case measure => simp [intOf]
    · by_cases hnm : n = m
      · have HQ := Lib.hid hnm
        have hmi : (m : Int) = (n : Int) := by omega
        clear hnm
        go_wp2
        go_roundw
        case rel => exact ⟨2, by omega, by go_num, rfl, fun _ => HQ.out, rfl⟩
        case measure => simp [intOf]
      · have HQ := Lib.hid (HE1.out hnm)
        have hmi : ¬ (m : Int) = (n : Int) := by omega
        go_wp2
        rw [Exit.noGoto_ret]
        go_ret
        exact ⟨by rw [HQ.out] <;> rfl, rfl⟩
    · have HNM2 := Lib.hid (HNM.out (by omega))
      clear HNM HE1
      go_wp2
      go_step3
      go_wp2
      go_loopw [2, 25] (fun s2 s25 wr => CkS w xs ys s2 s25 wr) (fun _ s25 _ => 2 - (intOf s25).toNat)
      case atStart => exact ⟨0, ⟨by omega, by omega, by omega⟩, rfl, rfl, rfl⟩
      case round =>
        obtain ⟨k, hU, rfl, rfl, rfl⟩ := hrel
        have hk2 := hU.le
        have HU := Lib.hid hU
        clear hU
        by_cases hk : k = 2
        · subst hk
          have HQ := Lib.hid (HE0.out HNM2.out (HU.out.one (by omega)) (HU.out.two (by omega)))
          clear HE0 HE10
          go_wp2
          rw [Exit.noGoto_ret]
          go_ret
          exact ⟨by rw [HQ.out] <;> rfl, rfl⟩
        · have hki : (k : Int) < 2 := by omega
          obtain ⟨Ac, nc, cc, L, hc, hL, hgood, hbad⟩ : ∃ (Ac : Option Addr) (nc cc : Nat) (L : List Int), w.cell? ⟨g, k, none⟩ = some (.slice Ac nc cc) ∧ ISrc w (.slice Ac nc cc) L ∧ ((∀ x ∈ L, isN x) → Upto xs ys (k + 1)) ∧ (¬ (∀ x ∈ L, isN x) → ckE xs ys = 10) := by
            rcases (show k = 0 ∨ k = 1 by omega) with rfl | rfl
            · exact ⟨A, n, c, xs, c0, HX.out, fun h => ⟨by omega, fun _ => h, by omega⟩, fun h => HE10.out HNM2.out (fun h2 => h h2.1)⟩
            · exact ⟨B, m, d, ys, c1, HY.out, fun h => ⟨by omega, HU.out.one (by omega) |> fun h _ => h, fun _ => h⟩, fun h => HE10.out HNM2.out (fun h2 => h h2.2)⟩
          have hll := hL.len
          have hls := hL.small
          rw [← hll] at hls
          have HL := Lib.hid hL
          have Hll := Lib.hid hll
          have HG := Lib.hid hgood
          have HB := Lib.hid hbad
          clear hL hll hgood hbad HE0 HE10
          go_wp2
          go_loopw [2, 31] (fun s2 s31 wr => CkI w L s2 s31 wr) (fun _ s31 _ => nc - (intOf s31).toNat)
          case atStart => exact ⟨0, by omega, rfl, rfl, by simp, rfl⟩
          case round =>
            obtain ⟨j, hj, rfl, rfl, hal, rfl⟩ := hrel
            rw [← Hll.out] at hj
            have HAl := Lib.hid hal
            clear hal
            by_cases hlt : j < nc
            · have hltx : j < L.length := by rw [← Hll.out]; exact hlt
              obtain ⟨ad, rfl, hx⟩ := HL.out.at_ hltx
              have hft := HL.out.fits _ (List.getElem_mem hltx)
              have hlti : (j : Int) < (nc : Int) := by omega
              have HM := Lib.hid (List.getElem_mem hltx)
              have HE := Lib.hid (List.take_succ_eq_append_getElem hltx)
              generalize L[j] = x at *
              clear hltx
              by_cases k1 : x < -1099511627776
              · have HX1 := Lib.hid (HB.out (fun h => by have := (h _ HM.out).1; omega))
                clear HB HG
                go_wp2
                rw [Exit.noGoto_ret]
                go_ret
                exact ⟨by rw [HX1.out] <;> rfl, rfl⟩
              · by_cases k2 : 1099511627776 < x
                · have HX1 := Lib.hid (HB.out (fun h => by have := (h _ HM.out).2; omega))
                  clear HB HG
                  go_wp2
                  go_ret
                  exact ⟨by rw [HX1.out] <;> rfl, rfl⟩
                · go_wp2
                  go_roundw
                  case rel => exact ⟨j + 1, by rw [← Hll.out]; omega, by go_num, rfl, fun y hy => by
                      rw [HE.out] at hy
                      rcases List.mem_append.1 hy with hy | hy
                      · exact HAl.out y hy
                      · simp at hy; subst hy; exact ⟨by omega, by omega⟩, rfl⟩
                  case measure => simp [intOf]; omega
            · have HX1 := Lib.hid (HG.out (fun y hy => HAl.out y (by rw [List.take_of_length_le (by rw [← Hll.out]; omega)]; exact hy)))
              clear HG HB
              go_wp2
              go_roundw
              case rel => exact ⟨k + 1, HX1.out, by go_num, rfl, rfl⟩
              case measure => simp [intOf]; omega
end Go.Proofs.Ytmnogedkinhljaa
