/-
  The document's answer: what is wrong with a mode and two channels.
-/
import Derived.Test.YtmnogedkinhljaaED
namespace Go.Proofs.Ytmnogedkinhljaa
open Go.RowKit

def WrL (w : World) (n : Nat) (xs ys : List Int) (s7 : Value) (wr : World) : Prop := ∃ j : Nat, j ≤ n ∧ s7 = iv j ∧ (∀ x ∈ xs.take j, isN x) ∧ (∀ y ∈ ys.take j, isN y) ∧ w = wr
set_option maxHeartbeats 4000000 in
theorem wrong_any {w : World} (m : Int) {n c k d : Nat} {A B : Option Addr} {xs ys : List Int} (hx : ISrc w (.slice A n c) xs) (hy : ISrc w (.slice B k d) ys) :
    Calls Try.prog 9 #[iv m, .slice A n c, .slice B k d] w fun e w' => e = .returned (iv (wrE m xs ys)) ∧ w = w' := by
  have hxl := hx.len
  have hyl := hy.len
  have hxs := hx.small
  have hys := hy.small
  have HX := Lib.hid hx
  have HY := Lib.hid hy
  have Hxl := Lib.hid hxl
  have Hyl := Lib.hid hyl
  rw [← hxl] at hxs
  rw [← hyl] at hys
  clear hxl hyl hx hy
  by_cases hm : isM m
  · have HM0 : Hid (wrE m xs ys = ckE xs ys) := Lib.hid (if_pos hm)
    rw [HM0.out]
    have HE1 : Hid (¬ n = k → ckE xs ys = 1) := Lib.hid (fun h => if_pos (by rw [← Hxl.out, ← Hyl.out]; exact h))
    have HE0 : Hid (n = k → (∀ x ∈ xs, isN x) → (∀ y ∈ ys, isN y) → ckE xs ys = 0) := Lib.hid (fun h h1 h2 => by
      unfold ckE
      rw [if_neg (by rw [← Hxl.out, ← Hyl.out]; exact fun hh => hh h), if_pos ⟨h1, h2⟩])
    have HE10 : Hid (n = k → ¬ ((∀ x ∈ xs, isN x) ∧ (∀ y ∈ ys, isN y)) → ckE xs ys = 10) := Lib.hid (fun h h1 => by
      unfold ckE
      rw [if_neg (by rw [← Hxl.out, ← Hyl.out]; exact fun hh => hh h), if_neg h1])
    obtain ⟨E, hE⟩ : ∃ E, ckE xs ys = E := ⟨_, rfl⟩
    rw [hE] at HE0 HE1 HE10
    rw [hE]
    clear HM0 hE
    by_cases hnk : n = k
    · subst hnk
      replace HE0 := Lib.hid (HE0.out rfl)
      replace HE10 := Lib.hid (HE10.out rfl)
      rcases hm with rfl | rfl | rfl | rfl
      · go_enter Try.func9, Try.ntmps9
        go_wp2
        go_loopw [7] (fun s7 wr => WrL w n xs ys s7 wr) (fun s7 _ => n - (intOf s7).toNat)
        case atStart => exact ⟨0, Nat.zero_le _, rfl, by simp, by simp, rfl⟩
        case round =>
          obtain ⟨j, hj, rfl, halx, haly, rfl⟩ := hrel
          have HAX := Lib.hid halx
          have HAY := Lib.hid haly
          clear halx haly
          by_cases hlt : j < n
          · have hltx : j < xs.length := by rw [← Hxl.out]; exact hlt
            have hlty : j < ys.length := by rw [← Hyl.out]; exact hlt
            obtain ⟨ad, rfl, hx⟩ := HX.out.at_ hltx
            obtain ⟨bd, rfl, hy⟩ := HY.out.at_ hlty
            have hlti : (j : Int) < (n : Int) := by omega
            have HMX := Lib.hid (List.getElem_mem hltx)
            have HMY := Lib.hid (List.getElem_mem hlty)
            have HTX := Lib.hid (List.take_succ_eq_append_getElem hltx)
            have HTY := Lib.hid (List.take_succ_eq_append_getElem hlty)
            generalize xs[j] = x at *
            generalize ys[j] = y at *
            clear hltx hlty
            by_cases k1 : x < -1099511627776
            · have HQ := Lib.hid (HE10.out (fun h => by have := (h.1 _ HMX.out).1; omega))
              clear HE0 HE1 HE10
              go_wp2
              go_ret
              exact ⟨by rw [HQ.out] <;> rfl, rfl⟩
            · by_cases k2 : 1099511627776 < x
              · have HQ := Lib.hid (HE10.out (fun h => by have := (h.1 _ HMX.out).2; omega))
                clear HE0 HE1 HE10
                go_wp2
                go_ret
                exact ⟨by rw [HQ.out] <;> rfl, rfl⟩
              · by_cases k3 : y < -1099511627776
                · have HQ := Lib.hid (HE10.out (fun h => by have := (h.2 _ HMY.out).1; omega))
                  clear HE0 HE1 HE10
                  go_wp2
                  go_ret
                  exact ⟨by rw [HQ.out] <;> rfl, rfl⟩
                · by_cases k4 : 1099511627776 < y
                  · have HQ := Lib.hid (HE10.out (fun h => by have := (h.2 _ HMY.out).2; omega))
                    clear HE0 HE1 HE10
                    go_wp2
                    go_ret
                    exact ⟨by rw [HQ.out] <;> rfl, rfl⟩
                  · go_wp2
                    go_roundw
                    case rel => exact ⟨j + 1, hlt, by go_num, fun z hz => by
                        rw [HTX.out] at hz
                        rcases List.mem_append.1 hz with hz | hz
                        · exact HAX.out z hz
                        · simp at hz; subst hz; exact ⟨by omega, by omega⟩, fun z hz => by
                        rw [HTY.out] at hz
                        rcases List.mem_append.1 hz with hz | hz
                        · exact HAY.out z hz
                        · simp at hz; subst hz; exact ⟨by omega, by omega⟩, rfl⟩
                    case measure => simp [intOf]; omega
          · have HQ := Lib.hid (HE0.out (fun z hz => HAX.out z (by rw [List.take_of_length_le (by rw [← Hxl.out]; omega)]; exact hz)) (fun z hz => HAY.out z (by rw [List.take_of_length_le (by rw [← Hyl.out]; omega)]; exact hz)))
            clear HE0 HE1 HE10
            go_wp2
            go_ret
            exact ⟨by rw [HQ.out] <;> rfl, rfl⟩
      · go_enter Try.func9, Try.ntmps9
        go_wp2
        go_loopw [7] (fun s7 wr => WrL w n xs ys s7 wr) (fun s7 _ => n - (intOf s7).toNat)
        case atStart => exact ⟨0, Nat.zero_le _, rfl, by simp, by simp, rfl⟩
        case round =>
          obtain ⟨j, hj, rfl, halx, haly, rfl⟩ := hrel
          have HAX := Lib.hid halx
          have HAY := Lib.hid haly
          clear halx haly
          by_cases hlt : j < n
          · have hltx : j < xs.length := by rw [← Hxl.out]; exact hlt
            have hlty : j < ys.length := by rw [← Hyl.out]; exact hlt
            obtain ⟨ad, rfl, hx⟩ := HX.out.at_ hltx
            obtain ⟨bd, rfl, hy⟩ := HY.out.at_ hlty
            have hlti : (j : Int) < (n : Int) := by omega
            have HMX := Lib.hid (List.getElem_mem hltx)
            have HMY := Lib.hid (List.getElem_mem hlty)
            have HTX := Lib.hid (List.take_succ_eq_append_getElem hltx)
            have HTY := Lib.hid (List.take_succ_eq_append_getElem hlty)
            generalize xs[j] = x at *
            generalize ys[j] = y at *
            clear hltx hlty
            by_cases k1 : x < -1099511627776
            · have HQ := Lib.hid (HE10.out (fun h => by have := (h.1 _ HMX.out).1; omega))
              clear HE0 HE1 HE10
              go_wp2
              go_ret
              exact ⟨by rw [HQ.out] <;> rfl, rfl⟩
            · by_cases k2 : 1099511627776 < x
              · have HQ := Lib.hid (HE10.out (fun h => by have := (h.1 _ HMX.out).2; omega))
                clear HE0 HE1 HE10
                go_wp2
                go_ret
                exact ⟨by rw [HQ.out] <;> rfl, rfl⟩
              · by_cases k3 : y < -1099511627776
                · have HQ := Lib.hid (HE10.out (fun h => by have := (h.2 _ HMY.out).1; omega))
                  clear HE0 HE1 HE10
                  go_wp2
                  go_ret
                  exact ⟨by rw [HQ.out] <;> rfl, rfl⟩
                · by_cases k4 : 1099511627776 < y
                  · have HQ := Lib.hid (HE10.out (fun h => by have := (h.2 _ HMY.out).2; omega))
                    clear HE0 HE1 HE10
                    go_wp2
                    go_ret
                    exact ⟨by rw [HQ.out] <;> rfl, rfl⟩
                  · go_wp2
                    go_roundw
                    case rel => exact ⟨j + 1, hlt, by go_num, fun z hz => by
                        rw [HTX.out] at hz
                        rcases List.mem_append.1 hz with hz | hz
                        · exact HAX.out z hz
                        · simp at hz; subst hz; exact ⟨by omega, by omega⟩, fun z hz => by
                        rw [HTY.out] at hz
                        rcases List.mem_append.1 hz with hz | hz
                        · exact HAY.out z hz
                        · simp at hz; subst hz; exact ⟨by omega, by omega⟩, rfl⟩
                    case measure => simp [intOf]; omega
          · have HQ := Lib.hid (HE0.out (fun z hz => HAX.out z (by rw [List.take_of_length_le (by rw [← Hxl.out]; omega)]; exact hz)) (fun z hz => HAY.out z (by rw [List.take_of_length_le (by rw [← Hyl.out]; omega)]; exact hz)))
            clear HE0 HE1 HE10
            go_wp2
            go_ret
            exact ⟨by rw [HQ.out] <;> rfl, rfl⟩
      · go_enter Try.func9, Try.ntmps9
        go_wp2
        go_loopw [7] (fun s7 wr => WrL w n xs ys s7 wr) (fun s7 _ => n - (intOf s7).toNat)
        case atStart => exact ⟨0, Nat.zero_le _, rfl, by simp, by simp, rfl⟩
        case round =>
          obtain ⟨j, hj, rfl, halx, haly, rfl⟩ := hrel
          have HAX := Lib.hid halx
          have HAY := Lib.hid haly
          clear halx haly
          by_cases hlt : j < n
          · have hltx : j < xs.length := by rw [← Hxl.out]; exact hlt
            have hlty : j < ys.length := by rw [← Hyl.out]; exact hlt
            obtain ⟨ad, rfl, hx⟩ := HX.out.at_ hltx
            obtain ⟨bd, rfl, hy⟩ := HY.out.at_ hlty
            have hlti : (j : Int) < (n : Int) := by omega
            have HMX := Lib.hid (List.getElem_mem hltx)
            have HMY := Lib.hid (List.getElem_mem hlty)
            have HTX := Lib.hid (List.take_succ_eq_append_getElem hltx)
            have HTY := Lib.hid (List.take_succ_eq_append_getElem hlty)
            generalize xs[j] = x at *
            generalize ys[j] = y at *
            clear hltx hlty
            by_cases k1 : x < -1099511627776
            · have HQ := Lib.hid (HE10.out (fun h => by have := (h.1 _ HMX.out).1; omega))
              clear HE0 HE1 HE10
              go_wp2
              go_ret
              exact ⟨by rw [HQ.out] <;> rfl, rfl⟩
            · by_cases k2 : 1099511627776 < x
              · have HQ := Lib.hid (HE10.out (fun h => by have := (h.1 _ HMX.out).2; omega))
                clear HE0 HE1 HE10
                go_wp2
                go_ret
                exact ⟨by rw [HQ.out] <;> rfl, rfl⟩
              · by_cases k3 : y < -1099511627776
                · have HQ := Lib.hid (HE10.out (fun h => by have := (h.2 _ HMY.out).1; omega))
                  clear HE0 HE1 HE10
                  go_wp2
                  go_ret
                  exact ⟨by rw [HQ.out] <;> rfl, rfl⟩
                · by_cases k4 : 1099511627776 < y
                  · have HQ := Lib.hid (HE10.out (fun h => by have := (h.2 _ HMY.out).2; omega))
                    clear HE0 HE1 HE10
                    go_wp2
                    go_ret
                    exact ⟨by rw [HQ.out] <;> rfl, rfl⟩
                  · go_wp2
                    go_roundw
                    case rel => exact ⟨j + 1, hlt, by go_num, fun z hz => by
                        rw [HTX.out] at hz
                        rcases List.mem_append.1 hz with hz | hz
                        · exact HAX.out z hz
                        · simp at hz; subst hz; exact ⟨by omega, by omega⟩, fun z hz => by
                        rw [HTY.out] at hz
                        rcases List.mem_append.1 hz with hz | hz
                        · exact HAY.out z hz
                        · simp at hz; subst hz; exact ⟨by omega, by omega⟩, rfl⟩
                    case measure => simp [intOf]; omega
          · have HQ := Lib.hid (HE0.out (fun z hz => HAX.out z (by rw [List.take_of_length_le (by rw [← Hxl.out]; omega)]; exact hz)) (fun z hz => HAY.out z (by rw [List.take_of_length_le (by rw [← Hyl.out]; omega)]; exact hz)))
            clear HE0 HE1 HE10
            go_wp2
            go_ret
            exact ⟨by rw [HQ.out] <;> rfl, rfl⟩
      · go_enter Try.func9, Try.ntmps9
        go_wp2
        go_loopw [7] (fun s7 wr => WrL w n xs ys s7 wr) (fun s7 _ => n - (intOf s7).toNat)
        case atStart => exact ⟨0, Nat.zero_le _, rfl, by simp, by simp, rfl⟩
        case round =>
          obtain ⟨j, hj, rfl, halx, haly, rfl⟩ := hrel
          have HAX := Lib.hid halx
          have HAY := Lib.hid haly
          clear halx haly
          by_cases hlt : j < n
          · have hltx : j < xs.length := by rw [← Hxl.out]; exact hlt
            have hlty : j < ys.length := by rw [← Hyl.out]; exact hlt
            obtain ⟨ad, rfl, hx⟩ := HX.out.at_ hltx
            obtain ⟨bd, rfl, hy⟩ := HY.out.at_ hlty
            have hlti : (j : Int) < (n : Int) := by omega
            have HMX := Lib.hid (List.getElem_mem hltx)
            have HMY := Lib.hid (List.getElem_mem hlty)
            have HTX := Lib.hid (List.take_succ_eq_append_getElem hltx)
            have HTY := Lib.hid (List.take_succ_eq_append_getElem hlty)
            generalize xs[j] = x at *
            generalize ys[j] = y at *
            clear hltx hlty
            by_cases k1 : x < -1099511627776
            · have HQ := Lib.hid (HE10.out (fun h => by have := (h.1 _ HMX.out).1; omega))
              clear HE0 HE1 HE10
              go_wp2
              go_ret
              exact ⟨by rw [HQ.out] <;> rfl, rfl⟩
            · by_cases k2 : 1099511627776 < x
              · have HQ := Lib.hid (HE10.out (fun h => by have := (h.1 _ HMX.out).2; omega))
                clear HE0 HE1 HE10
                go_wp2
                go_ret
                exact ⟨by rw [HQ.out] <;> rfl, rfl⟩
              · by_cases k3 : y < -1099511627776
                · have HQ := Lib.hid (HE10.out (fun h => by have := (h.2 _ HMY.out).1; omega))
                  clear HE0 HE1 HE10
                  go_wp2
                  go_ret
                  exact ⟨by rw [HQ.out] <;> rfl, rfl⟩
                · by_cases k4 : 1099511627776 < y
                  · have HQ := Lib.hid (HE10.out (fun h => by have := (h.2 _ HMY.out).2; omega))
                    clear HE0 HE1 HE10
                    go_wp2
                    go_ret
                    exact ⟨by rw [HQ.out] <;> rfl, rfl⟩
                  · go_wp2
                    go_roundw
                    case rel => exact ⟨j + 1, hlt, by go_num, fun z hz => by
                        rw [HTX.out] at hz
                        rcases List.mem_append.1 hz with hz | hz
                        · exact HAX.out z hz
                        · simp at hz; subst hz; exact ⟨by omega, by omega⟩, fun z hz => by
                        rw [HTY.out] at hz
                        rcases List.mem_append.1 hz with hz | hz
                        · exact HAY.out z hz
                        · simp at hz; subst hz; exact ⟨by omega, by omega⟩, rfl⟩
                    case measure => simp [intOf]; omega
          · have HQ := Lib.hid (HE0.out (fun z hz => HAX.out z (by rw [List.take_of_length_le (by rw [← Hxl.out]; omega)]; exact hz)) (fun z hz => HAY.out z (by rw [List.take_of_length_le (by rw [← Hyl.out]; omega)]; exact hz)))
            clear HE0 HE1 HE10
            go_wp2
            go_ret
            exact ⟨by rw [HQ.out] <;> rfl, rfl⟩
    · have HQ := Lib.hid (HE1.out hnk)
      have hni : ¬ (n : Int) = (k : Int) := by omega
      clear HE0 HE1 HE10
      rcases hm with rfl | rfl | rfl | rfl
      · go_enter Try.func9, Try.ntmps9
        go_wp2
        go_ret
        exact ⟨by rw [HQ.out] <;> rfl, rfl⟩
      · go_enter Try.func9, Try.ntmps9
        go_wp2
        go_ret
        exact ⟨by rw [HQ.out] <;> rfl, rfl⟩
      · go_enter Try.func9, Try.ntmps9
        go_wp2
        go_ret
        exact ⟨by rw [HQ.out] <;> rfl, rfl⟩
      · go_enter Try.func9, Try.ntmps9
        go_wp2
        go_ret
        exact ⟨by rw [HQ.out] <;> rfl, rfl⟩
  · have HM0 : Hid (wrE m xs ys = 13) := Lib.hid (if_neg hm)
    rw [HM0.out]
    clear HM0
    have h1 : (m != 1) = true := bne_iff_ne.2 <| fun h => hm (.inl h)
    have h2 : (m != 8) = true := bne_iff_ne.2 <| fun h => hm (.inr (.inl h))
    have h3 : (m != 9) = true := bne_iff_ne.2 <| fun h => hm (.inr (.inr (.inl h)))
    have h4 : (m != 10) = true := bne_iff_ne.2 <| fun h => hm (.inr (.inr (.inr h)))
    clear hm
    go_enter Try.func9, Try.ntmps9
    go_wp2
    go_ret
    exact ⟨rfl, rfl⟩
end Go.Proofs.Ytmnogedkinhljaa
