/-
  BlocksOthers: its walk.
-/
import Derived.Test.YtighdjbeddcckaaVX
namespace Go.Proofs.Ytighdjbeddcckaa
open Go.RowKit Go.Shelf

def OtI (w : World) (m : Nat) (s7 : Value) (wr : World) : Prop := ∃ j : Nat, j ≤ m ∧ s7 = iv j ∧ Only Nix w wr
set_option maxRecDepth 100000 in
set_option maxHeartbeats 16000000 in
theorem others_any {w : World} {v0 : Value} {n t : Int} {bs : List Nat} (hi : -9223372036854775808 ≤ n ∧ n ≤ 9223372036854775807) (hs : CSrc w v0 bs) : Calls Try.prog 8 #[iv n, .agg #[iv t, v0]] w fun e w' => e = .returned (.bool true) ∧ Only Nix w w' := by
  obtain ⟨A, d, rfl, hd⟩ := hs.form
  have hsm := hs.src.small
  obtain ⟨hi1, hi2⟩ := hi
  have a1 := Lib.hid ((Only.refl Nix w).alloc (.cells #[iv t, .slice A bs.length d] 59))
  have b1 := Box.new w 59 #[iv t, .slice A bs.length d]
  have HS := Lib.hid (hs.nix a1.out)
  obtain ⟨W1, hW1⟩ : ∃ W1, w.alloc (.cells #[iv t, .slice A bs.length d] 59) = W1 := ⟨_, rfl⟩
  rw [hW1] at a1 b1 HS
  have c0 := b1.cell 0
  have c1 := b1.cell 1
  simp only [List.getElem?_toArray, List.getElem?_cons_zero, List.getElem?_cons_succ] at c0 c1
  have HB := Lib.hid b1
  have HAw : Hid (∀ u, Calls Try.prog 9 #[] u fun e w' => e = .returned (.bool true) ∧ Only Nix u w') := Lib.hid awake_any
  clear b1 hs
  by_cases g1 : 500 < bs.length
  · have g1i : (500 : Int) < (bs.length : Int) := by omega
    have HA1 := Lib.hid (HAw.out W1)
    go_enter Try.func8, Try.ntmps8
    go_wp2_with fail
    refine (HA1.out).mono ?_
    rintro e w2 ⟨rfl, o2⟩
    have HO2 := Lib.hid (a1.out.trans o2)
    clear o2
    go_wp2
    go_ret
    exact ⟨rfl, HO2.out⟩
  have g1i : ¬ (500 : Int) < (bs.length : Int) := by omega
  by_cases g2 : 2000 < n ∧ n ≤ 16777215
  · obtain ⟨g2a, g2b⟩ := g2
    have HA1 := Lib.hid (HAw.out W1)
    go_enter Try.func8, Try.ntmps8
    go_wp2_with fail
    refine (HA1.out).mono ?_
    rintro e w2 ⟨rfl, o2⟩
    have HO2 := Lib.hid (a1.out.trans o2)
    clear o2
    go_wp2
    go_ret
    exact ⟨rfl, HO2.out⟩
  have HNm : Hid (∀ u, Only Nix W1 u → Calls Try.prog 26 #[.agg #[iv t, .slice A bs.length d]] u fun e w' => NmR u t bs e w') := Lib.hid (fun u hu => name_any (HS.out.nix hu) (by omega))
  by_cases g3 : n < 0 ∨ 16777215 < n
  · have HZ := Lib.hid (zeros_no (w := W1) n g3)
    have hz1 : decide (n < 0) = true ∨ (decide (n < 0) = false ∧ decide (16777215 < n) = true) := by
      by_cases h : n < 0
      · exact .inl (decide_eq_true h)
      · exact .inr ⟨decide_eq_false h, decide_eq_true (g3.resolve_left h)⟩
    rcases g3 with g3 | g3
    · have g3b : ¬ (2000 : Int) < n := by omega
      clear hz1 g2
      go_enter Try.func8, Try.ntmps8
      go_wp2_with fail
      refine (HZ.out).mono ?_
      rintro e w2 ⟨rfl, o2⟩
      have a2 := (o2.alloc (.cells #[iv 0, .slice none 0 0] 59))
      have b2 := Box.new w2 59 #[iv 0, .slice none 0 0]
      have e0 := b2.cell 0
      have e1 := b2.cell 1
      have z0 := b2.frozen 0
      have z1 := b2.frozen 1
      simp only [List.getElem?_toArray, List.getElem?_cons_zero, List.getElem?_cons_succ] at e0 e1
      have a3 := (a2.setCell (p := ⟨w2.heap.size, 0, none⟩) (.inr o2.size) (iv 0)).setCell (p := ⟨w2.heap.size, 1, none⟩) (.inr o2.size) (.slice none 0 0)
      have b3 := box_two b2 (iv 0) (.slice none 0 0)
      obtain ⟨W2, hW2⟩ : ∃ W2, w2.alloc (.cells #[iv 0, .slice none 0 0] 59) = W2 := ⟨_, rfl⟩
      rw [hW2] at a3 b3 e0 e1 z0 z1
      obtain ⟨wr, hW3⟩ : ∃ W3, (W2.setCell ⟨w2.heap.size, 0, none⟩ (iv 0)).setCell ⟨w2.heap.size, 1, none⟩ (.slice none 0 0) = W3 := ⟨_, rfl⟩
      rw [hW3] at a3 b3
      have f0 := b3.cell 0
      have f1 := b3.cell 1
      simp only [List.getElem?_toArray, List.getElem?_cons_zero, List.getElem?_cons_succ] at f0 f1
      have HO := Lib.hid a3
      clear o2 a2 b2 a3 b3 HZ
      have hBr := HB.out.only HO.out (fun e => e)
      have r0 := hBr.cell 0
      have r1 := hBr.cell 1
      simp only [List.getElem?_toArray, List.getElem?_cons_zero, List.getElem?_cons_succ] at r0 r1
      have HN := Lib.hid (HNm.out _ HO.out)
      clear hBr
      go_wp2_with fail
      refine (HN.out).mono ?_
      intro e w5 hw5
      obtain ⟨hw5, o5⟩ := hw5
      have HO5 := Lib.hid (HO.out.trans o5)
      have hB5 := HB.out.only HO5.out (fun e => e)
      have s0 := hB5.cell 0
      have s1 := hB5.cell 1
      simp only [List.getElem?_toArray, List.getElem?_cons_zero, List.getElem?_cons_succ] at s0 s1
      have HAw5 := Lib.hid (HAw.out w5)
      clear o5 hB5 r0 r1
      by_cases ht : t = 2
      · rw [if_pos ht] at hw5
        have hti : (t != 2) = false := by simpa using ht
        have htt := Lib.hid ht
        clear ht
        by_cases h4 : bs.length < 4
        · rw [if_pos h4] at hw5
          subst hw5
          have h4i : (bs.length : Int) < 4 := by omega
          go_wp2_with fail
          refine (HAw5.out).mono ?_
          rintro e w6 ⟨rfl, o6⟩
          have HO6 := Lib.hid (a1.out.trans (HO5.out.trans o6))
          clear o6
          go_wp2
          go_ret
          exact ⟨rfl, HO6.out⟩
        · rw [if_neg h4] at hw5
          obtain ⟨v5, rfl, t5⟩ := hw5
          have h4i : ¬ (bs.length : Int) < 4 := by omega
          have hSu := HS.out.nix HO5.out
          obtain ⟨ad5, rfl, _⟩ := hSu.src.at_ (k := 0) (by omega)
          obtain ⟨A', k1, k2, hs4⟩ := drop_four hSu (by omega)
          have hcv := conv_src (hSu.src.take 4 d (by omega))
          have HEq := Lib.hid (equal_at t5.src hs4.src)
          have hd4 : (4 : Int) ≤ (d : Int) := by omega
          have hb4 : (4 : Int) ≤ (bs.length : Int) := by omega
          have hsub : (bs.length : Int) - 4 = ((bs.length - 4 : Nat) : Int) := by omega
          generalize strN (bs.take 4) = S4 at *
          clear hs4 hSu t5
          by_cases e4 : 4 = d
          · obtain rfl := k1 e4
            subst e4
            rw [show 4 - 4 = 0 from rfl, show bs.length - 4 = 0 by omega] at HEq
            clear k1 k2
            go_wp2_with fail
            refine (HEq.out).mono ?_
            rintro e w6 ⟨rfl, o6⟩
            have HO6 := Lib.hid (HO5.out.trans o6)
            have HAw6 := Lib.hid (HAw.out w6)
            clear o6
            go_wp2_with fail
            refine (HAw6.out).mono ?_
            rintro e w7 ⟨rfl, o7⟩
            have HO7 := Lib.hid (a1.out.trans (HO6.out.trans o7))
            clear o7
            go_wp2
            go_ret
            exact ⟨rfl, HO7.out⟩
          · obtain rfl := k2 e4
            have e4i : ¬ d = 4 := by omega
            have e4j : ¬ (4 : Int) = (d : Int) := by omega
            have e4k : ¬ (d : Int) = 4 := by omega
            rw [add_four] at HEq
            clear k1 k2
            go_wp2_with fail
            refine (HEq.out).mono ?_
            rintro e w6 ⟨rfl, o6⟩
            have HO6 := Lib.hid (HO5.out.trans o6)
            have HAw6 := Lib.hid (HAw.out w6)
            clear o6
            go_wp2_with fail
            refine (HAw6.out).mono ?_
            rintro e w7 ⟨rfl, o7⟩
            have HO7 := Lib.hid (a1.out.trans (HO6.out.trans o7))
            clear o7
            go_wp2
            go_ret
            exact ⟨rfl, HO7.out⟩
      · rw [if_neg ht] at hw5
        subst hw5
        have hti : (t != 2) = true := by simpa using ht
        go_wp2_with fail
        refine (HAw5.out).mono ?_
        rintro e w6 ⟨rfl, o6⟩
        have HO6 := Lib.hid (a1.out.trans (HO5.out.trans o6))
        clear o6
        go_wp2
        go_ret
        exact ⟨rfl, HO6.out⟩
    · have g3b : ¬ n < 0 := by omega
      have g3c : (2000 : Int) < n := by omega
      have g3d : ¬ n ≤ 16777215 := by omega
      clear hz1 g2
      go_enter Try.func8, Try.ntmps8
      go_wp2_with fail
      refine (HZ.out).mono ?_
      rintro e w2 ⟨rfl, o2⟩
      have a2 := (o2.alloc (.cells #[iv 0, .slice none 0 0] 59))
      have b2 := Box.new w2 59 #[iv 0, .slice none 0 0]
      have e0 := b2.cell 0
      have e1 := b2.cell 1
      have z0 := b2.frozen 0
      have z1 := b2.frozen 1
      simp only [List.getElem?_toArray, List.getElem?_cons_zero, List.getElem?_cons_succ] at e0 e1
      have a3 := (a2.setCell (p := ⟨w2.heap.size, 0, none⟩) (.inr o2.size) (iv 0)).setCell (p := ⟨w2.heap.size, 1, none⟩) (.inr o2.size) (.slice none 0 0)
      have b3 := box_two b2 (iv 0) (.slice none 0 0)
      obtain ⟨W2, hW2⟩ : ∃ W2, w2.alloc (.cells #[iv 0, .slice none 0 0] 59) = W2 := ⟨_, rfl⟩
      rw [hW2] at a3 b3 e0 e1 z0 z1
      obtain ⟨wr, hW3⟩ : ∃ W3, (W2.setCell ⟨w2.heap.size, 0, none⟩ (iv 0)).setCell ⟨w2.heap.size, 1, none⟩ (.slice none 0 0) = W3 := ⟨_, rfl⟩
      rw [hW3] at a3 b3
      have f0 := b3.cell 0
      have f1 := b3.cell 1
      simp only [List.getElem?_toArray, List.getElem?_cons_zero, List.getElem?_cons_succ] at f0 f1
      have HO := Lib.hid a3
      clear o2 a2 b2 a3 b3 HZ
      have hBr := HB.out.only HO.out (fun e => e)
      have r0 := hBr.cell 0
      have r1 := hBr.cell 1
      simp only [List.getElem?_toArray, List.getElem?_cons_zero, List.getElem?_cons_succ] at r0 r1
      have HN := Lib.hid (HNm.out _ HO.out)
      clear hBr
      go_wp2_with fail
      refine (HN.out).mono ?_
      intro e w5 hw5
      obtain ⟨hw5, o5⟩ := hw5
      have HO5 := Lib.hid (HO.out.trans o5)
      have hB5 := HB.out.only HO5.out (fun e => e)
      have s0 := hB5.cell 0
      have s1 := hB5.cell 1
      simp only [List.getElem?_toArray, List.getElem?_cons_zero, List.getElem?_cons_succ] at s0 s1
      have HAw5 := Lib.hid (HAw.out w5)
      clear o5 hB5 r0 r1
      by_cases ht : t = 2
      · rw [if_pos ht] at hw5
        have hti : (t != 2) = false := by simpa using ht
        have htt := Lib.hid ht
        clear ht
        by_cases h4 : bs.length < 4
        · rw [if_pos h4] at hw5
          subst hw5
          have h4i : (bs.length : Int) < 4 := by omega
          go_wp2_with fail
          refine (HAw5.out).mono ?_
          rintro e w6 ⟨rfl, o6⟩
          have HO6 := Lib.hid (a1.out.trans (HO5.out.trans o6))
          clear o6
          go_wp2
          go_ret
          exact ⟨rfl, HO6.out⟩
        · rw [if_neg h4] at hw5
          obtain ⟨v5, rfl, t5⟩ := hw5
          have h4i : ¬ (bs.length : Int) < 4 := by omega
          have hSu := HS.out.nix HO5.out
          obtain ⟨ad5, rfl, _⟩ := hSu.src.at_ (k := 0) (by omega)
          obtain ⟨A', k1, k2, hs4⟩ := drop_four hSu (by omega)
          have hcv := conv_src (hSu.src.take 4 d (by omega))
          have HEq := Lib.hid (equal_at t5.src hs4.src)
          have hd4 : (4 : Int) ≤ (d : Int) := by omega
          have hb4 : (4 : Int) ≤ (bs.length : Int) := by omega
          have hsub : (bs.length : Int) - 4 = ((bs.length - 4 : Nat) : Int) := by omega
          generalize strN (bs.take 4) = S4 at *
          clear hs4 hSu t5
          by_cases e4 : 4 = d
          · obtain rfl := k1 e4
            subst e4
            rw [show 4 - 4 = 0 from rfl, show bs.length - 4 = 0 by omega] at HEq
            clear k1 k2
            go_wp2_with fail
            refine (HEq.out).mono ?_
            rintro e w6 ⟨rfl, o6⟩
            have HO6 := Lib.hid (HO5.out.trans o6)
            have HAw6 := Lib.hid (HAw.out w6)
            clear o6
            go_wp2_with fail
            refine (HAw6.out).mono ?_
            rintro e w7 ⟨rfl, o7⟩
            have HO7 := Lib.hid (a1.out.trans (HO6.out.trans o7))
            clear o7
            go_wp2
            go_ret
            exact ⟨rfl, HO7.out⟩
          · obtain rfl := k2 e4
            have e4i : ¬ d = 4 := by omega
            have e4j : ¬ (4 : Int) = (d : Int) := by omega
            have e4k : ¬ (d : Int) = 4 := by omega
            rw [add_four] at HEq
            clear k1 k2
            go_wp2_with fail
            refine (HEq.out).mono ?_
            rintro e w6 ⟨rfl, o6⟩
            have HO6 := Lib.hid (HO5.out.trans o6)
            have HAw6 := Lib.hid (HAw.out w6)
            clear o6
            go_wp2_with fail
            refine (HAw6.out).mono ?_
            rintro e w7 ⟨rfl, o7⟩
            have HO7 := Lib.hid (a1.out.trans (HO6.out.trans o7))
            clear o7
            go_wp2
            go_ret
            exact ⟨rfl, HO7.out⟩
      · rw [if_neg ht] at hw5
        subst hw5
        have hti : (t != 2) = true := by simpa using ht
        go_wp2_with fail
        refine (HAw5.out).mono ?_
        rintro e w6 ⟨rfl, o6⟩
        have HO6 := Lib.hid (a1.out.trans (HO5.out.trans o6))
        clear o6
        go_wp2
        go_ret
        exact ⟨rfl, HO6.out⟩
  · obtain ⟨N, rfl⟩ := Int.eq_ofNat_of_zero_le (show 0 ≤ n by omega)
    have hN : N ≤ 2000 := by omega
    have h0 : ¬ (N : Int) < 0 := by omega
    have h1 : ¬ (16777215 : Int) < (N : Int) := by omega
    have h2 : ¬ (2000 : Int) < (N : Int) := by omega
    have HZ := Lib.hid (zeros_any (w := W1) N hN)
    clear g2 g3
    go_enter Try.func8, Try.ntmps8
    go_wp2_with fail
    refine (HZ.out).mono ?_
    rintro e w2 ⟨vz, rfl, sz, o2⟩
    obtain ⟨Az, cz, rfl, hcz⟩ := sz.form
    rw [show (zes N).length = N by simp [zes]] at sz ⊢
    have a2 := (o2.alloc (.cells #[iv 0, .slice none 0 0] 59))
    have k2 := (Only.refl Nix w2).alloc (.cells #[iv 0, .slice none 0 0] 59)
    have b2 := Box.new w2 59 #[iv 0, .slice none 0 0]
    have e0 := b2.cell 0
    have e1 := b2.cell 1
    have z0 := b2.frozen 0
    have z1 := b2.frozen 1
    simp only [List.getElem?_toArray, List.getElem?_cons_zero, List.getElem?_cons_succ] at e0 e1
    have a3 := (a2.setCell (p := ⟨w2.heap.size, 0, none⟩) (.inr o2.size) (iv 1)).setCell (p := ⟨w2.heap.size, 1, none⟩) (.inr o2.size) (.slice Az N cz)
    have k3 := (k2.setCell (p := ⟨w2.heap.size, 0, none⟩) (.inr (Nat.le_refl _)) (iv 1)).setCell (p := ⟨w2.heap.size, 1, none⟩) (.inr (Nat.le_refl _)) (.slice Az N cz)
    have b3 := box_two b2 (iv 1) (.slice Az N cz)
    obtain ⟨W2, hW2⟩ : ∃ W2, w2.alloc (.cells #[iv 0, .slice none 0 0] 59) = W2 := ⟨_, rfl⟩
    rw [hW2] at a3 k3 b3 e0 e1 z0 z1
    obtain ⟨W3, hW3⟩ : ∃ W3, (W2.setCell ⟨w2.heap.size, 0, none⟩ (iv 1)).setCell ⟨w2.heap.size, 1, none⟩ (.slice Az N cz) = W3 := ⟨_, rfl⟩
    rw [hW3] at a3 k3 b3
    have f0 := b3.cell 0
    have f1 := b3.cell 1
    simp only [List.getElem?_toArray, List.getElem?_cons_zero, List.getElem?_cons_succ] at f0 f1
    have HO3 := Lib.hid a3
    have HS3 := Lib.hid (sz.nix k3)
    have HB3 := Lib.hid b3
    clear o2 sz a2 k2 b2 a3 k3 b3 HZ
    go_wp2
    go_loopw [7] (fun s7 wr => OtI W3 N s7 wr) (fun s7 _ => N - (intOf s7).toNat)
    case atStart => exact ⟨0, Nat.zero_le _, rfl, Only.refl _ _⟩
    case round =>
      obtain ⟨j, hj, rfl, ho⟩ := hrel
      have HOj := Lib.hid ho
      clear ho
      by_cases hlt : j < N
      · have hlti : (j : Int) < (N : Int) := by omega
        obtain ⟨ad, rfl, hx⟩ := (HS3.out.src.nix HOj.out).at_ (k := j) (by simp [zes]; omega)
        have hz : (zes N)[j]'(by simp [zes]; omega) = 0 := by simp [zes]
        rw [hz] at hx
        have g1 := (HB3.out.only HOj.out (fun e => e)).cell 1
        simp only [List.getElem?_toArray, List.getElem?_cons_zero, List.getElem?_cons_succ] at g1
        unfold byt at hx
        go_wp2
        go_roundw
        case rel => exact ⟨j + 1, hlt, by go_num, HOj.out⟩
        case measure => simp [intOf]; omega
      · obtain rfl : j = N := by omega
        have hlti : ¬ ((j : Nat) : Int) < (j : Int) := by omega
        have HO := Lib.hid (HO3.out.trans HOj.out)
        have hBr := HB.out.only HO.out (fun e => e)
        have r0 := hBr.cell 0
        have r1 := hBr.cell 1
        simp only [List.getElem?_toArray, List.getElem?_cons_zero, List.getElem?_cons_succ] at r0 r1
        have HN := Lib.hid (HNm.out _ HO.out)
        clear hBr
        go_wp2_with fail
        refine (HN.out).mono ?_
        intro e w5 hw5
        obtain ⟨hw5, o5⟩ := hw5
        have HO5 := Lib.hid (HO.out.trans o5)
        have hB5 := HB.out.only HO5.out (fun e => e)
        have s0 := hB5.cell 0
        have s1 := hB5.cell 1
        simp only [List.getElem?_toArray, List.getElem?_cons_zero, List.getElem?_cons_succ] at s0 s1
        have HAw5 := Lib.hid (HAw.out w5)
        clear o5 hB5 r0 r1
        by_cases ht : t = 2
        · rw [if_pos ht] at hw5
          have hti : (t != 2) = false := by simpa using ht
          have htt := Lib.hid ht
          clear ht
          by_cases h4 : bs.length < 4
          · rw [if_pos h4] at hw5
            subst hw5
            have h4i : (bs.length : Int) < 4 := by omega
            go_wp2_with fail
            refine (HAw5.out).mono ?_
            rintro e w6 ⟨rfl, o6⟩
            have HO6 := Lib.hid (a1.out.trans (HO5.out.trans o6))
            clear o6
            go_wp2
            go_ret
            exact ⟨rfl, HO6.out⟩
          · rw [if_neg h4] at hw5
            obtain ⟨v5, rfl, t5⟩ := hw5
            have h4i : ¬ (bs.length : Int) < 4 := by omega
            have hSu := HS.out.nix HO5.out
            obtain ⟨ad5, rfl, _⟩ := hSu.src.at_ (k := 0) (by omega)
            obtain ⟨A', k1, k2, hs4⟩ := drop_four hSu (by omega)
            have hcv := conv_src (hSu.src.take 4 d (by omega))
            have HEq := Lib.hid (equal_at t5.src hs4.src)
            have hd4 : (4 : Int) ≤ (d : Int) := by omega
            have hb4 : (4 : Int) ≤ (bs.length : Int) := by omega
            have hsub : (bs.length : Int) - 4 = ((bs.length - 4 : Nat) : Int) := by omega
            generalize strN (bs.take 4) = S4 at *
            clear hs4 hSu t5
            by_cases e4 : 4 = d
            · obtain rfl := k1 e4
              subst e4
              rw [show 4 - 4 = 0 from rfl, show bs.length - 4 = 0 by omega] at HEq
              clear k1 k2
              go_wp2_with fail
              refine (HEq.out).mono ?_
              rintro e w6 ⟨rfl, o6⟩
              have HO6 := Lib.hid (HO5.out.trans o6)
              have HAw6 := Lib.hid (HAw.out w6)
              clear o6
              go_wp2_with fail
              refine (HAw6.out).mono ?_
              rintro e w7 ⟨rfl, o7⟩
              have HO7 := Lib.hid (a1.out.trans (HO6.out.trans o7))
              clear o7
              go_wp2
              go_ret
              exact ⟨rfl, HO7.out⟩
            · obtain rfl := k2 e4
              have e4i : ¬ d = 4 := by omega
              have e4j : ¬ (4 : Int) = (d : Int) := by omega
              have e4k : ¬ (d : Int) = 4 := by omega
              rw [add_four] at HEq
              clear k1 k2
              go_wp2_with fail
              refine (HEq.out).mono ?_
              rintro e w6 ⟨rfl, o6⟩
              have HO6 := Lib.hid (HO5.out.trans o6)
              have HAw6 := Lib.hid (HAw.out w6)
              clear o6
              go_wp2_with fail
              refine (HAw6.out).mono ?_
              rintro e w7 ⟨rfl, o7⟩
              have HO7 := Lib.hid (a1.out.trans (HO6.out.trans o7))
              clear o7
              go_wp2
              go_ret
              exact ⟨rfl, HO7.out⟩
        · rw [if_neg ht] at hw5
          subst hw5
          have hti : (t != 2) = true := by simpa using ht
          go_wp2_with fail
          refine (HAw5.out).mono ?_
          rintro e w6 ⟨rfl, o6⟩
          have HO6 := Lib.hid (a1.out.trans (HO5.out.trans o6))
          clear o6
          go_wp2
          go_ret
          exact ⟨rfl, HO6.out⟩
end Go.Proofs.Ytighdjbeddcckaa
