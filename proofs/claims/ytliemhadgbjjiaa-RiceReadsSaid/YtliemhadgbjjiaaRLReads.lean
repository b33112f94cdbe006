/-
  RiceReads, walked.
-/
import Derived.Test.YtliemhadgbjjiaaRSound
import Derived.Deep.RegionHeld3
namespace Go.Proofs.Ytliemhadgbjjiaa
open Go.RowKit Go.Joins

set_option maxRecDepth 100000 in
set_option maxHeartbeats 4000000 in
theorem riceReads_walk {w : World} (A : Option Addr) (n c : Nat) (bs : List Nat) (t x y : Int) (hs0 : -9223372036854775808 ≤ y) (hs1 : y ≤ 9223372036854775807)
    (hb : Src w (.slice A n c) bs) (hbl : bs.length = n) (h256 : ∀ z ∈ bs, z < 256) :
    Calls Try.prog 5 #[.slice A n c, iv t, .agg #[iv x, iv y]] w fun e w' => e = .returned (.bool true) ∧ Only Nix w w' := by
  have sz1 := hb.small
  rw [hbl] at sz1
  obtain ⟨Wa, hWa⟩ : ∃ Wa, w.alloc (.cells #[iv x, iv y] 54) = Wa := ⟨_, rfl⟩
  have a0 := (Only.refl Nix w).alloc (.cells #[iv x, iv y] 54)
  have B1 := Box.new w 54 #[iv x, iv y]
  have hszA : Wa.heap.size = w.heap.size + 1 := by rw [← hWa]; simp
  rw [hWa] at a0 B1
  have HB := Lib.hid (hb.nix a0)
  have HA := Lib.hid a0
  have HB1 := Lib.hid B1
  have H256 := Lib.hid h256
  have Hbl := Lib.hid hbl
  have d0 := B1.cell 0
  have d1 := B1.cell 1
  simp only [List.getElem?_toArray, List.getElem?_cons_zero, List.getElem?_cons_succ] at d0 d1
  have HAw := Lib.hid (awake5 Wa)
  clear hb a0 B1 h256 hbl
  go_enter Try.func5, Try.ntmps5
  by_cases hn2 : 200 < n
  · have hn3 : decide ((200 : Int) < (n : Int)) = true := by simp; omega
    go_wp2_with fail
    refine (HAw.out).mono ?_
    rintro e w2 ⟨rfl, o2⟩
    go_wp2
    go_ret
    exact ⟨rfl, HA.out.trans o2⟩
  · have hn3 : decide ((200 : Int) < (n : Int)) = false := by simp; omega
    have HNR := Lib.hid (newReader_any HB.out H256.out)
    rcases Int.lt_or_le 200 x with hx0 | hx0
    · have hx1 : decide (200 < x) = true := by simpa using hx0
      rcases Int.lt_or_le 65535 x with hx9 | hx9
      · have hx2 : decide (x ≤ 65535) = false := by simp; omega
        have HckB : Hid (ckB x y ≠ 0) := Lib.hid (by unfold ckB; rw [if_pos (by omega)]; decide)
        have hck0 : ckH 0 0 x y = 1 := by unfold ckH ckB; rw [if_pos (by omega)]
        have HCk := Lib.hid hck0
        clear hck0 HAw
        go_wp2_with fail
        refine (HNR.out).mono ?_
        rintro e w2 ⟨r, v, rfl, hR2, hN2, o2⟩
        have HA2 := Lib.hid o2
        have hrw : Wa.heap.size ≤ r := hN2.1
        have HSk := Lib.hid (seek_any hR2 t)
        clear hN2 o2 HNR d0 d1 hR2
        go_wp2_with fail
        refine (HSk.out).mono ?_
        rintro e w3 ⟨rfl, hR3, o3⟩
        have HA3 : Hid (Only Nix Wa w3) := Lib.hid (HA2.out.then o3 (fun i e => .inr (by have : i = r := e; omega)))
        generalize seekA bs 0 t = a at hR3
        have HR3 := Lib.hid hR3
        have HAt := Lib.hid (at_any r a w3 hR3.cell0)
        clear hR3 o3 HSk
        go_wp2_with fail
        refine (HAt.out).mono ?_
        rintro e w3' ⟨rfl, rfl⟩
        clear HAt
        have D3 := HB1.out.only HA3.out (fun e => e)
        have h30 := D3.cell 0
        have h31 := D3.cell 1
        simp only [List.getElem?_toArray, List.getElem?_cons_zero, List.getElem?_cons_succ] at h30 h31
        clear D3
        have HRd := Lib.hid (read_arg HR3.out x y HckB.out)
        go_wp2_with fail
        refine (HRd.out).mono ?_
        rintro e w4 ⟨rfl, hR4, o4⟩
        have HA4 : Hid (Only Nix Wa w4) := Lib.hid (HA3.out.then o4 (fun i e => .inr (by have : i = r := e; omega)))
        have HR4 := Lib.hid hR4
        have o5 := (Only.refl Nix w4).alloc (.cells #[.int .i64 0, .int .i64 0, .slice none 0 0, .slice none 0 0] 24)
        have HA5 := Lib.hid (HA4.out.trans o5)
        have D5 := HB1.out.only HA5.out (fun e => e)
        have h50 := D5.cell 0
        have h51 := D5.cell 1
        simp only [List.getElem?_toArray, List.getElem?_cons_zero, List.getElem?_cons_succ] at h50 h51
        clear D5
        have HHd := Lib.hid (headRef_any (w4.alloc (.cells #[.int .i64 0, .int .i64 0, .slice none 0 0, .slice none 0 0] 24)) 0 0 x y)
        have HAt := Lib.hid (at_any r a _ (HR4.out.nix o5).cell0)
        have HAw := Lib.hid (awake5 (w4.alloc (.cells #[.int .i64 0, .int .i64 0, .slice none 0 0, .slice none 0 0] 24)))
        rw [HCk.out] at HHd
        clear hR4 o4 HRd h30 h31 o5
        go_wp2_with fail
        refine (HHd.out).mono ?_
        rintro e w6 ⟨rfl, rfl⟩
        clear h50 h51 HHd
        generalize w4.alloc (.cells #[.int .i64 0, .int .i64 0, .slice none 0 0, .slice none 0 0] 24) = W5 at *
        go_wp2_with fail
        refine (HAt.out).mono ?_
        rintro e w6 ⟨rfl, rfl⟩
        go_wp2_with fail
        refine (HAw.out).mono ?_
        rintro e w6 ⟨rfl, o6⟩
        go_wp2
        go_ret
        exact ⟨rfl, HA.out.trans (HA5.out.trans o6)⟩
      · have hx2 : decide (x ≤ 65535) = true := by simpa using hx9
        go_wp2_with fail
        refine (HAw.out).mono ?_
        rintro e w2 ⟨rfl, o2⟩
        go_wp2
        go_ret
        exact ⟨rfl, HA.out.trans o2⟩
    · have hx1 : decide (200 < x) = false := by simpa using hx0
      clear HAw
      by_cases hck : ckB x y = 0
      · obtain ⟨b1, b2, b3, b4⟩ := ckB_zero hck
        obtain ⟨b, rfl⟩ := Int.eq_ofNat_of_zero_le (show 0 ≤ x by omega)
        obtain ⟨s, rfl⟩ := Int.eq_ofNat_of_zero_le b3
        have hb200 : b ≤ 200 := by omega
        have hs32 : s ≤ 32 := by omega
        have hH : ckH 0 0 (b : Int) (s : Int) ≠ 1 := by
          unfold ckH
          rw [hck, if_neg (by simp), if_neg (by omega)]
          unfold ckP
          split <;> simp
        have HckB := Lib.hid hck
        have hHb : (ckH 0 0 (b : Int) (s : Int) == 1) = false := by simpa using hH
        clear hck b1 b2 b3 b4 hH
        go_wp2_with fail
        refine (HNR.out).mono ?_
        rintro e w2 ⟨r, v, rfl, hR2, hN2, o2⟩
        have HA2 := Lib.hid o2
        have hrw : Wa.heap.size ≤ r := hN2.1
        have HSk := Lib.hid (seek_any hR2 t)
        clear hN2 o2 HNR d0 d1 hR2
        go_wp2_with fail
        refine (HSk.out).mono ?_
        rintro e w3 ⟨rfl, hR3, o3⟩
        have HA3 : Hid (Only Nix Wa w3) := Lib.hid (HA2.out.then o3 (fun i e => .inr (by have : i = r := e; omega)))
        generalize seekA bs 0 t = a at hR3
        have HR3 := Lib.hid hR3
        have HAt := Lib.hid (at_any r a w3 hR3.cell0)
        clear hR3 o3 HSk
        go_wp2_with fail
        refine (HAt.out).mono ?_
        rintro e w3' ⟨rfl, rfl⟩
        clear HAt
        have D3 := HB1.out.only HA3.out (fun e => e)
        have h30 := D3.cell 0
        have h31 := D3.cell 1
        simp only [List.getElem?_toArray, List.getElem?_cons_zero, List.getElem?_cons_succ] at h30 h31
        clear D3
        have HRd := Lib.hid (read_sound HR3.out b s HckB.out)
        go_wp2_with fail
        refine (HRd.out).mono ?_
        rintro e w4 (⟨E, rfl, hE, hR4, o4⟩ | ⟨m, o, gp, gb, g, Q, ps, ws, l, rfl, hsb, hQb, hP4, hW4, hL4, hz, hS, hR4, o4⟩)
        · have HA4 : Hid (Only Nix Wa w4) := Lib.hid (HA3.out.then o4 (fun i e => .inr (by have : i = r := e; omega)))
          have HR4 := Lib.hid hR4
          have o5 := (Only.refl Nix w4).alloc (.cells #[.int .i64 0, .int .i64 0, .slice none 0 0, .slice none 0 0] 24)
          have B5 := Box.new w4 24 #[.int .i64 0, .int .i64 0, .slice none 0 0, .slice none 0 0]
          have hp2 := B5.cell 2
          simp only [List.getElem?_toArray, List.getElem?_cons_zero, List.getElem?_cons_succ] at hp2
          have HA5 := Lib.hid (HA4.out.trans o5)
          have D5 := HB1.out.only HA5.out (fun e => e)
          have h50 := D5.cell 0
          have h51 := D5.cell 1
          simp only [List.getElem?_toArray, List.getElem?_cons_zero, List.getElem?_cons_succ] at h50 h51
          clear D5
          have HHd := Lib.hid (headRef_any (w4.alloc (.cells #[.int .i64 0, .int .i64 0, .slice none 0 0, .slice none 0 0] 24)) 0 0 b s)
          have HAt := Lib.hid (at_any r a _ (HR4.out.nix o5).cell0)
          have HAw := Lib.hid (awake5 (w4.alloc (.cells #[.int .i64 0, .int .i64 0, .slice none 0 0, .slice none 0 0] 24)))
          clear hR4 o4 HRd h30 h31 o5 B5
          rcases hE with rfl | rfl | rfl | rfl
          all_goals
            go_wp2_with fail
            refine (HHd.out).mono ?_
            rintro e w6 ⟨rfl, rfl⟩
            clear h50 h51 HHd
            generalize w4.alloc (.cells #[.int .i64 0, .int .i64 0, .slice none 0 0, .slice none 0 0] 24) = W5 at *
            go_wp2_with fail
            refine (HAt.out).mono ?_
            rintro e w6 ⟨rfl, rfl⟩
            go_wp2_with fail
            refine (HAw.out).mono ?_
            rintro e w6 ⟨rfl, o6⟩
            go_wp2
            go_ret
            exact ⟨rfl, HA.out.trans (HA5.out.trans o6)⟩
        · have HA4 : Hid (Only Nix Wa w4) := Lib.hid (HA3.out.then o4 (fun i e => .inr (by have : i = r := e; omega)))
          have HR4 := Lib.hid hR4
          have o5 := (Only.refl Nix w4).alloc (.cells #[iv m, iv o, .slice (some ⟨gp, 0, none⟩) Q Q, .slice (some ⟨gb, 0, none⟩) Q Q] 24)
          have B5 := Box.new w4 24 #[iv m, iv o, .slice (some ⟨gp, 0, none⟩) Q Q, .slice (some ⟨gb, 0, none⟩) Q Q]
          have HA5 := Lib.hid (HA4.out.trans o5)
          have HO5 := Lib.hid o5
          have D5 := HB1.out.only HA5.out (fun e => e)
          have h50 := D5.cell 0
          have h51 := D5.cell 1
          simp only [List.getElem?_toArray, List.getElem?_cons_zero, List.getElem?_cons_succ] at h50 h51
          clear D5
          have HHd := Lib.hid (headRef_any (w4.alloc (.cells #[iv m, iv o, .slice (some ⟨gp, 0, none⟩) Q Q, .slice (some ⟨gb, 0, none⟩) Q Q] 24)) 0 0 b s)
          have HB5 := Lib.hid B5
          have HP5 := Lib.hid (hP4.nix o5)
          have HW5 := Lib.hid (hW4.nix o5)
          have HL5 := Lib.hid (hL4.nix o5)
          have HR5 := Lib.hid (hR4.nix o5)
          have HS := Lib.hid hS
          have Hz := Lib.hid hz
          clear hR4 o4 HRd h30 h31 o5 B5 hP4 hW4 hL4 hS hz
          go_wp2_with fail
          refine (HHd.out).mono ?_
          rintro e w6 ⟨rfl, rfl⟩
          clear HHd
          generalize hW5 : w4.alloc (.cells #[iv m, iv o, .slice (some ⟨gp, 0, none⟩) Q Q, .slice (some ⟨gb, 0, none⟩) Q Q] 24) = W5 at *
          have HBi := Lib.hid (bitsRef_any (HB.out.nix HA5.out) (by rw [Hbl.out]; omega) H256.out)
          go_wp2_with fail
          refine (HBi.out).mono ?_
          rintro e w7 ⟨v7, rfl, hr7, o7⟩
          have HA7 := Lib.hid (HA5.out.trans o7)
          have HO7 := Lib.hid o7
          have D7 := HB1.out.only HA7.out (fun e => e)
          have h70 := D7.cell 0
          have h71 := D7.cell 1
          simp only [List.getElem?_toArray, List.getElem?_cons_zero, List.getElem?_cons_succ] at h70 h71
          clear D7
          have D7 := HB5.out.only o7 (fun e => e)
          have p70 := D7.cell 0
          have p71 := D7.cell 1
          have p72 := D7.cell 2
          have p73 := D7.cell 3
          simp only [List.getElem?_toArray, List.getElem?_cons_zero, List.getElem?_cons_succ] at p70 p71 p72 p73
          clear D7 HBi h50 h51
          have HR7 := Lib.hid hr7
          obtain ⟨A7, c7, hv7⟩ := owns_slice hr7
          subst hv7
          clear hr7 o7
          have HC7 : Hid (∀ u, Only Nix w7 u → (Only Nix w7 u ∧ u.cell? ⟨w.heap.size, 1, none⟩ = some (iv (s : Int)) ∧ u.cell? ⟨w4.heap.size, 0, none⟩ = some (iv m) ∧ u.cell? ⟨w4.heap.size, 1, none⟩ = some (iv o) ∧ u.cell? ⟨w4.heap.size, 2, none⟩ = some (.slice (some ⟨gp, 0, none⟩) Q Q) ∧ u.cell? ⟨w4.heap.size, 3, none⟩ = some (.slice (some ⟨gb, 0, none⟩) Q Q))) := Lib.hid (fun u o => ⟨o, cell_keep o h71, cell_keep o p70, cell_keep o p71, cell_keep o p72, cell_keep o p73⟩)
          have t12 : ∀ u, (Only Nix w7 u ∧ u.cell? ⟨w.heap.size, 1, none⟩ = some (iv (s : Int)) ∧ u.cell? ⟨w4.heap.size, 0, none⟩ = some (iv m) ∧ u.cell? ⟨w4.heap.size, 1, none⟩ = some (iv o) ∧ u.cell? ⟨w4.heap.size, 2, none⟩ = some (.slice (some ⟨gp, 0, none⟩) Q Q) ∧ u.cell? ⟨w4.heap.size, 3, none⟩ = some (.slice (some ⟨gb, 0, none⟩) Q Q)) → Calls Try.prog 12 #[(.agg #[iv m, iv o, .slice (some ⟨gp, 0, none⟩) Q Q, .slice (some ⟨gb, 0, none⟩) Q Q])] u fun e w' => e = .returned (.agg #[iv m, iv o, .slice (some ⟨gp, 0, none⟩) Q Q, .slice (some ⟨gb, 0, none⟩) Q Q]) ∧ (Only Nix w7 w' ∧ w'.cell? ⟨w.heap.size, 1, none⟩ = some (iv (s : Int)) ∧ w'.cell? ⟨w4.heap.size, 0, none⟩ = some (iv m) ∧ w'.cell? ⟨w4.heap.size, 1, none⟩ = some (iv o) ∧ w'.cell? ⟨w4.heap.size, 2, none⟩ = some (.slice (some ⟨gp, 0, none⟩) Q Q) ∧ w'.cell? ⟨w4.heap.size, 3, none⟩ = some (.slice (some ⟨gb, 0, none⟩) Q Q)) := fun u hu =>
            (plain_any u m o (some ⟨gp, 0, none⟩) (some ⟨gb, 0, none⟩) Q Q Q Q).mono fun e w' h => ⟨h.1, HC7.out _ (hu.1.trans h.2)⟩
          have t11 : ∀ u, (Only Nix w7 u ∧ u.cell? ⟨w.heap.size, 1, none⟩ = some (iv (s : Int)) ∧ u.cell? ⟨w4.heap.size, 0, none⟩ = some (iv m) ∧ u.cell? ⟨w4.heap.size, 1, none⟩ = some (iv o) ∧ u.cell? ⟨w4.heap.size, 2, none⟩ = some (.slice (some ⟨gp, 0, none⟩) Q Q) ∧ u.cell? ⟨w4.heap.size, 3, none⟩ = some (.slice (some ⟨gb, 0, none⟩) Q Q)) → Calls Try.prog 11 #[(.agg #[iv m, iv o, .slice (some ⟨gp, 0, none⟩) Q Q, .slice (some ⟨gb, 0, none⟩) Q Q]), iv (s : Int), .slice (some ⟨g, 0, none⟩) (b - s) (b - s)] u fun e w' => ∃ v, e = .returned (.tuple #[v, iv 0]) ∧ (Only Nix w7 w' ∧ w'.cell? ⟨w.heap.size, 1, none⟩ = some (iv (s : Int)) ∧ w'.cell? ⟨w4.heap.size, 0, none⟩ = some (iv m) ∧ w'.cell? ⟨w4.heap.size, 1, none⟩ = some (iv o) ∧ w'.cell? ⟨w4.heap.size, 2, none⟩ = some (.slice (some ⟨gp, 0, none⟩) Q Q) ∧ w'.cell? ⟨w4.heap.size, 3, none⟩ = some (.slice (some ⟨gb, 0, none⟩) Q Q)) ∧ Bitrow w' W5.heap.size v (outL m o ps ws s l) := fun u hu => by
            have h := bitsRef5_any m o (s : Int) (some ⟨g, 0, none⟩) (some ⟨gp, 0, none⟩) (some ⟨gb, 0, none⟩) (b - s) Q Q (b - s) Q Q ps ws l (by omega) (by omega) (HL5.out.nix (HO7.out.trans hu.1)) (HP5.out.nix (HO7.out.trans hu.1)) (HW5.out.nix (HO7.out.trans hu.1)) (by omega) (by omega)
            rw [Hz.out] at h
            refine h.mono fun e w' h => ?_
            obtain ⟨v, he, ho, hr, _⟩ := h
            exact ⟨v, he, HC7.out _ (hu.1.trans ho), ownsRow_le hr (HO7.out.trans hu.1).size⟩
          clear h70 h71 p70 p71 p72 p73
          go_wp2_with fail
          go_region_held3 (fun u => (Only Nix w7 u ∧ u.cell? ⟨w.heap.size, 1, none⟩ = some (iv (s : Int)) ∧ u.cell? ⟨w4.heap.size, 0, none⟩ = some (iv m) ∧ u.cell? ⟨w4.heap.size, 1, none⟩ = some (iv o) ∧ u.cell? ⟨w4.heap.size, 2, none⟩ = some (.slice (some ⟨gp, 0, none⟩) Q Q) ∧ u.cell? ⟨w4.heap.size, 3, none⟩ = some (.slice (some ⟨gb, 0, none⟩) Q Q))) (first | assumption | (refine HC7.out _ ?_; first | exact Only.refl _ _ | exact (Only.refl _ _).drew | assumption)) (first
            | (go_at_call 12; (with_reducible refine (t12 _ (by assumption)).mono ?_); rintro e w8 ⟨rfl, hs8⟩)
            | (go_at_call 11; (with_reducible refine (t11 _ (by assumption)).mono ?_); rintro e w9 ⟨v9, rfl, hs9, hr9⟩))
          have HO9 := Lib.hid (HO7.out.trans hs9.1)
          have HA9 := Lib.hid (HA7.out.trans hs9.1)
          have HR9 := Lib.hid (HR5.out.nix HO9.out)
          have HR10 := Lib.hid (owns_only HR7.out hs9.1 (fun _ _ e => e))
          have hlL := HS.out.1
          have Hb1 := Lib.hid HS.out.le1
          have hL6 : 0 < (outL m o ps ws s l).length := by
            unfold outL
            rw [if_pos Hz.out]
            unfold blockB
            rw [List.length_append, List.length_append, bitsN_len]
            omega
          generalize outL m o ps ws s l = L at *
          have hbs8 : bs.length ≤ 200 := by rw [Hbl.out]; omega
          obtain ⟨g7, rfl⟩ : ∃ g7, A7 = some ⟨g7, 0, none⟩ := by
            rcases HR10.out.2 with ⟨e, hn0⟩ | ⟨g4, cap, cur, hv9, _⟩
            · omega
            · injection hv9 with h8 _ _; exact ⟨g4, h8⟩
          have hc7 : 8 * bs.length ≤ c7 := by
            rcases HR10.out.2 with ⟨e, hn0⟩ | ⟨g4, cap, cur, hv9, _, _, hcc, _⟩
            · omega
            · injection hv9 with _ _ h8; omega
          have hI := isrc_piece HR10.out (by omega) HS.out (c7 - a) (by omega)
          rw [Addr.add_lit, Nat.zero_add] at hI
          have HI := Lib.hid hI
          clear hI
          have Hx := Lib.hid (isrc_bits hr9 Hb1.out (by omega))
          have HIn := Lib.hid (ints_yes Hx.out HI.out)
          have HAt := Lib.hid (at_any r (a + L.length) w9 HR9.out.cell0)
          obtain ⟨A9, c9, hv9⟩ := owns_slice hr9
          subst hv9
          have D9 := HB1.out.only HA9.out (fun e => e)
          have h90 := D9.cell 0
          have h91 := D9.cell 1
          simp only [List.getElem?_toArray, List.getElem?_cons_zero, List.getElem?_cons_succ] at h90 h91
          clear D9
          have hbs1 : (b : Int) - (s : Int) = ((b - s : Nat) : Int) := by omega
          have hle1 : decide ((a : Int) + (L.length : Int) ≤ 8 * (bs.length : Int)) = true := by simp; omega
          clear hs8 hs9 t11 t12 HC7 hr9 HR7 HB5 hW5
          generalize hd : b - s = d at *
          rw [Int.natCast_add] at HAt
          go_wp2_with fail
          refine (HAt.out).mono ?_
          rintro e w10 ⟨rfl, rfl⟩
          go_wp2_with fail
          refine (HAt.out).mono ?_
          rintro e w10 ⟨rfl, rfl⟩
          go_wp2_with fail
          refine (HAt.out).mono ?_
          rintro e w10 ⟨rfl, rfl⟩
          have hsb1 : (a : Int) ≤ (a : Int) + (L.length : Int) := by omega
          have hsb2 : (a : Int) + (L.length : Int) ≤ (c7 : Int) := by omega
          have hsb3 : ¬ c7 = a := by omega
          go_wp2_with fail
          refine (HIn.out).mono ?_
          rintro e w10 ⟨rfl, k10, rfl⟩
          have HA10 := Lib.hid (HA9.out.drewN k10)
          have HAw := Lib.hid (awake5 (w9.drewN k10))
          go_wp2_with fail
          refine (HAw.out).mono ?_
          rintro e w11 ⟨rfl, o11⟩
          go_wp2
          go_ret
          exact ⟨rfl, HA.out.trans (HA10.out.trans o11)⟩
      · have HckB : Hid (ckB x y ≠ 0) := Lib.hid hck
        have hck0 : ckH 0 0 x y = 1 := by
          unfold ckH
          unfold ckB at hck ⊢
          split at hck
          · rename_i g
            rw [if_pos g]
            rfl
          · exact absurd rfl hck
        have HCk := Lib.hid hck0
        clear hck hck0
        go_wp2_with fail
        refine (HNR.out).mono ?_
        rintro e w2 ⟨r, v, rfl, hR2, hN2, o2⟩
        have HA2 := Lib.hid o2
        have hrw : Wa.heap.size ≤ r := hN2.1
        have HSk := Lib.hid (seek_any hR2 t)
        clear hN2 o2 HNR d0 d1 hR2
        go_wp2_with fail
        refine (HSk.out).mono ?_
        rintro e w3 ⟨rfl, hR3, o3⟩
        have HA3 : Hid (Only Nix Wa w3) := Lib.hid (HA2.out.then o3 (fun i e => .inr (by have : i = r := e; omega)))
        generalize seekA bs 0 t = a at hR3
        have HR3 := Lib.hid hR3
        have HAt := Lib.hid (at_any r a w3 hR3.cell0)
        clear hR3 o3 HSk
        go_wp2_with fail
        refine (HAt.out).mono ?_
        rintro e w3' ⟨rfl, rfl⟩
        clear HAt
        have D3 := HB1.out.only HA3.out (fun e => e)
        have h30 := D3.cell 0
        have h31 := D3.cell 1
        simp only [List.getElem?_toArray, List.getElem?_cons_zero, List.getElem?_cons_succ] at h30 h31
        clear D3
        have HRd := Lib.hid (read_arg HR3.out x y HckB.out)
        go_wp2_with fail
        refine (HRd.out).mono ?_
        rintro e w4 ⟨rfl, hR4, o4⟩
        have HA4 : Hid (Only Nix Wa w4) := Lib.hid (HA3.out.then o4 (fun i e => .inr (by have : i = r := e; omega)))
        have HR4 := Lib.hid hR4
        have o5 := (Only.refl Nix w4).alloc (.cells #[.int .i64 0, .int .i64 0, .slice none 0 0, .slice none 0 0] 24)
        have HA5 := Lib.hid (HA4.out.trans o5)
        have D5 := HB1.out.only HA5.out (fun e => e)
        have h50 := D5.cell 0
        have h51 := D5.cell 1
        simp only [List.getElem?_toArray, List.getElem?_cons_zero, List.getElem?_cons_succ] at h50 h51
        clear D5
        have HHd := Lib.hid (headRef_any (w4.alloc (.cells #[.int .i64 0, .int .i64 0, .slice none 0 0, .slice none 0 0] 24)) 0 0 x y)
        have HAt := Lib.hid (at_any r a _ (HR4.out.nix o5).cell0)
        have HAw := Lib.hid (awake5 (w4.alloc (.cells #[.int .i64 0, .int .i64 0, .slice none 0 0, .slice none 0 0] 24)))
        rw [HCk.out] at HHd
        clear hR4 o4 HRd h30 h31 o5
        go_wp2_with fail
        refine (HHd.out).mono ?_
        rintro e w6 ⟨rfl, rfl⟩
        clear h50 h51 HHd
        generalize w4.alloc (.cells #[.int .i64 0, .int .i64 0, .slice none 0 0, .slice none 0 0] 24) = W5 at *
        go_wp2_with fail
        refine (HAt.out).mono ?_
        rintro e w6 ⟨rfl, rfl⟩
        go_wp2_with fail
        refine (HAw.out).mono ?_
        rintro e w6 ⟨rfl, o6⟩
        go_wp2
        go_ret
        exact ⟨rfl, HA.out.trans (HA5.out.trans o6)⟩
end Go.Proofs.Ytliemhadgbjjiaa
