/-
  Pictures: Write.
-/
import Derived.Test.YtphpciglpnbblaaDoorTPB
import Derived.Test.YtphpciglpnbblaaDoorTE
namespace Go.Proofs.YtphpciglpnbblaaDoor
open Go.RowKit Go.Shelf

/-- a picture's bytes -/
def wrP (p : Pc) (bs : List Nat) : List Nat := be 4 p.k.toNat ++ (be 4 p.m.size ++ (nb p.m ++ (be 4 p.t.size ++ (nb p.t ++ (be 4 p.w.toNat ++ (be 4 p.h.toNat ++ (be 4 p.b.toNat ++ (be 4 p.c.toNat ++ (be 4 bs.length ++ bs)))))))))
theorem pcE_cases (p : Pc) : pcE p = 0 ∨ pcE p = 10 ∨ pcE p = 12 := by
  unfold pcE
  split
  · split <;> simp
  · simp
theorem pcE_nat {p : Pc} (h : pcE p = 0) : isT p.t = true ∧ (nb p.m).all prB = true ∧ (0 ≤ p.k ∧ p.k ≤ 20) ∧ (0 ≤ p.w ∧ p.w ≤ 4294967295) ∧ (0 ≤ p.h ∧ p.h ≤ 4294967295) ∧ (0 ≤ p.b ∧ p.b ≤ 4294967295) ∧ (0 ≤ p.c ∧ p.c ≤ 4294967295) := by
  unfold pcE at h
  by_cases h1 : isT p.t = true ∧ (nb p.m).all prB = true
  · rw [if_pos h1] at h
    by_cases h2 : 0 ≤ p.k ∧ p.k ≤ 20 ∧ isW p.w = true ∧ isW p.h = true ∧ isW p.b = true ∧ isW p.c = true
    · obtain ⟨a, b, c, d, e, f⟩ := h2
      exact ⟨h1.1, h1.2, ⟨a, b⟩, of_decide_eq_true c, of_decide_eq_true d, of_decide_eq_true e, of_decide_eq_true f⟩
    · rw [if_neg h2] at h; omega
  · rw [if_neg h1] at h; omega
set_option maxRecDepth 100000 in
set_option maxHeartbeats 16000000 in
theorem pwrite_any {w : World} {p : Pc} {d : Value} {bs : List Nat} (hd : CSrc w d bs) (hm : p.m.size ≤ 20000) (ht : p.t.size ≤ 20000) (hb : bs.length ≤ 20000) (hT : Tabs w) :
    Calls Tryd.prog 15 #[pcV p d] w fun e w' => WtR w (pcE p) (wrP p bs) e w' := by
  obtain ⟨Ad, cd, rfl, hcd⟩ := hd.form
  have hsm := hd.src.small
  obtain ⟨W1, hW1⟩ : ∃ W1, w.alloc (.cells (pcc p (.slice Ad bs.length cd)) 40) = W1 := ⟨_, rfl⟩
  have b1 := Box.new w 40 (pcc p (.slice Ad bs.length cd))
  have a1 := Lib.hid ((Only.refl Nix w).alloc (.cells (pcc p (.slice Ad bs.length cd)) 40))
  rw [hW1] at b1 a1
  have HD0 := Lib.hid hd
  have HB := Lib.hid b1
  have H1 := Lib.hid (pcheck_any (p := p) (hd.nix a1.out) (by omega) (by omega) (by omega) (hT.nix a1.out))
  have HS : Hid (∀ u, Only Nix W1 u → Calls Tryd.prog 37 #[pcV p (.slice Ad bs.length cd)] u fun e w' => e = .returned (iv ((32 + p.m.size + p.t.size + bs.length : Nat) : Int)) ∧ Only Nix u w') := Lib.hid (fun u hu => psize_any ((hd.nix a1.out).nix hu) (by omega) (by omega) (by omega))
  have Hm := Lib.hid hm
  have Ht := Lib.hid ht
  have Hb := Lib.hid hb
  have hZ80 : 32 + p.m.size + p.t.size + bs.length ≤ 80000 := by omega
  generalize 32 + p.m.size + p.t.size + bs.length = Z at *
  clear b1 hd hm ht hb hT hcd
  by_cases hE : pcE p = 0
  · obtain ⟨_, _, q0, q3, q4, q5, q6⟩ := pcE_nat hE
    rw [hE] at H1 ⊢
    obtain ⟨K, hK⟩ := Int.eq_ofNat_of_zero_le q0.1
    obtain ⟨Nw, hNw⟩ := Int.eq_ofNat_of_zero_le q3.1
    obtain ⟨Nh, hNh⟩ := Int.eq_ofNat_of_zero_le q4.1
    obtain ⟨Nb, hNb⟩ := Int.eq_ofNat_of_zero_le q5.1
    obtain ⟨Nc, hNc⟩ := Int.eq_ofNat_of_zero_le q6.1
    have HWr : Hid (wrP p bs = be 4 K ++ (be 4 p.m.size ++ (nb p.m ++ (be 4 p.t.size ++ (nb p.t ++ (be 4 Nw ++ (be 4 Nh ++ (be 4 Nb ++ (be 4 Nc ++ (be 4 bs.length ++ bs)))))))))) := Lib.hid (by unfold wrP; rw [hK, hNw, hNh, hNb, hNc]; rfl)
    have HBx := HB
    unfold pcc at HB
    rw [hK, hNw, hNh, hNb, hNc] at HB
    rw [hK] at q0
    rw [hNw] at q3
    rw [hNh] at q4
    rw [hNb] at q5
    rw [hNc] at q6
    have QK : Hid (K < 9223372036854775808 ∧ Nw < 9223372036854775808 ∧ Nh < 9223372036854775808 ∧ Nb < 9223372036854775808 ∧ Nc < 9223372036854775808) := Lib.hid (by omega)
    clear q0 q3 q4 q5 q6 hK hNw hNh hNb hNc hE
    have HmS : Hid ((nb p.m).length = p.m.size) := Lib.hid (nb_len _)
    have HtS : Hid ((nb p.t).length = p.t.size) := Lib.hid (nb_len _)
    go_enter Tryd.func15, Tryd.ntmps15
    go_wp2_with (first
      | (refine load_pic rfl (.tmp 1) rfl w.heap.size p (.slice Ad bs.length cd) rfl HBx.out ?_)
      | fail)
    refine (H1.out).mono ?_
    rintro e w2 ⟨rfl, ho⟩
    have HO2 := Lib.hid ho
    have HBx2 := Lib.hid (HBx.out.only ho (fun e => e))
    have HN := Lib.hid (HS.out w2 ho)
    clear ho
    go_wp2_with (first
      | (refine load_pic rfl (.tmp 1) rfl w.heap.size p (.slice Ad bs.length cd) rfl HBx2.out ?_)
      | fail)
    refine (HN.out).mono ?_
    rintro e w3 ⟨rfl, ho⟩
    have HO3 := Lib.hid (HO2.out.trans ho)
    clear ho
    have hmk := (makes w3 w.heap.size Z (Nat.le_trans a1.out.size HO3.out.size) (by omega)).1
    have HM0 := Lib.hid (makes w3 w.heap.size Z (Nat.le_trans a1.out.size HO3.out.size) (by omega)).2
    have HO4 := Lib.hid ((a1.out.trans HO3.out).alloc (.cells (madeCells #[.int .u8 0] Z) 5))
    have hb3 := (HB.out.only HO3.out (fun e => e)).alloc (.cells (madeCells #[.int .u8 0] Z) 5)
    obtain ⟨U0, hU0⟩ : ∃ U0, w3.alloc (.cells (madeCells #[.int .u8 0] Z) 5) = U0 := ⟨_, rfl⟩
    rw [hU0] at hmk HM0 HO4 hb3
    have HB0 := Lib.hid hb3
    have k0 : U0.cell? ⟨w.heap.size, 0, none⟩ = some (iv K) := hb3.cell 0
    clear hb3
    have HP1 := Lib.hid (put_any 4 (K) HM0.out HO4.out.size (by decide) QK.out.1 (by simp))
    rw [show ((4 : Nat) : Int) = 4 from rfl] at HP1
    go_wp2_with fail
    refine (HP1.out).mono ?_
    rintro e U1 ⟨v1, rfl, hr, ho, hmv⟩
    have hoR := ho
    have HO5 := Lib.hid (row_nix HO4.out ho (fun g hg => (HM0.out.lt hg).1))
    have hbn := HB0.out.only ho (owns_box HM0.out HB0.out (by decide))
    have HB1 := Lib.hid hbn
    have m1 : U1.cell? ⟨w.heap.size, 1, none⟩ = some (.string p.m) := hbn.cell 1
    obtain ⟨X1, hX⟩ : ∃ X, [] ++ be 4 (K) = X := ⟨_, rfl⟩
    rw [hX] at hr
    have HXl1 : Hid (X1.length = 4) := Lib.hid (by rw [← hX, List.length_append]; rw [be_len]; rfl)
    have HX1 := Lib.hid hX
    have HM1 := Lib.hid hr
    clear hr ho hX hbn hmv hoR k0
    have HP2 := Lib.hid (put_any 4 (p.m.size) HM1.out HO5.out.size (by decide) (by have := Hm.out; have := Ht.out; have := Hb.out; omega) (by have := HXl1.out; have := Hm.out; have := Ht.out; omega))
    rw [show ((4 : Nat) : Int) = 4 from rfl] at HP2
    go_wp2_with fail
    refine (HP2.out).mono ?_
    rintro e U2 ⟨v2, rfl, hr, ho, hmv⟩
    have hoR := ho
    have HO6 := Lib.hid (row_nix HO5.out ho (fun g hg => (HM1.out.lt hg).1))
    have hbn := HB1.out.only ho (owns_box HM1.out HB1.out (by decide))
    have HB2 := Lib.hid hbn
    have m2 : U2.cell? ⟨w.heap.size, 1, none⟩ = some (.string p.m) := hbn.cell 1
    obtain ⟨X2, hX⟩ : ∃ X, X1 ++ be 4 (p.m.size) = X := ⟨_, rfl⟩
    rw [hX] at hr
    have HXl2 : Hid (X2.length = 8) := Lib.hid (by rw [← hX, List.length_append]; rw [be_len]; have := HXl1.out; omega)
    have HX2 := Lib.hid hX
    have HM2 := Lib.hid hr
    clear hr ho hX hbn hmv hoR m1
    go_wp2_with (at_builtin; refine app_str rfl (.tmp 23) (.tmp 25) rfl w.heap.size v2 X2 rfl HM2.out p.m rfl ?len3 HO6.out.size ?rest3)
    case len3 => have := HXl2.out; have := Hm.out; have := Ht.out; omega
    case rest3 =>
      intro v3 U3 hr hg hmv0
      obtain ⟨ho, hmv⟩ := grow_row0 hg hmv0
      have HO7 := Lib.hid (row_nix HO6.out ho (fun g hg => (HM2.out.lt hg).1))
      have hbn := HB2.out.only ho (owns_box HM2.out HB2.out (by decide))
      have HB3 := Lib.hid hbn
      have m3 : U3.cell? ⟨w.heap.size, 2, none⟩ = some (.string p.t) := hbn.cell 2
      obtain ⟨X3, hX⟩ : ∃ X, X2 ++ nb p.m = X := ⟨_, rfl⟩
      rw [hX] at hr
      have HXl3 : Hid (X3.length = 8 + p.m.size) := Lib.hid (by rw [← hX, List.length_append]; rw [nb_len]; have := HXl2.out; omega)
      have HX3 := Lib.hid hX
      have HM3 := Lib.hid hr
      clear hr ho hX hbn hmv hg hmv0 m2
      have HP4 := Lib.hid (put_any 4 (p.t.size) HM3.out HO7.out.size (by decide) (by have := Hm.out; have := Ht.out; have := Hb.out; omega) (by have := HXl3.out; have := Hm.out; have := Ht.out; omega))
      rw [show ((4 : Nat) : Int) = 4 from rfl] at HP4
      go_wp2_with fail
      refine (HP4.out).mono ?_
      rintro e U4 ⟨v4, rfl, hr, ho, hmv⟩
      have hoR := ho
      have HO8 := Lib.hid (row_nix HO7.out ho (fun g hg => (HM3.out.lt hg).1))
      have hbn := HB3.out.only ho (owns_box HM3.out HB3.out (by decide))
      have HB4 := Lib.hid hbn
      have m4 : U4.cell? ⟨w.heap.size, 2, none⟩ = some (.string p.t) := hbn.cell 2
      obtain ⟨X4, hX⟩ : ∃ X, X3 ++ be 4 (p.t.size) = X := ⟨_, rfl⟩
      rw [hX] at hr
      have HXl4 : Hid (X4.length = 12 + p.m.size) := Lib.hid (by rw [← hX, List.length_append]; rw [be_len]; have := HXl3.out; omega)
      have HX4 := Lib.hid hX
      have HM4 := Lib.hid hr
      clear hr ho hX hbn hmv hoR m3
      go_wp2_with (at_builtin; refine app_str rfl (.tmp 32) (.tmp 34) rfl w.heap.size v4 X4 rfl HM4.out p.t rfl ?len5 HO8.out.size ?rest5)
      case len5 => have := HXl4.out; have := Hm.out; have := Ht.out; omega
      case rest5 =>
        intro v5 U5 hr hg hmv0
        obtain ⟨ho, hmv⟩ := grow_row0 hg hmv0
        have HO9 := Lib.hid (row_nix HO8.out ho (fun g hg => (HM4.out.lt hg).1))
        have hbn := HB4.out.only ho (owns_box HM4.out HB4.out (by decide))
        have HB5 := Lib.hid hbn
        have m5 : U5.cell? ⟨w.heap.size, 3, none⟩ = some (iv Nw) := hbn.cell 3
        obtain ⟨X5, hX⟩ : ∃ X, X4 ++ nb p.t = X := ⟨_, rfl⟩
        rw [hX] at hr
        have HXl5 : Hid (X5.length = 12 + p.m.size + p.t.size) := Lib.hid (by rw [← hX, List.length_append]; rw [nb_len]; have := HXl4.out; omega)
        have HX5 := Lib.hid hX
        have HM5 := Lib.hid hr
        clear hr ho hX hbn hmv hg hmv0 m4
        have HP6 := Lib.hid (put_any 4 (Nw) HM5.out HO9.out.size (by decide) QK.out.2.1 (by have := HXl5.out; have := Hm.out; have := Ht.out; omega))
        rw [show ((4 : Nat) : Int) = 4 from rfl] at HP6
        go_wp2_with fail
        refine (HP6.out).mono ?_
        rintro e U6 ⟨v6, rfl, hr, ho, hmv⟩
        have hoR := ho
        have HO10 := Lib.hid (row_nix HO9.out ho (fun g hg => (HM5.out.lt hg).1))
        have hbn := HB5.out.only ho (owns_box HM5.out HB5.out (by decide))
        have HB6 := Lib.hid hbn
        have m6 : U6.cell? ⟨w.heap.size, 4, none⟩ = some (iv Nh) := hbn.cell 4
        obtain ⟨X6, hX⟩ : ∃ X, X5 ++ be 4 (Nw) = X := ⟨_, rfl⟩
        rw [hX] at hr
        have HXl6 : Hid (X6.length = 16 + p.m.size + p.t.size) := Lib.hid (by rw [← hX, List.length_append]; rw [be_len]; have := HXl5.out; omega)
        have HX6 := Lib.hid hX
        have HM6 := Lib.hid hr
        clear hr ho hX hbn hmv hoR m5
        have HP7 := Lib.hid (put_any 4 (Nh) HM6.out HO10.out.size (by decide) QK.out.2.2.1 (by have := HXl6.out; have := Hm.out; have := Ht.out; omega))
        rw [show ((4 : Nat) : Int) = 4 from rfl] at HP7
        go_wp2_with fail
        refine (HP7.out).mono ?_
        rintro e U7 ⟨v7, rfl, hr, ho, hmv⟩
        have hoR := ho
        have HO11 := Lib.hid (row_nix HO10.out ho (fun g hg => (HM6.out.lt hg).1))
        have hbn := HB6.out.only ho (owns_box HM6.out HB6.out (by decide))
        have HB7 := Lib.hid hbn
        have m7 : U7.cell? ⟨w.heap.size, 5, none⟩ = some (iv Nb) := hbn.cell 5
        obtain ⟨X7, hX⟩ : ∃ X, X6 ++ be 4 (Nh) = X := ⟨_, rfl⟩
        rw [hX] at hr
        have HXl7 : Hid (X7.length = 20 + p.m.size + p.t.size) := Lib.hid (by rw [← hX, List.length_append]; rw [be_len]; have := HXl6.out; omega)
        have HX7 := Lib.hid hX
        have HM7 := Lib.hid hr
        clear hr ho hX hbn hmv hoR m6
        have HP8 := Lib.hid (put_any 4 (Nb) HM7.out HO11.out.size (by decide) QK.out.2.2.2.1 (by have := HXl7.out; have := Hm.out; have := Ht.out; omega))
        rw [show ((4 : Nat) : Int) = 4 from rfl] at HP8
        go_wp2_with fail
        refine (HP8.out).mono ?_
        rintro e U8 ⟨v8, rfl, hr, ho, hmv⟩
        have hoR := ho
        have HO12 := Lib.hid (row_nix HO11.out ho (fun g hg => (HM7.out.lt hg).1))
        have hbn := HB7.out.only ho (owns_box HM7.out HB7.out (by decide))
        have HB8 := Lib.hid hbn
        have m8 : U8.cell? ⟨w.heap.size, 6, none⟩ = some (iv Nc) := hbn.cell 6
        obtain ⟨X8, hX⟩ : ∃ X, X7 ++ be 4 (Nb) = X := ⟨_, rfl⟩
        rw [hX] at hr
        have HXl8 : Hid (X8.length = 24 + p.m.size + p.t.size) := Lib.hid (by rw [← hX, List.length_append]; rw [be_len]; have := HXl7.out; omega)
        have HX8 := Lib.hid hX
        have HM8 := Lib.hid hr
        clear hr ho hX hbn hmv hoR m7
        have HP9 := Lib.hid (put_any 4 (Nc) HM8.out HO12.out.size (by decide) QK.out.2.2.2.2 (by have := HXl8.out; have := Hm.out; have := Ht.out; omega))
        rw [show ((4 : Nat) : Int) = 4 from rfl] at HP9
        go_wp2_with fail
        refine (HP9.out).mono ?_
        rintro e U9 ⟨v9, rfl, hr, ho, hmv⟩
        have hoR := ho
        have HO13 := Lib.hid (row_nix HO12.out ho (fun g hg => (HM8.out.lt hg).1))
        have hbn := HB8.out.only ho (owns_box HM8.out HB8.out (by decide))
        have HB9 := Lib.hid hbn
        have m9 : U9.cell? ⟨w.heap.size, 7, none⟩ = some (.slice Ad bs.length cd) := hbn.cell 7
        obtain ⟨X9, hX⟩ : ∃ X, X8 ++ be 4 (Nc) = X := ⟨_, rfl⟩
        rw [hX] at hr
        have HXl9 : Hid (X9.length = 28 + p.m.size + p.t.size) := Lib.hid (by rw [← hX, List.length_append]; rw [be_len]; have := HXl8.out; omega)
        have HX9 := Lib.hid hX
        have HM9 := Lib.hid hr
        clear hr ho hX hbn hmv hoR m8
        have HP10 := Lib.hid (put_any 4 (bs.length) HM9.out HO13.out.size (by decide) (by have := Hm.out; have := Ht.out; have := Hb.out; omega) (by have := HXl9.out; have := Hm.out; have := Ht.out; omega))
        rw [show ((4 : Nat) : Int) = 4 from rfl] at HP10
        go_wp2_with fail
        refine (HP10.out).mono ?_
        rintro e U10 ⟨v10, rfl, hr, ho, hmv⟩
        have hoR := ho
        have HO14 := Lib.hid (row_nix HO13.out ho (fun g hg => (HM9.out.lt hg).1))
        have hbn := HB9.out.only ho (owns_box HM9.out HB9.out (by decide))
        have HB10 := Lib.hid hbn
        have m10 : U10.cell? ⟨w.heap.size, 7, none⟩ = some (.slice Ad bs.length cd) := hbn.cell 7
        obtain ⟨X10, hX⟩ : ∃ X, X9 ++ be 4 (bs.length) = X := ⟨_, rfl⟩
        rw [hX] at hr
        have HXl10 : Hid (X10.length = 32 + p.m.size + p.t.size) := Lib.hid (by rw [← hX, List.length_append]; rw [be_len]; have := HXl9.out; omega)
        have HX10 := Lib.hid hX
        have HM10 := Lib.hid hr
        clear hr ho hX hbn hmv hoR m9
        go_wp2_with (at_builtin; refine wpList_append_bytes rfl (.tmp 57) (.tmp 59) rfl w.heap.size v10 _ _ rfl HM10.out Ad bs.length cd bs rfl (HD0.out.nix HO14.out).src ?len11 HO14.out.size ?rest11)
        case len11 => have := HXl10.out; have := Hm.out; have := Ht.out; have := Hb.out; omega
        case rest11 =>
          intro v11 U11 hr hg hmv0
          obtain ⟨ho, hmv⟩ := grow_row0 hg hmv0
          have HO15 := Lib.hid (row_nix HO14.out ho (fun g hg => (HM10.out.lt hg).1))
          have HF : Hid (WtR w 0 (wrP p bs) (.returned (.tuple #[v11, iv 0])) U11) := Lib.hid ⟨⟨_, rfl, by
            rw [if_pos rfl, HWr.out]
            have hr' : Owns U11 w.heap.size 5 byt v11 (X10 ++ bs) := by
              unfold Owns
              rw [List.length_append, List.map_append]
              exact hr
            rw [← HX10.out, ← HX9.out, ← HX8.out, ← HX7.out, ← HX6.out, ← HX5.out, ← HX4.out, ← HX3.out, ← HX2.out, ← HX1.out] at hr'
            simpa only [List.append_assoc, List.nil_append] using hr'⟩, HO15.out⟩
          clear hr ho hmv hg hmv0
          go_wp2
          go_ret2
          exact HF.out
  · have hE2 := pcE_cases p
    have hne : ¬ pcE p = 0 := hE
    generalize pcE p = E at *
    go_enter Tryd.func15, Tryd.ntmps15
    go_wp2_with (first
      | (refine load_pic rfl (.tmp 1) rfl w.heap.size p (.slice Ad bs.length cd) rfl HB.out ?_)
      | fail)
    refine (H1.out).mono ?_
    rintro e w2 ⟨rfl, ho⟩
    have HF : Hid (WtR w E (wrP p bs) (.returned (.tuple #[.slice none 0 0, iv E])) w2) := Lib.hid ⟨⟨_, rfl, by rw [if_neg hne]; exact Owns.nil _ _ _ _⟩, a1.out.trans ho⟩
    clear ho
    go_wp2
    go_ret2
    exact HF.out
end Go.Proofs.YtphpciglpnbblaaDoor
