/-
  SubframeReads: its walk.
-/
import Derived.Test.YteklfkpeaadinaaGreatDoorPBS30
import Derived.Test.YteklfkpeaadinaaGreatDoorPBS32
import Derived.Test.YteklfkpeaadinaaGreatDoorPBS18
import Derived.Test.YteklfkpeaadinaaGreatDoorPBS21
import Derived.Deep.RegionHeld3
namespace Go.Proofs.YteklfkpeaadinaaGreatDoor.S
open Go.RowKit Go.Shelf
open K (linV fx)
set_option maxRecDepth 100000 in
set_option maxHeartbeats 4000000 in
theorem sread_arg {w : World} (r : Nat) (b d : Int) (h : ckBlk b d ≠ 0) :
    Calls Tryz.prog 15 #[.pointer (some ⟨r, 0, none⟩), iv b, iv d] w fun e w' => e = .returned (.tuple #[.slice none 0 0, zP, iv 1]) ∧ Only Nix w w' := by
  obtain ⟨Wa, hWa⟩ : ∃ Wa, w.alloc (.cells zC 28) = Wa := ⟨_, rfl⟩
  have a0 := (Only.refl Nix w).alloc (.cells zC 28)
  have bq := Box.new w 28 zC
  rw [hWa] at a0 bq
  have HCk := Lib.hid (checkBlock_any Wa b d)
  have hck : ckBlk b d = 1 := by
    unfold ckBlk at h ⊢
    split at h
    · rename_i g; rw [if_pos g]
    · exact absurd rfl h
  rw [hck] at HCk
  have HA := Lib.hid a0
  have HBq := Lib.hid bq
  clear a0 bq hck h
  go_enter Tryz.func15, Tryz.ntmps15
  go_wp2_with fail
  refine (HCk.out).mono ?_
  rintro e w1 ⟨rfl, rfl⟩
  go_wp2_with (refine wpList_store_row rfl 28 (.tmp 7) (.tmp 22) rfl rfl w.heap.size 28 zC zC rfl rfl HBq.out Tryz.size_plan rfl (spC_one _ _ _ _ _ _ _ _ _ _ _ _ _ _ _ _) ?st)
  case st =>
    intro w4 hb4 ho4
    have HO : Hid (Only Nix w w4) := Lib.hid (HA.out.then ho4 (fun i e => .inr (by cases e; exact Nat.le_refl _)))
    have y0 := hb4.cell 0
    have y1 := hb4.cell 1
    have y2 := hb4.cell 2
    have y3 := hb4.cell 3
    have y4 := hb4.cell 4
    have y5 := hb4.cell 5
    have y6 := hb4.cell 6
    have y7 := hb4.cell 7
    have y8 := hb4.cell 8
    have y9 := hb4.cell 9
    simp only [List.getElem?_toArray, List.getElem?_cons_zero, List.getElem?_cons_succ] at y0 y1 y2 y3 y4 y5 y6 y7 y8 y9
    clear hb4 ho4
    go_wp2
    refine bodyPost_ret (v := .tuple #[.slice none 0 0, zP, iv 1]) ?_ rfl ?_
    · simp [results, Tryz.f15, go_sem, y0, y1, y2, y3, y4, y5, y6, y7, y8, y9]
    exact ⟨rfl, HO.out⟩
set_option maxRecDepth 100000 in
set_option maxHeartbeats 8000000 in
theorem subframeReads_walk {w : World} (hLd : Laid w) (hT : Tab w) (A : Option Addr) (n c : Nat) (bs : List Nat) (t x y : Int) (hb : Src w (.slice A n c) bs) (hbl : bs.length = n) (h256 : ∀ z ∈ bs, z < 256) :
    Calls Tryz.prog 4 #[.slice A n c, iv t, .agg #[iv x, iv y]] w fun e w' => e = .returned (.bool true) ∧ Only Nix w w' := by
  have sz1 := hb.small
  rw [hbl] at sz1
  obtain ⟨Wa, hWa⟩ : ∃ Wa, w.alloc (.cells #[iv x, iv y] 48) = Wa := ⟨_, rfl⟩
  have a0 := (Only.refl Nix w).alloc (.cells #[iv x, iv y] 48)
  have B1 := Box.new w 48 #[iv x, iv y]
  have hszA : Wa.heap.size = w.heap.size + 1 := by rw [← hWa]; simp
  rw [hWa] at a0 B1
  have HB := Lib.hid (hb.nix a0)
  have HA := Lib.hid a0
  have HB1 := Lib.hid B1
  have H256 := Lib.hid h256
  have Hbl := Lib.hid hbl
  have HLd := Lib.hid (hLd.nix a0)
  have d0 := B1.cell 0
  have d1 := B1.cell 1
  simp only [List.getElem?_toArray, List.getElem?_cons_zero, List.getElem?_cons_succ] at d0 d1
  have HAw : Hid (∀ u, Only Nix Wa u → Calls Tryz.prog 8 #[] u fun e w' => e = .returned (.bool true) ∧ Only Nix u w') := Lib.hid (fun u hu => awake7 ((hLd.nix a0).nix hu) ((hT.nix a0).nix hu))
  clear hb a0 B1 h256 hbl hLd hT
  go_enter Tryz.func4, Tryz.ntmps4
  by_cases hn2 : 200 < n
  · have hn3 : decide ((200 : Int) < (n : Int)) = true := by simp; omega
    go_wp2_with fail
    refine (HAw.out _ (Only.refl _ _)).mono ?_
    rintro e wz ⟨rfl, oz⟩
    have HFin := Lib.hid (HA.out.trans oz)
    go_wp2
    go_ret
    exact ⟨rfl, HFin.out⟩
  have hn3 : decide ((200 : Int) < (n : Int)) = false := by simp; omega
  by_cases hx : 100 < x ∧ x ≤ 65535
  · have hx1 : decide (100 < x) = true := by simpa using hx.1
    have hx2 : decide (x ≤ 65535) = true := by simpa using hx.2
    clear hx
    go_wp2_with fail
    refine (HAw.out _ (Only.refl _ _)).mono ?_
    rintro e wz ⟨rfl, oz⟩
    have HFin := Lib.hid (HA.out.trans oz)
    go_wp2
    go_ret
    exact ⟨rfl, HFin.out⟩
  have HNR := Lib.hid (newReader_any HB.out H256.out)
  by_cases hck : ckBlk x y = 0
  · have hD : 4 ≤ y ∧ y ≤ 33 ∧ 1 ≤ x ∧ x ≤ 65535 := by
      unfold ckBlk at hck
      split at hck
      · cases hck
      · omega
    obtain ⟨b, hbE⟩ := Int.eq_ofNat_of_zero_le (show 0 ≤ x by omega)
    have hbE : x = (b : Int) := hbE
    obtain ⟨d, hdE⟩ := Int.eq_ofNat_of_zero_le (show 0 ≤ y by omega)
    have hdE : y = (d : Int) := hdE
    subst hbE hdE
    have hx1 : decide ((100 : Int) < (b : Int)) = false := by simp; omega
    have hd4 : 4 ≤ d := by omega
    have hd33 : d ≤ 33 := by omega
    have hb1 : 1 ≤ b := by omega
    have hb100 : b ≤ 100 := by omega
    have z1 : ¬ (b : Int) < 1 := by omega
    have z2 : ¬ 65535 < (b : Int) := by omega
    have z3 : ¬ (d : Int) < 4 := by omega
    have z4 : ¬ 33 < (d : Int) := by omega
    clear hx hck hD
    go_wp2_with fail
    refine (HNR.out).mono ?_
    rintro e w2 ⟨r, v, rfl, hR2, hN2, o2⟩
    have HA2 := Lib.hid o2
    have hrw : Wa.heap.size ≤ r := hN2.1
    have HSk := Lib.hid (seek_any hR2 t)
    clear hN2 o2 HNR d0 d1 hR2
    go_wp2_with fail
    refine (HSk.out).mono ?_
    rintro e w3 ⟨rfl, hR3, o3⟩
    have HA3 : Hid (Only Nix Wa w3) := Lib.hid (HA2.out.then o3 (fun i e => .inr (by have : i = r := e; omega)))
    generalize seekA bs 0 t = a at hR3
    have HR3 := Lib.hid hR3
    have HAt := Lib.hid (at_any r a w3 hR3.cell0)
    clear hR3 o3 HSk
    go_wp2_with fail
    refine (HAt.out).mono ?_
    rintro e w3' ⟨rfl, rfl⟩
    clear HAt
    have D3 := HB1.out.only HA3.out (fun e => e)
    have h30 := D3.cell 0
    have h31 := D3.cell 1
    simp only [List.getElem?_toArray, List.getElem?_cons_zero, List.getElem?_cons_succ] at h30 h31
    clear D3
    have HRd := Lib.hid (sread_any HR3.out (fun u hu => (HLd.out.nix HA3.out).only hu (fun e => by
      have := HLd.out.lt
      have : 0 = r := e
      omega)) b d hb1 (by omega) hd4 hd33)
    go_wp2_with fail
    refine (HRd.out).mono ?_
    rintro e w4 (⟨E, rfl, hE, hR4, o4, _⟩ | ⟨k, o, wd, lp, ls, cs, m, ro, ps, ws, l, a', A', Ac, Ap, Ab, n', c', nc, cc, np, cp, nb, cb, rfl, hok, s1, s2, s3, s4, hR4, o4⟩)
    · have HA4 : Hid (Only Nix Wa w4) := Lib.hid (HA3.out.then o4 (fun i e => .inr (by have : i = r := e; omega)))
      have HR4 := Lib.hid hR4
      clear hR4 o4 HRd
      go_wp2_with (refine wpList_store_row rfl 28 (.tmp 10) (.tmp 46) rfl rfl w4.heap.size 28 zC (zC) rfl rfl (Box.new w4 _ _) Tryz.size_plan rfl (spC_one _ _ _ _ _ _ _ _ _ _ _ _ _ _ _ _) ?st1)
      case st1 =>
        intro w5 hb5 ho5
        have o45 : Only Nix w4 w5 := ((Only.refl Nix w4).alloc _).then ho5 (fun i e => .inr (by cases e; exact Nat.le_refl _))
        have HA5 := Lib.hid (HA4.out.trans o45)
        have HR5 := Lib.hid (HR4.out.nix o45)
        have D5 := HB1.out.only HA5.out (fun e => e)
        have h50 := D5.cell 0
        have h51 := D5.cell 1
        simp only [List.getElem?_toArray, List.getElem?_cons_zero, List.getElem?_cons_succ] at h50 h51
        clear D5 h30 h31
        have HAt := Lib.hid (at_any r a _ HR5.out.cell0)
        clear hb5 ho5 o45
        rcases hE with rfl | rfl | rfl | rfl
        all_goals
          go_wp2_with fail
          refine (HAt.out).mono ?_
          rintro e w6 ⟨rfl, rfl⟩
          go_wp2_with fail
          refine (HAw.out _ HA5.out).mono ?_
          rintro e wz ⟨rfl, oz⟩
          have HFin := Lib.hid (HA.out.trans (HA5.out.trans oz))
          go_wp2
          go_ret
          exact ⟨rfl, HFin.out⟩
    · have HA4 : Hid (Only Nix Wa w4) := Lib.hid (HA3.out.then o4 (fun i e => .inr (by have : i = r := e; omega)))
      have HR4 := Lib.hid hR4
      obtain ⟨hE0, hll, hSe, hae⟩ := ch_forth hok hb1 (by omega) hd4 hd33
      have hn' := s1.src.len
      obtain rfl : n' = b := by omega
      have Hs1 := Lib.hid s1.src
      have Hs2 := Lib.hid s2.src
      have Hs3 := Lib.hid s3.src
      have Hs4 := Lib.hid s4.src
      have HE0 := Lib.hid hE0
      have HS := Lib.hid hSe
      have hL6 : 0 < (chB k o wd lp ls m ro cs ps ws d l).length := by
        unfold chB headB
        rw [List.length_append, List.length_append, bitsN_len]
        omega
      have Hae := Lib.hid hae
      clear hR4 o4 HRd s1 s2 s3 s4 hE0 hSe hae hok hn' hll
      go_wp2_with (refine wpList_store_row rfl 28 (.tmp 10) (.tmp 46) rfl rfl w4.heap.size 28 zC (spC k o wd lp ls (.slice Ac nc cc) m ro (.slice Ap np cp) (.slice Ab nb cb)) rfl rfl (Box.new w4 _ _) Tryz.size_plan rfl (spC_one _ _ _ _ _ _ _ _ _ _ _ _ _ _ _ _) ?st2)
      case st2 =>
        intro w5 hb5 ho5
        have o45 : Only Nix w4 w5 := ((Only.refl Nix w4).alloc _).then ho5 (fun i e => .inr (by cases e; exact Nat.le_refl _))
        have HA5 := Lib.hid (HA4.out.trans o45)
        have HR5 := Lib.hid (HR4.out.nix o45)
        have D5 := HB1.out.only HA5.out (fun e => e)
        have h50 := D5.cell 0
        have h51 := D5.cell 1
        simp only [List.getElem?_toArray, List.getElem?_cons_zero, List.getElem?_cons_succ] at h50 h51
        clear D5 h30 h31
        have Hb5 := Lib.hid hb5
        have H5s : Hid (Only Nix w4 w5) := Lib.hid o45
        clear hb5 ho5 o45
        have HBi := Lib.hid (bitsRef_any (HB.out.nix HA5.out) (by rw [Hbl.out]; omega) H256.out)
        go_wp2_with fail
        refine (HBi.out).mono ?_
        rintro e w7 ⟨v7, rfl, hr7, o7⟩
        have HA7 := Lib.hid (HA5.out.trans o7)
        have HO7 := Lib.hid (H5s.out.trans o7)
        have H57 := Lib.hid o7
        have D7 := HB1.out.only HA7.out (fun e => e)
        have h70 := D7.cell 0
        have h71 := D7.cell 1
        simp only [List.getElem?_toArray, List.getElem?_cons_zero, List.getElem?_cons_succ] at h70 h71
        clear D7
        have D7 := Hb5.out.only o7 (fun e => e)
        have p70 := D7.cell 0
        have p71 := D7.cell 1
        have p72 := D7.cell 2
        have p73 := D7.cell 3
        have p74 := D7.cell 4
        have p75 := D7.cell 5
        have p76 := D7.cell 6
        have p77 := D7.cell 7
        have p78 := D7.cell 8
        have p79 := D7.cell 9
        simp only [List.getElem?_toArray, List.getElem?_cons_zero, List.getElem?_cons_succ] at p70 p71 p72 p73 p74 p75 p76 p77 p78 p79
        clear D7 HBi h50 h51
        have HR7 := Lib.hid hr7
        obtain ⟨A7, c7, hv7⟩ := owns_slice hr7
        subst hv7
        clear hr7 o7
        have HC7 : Hid (∀ u, Only Nix w7 u → (Only Nix w7 u ∧ u.cell? ⟨w.heap.size, 1, none⟩ = some (iv (d : Int)) ∧ u.cell? ⟨w4.heap.size, 0, none⟩ = some (iv (k : Int)) ∧ u.cell? ⟨w4.heap.size, 1, none⟩ = some (iv (o : Int)) ∧ u.cell? ⟨w4.heap.size, 2, none⟩ = some (iv (wd : Int)) ∧ u.cell? ⟨w4.heap.size, 3, none⟩ = some (iv lp) ∧ u.cell? ⟨w4.heap.size, 4, none⟩ = some (iv ls) ∧ u.cell? ⟨w4.heap.size, 5, none⟩ = some (.slice Ac nc cc) ∧ u.cell? ⟨w4.heap.size, 6, none⟩ = some (iv m) ∧ u.cell? ⟨w4.heap.size, 7, none⟩ = some (iv ro) ∧ u.cell? ⟨w4.heap.size, 8, none⟩ = some (.slice Ap np cp) ∧ u.cell? ⟨w4.heap.size, 9, none⟩ = some (.slice Ab nb cb))) := Lib.hid (fun u hu => ⟨hu, cell_keep hu h71, cell_keep hu p70, cell_keep hu p71, cell_keep hu p72, cell_keep hu p73, cell_keep hu p74, cell_keep hu p75, cell_keep hu p76, cell_keep hu p77, cell_keep hu p78, cell_keep hu p79⟩)
        have t22 : ∀ u, (Only Nix w7 u ∧ u.cell? ⟨w.heap.size, 1, none⟩ = some (iv (d : Int)) ∧ u.cell? ⟨w4.heap.size, 0, none⟩ = some (iv (k : Int)) ∧ u.cell? ⟨w4.heap.size, 1, none⟩ = some (iv (o : Int)) ∧ u.cell? ⟨w4.heap.size, 2, none⟩ = some (iv (wd : Int)) ∧ u.cell? ⟨w4.heap.size, 3, none⟩ = some (iv lp) ∧ u.cell? ⟨w4.heap.size, 4, none⟩ = some (iv ls) ∧ u.cell? ⟨w4.heap.size, 5, none⟩ = some (.slice Ac nc cc) ∧ u.cell? ⟨w4.heap.size, 6, none⟩ = some (iv m) ∧ u.cell? ⟨w4.heap.size, 7, none⟩ = some (iv ro) ∧ u.cell? ⟨w4.heap.size, 8, none⟩ = some (.slice Ap np cp) ∧ u.cell? ⟨w4.heap.size, 9, none⟩ = some (.slice Ab nb cb)) → Calls Tryz.prog 22 #[.agg #[iv (k : Int), iv (o : Int), iv (wd : Int), iv lp, iv ls, .slice Ac nc cc, iv m, iv ro, .slice Ap np cp, .slice Ab nb cb]] u (fun e w' => e = .returned (.agg #[iv (k : Int), iv (o : Int), iv (wd : Int), iv lp, iv ls, .slice Ac nc cc, iv m, iv ro, .slice Ap np cp, .slice Ab nb cb]) ∧ (Only Nix w7 w' ∧ w'.cell? ⟨w.heap.size, 1, none⟩ = some (iv (d : Int)) ∧ w'.cell? ⟨w4.heap.size, 0, none⟩ = some (iv (k : Int)) ∧ w'.cell? ⟨w4.heap.size, 1, none⟩ = some (iv (o : Int)) ∧ w'.cell? ⟨w4.heap.size, 2, none⟩ = some (iv (wd : Int)) ∧ w'.cell? ⟨w4.heap.size, 3, none⟩ = some (iv lp) ∧ w'.cell? ⟨w4.heap.size, 4, none⟩ = some (iv ls) ∧ w'.cell? ⟨w4.heap.size, 5, none⟩ = some (.slice Ac nc cc) ∧ w'.cell? ⟨w4.heap.size, 6, none⟩ = some (iv m) ∧ w'.cell? ⟨w4.heap.size, 7, none⟩ = some (iv ro) ∧ w'.cell? ⟨w4.heap.size, 8, none⟩ = some (.slice Ap np cp) ∧ w'.cell? ⟨w4.heap.size, 9, none⟩ = some (.slice Ab nb cb))) := fun u hu =>
          (plain7_any u k o wd lp ls Ac nc cc m ro Ap Ab np cp nb cb).mono fun e w' h => ⟨h.1, HC7.out _ (hu.1.trans h.2)⟩
        have t21 : ∀ u, (Only Nix w7 u ∧ u.cell? ⟨w.heap.size, 1, none⟩ = some (iv (d : Int)) ∧ u.cell? ⟨w4.heap.size, 0, none⟩ = some (iv (k : Int)) ∧ u.cell? ⟨w4.heap.size, 1, none⟩ = some (iv (o : Int)) ∧ u.cell? ⟨w4.heap.size, 2, none⟩ = some (iv (wd : Int)) ∧ u.cell? ⟨w4.heap.size, 3, none⟩ = some (iv lp) ∧ u.cell? ⟨w4.heap.size, 4, none⟩ = some (iv ls) ∧ u.cell? ⟨w4.heap.size, 5, none⟩ = some (.slice Ac nc cc) ∧ u.cell? ⟨w4.heap.size, 6, none⟩ = some (iv m) ∧ u.cell? ⟨w4.heap.size, 7, none⟩ = some (iv ro) ∧ u.cell? ⟨w4.heap.size, 8, none⟩ = some (.slice Ap np cp) ∧ u.cell? ⟨w4.heap.size, 9, none⟩ = some (.slice Ab nb cb)) → Calls Tryz.prog 21 #[.agg #[iv (k : Int), iv (o : Int), iv (wd : Int), iv lp, iv ls, .slice Ac nc cc, iv m, iv ro, .slice Ap np cp, .slice Ab nb cb], iv (d : Int), .slice A' n' c'] u (fun e w' => ∃ v, e = .returned (.tuple #[v, iv 0]) ∧ (Only Nix w7 w' ∧ w'.cell? ⟨w.heap.size, 1, none⟩ = some (iv (d : Int)) ∧ w'.cell? ⟨w4.heap.size, 0, none⟩ = some (iv (k : Int)) ∧ w'.cell? ⟨w4.heap.size, 1, none⟩ = some (iv (o : Int)) ∧ w'.cell? ⟨w4.heap.size, 2, none⟩ = some (iv (wd : Int)) ∧ w'.cell? ⟨w4.heap.size, 3, none⟩ = some (iv lp) ∧ w'.cell? ⟨w4.heap.size, 4, none⟩ = some (iv ls) ∧ w'.cell? ⟨w4.heap.size, 5, none⟩ = some (.slice Ac nc cc) ∧ w'.cell? ⟨w4.heap.size, 6, none⟩ = some (iv m) ∧ w'.cell? ⟨w4.heap.size, 7, none⟩ = some (iv ro) ∧ w'.cell? ⟨w4.heap.size, 8, none⟩ = some (.slice Ap np cp) ∧ w'.cell? ⟨w4.heap.size, 9, none⟩ = some (.slice Ab nb cb)) ∧ Bitrow w' w7.heap.size v (chB k o wd lp ls m ro cs ps ws d l)) := fun u hu => by
          have h := bits7_ok (w := u) k o wd d lp ls Ac nc cc m ro Ap Ab np cp nb cb A' n' c' cs ps ws l (Hs2.out.nix (HO7.out.trans hu.1)) (Hs3.out.nix (HO7.out.trans hu.1)) (Hs4.out.nix (HO7.out.trans hu.1)) (Hs1.out.nix (HO7.out.trans hu.1)) hb100 HE0.out
          refine h.mono fun e w' h => ?_
          obtain ⟨v, he, ho, hr⟩ := h
          exact ⟨v, he, HC7.out _ (hu.1.trans ho), row_down hr hu.1.size⟩
        clear h70 h71 p70 p71 p72 p73 p74 p75 p76 p77 p78 p79
        go_wp2_with fail
        go_region_held3 (fun u => (Only Nix w7 u ∧ u.cell? ⟨w.heap.size, 1, none⟩ = some (iv (d : Int)) ∧ u.cell? ⟨w4.heap.size, 0, none⟩ = some (iv (k : Int)) ∧ u.cell? ⟨w4.heap.size, 1, none⟩ = some (iv (o : Int)) ∧ u.cell? ⟨w4.heap.size, 2, none⟩ = some (iv (wd : Int)) ∧ u.cell? ⟨w4.heap.size, 3, none⟩ = some (iv lp) ∧ u.cell? ⟨w4.heap.size, 4, none⟩ = some (iv ls) ∧ u.cell? ⟨w4.heap.size, 5, none⟩ = some (.slice Ac nc cc) ∧ u.cell? ⟨w4.heap.size, 6, none⟩ = some (iv m) ∧ u.cell? ⟨w4.heap.size, 7, none⟩ = some (iv ro) ∧ u.cell? ⟨w4.heap.size, 8, none⟩ = some (.slice Ap np cp) ∧ u.cell? ⟨w4.heap.size, 9, none⟩ = some (.slice Ab nb cb))) (first | assumption | (refine HC7.out _ ?_; first | exact Only.refl _ _ | exact (Only.refl _ _).drew | assumption)) (first
          | (go_at_call 22; (with_reducible refine (t22 _ (by assumption)).mono ?_); rintro e w8 ⟨rfl, hs8⟩)
          | (go_at_call 21; (with_reducible refine (t21 _ (by assumption)).mono ?_); rintro e w9 ⟨v9, rfl, hs9, hr9⟩))
        have HO9 := Lib.hid (HO7.out.trans hs9.1)
        have HA9 := Lib.hid (HA7.out.trans hs9.1)
        have HR9 := Lib.hid (HR5.out.nix (H57.out.trans hs9.1))
        have HR10 := Lib.hid (owns_only HR7.out hs9.1 (fun _ _ e => e))
        have hlL := HS.out.1
        have Hb1 := Lib.hid HS.out.le1
        generalize chB k o wd lp ls m ro cs ps ws d l = L at *
        have hbs8 : bs.length ≤ 200 := by rw [Hbl.out]; omega
        obtain ⟨g7, rfl⟩ : ∃ g7, A7 = some ⟨g7, 0, none⟩ := by
          rcases HR10.out.2 with ⟨e, hn0⟩ | ⟨g4, cap, cur, hv9, _⟩
          · omega
          · injection hv9 with h8 _ _; exact ⟨g4, h8⟩
        have hc7 : 8 * bs.length ≤ c7 := by
          rcases HR10.out.2 with ⟨e, hn0⟩ | ⟨g4, cap, cur, hv9, _, _, hcc, _⟩
          · omega
          · injection hv9 with _ _ h8; omega
        have hI := isrc_piece HR10.out (by omega) HS.out (c7 - a) (by omega)
        rw [Addr.add_lit, Nat.zero_add] at hI
        have HI := Lib.hid hI
        clear hI
        have Hx := Lib.hid (isrc_bits hr9 Hb1.out (by omega))
        have HIn := Lib.hid (ints_yes Hx.out HI.out)
        obtain rfl := Hae.out
        have HAt := Lib.hid (at_any r (a + L.length) w9 HR9.out.cell0)
        obtain ⟨A9, c9, hv9⟩ := owns_slice hr9
        subst hv9
        have D9 := HB1.out.only HA9.out (fun e => e)
        have h90 := D9.cell 0
        have h91 := D9.cell 1
        simp only [List.getElem?_toArray, List.getElem?_cons_zero, List.getElem?_cons_succ] at h90 h91
        clear D9
        have hle1 : decide ((a : Int) + (L.length : Int) ≤ 8 * (bs.length : Int)) = true := by simp; omega
        clear hs8 hs9 t21 t22 HC7 hr9 HR7 Hb5
        rw [Int.natCast_add] at HAt
        go_wp2_with fail
        refine (HAt.out).mono ?_
        rintro e w10 ⟨rfl, rfl⟩
        go_wp2_with fail
        refine (HAt.out).mono ?_
        rintro e w10 ⟨rfl, rfl⟩
        go_wp2_with fail
        refine (HAt.out).mono ?_
        rintro e w10 ⟨rfl, rfl⟩
        have hsb1 : (a : Int) ≤ (a : Int) + (L.length : Int) := by omega
        have hsb2 : (a : Int) + (L.length : Int) ≤ (c7 : Int) := by omega
        have hsb3 : ¬ c7 = a := by omega
        go_wp2_with fail
        refine (HIn.out).mono ?_
        rintro e w10 ⟨rfl, k10, rfl⟩
        have HA10 := Lib.hid (HA9.out.drewN k10)
        go_wp2_with fail
        refine (HAw.out _ HA10.out).mono ?_
        rintro e wz ⟨rfl, oz⟩
        have HFin := Lib.hid (HA.out.trans (HA10.out.trans oz))
        go_wp2
        go_ret
        exact ⟨rfl, HFin.out⟩
  · have HCk := Lib.hid hck
    have hx' : x ≤ 100 ∨ (100 < x ∧ 65535 < x) := by omega
    have hbad : x < 1 ∨ 65535 < x ∨ y < 4 ∨ 33 < y := by
      unfold ckBlk at hck
      split at hck
      · omega
      · exact absurd rfl hck
    clear hck hx
    have hcase : (x < 1) ∨ (¬ x < 1 ∧ 65535 < x) ∨ (¬ x < 1 ∧ ¬ 65535 < x ∧ y < 4) ∨ (¬ x < 1 ∧ ¬ 65535 < x ∧ ¬ y < 4 ∧ 33 < y) := by omega
    clear hbad
    have HCs := Lib.hid hcase
    clear hcase
    rcases hx' with hx' | ⟨hx', hx''⟩
    all_goals
      go_wp2_with fail
      refine (HNR.out).mono ?_
      rintro e w2 ⟨r, v, rfl, hR2, hN2, o2⟩
      have HA2 := Lib.hid o2
      have hrw : Wa.heap.size ≤ r := hN2.1
      have HSk := Lib.hid (seek_any hR2 t)
      clear hN2 o2 HNR d0 d1 hR2
      go_wp2_with fail
      refine (HSk.out).mono ?_
      rintro e w3 ⟨rfl, hR3, o3⟩
      have HA3 : Hid (Only Nix Wa w3) := Lib.hid (HA2.out.then o3 (fun i e => .inr (by have : i = r := e; omega)))
      generalize seekA bs 0 t = a at hR3
      have HR3 := Lib.hid hR3
      have HAt := Lib.hid (at_any r a w3 hR3.cell0)
      clear hR3 o3 HSk
      go_wp2_with fail
      refine (HAt.out).mono ?_
      rintro e w3' ⟨rfl, rfl⟩
      clear HAt
      have D3 := HB1.out.only HA3.out (fun e => e)
      have h30 := D3.cell 0
      have h31 := D3.cell 1
      simp only [List.getElem?_toArray, List.getElem?_cons_zero, List.getElem?_cons_succ] at h30 h31
      clear D3
      have HRd := Lib.hid (sread_arg (w := w3) r x y HCk.out)
      go_wp2_with fail
      refine (HRd.out).mono ?_
      rintro e w4 ⟨rfl, o4⟩
      have HA4 := Lib.hid (HA3.out.trans o4)
      have HR4 := Lib.hid (HR3.out.nix o4)
      clear o4 HRd
      go_wp2_with (refine wpList_store_row rfl 28 (.tmp 10) (.tmp 46) rfl rfl w4.heap.size 28 zC (zC) rfl rfl (Box.new w4 _ _) Tryz.size_plan rfl (spC_one _ _ _ _ _ _ _ _ _ _ _ _ _ _ _ _) ?_)
      ·
        intro w5 hb5 ho5
        have o45 : Only Nix w4 w5 := ((Only.refl Nix w4).alloc _).then ho5 (fun i e => .inr (by cases e; exact Nat.le_refl _))
        have HA5 := Lib.hid (HA4.out.trans o45)
        have HR5 := Lib.hid (HR4.out.nix o45)
        have D5 := HB1.out.only HA5.out (fun e => e)
        have h50 := D5.cell 0
        have h51 := D5.cell 1
        simp only [List.getElem?_toArray, List.getElem?_cons_zero, List.getElem?_cons_succ] at h50 h51
        clear D5 h30 h31
        have HAt := Lib.hid (at_any r a _ HR5.out.cell0)
        clear hb5 ho5 o45
        rcases HCs.out with q1 | ⟨q1, q2⟩ | ⟨q1, q2, q3⟩ | ⟨q1, q2, q3, q4⟩
        all_goals
          go_wp2_with fail
          refine (HAt.out).mono ?_
          rintro e w6 ⟨rfl, rfl⟩
          go_wp2_with fail
          refine (HAw.out _ HA5.out).mono ?_
          rintro e wz ⟨rfl, oz⟩
          have HFin := Lib.hid (HA.out.trans (HA5.out.trans oz))
          go_wp2
          go_ret
          exact ⟨rfl, HFin.out⟩
end Go.Proofs.YteklfkpeaadinaaGreatDoor.S
