/-
  Few and Same; BlocksBack: their walks.
-/
import Derived.Test.YtighdjbeddcckaaVBM
import Derived.OwnWalk
namespace Go.Proofs.Ytighdjbeddcckaa
open Go.RowKit Go.Shelf

def fewN (l : List Bk) (n : Nat) : Prop := ∀ i, i < n → (gb l i).2.length ≤ 500
instance (l : List Bk) (n : Nat) : Decidable (fewN l n) := by unfold fewN; infer_instance
def fewB (l : List Bk) : Prop := fewN l l.length ∧ l.length ≤ 12
instance (l : List Bk) : Decidable (fewB l) := by unfold fewB; infer_instance
def FwI (w : World) (l : List Bk) (s3 : Value) (wr : World) : Prop := ∃ j : Nat, j ≤ l.length ∧ s3 = iv j ∧ fewN l j ∧ Only Nix w wr
set_option maxHeartbeats 4000000 in
theorem few_any {w : World} {v : Value} {l : List Bk} (hs : BSrc w v l) : Calls Try.prog 14 #[v] w fun e w' => e = .returned (.bool (decide (fewB l))) ∧ Only Nix w w' := by
  obtain ⟨A, c, rfl⟩ := hs.slice
  have hsm := hs.small
  have HS := Lib.hid hs
  clear hs
  go_enter Try.func14, Try.ntmps14
  go_wp2
  go_loopw [3] (fun s3 wr => FwI w l s3 wr) (fun s3 _ => l.length - (intOf s3).toNat)
  case atStart => exact ⟨0, Nat.zero_le _, rfl, (fun i hi => absurd hi (by omega)), Only.refl _ _⟩
  case round =>
    obtain ⟨j, hj, rfl, hm, ho⟩ := hrel
    have HM := Lib.hid hm
    have HO := Lib.hid ho
    clear hm ho
    by_cases hlt : j < l.length
    · obtain ⟨ad, B, d, rfl, hx0, hx1, hd, hcs⟩ := (HS.out.nix HO.out).at_ hlt
      have hlti : (j : Int) < (l.length : Int) := by omega
      have hg := gb_eq hlt
      rw [← hg] at hx1
      have HN1 : Hid ((gb l j).2.length ≤ 500 → fewN l (j + 1)) := Lib.hid (fun h i hi => by
        rcases Nat.lt_succ_iff_lt_or_eq.1 hi with h3 | rfl
        · exact HM.out i h3
        · exact h)
      have HZ : Hid (500 < (gb l j).2.length → decide (fewB l) = false) := Lib.hid (fun h => decide_eq_false (fun hh => by have := hh.1 j hlt; omega))
      generalize (gb l j).2.length = D at *
      clear hg hcs hd
      by_cases h5 : 500 < D
      · have h5i : (500 : Int) < (D : Int) := by omega
        have HZ2 := Lib.hid (HZ.out h5)
        go_wp2
        go_ret
        exact ⟨by rw [HZ2.out]; rfl, HO.out⟩
      · have h5i : ¬ (500 : Int) < (D : Int) := by omega
        have HN2 := Lib.hid (HN1.out (by omega))
        go_wp2
        go_roundw
        case rel => exact ⟨j + 1, hlt, by go_num, HN2.out, HO.out⟩
        case measure => simp [intOf]; omega
    · obtain rfl : j = l.length := by omega
      have hlti : ¬ ((l.length : Nat) : Int) < (l.length : Int) := by omega
      by_cases h12 : l.length ≤ 12
      · have h12i : (l.length : Int) ≤ 12 := by omega
        have HZ : Hid (decide (fewB l) = true) := Lib.hid (decide_eq_true ⟨HM.out, h12⟩)
        go_wp2
        go_ret
        exact ⟨by rw [HZ.out]; rfl, HO.out⟩
      · have h12i : ¬ (l.length : Int) ≤ 12 := by omega
        have h12d : decide ((l.length : Int) ≤ 12) = false := decide_eq_false h12i
        have h12e : decide (l.length ≤ 12) = false := decide_eq_false h12
        have HZ : Hid (decide (fewB l) = false) := Lib.hid (decide_eq_false (fun hh => h12 hh.2))
        go_wp2
        go_ret
        exact ⟨by rw [HZ.out]; rfl, HO.out⟩
theorem eval_of2 {A : Act} {s : Nat} {v : Value} (h : A.tmps[s]? = some v) : A.eval (.tmp s) = v := by
  show A.tmps.getD s undef = v
  rw [Array.getD_eq_getD_getElem?, h]; rfl
def SmI (w : World) (m : Nat) (s5 : Value) (wr : World) : Prop := ∃ j : Nat, j ≤ m ∧ s5 = iv j ∧ Only Nix w wr
set_option maxRecDepth 100000 in
set_option maxHeartbeats 8000000 in
theorem sameB_any {w : World} {v1 v2 : Value} {l : List Bk} (ha : BSrc w v1 l) (hb : BSrc w v2 l) : Calls Try.prog 16 #[v1, v2] w fun e w' => e = .returned (.bool true) ∧ Only Nix w w' := by
  obtain ⟨A, c, rfl⟩ := ha.slice
  obtain ⟨B, d, rfl⟩ := hb.slice
  have hsm := ha.small
  have HA := Lib.hid ha
  have HB := Lib.hid hb
  clear ha hb
  go_enter Try.func16, Try.ntmps16
  go_wp2
  go_loopw [5] (fun s5 wr => SmI w l.length s5 wr) (fun s5 _ => l.length - (intOf s5).toNat)
  case atStart => exact ⟨0, Nat.zero_le _, rfl, Only.refl _ _⟩
  case round =>
    obtain ⟨j, hj, rfl, ho⟩ := hrel
    have HO := Lib.hid ho
    clear ho
    by_cases hlt : j < l.length
    · obtain ⟨ad, A1, d1, rfl, hx0, hx1, _, sx⟩ := (HA.out.nix HO.out).at_ hlt
      obtain ⟨bd, B1, q1, rfl, hy0, hy1, _, sy⟩ := (HB.out.nix HO.out).at_ hlt
      have hlti : (j : Int) < (l.length : Int) := by omega
      have HEq : Hid (∀ u, Only Nix wr u → Calls Try.prog 13 #[.slice A1 l[j].2.length d1, .slice B1 l[j].2.length q1] u fun e w' => e = .returned (.bool true) ∧ Only Nix u w') := Lib.hid (fun u hu => equal_at (sx.src.nix hu) (sy.src.nix hu))
      have HX0 := Lib.hid hx0
      have HX1 := Lib.hid hx1
      have HY0 := Lib.hid hy0
      have HY1 := Lib.hid hy1
      clear sx sy
      generalize l[j].2.length = N at *
      generalize l[j].1 = t at *
      go_wp2_with fail
      have fr_R : ∀ j s, j < 25 → (([some 17, some 18, some 19, some 20, some 21, some 22, some 23, some 24, some 25, some 26, some 27, some 28, some 29, some 30, some 31, some 32, some 33, some 34, some 35, some 36, some 37, some 38, some 39, some 40, some 41] : List (Option Nat)).all fun d => d != some s) = true → ([some 17, some 18, some 19, some 20, some 21, some 22, some 23, some 24, some 25, some 26, some 27, some 28, some 29, some 30, some 31, some 32, some 33, some 34, some 35, some 36, some 37, some 38, some 39, some 40, some 41] : List (Option Nat)).getD j none ≠ some s := by
        intro j s hj ha e
        rw [List.getD_eq_getElem?_getD, List.getElem?_eq_getElem (by exact hj), Option.getD_some] at e
        have := List.all_eq_true.1 ha _ (List.getElem_mem (by exact hj))
        rw [e] at this
        simp at this
      refine region_tel (by kernel_rfl) (fun k0 => ([some 17, some 18, some 19, some 20, some 21, some 22, some 23, some 24, some 25, some 26, some 27, some 28, some 29, some 30, some 31, some 32, some 33, some 34, some 35, some 36, some 37, some 38, some 39, some 40, some 41] : List (Option Nat)).getD k0 none) (PL [eqP (.slice (some ad) l.length c), eqP (iv j), eqP (.pointer (some (ad.add (j * 2)))), eqP (.pointer (some (ad.add (j * 2)))), eqP (iv t), eqP (.slice (some bd) l.length d), eqP (iv j), eqP (.pointer (some (bd.add (j * 2)))), eqP (.pointer (some (bd.add (j * 2)))), eqP (iv t), eqP (.bool false), eqP (.bool false), eqP (.slice (some ad) l.length c), eqP (iv j), eqP (.pointer (some (ad.add (j * 2)))), eqP (.pointer (some ⟨(ad.add (j * 2)).block, (ad.add (j * 2)).off + 1, none⟩)), eqP (.slice A1 N d1), eqP (.slice (some bd) l.length d), eqP (iv j), eqP (.pointer (some (bd.add (j * 2)))), eqP (.pointer (some ⟨(bd.add (j * 2)).block, (bd.add (j * 2)).off + 1, none⟩)), eqP (.slice B1 N q1), eqP (.bool true), eqP (.bool false), eqP (.bool false)]) (fun _ _ => True) (fun _ u => Only Nix wr u) 42 25 rfl (by kernel_rfl) (by kernel_rfl) rfl (by kernel_rfl) (by kernel_rfl) (stab_all ⟨fun _ _ _ h _ => h, fun _ _ _ h _ => h, fun _ _ _ h _ => h, fun _ _ _ h _ => h, fun _ _ _ h _ => h, fun _ _ _ h _ => h, fun _ _ _ h _ => h, fun _ _ _ h _ => h, fun _ _ _ h _ => h, fun _ _ _ h _ => h, fun _ _ _ h _ => h, fun _ _ _ h _ => h, fun _ _ _ h _ => h, fun _ _ _ h _ => h, fun _ _ _ h _ => h, fun _ _ _ h _ => h, fun _ _ _ h _ => h, fun _ _ _ h _ => h, fun _ _ _ h _ => h, fun _ _ _ h _ => h, fun _ _ _ h _ => h, fun _ _ _ h _ => h, fun _ _ _ h _ => h, fun _ _ _ h _ => h, fun _ _ _ h _ => h, trivial⟩) ((Only.refl _ _).drew) ?stepsR (fun vs => [(17, vs 0), (18, vs 1), (19, vs 2), (20, vs 3), (21, vs 4), (22, vs 5), (23, vs 6), (24, vs 7), (25, vs 8), (26, vs 9), (27, vs 10), (28, vs 11), (29, vs 12), (30, vs 13), (31, vs 14), (32, vs 15), (33, vs 16), (34, vs 17), (35, vs 18), (36, vs 19), (37, vs 20), (38, vs 21), (39, vs 22), (40, vs 23), (41, vs 24)]) (fun vs => rfl) ?doneR
      case stepsR =>
        refine ⟨?_, ?_, ?_, ?_, ?_, ?_, ?_, ?_, ?_, ?_, ?_, ?_, ?_, ?_, ?_, ?_, ?_, ?_, ?_, ?_, ?_, ?_, ?_, ?_, ?_, trivial⟩
        · intro L vs A' u hW hL0 hnd K' hK
          have hS := hW.wi.s
          have r0 : A'.tmps[0]? = some (.slice (some ad) l.length c) := (hW.out 0 (fun j hj => fr_R j 0 hj (by kernel_rfl))).trans rfl
          go_simp
          exact hK _ _ (by first | rfl | (show _ = _; simp)) trivial (hS)
        · intro L vs A' u hW hL0 hnd K' hK
          have hS := hW.wi.s
          have r5 : A'.tmps[5]? = some (iv j) := (hW.out 5 (fun j hj => fr_R j 5 hj (by kernel_rfl))).trans rfl
          go_simp
          exact hK _ _ (by first | rfl | (show _ = _; simp)) trivial (hS)
        · intro L vs A' u hW hL0 hnd K' hK
          have hS := hW.wi.s
          have r17 : A'.tmps[17]? = some (.slice (some ad) l.length c) := by
            obtain ⟨x, e, h⟩ := hW.tel 0 17 (by decide) (hnd 0 (by kernel_rfl)) rfl
            rw [e]; exact congrArg some h
          have r18 : A'.tmps[18]? = some (iv j) := by
            obtain ⟨x, e, h⟩ := hW.tel 1 18 (by decide) (hnd 1 (by kernel_rfl)) rfl
            rw [e]; exact congrArg some h
          go_simp
          exact hK _ _ (by first | rfl | (show _ = _; simp)) trivial (hS)
        · intro L vs A' u hW hL0 hnd K' hK
          have hS := hW.wi.s
          have r19 : A'.tmps[19]? = some (.pointer (some (ad.add (j * 2)))) := by
            obtain ⟨x, e, h⟩ := hW.tel 2 19 (by decide) (hnd 2 (by kernel_rfl)) rfl
            rw [e]; exact congrArg some h
          go_simp
          exact hK _ _ (by first | rfl | (show _ = _; simp)) trivial (hS)
        · intro L vs A' u hW hL0 hnd K' hK
          have hS := hW.wi.s
          have r20 : A'.tmps[20]? = some (.pointer (some (ad.add (j * 2)))) := by
            obtain ⟨x, e, h⟩ := hW.tel 3 20 (by decide) (hnd 3 (by kernel_rfl)) rfl
            rw [e]; exact congrArg some h
          have hq := cell_keep hS HX0.out
          go_simp
          exact hK _ _ (by first | rfl | (show _ = _; simp)) trivial (hS)
        · intro L vs A' u hW hL0 hnd K' hK
          have hS := hW.wi.s
          have r1 : A'.tmps[1]? = some (.slice (some bd) l.length d) := (hW.out 1 (fun j hj => fr_R j 1 hj (by kernel_rfl))).trans rfl
          go_simp
          exact hK _ _ (by first | rfl | (show _ = _; simp)) trivial (hS)
        · intro L vs A' u hW hL0 hnd K' hK
          have hS := hW.wi.s
          have r5 : A'.tmps[5]? = some (iv j) := (hW.out 5 (fun j hj => fr_R j 5 hj (by kernel_rfl))).trans rfl
          go_simp
          exact hK _ _ (by first | rfl | (show _ = _; simp)) trivial (hS)
        · intro L vs A' u hW hL0 hnd K' hK
          have hS := hW.wi.s
          have r22 : A'.tmps[22]? = some (.slice (some bd) l.length d) := by
            obtain ⟨x, e, h⟩ := hW.tel 5 22 (by decide) (hnd 5 (by kernel_rfl)) rfl
            rw [e]; exact congrArg some h
          have r23 : A'.tmps[23]? = some (iv j) := by
            obtain ⟨x, e, h⟩ := hW.tel 6 23 (by decide) (hnd 6 (by kernel_rfl)) rfl
            rw [e]; exact congrArg some h
          go_simp
          exact hK _ _ (by first | rfl | (show _ = _; simp)) trivial (hS)
        · intro L vs A' u hW hL0 hnd K' hK
          have hS := hW.wi.s
          have r24 : A'.tmps[24]? = some (.pointer (some (bd.add (j * 2)))) := by
            obtain ⟨x, e, h⟩ := hW.tel 7 24 (by decide) (hnd 7 (by kernel_rfl)) rfl
            rw [e]; exact congrArg some h
          go_simp
          exact hK _ _ (by first | rfl | (show _ = _; simp)) trivial (hS)
        · intro L vs A' u hW hL0 hnd K' hK
          have hS := hW.wi.s
          have r25 : A'.tmps[25]? = some (.pointer (some (bd.add (j * 2)))) := by
            obtain ⟨x, e, h⟩ := hW.tel 8 25 (by decide) (hnd 8 (by kernel_rfl)) rfl
            rw [e]; exact congrArg some h
          have hq := cell_keep hS HY0.out
          go_simp
          exact hK _ _ (by first | rfl | (show _ = _; simp)) trivial (hS)
        · intro L vs A' u hW hL0 hnd K' hK
          have hS := hW.wi.s
          have r21 : A'.tmps[21]? = some (iv t) := by
            obtain ⟨x, e, h⟩ := hW.tel 4 21 (by decide) (hnd 4 (by kernel_rfl)) rfl
            rw [e]; exact congrArg some h
          have r26 : A'.tmps[26]? = some (iv t) := by
            obtain ⟨x, e, h⟩ := hW.tel 9 26 (by decide) (hnd 9 (by kernel_rfl)) rfl
            rw [e]; exact congrArg some h
          go_simp
          exact hK _ _ (by first | rfl | (show _ = _; simp)) trivial (hS)
        · intro L vs A' u hW hL0 hnd K' hK
          have hS := hW.wi.s
          have r27 : A'.tmps[27]? = some (.bool false) := by
            obtain ⟨x, e, h⟩ := hW.tel 10 27 (by decide) (hnd 10 (by kernel_rfl)) rfl
            rw [e]; exact congrArg some h
          go_simp
          exact hK _ _ (by first | rfl | (show _ = _; simp)) trivial (hS)
        · intro L vs A' u hW hL0 hnd K' hK
          have hS := hW.wi.s
          have r0 : A'.tmps[0]? = some (.slice (some ad) l.length c) := (hW.out 0 (fun j hj => fr_R j 0 hj (by kernel_rfl))).trans rfl
          have r28 : A'.tmps[28]? = some (.bool false) := by
            obtain ⟨x, e, h⟩ := hW.tel 11 28 (by decide) (hnd 11 (by kernel_rfl)) rfl
            rw [e]; exact congrArg some h
          rw [if_pos (wanted_yes (j := 11) (s := 28) (b := false) rfl (by kernel_rfl) r28)]
          go_simp
          exact hK _ _ (by first | rfl | (show _ = _; simp)) trivial (hS)
        · intro L vs A' u hW hL0 hnd K' hK
          have hS := hW.wi.s
          have r5 : A'.tmps[5]? = some (iv j) := (hW.out 5 (fun j hj => fr_R j 5 hj (by kernel_rfl))).trans rfl
          have r28 : A'.tmps[28]? = some (.bool false) := by
            obtain ⟨x, e, h⟩ := hW.tel 11 28 (by decide) (hnd 11 (by kernel_rfl)) rfl
            rw [e]; exact congrArg some h
          rw [if_pos (wanted_yes (j := 11) (s := 28) (b := false) rfl (by kernel_rfl) r28)]
          go_simp
          exact hK _ _ (by first | rfl | (show _ = _; simp)) trivial (hS)
        · intro L vs A' u hW hL0 hnd K' hK
          have hS := hW.wi.s
          have r29 : A'.tmps[29]? = some (.slice (some ad) l.length c) := by
            obtain ⟨x, e, h⟩ := hW.tel 12 29 (by decide) (hnd 12 (by kernel_rfl)) rfl
            rw [e]; exact congrArg some h
          have r30 : A'.tmps[30]? = some (iv j) := by
            obtain ⟨x, e, h⟩ := hW.tel 13 30 (by decide) (hnd 13 (by kernel_rfl)) rfl
            rw [e]; exact congrArg some h
          have r28 : A'.tmps[28]? = some (.bool false) := by
            obtain ⟨x, e, h⟩ := hW.tel 11 28 (by decide) (hnd 11 (by kernel_rfl)) rfl
            rw [e]; exact congrArg some h
          rw [if_pos (wanted_yes (j := 11) (s := 28) (b := false) rfl (by kernel_rfl) r28)]
          go_simp
          exact hK _ _ (by first | rfl | (show _ = _; simp)) trivial (hS)
        · intro L vs A' u hW hL0 hnd K' hK
          have hS := hW.wi.s
          have r31 : A'.tmps[31]? = some (.pointer (some (ad.add (j * 2)))) := by
            obtain ⟨x, e, h⟩ := hW.tel 14 31 (by decide) (hnd 14 (by kernel_rfl)) rfl
            rw [e]; exact congrArg some h
          have r28 : A'.tmps[28]? = some (.bool false) := by
            obtain ⟨x, e, h⟩ := hW.tel 11 28 (by decide) (hnd 11 (by kernel_rfl)) rfl
            rw [e]; exact congrArg some h
          rw [if_pos (wanted_yes (j := 11) (s := 28) (b := false) rfl (by kernel_rfl) r28)]
          go_simp
          exact hK _ _ (by first | rfl | (show _ = _; simp)) trivial (hS)
        · intro L vs A' u hW hL0 hnd K' hK
          have hS := hW.wi.s
          have r32 : A'.tmps[32]? = some (.pointer (some ⟨(ad.add (j * 2)).block, (ad.add (j * 2)).off + 1, none⟩)) := by
            obtain ⟨x, e, h⟩ := hW.tel 15 32 (by decide) (hnd 15 (by kernel_rfl)) rfl
            rw [e]; exact congrArg some h
          have r28 : A'.tmps[28]? = some (.bool false) := by
            obtain ⟨x, e, h⟩ := hW.tel 11 28 (by decide) (hnd 11 (by kernel_rfl)) rfl
            rw [e]; exact congrArg some h
          rw [if_pos (wanted_yes (j := 11) (s := 28) (b := false) rfl (by kernel_rfl) r28)]
          have hq := cell_keep hS HX1.out
          go_simp
          exact hK _ _ (by first | rfl | (show _ = _; simp)) trivial (hS)
        · intro L vs A' u hW hL0 hnd K' hK
          have hS := hW.wi.s
          have r1 : A'.tmps[1]? = some (.slice (some bd) l.length d) := (hW.out 1 (fun j hj => fr_R j 1 hj (by kernel_rfl))).trans rfl
          have r28 : A'.tmps[28]? = some (.bool false) := by
            obtain ⟨x, e, h⟩ := hW.tel 11 28 (by decide) (hnd 11 (by kernel_rfl)) rfl
            rw [e]; exact congrArg some h
          rw [if_pos (wanted_yes (j := 11) (s := 28) (b := false) rfl (by kernel_rfl) r28)]
          go_simp
          exact hK _ _ (by first | rfl | (show _ = _; simp)) trivial (hS)
        · intro L vs A' u hW hL0 hnd K' hK
          have hS := hW.wi.s
          have r5 : A'.tmps[5]? = some (iv j) := (hW.out 5 (fun j hj => fr_R j 5 hj (by kernel_rfl))).trans rfl
          have r28 : A'.tmps[28]? = some (.bool false) := by
            obtain ⟨x, e, h⟩ := hW.tel 11 28 (by decide) (hnd 11 (by kernel_rfl)) rfl
            rw [e]; exact congrArg some h
          rw [if_pos (wanted_yes (j := 11) (s := 28) (b := false) rfl (by kernel_rfl) r28)]
          go_simp
          exact hK _ _ (by first | rfl | (show _ = _; simp)) trivial (hS)
        · intro L vs A' u hW hL0 hnd K' hK
          have hS := hW.wi.s
          have r34 : A'.tmps[34]? = some (.slice (some bd) l.length d) := by
            obtain ⟨x, e, h⟩ := hW.tel 17 34 (by decide) (hnd 17 (by kernel_rfl)) rfl
            rw [e]; exact congrArg some h
          have r35 : A'.tmps[35]? = some (iv j) := by
            obtain ⟨x, e, h⟩ := hW.tel 18 35 (by decide) (hnd 18 (by kernel_rfl)) rfl
            rw [e]; exact congrArg some h
          have r28 : A'.tmps[28]? = some (.bool false) := by
            obtain ⟨x, e, h⟩ := hW.tel 11 28 (by decide) (hnd 11 (by kernel_rfl)) rfl
            rw [e]; exact congrArg some h
          rw [if_pos (wanted_yes (j := 11) (s := 28) (b := false) rfl (by kernel_rfl) r28)]
          go_simp
          exact hK _ _ (by first | rfl | (show _ = _; simp)) trivial (hS)
        · intro L vs A' u hW hL0 hnd K' hK
          have hS := hW.wi.s
          have r36 : A'.tmps[36]? = some (.pointer (some (bd.add (j * 2)))) := by
            obtain ⟨x, e, h⟩ := hW.tel 19 36 (by decide) (hnd 19 (by kernel_rfl)) rfl
            rw [e]; exact congrArg some h
          have r28 : A'.tmps[28]? = some (.bool false) := by
            obtain ⟨x, e, h⟩ := hW.tel 11 28 (by decide) (hnd 11 (by kernel_rfl)) rfl
            rw [e]; exact congrArg some h
          rw [if_pos (wanted_yes (j := 11) (s := 28) (b := false) rfl (by kernel_rfl) r28)]
          go_simp
          exact hK _ _ (by first | rfl | (show _ = _; simp)) trivial (hS)
        · intro L vs A' u hW hL0 hnd K' hK
          have hS := hW.wi.s
          have r37 : A'.tmps[37]? = some (.pointer (some ⟨(bd.add (j * 2)).block, (bd.add (j * 2)).off + 1, none⟩)) := by
            obtain ⟨x, e, h⟩ := hW.tel 20 37 (by decide) (hnd 20 (by kernel_rfl)) rfl
            rw [e]; exact congrArg some h
          have r28 : A'.tmps[28]? = some (.bool false) := by
            obtain ⟨x, e, h⟩ := hW.tel 11 28 (by decide) (hnd 11 (by kernel_rfl)) rfl
            rw [e]; exact congrArg some h
          rw [if_pos (wanted_yes (j := 11) (s := 28) (b := false) rfl (by kernel_rfl) r28)]
          have hq := cell_keep hS HY1.out
          go_simp
          exact hK _ _ (by first | rfl | (show _ = _; simp)) trivial (hS)
        · intro L vs A' u hW hL0 hnd K' hK
          have hS := hW.wi.s
          have r33 : A'.tmps[33]? = some (.slice A1 N d1) := by
            obtain ⟨x, e, h⟩ := hW.tel 16 33 (by decide) (hnd 16 (by kernel_rfl)) rfl
            rw [e]; exact congrArg some h
          have r38 : A'.tmps[38]? = some (.slice B1 N q1) := by
            obtain ⟨x, e, h⟩ := hW.tel 21 38 (by decide) (hnd 21 (by kernel_rfl)) rfl
            rw [e]; exact congrArg some h
          have r28 : A'.tmps[28]? = some (.bool false) := by
            obtain ⟨x, e, h⟩ := hW.tel 11 28 (by decide) (hnd 11 (by kernel_rfl)) rfl
            rw [e]; exact congrArg some h
          rw [if_pos (wanted_yes (j := 11) (s := 28) (b := false) rfl (by kernel_rfl) r28)]
          have HCL := Lib.hid (HEq.out u hS)
          go_simp
          refine (HCL.out).mono ?_
          rintro _ u' ⟨rfl, ho2⟩
          exact hK _ _ rfl trivial (hS.trans ho2)
        · intro L vs A' u hW hL0 hnd K' hK
          have hS := hW.wi.s
          have r39 : A'.tmps[39]? = some (.bool true) := by
            obtain ⟨x, e, h⟩ := hW.tel 22 39 (by decide) (hnd 22 (by kernel_rfl)) rfl
            rw [e]; exact congrArg some h
          have r28 : A'.tmps[28]? = some (.bool false) := by
            obtain ⟨x, e, h⟩ := hW.tel 11 28 (by decide) (hnd 11 (by kernel_rfl)) rfl
            rw [e]; exact congrArg some h
          rw [if_pos (wanted_yes (j := 11) (s := 28) (b := false) rfl (by kernel_rfl) r28)]
          go_simp
          exact hK _ _ (by first | rfl | (show _ = _; simp)) trivial (hS)
        · intro L vs A' u hW hL0 hnd K' hK
          have hS := hW.wi.s
          have r28 : A'.tmps[28]? = some (.bool false) := by
            obtain ⟨x, e, h⟩ := hW.tel 11 28 (by decide) (hnd 11 (by kernel_rfl)) rfl
            rw [e]; exact congrArg some h
          have r40 : A'.tmps[40]? = some (.bool false) := by
            obtain ⟨x, e, h⟩ := hW.tel 23 40 (by decide) (hnd 23 (by kernel_rfl)) rfl
            rw [e]; exact congrArg some h
          go_simp
          exact hK _ _ (by first | rfl | (show _ = _; simp)) trivial (hS)
      case doneR =>
        intro L vs u9 hS hP hall
        have e0 : vs 0 = .slice (some ad) l.length c := hP 0 (by decide)
        have e1 : vs 1 = iv j := hP 1 (by decide)
        have e2 : vs 2 = .pointer (some (ad.add (j * 2))) := hP 2 (by decide)
        have e3 : vs 3 = .pointer (some (ad.add (j * 2))) := hP 3 (by decide)
        have e4 : vs 4 = iv t := hP 4 (by decide)
        have e5 : vs 5 = .slice (some bd) l.length d := hP 5 (by decide)
        have e6 : vs 6 = iv j := hP 6 (by decide)
        have e7 : vs 7 = .pointer (some (bd.add (j * 2))) := hP 7 (by decide)
        have e8 : vs 8 = .pointer (some (bd.add (j * 2))) := hP 8 (by decide)
        have e9 : vs 9 = iv t := hP 9 (by decide)
        have e10 : vs 10 = .bool false := hP 10 (by decide)
        have e11 : vs 11 = .bool false := hP 11 (by decide)
        have e12 : vs 12 = .slice (some ad) l.length c := hP 12 (by decide)
        have e13 : vs 13 = iv j := hP 13 (by decide)
        have e14 : vs 14 = .pointer (some (ad.add (j * 2))) := hP 14 (by decide)
        have e15 : vs 15 = .pointer (some ⟨(ad.add (j * 2)).block, (ad.add (j * 2)).off + 1, none⟩) := hP 15 (by decide)
        have e16 : vs 16 = .slice A1 N d1 := hP 16 (by decide)
        have e17 : vs 17 = .slice (some bd) l.length d := hP 17 (by decide)
        have e18 : vs 18 = iv j := hP 18 (by decide)
        have e19 : vs 19 = .pointer (some (bd.add (j * 2))) := hP 19 (by decide)
        have e20 : vs 20 = .pointer (some ⟨(bd.add (j * 2)).block, (bd.add (j * 2)).off + 1, none⟩) := hP 20 (by decide)
        have e21 : vs 21 = .slice B1 N q1 := hP 21 (by decide)
        have e22 : vs 22 = .bool true := hP 22 (by decide)
        have e23 : vs 23 = .bool false := hP 23 (by decide)
        have e24 : vs 24 = .bool false := hP 24 (by decide)
        simp only [putV, List.foldl_cons, List.foldl_nil, List.setIfInBounds_toArray, List.set_cons_zero, List.set_cons_succ, e0, e1, e2, e3, e4, e5, e6, e7, e8, e9, e10, e11, e12, e13, e14, e15, e16, e17, e18, e19, e20, e21, e22, e23, e24]
        clear e0 e1 e2 e3 e4 e5 e6 e7 e8 e9 e10 e11 e12 e13 e14 e15 e16 e17 e18 e19 e20 e21 e22 e23 e24 hP hall fr_R
        have HO2 := Lib.hid (HO.out.trans hS)
        clear hS
        go_wp2
        go_roundw
        case rel => exact ⟨j + 1, hlt, by go_num, HO2.out⟩
        case measure => simp [intOf]; omega
    · obtain rfl : j = l.length := by omega
      have hlti : ¬ ((l.length : Nat) : Int) < (l.length : Int) := by omega
      go_wp2
      go_ret
      exact ⟨rfl, HO.out⟩
end Go.Proofs.Ytighdjbeddcckaa
