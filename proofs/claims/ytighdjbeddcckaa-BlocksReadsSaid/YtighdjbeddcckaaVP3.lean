/-
  BlocksReads: its walk.
-/
import Derived.Test.YtighdjbeddcckaaVP2
import Derived.OwnWalk
namespace Go.Proofs.Ytighdjbeddcckaa
open Go.RowKit Go.Shelf

def rdL (bs : List Nat) : List Bk := if (rdB bs).2.2 = 0 then (rdB bs).1 else []
def rdX (bs : List Nat) : Nat := if (rdB bs).2.2 = 0 then (rdB bs).2.1 else 0
theorem RdR.out' {w w' : World} {bs : List Nat} {e : Ending} (h : RdR w bs e w') : ∃ v, e = .returned (.tuple #[v, iv (rdX bs : Nat), iv (rdB bs).2.2]) ∧ BSrc w' v (rdL bs) ∧ Only Nix w w' := by
  obtain ⟨h1, h2⟩ := h
  unfold rdX rdL
  by_cases h0 : (rdB bs).2.2 = 0
  · rw [if_pos h0] at h1
    rw [if_pos h0, if_pos h0, h0]
    obtain ⟨v, h3, h4⟩ := h1
    exact ⟨v, h3, h4, h2⟩
  · rw [if_neg h0] at h1
    rw [if_neg h0, if_neg h0]
    exact ⟨_, h1, BSrc.nil _, h2⟩
theorem RfR.out' {w w' : World} {bs : List Nat} {e : Ending} (h : RfR w bs e w') : ∃ v1 v2, e = .returned (.tuple #[v1, v2, iv (rdX bs : Nat), iv (rdB bs).2.2]) ∧ ISrc w' v1 ((rdL bs).map (·.1)) ∧ LSrc w' v2 ((rdL bs).map (·.2)) ∧ Only Nix w w' := by
  obtain ⟨h1, h2⟩ := h
  unfold rdX rdL
  by_cases h0 : (rdB bs).2.2 = 0
  · rw [if_pos h0] at h1
    rw [if_pos h0, if_pos h0, h0]
    obtain ⟨v1, v2, h3, h4, h5⟩ := h1
    exact ⟨v1, v2, h3, h4, h5, h2⟩
  · rw [if_neg h0] at h1
    rw [if_neg h0, if_neg h0]
    exact ⟨_, _, h1, ⟨⟨none, 0, rfl, Nat.le_refl _, fun j hj => absurd hj (by simp)⟩, by simp, by simp⟩, LSrc.nil _, h2⟩
theorem rdL_len {bs : List Nat} (hb : ∀ x ∈ bs, x < 256) : 4 * (rdL bs).length ≤ bs.length := by
  unfold rdL
  by_cases h0 : (rdB bs).2.2 = 0
  · rw [if_pos h0]
    obtain ⟨_, _, h3, h4⟩ := write_read hb h0
    have := tot_ge (rdB bs).1 (rdB bs).1.length
    omega
  · rw [if_neg h0]; simp
set_option maxRecDepth 100000 in
set_option maxHeartbeats 16000000 in
theorem reads_any {w : World} {B : Option Addr} {m d : Nat} {bs : List Nat} (hb : Src w (.slice B m d) bs) (hd : m ≤ d) :
    Calls Try.prog 3 #[.slice B m d] w fun e w' => e = .returned (.bool true) ∧ Only Nix w w' := by
  have e2 := hb.len
  subst e2
  have hcb : CSrc w (.slice B bs.length d) bs := ⟨hb, fun _ _ _ e => by injection e with _ e2 e3; omega⟩
  have HB := Lib.hid hcb
  have HAw : Hid (∀ u, Calls Try.prog 9 #[] u fun e w' => e = .returned (.bool true) ∧ Only Nix u w') := Lib.hid awake_any
  clear hb hcb
  by_cases g2 : 1000 < bs.length
  · have g2i : (1000 : Int) < (bs.length : Int) := by omega
    have HA1 := Lib.hid (HAw.out w)
    go_enter Try.func3, Try.ntmps3
    go_wp2_with fail
    refine (HA1.out).mono ?_
    rintro e w2 ⟨rfl, o2⟩
    have HO2 := Lib.hid o2
    clear o2
    go_wp2
    go_ret
    exact ⟨rfl, HO2.out⟩
  have g2i : ¬ (1000 : Int) < (bs.length : Int) := by omega
  have HR1 : Hid (Calls Try.prog 10 #[.slice B bs.length d] w fun e w' => ∃ v, e = .returned (.tuple #[v, iv (rdX bs : Nat), iv (rdB bs).2.2]) ∧ BSrc w' v (rdL bs) ∧ Only Nix w w') := Lib.hid ((read_any HB.out (by omega)).mono fun e w' h => h.out')
  have HR2 : Hid (∀ u, Only Nix w u → Calls Try.prog 11 #[.slice B bs.length d] u fun e w' => ∃ v1 v2, e = .returned (.tuple #[v1, v2, iv (rdX bs : Nat), iv (rdB bs).2.2]) ∧ ISrc w' v1 ((rdL bs).map (·.1)) ∧ LSrc w' v2 ((rdL bs).map (·.2)) ∧ Only Nix u w') := Lib.hid (fun u hu => (readRef_any (HB.out.nix hu) (by omega)).mono fun e w' h => h.out')
  have hL := rdL_len HB.out.src.lt
  obtain ⟨X, hX⟩ : ∃ z, rdX bs = z := ⟨_, rfl⟩
  obtain ⟨E, hE⟩ : ∃ z, (rdB bs).2.2 = z := ⟨_, rfl⟩
  obtain ⟨ll, hLL⟩ : ∃ z, rdL bs = z := ⟨_, rfl⟩
  rw [hX, hE, hLL] at HR1 HR2
  rw [hLL] at hL
  have hL3 : ll.length ≤ 250 := by omega
  have HPl : Hid (∀ u v, BSrc u v ll → Calls Try.prog 12 #[v] u fun e w' => ∃ v1 v2, e = .returned (.tuple #[v1, v2]) ∧ ISrc w' v1 (ll.map (·.1)) ∧ LSrc w' v2 (ll.map (·.2)) ∧ Only Nix u w') := Lib.hid (fun u v h => plain_any h (by omega))
  have hlm1 : (ll.map (·.1)).length = ll.length := List.length_map ..
  have hlm2 : (ll.map (·.2)).length = ll.length := List.length_map ..
  obtain ⟨M1, hM1⟩ : ∃ z, ll.map (fun k : Bk => k.1) = z := ⟨_, rfl⟩
  obtain ⟨M2, hM2⟩ : ∃ z, ll.map (fun k : Bk => k.2) = z := ⟨_, rfl⟩
  rw [hM1, hM2] at HR2 HPl
  rw [hM1] at hlm1
  rw [hM2] at hlm2
  clear hM1 hM2
  clear hX hE hLL hL g2
  go_enter Try.func3, Try.ntmps3
  go_wp2_with fail
  refine (HR1.out).mono ?_
  rintro e w1 ⟨v1, rfl, s1, o1⟩
  have HO1 := Lib.hid o1
  have HS1 := Lib.hid s1
  have HR2' := Lib.hid (HR2.out w1 o1)
  clear s1 o1
  go_wp2_with fail
  refine (HR2'.out).mono ?_
  rintro e w2 ⟨v2, v3, rfl, s2, s3, o2⟩
  have HO2 := Lib.hid (HO1.out.trans o2)
  have HS2 := Lib.hid s2
  have HS3 := Lib.hid s3
  have HP2 := Lib.hid (HPl.out w2 v1 (HS1.out.nix o2))
  clear s2 s3 o2 HR2'
  go_wp2_with fail
  refine (HP2.out).mono ?_
  rintro e w3 ⟨v4, v5, rfl, s4, s5, o3⟩
  have HO3 := Lib.hid (HO2.out.trans o3)
  have h2 := HS2.out.nix o3
  have h3 := HS3.out.nix o3
  obtain ⟨P1, Q1, rfl⟩ := h2.slice
  obtain ⟨P2, Q2, rfl⟩ := h3.slice
  obtain ⟨P3, Q3, rfl⟩ := s4.slice
  obtain ⟨P4, Q4, rfl⟩ := s5.slice
  rw [hlm1] at h2 s4 ⊢
  rw [hlm2] at h3 s5 ⊢
  have HT1 := Lib.hid h2
  have HT2 := Lib.hid h3
  have HT3 := Lib.hid s4
  have HT4 := Lib.hid s5
  clear h2 h3 s4 s5 o3 HP2 HS1 HS2 HS3
  go_wp2
  go_loopw [12] (fun s12 wr => SmI w3 ll.length s12 wr) (fun s12 _ => ll.length - (intOf s12).toNat)
  case atStart => exact ⟨0, Nat.zero_le _, rfl, Only.refl _ _⟩
  case round =>
    obtain ⟨j, hj, rfl, ho⟩ := hrel
    have HO := Lib.hid ho
    clear ho
    by_cases hlt : j < ll.length
    · have hlti : (j : Int) < (ll.length : Int) := by omega
      obtain ⟨a3, rfl, hx3⟩ := (HT3.out.nix HO.out).at_ (k := j) (by rw [hlm1]; exact hlt)
      obtain ⟨a1, rfl, hx1⟩ := (HT1.out.nix HO.out).at_ (k := j) (by rw [hlm1]; exact hlt)
      obtain ⟨a4, B4, d4, rfl, hx4, sx4⟩ := (HT4.out.nix HO.out).at_ (k := j) (by rw [hlm2]; exact hlt)
      obtain ⟨a2, B2, d2, rfl, hx2, sx2⟩ := (HT2.out.nix HO.out).at_ (k := j) (by rw [hlm2]; exact hlt)
      have HEq : Hid (∀ u, Only Nix wr u → Calls Try.prog 13 #[.slice B4 (M2[j]'(by rw [hlm2]; exact hlt)).length d4, .slice B2 (M2[j]'(by rw [hlm2]; exact hlt)).length d2] u fun e w' => e = .returned (.bool true) ∧ Only Nix u w') := Lib.hid (fun u hu => equal_at (sx4.src.nix hu) (sx2.src.nix hu))
      have HX1 := Lib.hid hx1
      have HX2 := Lib.hid hx2
      have HX3 := Lib.hid hx3
      have HX4 := Lib.hid hx4
      clear sx4 sx2 hx1 hx2 hx3 hx4
      obtain ⟨t, ht⟩ : ∃ z, M1[j]'(by rw [hlm1]; exact hlt) = z := ⟨_, rfl⟩
      obtain ⟨N, hN⟩ : ∃ z, (M2[j]'(by rw [hlm2]; exact hlt)).length = z := ⟨_, rfl⟩
      rw [ht] at HX1 HX3
      rw [hN] at HX2 HX4 HEq
      clear ht hN
      go_wp2_with fail
      have fr_R : ∀ j s, j < 21 → (([some 56, some 57, some 58, some 59, some 60, some 61, some 62, some 63, some 64, some 65, some 66, some 67, some 68, some 69, some 70, some 71, some 72, some 73, some 74, some 75, some 76] : List (Option Nat)).all fun d => d != some s) = true → ([some 56, some 57, some 58, some 59, some 60, some 61, some 62, some 63, some 64, some 65, some 66, some 67, some 68, some 69, some 70, some 71, some 72, some 73, some 74, some 75, some 76] : List (Option Nat)).getD j none ≠ some s := by
        intro j s hj ha e
        rw [List.getD_eq_getElem?_getD, List.getElem?_eq_getElem (by exact hj), Option.getD_some] at e
        have := List.all_eq_true.1 ha _ (List.getElem_mem (by exact hj))
        rw [e] at this
        simp at this
      refine region_tel (by kernel_rfl) (fun k0 => ([some 56, some 57, some 58, some 59, some 60, some 61, some 62, some 63, some 64, some 65, some 66, some 67, some 68, some 69, some 70, some 71, some 72, some 73, some 74, some 75, some 76] : List (Option Nat)).getD k0 none) (PL [eqP (.slice (some a3) ll.length Q3), eqP (iv j), eqP (.pointer (some (a3.add j))), eqP (iv t), eqP (.slice (some a1) ll.length Q1), eqP (iv j), eqP (.pointer (some (a1.add j))), eqP (iv t), eqP (.bool false), eqP (.bool false), eqP (.slice (some a4) ll.length Q4), eqP (iv j), eqP (.pointer (some (a4.add j))), eqP (.slice B4 N d4), eqP (.slice (some a2) ll.length Q2), eqP (iv j), eqP (.pointer (some (a2.add j))), eqP (.slice B2 N d2), eqP (.bool true), eqP (.bool false), eqP (.bool false)]) (fun _ _ => True) (fun _ u => Only Nix wr u) 78 21 rfl (by kernel_rfl) (by kernel_rfl) rfl (by kernel_rfl) (by kernel_rfl) (stab_all ⟨fun _ _ _ h _ => h, fun _ _ _ h _ => h, fun _ _ _ h _ => h, fun _ _ _ h _ => h, fun _ _ _ h _ => h, fun _ _ _ h _ => h, fun _ _ _ h _ => h, fun _ _ _ h _ => h, fun _ _ _ h _ => h, fun _ _ _ h _ => h, fun _ _ _ h _ => h, fun _ _ _ h _ => h, fun _ _ _ h _ => h, fun _ _ _ h _ => h, fun _ _ _ h _ => h, fun _ _ _ h _ => h, fun _ _ _ h _ => h, fun _ _ _ h _ => h, fun _ _ _ h _ => h, fun _ _ _ h _ => h, fun _ _ _ h _ => h, trivial⟩) ((Only.refl _ _).drew) ?stepsR (fun vs => [(56, vs 0), (57, vs 1), (58, vs 2), (59, vs 3), (60, vs 4), (61, vs 5), (62, vs 6), (63, vs 7), (64, vs 8), (65, vs 9), (66, vs 10), (67, vs 11), (68, vs 12), (69, vs 13), (70, vs 14), (71, vs 15), (72, vs 16), (73, vs 17), (74, vs 18), (75, vs 19), (76, vs 20)]) (fun vs => rfl) ?doneR
      case stepsR =>
        refine ⟨?_, ?_, ?_, ?_, ?_, ?_, ?_, ?_, ?_, ?_, ?_, ?_, ?_, ?_, ?_, ?_, ?_, ?_, ?_, ?_, ?_, trivial⟩
        · intro L vs A' u hW hL0 hnd K' hK
          have hS := hW.wi.s
          have r10 : A'.tmps[10]? = some (.slice (some a3) ll.length Q3) := (hW.out 10 (fun j hj => fr_R j 10 hj (by kernel_rfl))).trans rfl
          go_simp
          exact hK _ _ (by first | rfl | (show _ = _; simp)) trivial (hS)
        · intro L vs A' u hW hL0 hnd K' hK
          have hS := hW.wi.s
          have r12 : A'.tmps[12]? = some (iv j) := (hW.out 12 (fun j hj => fr_R j 12 hj (by kernel_rfl))).trans rfl
          go_simp
          exact hK _ _ (by first | rfl | (show _ = _; simp)) trivial (hS)
        · intro L vs A' u hW hL0 hnd K' hK
          have hS := hW.wi.s
          have r56 : A'.tmps[56]? = some (.slice (some a3) ll.length Q3) := by
            obtain ⟨x, e, h⟩ := hW.tel 0 56 (by decide) (hnd 0 (by kernel_rfl)) rfl
            rw [e]; exact congrArg some h
          have r57 : A'.tmps[57]? = some (iv j) := by
            obtain ⟨x, e, h⟩ := hW.tel 1 57 (by decide) (hnd 1 (by kernel_rfl)) rfl
            rw [e]; exact congrArg some h
          go_simp
          exact hK _ _ (by first | rfl | (show _ = _; simp)) trivial (hS)
        · intro L vs A' u hW hL0 hnd K' hK
          have hS := hW.wi.s
          have r58 : A'.tmps[58]? = some (.pointer (some (a3.add j))) := by
            obtain ⟨x, e, h⟩ := hW.tel 2 58 (by decide) (hnd 2 (by kernel_rfl)) rfl
            rw [e]; exact congrArg some h
          have hq := cell_keep hS HX3.out
          go_simp
          exact hK _ _ (by first | rfl | (show _ = _; simp)) trivial (hS)
        · intro L vs A' u hW hL0 hnd K' hK
          have hS := hW.wi.s
          have r6 : A'.tmps[6]? = some (.slice (some a1) ll.length Q1) := (hW.out 6 (fun j hj => fr_R j 6 hj (by kernel_rfl))).trans rfl
          go_simp
          exact hK _ _ (by first | rfl | (show _ = _; simp)) trivial (hS)
        · intro L vs A' u hW hL0 hnd K' hK
          have hS := hW.wi.s
          have r12 : A'.tmps[12]? = some (iv j) := (hW.out 12 (fun j hj => fr_R j 12 hj (by kernel_rfl))).trans rfl
          go_simp
          exact hK _ _ (by first | rfl | (show _ = _; simp)) trivial (hS)
        · intro L vs A' u hW hL0 hnd K' hK
          have hS := hW.wi.s
          have r60 : A'.tmps[60]? = some (.slice (some a1) ll.length Q1) := by
            obtain ⟨x, e, h⟩ := hW.tel 4 60 (by decide) (hnd 4 (by kernel_rfl)) rfl
            rw [e]; exact congrArg some h
          have r61 : A'.tmps[61]? = some (iv j) := by
            obtain ⟨x, e, h⟩ := hW.tel 5 61 (by decide) (hnd 5 (by kernel_rfl)) rfl
            rw [e]; exact congrArg some h
          go_simp
          exact hK _ _ (by first | rfl | (show _ = _; simp)) trivial (hS)
        · intro L vs A' u hW hL0 hnd K' hK
          have hS := hW.wi.s
          have r62 : A'.tmps[62]? = some (.pointer (some (a1.add j))) := by
            obtain ⟨x, e, h⟩ := hW.tel 6 62 (by decide) (hnd 6 (by kernel_rfl)) rfl
            rw [e]; exact congrArg some h
          have hq := cell_keep hS HX1.out
          go_simp
          exact hK _ _ (by first | rfl | (show _ = _; simp)) trivial (hS)
        · intro L vs A' u hW hL0 hnd K' hK
          have hS := hW.wi.s
          have r59 : A'.tmps[59]? = some (iv t) := by
            obtain ⟨x, e, h⟩ := hW.tel 3 59 (by decide) (hnd 3 (by kernel_rfl)) rfl
            rw [e]; exact congrArg some h
          have r63 : A'.tmps[63]? = some (iv t) := by
            obtain ⟨x, e, h⟩ := hW.tel 7 63 (by decide) (hnd 7 (by kernel_rfl)) rfl
            rw [e]; exact congrArg some h
          go_simp
          exact hK _ _ (by first | rfl | (show _ = _; simp)) trivial (hS)
        · intro L vs A' u hW hL0 hnd K' hK
          have hS := hW.wi.s
          have r64 : A'.tmps[64]? = some (.bool false) := by
            obtain ⟨x, e, h⟩ := hW.tel 8 64 (by decide) (hnd 8 (by kernel_rfl)) rfl
            rw [e]; exact congrArg some h
          go_simp
          exact hK _ _ (by first | rfl | (show _ = _; simp)) trivial (hS)
        · intro L vs A' u hW hL0 hnd K' hK
          have hS := hW.wi.s
          have r11 : A'.tmps[11]? = some (.slice (some a4) ll.length Q4) := (hW.out 11 (fun j hj => fr_R j 11 hj (by kernel_rfl))).trans rfl
          have r65 : A'.tmps[65]? = some (.bool false) := by
            obtain ⟨x, e, h⟩ := hW.tel 9 65 (by decide) (hnd 9 (by kernel_rfl)) rfl
            rw [e]; exact congrArg some h
          rw [if_pos (wanted_yes (j := 9) (s := 65) (b := false) rfl (by kernel_rfl) r65)]
          go_simp
          exact hK _ _ (by first | rfl | (show _ = _; simp)) trivial (hS)
        · intro L vs A' u hW hL0 hnd K' hK
          have hS := hW.wi.s
          have r12 : A'.tmps[12]? = some (iv j) := (hW.out 12 (fun j hj => fr_R j 12 hj (by kernel_rfl))).trans rfl
          have r65 : A'.tmps[65]? = some (.bool false) := by
            obtain ⟨x, e, h⟩ := hW.tel 9 65 (by decide) (hnd 9 (by kernel_rfl)) rfl
            rw [e]; exact congrArg some h
          rw [if_pos (wanted_yes (j := 9) (s := 65) (b := false) rfl (by kernel_rfl) r65)]
          go_simp
          exact hK _ _ (by first | rfl | (show _ = _; simp)) trivial (hS)
        · intro L vs A' u hW hL0 hnd K' hK
          have hS := hW.wi.s
          have r66 : A'.tmps[66]? = some (.slice (some a4) ll.length Q4) := by
            obtain ⟨x, e, h⟩ := hW.tel 10 66 (by decide) (hnd 10 (by kernel_rfl)) rfl
            rw [e]; exact congrArg some h
          have r67 : A'.tmps[67]? = some (iv j) := by
            obtain ⟨x, e, h⟩ := hW.tel 11 67 (by decide) (hnd 11 (by kernel_rfl)) rfl
            rw [e]; exact congrArg some h
          have r65 : A'.tmps[65]? = some (.bool false) := by
            obtain ⟨x, e, h⟩ := hW.tel 9 65 (by decide) (hnd 9 (by kernel_rfl)) rfl
            rw [e]; exact congrArg some h
          rw [if_pos (wanted_yes (j := 9) (s := 65) (b := false) rfl (by kernel_rfl) r65)]
          go_simp
          exact hK _ _ (by first | rfl | (show _ = _; simp)) trivial (hS)
        · intro L vs A' u hW hL0 hnd K' hK
          have hS := hW.wi.s
          have r68 : A'.tmps[68]? = some (.pointer (some (a4.add j))) := by
            obtain ⟨x, e, h⟩ := hW.tel 12 68 (by decide) (hnd 12 (by kernel_rfl)) rfl
            rw [e]; exact congrArg some h
          have r65 : A'.tmps[65]? = some (.bool false) := by
            obtain ⟨x, e, h⟩ := hW.tel 9 65 (by decide) (hnd 9 (by kernel_rfl)) rfl
            rw [e]; exact congrArg some h
          rw [if_pos (wanted_yes (j := 9) (s := 65) (b := false) rfl (by kernel_rfl) r65)]
          have hq := cell_keep hS HX4.out
          go_simp
          exact hK _ _ (by first | rfl | (show _ = _; simp)) trivial (hS)
        · intro L vs A' u hW hL0 hnd K' hK
          have hS := hW.wi.s
          have r7 : A'.tmps[7]? = some (.slice (some a2) ll.length Q2) := (hW.out 7 (fun j hj => fr_R j 7 hj (by kernel_rfl))).trans rfl
          have r65 : A'.tmps[65]? = some (.bool false) := by
            obtain ⟨x, e, h⟩ := hW.tel 9 65 (by decide) (hnd 9 (by kernel_rfl)) rfl
            rw [e]; exact congrArg some h
          rw [if_pos (wanted_yes (j := 9) (s := 65) (b := false) rfl (by kernel_rfl) r65)]
          go_simp
          exact hK _ _ (by first | rfl | (show _ = _; simp)) trivial (hS)
        · intro L vs A' u hW hL0 hnd K' hK
          have hS := hW.wi.s
          have r12 : A'.tmps[12]? = some (iv j) := (hW.out 12 (fun j hj => fr_R j 12 hj (by kernel_rfl))).trans rfl
          have r65 : A'.tmps[65]? = some (.bool false) := by
            obtain ⟨x, e, h⟩ := hW.tel 9 65 (by decide) (hnd 9 (by kernel_rfl)) rfl
            rw [e]; exact congrArg some h
          rw [if_pos (wanted_yes (j := 9) (s := 65) (b := false) rfl (by kernel_rfl) r65)]
          go_simp
          exact hK _ _ (by first | rfl | (show _ = _; simp)) trivial (hS)
        · intro L vs A' u hW hL0 hnd K' hK
          have hS := hW.wi.s
          have r70 : A'.tmps[70]? = some (.slice (some a2) ll.length Q2) := by
            obtain ⟨x, e, h⟩ := hW.tel 14 70 (by decide) (hnd 14 (by kernel_rfl)) rfl
            rw [e]; exact congrArg some h
          have r71 : A'.tmps[71]? = some (iv j) := by
            obtain ⟨x, e, h⟩ := hW.tel 15 71 (by decide) (hnd 15 (by kernel_rfl)) rfl
            rw [e]; exact congrArg some h
          have r65 : A'.tmps[65]? = some (.bool false) := by
            obtain ⟨x, e, h⟩ := hW.tel 9 65 (by decide) (hnd 9 (by kernel_rfl)) rfl
            rw [e]; exact congrArg some h
          rw [if_pos (wanted_yes (j := 9) (s := 65) (b := false) rfl (by kernel_rfl) r65)]
          go_simp
          exact hK _ _ (by first | rfl | (show _ = _; simp)) trivial (hS)
        · intro L vs A' u hW hL0 hnd K' hK
          have hS := hW.wi.s
          have r72 : A'.tmps[72]? = some (.pointer (some (a2.add j))) := by
            obtain ⟨x, e, h⟩ := hW.tel 16 72 (by decide) (hnd 16 (by kernel_rfl)) rfl
            rw [e]; exact congrArg some h
          have r65 : A'.tmps[65]? = some (.bool false) := by
            obtain ⟨x, e, h⟩ := hW.tel 9 65 (by decide) (hnd 9 (by kernel_rfl)) rfl
            rw [e]; exact congrArg some h
          rw [if_pos (wanted_yes (j := 9) (s := 65) (b := false) rfl (by kernel_rfl) r65)]
          have hq := cell_keep hS HX2.out
          go_simp
          exact hK _ _ (by first | rfl | (show _ = _; simp)) trivial (hS)
        · intro L vs A' u hW hL0 hnd K' hK
          have hS := hW.wi.s
          have r69 : A'.tmps[69]? = some (.slice B4 N d4) := by
            obtain ⟨x, e, h⟩ := hW.tel 13 69 (by decide) (hnd 13 (by kernel_rfl)) rfl
            rw [e]; exact congrArg some h
          have r73 : A'.tmps[73]? = some (.slice B2 N d2) := by
            obtain ⟨x, e, h⟩ := hW.tel 17 73 (by decide) (hnd 17 (by kernel_rfl)) rfl
            rw [e]; exact congrArg some h
          have r65 : A'.tmps[65]? = some (.bool false) := by
            obtain ⟨x, e, h⟩ := hW.tel 9 65 (by decide) (hnd 9 (by kernel_rfl)) rfl
            rw [e]; exact congrArg some h
          rw [if_pos (wanted_yes (j := 9) (s := 65) (b := false) rfl (by kernel_rfl) r65)]
          have HCL := Lib.hid (HEq.out u hS)
          go_simp
          refine (HCL.out).mono ?_
          rintro _ u' ⟨rfl, ho2⟩
          exact hK _ _ rfl trivial (hS.trans ho2)
        · intro L vs A' u hW hL0 hnd K' hK
          have hS := hW.wi.s
          have r74 : A'.tmps[74]? = some (.bool true) := by
            obtain ⟨x, e, h⟩ := hW.tel 18 74 (by decide) (hnd 18 (by kernel_rfl)) rfl
            rw [e]; exact congrArg some h
          have r65 : A'.tmps[65]? = some (.bool false) := by
            obtain ⟨x, e, h⟩ := hW.tel 9 65 (by decide) (hnd 9 (by kernel_rfl)) rfl
            rw [e]; exact congrArg some h
          rw [if_pos (wanted_yes (j := 9) (s := 65) (b := false) rfl (by kernel_rfl) r65)]
          go_simp
          exact hK _ _ (by first | rfl | (show _ = _; simp)) trivial (hS)
        · intro L vs A' u hW hL0 hnd K' hK
          have hS := hW.wi.s
          have r65 : A'.tmps[65]? = some (.bool false) := by
            obtain ⟨x, e, h⟩ := hW.tel 9 65 (by decide) (hnd 9 (by kernel_rfl)) rfl
            rw [e]; exact congrArg some h
          have r75 : A'.tmps[75]? = some (.bool false) := by
            obtain ⟨x, e, h⟩ := hW.tel 19 75 (by decide) (hnd 19 (by kernel_rfl)) rfl
            rw [e]; exact congrArg some h
          go_simp
          exact hK _ _ (by first | rfl | (show _ = _; simp)) trivial (hS)
      case doneR =>
        intro L vs u9 hS hP hall
        have e0 : vs 0 = .slice (some a3) ll.length Q3 := hP 0 (by decide)
        have e1 : vs 1 = iv j := hP 1 (by decide)
        have e2 : vs 2 = .pointer (some (a3.add j)) := hP 2 (by decide)
        have e3 : vs 3 = iv t := hP 3 (by decide)
        have e4 : vs 4 = .slice (some a1) ll.length Q1 := hP 4 (by decide)
        have e5 : vs 5 = iv j := hP 5 (by decide)
        have e6 : vs 6 = .pointer (some (a1.add j)) := hP 6 (by decide)
        have e7 : vs 7 = iv t := hP 7 (by decide)
        have e8 : vs 8 = .bool false := hP 8 (by decide)
        have e9 : vs 9 = .bool false := hP 9 (by decide)
        have e10 : vs 10 = .slice (some a4) ll.length Q4 := hP 10 (by decide)
        have e11 : vs 11 = iv j := hP 11 (by decide)
        have e12 : vs 12 = .pointer (some (a4.add j)) := hP 12 (by decide)
        have e13 : vs 13 = .slice B4 N d4 := hP 13 (by decide)
        have e14 : vs 14 = .slice (some a2) ll.length Q2 := hP 14 (by decide)
        have e15 : vs 15 = iv j := hP 15 (by decide)
        have e16 : vs 16 = .pointer (some (a2.add j)) := hP 16 (by decide)
        have e17 : vs 17 = .slice B2 N d2 := hP 17 (by decide)
        have e18 : vs 18 = .bool true := hP 18 (by decide)
        have e19 : vs 19 = .bool false := hP 19 (by decide)
        have e20 : vs 20 = .bool false := hP 20 (by decide)
        simp only [putV, List.foldl_cons, List.foldl_nil, List.setIfInBounds_toArray, List.set_cons_zero, List.set_cons_succ, e0, e1, e2, e3, e4, e5, e6, e7, e8, e9, e10, e11, e12, e13, e14, e15, e16, e17, e18, e19, e20]
        clear e0 e1 e2 e3 e4 e5 e6 e7 e8 e9 e10 e11 e12 e13 e14 e15 e16 e17 e18 e19 e20 hP hall fr_R
        have HO2 := Lib.hid (HO.out.trans hS)
        clear hS
        go_wp2
        go_roundw
        case rel => exact ⟨j + 1, hlt, by go_num, HO2.out⟩
        case measure => simp [intOf]; omega
    · obtain rfl : j = ll.length := by omega
      have hlti : ¬ ((ll.length : Nat) : Int) < (ll.length : Int) := by omega
      have HA9 := Lib.hid (HAw.out wr)
      go_wp2_with fail
      refine (HA9.out).mono ?_
      rintro e w9 ⟨rfl, o9⟩
      have HO9 := Lib.hid ((HO3.out.trans HO.out).trans o9)
      clear o9
      go_wp2
      go_ret
      exact ⟨rfl, HO9.out⟩
end Go.Proofs.Ytighdjbeddcckaa
