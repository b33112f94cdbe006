/-
  What is read of any bits is a channel that is written as them: plain mathematics.
-/
import Derived.Test.YteklfkpeaadinaaGreatDoorPBS19
import Derived.Test.YteklfkpeaadinaaGreatDoorPBG12
namespace Go.Proofs.YteklfkpeaadinaaGreatDoor.S
open Go.RowKit Go.Shelf
open K (linV rstV resV rstE resE)
theorem takeE_of {bs : List Nat} {a n : Nat} (hn : n ≤ 48) (h : a + n ≤ 8 * bs.length) : takeE bs a (n : Int) = 0 := by
  unfold takeE
  rw [if_neg (by omega), if_neg (by omega)]
theorem sgn_forth {bs : List Nat} {wd a : Nat} (h2 : takeE bs a (wd : Int) = 0) : isS wd (signR bs a wd) ∧ Sees bs a (numB wd (signR bs a wd)) := by
  have s := take_sees h2
  have hN := numAt_lt bs a wd
  obtain ⟨x, hx0⟩ : ∃ x, signR bs a wd = x := ⟨_, rfl⟩
  have h1 := hx0
  rw [hx0]
  have hs : isS wd x ∧ (x % 2 ^ wd).toNat = numAt bs a wd := by
    unfold signR at h1
    rw [if_pos h2, Int.toNat_natCast] at h1
    clear hx0 s h2
    generalize numAt bs a wd = N at *
    unfold isS
    rcases Nat.eq_zero_or_pos wd with rfl | hp
    · have : N = 0 := by simpa using hN
      subst this
      rw [if_neg (by omega)] at h1
      have : x = 0 := by omega
      subst this
      simp
    · obtain ⟨k, rfl⟩ : ∃ k, wd = k + 1 := ⟨wd - 1, by omega⟩
      rw [if_neg (by omega), Nat.add_sub_cancel]
      rw [Nat.add_sub_cancel] at h1
      rw [pow_cast (k + 1)] at h1
      rw [pow_cast k, pow_cast (k + 1)]
      have hps : 2 ^ (k + 1) = 2 ^ k * 2 := Nat.pow_succ 2 k
      have hpp : 0 < 2 ^ k := Nat.two_pow_pos k
      rw [hps] at h1 hN ⊢
      clear hps
      generalize 2 ^ k = P at *
      split at h1
      · rename_i g
        have hx : x = (N : Int) - ((P * 2 : Nat) : Int) := h1.symm
        refine ⟨by omega, ?_⟩
        have : x % ((P * 2 : Nat) : Int) = (N : Int) := by
          rw [hx, Int.sub_emod_right, Int.emod_eq_of_lt (by omega) (by omega)]
        rw [this, Int.toNat_natCast]
      · rename_i g
        have hx : x = (N : Int) := h1.symm
        refine ⟨by omega, ?_⟩
        rw [hx, Int.emod_eq_of_lt (by omega) (by omega), Int.toNat_natCast]
  refine ⟨hs.1, ?_⟩
  unfold numB
  rw [hs.2]
  exact s
theorem nums_forth {bs : List Nat} {n : Nat} (hn : n ≤ 48) : ∀ (m a : Nat), a + m * n ≤ 8 * bs.length → (∀ x ∈ smV bs a m n, isS n x) ∧ Sees bs a ((smV bs a m n).flatMap (numB n))
  | 0, a, h => ⟨fun x hx => by simp [smV] at hx, Sees.nil (by omega)⟩
  | m + 1, a, h => by
    rw [Nat.succ_mul] at h
    obtain ⟨h1, h2⟩ := sgn_forth (takeE_of (bs := bs) (a := a) hn (by omega))
    obtain ⟨h3, h4⟩ := nums_forth (bs := bs) hn m (a + n) (by omega)
    rw [smV_cons]
    refine ⟨fun x hx => ?_, ?_⟩
    · rcases List.mem_cons.1 hx with rfl | hx
      · exact h1
      · exact h3 x hx
    · rw [List.flatMap_cons]
      exact h2.append (h4.to (by rw [numB_len]))
theorem was_forth {bs : List Nat} {a d wd a1 : Nat} (h : WsOk bs a d wd a1) (hd : 1 ≤ d) : wd < d ∧ Sees bs a (wasB wd) ∧ a1 = a + (wasB wd).length := by
  have s1 := take_sees (n := 1) h.1
  have hN := numAt_lt bs a 1
  rcases h.2 with ⟨e1, rfl, rfl⟩ | ⟨e1, e2, e3, e4, e5⟩
  · rw [e1] at s1
    refine ⟨by omega, ?_, ?_⟩
    · unfold wasB; rw [if_pos rfl]; exact s1
    · unfold wasB; rw [if_pos rfl, bitsN_len]
  · have e6 : numAt bs a 1 = 1 := by
      have : (2 : Nat) ^ 1 = 2 := rfl
      omega
    rw [e6] at s1
    have hl : a + 1 ≤ 8 * bs.length := by have := s1.1; rwa [bitsN_len] at this
    obtain ⟨u1, u2⟩ := unary_sees hl e2
    have hr := unaryR_nat bs (a + 1)
    have e7 : (unaryR bs (a + 1)).toNat = wd - 1 := by omega
    have h0 : wd ≠ 0 := by omega
    rw [e7] at u1 u2
    have ew : wasB wd = bitsN 1 1 ++ (List.replicate (wd - 1) 0 ++ [1]) := by unfold wasB; rw [if_neg h0]
    rw [ew]
    refine ⟨e4, s1.append (u1.to (by rw [bitsN_len])), ?_⟩
    rw [e5, u2, List.length_append, List.length_append, bitsN_len, List.length_replicate, List.length_singleton]
    omega
theorem kOf_forth {c k o : Nat} (h : kOf c = some (k, o)) : k < 4 ∧ kL k ≤ o ∧ (o : Int) ≤ kM k ∧ (kC k + o).toNat = c := by
  unfold kOf at h
  split at h
  · rename_i e
    injection h with h
    injection h with h1 h2
    subst h1 h2 e
    exact ⟨by decide, by decide, by decide, by decide⟩
  · split at h
    · rename_i _ e
      injection h with h
      injection h with h1 h2
      subst h1 h2 e
      exact ⟨by decide, by decide, by decide, by decide⟩
    · split at h
      · rename_i e
        injection h with h
        injection h with h1 h2
        subst h1 h2
        have e1 : kL 2 = 0 := rfl
        have e2 : kM 2 = 4 := rfl
        have e3 : kC 2 = 8 := rfl
        exact ⟨by decide, by omega, by omega, by omega⟩
      · split at h
        · rename_i e
          injection h with h
          injection h with h1 h2
          subst h1 h2
          have e1 : kL 3 = 1 := rfl
          have e2 : kM 3 = 32 := rfl
          have e3 : kC 3 = 31 := rfl
          exact ⟨by decide, by omega, by omega, by omega⟩
        · cases h
theorem ln_forth {bs : List Nat} {a o P : Nat} {S : Int} {cs : List Int} {a' : Nat} (ho : o ≤ 32) (h : LnOk bs a o P S cs a') : K.okL P S cs ∧ cs.length = o ∧ Sees bs a (linB P S cs) ∧ a' = a + (linB P S cs).length := by
  obtain ⟨h1, h2, h3, h4, h5, h6, h7, h8, h9⟩ := h
  have hN := numAt_lt bs a 4
  have hp : (2 : Nat) ^ 4 = 16 := by decide
  rw [hp] at hN
  have s1 := take_sees (n := 4) h1
  obtain ⟨i2, s2⟩ := sgn_forth (wd := 5) h4
  have h5' : S = signR bs (a + 4) ((5 : Nat) : Int) := h5
  obtain ⟨i3, s3⟩ := nums_forth (n := P) (by omega) o (a + 9) h7
  rw [← h5'] at i2 s2
  rw [← h8] at i3 s3
  rw [show numAt bs a 4 = P - 1 by omega] at s1
  have hl : cs.length = o := by rw [h8, smV_len]
  refine ⟨⟨⟨by omega, by omega, by omega, h6, ?_⟩, fun c hc => (isS_isC P (by omega) c).2 (i3 c hc)⟩, hl, ?_, ?_⟩
  · unfold isS at i2
    rw [if_neg (by omega)] at i2
    have : (2 : Int) ^ (5 - 1) = 16 := by decide
    omega
  · unfold linB
    refine s1.append (Sees.to ?_ (show a + 4 = _ by rw [bitsN_len]))
    exact s2.append (s3.to (by rw [numB_len]))
  · unfold linB
    rw [List.length_append, List.length_append, bitsN_len, numB_len, numsB_len, Nat.mul_comm, hl]
    omega
theorem rcs_forth {bs : List Nat} {a b o dp : Nat} {P S : Int} {C fs : List Int} {m ro : Int} {ps ws ys : List Int} {a' : Nat} (hb0 : 1 ≤ b) (hb : b ≤ 65535) (ho : o ≤ 32) (hf : fs.length = o) (h : RcOk bs a b o dp P S C fs m ro ps ws ys a') :
    rofE P S C m ro ps ws o ys = 0 ∧ ys.length = b ∧ ys.take o = fs ∧ fitsD dp ys ∧ Sees bs a (blockB (b / 2 ^ ro.toNat) o (2 ^ ro.toNat) m.toNat ro.toNat ps ws (resV P S C ys)) ∧ a' = a + (blockB (b / 2 ^ ro.toNat) o (2 ^ ro.toNat) m.toNat ro.toNat ps ws (resV P S C ys)).length := by
  obtain ⟨m', ro', rs, rfl, rfl, hP, rfl, rfl, hR, rfl⟩ := h
  have hB : ckB (b : Int) (o : Int) = 0 := by unfold ckB; rw [if_neg (by omega)]
  obtain ⟨l, e1, hF, e2, e3, e4, e5, e6⟩ := block_forth hB hP
  rw [← e1] at hR ⊢
  obtain ⟨r1, r2, r3, r4⟩ := K.res_rst hR.1
  have hok := (K.rstE_zero hR.1).1
  have hlt := hF.big
  have hS := hF.lt
  have hbo : o < b := Nat.lt_of_lt_of_le hS (Nat.div_le_self _ _)
  have hyl : (rstV P S C fs l).length = b := by rw [r4]; omega
  simp only [Int.toNat_natCast]
  rw [r2]
  refine ⟨?_, hyl, by rw [← hf]; exact r3, hR.2, e4, e5⟩
  have hz := hF.sizeE
  have hC : ckC (m' : Int) (ro' : Int) (rs.map (·.1)) (rs.map (·.2.1)) ((l.length : Int) + (o : Int)) o = 0 := by
    apply Classical.byContradiction
    intro hn
    unfold sizeE at hz
    rw [if_pos hn] at hz
    exact hn hz
  have hLen : (((rstV P S C fs l).length : Nat) : Int) = (l.length : Int) + (o : Int) := by rw [r4]; omega
  unfold rofE
  rw [if_neg (by unfold K.ckL; rw [if_pos hok]; simp), hLen, if_neg (by rw [hC]; simp), if_neg (by rw [r1]; simp), r2]
  exact hz
theorem dvd_mul2 (wd : Nat) (y : Int) : dvd wd (mul2 wd y) = y := by
  unfold dvd mul2
  exact Int.mul_ediv_cancel _ (Int.ne_of_gt (Int.pow_pos (by decide)))
theorem mul2_mod (wd : Nat) (y : Int) : mul2 wd y % 2 ^ wd = 0 := by unfold mul2; exact Int.mul_emod_left _ _
theorem mul2_depth {d wd : Nat} {y : Int} (h : wd < d) (h1 : -((2 : Int) ^ (d - wd - 1)) ≤ y ∧ y < (2 : Int) ^ (d - wd - 1)) : -((2 : Int) ^ (d - 1)) ≤ mul2 wd y ∧ mul2 wd y < (2 : Int) ^ (d - 1) := by
  have he : (2 : Int) ^ (d - 1) = 2 ^ (d - wd - 1) * 2 ^ wd := by rw [← Int.pow_add]; congr 1; omega
  have hp : (0 : Int) < 2 ^ wd := Int.pow_pos (by decide)
  rw [he]
  unfold mul2
  refine ⟨?_, Int.mul_lt_mul_of_pos_right h1.2 hp⟩
  rw [← Int.neg_mul]
  exact Int.mul_le_mul_of_nonneg_right h1.1 (Int.le_of_lt hp)
/-- what stands behind the samples -/
noncomputable def tlB (k o b : Nat) (lp ls : Int) (cs : List Int) (m ro : Int) (ps ws ys : List Int) : List Nat :=
  (if (k : Int) = 3 then linB lp.toNat ls cs else []) ++ (if (2 : Int) ≤ k then blockB (b / 2 ^ ro.toNat) o (2 ^ ro.toNat) m.toNat ro.toNat ps ws (if (2 : Int) ≤ k then resV (tP k lp) (tS k ls) (tC k o cs) ys else []) else [])
theorem rt_forth {bs : List Nat} {a b dp k o n : Nat} {fs : List Int} {lp ls : Int} {cs : List Int} {m ro : Int} {ps ws ys : List Int} {a' : Nat} (hb0 : 1 ≤ b) (hb : b ≤ 65535) (ha : a ≤ 8 * bs.length) (hdp : 1 ≤ dp)
    (hn : plM (k : Int) o b = (n : Int)) (hfl : fs.length = n) (hfs : ∀ x ∈ fs, isS dp x) (ho : kL k ≤ o ∧ (o : Int) ≤ kM k) (h : RtOk bs a b dp k o fs lp ls cs m ro ps ws ys a') :
    ys.length = b ∧ ys.take n = fs ∧ fitsD dp ys ∧ (k = 0 → ∃ c, ys = List.replicate b c) ∧ ownOk k o lp ls m ro cs.length ps.length ws.length ∧ ((2 : Int) ≤ k → rofE (tP k lp) (tS k ls) (tC k o cs) m ro ps ws o ys = 0) ∧
      Sees bs a (tlB k o b lp ls cs m ro ps ws ys) ∧ a' = a + (tlB k o b lp ls cs m ro ps ws ys).length := by
  have hfit : fitsD dp fs := fun x hx => by
    have := hfs x hx
    unfold isS at this
    rwa [if_neg (by omega)] at this
  rcases h with ⟨rfl, rfl, rfl, rfl, rfl, rfl, rfl, rfl, rfl, rfl⟩ | ⟨rfl, rfl, rfl, rfl, rfl, rfl, rfl, rfl, rfl, rfl⟩ | ⟨rfl, rfl, rfl, rfl, hR⟩ | ⟨rfl, P, a3, rfl, hL, hR⟩
  · have hn1 : n = 1 := by unfold plM at hn; rw [if_pos (by omega)] at hn; omega
    subst hn1
    match fs, hfl with
    | [c], _ =>
      refine ⟨by simp, ?_, fun x hx => ?_, fun _ => ⟨c, rfl⟩, ⟨⟨rfl, rfl, rfl⟩, .inr ⟨rfl, rfl, rfl, rfl⟩⟩, fun h => by omega, ?_, ?_⟩
      · obtain ⟨q, rfl⟩ : ∃ q, b = q + 1 := ⟨b - 1, by omega⟩
        simp [List.replicate_succ]
      · rw [List.eq_of_mem_replicate hx]
        exact hfit c (by simp)
      · exact Sees.nil ha
      · simp [tlB]
  · have hnb : n = b := by unfold plM at hn; rw [if_neg (by omega), if_pos (by omega)] at hn; omega
    subst hnb
    exact ⟨hfl, List.take_of_length_le (by omega), hfit, fun h => by omega, ⟨⟨rfl, rfl, rfl⟩, .inr ⟨rfl, rfl, rfl, rfl⟩⟩, fun h => by omega, Sees.nil ha, by simp [tlB]⟩
  · have hno : n = o := by unfold plM at hn; rw [if_neg (by omega), if_neg (by omega)] at hn; omega
    subst hno
    have e : kM 2 = 4 := rfl
    obtain ⟨r1, r2, r3, r4, r5, r6⟩ := rcs_forth hb0 hb (by omega) hfl hR
    have et : tlB 2 n b 0 0 [] m ro ps ws ys = blockB (b / 2 ^ ro.toNat) n (2 ^ ro.toNat) m.toNat ro.toNat ps ws (resV 4 0 (K.fx n) ys) := by simp [tlB, tP, tS, tC]
    rw [et]
    exact ⟨r2, r3, r4, fun h => by omega, ⟨⟨rfl, rfl, rfl⟩, .inl rfl⟩, fun _ => r1, r5, r6⟩
  · have hno : n = o := by unfold plM at hn; rw [if_neg (by omega), if_neg (by omega)] at hn; omega
    subst hno
    have e : kM 3 = 32 := rfl
    obtain ⟨l1, l2, l3, l4⟩ := ln_forth (by omega) hL
    obtain ⟨r1, r2, r3, r4, r5, r6⟩ := rcs_forth hb0 hb (by omega) hfl hR
    have et : tlB 3 n b (P : Int) ls cs m ro ps ws ys = linB P ls cs ++ blockB (b / 2 ^ ro.toNat) n (2 ^ ro.toNat) m.toNat ro.toNat ps ws (resV P ls cs ys) := by simp [tlB, tP, tS, tC]
    rw [et]
    refine ⟨r2, r3, r4, fun h => by omega, ?_, fun _ => r1, l3.append (r5.to l4), by rw [r6, l4, List.length_append]; omega⟩
    show (if ((3 : Nat) : Int) = 3 then ((cs.length : Nat) : Int) = n else _)
    rw [if_pos (by omega), l2]
/-- what is read is written as the bits that were read -/
theorem ch_forth {bs : List Nat} {a b d k o wd : Nat} {lp ls : Int} {cs : List Int} {m ro : Int} {ps ws xs : List Int} {a' : Nat} (h : ChOk bs a b d k o wd lp ls cs m ro ps ws xs a') (hb0 : 1 ≤ b) (hb : b ≤ 65535) (hd4 : 4 ≤ d) (hd : d ≤ 33) :
    splE k o wd lp ls m ro cs ps ws d xs = 0 ∧ xs.length = b ∧ Sees bs a (chB k o wd lp ls m ro cs ps ws d xs) ∧ a' = a + (chB k o wd lp ls m ro cs ps ws d xs).length := by
  obtain ⟨a1, ys, ⟨c1, c2, c3, c4⟩, hws, hfit, hrt, rfl⟩ := h
  obtain ⟨hk, hl, hm, hc⟩ := kOf_forth c4
  obtain ⟨hwd, sw, ew⟩ := was_forth hws (by omega)
  have s1 := take_sees (n := 1) c1
  have s6 := take_sees (n := 6) c3
  rw [c2] at s1
  rw [← hc] at s6
  obtain ⟨n, hn⟩ : ∃ n : Nat, plM (k : Int) o b = (n : Int) := by
    unfold plM
    split
    · exact ⟨1, rfl⟩
    · split
      · exact ⟨b, rfl⟩
      · exact ⟨o, rfl⟩
  rw [hn, Int.toNat_natCast] at hfit hrt
  obtain ⟨hi, sn⟩ := nums_forth (n := d - wd) (by omega) n a1 hfit
  obtain ⟨y1, y2, y3, y4, y5, y6, y7, y8⟩ := rt_forth hb0 hb hfit (by omega) hn (smV_len _ _ _ _) hi ⟨hl, hm⟩ hrt
  have hmap : (ys.map (mul2 wd)).map (dvd wd) = ys := by
    rw [List.map_map]
    conv => rhs; rw [← List.map_id ys]
    exact List.map_congr_left (fun y _ => dvd_mul2 wd y)
  have hlen : (ys.map (mul2 wd)).length = b := by rw [List.length_map, y1]
  have hfx : fitsD d (ys.map (mul2 wd)) := fun x hx => by
    obtain ⟨y, hy, rfl⟩ := List.mem_map.1 hx
    exact mul2_depth hwd (y3 y hy)
  have hdx : dvA wd (ys.map (mul2 wd)) := fun x hx => by
    obtain ⟨y, hy, rfl⟩ := List.mem_map.1 hx
    exact mul2_mod wd y
  have hsm : (k : Int) = 0 → sameA (ys.map (mul2 wd)) := fun h0 => by
    obtain ⟨c, rfl⟩ := y4 (by omega)
    rw [List.map_replicate]
    intro x hx
    rw [List.eq_of_mem_replicate hx, List.getD_eq_getElem?_getD, List.getElem?_replicate, if_pos (by omega)]
    rfl
  have hB : ckBlk ((ys.map (mul2 wd)).length : Nat) d = 0 := by rw [hlen]; unfold ckBlk; rw [if_neg (by omega)]
  have hP : ckPl k o wd lp ls m ro cs.length ps.length ws.length d = 0 := by
    unfold ckPl
    rw [if_neg (by omega), Int.toNat_natCast, if_neg (by omega), if_pos y5]
  have hE : splE k o wd lp ls m ro cs ps ws d (ys.map (mul2 wd)) = 0 := by
    unfold splE
    rw [if_neg (by rw [hB]; simp), if_neg (by rw [hP]; simp), Int.toNat_natCast, Int.toNat_natCast, if_neg (by simp [hfx, hdx]), if_neg (fun h => h.2 (hsm h.1)), hmap]
    split
    · rename_i h2
      exact y6 h2
    · rfl
  have hch : chB k o wd lp ls m ro cs ps ws d (ys.map (mul2 wd)) = (bitsN 1 0 ++ (bitsN 6 (kC k + o).toNat ++ wasB wd)) ++ ((smV bs a1 n (d - wd)).flatMap (numB (d - wd)) ++ tlB k o b lp ls cs m ro ps ws ys) := by
    unfold chB headB splV tlB
    rw [Int.toNat_natCast, Int.toNat_natCast, hlen, hn, hmap, show ((d : Int) - (wd : Int)).toNat = d - wd by omega, Int.toNat_natCast, Int.toNat_natCast, y2]
  refine ⟨hE, hlen, ?_⟩
  rw [hch]
  have hs : Sees bs a (bitsN 1 0 ++ (bitsN 6 (kC k + o).toNat ++ wasB wd)) := s1.append (Sees.to (s6.append (sw.to (by rw [bitsN_len]))) (by rw [bitsN_len]))
  have hl1 : (bitsN 1 0 ++ (bitsN 6 (kC k + o).toNat ++ wasB wd)).length = 7 + (wasB wd).length := by
    rw [List.length_append, List.length_append, bitsN_len, bitsN_len]
    omega
  have hl2 : ((smV bs a1 n (d - wd)).flatMap (numB (d - wd))).length = n * (d - wd) := by rw [numsB_len, smV_len, Nat.mul_comm]
  refine ⟨hs.append (Sees.to (sn.append (y7.to (by rw [hl2]))) (by rw [hl1, ew]; omega)), ?_⟩
  rw [y8]
  simp only [List.length_append, bitsN_len, hl2]
  omega
end Go.Proofs.YteklfkpeaadinaaGreatDoor.S
