/-
  A channel that was written is read as it was.
-/
import Derived.Test.YteklfkpeaadinaaGreatDoorPAS17
import Derived.Test.YteklfkpeaadinaaGreatDoorPAS10
namespace Go.Proofs.YteklfkpeaadinaaGreatDoor.K
open Go.RowKit

theorem resT_getD (s : Nat) (cs xs : List Int) (n k : Nat) (h : k < n) : (resT s cs xs n).getD k 0 = xs.getD (cs.length + k) 0 - tld s cs xs (cs.length + k) := by
  unfold resT
  rw [List.getD_eq_getElem?_getD, List.getElem?_map, List.getElem?_range h]
  rfl
/-- Restore of the Residual -/
theorem curK_res (s : Nat) (cs xs : List Int) (n : Nat) (hn : cs.length + n = xs.length) : ∀ k, k ≤ n → curK s cs (xs.take cs.length) (resT s cs xs n) k = xs.take (cs.length + k) := by
  have hfl : (xs.take cs.length).length = cs.length := by rw [List.length_take]; omega
  intro k
  induction k with
  | zero => intro _; rfl
  | succ k ih =>
    intro hk
    have hlt : cs.length + k < xs.length := by omega
    simp only [curK]
    rw [ih (by omega), hfl, resT_getD s cs xs n k (by omega), tld_congr s cs (xs.take (cs.length + k)) xs (cs.length + k) (by omega) (fun i hi => take_getD xs _ i hi)]
    rw [show cs.length + (k + 1) = cs.length + k + 1 by omega, List.take_succ_eq_append_getElem hlt, getD_of hlt]
    congr 2
    omega
theorem rst_res {P S : Int} {cs xs : List Int} (h : resE P S cs xs = 0) : rstE P S cs (xs.take cs.length) (resV P S cs xs) = 0 ∧ rstV P S cs (xs.take cs.length) (resV P S cs xs) = xs := by
  have h0 := h
  unfold resE at h
  by_cases hok : okL P S cs
  · rw [if_pos hok] at h
    by_cases hl : xs.length < cs.length
    · rw [if_pos hl] at h; omega
    · rw [if_neg hl] at h
      by_cases ha : ∀ x ∈ xs, isS x
      · have hv : resV P S cs xs = resT S.toNat cs xs (xs.length - cs.length) := if_pos h0
        have hfl : (xs.take cs.length).length = cs.length := by rw [List.length_take]; omega
        have hc : curK S.toNat cs (xs.take cs.length) (resV P S cs xs) (resV P S cs xs).length = xs := by
          rw [hv, resT_len, curK_res S.toNat cs xs _ (by omega) _ (Nat.le_refl _)]
          exact List.take_of_length_le (by omega)
        have e : rstE P S cs (xs.take cs.length) (resV P S cs xs) = 0 := by
          unfold rstE
          rw [if_pos hok, if_neg (by omega), hc, if_pos ha]
        exact ⟨e, by unfold rstV; rw [if_pos e, hc]⟩
      · rw [if_neg ha] at h; omega
  · rw [if_neg hok] at h; omega
end Go.Proofs.YteklfkpeaadinaaGreatDoor.K
namespace Go.Proofs.YteklfkpeaadinaaGreatDoor.S
open Go.RowKit Go.Shelf
open K (linV rstV resV rstE resE)

theorem smV_cons (bs : List Nat) (a n dep : Nat) : smV bs a (n + 1) dep = signR bs a dep :: smV bs (a + dep) n dep := by
  unfold smV
  rw [List.range_succ_eq_map, List.map_cons, List.map_map]
  have h0 : signR bs (a + 0 * dep) dep = signR bs a dep := by rw [Nat.zero_mul, Nat.add_zero]
  rw [h0]
  refine congrArg (List.cons _) (List.map_congr_left fun i _ => ?_)
  show signR bs (a + (i + 1) * dep) dep = signR bs (a + dep + i * dep) dep
  rw [Nat.succ_mul]
  congr 1
  omega
theorem nums_back {bs : List Nat} {n : Nat} (hn : n ≤ 48) : ∀ {xs : List Int} {L X : List Nat}, (∀ x ∈ xs, isS n x) → bitsOf bs = L ++ xs.flatMap (numB n) ++ X → smV bs L.length xs.length n = xs
  | [], L, X, _, _ => rfl
  | x :: xs, L, X, hs, h => by
    have hE : sgnE (n : Int) x = 0 := by
      unfold sgnE
      rw [if_neg (by omega), Int.toNat_natCast, if_pos (hs x (by simp))]
    have e1 : sgnL L (n : Int) x = L ++ numB n x := by
      unfold sgnL numB
      rw [if_pos hE, Int.toNat_natCast]
    obtain ⟨r1, _, _⟩ := sgn_back (bs := bs) (L := L) (X := xs.flatMap (numB n) ++ X) hE (by rw [e1, h]; simp [List.append_assoc])
    have ih := nums_back hn (bs := bs) (xs := xs) (L := L ++ numB n x) (X := X) (fun y hy => hs y (by simp [hy])) (by rw [h]; simp [List.append_assoc])
    rw [List.length_append, numB_len] at ih
    rw [List.length_cons, smV_cons, r1, ih]
theorem was_back {bs L X : List Nat} {wd d : Nat} (hw : wd < d) (hd : d ≤ 33) (h : bitsOf bs = L ++ wasB wd ++ X) : WsOk bs L.length d wd (L.length + (wasB wd).length) := by
  unfold wasB at h ⊢
  by_cases h0 : wd = 0
  · rw [if_pos h0] at h ⊢
    obtain ⟨t1, _, t3⟩ := take_mid h (by omega)
    exact ⟨t1, .inl ⟨t3, h0, by rw [bitsN_len]⟩⟩
  · rw [if_neg h0] at h ⊢
    obtain ⟨t1, _, t3⟩ := take_mid (bs := bs) (L := L) (n := 1) (x := 1) (X := (List.replicate (wd - 1) 0 ++ [1]) ++ X) (by rw [h]; simp only [List.append_assoc]) (by omega)
    have hE : unE ((wd - 1 : Nat) : Int) = 0 := by unfold unE; rw [if_neg (by omega)]
    have hu : unL (L ++ bitsN 1 1) ((wd - 1 : Nat) : Int) = (L ++ bitsN 1 1 ++ List.replicate (wd - 1) 0) ++ [1] := by unfold unL; rw [if_pos hE, Int.toNat_natCast]
    obtain ⟨u1, u2, u3⟩ := un_back (bs := bs) (L := L ++ bitsN 1 1) (X := X) hE (by rw [hu, h]; simp only [List.append_assoc])
    rw [hu] at u3
    have hl : (L ++ bitsN 1 1).length = L.length + 1 := by rw [List.length_append, bitsN_len]
    rw [hl] at u1 u2 u3
    refine ⟨t1, .inr ⟨by rw [t3]; decide, u2, by rw [u1]; omega, hw, ?_⟩⟩
    rw [u3]
    simp only [List.length_append, List.length_replicate, bitsN_len, List.length_singleton]
    omega
theorem kOf_code {k o : Nat} (hk : k < 4) (h1 : kL k ≤ o) (h2 : (o : Int) ≤ kM k) : kOf (kC k + o).toNat = some (k, o) ∧ (kC k + o).toNat < 64 := by
  rcases (by omega : k = 0 ∨ k = 1 ∨ k = 2 ∨ k = 3) with rfl | rfl | rfl | rfl
  · have e : kM 0 = 0 := rfl
    obtain rfl : o = 0 := by omega
    exact ⟨rfl, by decide⟩
  · have e : kM 1 = 0 := rfl
    obtain rfl : o = 0 := by omega
    exact ⟨rfl, by decide⟩
  · have e : kM 2 = 4 := rfl
    have e2 : kC 2 = 8 := rfl
    have hc : (kC 2 + (o : Int)).toNat = 8 + o := by omega
    rw [hc]
    refine ⟨?_, by omega⟩
    unfold kOf
    rw [if_neg (by omega), if_neg (by omega), if_pos (by omega), Nat.add_sub_cancel_left]
  · have e : kM 3 = 32 := rfl
    have e1 : kL 3 = 1 := rfl
    have e2 : kC 3 = 31 := rfl
    have hc : (kC 3 + (o : Int)).toNat = 31 + o := by omega
    rw [hc]
    refine ⟨?_, by omega⟩
    unfold kOf
    rw [if_neg (by omega), if_neg (by omega), if_neg (by omega), if_pos (by omega), Nat.add_sub_cancel_left]
theorem cd_back {bs L X : List Nat} {c k o : Nat} (hc : c < 64) (hk : kOf c = some (k, o)) (h : bitsOf bs = L ++ (bitsN 1 0 ++ bitsN 6 c) ++ X) : CdOk bs L.length k o := by
  obtain ⟨t1, _, t3⟩ := take_mid (bs := bs) (L := L) (n := 1) (x := 0) (X := bitsN 6 c ++ X) (by rw [h]; simp only [List.append_assoc]) (by omega)
  obtain ⟨s1, _, s3⟩ := take_mid (bs := bs) (L := L ++ bitsN 1 0) (n := 6) (x := c) (X := X) (by rw [h]; simp only [List.append_assoc]) (by omega)
  rw [List.length_append, bitsN_len] at s1 s3
  refine ⟨t1, t3, s1, ?_⟩
  rw [s3, Nat.mod_eq_of_lt (by have : (2 : Nat) ^ 6 = 64 := by decide
                               omega)]
  exact hk
theorem ln_back {bs L X : List Nat} {P : Nat} {S : Int} {cs : List Int} (hok : K.okL P S cs) (h : bitsOf bs = L ++ linB P S cs ++ X) : LnOk bs L.length cs.length P S cs (L.length + (linB P S cs).length) := by
  obtain ⟨⟨_, h1, h2, h3, h4⟩, h5⟩ := hok
  unfold linB at h ⊢
  obtain ⟨t1, _, t3⟩ := take_mid (bs := bs) (L := L) (n := 4) (x := P - 1) (X := (numB 5 S ++ cs.flatMap (numB P)) ++ X) (by rw [h]; simp only [List.append_assoc]) (by omega)
  have t3' : numAt bs L.length 4 = P - 1 := by
    rw [t3]
    exact Nat.mod_eq_of_lt (by have : (2 : Nat) ^ 4 = 16 := by decide
                               omega)
  have hE : sgnE ((5 : Nat) : Int) S = 0 := by
    unfold sgnE
    rw [if_neg (by omega), Int.toNat_natCast, if_pos]
    unfold isS
    rw [if_neg (by omega)]
    have : (2 : Int) ^ (5 - 1) = 16 := by decide
    omega
  have e1 : sgnL (L ++ bitsN 4 (P - 1)) ((5 : Nat) : Int) S = L ++ bitsN 4 (P - 1) ++ numB 5 S := by
    unfold sgnL numB
    rw [if_pos hE, Int.toNat_natCast]
  obtain ⟨r1, r2, _⟩ := sgn_back (bs := bs) (L := L ++ bitsN 4 (P - 1)) (X := cs.flatMap (numB P) ++ X) hE (by rw [e1, h]; simp only [List.append_assoc])
  have hl : (L ++ bitsN 4 (P - 1)).length = L.length + 4 := by rw [List.length_append, bitsN_len]
  rw [hl] at r1 r2
  have hl2 : (L ++ bitsN 4 (P - 1) ++ numB 5 S).length = L.length + 9 := by rw [List.length_append, hl, numB_len]
  have hm := nums_back (n := P) (by omega) (bs := bs) (xs := cs) (L := L ++ bitsN 4 (P - 1) ++ numB 5 S) (X := X) (fun x hx => (isS_isC P (by omega) x).1 (h5 x hx)) (by rw [h]; simp only [List.append_assoc])
  have hz := len_mid (bs := bs) (L := L ++ bitsN 4 (P - 1) ++ numB 5 S) (E := cs.flatMap (numB P)) (X := X) (by rw [h]; simp only [List.append_assoc])
  rw [hl2] at hm hz
  rw [numsB_len, Nat.mul_comm] at hz
  have ht : L.length + (bitsN 4 (P - 1) ++ (numB 5 S ++ cs.flatMap (numB P))).length = L.length + 9 + cs.length * P := by
    rw [List.length_append, List.length_append, bitsN_len, numB_len, numsB_len, Nat.mul_comm]
    omega
  exact ⟨t1, by omega, by omega, r2, r1.symm, h3, hz, hm.symm, ht⟩
theorem pts_flat {S s : Nat} (hS : s < S) (l : List Int) : ∀ j, ((List.range j).map (pt S s l)).flatten = l.take (frm S s j)
  | 0 => by rw [frm_zero]; rfl
  | j + 1 => by
    have h1 := (frm_step S s j hS).1
    rw [List.range_succ, List.map_append, List.flatten_append, pts_flat hS l j]
    simp only [List.map_cons, List.map_nil, List.flatten_cons, List.flatten_nil, List.append_nil]
    unfold pt
    rw [← List.take_add]
    congr 1
    omega
theorem plRs_flat {m o s P S : Nat} {ps bs l : List Int} (hF : Fine m o s P S ps bs l) : (plRs S s P ps bs l).map (·.1) = ps ∧ (plRs S s P ps bs l).map (·.2.1) = bs ∧ ((plRs S s P ps bs l).map (·.2.2)).flatten = l := by
  have hr : ∀ (qs : List Int), qs.length = P → (List.range P).map (fun k => qs.getD k 0) = qs := fun qs hq => by
    refine List.ext_getElem (by simp [hq]) (fun k h1 h2 => ?_)
    rw [List.getElem_map, List.getElem_range]
    exact K.getD_of h2
  unfold plRs
  rw [List.map_map, List.map_map, List.map_map]
  refine ⟨hr ps hF.np, hr bs hF.nb, ?_⟩
  have h := pts_flat hF.lt l P
  have e : ((fun r : Int × Int × List Int => r.2.2) ∘ fun k => (ps.getD k 0, bs.getD k 0, pt S s l k)) = pt S s l := rfl
  rw [e, h]
  refine List.take_of_length_le ?_
  have := hF.eq
  unfold frm
  omega
theorem mul2_dvd {wd : Nat} {x : Int} (h : x % 2 ^ wd = 0) : mul2 wd (dvd wd x) = x := by
  unfold mul2 dvd
  exact Int.ediv_mul_cancel (Int.dvd_of_emod_eq_zero h)
theorem same_rep {f : Int → Int} {xs : List Int} (h : sameA xs) (hl : 1 ≤ xs.length) : xs.map f = List.replicate xs.length (((xs.map f).take 1).getD 0 0) := by
  cases xs with
  | nil => simp at hl
  | cons x xt =>
    refine List.eq_replicate_iff.2 ⟨by simp, fun y hy => ?_⟩
    obtain ⟨z, hz, rfl⟩ := List.mem_map.1 hy
    rw [h z hz]
    rfl
/-- residuals that were written can be read -/
theorem rc_back {by_ L X : List Nat} {k o wn D : Nat} {lp ls m ro d : Int} {cs ps bs xs : List Int} (h0 : splE k o wn lp ls m ro cs ps bs d xs = 0) (hk : (2 : Int) ≤ k) (hf : fitsD (D - wn) (xs.map (dvd wn)))
    (h : bitsOf by_ = L ++ blockB (xs.length / 2 ^ ro.toNat) o (2 ^ ro.toNat) m.toNat ro.toNat ps bs (splV k o wn lp ls cs xs) ++ X) {z : Nat} (hz : z = L.length + (blockB (xs.length / 2 ^ ro.toNat) o (2 ^ ro.toNat) m.toNat ro.toNat ps bs (splV k o wn lp ls cs xs)).length) :
    RcOk by_ L.length xs.length o (D - wn) (tP k lp) (tS k ls) (tC k o cs) ((xs.map (dvd wn)).take o) m ro ps bs (xs.map (dvd wn)) z := by
  obtain ⟨m', ro', O, rfl, rfl, e3, hF, hl, hok, hcl, hE⟩ := splE_fine h0 hk
  obtain rfl : o = O := by omega
  have hv : splV k o wn lp ls cs xs = resV (tP k lp) (tS k ls) (tC k o cs) (xs.map (dvd wn)) := if_pos hk
  simp only [Int.toNat_natCast] at h hz hE
  have hP := block_back hF h
  rw [hl, ← hz] at hP
  obtain ⟨f1, f2, f3⟩ := plRs_flat hF
  obtain ⟨r1, r2⟩ := K.rst_res hE
  rw [hcl, ← hv] at r1 r2
  refine ⟨m', ro', _, rfl, rfl, hP, f1.symm, f2.symm, ?_, ?_⟩
  · rw [f3]
    exact ⟨r1, by rw [r2]; exact hf⟩
  · rw [f3, r2]
/-- what was written can be read, as it was -/
theorem ch_back {by_ L X : List Nat} {k o wd lp ls m ro : Int} {cs ps bs : List Int} {d : Int} {xs : List Int} (h0 : splE k o wd lp ls m ro cs ps bs d xs = 0) (h : bitsOf by_ = L ++ chB k o wd lp ls m ro cs ps bs d xs ++ X) :
    ∃ kn on wn : Nat, k = kn ∧ o = on ∧ wd = wn ∧ ChOk by_ L.length xs.length d.toNat kn on wn lp ls cs m ro ps bs xs (L.length + (chB k o wd lp ls m ro cs ps bs d xs).length) := by
  obtain ⟨hb, hp, hfit, hdv, hsame⟩ := splE_zero h0
  obtain ⟨hk0, hk4, hw0, hwd, hl, hm, hown⟩ := ckPl_zero hp
  have hb' : 4 ≤ d ∧ d ≤ 33 ∧ 1 ≤ xs.length ∧ xs.length ≤ 65535 := by
    unfold ckBlk at hb
    split at hb
    · cases hb
    · omega
  obtain ⟨kn, rfl⟩ := Int.eq_ofNat_of_zero_le hk0
  obtain ⟨wn, rfl⟩ := Int.eq_ofNat_of_zero_le hw0
  obtain ⟨D, rfl⟩ := Int.eq_ofNat_of_zero_le (show 0 ≤ d by omega)
  have ho0 : 0 ≤ o := by
    rw [Int.toNat_natCast] at hl
    rcases (by omega : kn = 0 ∨ kn = 1 ∨ kn = 2 ∨ kn = 3) with rfl | rfl | rfl | rfl
    · exact hl
    · exact hl
    · exact hl
    · have : kL 3 = 1 := rfl
      omega
  obtain ⟨on, rfl⟩ := Int.eq_ofNat_of_zero_le ho0
  refine ⟨kn, on, wn, rfl, rfl, rfl, ?_⟩
  simp only [Int.toNat_natCast] at hl hm hfit hdv
  obtain ⟨hc1, hc2⟩ := kOf_code (show kn < 4 by omega) hl hm
  have hwD : wn < D := by omega
  have hdp : ((D : Int) - (wn : Int)).toNat = D - wn := by omega
  have hn : ∃ n : Nat, plM (kn : Int) on xs.length = (n : Int) ∧ n ≤ xs.length := by
    unfold plM
    split
    · exact ⟨1, rfl, by omega⟩
    · split
      · exact ⟨xs.length, rfl, Nat.le_refl _⟩
      · obtain ⟨_, _, O, _, _, e3, _, e4, _⟩ := splE_fine h0 (by omega)
        exact ⟨on, rfl, by omega⟩
  obtain ⟨n, hn, hnb⟩ := hn
  have hfy : ∀ y ∈ xs.map (dvd wn), isS (D - wn) y := fun y hy => by
    obtain ⟨x, hx, rfl⟩ := List.mem_map.1 hy
    exact isS_dvd hwD (hfit x hx)
  have hfy2 : fitsD (D - wn) (xs.map (dvd wn)) := fun y hy => by
    have := hfy y hy
    unfold isS at this
    rwa [if_neg (by omega)] at this
  have hys : xs = (xs.map (dvd wn)).map (mul2 wn) := by
    conv => lhs; rw [← List.map_id xs]
    rw [List.map_map]
    exact List.map_congr_left (fun x hx => (mul2_dvd (hdv x hx)).symm)
  have hchl : (chB kn on wn lp ls m ro cs ps bs D xs) = (bitsN 1 0 ++ (bitsN 6 (kC kn + on).toNat ++ wasB wn)) ++ (((xs.map (dvd wn)).take n).flatMap (numB (D - wn)) ++ ((if (kn : Int) = 3 then linB lp.toNat ls cs else []) ++ (if 2 ≤ (kn : Int) then blockB (xs.length / 2 ^ ro.toNat) on (2 ^ ro.toNat) m.toNat ro.toNat ps bs (splV kn on wn lp ls cs xs) else []))) := by
    unfold chB headB
    rw [hdp, hn]
    simp only [Int.toNat_natCast]
  rw [hchl] at h ⊢
  clear hchl
  obtain ⟨LN, hLN⟩ : ∃ LN, (if (kn : Int) = 3 then linB lp.toNat ls cs else []) = LN := ⟨_, rfl⟩
  obtain ⟨BK, hBK⟩ : ∃ BK, (if 2 ≤ (kn : Int) then blockB (xs.length / 2 ^ ro.toNat) on (2 ^ ro.toNat) m.toNat ro.toNat ps bs (splV kn on wn lp ls cs xs) else []) = BK := ⟨_, rfl⟩
  rw [hLN, hBK] at h ⊢
  obtain ⟨c, hc⟩ : ∃ c, (kC kn + on).toNat = c := ⟨_, rfl⟩
  rw [hc] at h hc1 hc2 ⊢
  have hcd := cd_back hc2 hc1 (bs := by_) (L := L) (X := wasB wn ++ (((xs.map (dvd wn)).take n).flatMap (numB (D - wn)) ++ (LN ++ BK)) ++ X) (by rw [h]; simp only [List.append_assoc])
  have hws := was_back hwD (by omega) (bs := by_) (L := L ++ (bitsN 1 0 ++ bitsN 6 c)) (X := ((xs.map (dvd wn)).take n).flatMap (numB (D - wn)) ++ (LN ++ BK) ++ X) (by rw [h]; simp only [List.append_assoc])
  have hl7 : (L ++ (bitsN 1 0 ++ bitsN 6 c)).length = L.length + 7 := by rw [List.length_append, List.length_append, bitsN_len, bitsN_len]
  rw [hl7] at hws
  have hla : (L ++ (bitsN 1 0 ++ (bitsN 6 c ++ wasB wn))).length = L.length + 7 + (wasB wn).length := by
    rw [List.length_append, List.length_append, List.length_append, bitsN_len, bitsN_len]
    omega
  have htl : ((xs.map (dvd wn)).take n).length = n := by rw [List.length_take, List.length_map]; omega
  have hnm := nums_back (n := D - wn) (by omega) (bs := by_) (xs := (xs.map (dvd wn)).take n) (L := L ++ (bitsN 1 0 ++ (bitsN 6 c ++ wasB wn))) (X := LN ++ BK ++ X) (fun y hy => hfy y (List.mem_of_mem_take hy)) (by rw [h]; simp only [List.append_assoc])
  have hnl := len_mid (bs := by_) (L := L ++ (bitsN 1 0 ++ (bitsN 6 c ++ wasB wn))) (E := ((xs.map (dvd wn)).take n).flatMap (numB (D - wn))) (X := LN ++ BK ++ X) (by rw [h]; simp only [List.append_assoc])
  rw [hla, htl] at hnm
  have hnl2 : (((xs.map (dvd wn)).take n).flatMap (numB (D - wn))).length = n * (D - wn) := by rw [numsB_len, htl, Nat.mul_comm]
  rw [hla, hnl2] at hnl
  have htot : L.length + ((bitsN 1 0 ++ (bitsN 6 c ++ wasB wn)) ++ (((xs.map (dvd wn)).take n).flatMap (numB (D - wn)) ++ (LN ++ BK))).length = L.length + 7 + (wasB wn).length + n * (D - wn) + LN.length + BK.length := by
    simp only [List.length_append, bitsN_len, hnl2]
    omega
  rw [htot]
  have hl4 : (L ++ (bitsN 1 0 ++ (bitsN 6 c ++ wasB wn)) ++ ((xs.map (dvd wn)).take n).flatMap (numB (D - wn))).length = L.length + 7 + (wasB wn).length + n * (D - wn) := by
    rw [List.length_append, hla, hnl2]
  refine ⟨L.length + 7 + (wasB wn).length, xs.map (dvd wn), hcd, by simpa using hws, ?_, ?_, hys⟩
  · simp only [hn, Int.toNat_natCast]
    exact hnl
  simp only [hn, Int.toNat_natCast]
  rw [hnm]
  have hw4 : bitsOf by_ = (L ++ (bitsN 1 0 ++ (bitsN 6 c ++ wasB wn)) ++ ((xs.map (dvd wn)).take n).flatMap (numB (D - wn))) ++ (LN ++ BK) ++ X := by rw [h]; simp only [List.append_assoc]
  generalize (L ++ (bitsN 1 0 ++ (bitsN 6 c ++ wasB wn)) ++ ((xs.map (dvd wn)).take n).flatMap (numB (D - wn))) = L4 at hl4 hw4
  rw [← hl4]
  clear hnm hnl hnl2 htot hws hla hl7 hcd h hc hl4
  rcases (by omega : kn = 0 ∨ kn = 1 ∨ kn = 2 ∨ kn = 3) with rfl | rfl | rfl | rfl
  · obtain ⟨⟨h1, h2, h3⟩, h4⟩ := hown
    rcases h4 with h4 | ⟨h4, h5, h6, h7⟩
    · cases h4
    · obtain rfl : LN = [] := hLN.symm
      obtain rfl : BK = [] := hBK.symm
      have hn1 : n = 1 := by
        have : (n : Int) = 1 := hn.symm
        omega
      subst hn1
      exact .inl ⟨rfl, h1, h2, List.eq_nil_of_length_eq_zero h3, h4, h5, List.eq_nil_of_length_eq_zero h6, List.eq_nil_of_length_eq_zero h7, same_rep (hsame rfl) (by omega), rfl⟩
  · obtain ⟨⟨h1, h2, h3⟩, h4⟩ := hown
    rcases h4 with h4 | ⟨h4, h5, h6, h7⟩
    · cases h4
    · obtain rfl : LN = [] := hLN.symm
      obtain rfl : BK = [] := hBK.symm
      have hn1 : n = xs.length := by
        have : (n : Int) = (xs.length : Int) := hn.symm
        omega
      exact .inr (.inl ⟨rfl, h1, h2, List.eq_nil_of_length_eq_zero h3, h4, h5, List.eq_nil_of_length_eq_zero h6, List.eq_nil_of_length_eq_zero h7, (List.take_of_length_le (by rw [List.length_map]; omega)).symm, rfl⟩)
  · obtain ⟨⟨h1, h2, h3⟩, _⟩ := hown
    obtain rfl : LN = [] := hLN.symm
    have hn1 : n = on := by
      have : (n : Int) = (on : Int) := hn.symm
      omega
    subst hn1
    refine .inr (.inr (.inl ⟨rfl, h1, h2, List.eq_nil_of_length_eq_zero h3, ?_⟩))
    exact rc_back h0 (by omega) hfy2 (L := L4) (X := X) (by rw [hw4, ← hBK]; rfl) (by rw [← hBK]; rfl)
  · have h1 : (cs.length : Int) = on := hown
    have hn1 : n = on := by
      have : (n : Int) = (on : Int) := hn.symm
      omega
    subst hn1
    obtain ⟨_, _, _, _, _, _, _, _, hok, _, _⟩ := splE_fine h0 (by omega)
    obtain ⟨P, rfl⟩ := Int.eq_ofNat_of_zero_le (show 0 ≤ lp from by have := hok.1.2.1; simp [tP] at this; omega)
    have hok2 : K.okL (P : Int) ls cs := hok
    have hLN2 : linB P ls cs = LN := hLN
    have hln := ln_back hok2 (bs := by_) (L := L4) (X := BK ++ X) (by rw [hw4, ← hLN2]; simp only [List.append_assoc])
    have e1 : cs.length = n := by omega
    rw [e1, hLN2] at hln
    refine .inr (.inr (.inr ⟨rfl, P, _, rfl, hln, ?_⟩))
    have := rc_back h0 (by omega) hfy2 (by_ := by_) (L := L4 ++ LN) (X := X) (z := L4.length + LN.length + BK.length) (by rw [hw4, ← hBK]; simp only [List.append_assoc]; rfl) (by rw [List.length_append, ← hBK]; rfl)
    rw [List.length_append] at this
    exact this
end Go.Proofs.YteklfkpeaadinaaGreatDoor.S
