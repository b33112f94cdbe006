/-
  What is written is read as it was: residuals, parts, blocks.
-/
import Derived.Test.YtliemhadgbjjiaaRReadR
namespace Go.Proofs.Ytliemhadgbjjiaa
open Go.RowKit

theorem piece_mid (L E X : List Nat) : ((L ++ E ++ X).drop L.length).take E.length = E := by
  rw [List.append_assoc, List.drop_left, List.take_left]
theorem numAt_mid {bs L E X : List Nat} (h : bitsOf bs = L ++ E ++ X) : numAt bs L.length E.length = val E := by
  unfold numAt; rw [h, piece_mid]
theorem len_mid {bs L E X : List Nat} (h : bitsOf bs = L ++ E ++ X) : L.length + E.length ≤ 8 * bs.length := by
  rw [← bitsOf_len, h, List.length_append, List.length_append]; omega

theorem take_mid {bs L X : List Nat} {n x : Nat} (h : bitsOf bs = L ++ bitsN n x ++ X) (hn : n ≤ 48) : takeE bs L.length (n : Int) = 0 ∧ takeA bs L.length (n : Int) = L.length + n ∧ numAt bs L.length n = x % 2 ^ n := by
  have h1 := len_mid h
  rw [bitsN_len] at h1
  have e1 : takeE bs L.length (n : Int) = 0 := takeE_ok (by omega) (by omega)
  refine ⟨e1, by unfold takeA; rw [e1, if_pos rfl, Int.toNat_natCast], ?_⟩
  have h2 := numAt_mid h
  rw [bitsN_len, val_bitsN] at h2
  exact h2
theorem put_back {bs L X : List Nat} {n x : Int} (hE : putE n x = 0) (h : bitsOf bs = putL L n x ++ X) : takeR bs L.length n = x ∧ takeE bs L.length n = 0 ∧ takeA bs L.length n = (putL L n x).length := by
  have hn : ¬ (n < 0 ∨ 48 < n) := fun hh => by unfold putE at hE; rw [if_pos hh] at hE; cases hE
  obtain ⟨m, rfl⟩ := Int.eq_ofNat_of_zero_le (show 0 ≤ n by omega)
  have hx : ¬ (x < 0 ∨ (2 : Int) ^ (m : Int).toNat ≤ x) := fun hh => by unfold putE at hE; rw [if_neg hn, if_pos hh] at hE; cases hE
  obtain ⟨y, rfl⟩ := Int.eq_ofNat_of_zero_le (show 0 ≤ x by omega)
  have e1 : putL L (m : Int) (y : Int) = L ++ bitsN m y := by unfold putL; rw [hE, if_pos rfl, Int.toNat_natCast, Int.toNat_natCast]
  rw [e1] at h ⊢
  obtain ⟨t1, t2, t3⟩ := take_mid h (by omega)
  rw [Int.toNat_natCast, pow_cast] at hx
  refine ⟨?_, t1, by rw [t2, List.length_append, bitsN_len]⟩
  unfold takeR
  rw [t1, if_pos rfl, Int.toNat_natCast, t3, Nat.mod_eq_of_lt (by omega)]
theorem sgn_back {bs L X : List Nat} {n x : Int} (hE : sgnE n x = 0) (h : bitsOf bs = sgnL L n x ++ X) : signR bs L.length n = x ∧ takeE bs L.length n = 0 ∧ takeA bs L.length n = (sgnL L n x).length := by
  have hn : ¬ (n < 0 ∨ 48 < n) := fun hh => by unfold sgnE at hE; rw [if_pos hh] at hE; cases hE
  obtain ⟨m, rfl⟩ := Int.eq_ofNat_of_zero_le (show 0 ≤ n by omega)
  have hx : isS m x := by
    by_cases hh : isS m x
    · exact hh
    · unfold sgnE at hE; rw [if_neg hn, Int.toNat_natCast, if_neg hh] at hE; cases hE
  have e1 : sgnL L (m : Int) x = L ++ bitsN m (x % 2 ^ m).toNat := by unfold sgnL; rw [hE, if_pos rfl, Int.toNat_natCast]
  rw [e1] at h ⊢
  obtain ⟨t1, t2, t3⟩ := take_mid h (by omega)
  refine ⟨?_, t1, by rw [t2, List.length_append, bitsN_len]⟩
  unfold signR
  rw [t1, if_pos rfl, Int.toNat_natCast, t3]
  unfold isS at hx
  rcases Nat.eq_zero_or_pos m with rfl | hp
  · rw [if_pos rfl] at hx
    subst hx
    rfl
  · obtain ⟨k, rfl⟩ : ∃ k, m = k + 1 := ⟨m - 1, by omega⟩
    rw [if_neg (by omega), Nat.add_sub_cancel, pow_cast] at hx
    rw [Nat.add_sub_cancel, pow_cast]
    have hps : 2 ^ (k + 1) = 2 ^ k * 2 := Nat.pow_succ 2 k
    have hpp : 0 < 2 ^ k := Nat.two_pow_pos k
    rw [hps]
    generalize 2 ^ k = P at *
    by_cases h0 : 0 ≤ x
    · have e2 : x % ((P * 2 : Nat) : Int) = x := Int.emod_eq_of_lt h0 (by omega)
      rw [e2, Nat.mod_eq_of_lt (by omega), if_neg (by omega)]
      omega
    · have e2 : x % ((P * 2 : Nat) : Int) = x + ((P * 2 : Nat) : Int) := by
        rw [← Int.add_emod_right, Int.emod_eq_of_lt (by omega) (by omega)]
      rw [e2, Nat.mod_eq_of_lt (by omega), if_pos ⟨by omega, by omega⟩]
      omega
theorem un_back {bs L X : List Nat} {x : Int} (hE : unE x = 0) (h : bitsOf bs = unL L x ++ X) : unaryR bs L.length = x ∧ unaryE bs L.length = 0 ∧ unaryA bs L.length = (unL L x).length := by
  have hx : ¬ (x < 0 ∨ 65536 < x) := fun hh => by unfold unE at hE; rw [if_pos hh] at hE; cases hE
  obtain ⟨k, rfl⟩ := Int.eq_ofNat_of_zero_le (show 0 ≤ x by omega)
  have e1 : unL L (k : Int) = (L ++ List.replicate k 0) ++ [1] := by unfold unL; rw [hE, if_pos rfl, Int.toNat_natCast]
  rw [e1] at h ⊢
  have hl := congrArg List.length h
  rw [bitsOf_len] at hl
  simp at hl
  have h1 : oneAt bs L.length = L.length + k := by
    refine one_found (by omega) (fun j hj1 hj2 => ?_) ?_
    · rw [h, List.append_assoc, List.append_assoc, List.getElem?_append_right hj1, List.getElem?_append_left (by simp; omega)]
      rw [List.getElem?_replicate, if_pos (by omega)]
    · rw [h, List.append_assoc, List.getElem?_append_right (by simp)]
      simp
  have h2 : ¬ oneAt bs L.length = 8 * bs.length := by omega
  refine ⟨?_, by unfold unaryE; rw [if_neg h2], by unfold unaryA; rw [if_neg h2, h1]; simp; omega⟩
  unfold unaryR
  rw [if_neg h2, h1]
  omega

theorem rc_back {bs L X : List Nat} {p : Nat} {x : Int} (hp : p ≤ 30) (hx : isR x) (hf : fd x / 2 ^ p ≤ 65536) (h : bitsOf bs = L ++ resB p 0 x ++ X) : rcX bs p L.length = (x, 0, L.length + (resB p 0 x).length) := by
  have hpn : ¬ ((p : Int) = -1) := by omega
  have er : resB p 0 x = (List.replicate (fd x / 2 ^ p) 0 ++ [1]) ++ bitsN p (fd x % 2 ^ p) := by unfold resB; rw [if_neg hpn, Int.toNat_natCast]
  have e0 : unE ((fd x / 2 ^ p : Nat) : Int) = 0 := by unfold unE; rw [if_neg (by generalize fd x / 2 ^ p = q at *; omega)]
  have e1 : unL L ((fd x / 2 ^ p : Nat) : Int) = L ++ (List.replicate (fd x / 2 ^ p) 0 ++ [1]) := by unfold unL; rw [e0, if_pos rfl, Int.toNat_natCast, List.append_assoc]
  rw [er] at h
  obtain ⟨u1, u2, u3⟩ := un_back (bs := bs) (L := L) (X := bitsN p (fd x % 2 ^ p) ++ X) e0 (by rw [h, e1]; simp [List.append_assoc])
  rw [e1] at u3
  obtain ⟨t1, t2, t3⟩ := take_mid (bs := bs) (L := L ++ (List.replicate (fd x / 2 ^ p) 0 ++ [1])) (X := X) (n := p) (x := fd x % 2 ^ p) (by rw [h]; simp [List.append_assoc]) (by omega)
  rw [← u3] at t1 t2 t3
  have hm := Nat.div_add_mod (fd x) (2 ^ p)
  have hml : fd x % 2 ^ p % 2 ^ p = fd x % 2 ^ p := Nat.mod_mod _ _
  have hv : (unaryR bs L.length).toNat * 2 ^ p + numAt bs (unaryA bs L.length) p = fd x := by
    rw [u1, Int.toNat_natCast, t3, hml, Nat.mul_comm]
    exact hm
  unfold rcX
  rw [if_neg (by rw [u2]; simp), if_neg (by rw [u1]; generalize fd x / 2 ^ p = q at *; omega), if_neg (by rw [t1]; simp), hv, ufd_fd, if_pos hx, u3, er]
  simp [bitsN_len, Nat.add_assoc, Nat.add_comm 1 p]
theorem sg_back {bs L X : List Nat} {wd : Nat} {x : Int} (hw : wd ≤ 31) (hx : fd x < 2 ^ wd) (h : bitsOf bs = L ++ resB (-1) wd x ++ X) : sgX bs wd L.length = (x, 0, L.length + (resB (-1) wd x).length) := by
  have er : resB (-1) wd x = bitsN wd (x % 2 ^ wd).toNat := by unfold resB; rw [if_pos rfl, Int.toNat_natCast]
  have hs : isS wd x := (isS_fd wd x).2 hx
  have e0 : sgnE (wd : Int) x = 0 := by unfold sgnE; rw [if_neg (by omega), Int.toNat_natCast, if_pos hs]
  have e1 : sgnL L (wd : Int) x = L ++ bitsN wd (x % 2 ^ wd).toNat := by unfold sgnL; rw [e0, if_pos rfl, Int.toNat_natCast]
  rw [er] at h ⊢
  obtain ⟨u1, u2, u3⟩ := sgn_back (bs := bs) (L := L) (X := X) e0 (by rw [h, e1])
  unfold sgX
  rw [u1, u2, u3, e1]
  simp [bitsN_len]
theorem fill_back {bs : List Nat} (f : Nat → Rx) (B : Int → List Nat) : ∀ (xs : List Int) (L X : List Nat), (∀ x ∈ xs, ∀ L X, bitsOf bs = L ++ B x ++ X → f L.length = (x, 0, L.length + (B x).length)) → bitsOf bs = L ++ xs.flatMap B ++ X →
    fE f xs.length L.length = 0 ∧ fV f xs.length L.length = xs ∧ fA f xs.length L.length = L.length + (xs.flatMap B).length
  | [], L, X, _, _ => ⟨rfl, rfl, by simp [fA]⟩
  | x :: xs, L, X, hf, h => by
    rw [List.flatMap_cons] at h
    have h1 := hf x (List.mem_cons_self ..) L (xs.flatMap B ++ X) (by rw [h]; simp [List.append_assoc])
    have h2 := fill_back f B xs (L ++ B x) X (fun y hy => hf y (List.mem_cons_of_mem _ hy)) (by rw [h]; simp [List.append_assoc])
    rw [List.length_append] at h2
    rw [List.length_cons, fE, fV, fA, h1]
    refine ⟨by rw [if_neg (by simp)]; exact h2.1, by rw [h2.2.1], ?_⟩
    rw [h2.2.2, List.flatMap_cons, List.length_append]
    omega
theorem part_back {bs L X : List Nat} {m : Nat} {p wd : Int} {xs : List Int} (hm : m ≤ 1) (hp : isP m p wd) (hr : ∀ x ∈ xs, isR x) (hmy : mayP p wd (xs.map fd) = true) (h : bitsOf bs = L ++ partB m p wd xs ++ X) :
    RPok bs m xs.length L.length p wd xs (L.length + (partB m p wd xs).length) := by
  have hle : ∀ x ∈ xs, fd x ≤ mxN (xs.map fd) := fun x hx => mxN_le _ (List.mem_map.2 ⟨x, hx, rfl⟩)
  rcases hp with ⟨rfl, h2, h3⟩ | ⟨h2, h3, rfl⟩
  · obtain ⟨wd, rfl⟩ := Int.eq_ofNat_of_zero_le h2
    unfold mayP at hmy
    rw [if_pos rfl, Int.toNat_natCast, decide_eq_true_eq] at hmy
    have ht : partB m (-1) wd xs = (bitsN (4 + m) (15 + 16 * m) ++ bitsN 5 wd) ++ xs.flatMap (resB (-1) wd) := by unfold partB hdB; rw [if_pos rfl, Int.toNat_natCast]
    rw [ht] at h ⊢
    obtain ⟨t1, t2, t3⟩ := take_mid (bs := bs) (L := L) (X := bitsN 5 wd ++ xs.flatMap (resB (-1) wd) ++ X) (n := 4 + m) (x := 15 + 16 * m) (by rw [h]; simp [List.append_assoc]) (by omega)
    have hpw : (15 + 16 * m) % 2 ^ (4 + m) = 15 + 16 * m := by
      obtain rfl | rfl : m = 0 ∨ m = 1 := by omega
      · decide
      · decide
    obtain ⟨s1, s2, s3⟩ := take_mid (bs := bs) (L := L ++ bitsN (4 + m) (15 + 16 * m)) (X := xs.flatMap (resB (-1) wd) ++ X) (n := 5) (x := wd) (by rw [h]; simp [List.append_assoc]) (by omega)
    rw [List.length_append, bitsN_len] at s1 s2 s3
    have hwm : wd % 2 ^ 5 = wd := Nat.mod_eq_of_lt (by have : (2 : Nat) ^ 5 = 32 := by decide
                                                       omega)
    rw [hwm] at s3
    have hF := fill_back (bs := bs) (sgX bs wd) (resB (-1) wd) xs (L ++ bitsN (4 + m) (15 + 16 * m) ++ bitsN 5 wd) X (fun x hx L' X' h' => sg_back (by omega) (Nat.lt_of_le_of_lt (hle x hx) hmy) h') (by rw [h]; simp [List.append_assoc])
    rw [List.length_append, List.length_append, bitsN_len, bitsN_len] at hF
    refine ⟨t1, .inr ⟨by rw [t3, hpw], s1, rfl, by rw [s3], by rw [s3]; exact hF.1, by rw [s3]; exact hF.2.1.symm, ?_⟩⟩
    rw [s3, hF.2.2]
    simp [bitsN_len]
    omega
  · obtain ⟨p, rfl⟩ := Int.eq_ofNat_of_zero_le h2
    have hpn : ¬ ((p : Int) = -1) := by omega
    unfold mayP at hmy
    rw [if_neg hpn, Int.toNat_natCast, decide_eq_true_eq] at hmy
    have ht : partB m p 0 xs = bitsN (4 + m) p ++ xs.flatMap (resB p 0) := by unfold partB hdB; rw [if_neg hpn, Int.toNat_natCast]
    rw [ht] at h ⊢
    obtain ⟨t1, t2, t3⟩ := take_mid (bs := bs) (L := L) (X := xs.flatMap (resB p 0) ++ X) (n := 4 + m) (x := p) (by rw [h]; simp [List.append_assoc]) (by omega)
    have hpw : p % 2 ^ (4 + m) = p := Nat.mod_eq_of_lt (by
      obtain rfl | rfl : m = 0 ∨ m = 1 := by omega
      · have : (2 : Nat) ^ (4 + 0) = 16 := by decide
        omega
      · have : (2 : Nat) ^ (4 + 1) = 32 := by decide
        omega)
    rw [hpw] at t3
    have hF := fill_back (bs := bs) (rcX bs p) (resB p 0) xs (L ++ bitsN (4 + m) p) X (fun x hx L' X' h' => rc_back (by omega) (hr x hx) (Nat.le_trans (Nat.div_le_div_right (hle x hx)) hmy) h') (by rw [h]; simp [List.append_assoc])
    rw [List.length_append, bitsN_len] at hF
    refine ⟨t1, .inl ⟨by rw [t3]; omega, by rw [t3], rfl, by rw [t3]; exact hF.1, by rw [t3]; exact hF.2.1.symm, ?_⟩⟩
    rw [t3, hF.2.2]
    simp [bitsN_len]
    omega
theorem parts_back {bs : List Nat} {m : Nat} (hm : m ≤ 1) (pk wk : Nat → Int) (xk : Nat → List Int) (nk : Nat → Nat) : ∀ (ks : List Nat) (L X : List Nat), (∀ k ∈ ks, isP m (pk k) (wk k) ∧ (∀ x ∈ xk k, isR x) ∧ mayP (pk k) (wk k) ((xk k).map fd) = true ∧ nk k = (xk k).length) →
    bitsOf bs = L ++ (ks.flatMap fun k => partB m (pk k) (wk k) (xk k)) ++ X → RBk bs m nk ks L.length (ks.map fun k => (pk k, wk k, xk k)) (L.length + (ks.flatMap fun k => partB m (pk k) (wk k) (xk k)).length)
  | [], L, X, _, _ => by simp [RBk]
  | k :: ks, L, X, hk, h => by
    rw [List.flatMap_cons] at h
    obtain ⟨h1, h2, h3, h4⟩ := hk k (List.mem_cons_self ..)
    have hp := part_back (bs := bs) (L := L) (X := (ks.flatMap fun k => partB m (pk k) (wk k) (xk k)) ++ X) hm h1 h2 h3 (by rw [h]; simp [List.append_assoc])
    have hq := parts_back hm pk wk xk nk ks (L ++ partB m (pk k) (wk k) (xk k)) X (fun j hj => hk j (List.mem_cons_of_mem _ hj)) (by rw [h]; simp [List.append_assoc])
    rw [List.length_append] at hq
    rw [List.map_cons]
    refine ⟨L.length + (partB m (pk k) (wk k) (xk k)).length, by rw [h4]; exact hp, ?_⟩
    rw [List.flatMap_cons, List.length_append, ← Nat.add_assoc]
    exact hq

/-- what a plan's parts are -/
def plRs (S s P : Nat) (ps bs l : List Int) : List (Int × Int × List Int) := (List.range P).map fun k => (ps.getD k 0, bs.getD k 0, pt S s l k)
theorem block_back {by_ L X : List Nat} {m o s P S : Nat} {ps bs l : List Int} (hF : Fine m o s P S ps bs l) (h : bitsOf by_ = L ++ blockB S s P m o ps bs l ++ X) :
    Parse by_ L.length (l.length + s) s m o (plRs S s P ps bs l) (L.length + (blockB S s P m o ps bs l).length) := by
  have hpp : 0 < 2 ^ o := Nat.two_pow_pos o
  have hb : blockB S s P m o ps bs l = (bitsN 2 m ++ bitsN 4 o) ++ (List.range P).flatMap fun k => partB m (ps.getD k 0) (bs.getD k 0) (pt S s l k) := rfl
  rw [hb] at h ⊢
  have hS : (l.length + s) / 2 ^ o = S := by rw [← hF.eq, ← hF.pw]; exact Nat.mul_div_cancel_left _ hpp
  obtain ⟨t1, t2, t3⟩ := take_mid (bs := by_) (L := L) (X := bitsN 4 o ++ ((List.range P).flatMap fun k => partB m (ps.getD k 0) (bs.getD k 0) (pt S s l k)) ++ X) (n := 2) (x := m) (by rw [h]; simp [List.append_assoc]) (by omega)
  obtain ⟨s1, s2, s3⟩ := take_mid (bs := by_) (L := L ++ bitsN 2 m) (X := ((List.range P).flatMap fun k => partB m (ps.getD k 0) (bs.getD k 0) (pt S s l k)) ++ X) (n := 4) (x := o) (by rw [h]; simp [List.append_assoc]) (by omega)
  rw [List.length_append, bitsN_len] at s1 s2 s3
  have m1 := hF.m1
  have o15 := hF.o15
  have e1 : m % 2 ^ 2 = m := Nat.mod_eq_of_lt (by have : (2 : Nat) ^ 2 = 4 := by decide
                                                  omega)
  have e2 : o % 2 ^ 4 = o := Nat.mod_eq_of_lt (by have : (2 : Nat) ^ 4 = 16 := by decide
                                                  omega)
  have hck : ckP o (l.length + s) s = 0 := by
    unfold ckP
    rw [if_neg]
    rw [hS, ← hF.eq, hF.pw]
    have := hF.lt
    simp
    omega
  refine ⟨⟨t1, by rw [t3, e1], by omega, s1, by rw [s3, e2], hck⟩, ?_⟩
  rw [hS, hF.pw]
  have hp := parts_back (bs := by_) m1 (fun k => ps.getD k 0) (fun k => bs.getD k 0) (fun k => pt S s l k) (fun k => frm S s (k + 1) - frm S s k) (List.range P) (L ++ bitsN 2 m ++ bitsN 4 o) X (fun k hk => by
    have hk' := List.mem_range.1 hk
    refine ⟨?_, fun x hx => hF.res x (List.mem_of_mem_drop (List.mem_of_mem_take hx)), ?_, (pt_len S s P l k hF.lt hk' hF.eq).symm⟩
    · have := hF.all k (by rw [hF.np]; exact hk') (by rw [hF.nb]; exact hk')
      rw [List.getD_eq_getElem?_getD, List.getElem?_eq_getElem (by rw [hF.np]; exact hk'), List.getD_eq_getElem?_getD, List.getElem?_eq_getElem (by rw [hF.nb]; exact hk')]
      exact this
    · have := hF.may k hk'
      rw [show pt S s (l.map fd) k = (pt S s l k).map fd from by unfold pt; rw [List.map_take, List.map_drop]] at this
      exact this) (by rw [h]; simp [List.append_assoc])
  rw [List.length_append, List.length_append, bitsN_len, bitsN_len] at hp
  rw [List.length_append, List.length_append, bitsN_len, bitsN_len]
  rw [show L.length + 6 = L.length + 2 + 4 from rfl, show L.length + (2 + 4 + (List.flatMap (fun k => partB m (ps.getD k 0) (bs.getD k 0) (pt S s l k)) (List.range P)).length) = L.length + 2 + 4 + (List.flatMap (fun k => partB m (ps.getD k 0) (bs.getD k 0) (pt S s l k)) (List.range P)).length from by omega]
  exact hp

theorem setAll_range (vs : List Int) : ∀ (n : Nat) (xs : List Int), n ≤ vs.length → vs.length ≤ xs.length → setAll xs (List.range n) (vs.take n) = vs.take n ++ xs.drop n
  | 0, xs, _, _ => by simp [setAll]
  | n + 1, xs, h, hx => by
    have ih := setAll_range vs n xs (by omega) hx
    rw [List.range_succ, List.take_succ_eq_append_getElem h, setAll_snoc _ _ _ _ _ (by simp; omega), ih]
    have h1 : xs.drop n = xs[n] :: xs.drop (n + 1) := List.drop_eq_getElem_cons (by omega)
    have hl : (vs.take n).length = n := by simp; omega
    rw [List.set_append_right _ _ (by omega), hl, Nat.sub_self, h1, List.set_cons_zero, List.append_assoc]
    rfl
theorem setAll_all (vs xs : List Int) (n : Nat) (h : vs.length = n) (hx : xs.length = n) : setAll xs (List.range n) vs = vs := by
  have := setAll_range vs n xs (by omega) (by omega)
  rw [List.take_of_length_le (by omega), List.drop_of_length_le (by omega), List.append_nil] at this
  exact this
theorem layAll_range (S s P : Nat) (hS : s < S) (l xs : List Int) (hn : P * S = l.length + s) (hx : xs.length = l.length) : ∀ j, j ≤ P → layAll S s xs (List.range j) ((List.range j).map fun k => pt S s l k) = l.take (frm S s j) ++ xs.drop (frm S s j)
  | 0, _ => by simp [layAll, frm_zero]
  | j + 1, hj => by
    have ih := layAll_range S s P hS l xs hn hx j (by omega)
    have h1 := (frm_step S s j hS).1
    have h2 := frm_le S s (j + 1) P l.length hj hn
    have hl : (pt S s l j).length = frm S s (j + 1) - frm S s j := pt_len S s P l j hS hj hn
    rw [List.range_succ, List.map_append, List.map_singleton, layAll_snoc _ _ _ _ _ _ _ (by simp), ih]
    unfold putAt
    have e1 : (l.take (frm S s j) ++ xs.drop (frm S s j)).take (frm S s j) = l.take (frm S s j) := by rw [List.take_left' (by simp; omega)]
    have e2 : (l.take (frm S s j) ++ xs.drop (frm S s j)).drop (frm S s j + (pt S s l j).length) = xs.drop (frm S s (j + 1)) := by
      rw [List.drop_append, List.drop_of_length_le (by simp; omega), List.nil_append, List.drop_drop, hl, List.length_take]
      congr 1
      omega
    rw [e1, e2]
    congr 1
    unfold pt
    have e3 : frm S s (j + 1) = frm S s j + (frm S s (j + 1) - frm S s j) := by omega
    rw [e3, List.take_add, Nat.add_sub_cancel_left]
theorem layAll_all (S s P n : Nat) (hS : s < S) (l xs : List Int) (hn : P * S = n + s) (hl : l.length = n) (hx : xs.length = n) : layAll S s xs (List.range P) ((List.range P).map fun k => pt S s l k) = l := by
  subst hl
  have := layAll_range S s P hS l xs hn hx P (Nat.le_refl _)
  have hf : frm S s P = l.length := by unfold frm; omega
  rw [this, hf, List.take_length, List.drop_of_length_le (by omega), List.append_nil]
theorem range_getD (ps : List Int) (P : Nat) (h : ps.length = P) : (List.range P).map (fun k => ps.getD k 0) = ps := by
  apply List.ext_getElem
  · simp [h]
  · intro i h1 h2
    simp [List.getD_eq_getElem?_getD, h2]
end Go.Proofs.Ytliemhadgbjjiaa
