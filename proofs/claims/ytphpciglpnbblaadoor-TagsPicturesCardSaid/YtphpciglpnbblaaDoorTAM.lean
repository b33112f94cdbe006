/-
  Plain mathematics: what is written is read, and what is read is written.
-/
import Derived.Test.YtphpciglpnbblaaDoorTI
namespace Go.Proofs.YtphpciglpnbblaaDoor
open Go.RowKit

/-- numbers of four bytes: how they are written, and read -/
structure Num (enc : Nat → List Nat) (num : List Nat → Nat) : Prop where
  len : ∀ n, (enc n).length = 4
  lt : ∀ n, ∀ x ∈ enc n, x < 256
  back : ∀ n, n < 4294967296 → num (enc n) = n
  forth : ∀ l : List Nat, l.length = 4 → (∀ x ∈ l, x < 256) → enc (num l) = l
  small : ∀ l : List Nat, l.length ≤ 4 → (∀ x ∈ l, x < 256) → num l < 4294967296
theorem num_low : Num le lv where
  len := le_len
  lt := le_lt
  back := fun n h => by
    unfold le
    simp only [List.range_succ, List.range_zero, List.nil_append, List.cons_append, List.map_cons, List.map_nil, lv, Nat.mul_zero, Nat.pow_zero, Nat.div_one, Nat.reduceMul, Nat.reducePow]
    omega
  forth := fun l hl h => by
    match l, hl with
    | [a, b, c, d], _ =>
      have ha := h a (by simp)
      have hb := h b (by simp)
      have hc := h c (by simp)
      have hd := h d (by simp)
      unfold le
      simp only [List.range_succ, List.range_zero, List.nil_append, List.cons_append, List.map_cons, List.map_nil, lv, Nat.mul_zero, Nat.pow_zero, Nat.div_one, Nat.reduceMul, Nat.reducePow]
      congr 1
      · omega
      · congr 1
        · omega
        · congr 1
          · omega
          · congr 1
            omega
  small := fun l hl h => Nat.lt_of_lt_of_le (lv_lt l h) (by rw [show (4294967296 : Nat) = 2 ^ 32 by decide]; exact Nat.pow_le_pow_right (by decide) (by omega))
theorem num_high : Num (be 4) vl where
  len := be_len 4
  lt := be_lt 4
  back := fun n h => vl_be 4 n (by rw [show (2 : Nat) ^ (8 * 4) = 4294967296 by decide]; exact h)
  forth := fun l hl h => by have := be_vl l h; rwa [hl] at this
  small := fun l hl h => Nat.lt_of_lt_of_le (vl_lt l h) (by rw [show (4294967296 : Nat) = 2 ^ 32 by decide]; exact Nat.pow_le_pow_right (by decide) (by omega))
theorem tkB_app (A R : List Nat) (m : Nat) (h : A.length = m) : tkB m (A ++ R) = A ∧ tkR m (A ++ R) = R ∧ decide ((A ++ R).length < m) = false := by
  subst h
  refine ⟨?_, ?_, by rw [List.length_append]; simp⟩
  · unfold tkB
    rw [if_neg (by rw [List.length_append]; omega), List.take_left]
  · unfold tkR
    rw [if_neg (by rw [List.length_append]; omega), List.drop_left]
section
variable {enc : Nat → List Nat} {num : List Nat → Nat} (N : Num enc num)
include N
theorem nm_app (n : Nat) (R : List Nat) (h : n < 4294967296) : num (tkB 4 (enc n ++ R)) = n ∧ tkR 4 (enc n ++ R) = R ∧ decide ((enc n ++ R).length < 4) = false := by
  obtain ⟨h1, h2, h3⟩ := tkB_app (enc n) R 4 (N.len n)
  exact ⟨by rw [h1, N.back n h], h2, h3⟩
theorem tx_app (X R : List Nat) (h : X.length < 4294967296) : txB num (enc X.length ++ (X ++ R)) = X ∧ txR num (enc X.length ++ (X ++ R)) = R ∧ txS num (enc X.length ++ (X ++ R)) = false := by
  obtain ⟨h1, h2, h3⟩ := nm_app N X.length (X ++ R) h
  obtain ⟨k1, k2, k3⟩ := tkB_app X R X.length rfl
  unfold txB txR txS
  rw [h1, h2, h3]
  exact ⟨k1, k2, by rw [k3]; rfl⟩
theorem nm_out (r : List Nat) (hr : ∀ x ∈ r, x < 256) (h : decide (r.length < 4) = false) : r = enc (num (tkB 4 r)) ++ tkR 4 r := by
  rw [decide_eq_false_iff_not] at h
  unfold tkB tkR
  rw [if_neg h, if_neg h, N.forth (r.take 4) (by rw [List.length_take]; omega) (fun x hx => hr x (List.mem_of_mem_take hx)), List.take_append_drop]
theorem tx_out (r : List Nat) (hr : ∀ x ∈ r, x < 256) (h : txS num r = false) : r = enc (txB num r).length ++ (txB num r ++ txR num r) := by
  unfold txS at h
  rw [Bool.or_eq_false_iff] at h
  have h1 := nm_out N r hr h.1
  have h2 := h.2
  rw [decide_eq_false_iff_not] at h2
  have h3 : txB num r ++ txR num r = tkR 4 r := by
    unfold txB txR tkB tkR
    rw [if_neg (show ¬ (if r.length < 4 then r else r.drop 4).length < num (if r.length < 4 then [] else r.take 4) from h2), if_neg (show ¬ (if r.length < 4 then r else r.drop 4).length < num (if r.length < 4 then [] else r.take 4) from h2), List.take_append_drop]
  have h4 : (txB num r).length = num (tkB 4 r) := by
    unfold txB
    rw [tkB_len, if_neg h2]
  rw [h3, h4]
  exact h1
end
theorem txB_lt (num : List Nat → Nat) (r : List Nat) (hr : ∀ x ∈ r, x < 256) : (∀ x ∈ txB num r, x < 256) ∧ ∀ x ∈ txR num r, x < 256 :=
  ⟨tkB_lt _ _ (tkR_lt _ _ hr), tkR_lt _ _ (tkR_lt _ _ hr)⟩
theorem ls_app : ∀ (l : List ByteArray) (R : List Nat), (∀ s ∈ l, s.size < 4294967296) → lsF lv l.length false (cmB l ++ R) = (l.map nb, R, false)
  | [], R, _ => rfl
  | s :: l, R, h => by
    have hs := h s (List.mem_cons_self ..)
    have h0 : cmB (s :: l) ++ R = le (nb s).length ++ (nb s ++ (cmB l ++ R)) := by simp [cmB, nb_len]
    obtain ⟨h1, h2, h3⟩ := tx_app num_low (nb s) (cmB l ++ R) (by rw [nb_len]; exact hs)
    rw [h0, List.length_cons, lsF_go lv _ false _ (by rw [h3]; rfl), h1, h2, ls_app l R (fun t ht => h t (List.mem_cons_of_mem _ ht))]
    rfl
theorem ls_out : ∀ (k : Nat) (r : List Nat), (∀ x ∈ r, x < 256) → (lsF lv k false r).2.2 = false → (lsF lv k false r).1.length = k ∧ r = cmB ((lsF lv k false r).1.map strN) ++ (lsF lv k false r).2.1
  | 0, r, _, _ => ⟨rfl, rfl⟩
  | k + 1, r, hr, h => by
    by_cases hs : (false || txS lv r) = true
    · rw [lsF_stop lv k false r hs] at h
      cases h
    · have hs' : (false || txS lv r) = false := by simpa using hs
      rw [lsF_go lv k false r hs'] at h ⊢
      rw [Bool.false_or] at hs'
      obtain ⟨h1, h2⟩ := ls_out k (txR lv r) (txB_lt lv r hr).2 h
      refine ⟨by rw [List.length_cons, h1], ?_⟩
      have h3 := tx_out num_low r hr hs'
      have h4 : cmB (strN (txB lv r) :: (lsF lv k false (txR lv r)).1.map strN) = le (txB lv r).length ++ txB lv r ++ cmB ((lsF lv k false (txR lv r)).1.map strN) := by
        simp only [cmB, List.map_cons, List.flatten_cons, strN_size, nb_strN _ (txB_lt lv r hr).1]
      rw [List.map_cons, h4]
      dsimp only
      rw [List.append_assoc, List.append_assoc, ← h2]
      exact h3
/-- what is written is read -/
theorem rd_wr (V : ByteArray) (l : List ByteArray) (hz : 8 + V.size + szL l ≤ 80000) : rdV (wrC V l) = V ∧ rdL (wrC V l) = l ∧ rdE (wrC V l) = ckE V l := by
  have hl := ls_len l
  have hll : ∀ s ∈ l, s.size < 4294967296 := fun s hs => by
    obtain ⟨a, b, rfl⟩ := List.append_of_mem hs
    have : szL (a ++ s :: b) = szL a + (4 + s.size + szL b) := by unfold szL; simp
    omega
  have e0 : wrC V l = le (nb V).length ++ (nb V ++ (le l.length ++ (cmB l ++ []))) := by
    unfold wrC
    rw [nb_len, List.append_nil, List.append_assoc, List.append_assoc]
  obtain ⟨h1, h2, h3⟩ := tx_app num_low (nb V) (le l.length ++ (cmB l ++ [])) (by rw [nb_len]; omega)
  obtain ⟨k1, k2, k3⟩ := nm_app num_low l.length (cmB l ++ []) (by omega)
  have hR : rdR (wrC V l) = (l.map nb, [], false) := by
    unfold rdR
    rw [e0, h2, h3, k1, k2, k3]
    exact ls_app l [] hll
  have hV : rdV (wrC V l) = V := by
    unfold rdV
    rw [e0, h1, strN_nb]
  have hL : rdL (wrC V l) = l := by
    unfold rdL
    rw [hR, List.map_map]
    exact (List.map_congr_left (fun s _ => strN_nb s)).trans (List.map_id' _)
  refine ⟨hV, hL, ?_⟩
  unfold rdE
  rw [hR, hV, hL, if_neg (by simp), if_neg (by simp)]
/-- what is read is written -/
theorem wr_rd (bs : List Nat) (hb : ∀ x ∈ bs, x < 256) (h : rdE bs = 0) : wrC (rdV bs) (rdL bs) = bs ∧ ckE (rdV bs) (rdL bs) = 0 := by
  unfold rdE at h
  by_cases h1 : (rdR bs).2.2 = true
  · rw [if_pos h1] at h; omega
  · rw [if_neg h1] at h
    by_cases h2 : 0 < (rdR bs).2.1.length
    · rw [if_pos h2] at h; omega
    · rw [if_neg h2] at h
      refine ⟨?_, h⟩
      have h1' : (rdR bs).2.2 = false := by simpa using h1
      have hs : (txS lv bs || decide ((txR lv bs).length < 4)) = false := by
        cases hc : (txS lv bs || decide ((txR lv bs).length < 4)) with
        | false => rfl
        | true =>
          unfold rdR at h1'
          rw [hc] at h1'
          cases hm : lv (tkB 4 (txR lv bs)) with
          | zero => rw [hm] at h1'; cases h1'
          | succ k => rw [hm, lsF_stop lv k true _ (by rfl)] at h1'; cases h1'
      have hs' := hs
      rw [Bool.or_eq_false_iff] at hs'
      have e1 := tx_out num_low bs hb hs'.1
      have e2 := nm_out num_low (txR lv bs) (txB_lt lv bs hb).2 hs'.2
      have hR : rdR bs = lsF lv (lv (tkB 4 (txR lv bs))) false (tkR 4 (txR lv bs)) := by unfold rdR; rw [hs]
      obtain ⟨e3, e4⟩ := ls_out (lv (tkB 4 (txR lv bs))) (tkR 4 (txR lv bs)) (tkR_lt _ _ (txB_lt lv bs hb).2) (by rw [← hR]; exact h1')
      rw [← hR] at e3 e4
      have hnil : (rdR bs).2.1 = [] := List.eq_nil_of_length_eq_zero (by omega)
      rw [hnil, List.append_nil] at e4
      have hlen : (rdL bs).length = lv (tkB 4 (txR lv bs)) := by unfold rdL; rw [List.length_map, e3]
      unfold wrC
      rw [hlen, show (rdV bs).size = (txB lv bs).length by unfold rdV; rw [strN_size], show nb (rdV bs) = txB lv bs by unfold rdV; rw [nb_strN _ (txB_lt lv bs hb).1], show cmB (rdL bs) = tkR 4 (txR lv bs) from e4.symm, List.append_assoc, List.append_assoc, ← e2]
      exact e1.symm
end Go.Proofs.YtphpciglpnbblaaDoor
