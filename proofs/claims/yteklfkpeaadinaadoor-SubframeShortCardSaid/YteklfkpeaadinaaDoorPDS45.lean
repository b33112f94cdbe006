/-
  The best plan may be, and is written in no more bits than Verbatim: plain mathematics.
-/
import Derived.Test.YteklfkpeaadinaaDoorPDS38
import Derived.Test.YteklfkpeaadinaaDoorPDS26
namespace Go.Proofs.YteklfkpeaadinaaDoor.S
open Go.RowKit Go.Shelf
open K (linV fx resV resE bestV)
theorem wasB_len' (wd : Nat) : (wasB wd).length = wd + 1 := by
  unfold wasB
  split
  · rename_i h; subst h; rw [bitsN_len]
  · rw [List.length_append, List.length_append, bitsN_len, List.length_replicate, List.length_singleton]
    omega
theorem headB_len (c wd : Nat) : (headB c wd).length = 8 + wd := by
  unfold headB
  rw [List.length_append, List.length_append, bitsN_len, bitsN_len, wasB_len']
  omega
theorem nou_lt {d : Nat} {xs : List Int} (hd1 : 4 ≤ d) (hd : d ≤ 33) (hf : fitsD d xs) : nou xs < d ∧ dvA (nou xs) xs := by
  by_cases h0 : ∀ x ∈ xs, x = 0
  · rw [nou_zero h0]
    exact ⟨by omega, fun x hx => by rw [h0 x hx]; rfl⟩
  · obtain ⟨p1, _, p3⟩ := nou_pos (by omega) hd hf h0
    exact ⟨p3, p1⟩
theorem ckPl_ok {k o W : Nat} {m ro : Int} {np nb d : Nat} (hk : k < 3) (ho : kL k ≤ o ∧ (o : Int) ≤ kM k) (hW : W < d) (h : k = 2 ∨ (m = 0 ∧ ro = 0 ∧ np = 0 ∧ nb = 0)) : ckPl k o W 0 0 m ro 0 np nb d = 0 := by
  unfold ckPl
  rw [if_neg (by omega), Int.toNat_natCast, if_neg (by omega), if_pos]
  unfold ownOk
  rw [if_neg (by omega)]
  refine ⟨⟨rfl, rfl, rfl⟩, ?_⟩
  rcases h with rfl | h
  · exact .inl rfl
  · exact .inr h
theorem splE_ok {k o W d : Nat} {m ro : Int} {ps bs xs : List Int} (hk : k < 3) (ho : kL k ≤ o ∧ (o : Int) ≤ kM k) (hW : W < d) (hck : ckBlk xs.length d = 0) (hf : fitsD d xs) (hd : dvA W xs) (hs : k = 0 → sameA xs)
    (h : k = 2 ∨ (m = 0 ∧ ro = 0 ∧ ps = [] ∧ bs = [])) (h2 : k = 2 → rofE 4 0 (fx o) m ro ps bs o (xs.map (dvd W)) = 0) : splE k o W 0 0 m ro [] ps bs d xs = 0 := by
  have hP : ckPl k o W 0 0 m ro ([] : List Int).length ps.length bs.length d = 0 := ckPl_ok hk ho hW (by
    rcases h with h | ⟨a, b, c, e⟩
    · exact .inl h
    · exact .inr ⟨a, b, by rw [c]; rfl, by rw [e]; rfl⟩)
  unfold splE
  rw [if_neg (by rw [hck]; simp), if_neg (by rw [hP]; simp), Int.toNat_natCast, Int.toNat_natCast, if_neg (by simp [hf, hd]), if_neg (fun g => g.2 (hs (by omega)))]
  split
  · rename_i g
    have e : k = 2 := by omega
    subst e
    have e1 : tP ((2 : Nat) : Int) 0 = 4 := rfl
    have e2 : tS ((2 : Nat) : Int) 0 = 0 := rfl
    have e3 : tC ((2 : Nat) : Int) (o : Int) [] = fx o := by unfold tC; rw [if_pos (by omega), Int.toNat_natCast]
    rw [e1, e2, e3]
    exact h2 rfl
  · rfl
theorem chB_const {W d : Nat} {xs : List Int} (hn : 1 ≤ xs.length) (hW : W < d) : (chB 0 0 W 0 0 0 0 [] [] [] d xs).length = 8 + W + (d - W) := by
  unfold chB
  rw [if_neg (by omega), if_neg (by omega), List.append_nil, List.append_nil, List.length_append, headB_len, numsB_len]
  have e : plM 0 0 (xs.length : Int) = 1 := by unfold plM; rw [if_pos rfl]
  rw [e, List.length_take, List.length_map]
  have e2 : ((d : Int) - (W : Int)).toNat = d - W := by omega
  rw [e2, Int.toNat_natCast, show min (1 : Int).toNat xs.length = 1 by have : (1 : Int).toNat = 1 := rfl
                                                                       omega, Nat.mul_one]
theorem chB_verb {W d : Nat} {xs : List Int} (hW : W < d) : (chB 1 0 W 0 0 0 0 [] [] [] d xs).length = 8 + W + xs.length * (d - W) := by
  unfold chB
  rw [if_neg (by omega), if_neg (by omega), List.append_nil, List.append_nil, List.length_append, headB_len, numsB_len]
  have e : plM 1 0 (xs.length : Int) = xs.length := by unfold plM; rw [if_neg (by omega), if_pos rfl]
  rw [e, List.length_take, List.length_map]
  have e2 : ((d : Int) - (W : Int)).toNat = d - W := by omega
  rw [e2, Int.toNat_natCast, Int.toNat_natCast, Nat.min_self, Nat.mul_comm]
/-- the best plan of samples that are not the same -/
theorem best_fits {d W q : Nat} {xs ys rs : List Int} {k o m ro : Int} {ps bs : List Int} (hck : ckBlk xs.length d = 0) (hf : fitsD d xs) (hW : W < d) (hd : dvA W xs) (hys : xs.map (dvd W) = ys) (hq : bestV ys = q) (hrs : resV 4 0 (fx q) ys = rs) (hS : ∀ y ∈ ys, K.isS y)
    (h : PlOk (d - W) q xs.length rs k o m ro ps bs) : splE k o W 0 0 m ro [] ps bs d xs = 0 ∧ (chB k o W 0 0 m ro [] ps bs d xs).length ≤ 8 + W + xs.length * (d - W) := by
  have hb : 4 ≤ (d : Int) ∧ (d : Int) ≤ 33 ∧ 1 ≤ xs.length ∧ xs.length ≤ 65535 := by
    unfold ckBlk at hck
    split at hck
    · cases hck
    · omega
  have hyl : ys.length = xs.length := by rw [← hys, List.length_map]
  obtain ⟨hq4, hqn⟩ := bestV_lt ys (by omega)
  rw [hq] at hq4 hqn
  have hrE := K.resE_fx ys q hq4 (by omega) hS
  have hrl := resV_fx_len hq4 (by omega) hS
  rw [hrs] at hrl
  rcases h with ⟨rfl, rfl, rfl, rfl, rfl, rfl, _⟩ | ⟨rfl, rfl, hR, x, ⟨st1, hsc0, hsc1⟩, rfl, rfl, rfl, rfl, hlt⟩
  · refine ⟨splE_ok (k := 1) (o := 0) (by omega) ⟨by decide, by decide⟩ hW hck hf hd (fun e => by omega) (.inr ⟨rfl, rfl, rfl, rfl⟩) (fun e => by omega), ?_⟩
    have := chB_verb (xs := xs) hW
    exact Nat.le_of_eq this
  · obtain ⟨x2, e2, hval, _⟩ := least_le (raw_fine hq4 (by omega) (by omega) hR) (Nat.zero_le 4) hsc0 hsc1
    injection e2 with e2
    subst e2
    have hfine := hval.fine (by decide) (by omega) (by omega) hR
    have hsE := hfine.sizeE
    have hC : ckC (x.1 : Int) (x.2.1 : Int) (x.2.2.map (·.1)) (x.2.2.map (·.2)) ((rs.length : Int) + (q : Int)) q = 0 := by
      apply Classical.byContradiction
      intro hn
      have hz := hsE
      unfold sizeE at hz
      rw [if_pos hn] at hz
      exact hn hz
    have hrof : rofE 4 0 (fx q) (x.1 : Int) (x.2.1 : Int) (x.2.2.map (·.1)) (x.2.2.map (·.2)) q ys = 0 := by
      unfold rofE
      rw [if_neg (by unfold K.ckL; rw [if_pos (K.fx_ok q hq4)]; simp), show (ys.length : Int) = (rs.length : Int) + (q : Int) by omega, if_neg (by rw [hC]; simp), if_neg (by rw [hrE]; simp), hrs]
      exact hsE
    have hkL : kL 2 = 0 := rfl
    have hkM : kM 2 = 4 := rfl
    refine ⟨splE_ok (k := 2) (o := q) (by omega) ⟨by omega, by omega⟩ hW hck hf hd (fun e => by omega) (.inl rfl) (fun _ => by rw [hys]; exact hrof), ?_⟩
    have hlen := blockB_len hfine
    unfold chB splV
    have e1 : tP (2 : Int) 0 = 4 := rfl
    have e2 : tS (2 : Int) 0 = 0 := rfl
    have e3 : tC (2 : Int) (q : Int) [] = fx q := by unfold tC; rw [if_pos rfl, Int.toNat_natCast]
    have e4 : ((d : Int) - (W : Int)).toNat = d - W := by omega
    have e5 : plM 2 (q : Int) (xs.length : Int) = q := by unfold plM; rw [if_neg (by omega), if_neg (by omega)]
    rw [if_neg (by omega), if_pos (by omega), if_pos (by omega), e1, e2, e3, e4, e5, List.nil_append, List.length_append, List.length_append, headB_len, numsB_len, List.length_take]
    simp only [Int.toNat_natCast]
    rw [hys, hrs, hyl, show min q xs.length = q by omega]
    have e6 : xs.length / 2 ^ x.2.1 = (rs.length + q) / 2 ^ x.2.1 := by rw [show rs.length + q = xs.length by omega]
    rw [e6]
    have e7 : (blockB ((rs.length + q) / 2 ^ x.2.1) q (2 ^ x.2.1) x.1 x.2.1 (x.2.2.map (·.1)) (x.2.2.map (·.2)) rs).length = szX q rs x := by
      try rw [List.length_map] at hlen
      exact hlen
    rw [e7]
    have h9 : (d - W) * q = q * (d - W) := Nat.mul_comm _ _
    rw [h9]
    omega
/-- fewer noughts are taken away -/
theorem less_more {n d W w' : Nat} (hn : 1 ≤ n) (hw : w' ≤ W) (hW : W < d) : 8 + W + n * (d - W) ≤ 8 + w' + n * (d - w') ∧ 8 + W + (d - W) ≤ 8 + w' + n * (d - w') := by
  have e : d - w' = (d - W) + (W - w') := by omega
  have h1 : n * (d - w') = n * (d - W) + n * (W - w') := by rw [e, Nat.mul_add]
  have h2 := Nat.mul_le_mul_right (W - w') hn
  have h3 := Nat.mul_le_mul_right (d - W) hn
  rw [Nat.one_mul] at h2 h3
  omega
end Go.Proofs.YteklfkpeaadinaaDoor.S
