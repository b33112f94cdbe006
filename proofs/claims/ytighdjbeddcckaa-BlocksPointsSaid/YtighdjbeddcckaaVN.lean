/-
  BlocksTable: its walk.
-/
import Derived.Test.YtighdjbeddcckaaVM
namespace Go.Proofs.Ytighdjbeddcckaa
open Go.RowKit Go.Shelf

theorem sg_u64n {x : Int} (h : -9223372036854775808 ≤ x ∧ x ≤ 9223372036854775807) : sg (u64n x) = x := by
  unfold sg u64n
  rw [IntKind.wrap_i64]
  omega
theorem u64n_sg {V : Nat} (h : V < 18446744073709551616) : u64n (sg V) = V := by
  unfold sg u64n
  rw [IntKind.wrap_i64]
  omega
theorem pts_cons (p : Pt) (l : List Pt) : pts (p :: l) = ptB p ++ pts l := by unfold pts; simp
theorem pts_drop : ∀ (l : List Pt) (k : Nat), (pts l).drop (18 * k) = pts (l.drop k)
  | [], k => by simp [pts]
  | p :: l, 0 => rfl
  | p :: l, k + 1 => by
    rw [pts_cons, show 18 * (k + 1) = 18 + 18 * k by omega, ← List.drop_drop, List.drop_left' (ptB_len p), pts_drop l k]
    rfl
theorem ptOf_pts {l : List Pt} {k : Nat} (hk : k < l.length) (hf : F3 l[k]) (hm : mayT l[k]) : ptOf (pts l) k = l[k] := by
  have hd := pts_drop l k
  rw [List.drop_eq_getElem_cons hk, pts_cons] at hd
  generalize l[k] = P at *
  obtain ⟨p, q, r⟩ := P
  obtain ⟨h0, h1, h2⟩ := hf
  obtain ⟨_, _, m2, m3⟩ := hm
  simp only at h0 h1 h2 m2 m3
  unfold ptB at hd
  simp only at hd
  have e0 : ((pts l).drop (18 * k)).take 8 = be 8 (u64n p) := by rw [hd, List.append_assoc]; exact List.take_left' (be_len _ _)
  have d1 : (pts l).drop (18 * k + 8) = be 8 (u64n q) ++ be 2 (u64n r) ++ pts (l.drop (k + 1)) := by
    rw [← List.drop_drop, hd, List.append_assoc, List.drop_left' (be_len _ _)]
  have e1 : ((pts l).drop (18 * k + 8)).take 8 = be 8 (u64n q) := by rw [d1, List.append_assoc]; exact List.take_left' (be_len _ _)
  have d2 : (pts l).drop (18 * k + 16) = be 2 (u64n r) ++ pts (l.drop (k + 1)) := by
    rw [show 18 * k + 16 = (18 * k + 8) + 8 by omega, ← List.drop_drop, d1, List.append_assoc, List.drop_left' (be_len _ _)]
  have e2 : ((pts l).drop (18 * k + 16)).take 2 = be 2 (u64n r) := by rw [d2]; exact List.take_left' (be_len _ _)
  unfold ptOf
  rw [e0, e1, e2, vl_be 8 _ (by have := u64n_lt p; rw [show (2 : Nat) ^ (8 * 8) = 18446744073709551616 by decide]; exact this), vl_be 8 _ (by have := u64n_lt q; rw [show (2 : Nat) ^ (8 * 8) = 18446744073709551616 by decide]; exact this), vl_be 2 _ (by rw [show (2 : Nat) ^ (8 * 2) = 65536 by decide]; unfold u64n; omega), sg_u64n h0, sg_u64n h1, sg_u64n h2]
theorem rdT_pts {l : List Pt} (hf : ∀ p ∈ l, F3 p) (hm : mayN l l.length) : rdT (pts l) = l := by
  apply List.ext_getElem
  · rw [rdT_len, pts_len]; omega
  · intro i h1 h2
    have e : (rdT (pts l))[i] = ptOf (pts l) i := by simp [rdT]
    have hmi := hm i h2
    rw [gt_eq h2] at hmi
    rw [e, ptOf_pts h2 (hf _ (List.getElem_mem h2)) hmi]
theorem ps_pts {l : List Pt} (hf : ∀ p ∈ l, F3 p) (h : orE l = 0) : psE (pts l) = 0 ∧ psL (pts l) = l := by
  have hm : mayN l l.length := by
    unfold orE at h
    by_cases hh : mayN l l.length
    · exact hh
    · rw [if_neg hh] at h
      cases h
  have h1 : psE (pts l) = 0 := by
    unfold psE
    rw [if_pos (by rw [pts_len]; omega), rdT_pts hf hm, h]
  exact ⟨h1, by unfold psL; rw [if_pos h1, rdT_pts hf hm]⟩
theorem seg {bs : List Nat} {i m : Nat} (h : i + m ≤ bs.length) (hb : ∀ x ∈ bs, x < 256) : be m (vl ((bs.drop i).take m)) = (bs.drop i).take m := by
  have := be_vl ((bs.drop i).take m) (fun x hx => hb x (List.mem_of_mem_drop (List.mem_of_mem_take hx)))
  rwa [show ((bs.drop i).take m).length = m by rw [List.length_take, List.length_drop]; omega] at this
theorem vl_seg {bs : List Nat} {i m : Nat} (hm : m ≤ 8) (hb : ∀ x ∈ bs, x < 256) : vl ((bs.drop i).take m) < 18446744073709551616 := by
  have := vl_lt ((bs.drop i).take m) (fun x hx => hb x (List.mem_of_mem_drop (List.mem_of_mem_take hx)))
  refine Nat.lt_of_lt_of_le this ?_
  rw [show (18446744073709551616 : Nat) = 2 ^ 64 by decide]
  exact Nat.pow_le_pow_right (by decide) (by rw [List.length_take]; omega)
theorem ptB_ptOf {bs : List Nat} {k : Nat} (h : 18 * k + 18 ≤ bs.length) (hb : ∀ x ∈ bs, x < 256) : ptB (ptOf bs k) = (bs.drop (18 * k)).take 18 := by
  unfold ptB ptOf
  simp only
  rw [u64n_sg (vl_seg (by decide) hb), u64n_sg (vl_seg (by decide) hb), u64n_sg (vl_seg (by decide) hb), seg (by omega) hb, seg (by omega) hb, seg (by omega) hb]
  have a1 : (bs.drop (18 * k)).take 18 = (bs.drop (18 * k)).take 8 ++ ((bs.drop (18 * k)).drop 8).take 10 := by
    rw [show (18 : Nat) = 8 + 10 from rfl, List.take_add]
  have a2 : ((bs.drop (18 * k)).drop 8).take 10 = ((bs.drop (18 * k)).drop 8).take 8 ++ (((bs.drop (18 * k)).drop 8).drop 8).take 2 := by
    rw [show (10 : Nat) = 8 + 2 from rfl, List.take_add]
  rw [a1, a2, List.drop_drop, List.drop_drop]
theorem pts_rdT {bs : List Nat} (h : bs.length % 18 = 0) (hb : ∀ x ∈ bs, x < 256) : pts (rdT bs) = bs := by
  have key : ∀ n, 18 * n ≤ bs.length → pts ((List.range n).map (ptOf bs)) = bs.take (18 * n) := by
    intro n
    induction n with
    | zero => intro _; simp [pts]
    | succ n ih =>
      intro hn
      have e : pts ((List.range (n + 1)).map (ptOf bs)) = pts ((List.range n).map (ptOf bs)) ++ ptB (ptOf bs n) := by
        unfold pts
        rw [List.range_succ, List.map_append, List.map_append, List.flatten_append]
        simp
      rw [e, ih (by omega), ptB_ptOf (by omega) hb, show 18 * (n + 1) = 18 * n + 18 by omega, List.take_add]
  unfold rdT
  rw [key _ (by omega)]
  exact List.take_of_length_le (by omega)
theorem ps_wr {bs : List Nat} (hb : ∀ x ∈ bs, x < 256) (h : psE bs = 0) : psL bs = rdT bs ∧ orE (rdT bs) = 0 ∧ pts (rdT bs) = bs := by
  have h18 : bs.length % 18 = 0 := by
    unfold psE at h
    by_cases hh : bs.length % 18 = 0
    · exact hh
    · rw [if_neg hh] at h
      cases h
  refine ⟨by unfold psL; rw [if_pos h], ?_, pts_rdT h18 hb⟩
  unfold psE at h
  rwa [if_pos h18] at h
/-- of points that stand in order none has a Sample that is no greater than one ahead of it -/
theorem ord_pairs {l : List Pt} (h : orE l = 0) {i : Nat} (hi : i < l.length) : 0 ≤ (gt l i).1 → ∀ k, k < i → (gt l k).1 < (gt l i).1 := by
  have hm : mayN l l.length := by
    unfold orE at h
    by_cases hh : mayN l l.length
    · exact hh
    · rw [if_neg hh] at h
      cases h
  have ho : ordN l l.length := by
    unfold orE at h
    rw [if_pos hm] at h
    by_cases hh : ordN l l.length
    · exact hh
    · rw [if_neg hh] at h
      cases h
  induction i with
  | zero => intro _ k hk; omega
  | succ i ih =>
    intro h0 k hk
    have hf := ho (i + 1) hi (by omega)
    rw [Nat.add_sub_cancel] at hf
    have h1 := hm i (by omega)
    unfold mayT at h1
    rcases hf with hf | ⟨hf1, hf2⟩
    · unfold isK at hf; omega
    · unfold isK at hf1
      rcases Nat.lt_succ_iff_lt_or_eq.1 hk with h3 | rfl
      · have := ih (by omega) (by omega) k h3
        omega
      · exact hf2
end Go.Proofs.Ytighdjbeddcckaa
