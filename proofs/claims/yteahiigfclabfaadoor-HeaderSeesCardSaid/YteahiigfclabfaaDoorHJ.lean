/-
  Package header, mathematics: what is read is written as it was read, what is written is read as it was, and what is but begun runs out.
-/
import Derived.Test.YteahiigfclabfaaDoorHI
import Derived.Test.YteahiigfclabfaaDoorHM
namespace Go.Proofs.YteahiigfclabfaaDoor.H

/-! what a number of bits is -/
theorem takeE_iff (bs : List Nat) (a k : Nat) (hk : k ≤ 48) : takeE bs a (k : Nat) = 0 ↔ a + k ≤ 8 * bs.length := by
  unfold takeE
  rw [if_neg (by omega)]
  split
  · constructor
    · intro h; cases h
    · intro h; omega
  · constructor
    · intro; omega
    · intro; rfl
theorem takeE_two (bs : List Nat) (a k : Nat) (hk : k ≤ 48) : takeE bs a (k : Nat) = 0 ∨ takeE bs a (k : Nat) = 11 := by
  unfold takeE
  rw [if_neg (by omega)]
  split
  · exact .inr rfl
  · exact .inl rfl
theorem takeR_is {bs : List Nat} {a k : Nat} (h : takeE bs a (k : Nat) = 0) : takeR bs a (k : Nat) = (numAt bs a k : Nat) := by
  unfold takeR
  rw [if_pos h, Int.toNat_natCast]
theorem bitsN_numAt {bs : List Nat} {a k : Nat} (h : a + k ≤ 8 * bs.length) : ((bitsOf bs).drop a).take k = bitsN k (numAt bs a k) := by
  unfold numAt
  have hl : (((bitsOf bs).drop a).take k).length = k := by rw [List.length_take, List.length_drop, bitsOf_len]; omega
  have := bitsN_val (((bitsOf bs).drop a).take k) (fun b hb => bitsOf_le bs b (List.mem_of_mem_drop (List.mem_of_mem_take hb)))
  rw [hl] at this
  exact this.symm
/-- one number more -/
theorem take_more {bs : List Nat} {a k : Nat} (h : a + k ≤ 8 * bs.length) : (bitsOf bs).take (a + k) = (bitsOf bs).take a ++ bitsN k (numAt bs a k) := by
  rw [List.take_add, bitsN_numAt h]
theorem numAt_at {bs A B : List Nat} {a k v : Nat} (h : bitsOf bs = A ++ bitsN k v ++ B) (ha : A.length = a) (hv : v < 2 ^ k) : numAt bs a k = v ∧ a + k ≤ 8 * bs.length := by
  constructor
  · unfold numAt
    rw [h, List.append_assoc, List.drop_left' ha, List.take_left' (bitsN_len _ _), val_bitsN, Nat.mod_eq_of_lt hv]
  · have := congrArg List.length h
    rw [bitsOf_len, List.length_append, List.length_append, bitsN_len] at this
    omega
theorem take_at {bs A B : List Nat} {a k v : Nat} (h : bitsOf bs = A ++ bitsN k v ++ B) (ha : A.length = a) (hv : v < 2 ^ k) (hk : k ≤ 48) : takeE bs a (k : Nat) = 0 ∧ takeR bs a (k : Nat) = (v : Nat) := by
  obtain ⟨h1, h2⟩ := numAt_at h ha hv
  have h3 := (takeE_iff bs a k hk).2 h2
  exact ⟨h3, by rw [takeR_is h3, h1]⟩
theorem bitsOf_take (bs : List Nat) (k : Nat) : bitsOf (bs.take k) = (bitsOf bs).take (8 * k) := by
  by_cases h : k ≤ bs.length
  · have e : bitsOf bs = bitsOf (bs.take k) ++ bitsOf (bs.drop k) := by rw [← bitsOf_append, List.take_append_drop]
    rw [e, List.take_left']
    rw [bitsOf_len, List.length_take, Nat.min_eq_left h]
  · rw [List.take_of_length_le (by omega), List.take_of_length_le (by rw [bitsOf_len]; omega)]
theorem bitsOf_drop (bs : List Nat) (k : Nat) : bitsOf (bs.drop k) = (bitsOf bs).drop (8 * k) := by
  by_cases h : k ≤ bs.length
  · have e : bitsOf bs = bitsOf (bs.take k) ++ bitsOf (bs.drop k) := by rw [← bitsOf_append, List.take_append_drop]
    rw [e, List.drop_left']
    rw [bitsOf_len, List.length_take, Nat.min_eq_left h]
  · rw [List.drop_of_length_le (by omega), List.drop_of_length_le (by rw [bitsOf_len]; omega)]
    rfl
theorem numAt_byte (bs : List Nat) (k : Nat) (hk : k < bs.length) (hlt : ∀ x ∈ bs, x < 256) : numAt bs (8 * k) 8 = bs[k] := by
  unfold numAt
  have h := chunk bs (8 * k) 8 (by omega) (by omega)
  have e : 8 * k / 8 = k := by omega
  have e2 : 8 * k % 8 = 0 := by omega
  rw [h]
  simp only [e, e2]
  have := hlt _ (List.getElem_mem hk)
  omega

/-! a header that was read -/
/-- all that is so where a header was read -/
structure HdOk (cs : List Nat) : Prop where
  sync : takeE cs 0 8 = 0 ∧ takeR cs 0 8 = 255 ∧ takeE cs 8 7 = 0 ∧ takeR cs 8 7 = 124 ∧ takeE cs 15 1 = 0
  codes : takeE cs 16 4 = 0 ∧ takeE cs 20 4 = 0 ∧ (rR1 cs).u ≠ 0 ∧ (rR2 cs).u ≠ 0
  md : takeE cs 24 4 = 0 ∧ takeE cs 28 3 = 0 ∧ (0 ≤ takeR cs 24 4 ∧ takeR cs 24 4 ≤ 10) ∧ (rR3 cs).u ≠ 0 ∧ takeE cs 31 1 = 0 ∧ takeR cs 31 1 = 0
  num : gE cs = 0 ∧ mayN (rV cs) (gN cs)
  t1 : takeE cs (rP0 cs) (rR1 cs).s = 0 ∧ (rR1 cs).l + takeR cs (rP0 cs) (rR1 cs).s ≤ (rR1 cs).m
  t2 : takeE cs (rP1 cs) (rR2 cs).s = 0 ∧ (rR2 cs).l + takeR cs (rP1 cs) (rR2 cs).s ≤ (rR2 cs).m
  t3 : takeE cs (rP2 cs) (rR3 cs).s = 0 ∧ (rR3 cs).l + takeR cs (rP2 cs) (rR3 cs).s ≤ (rR3 cs).m
  sum : takeE cs (rP3 cs) 8 = 0 ∧ takeR cs (rP3 cs) 8 = (U.sm 8 7 (cs.take (rP3 cs / 8)) : Nat)
theorem toE_zero (bs : List Nat) (a : Nat) (R : Rw) : toE bs a R = 0 ↔ takeE bs a R.s = 0 ∧ (R.l : Int) + takeR bs a R.s ≤ R.m := by
  unfold toE
  rw [fstE_zero, fstE_zero]
  split
  · constructor
    · rintro ⟨_, h, _⟩; cases h
    · rintro ⟨_, h⟩; omega
  · constructor
    · rintro ⟨h, _⟩; exact ⟨h, by omega⟩
    · rintro ⟨h, _⟩; exact ⟨h, rfl, rfl⟩
theorem seekE_zero (bs : List Nat) (k : Nat) : seekE bs (k : Nat) = 0 ↔ k ≤ 8 * bs.length := by
  unfold seekE
  split
  · constructor
    · intro h; cases h
    · intro h; omega
  · constructor
    · intro; omega
    · intro; rfl
theorem hd_iff (cs : List Nat) : hdE cs = 0 ↔ HdOk cs := by
  unfold hdE syE coE mdE nuE suE
  simp only [fstE_zero, expE_zero (show (14 : Int) ≠ 0 by decide), expE_zero (show (12 : Int) ≠ 0 by decide), expE_zero (show (15 : Int) ≠ 0 by decide), un_zero _ 13 (by decide), un_zero _ 10 (by decide), chE_zero, toE_zero, Bool.and_eq_true, decide_eq_true_eq]
  have hsk : gE cs = 0 → seekE cs (32 + 8 * gS cs) = 0 := fun h => by
    have h2 := (g_bd cs).2.2 h
    exact (seekE_zero cs (32 + 8 * gS cs)).2 (by omega)
  constructor
  · rintro ⟨⟨⟨a1, a2⟩, ⟨a3, a4⟩, a5, _⟩, ⟨b1, b2, ⟨b3, b4⟩, _⟩, ⟨c1, c2, c3, c4, ⟨c5, c6⟩, _⟩, ⟨d1, d2, _⟩, e5, e6, e7, e8, _⟩
    exact ⟨⟨a1, a2, a3, a4, a5⟩, ⟨b1, b2, b3, b4⟩, ⟨c1, c2, c3, c4, c5, c6⟩, ⟨by omega, d2⟩, e5, e6, e7, e8⟩
  · rintro ⟨⟨a1, a2, a3, a4, a5⟩, ⟨b1, b2, b3, b4⟩, ⟨c1, c2, c3, c4, c5, c6⟩, ⟨d1, d2⟩, e5, e6, e7, e8⟩
    exact ⟨⟨⟨a1, a2⟩, ⟨a3, a4⟩, a5, rfl⟩, ⟨b1, b2, ⟨b3, b4⟩, rfl⟩, ⟨c1, c2, c3, c4, ⟨c5, c6⟩, rfl⟩, ⟨by omega, d2, hsk d1, rfl⟩, e5, e6, e7, e8, rfl⟩
/-- more bytes behind -/
theorem take_ext {c : List Nat} {a k : Nat} (hk : k ≤ 48) (h : takeE c a (k : Nat) = 0) (r : List Nat) : takeE (c ++ r) a (k : Nat) = 0 ∧ takeR (c ++ r) a (k : Nat) = takeR c a (k : Nat) := by
  have h1 := (takeE_iff c a k hk).1 h
  have h2 : takeE (c ++ r) a (k : Nat) = 0 := (takeE_iff _ a k hk).2 (by rw [List.length_append]; omega)
  refine ⟨h2, ?_⟩
  rw [takeR_is h2, takeR_is h]
  unfold numAt
  rw [bitsOf_append, List.drop_append_of_le_length (by rw [bitsOf_len]; omega), List.take_append_of_le_length (by rw [List.length_drop, bitsOf_len]; omega)]
theorem get_ext {c : List Nat} (h : gE c = 0) (r : List Nat) : gE (c ++ r) = 0 ∧ gN (c ++ r) = gN c ∧ gS (c ++ r) = gS c := by
  unfold gE gN gS at *
  rcases U.get_back (c.drop 4) with ⟨h1, _⟩ | ⟨m, h1, h2, h3, h4⟩
  · exact absurd h h1
  · have hl : 4 ≤ c.length := by have := U.szOf_bd m; rw [List.length_drop] at h3; omega
    have e : (c ++ r).drop 4 = U.cd m ++ ((c.drop 4).drop (U.szOf m) ++ r) := by
      rw [List.drop_append_of_le_length hl, ← h4, ← List.append_assoc, List.take_append_drop]
    rw [e, U.get_put m h1, h2]
    exact ⟨rfl, rfl, rfl⟩
theorem sizes_le (T : List Rw) (hT : TOk T) (c : Int) : (rowOf T c).s ≤ 48 := by
  have := (rowOf_bd hT c).2.2.2
  omega
/-- what is read of bytes is read of more bytes -/
theorem hd_ext {c : List Nat} (h : HdOk c) (r : List Nat) : HdOk (c ++ r) ∧ hdX (c ++ r) = hdX c ∧ rP3 (c ++ r) = rP3 c := by
  obtain ⟨⟨a1, a2, a3, a4, a5⟩, ⟨b1, b2, b3, b4⟩, ⟨c1, c2, c3, c4, c5, c6⟩, ⟨d1, d2⟩, ⟨e1, e2⟩, ⟨f1, f2⟩, ⟨g1, g2⟩, ⟨s1, s2⟩⟩ := h
  obtain ⟨a1', a2'⟩ := take_ext (k := 8) (by decide) a1 r
  obtain ⟨a3', a4'⟩ := take_ext (k := 7) (by decide) a3 r
  obtain ⟨a5', a6'⟩ := take_ext (k := 1) (by decide) a5 r
  obtain ⟨b1', b3'⟩ := take_ext (k := 4) (by decide) b1 r
  obtain ⟨b2', b4'⟩ := take_ext (k := 4) (by decide) b2 r
  obtain ⟨c1', c3'⟩ := take_ext (k := 4) (by decide) c1 r
  obtain ⟨c2', c4'⟩ := take_ext (k := 3) (by decide) c2 r
  obtain ⟨c5', c6'⟩ := take_ext (k := 1) (by decide) c5 r
  obtain ⟨d1', dN, dS⟩ := get_ext d1 r
  have vV : rV (c ++ r) = rV c := by unfold rV; exact congrArg (fun z => decide (z = 1)) a6'
  have vR1 : rR1 (c ++ r) = rR1 c := congrArg (rowOf bT) b3'
  have vR2 : rR2 (c ++ r) = rR2 c := congrArg (rowOf rT) b4'
  have vR3 : rR3 (c ++ r) = rR3 c := congrArg (rowOf dT) c4'
  have vP0 : rP0 (c ++ r) = rP0 c := by unfold rP0; rw [dS]
  have vP1 : rP1 (c ++ r) = rP1 c := by unfold rP1; rw [vP0, vR1]
  have vP2 : rP2 (c ++ r) = rP2 c := by unfold rP2; rw [vP1, vR2]
  have vP3 : rP3 (c ++ r) = rP3 c := by unfold rP3; rw [vP2, vR3]
  obtain ⟨e1', e2'⟩ := take_ext (sizes_le bT bOk _) e1 r
  obtain ⟨f1', f2'⟩ := take_ext (sizes_le rT rOk _) f1 r
  obtain ⟨g1', g2'⟩ := take_ext (sizes_le dT dOk _) g1 r
  obtain ⟨s1', s2'⟩ := take_ext (k := 8) (by decide) s1 r
  have hp := (takeE_iff c (rP3 c) 8 (by decide)).1 s1
  have hR : ∀ c, (rR1 c = rowOf bT (takeR c 16 4)) ∧ (rR2 c = rowOf rT (takeR c 20 4)) ∧ (rR3 c = rowOf dT (takeR c 28 3)) := fun c => ⟨rfl, rfl, rfl⟩
  refine ⟨⟨⟨a1', a2'.trans a2, a3', a4'.trans a4, a5'⟩, ⟨b1', b2', by rw [vR1]; exact b3, by rw [vR2]; exact b4⟩, ⟨c1', c2', by rw [show takeR (c ++ r) 24 4 = takeR c 24 4 from c3']; exact c3, by rw [vR3]; exact c4, c5', c6'.trans c6⟩, ⟨d1', by rw [vV, dN]; exact d2⟩, ?_, ?_, ?_, ?_⟩, ?_, vP3⟩
  · rw [vP0, vR1]; exact ⟨e1', by rw [show takeR (c ++ r) (rP0 c) (rR1 c).s = takeR c (rP0 c) (rR1 c).s from e2']; exact e2⟩
  · rw [vP1, vR2]; exact ⟨f1', by rw [show takeR (c ++ r) (rP1 c) (rR2 c).s = takeR c (rP1 c) (rR2 c).s from f2']; exact f2⟩
  · rw [vP2, vR3]; exact ⟨g1', by rw [show takeR (c ++ r) (rP2 c) (rR3 c).s = takeR c (rP2 c) (rR3 c).s from g2']; exact g2⟩
  · rw [vP3]; exact ⟨s1', by rw [show takeR (c ++ r) (rP3 c) 8 = takeR c (rP3 c) 8 from s2', s2, List.take_append_of_le_length (by omega)]⟩
  · unfold hdX toV
    rw [vV, vR1, vR2, vR3, vP0, vP1, vP2, dN, show takeR (c ++ r) 16 4 = _ from b3', show takeR (c ++ r) 20 4 = _ from b4', show takeR (c ++ r) 24 4 = _ from c3', show takeR (c ++ r) 28 3 = _ from c4',
      show takeR (c ++ r) (rP0 c) (rR1 c).s = _ from e2', show takeR (c ++ r) (rP1 c) (rR2 c).s = _ from f2', show takeR (c ++ r) (rP2 c) (rR3 c).s = _ from g2']
    rfl

/-! bytes that run out -/
def Z11 (e : Int) : Prop := e = 0 ∨ e = 11
theorem z11_cons {e : Int} {l : List Int} (h : Z11 e) (hl : e = 0 → Z11 (fstE l)) : Z11 (fstE (e :: l)) := by
  rcases h with rfl | rfl
  · exact hl rfl
  · exact .inr rfl
theorem z11_nil : Z11 (fstE []) := .inl rfl
theorem z11_zero {e : Int} {l : List Int} (h : e = 0) (hl : Z11 (fstE l)) : Z11 (fstE (e :: l)) := z11_cons (.inl h) (fun _ => hl)
theorem z11_take (bs : List Nat) (a k : Nat) (hk : k ≤ 48) : Z11 (takeE bs a (k : Nat)) := takeE_two bs a k hk
/-- where a number is read of fewer bytes, it is the same -/
theorem take_cut {cs : List Nat} {a k i : Nat} (hk : k ≤ 48) (h : takeE (cs.take i) a (k : Nat) = 0) : takeR (cs.take i) a (k : Nat) = takeR cs a (k : Nat) := by
  have := (take_ext hk h (cs.drop i)).2
  rw [List.take_append_drop] at this
  exact this.symm
theorem z11_exp {cs : List Nat} {a k i : Nat} {want wrong : Int} (hk : k ≤ 48) (h : takeR cs a (k : Nat) = want) : Z11 (expE (cs.take i) a (k : Nat) want wrong) := by
  unfold expE
  refine z11_cons (z11_take _ _ _ hk) (fun e => z11_zero ?_ z11_nil)
  rw [take_cut hk e, h]
  simp [un]
theorem get_cut {cs : List Nat} (h : gE cs = 0) (i : Nat) : (gE (cs.take i) = 0 ∧ gN (cs.take i) = gN cs ∧ gS (cs.take i) = gS cs) ∨ gE (cs.take i) = 11 := by
  unfold gE gN gS at *
  rcases U.get_back (cs.drop 4) with ⟨h1, _⟩ | ⟨m, h1, h2, h3, h4⟩
  · exact absurd h h1
  · rw [List.drop_take]
    by_cases hi : U.szOf m ≤ i - 4
    · left
      have e : (cs.drop 4).take (i - 4) = U.cd m ++ ((cs.drop 4).take (i - 4)).drop (U.szOf m) := by
        have := List.take_append_drop (U.szOf m) ((cs.drop 4).take (i - 4))
        rw [List.take_take, Nat.min_eq_left hi, h4] at this
        exact this.symm
      rw [e, U.get_put m h1, h2]
      exact ⟨rfl, rfl, rfl⟩
    · right
      have e : (cs.drop 4).take (i - 4) = (U.cd m).take (i - 4) := by
        rw [← h4, List.take_take, Nat.min_eq_left (by omega)]
      rw [e, U.get_part m h1 _ (by omega)]
theorem z11_to {cs : List Nat} {a i : Nat} {R : Rw} (hk : R.s ≤ 48) (h : (R.l : Int) + takeR cs a R.s ≤ R.m) : Z11 (toE (cs.take i) a R) := by
  unfold toE
  refine z11_cons (z11_take _ _ _ hk) (fun e => z11_zero ?_ z11_nil)
  rw [take_cut hk e, if_neg (by omega)]
/-- the beginning of a header runs out -/
theorem hd_cut {cs : List Nat} (h : HdOk cs) (i : Nat) (hi : 8 * i < rP3 cs + 8) : hdE (cs.take i) = 11 := by
  have key : Z11 (hdE (cs.take i)) := by
    obtain ⟨⟨a1, a2, a3, a4, a5⟩, ⟨b1, b2, b3, b4⟩, ⟨c1, c2, c3, c4, c5, c6⟩, ⟨d1, d2⟩, ⟨e1, e2⟩, ⟨f1, f2⟩, ⟨g1, g2⟩, ⟨s1, s2⟩⟩ := h
    unfold hdE
    refine z11_cons ?_ (fun k1 => z11_cons ?_ (fun k2 => z11_cons ?_ (fun k3 => z11_cons ?_ (fun k4 => ?_))))
    · exact z11_cons (z11_exp (k := 8) (by decide) a2) (fun _ => z11_cons (z11_exp (k := 7) (by decide) a4) (fun _ => z11_cons (z11_take _ 15 1 (by decide)) (fun _ => z11_nil)))
    · refine z11_cons (z11_take _ 16 4 (by decide)) (fun q1 => z11_cons (z11_take _ 20 4 (by decide)) (fun q2 => z11_zero ?_ z11_nil))
      rw [show takeR (cs.take i) 16 4 = takeR cs 16 4 from take_cut (k := 4) (by decide) q1, show takeR (cs.take i) 20 4 = takeR cs 20 4 from take_cut (k := 4) (by decide) q2]
      rw [un_zero _ 13 (by decide), Bool.and_eq_true, decide_eq_true_eq, decide_eq_true_eq]
      exact ⟨b3, b4⟩
    · refine z11_cons (z11_take _ 24 4 (by decide)) (fun q1 => z11_cons (z11_take _ 28 3 (by decide)) (fun q2 => z11_zero ?_ (z11_zero ?_ (z11_cons (z11_exp (k := 1) (by decide) c6) (fun _ => z11_nil)))))
      · rw [show takeR (cs.take i) 24 4 = takeR cs 24 4 from take_cut (k := 4) (by decide) q1, chE_zero]
        exact c3
      · rw [show takeR (cs.take i) 28 3 = takeR cs 28 3 from take_cut (k := 3) (by decide) q2, un_zero _ 13 (by decide), decide_eq_true_eq]
        exact c4
    · have kV : rV (cs.take i) = rV cs := by
        unfold syE at k1
        rw [fstE_zero, fstE_zero, fstE_zero] at k1
        unfold rV
        rw [show takeR (cs.take i) 15 1 = takeR cs 15 1 from take_cut (k := 1) (by decide) k1.2.2.1]
      rcases get_cut d1 i with ⟨q1, q2, q3⟩ | q
      · refine z11_zero (by omega) (z11_zero ?_ ?_)
        · rw [kV, q2, un_zero _ 10 (by decide), decide_eq_true_eq]
          exact d2
        · have := (g_bd (cs.take i)).2.2 q1
          exact z11_zero ((seekE_zero (cs.take i) (32 + 8 * gS (cs.take i))).2 (by omega)) z11_nil
      · refine z11_cons (.inr (by omega)) (fun e => by omega)
    · have k4' := k4
      unfold nuE at k4
      rw [fstE_zero] at k4
      rcases get_cut d1 i with ⟨q1, q2, q3⟩ | q
      rotate_left
      · have := k4.1; omega
      unfold coE at k2
      unfold mdE at k3
      rw [fstE_zero, fstE_zero] at k2 k3
      have vR1 : rR1 (cs.take i) = rR1 cs := congrArg (rowOf bT) (take_cut (k := 4) (by decide) k2.1)
      have vR2 : rR2 (cs.take i) = rR2 cs := congrArg (rowOf rT) (take_cut (k := 4) (by decide) k2.2.1)
      have vR3 : rR3 (cs.take i) = rR3 cs := congrArg (rowOf dT) (take_cut (k := 3) (by decide) k3.2.1)
      have vP0 : rP0 (cs.take i) = rP0 cs := by unfold rP0; rw [q3]
      have vP1 : rP1 (cs.take i) = rP1 cs := by unfold rP1; rw [vP0, vR1]
      have vP2 : rP2 (cs.take i) = rP2 cs := by unfold rP2; rw [vP1, vR2]
      have vP3 : rP3 (cs.take i) = rP3 cs := by unfold rP3; rw [vP2, vR3]
      unfold suE
      rw [vP0, vP1, vP2, vP3, vR1, vR2, vR3]
      refine z11_cons (z11_to (sizes_le bT bOk _) e2) (fun _ => z11_cons (z11_to (sizes_le rT rOk _) f2) (fun _ => z11_cons (z11_to (sizes_le dT dOk _) g2) (fun _ => z11_cons ?_ (fun _ => z11_nil))))
      refine .inr ?_
      unfold expE
      have : takeE (cs.take i) (rP3 cs) 8 = 11 := by
        rcases takeE_two (cs.take i) (rP3 cs) 8 (by decide) with e | e
        · have := (takeE_iff (cs.take i) (rP3 cs) 8 (by decide)).1 e
          rw [List.length_take] at this
          omega
        · exact e
      rw [this]
      rfl
  rcases key with e | e
  · exfalso
    have h1 := (hd_iff _).1 e
    obtain ⟨_, _, h4⟩ := hd_ext h1 (cs.drop i)
    rw [List.take_append_drop] at h4
    have h5 := (takeE_iff (cs.take i) (rP3 (cs.take i)) 8 (by decide)).1 h1.sum.1
    rw [List.length_take] at h5
    omega
  · exact e
end Go.Proofs.YteahiigfclabfaaDoor.H
