/-
  What Of's info covers: plain mathematics; pieces appended to a row of the call's own.
-/
import Derived.Test.YtllpeknjnhdbmaaIJ
import Derived.Test.YtllpeknjnhdbmaaIQ
namespace Go.Proofs.Ytllpeknjnhdbmaa
open Go.RowKit

theorem minL_le : ∀ (l : List Int) (x : Int), x ∈ l → minL l ≤ x
  | [], _, h => by cases h
  | [y], x, h => by simp at h; subst h; exact Int.le_refl _
  | y :: z :: l, x, h => by
    show min y (minL (z :: l)) ≤ x
    rcases List.mem_cons.1 h with rfl | h
    · omega
    · have := minL_le (z :: l) x h
      omega
theorem maxL_ge : ∀ (l : List Int) (x : Int), x ∈ l → x ≤ maxL l
  | [], _, h => by cases h
  | [y], x, h => by simp at h; subst h; exact Int.le_refl _
  | y :: z :: l, x, h => by
    show x ≤ max y (maxL (z :: l))
    rcases List.mem_cons.1 h with rfl | h
    · omega
    · have := maxL_ge (z :: l) x h
      omega
theorem minL_mem : ∀ (l : List Int), l ≠ [] → minL l ∈ l
  | [], h => absurd rfl h
  | [y], _ => by simp [minL]
  | y :: z :: l, _ => by
    show min y (minL (z :: l)) ∈ y :: z :: l
    have := minL_mem (z :: l) (by simp)
    by_cases h : y ≤ minL (z :: l)
    · rw [show min y (minL (z :: l)) = y by omega]; simp
    · rw [show min y (minL (z :: l)) = minL (z :: l) by omega]; exact List.mem_cons_of_mem _ this
theorem maxL_mem : ∀ (l : List Int), l ≠ [] → maxL l ∈ l
  | [], h => absurd rfl h
  | [y], _ => by simp [maxL]
  | y :: z :: l, _ => by
    show max y (maxL (z :: l)) ∈ y :: z :: l
    have := maxL_mem (z :: l) (by simp)
    by_cases h : maxL (z :: l) ≤ y
    · rw [show max y (maxL (z :: l)) = y by omega]; simp
    · rw [show max y (maxL (z :: l)) = maxL (z :: l) by omega]; exact List.mem_cons_of_mem _ this
/-- pieces that a stream has -/
def okS (p : Int × Int) : Prop := 16 ≤ p.1 ∧ p.1 ≤ 65534 ∧ 1 ≤ p.2 ∧ p.2 ≤ 16777214
section
variable {r c d : Int} {s : List Nat} {l : List (Int × Int)} (h0 : l ≠ []) (hl : ∀ p ∈ l, okS p)
include h0 hl
theorem of_facts : (∀ p ∈ l, p.1 ≤ (ofI r c d s l).xb ∧ (ofI r c d s l).mf ≤ p.2 ∧ p.2 ≤ (ofI r c d s l).xf) ∧ (∀ p ∈ l.take (l.length - 1), (ofI r c d s l).mb ≤ p.1) ∧
    (ofI r c d s l).t = sumB l ∧ 16 ≤ (ofI r c d s l).xb ∧ (ofI r c d s l).xb ≤ 65534 ∧ 1 ≤ (ofI r c d s l).xf ∧ (ofI r c d s l).xf ≤ 16777214 := by
  unfold ofI
  rw [if_neg h0]
  simp only
  have hn1 : l.map (·.1) ≠ [] := by simpa using h0
  have hn2 : l.map (·.2) ≠ [] := by simpa using h0
  obtain ⟨p1, hp1, e1⟩ := List.mem_map.1 (maxL_mem _ hn1)
  obtain ⟨p2, hp2, e2⟩ := List.mem_map.1 (minL_mem _ hn2)
  obtain ⟨p3, hp3, e3⟩ := List.mem_map.1 (maxL_mem _ hn2)
  have o1 := hl p1 hp1
  have o2 := hl p2 hp2
  have o3 := hl p3 hp3
  unfold okS at o1 o2 o3
  have t2 : toldV (minL (l.map (·.2))) = minL (l.map (·.2)) := if_neg (by rw [← e2]; omega)
  have t3 : toldV (maxL (l.map (·.2))) = maxL (l.map (·.2)) := if_neg (by rw [← e3]; omega)
  have u1 : up16 (maxL (l.map (·.1))) = maxL (l.map (·.1)) := by unfold up16; split <;> omega
  rw [t2, t3, u1]
  refine ⟨fun p hp => ⟨maxL_ge _ _ (List.mem_map_of_mem hp), minL_le _ _ (List.mem_map_of_mem hp), maxL_ge _ _ (List.mem_map_of_mem hp)⟩, fun p hp => ?_, trivial, by omega, by omega, by omega, by omega⟩
  have hlen : 0 < (l.take (l.length - 1)).length := by
    cases e : l.take (l.length - 1) with
    | nil => rw [e] at hp; cases hp
    | cons a b => simp
  rw [List.length_take] at hlen
  rw [show max 1 (l.length - 1) = l.length - 1 by omega]
  have m1 := minL_le ((l.take (l.length - 1)).map (·.1)) p.1 (List.mem_map_of_mem hp)
  have m2 := hl p (List.mem_of_mem_take hp)
  unfold okS at m2
  unfold up16
  split <;> omega
theorem cv_own : cvE (ofI r c d s l) l = 0 := by
  obtain ⟨f1, f2, f3, _⟩ := of_facts (r := r) (c := c) (d := d) (s := s) h0 hl
  unfold cvE
  rw [if_neg h0, if_neg, if_neg, if_neg]
  · rw [f3]; rintro ⟨_, h⟩; exact h rfl
  · rw [List.any_eq_true]
    rintro ⟨p, hp, h⟩
    have := f2 p hp
    simp [shB] at h
    omega
  · rw [List.any_eq_true]
    rintro ⟨p, hp, h⟩
    have := f1 p hp
    simp [exB] at h
    omega
/-- the same, of which sizes and total are not known -/
def bare (i : Nf) : Nf := { i with mf := 0, xf := 0, t := 0 }
theorem cv_bare : cvE (bare (ofI r c d s l)) l = 0 := by
  obtain ⟨f1, f2, f3, _⟩ := of_facts (r := r) (c := c) (d := d) (s := s) h0 hl
  unfold cvE
  rw [if_neg h0, if_neg, if_neg, if_neg]
  · rintro ⟨h, _⟩; exact h rfl
  · rw [List.any_eq_true]
    rintro ⟨p, hp, h⟩
    have := f2 p hp
    have h' : p.1 < (ofI r c d s l).mb := of_decide_eq_true h
    omega
  · rw [List.any_eq_true]
    rintro ⟨p, hp, h⟩
    have := f1 p hp
    have h' : (ofI r c d s l).xb < p.1 := Decidable.byContradiction fun hn => by
      have e : exB (bare (ofI r c d s l)) p = false := by
        unfold exB
        rw [decide_eq_false (show ¬ (bare (ofI r c d s l)).xb < p.1 from hn)]
        rfl
      rw [e] at h
      cases h
    omega
omit h0 hl in
theorem cv_more (y : Int) : cvE (bare (ofI r c d s l)) (l ++ [((ofI r c d s l).xb + 1, y)]) = 22 := by
  unfold cvE
  rw [if_neg (by simp), if_pos]
  rw [List.any_eq_true]
  refine ⟨_, List.mem_append_right _ (List.mem_singleton.2 rfl), ?_⟩
  show ((decide ((ofI r c d s l).xb < (ofI r c d s l).xb + 1) || _) || _) = true
  rw [decide_eq_true (by omega)]
  rfl
theorem cv_fat (x : Int) : cvE (ofI r c d s l) (l ++ [(x, (ofI r c d s l).xf + 1)]) = 22 := by
  obtain ⟨_, _, _, _, _, f6, _⟩ := of_facts (r := r) (c := c) (d := d) (s := s) h0 hl
  unfold cvE
  rw [if_neg (by simp), if_pos]
  rw [List.any_eq_true]
  refine ⟨_, List.mem_append_right _ (List.mem_singleton.2 rfl), ?_⟩
  simp [exB]
  omega
theorem cv_less (h2 : 2 ≤ l.length) : cvE (ofI r c d s l) (l.take (l.length - 1)) = 22 := by
  obtain ⟨_, _, f3, _⟩ := of_facts (r := r) (c := c) (d := d) (s := s) h0 hl
  have hne : l.take (l.length - 1) ≠ [] := by
    intro e
    have := congrArg List.length e
    rw [List.length_take, List.length_nil] at this
    omega
  have hlt : l.length - 1 < l.length := by omega
  have hs : sumB l = sumB (l.take (l.length - 1)) + l[l.length - 1].1 := by
    rw [← sumB_snoc, ← List.take_succ_eq_append_getElem hlt, List.take_of_length_le (by omega)]
  have h1 := hl _ (List.getElem_mem hlt)
  unfold okS at h1
  have h3 := (sumB_bd (l.take (l.length - 1)) (fun p hp => by have := hl p (List.mem_of_mem_take hp); unfold okS at this; omega)).1
  exact cv_total hne (by rw [f3]; omega) (by rw [f3]; omega)
end
/-- the cells of pieces -/
def flat : List (Int × Int) → List Value
  | [] => []
  | p :: l => iv p.1 :: iv p.2 :: flat l
theorem flat_len : ∀ l, (flat l).length = l.length * 2
  | [] => rfl
  | p :: l => by simp only [flat, List.length_cons, flat_len l]; omega
theorem flat_append : ∀ l m, flat (l ++ m) = flat l ++ flat m
  | [], _ => rfl
  | p :: l, m => by simp only [List.cons_append, flat, flat_append l m]
theorem flat_one : ∀ l, ∀ u ∈ flat l, u.oneCell' = true
  | [], u, h => by cases h
  | p :: l, u, h => by
    simp only [flat, List.mem_cons] at h
    rcases h with rfl | rfl | h
    · rfl
    · rfl
    · exact flat_one l u h
theorem flat_even : ∀ (l : List (Int × Int)) (j : Nat), (h : j < l.length) → (flat l)[j * 2]? = some (iv l[j].1) ∧ (flat l)[j * 2 + 1]? = some (iv l[j].2)
  | p :: l, 0, _ => ⟨rfl, rfl⟩
  | p :: l, j + 1, h => by
    have := flat_even l j (by simpa using h)
    rw [show (j + 1) * 2 = j * 2 + 1 + 1 by omega]
    simp only [flat, List.getElem?_cons_succ, List.getElem_cons_succ]
    exact this
def OwnsP (w : World) (base : Nat) (v : Value) (ps : List (Int × Int)) : Prop := w.ownsRow base 49 2 v ps.length (flat ps)
section
variable {w w' : World} {base : Nat} {v : Value} {ps : List (Int × Int)}
theorem OwnsP.nil (w : World) (base : Nat) : OwnsP w base (.slice none 0 0) [] := ⟨by simp [flat], .inl ⟨rfl, rfl⟩⟩
theorem OwnsP.nix (h : OwnsP w base v ps) (ho : Only Nix w w') : OwnsP w' base v ps := owns_only h ho (fun _ _ e => e)
theorem OwnsP.psrc (h : OwnsP w base v ps) (hs : ps.length ≤ 1000000) (hf : ∀ p ∈ ps, i64 p.1 ∧ i64 p.2) : PSrc w v ps := by
  rcases h.2 with ⟨rfl, h0⟩ | ⟨g, cap, cur, rfl, _, hg, hle, _, _, ht⟩
  · have := List.eq_nil_of_length_eq_zero h0
    subst this
    exact PSrc.nil w
  · have key : ∀ j, j < (flat ps).length → w.cell? ⟨g, j, none⟩ = (flat ps)[j]? := fun j hj => by
      rw [cell_of_row w g _ cur _ (0, 0) hg, ← ht, List.getElem?_take, if_pos (by rw [flat_len] at hj; exact hj)]
      simp
    refine PSrc.of_cells rfl hle (fun j hj => ?_) (by omega) (fun p hp => hf p hp)
    obtain ⟨h1, h2⟩ := flat_even ps j hj
    exact ⟨by rw [key _ (by rw [flat_len]; omega), h1], by rw [key _ (by rw [flat_len]; omega), h2]⟩
end
theorem Try.info_piece : (Try.prog.info? 49).map (fun i => (i.zero, i.size, i.bytes)) = some (some (.agg #[.int .i64 0, .int .i64 0]), 2, 16) := by kernel_rfl
/-- pieces appended -/
theorem app_pieces {w : World} {base : Nat} {v : Value} {ps : List (Int × Int)} {ops : Array Oper} {rest : List Oper} {o : Oper} {a : Act} {Q : Exit → Act → World → Prop} (hgd : o.guard = none) (s x : Operand)
    (ho : o.op = .call { callee := .builtin .append, args := #[s, x], argTypes := #[45, 45] })
    (hs : a.eval s = v) (hown : OwnsP w base v ps) (ad : Addr) (m c : Nat) (qs : List (Int × Int)) (hx : a.eval x = .slice (some ad) m c) (hq : PSrc w (.slice (some ad) m c) qs) (h63 : ps.length + m ≤ 1000000) (hbase : base ≤ w.heap.size)
    (h : ∀ v' w', OwnsP w' base v' (ps ++ qs) → w.grownBy w' v.ownBlock → (v'.ownBlock = v.ownBlock ∨ v'.ownBlock = some w.heap.size) → wpList Try.prog ops Q rest (a.put o.dst v') w') :
    wpList Try.prog ops Q (o :: rest) a w := by
  obtain ⟨i0, hi0, hz0, hz1, hz2⟩ := info_parts Try.info_piece
  obtain rfl := hq.len
  refine wpList_append_own_at w hgd s x 45 ho base 49 i0 _ 2 16 Try.underlying45 hi0 hz0 hz1 hz2 rfl (by decide) v ps.length (flat ps) hs hown ad qs.length c (flat qs) hx (flat_len qs) (fun j u hu => ?_) (flat_one qs) (by unfold maxLen; omega) (by omega) hbase ?_
  · have hj : j < qs.length * 2 := by rw [← flat_len]; exact (List.getElem?_eq_some_iff.1 hu).1
    obtain ⟨ad', e, h1, h2⟩ := hq.at_ (k := j / 2) (by omega)
    injection e with e
    subst e
    obtain ⟨f1, f2⟩ := flat_even qs (j / 2) (by omega)
    rcases Nat.mod_two_eq_zero_or_one j with hm | hm
    · rw [show j / 2 * 2 = j by omega] at h1 f1
      rw [h1, ← hu, f1]
    · rw [← add_one, add_add] at h2
      rw [show j / 2 * 2 + 1 = j by omega] at h2 f2
      rw [h2, ← hu, f2]
  · intro v' w' h1 h2 _ h4
    refine h v' w' ?_ h2 h4
    unfold OwnsP
    rw [List.length_append, flat_append]
    exact h1
theorem one_piece (w : World) (x y : Int) (hx : i64 x) (hy : i64 y) : PSrc (w.alloc (.cells #[iv x, iv y] 49)) (.slice (some ⟨w.heap.size, 0, none⟩) 1 1) [(x, y)] := by
  refine PSrc.of_cells rfl (Nat.le_refl _) (fun j hj => ?_) (by simp) (fun p hp => by simp at hp; subst hp; exact ⟨hx, hy⟩)
  have hb := Box.new w 49 #[iv x, iv y]
  match j, hj with
  | 0, _ => exact ⟨hb.cell 0, hb.cell 1⟩
end Go.Proofs.Ytllpeknjnhdbmaa
