/-
  The document's Of: plain mathematics.
-/
import Derived.Test.YtllpeknjnhdbmaaIG
namespace Go.Proofs.Ytllpeknjnhdbmaa

theorem minL_cons (x y : Int) (l : List Int) : minL (x :: y :: l) = min x (minL (y :: l)) := rfl
theorem maxL_cons (x y : Int) (l : List Int) : maxL (x :: y :: l) = max x (maxL (y :: l)) := rfl
theorem minL_snoc : ∀ (l : List Int) (x : Int), l ≠ [] → minL (l ++ [x]) = min (minL l) x
  | [], _, h => absurd rfl h
  | [a], x, _ => rfl
  | a :: b :: l, x, _ => by
    have := minL_snoc (b :: l) x (by simp)
    simp only [List.cons_append] at this ⊢
    rw [minL_cons, minL_cons, this]
    omega
theorem maxL_snoc : ∀ (l : List Int) (x : Int), l ≠ [] → maxL (l ++ [x]) = max (maxL l) x
  | [], _, h => absurd rfl h
  | [a], x, _ => rfl
  | a :: b :: l, x, _ => by
    have := maxL_snoc (b :: l) x (by simp)
    simp only [List.cons_append] at this ⊢
    rw [maxL_cons, maxL_cons, this]
    omega
theorem take_ne {l : List Int} {k : Nat} (h : k < l.length) (h0 : k ≠ 0) : l.take k ≠ [] := by
  intro e
  have := congrArg List.length e
  rw [List.length_take, List.length_nil] at this
  omega
/-- the least of all blocks but the last one, behind k of them -/
def rf0 (bl : List Int) (k : Nat) : Int := if k = 0 then 16 else up16 (minL (bl.take (min k (max 1 (bl.length - 1)))))
theorem up16_min (m x : Int) : up16 (min m x) = if x < up16 m then up16 x else up16 m := by
  unfold up16
  split <;> split <;> split <;> omega
theorem rf0_succ (bl : List Int) (k : Nat) (h : k < bl.length) : rf0 bl (k + 1) = if (decide (k = 0) || (decide ((k : Int) < (bl.length : Int) - 1) && decide (bl[k] < rf0 bl k))) = true then up16 bl[k] else rf0 bl k := by
  by_cases h0 : k = 0
  · subst h0
    have e : bl.take (min (0 + 1) (max 1 (bl.length - 1))) = [bl[0]] := by
      rw [show min (0 + 1) (max 1 (bl.length - 1)) = 0 + 1 by omega, List.take_succ_eq_append_getElem h]
      simp
    unfold rf0
    rw [if_neg (by omega), e]
    simp [minL]
  · by_cases h1 : k < bl.length - 1
    · have e1 : min (k + 1) (max 1 (bl.length - 1)) = k + 1 := by omega
      have e2 : min k (max 1 (bl.length - 1)) = k := by omega
      have hk : (k : Int) < (bl.length : Int) - 1 := by omega
      have hne := take_ne h h0
      unfold rf0
      rw [if_neg (by omega), if_neg h0, e1, e2, List.take_succ_eq_append_getElem h, minL_snoc _ _ hne, up16_min]
      simp [h0, hk]
    · have e1 : min (k + 1) (max 1 (bl.length - 1)) = k := by omega
      have e2 : min k (max 1 (bl.length - 1)) = k := by omega
      have hk : ¬ (k : Int) < (bl.length : Int) - 1 := by omega
      unfold rf0
      rw [if_neg (by omega), if_neg h0, e1, e2]
      simp [h0, hk]
theorem max_succ (a : Int) (l : List Int) (k : Nat) (h : k < l.length) : maxL (a :: l.take (k + 1)) = if l[k] > maxL (a :: l.take k) then l[k] else maxL (a :: l.take k) := by
  rw [List.take_succ_eq_append_getElem h, ← List.cons_append, maxL_snoc _ _ (by simp)]
  split <;> omega
theorem min_succ (l : List Int) (k : Nat) (h : k < l.length) : minL (l.take (k + 1)) = (if (if k = 0 then l[k] else minL (l.take k)) > l[k] then l[k] else (if k = 0 then l[k] else minL (l.take k))) := by
  rw [List.take_succ_eq_append_getElem h]
  by_cases h0 : k = 0
  · subst h0
    simp [minL]
  · rw [minL_snoc _ _ (take_ne h h0), if_neg h0]
    split <;> omega
theorem max_head (a : Int) : ∀ (l : List Int), l ≠ [] → maxL (a :: l) = max a (maxL l)
  | [], h => absurd rfl h
  | _ :: _, _ => rfl
theorem maxL_pos : ∀ (l : List Int), (∀ x ∈ l, 0 ≤ x) → 0 ≤ maxL l
  | [], _ => Int.le_refl _
  | [x], h => h x (by simp)
  | x :: y :: l, h => by
    have := h x (by simp)
    rw [maxL_cons]
    omega
/-- the document's answer -/
def rfA (bl by_ : List Int) : List Int := [rf0 bl bl.length, maxL (16 :: bl), toldV (minL by_), toldV (maxL (0 :: by_)), bl.sum]
theorem rf_of (r c d : Int) (s : List Nat) (l : List (Int × Int)) (hl : ∀ p ∈ l, 1 ≤ p.1 ∧ 1 ≤ p.2) :
    rfA (l.map (·.1)) (l.map (·.2)) = [(ofI r c d s l).mb, (ofI r c d s l).xb, (ofI r c d s l).mf, (ofI r c d s l).xf, (ofI r c d s l).t] := by
  unfold rfA ofI
  by_cases h0 : l = []
  · subst h0
    rfl
  · have hl0 : l.length ≠ 0 := fun e => h0 (List.eq_nil_of_length_eq_zero e)
    have e1 : rf0 (l.map (·.1)) (l.map (·.1)).length = up16 (minL ((l.take (max 1 (l.length - 1))).map (·.1))) := by
      unfold rf0
      rw [List.length_map, if_neg hl0, show min l.length (max 1 (l.length - 1)) = max 1 (l.length - 1) by omega, List.map_take]
    have hne1 : l.map (·.1) ≠ [] := by simpa using h0
    have hne2 : l.map (·.2) ≠ [] := by simpa using h0
    have e2 : maxL (16 :: l.map (·.1)) = up16 (maxL (l.map (·.1))) := by
      rw [max_head _ _ hne1]
      unfold up16
      split <;> omega
    have e3 : maxL (0 :: l.map (·.2)) = maxL (l.map (·.2)) := by
      rw [max_head _ _ hne2]
      have := maxL_pos (l.map (·.2)) (fun x hx => by obtain ⟨p, hp, rfl⟩ := List.mem_map.1 hx; have := (hl p hp).2; omega)
      omega
    rw [if_neg h0, e1, e2, e3]
    rfl
end Go.Proofs.Ytllpeknjnhdbmaa
