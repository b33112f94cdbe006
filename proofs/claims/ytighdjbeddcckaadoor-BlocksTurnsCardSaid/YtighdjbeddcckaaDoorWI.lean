/-
  Rows of blocks of the call's own (the door seat's part of VRA).
-/
import Derived.Test.YtighdjbeddcckaaDoorVJ
import Derived.Test.YtighdjbeddcckaaDoorWG
import Derived.OwnWalk
namespace Go.Proofs.YtighdjbeddcckaaDoor
open Go.RowKit Go.Shelf

/-- cells of blocks -/
def flatB (xs : List (Int × Value)) : List Value := (xs.map fun p => [iv p.1, p.2]).flatten
theorem flatB_snoc (l : List (Int × Value)) (p : Int × Value) : flatB (l ++ [p]) = flatB l ++ [iv p.1, p.2] := by unfold flatB; simp
theorem flatB_len : ∀ l : List (Int × Value), (flatB l).length = l.length * 2
  | [] => rfl
  | p :: l => by
    have := flatB_len l
    unfold flatB at *
    rw [List.map_cons, List.flatten_cons, List.length_append, this, List.length_cons]
    simp
    omega
theorem flatB_at : ∀ (l : List (Int × Value)) (j : Nat) (hj : j < l.length), (flatB l)[j * 2]? = some (iv l[j].1) ∧ (flatB l)[j * 2 + 1]? = some l[j].2
  | [], j, hj => by simp at hj
  | p :: l, 0, hj => ⟨rfl, rfl⟩
  | p :: l, j + 1, hj => by
    have := flatB_at l j (by simpa using hj)
    unfold flatB at *
    rw [List.map_cons, List.flatten_cons]
    simp only [List.getElem_cons_succ]
    rw [List.getElem?_append_right (by simp; omega), List.getElem?_append_right (by simp; omega)]
    rw [show (j + 1) * 2 - [iv p.1, p.2].length = j * 2 by simp; omega, show (j + 1) * 2 + 1 - [iv p.1, p.2].length = j * 2 + 1 by simp; omega]
    exact this
theorem flatB_set : ∀ (l : List (Int × Value)) (j : Nat) (hj : j < l.length) (v : Value), (flatB l).set (j * 2 + 1) v = flatB (l.set j (l[j].1, v))
  | [], j, hj, _ => by simp at hj
  | p :: l, 0, hj, v => rfl
  | p :: l, j + 1, hj, v => by
    have := flatB_set l j (by simpa using hj) v
    unfold flatB at *
    simp only [List.set_cons_succ, List.map_cons, List.flatten_cons, List.getElem_cons_succ]
    rw [List.set_append_right _ _ (by simp; omega), show (j + 1) * 2 + 1 - [iv p.1, p.2].length = j * 2 + 1 by simp; omega, this]
/-- a row of blocks of the call's own -/
def OwnB (w : World) (base : Nat) (v : Value) (xs : List (Int × Value)) : Prop := w.ownsRow base 38 2 v xs.length (flatB xs)
theorem OwnB.nil (w : World) (base : Nat) : OwnB w base (.slice none 0 0) [] := ⟨by simp [flatB], .inl ⟨rfl, rfl⟩⟩
theorem OwnB.nix {w w' : World} {base : Nat} {v : Value} {xs : List (Int × Value)} (h : OwnB w base v xs) (ho : Only Nix w w') : OwnB w' base v xs := owns_only h ho (fun _ _ e => e)
theorem OwnB.lt {w : World} {base : Nat} {v : Value} {xs : List (Int × Value)} (h : OwnB w base v xs) {g : Nat} (hg : v.ownBlock = some g) : base ≤ g ∧ g < w.heap.size := World.ownsRow.lt h g hg
theorem OwnB.pos {w : World} {base : Nat} {v : Value} {xs : List (Int × Value)} (h : OwnB w base v xs) (h0 : 0 < xs.length) : ∃ g c cur, v = .slice (some ⟨g, 0, none⟩) xs.length c ∧ base ≤ g ∧ xs.length ≤ c ∧ Box w g 38 cur ∧ cur.size = c * 2 ∧ cur.toList.take (xs.length * 2) = flatB xs ∧ c ≤ maxLen := by
  rcases h.2 with ⟨_, e⟩ | ⟨g, cap, cur, rfl, hb, hg, hle, hcm, hsz, ht⟩
  · omega
  · exact ⟨g, cap, cur, rfl, hb, hle, hg, hsz, ht, hcm⟩
theorem OwnB.cells {w : World} {base g n c : Nat} {xs : List (Int × Value)} (h : OwnB w base (.slice (some ⟨g, 0, none⟩) n c) xs) {j : Nat} (hj : j < xs.length) : w.cell? ⟨g, j * 2, none⟩ = some (iv xs[j].1) ∧ w.cell? ⟨g, j * 2 + 1, none⟩ = some xs[j].2 ∧ w.frozen? ⟨g, j * 2 + 1, none⟩ = false := by
  obtain ⟨g', c', cur, e, _, hle, hB, hsz, ht, _⟩ := h.pos (by omega)
  injection e with e _ _
  injection e with e
  injection e with e _ _
  subst e
  obtain ⟨f0, f1⟩ := flatB_at xs j hj
  refine ⟨?_, ?_, hB.frozen _⟩
  · rw [hB.cell, ← f0, ← ht, List.getElem?_take, if_pos (by omega)]
    simp
  · rw [hB.cell, ← f1, ← ht, List.getElem?_take, if_pos (by omega)]
    simp
theorem OwnB.put {w : World} {base g n c : Nat} {xs : List (Int × Value)} (h : OwnB w base (.slice (some ⟨g, 0, none⟩) n c) xs) {j : Nat} (hj : j < xs.length) (v : Value) : OwnB (w.setCell ⟨g, j * 2 + 1, none⟩ v) base (.slice (some ⟨g, 0, none⟩) n c) (xs.set j (xs[j].1, v)) := by
  obtain ⟨g', c', cur, e, hb, hle, hB, hsz, ht, hcm⟩ := h.pos (by omega)
  injection e with e e2 e3
  injection e with e
  injection e with e _ _
  subst e e3
  refine ⟨by rw [flatB_len], .inr ⟨g, c, cur.setIfInBounds (j * 2 + 1) v, by rw [e2, List.length_set], hb, hB.put _ v, by rw [List.length_set]; exact hle, hcm, by simpa using hsz, ?_⟩⟩
  rw [List.length_set, Array.toList_setIfInBounds, List.take_set, ht, flatB_set xs j hj]
theorem Tryd.info_block : ∃ i0, Tryd.prog.info? 38 = some i0 ∧ (i0.zero, i0.size, i0.bytes) = (some (.agg #[iv 0, .slice none 0 0]), 2, 32) := ⟨_, rfl, by kernel_rfl⟩
/-- a block is appended -/
theorem app_block {w : World} {ops : Array Oper} {rest : List Oper} {o : Oper} {a : Act} {Q : Exit → Act → World → Prop} (hgd : o.guard = none) (s x : Operand)
    (ho : o.op = .call { callee := .builtin .append, args := #[s, x], argTypes := #[22, 22] })
    (base : Nat) (v : Value) (xs : List (Int × Value)) (hs : a.eval s = v) (hown : OwnB w base v xs) (g : Nat) (t : Int) (d : Value) (hx : a.eval x = .slice (some ⟨g, 0, none⟩) 1 1) (hc0 : w.cell? ⟨g, 0, none⟩ = some (iv t)) (hc1 : w.cell? ⟨g, 1, none⟩ = some d) (hd : d.oneCell' = true) (h63 : xs.length ≤ 100000) (hbase : base ≤ w.heap.size)
    (h : ∀ v' w', OwnB w' base v' (xs ++ [(t, d)]) → w.grownBy w' v.ownBlock → (v'.ownBlock = v.ownBlock ∨ v'.ownBlock = some w.heap.size) → wpList Tryd.prog ops Q rest (a.put o.dst v') w') : wpList Tryd.prog ops Q (o :: rest) a w := by
  obtain ⟨i0, hi, hz⟩ := Tryd.info_block
  simp only [Prod.mk.injEq] at hz
  obtain ⟨hz0, hz1, hz2⟩ := hz
  refine wpList_append_own_at w hgd s x 22 ho base 38 i0 (.agg #[iv 0, .slice none 0 0]) 2 32 Tryd.underlying22 hi hz0 hz1 hz2 rfl (by decide) v xs.length (flatB xs) hs hown ⟨g, 0, none⟩ 1 1 [iv t, d] hx rfl (fun j u hu => ?_) (fun u hu => ?_) (by unfold maxLen; omega) (by omega) hbase ?_
  · rw [Addr.add_lit, Nat.zero_add]
    match j, hu with
    | 0, hu => simp at hu; subst hu; exact hc0
    | 1, hu => simp at hu; subst hu; exact hc1
  · simp at hu
    rcases hu with rfl | rfl
    · rfl
    · exact hd
  · intro v' w' h1 h2 _ h4
    refine h v' w' ?_ h2 h4
    unfold OwnB
    rw [List.length_append, flatB_snoc]
    exact h1
def gx (xs : List (Int × Value)) (j : Nat) : Int × Value := xs.getD j (0, undef)
/-- the j-th: its type, and where its data lie -/
def Mt (w : World) (xs : List (Int × Value)) (l : List Bk) : Prop := xs.length = l.length ∧ ∀ j, (h : j < xs.length) → (h2 : j < l.length) → xs[j].1 = l[j].1 ∧ CSrc w xs[j].2 l[j].2
theorem Mt.snoc {w : World} {xs : List (Int × Value)} {l : List Bk} (h : Mt w xs l) {t : Int} {v : Value} {b : List Nat} (hv : CSrc w v b) : Mt w (xs ++ [(t, v)]) (l ++ [(t, b)]) := by
  refine ⟨by simp [h.1], fun j h1 h2 => ?_⟩
  by_cases e : j < xs.length
  · rw [List.getElem_append_left e, List.getElem_append_left (by have := h.1; omega)]
    exact h.2 j e (by have := h.1; omega)
  · have : j = xs.length := by simp at h1; omega
    subst this
    rw [List.getElem_append_right (by omega), List.getElem_append_right (by have := h.1; omega)]
    simp [h.1]
    exact hv
/-- the data are where they were, or in new memory, not in the row -/
def Fn (w wr : World) (g : Nat) (v : Value) (b : List Nat) : Prop := CSrc w v b ∨ (CSrc wr v b ∧ v.ownBlock ≠ some g)
theorem Fn.now {w wr : World} {g : Nat} {v : Value} {b : List Nat} (h : Fn w wr g v b) (ho : Only Nix w wr) : CSrc wr v b := h.elim (fun h => h.nix ho) (fun h => h.1)
theorem Fn.only {w wr w2 : World} {g : Nat} {v : Value} {b : List Nat} (h : Fn w wr g v b) (ho : Only (Just g) wr w2) : Fn w w2 g v b := h.elim .inl (fun h => .inr ⟨⟨h.1.src.only ho (fun i _ hi ad n c e e2 => by subst e; exact h.2 (by rw [← show i = g from hi, ← e2]; rfl)), h.1.cap⟩, h.2⟩)
def Mf (w wr : World) (g : Nat) (ys : List (Int × Value)) (l : List Bk) : Prop := ys.length = l.length ∧ ∀ j, (h : j < ys.length) → (h2 : j < l.length) → ys[j].1 = l[j].1 ∧ Fn w wr g ys[j].2 l[j].2
theorem Mf.only {w wr w2 : World} {g : Nat} {ys : List (Int × Value)} {l : List Bk} (h : Mf w wr g ys l) (ho : Only (Just g) wr w2) : Mf w w2 g ys l := ⟨h.1, fun j h1 h2 => ⟨(h.2 j h1 h2).1, (h.2 j h1 h2).2.only ho⟩⟩
theorem Mf.set {w wr : World} {g : Nat} {ys : List (Int × Value)} {l : List Bk} (h : Mf w wr g ys l) {j : Nat} (hj : j < ys.length) (hl : j < l.length) {v : Value} (hv : CSrc wr v l[j].2) (hg : v.ownBlock ≠ some g) : Mf w wr g (ys.set j (ys[j].1, v)) l := by
  refine ⟨by rw [List.length_set]; exact h.1, fun i h1 h2 => ?_⟩
  rw [List.getElem_set]
  by_cases e : j = i
  · subst e
    rw [if_pos rfl]
    exact ⟨(h.2 j hj h2).1, .inr ⟨hv, hg⟩⟩
  · rw [if_neg e]
    exact h.2 i (by simpa using h1) h2
theorem ownB_src {w wr : World} {base g n c : Nat} {ys : List (Int × Value)} {l : List Bk} (h : OwnB wr base (.slice (some ⟨g, 0, none⟩) n c) ys) (hm : Mf w wr g ys l) (ho : Only Nix w wr) (hn : n = l.length) (hc : n ≤ c) (hs : l.length ≤ 100000) (hf : ∀ p ∈ l, -9223372036854775808 ≤ p.1 ∧ p.1 ≤ 9223372036854775807) : BSrc wr (.slice (some ⟨g, 0, none⟩) n c) l := by
  refine ⟨⟨_, c, by rw [hn], by omega, fun j hj => ?_⟩, by omega, hf⟩
  have hj' : j < ys.length := by rw [hm.1]; exact hj
  obtain ⟨h1, h2, _⟩ := h.cells hj'
  obtain ⟨e1, e2⟩ := hm.2 j hj' hj
  refine ⟨_, ys[j].2, rfl, ?_, ?_, e2.now ho⟩
  · rw [Addr.add_lit, Nat.zero_add, h1, e1]
  · rw [Addr.add_lit, Nat.zero_add, h2]
end Go.Proofs.YtighdjbeddcckaaDoor
