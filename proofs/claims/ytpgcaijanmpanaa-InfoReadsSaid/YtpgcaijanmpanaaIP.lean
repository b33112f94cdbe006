/-
  Plain mathematics: numbers in bytes, the highest one first; an info's bytes, and the info that bytes are.
-/
import Derived.Test.YtpgcaijanmpanaaIS
namespace Go.Proofs.Ytpgcaijanmpanaa

/-- so many bytes of a number, the highest one first -/
def be (m n : Nat) : List Nat := (List.range m).map fun j => n / 2 ^ (8 * (m - 1 - j)) % 256
/-- the number that bytes are -/
def vl (bs : List Nat) : Nat := bs.foldl (fun a x => a * 256 + x) 0
theorem be_len (m n : Nat) : (be m n).length = m := by simp [be]
theorem be_lt (m n : Nat) : ∀ x ∈ be m n, x < 256 := fun x hx => by
  obtain ⟨j, _, rfl⟩ := List.mem_map.1 hx
  exact Nat.mod_lt _ (by decide)
theorem be_take (m n j : Nat) (h : j < m) : (be m n).take (j + 1) = (be m n).take j ++ [n / 2 ^ (8 * (m - 1 - j)) % 256] := by
  rw [List.take_succ_eq_append_getElem (by rw [be_len]; exact h)]
  simp [be]
theorem be_succ (m n : Nat) : be (m + 1) n = be m (n / 256) ++ [n % 256] := by
  unfold be
  rw [List.range_succ, List.map_append]
  congr 1
  · refine List.map_congr_left fun j hj => ?_
    have hj' := List.mem_range.1 hj
    rw [show 8 * (m + 1 - 1 - j) = 8 + 8 * (m - 1 - j) by omega, Nat.pow_add, ← Nat.div_div_eq_div_mul]
  · simp
theorem vl_snoc (bs : List Nat) (x : Nat) : vl (bs ++ [x]) = vl bs * 256 + x := by simp [vl, List.foldl_append]
theorem vl_be : ∀ (m n : Nat), n < 2 ^ (8 * m) → vl (be m n) = n
  | 0, n, h => by
    simp at h
    subst h
    rfl
  | m + 1, n, h => by
    rw [be_succ, vl_snoc, vl_be m (n / 256) (by
      rw [Nat.div_lt_iff_lt_mul (by decide)]
      rw [show 8 * (m + 1) = 8 * m + 8 by omega, Nat.pow_add] at h
      exact h)]
    omega
theorem list_snoc {α : Type} (P : List α → Prop) (h0 : P []) (h1 : ∀ l x, P l → P (l ++ [x])) (l : List α) : P l := by
  rw [← List.reverse_reverse l]
  induction l.reverse with
  | nil => exact h0
  | cons x r ih => rw [List.reverse_cons]; exact h1 _ _ ih
theorem vl_lt (bs : List Nat) : (∀ x ∈ bs, x < 256) → vl bs < 2 ^ (8 * bs.length) := by
  refine list_snoc (fun bs => (∀ x ∈ bs, x < 256) → vl bs < 2 ^ (8 * bs.length)) (fun _ => by simp [vl]) (fun l x ih h => ?_) bs
  have h1 := ih (fun y hy => h y (List.mem_append_left _ hy))
  have h2 := h x (by simp)
  rw [vl_snoc, List.length_append, List.length_singleton, show 8 * (l.length + 1) = 8 * l.length + 8 by omega, Nat.pow_add]
  generalize 2 ^ (8 * l.length) = K at *
  omega
theorem be_vl (bs : List Nat) : (∀ x ∈ bs, x < 256) → be bs.length (vl bs) = bs := by
  refine list_snoc (fun bs => (∀ x ∈ bs, x < 256) → be bs.length (vl bs) = bs) (fun _ => rfl) (fun l x ih h => ?_) bs
  have h1 := ih (fun y hy => h y (List.mem_append_left _ hy))
  have h2 := h x (by simp)
  rw [vl_snoc, List.length_append, List.length_singleton, be_succ, show (vl l * 256 + x) / 256 = vl l by omega, show (vl l * 256 + x) % 256 = x by omega, h1]
/-- what four numbers are together -/
def shN (i : Nf) : Nat := ((i.r.toNat * 8 + (i.c.toNat - 1)) * 32 + (i.d.toNat - 1)) * 68719476736 + i.t.toNat
/-- an info's bytes -/
def wrB (i : Nf) : List Nat := be 2 i.mb.toNat ++ (be 2 i.xb.toNat ++ (be 3 i.mf.toNat ++ (be 3 i.xf.toNat ++ (be 8 (shN i) ++ i.s))))
/-- the info that bytes are -/
def rdI (bs : List Nat) : Nf :=
  ⟨(vl ((bs.drop 10).take 8) / 17592186044416 : Nat), (vl ((bs.drop 10).take 8) / 2199023255552 % 8 + 1 : Nat), (vl ((bs.drop 10).take 8) / 68719476736 % 32 + 1 : Nat), (vl (bs.take 2) : Nat), (vl ((bs.drop 2).take 2) : Nat), (vl ((bs.drop 4).take 3) : Nat), (vl ((bs.drop 7).take 3) : Nat), (vl ((bs.drop 10).take 8) % 68719476736 : Nat), bs.drop 18⟩
theorem wr_len {i : Nf} (hs : SumOk i.s) : (wrB i).length = 34 := by
  unfold wrB
  simp [be_len, hs.1]
theorem wr_lt {i : Nf} (hs : SumOk i.s) : ∀ x ∈ wrB i, x < 256 := by
  intro x hx
  unfold wrB at hx
  simp only [List.mem_append] at hx
  rcases hx with h | h | h | h | h | h
  all_goals first | exact be_lt _ _ _ h | exact hs.2 _ h
theorem sh_lt {i : Nf} (h : mayI i) : shN i < 2 ^ (8 * 8) := by
  obtain ⟨r, c, d, mb, xb, mf, xf, t, s⟩ := i
  obtain ⟨h1, h2, h3, _, _, _, _, h8, _⟩ := h
  unfold wi at h1 h2 h3 h8
  simp only at h1 h2 h3 h8
  unfold shN
  simp only
  have : (2 : Nat) ^ (8 * 8) = 18446744073709551616 := by decide
  rw [this]
  omega
theorem rd_wr {i : Nf} (h : mayI i) (hs : SumOk i.s) : rdI (wrB i) = i := by
  have hsh := sh_lt h
  have e1 : (wrB i).take 2 = be 2 i.mb.toNat := List.take_left' (be_len _ _)
  have d2 : (wrB i).drop 2 = be 2 i.xb.toNat ++ (be 3 i.mf.toNat ++ (be 3 i.xf.toNat ++ (be 8 (shN i) ++ i.s))) := List.drop_left' (be_len _ _)
  have d4 : (wrB i).drop 4 = be 3 i.mf.toNat ++ (be 3 i.xf.toNat ++ (be 8 (shN i) ++ i.s)) := by rw [show 4 = 2 + 2 from rfl, ← List.drop_drop, d2]; exact List.drop_left' (be_len _ _)
  have d7 : (wrB i).drop 7 = be 3 i.xf.toNat ++ (be 8 (shN i) ++ i.s) := by rw [show 7 = 4 + 3 from rfl, ← List.drop_drop, d4]; exact List.drop_left' (be_len _ _)
  have d10 : (wrB i).drop 10 = be 8 (shN i) ++ i.s := by rw [show 10 = 7 + 3 from rfl, ← List.drop_drop, d7]; exact List.drop_left' (be_len _ _)
  have d18 : (wrB i).drop 18 = i.s := by rw [show 18 = 10 + 8 from rfl, ← List.drop_drop, d10]; exact List.drop_left' (be_len _ _)
  unfold rdI
  rw [e1, d2, d4, d7, d10, d18, List.take_left' (be_len _ _), List.take_left' (be_len _ _), List.take_left' (be_len _ _), List.take_left' (be_len _ _)]
  obtain ⟨r, c, d, mb, xb, mf, xf, t, s⟩ := i
  obtain ⟨h1, h2, h3, h4, h5, h6, h7, h8, _⟩ := h
  unfold wi at h1 h2 h3 h4 h5 h6 h7 h8
  simp only at h1 h2 h3 h4 h5 h6 h7 h8 hsh ⊢
  rw [vl_be 8 _ hsh, vl_be 2 mb.toNat (by rw [show (2 : Nat) ^ (8 * 2) = 65536 by decide]; omega), vl_be 2 xb.toNat (by rw [show (2 : Nat) ^ (8 * 2) = 65536 by decide]; omega), vl_be 3 mf.toNat (by rw [show (2 : Nat) ^ (8 * 3) = 16777216 by decide]; omega), vl_be 3 xf.toNat (by rw [show (2 : Nat) ^ (8 * 3) = 16777216 by decide]; omega)]
  unfold shN
  simp only [Nf.mk.injEq, and_true]
  refine ⟨?_, ?_, ?_, ?_, ?_, ?_, ?_, ?_⟩ <;> omega
theorem wr_rd {bs : List Nat} (hl : bs.length = 34) (hb : ∀ x ∈ bs, x < 256) : wrB (rdI bs) = bs := by
  have hv : vl ((bs.drop 10).take 8) < 2 ^ (8 * 8) := by
    have := vl_lt ((bs.drop 10).take 8) (fun x hx => hb x (List.mem_of_mem_drop (List.mem_of_mem_take hx)))
    rwa [show ((bs.drop 10).take 8).length = 8 by simp; omega] at this
  have hsh : shN (rdI bs) = vl ((bs.drop 10).take 8) := by
    rw [show (2 : Nat) ^ (8 * 8) = 18446744073709551616 by decide] at hv
    unfold shN rdI
    simp only
    generalize vl ((bs.drop 10).take 8) = V at *
    omega
  have b : ∀ (i m : Nat), i + m ≤ 34 → be m (vl ((bs.drop i).take m)) = (bs.drop i).take m := fun i m h => by
    have := be_vl ((bs.drop i).take m) (fun x hx => hb x (List.mem_of_mem_drop (List.mem_of_mem_take hx)))
    rwa [show ((bs.drop i).take m).length = m by simp; omega] at this
  have b0 := b 0 2 (by decide)
  rw [List.drop_zero] at b0
  unfold wrB
  rw [hsh]
  unfold rdI
  simp only [Int.toNat_natCast]
  rw [b0, b 2 2 (by decide), b 4 3 (by decide), b 7 3 (by decide), b 10 8 (by decide)]
  have s1 : ∀ (i m : Nat), (bs.drop i).take m ++ bs.drop (i + m) = bs.drop i := fun i m => by rw [← List.drop_drop]; exact List.take_append_drop m _
  have s18 := s1 10 8
  have s10 := s1 7 3
  have s7 := s1 4 3
  have s4 := s1 2 2
  have s2 := List.take_append_drop 2 bs
  simp only [Nat.reduceAdd] at s18 s10 s7 s4
  rw [s18, s10, s7, s4, s2]
end Go.Proofs.Ytpgcaijanmpanaa
