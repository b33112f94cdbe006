/-
  Package header: what Read answers of what was written, of its beginnings, and of any bytes.
-/
import Derived.Test.YteahiigfclabfaaDoorHK
namespace Go.Proofs.YteahiigfclabfaaDoor.H

theorem wrB_len16 (h : Hd) : (wrB h).length ≤ 16 := by
  unfold wrB
  split
  · have := @hbB_len h
    simp
    omega
  · simp
theorem wrB_lt (h : Hd) : ∀ x ∈ wrB h, x < 256 := by
  unfold wrB
  split
  · rename_i e
    have k := (ck_ok h).1 e
    have hS := U.sm_lt (n := 8) (r := 7) (by decide) (Nat.le_refl _) (hbB h) (hbB_lt k)
    intro x hx
    rcases List.mem_append.1 hx with hx | hx
    · exact hbB_lt k x hx
    · simp at hx; subst hx; exact hS
  · simp
theorem rd_forth {h : Hd} (k : HOk h) (b : List Nat) : rdE (wrB h ++ b) = 0 ∧ rdX (wrB h ++ b) = h ∧ rdN (wrB h ++ b) = (wrB h).length := by
  obtain ⟨h1, h2, h3⟩ := hd_forth k
  obtain ⟨e1, e2, e3⟩ := hd_ext h1 (b.take (16 - (wrB h).length))
  have hl := wrB_len16 h
  have e : (wrB h ++ b).take 16 = wrB h ++ b.take (16 - (wrB h).length) := by
    rw [List.take_append, List.take_of_length_le hl]
  have e0 : rdE (wrB h ++ b) = 0 := by unfold rdE; rw [e]; exact (hd_iff _).2 e1
  refine ⟨e0, ?_, ?_⟩
  · unfold rdX; rw [if_pos e0, e, e2, h2]
  · unfold rdN; rw [if_pos e0, e, e3, h3]; omega
theorem rd_cut {h : Hd} (k : HOk h) (i : Nat) (hi : i < (wrB h).length) : rdE ((wrB h).take i) = 11 := by
  obtain ⟨h1, h2, h3⟩ := hd_forth k
  have hl := wrB_len16 h
  unfold rdE
  rw [List.take_take, Nat.min_eq_right (by omega)]
  exact hd_cut h1 i (by omega)
/-- what is so where bytes were read -/
structure RdBack (bs : List Nat) (n : Nat) : Prop where
  ok : HOk (rdX bs)
  int : HdI (rdX bs)
  num : rdN bs = n
  wr : wrB (rdX bs) = bs.take n
  n6 : 6 ≤ n
  n16 : n ≤ 16
  le : n ≤ bs.length
theorem rd_back {bs : List Nat} (hlt : ∀ x ∈ bs, x < 256) (h : rdE bs = 0) : ∃ n, RdBack bs n := by
  have h' : hdE (bs.take 16) = 0 := h
  obtain ⟨n, k⟩ := hd_back ((hd_iff _).1 h') (fun x hx => hlt x (List.mem_of_mem_take hx))
  have hX : rdX bs = hdX (bs.take 16) := by unfold rdX; rw [if_pos h]
  have hN : rdN bs = n := by unfold rdN; rw [if_pos h, k.p3]; omega
  have hle := k.le
  rw [List.length_take] at hle
  refine ⟨n, by rw [hX]; exact k.ok, by rw [hX]; exact k.int, hN, ?_, k.n6, k.n16, by omega⟩
  rw [hX, k.wr, List.take_take, Nat.min_eq_left k.n16]
theorem rd_no {bs : List Nat} (h : rdE bs ≠ 0) : rdX bs = hd0 ∧ rdN bs = 0 := by
  unfold rdX rdN
  rw [if_neg h, if_neg h]
  exact ⟨rfl, rfl⟩
end Go.Proofs.YteahiigfclabfaaDoor.H
