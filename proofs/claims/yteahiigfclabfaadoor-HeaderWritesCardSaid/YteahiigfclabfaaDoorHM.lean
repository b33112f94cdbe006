/-
  The shortest codes: what is told, and in how many bits.
-/
import Derived.Test.YteahiigfclabfaaDoorHQ
namespace Go.Proofs.YteahiigfclabfaaDoor.H
open Go.RowKit

/-- behind j rows: the least size of those that tell the number -/
structure ShOk (T : List Rw) (n : Int) (j : Nat) : Prop where
  none : (shF T n j).2.2 = false → shF T n j = (0, 0, false) ∧ ∀ i, i < j → ¬ telP (rowOf T (i : Nat)) n
  some : (shF T n j).2.2 = true → (shF T n j).2.1 = n ∧ (shF T n j).1 < j ∧ telP (rowOf T ((shF T n j).1 : Nat)) n ∧ ∀ i, i < j → telP (rowOf T (i : Nat)) n → (rowOf T ((shF T n j).1 : Nat)).s ≤ (rowOf T (i : Nat)).s
theorem shF_ok (T : List Rw) (n : Int) (j : Nat) : ShOk T n j := by
  induction j with
  | zero => exact ⟨fun _ => ⟨rfl, fun i hi => by omega⟩, fun h => by cases h⟩
  | succ j ih =>
    obtain ⟨h1, h2⟩ := ih
    have e : shF T n (j + 1) = shStep T n (shF T n j) j := rfl
    generalize shF T n j = st at *
    obtain ⟨c, t, f⟩ := st
    simp only at h1 h2
    by_cases hq : telP (rowOf T (j : Nat)) n ∧ (f = false ∨ (rowOf T (j : Nat)).s < (rowOf T (c : Nat)).s)
    · have e2 : shStep T n (c, t, f) j = (j, n, true) := if_pos hq
      constructor
      · rw [e, e2]; intro h; cases h
      · rw [e, e2]; intro _
        refine ⟨rfl, by show j < j + 1; omega, hq.1, fun i hi ht => ?_⟩
        show (rowOf T (j : Nat)).s ≤ _
        by_cases hij : i = j
        · subst hij; exact Nat.le_refl _
        · rcases hq.2 with hf | hs
          · exact absurd ht ((h1 hf).2 i (by omega))
          · cases f with
            | false => exact absurd ht ((h1 rfl).2 i (by omega))
            | true => have := (h2 rfl).2.2.2 i (by omega) ht; omega
    · have e2 : shStep T n (c, t, f) j = (c, t, f) := if_neg hq
      constructor
      · rw [e, e2]; intro hf
        have hf' : f = false := hf
        obtain ⟨k1, k2⟩ := h1 hf'
        refine ⟨k1, fun i hi ht => ?_⟩
        by_cases hij : i = j
        · subst hij; exact hq ⟨ht, .inl hf'⟩
        · exact k2 i (by omega) ht
      · rw [e, e2]; intro hf
        have hf' : f = true := hf
        obtain ⟨k1, k2, k3, k4⟩ := h2 hf'
        refine ⟨k1, by show c < j + 1; omega, k3, fun i hi ht => ?_⟩
        show (rowOf T (c : Nat)).s ≤ _
        by_cases hij : i = j
        · subst hij
          by_cases hs : (rowOf T (i : Nat)).s < (rowOf T (c : Nat)).s
          · exact absurd ⟨ht, .inr hs⟩ hq
          · omega
        · exact k4 i (by omega) ht
/-- a code tells the number: the shortest one does -/
theorem shF_some {T : List Rw} {n c : Int} (hc : telP (rowOf T c) n) : (shF T n 16).2.1 = n ∧ (shF T n 16).1 < 16 ∧ telP (rowOf T ((shF T n 16).1 : Nat)) n ∧ (rowOf T ((shF T n 16).1 : Nat)).s ≤ (rowOf T c).s := by
  have hl := row_lt c hc.1
  obtain ⟨k, rfl⟩ : ∃ k : Nat, c = k := ⟨c.toNat, by omega⟩
  have hk : k < 16 := by omega
  obtain ⟨h1, h2⟩ := shF_ok T n 16
  cases hf : (shF T n 16).2.2 with
  | false => exact absurd hc ((h1 hf).2 k hk)
  | true =>
    obtain ⟨k1, k2, k3, k4⟩ := h2 hf
    exact ⟨k1, k2, k3, k4 k hk hc⟩
theorem shF_none {T : List Rw} {n : Int} (h : ∀ k : Nat, k < 16 → ¬ telP (rowOf T (k : Nat)) n) : shF T n 16 = (0, 0, false) := by
  obtain ⟨h1, h2⟩ := shF_ok T n 16
  cases hf : (shF T n 16).2.2 with
  | false => exact (h1 hf).1
  | true =>
    obtain ⟨_, k2, k3, _⟩ := h2 hf
    exact absurd k3 (h _ k2)
theorem telP_mul {r : Rw} {n : Int} (h : telP r n) : ∃ q : Nat, n = ((r.u * q : Nat) : Int) ∧ r.l ≤ q ∧ q ≤ r.m := by
  obtain ⟨h1, h2, h3, h4⟩ := h
  refine ⟨(n.tdiv r.u).toNat, ?_, by omega, by omega⟩
  have h5 := Int.mul_tdiv_add_tmod n (r.u : Int)
  rw [h2, Int.add_zero] at h5
  rw [Int.natCast_mul, Int.toNat_of_nonneg (by omega)]
  exact h5.symm
theorem mul_telP {r : Rw} (hu : r.u ≠ 0) {q : Nat} (h1 : r.l ≤ q) (h2 : q ≤ r.m) : telP r ((r.u * q : Nat) : Int) := by
  refine ⟨hu, ?_, ?_, ?_⟩
  · rw [Int.natCast_mul]; exact Int.mul_tmod_right _ _
  · rw [Int.natCast_mul, Int.mul_tdiv_cancel_left _ (by omega)]; omega
  · rw [Int.natCast_mul, Int.mul_tdiv_cancel_left _ (by omega)]; omega
/-- a row's numbers lie between these -/
theorem telP_bd {r : Rw} {n : Int} (h : telP r n) : ((r.u * r.l : Nat) : Int) ≤ n ∧ n ≤ ((r.u * r.m : Nat) : Int) := by
  obtain ⟨q, rfl, h1, h2⟩ := telP_mul h
  have := Nat.mul_le_mul_left r.u h1
  have := Nat.mul_le_mul_left r.u h2
  omega
theorem row_all {T : List Rw} (p : Rw → Prop) (h : ∀ r ∈ T, p r) (hT : TOk T) (c : Int) (hu : (rowOf T c).u ≠ 0) : p (rowOf T c) := by
  have hl := row_lt c hu
  unfold rowOf
  rw [if_neg (by omega)]
  have hl : c.toNat < T.length := by rw [hT.len]; omega
  rw [List.getD_eq_getElem?_getD, List.getElem?_eq_getElem hl]
  exact h _ (List.getElem_mem hl)
theorem blk_bd {c n : Int} (h : telP (rowOf bT c) n) : 1 ≤ n ∧ n ≤ 65535 := by
  have h1 := row_all (T := bT) (fun r => r.u ≠ 0 → 1 ≤ r.u * r.l ∧ r.u * r.m ≤ 65535) (by decide) bOk c h.1 h.1
  have h2 := telP_bd h
  omega
theorem rate_bd {c n : Int} (h : telP (rowOf rT c) n) : 0 ≤ n ∧ n ≤ 1048575 := by
  have h1 := row_all (T := rT) (fun r => r.u ≠ 0 → r.u * r.m ≤ 1048575) (by decide) rOk c h.1 h.1
  have h2 := telP_bd h
  omega
theorem dep_bd {c n : Int} (h : telP (rowOf dT c) n) : n = 0 ∨ 8 ≤ n ∧ n ≤ 32 := by
  have h1 := row_all (T := dT) (fun r => r.u ≠ 0 → r.u * r.m = 0 ∨ 8 ≤ r.u * r.l ∧ r.u * r.m ≤ 32) (by decide) dOk c h.1 h.1
  have h2 := telP_bd h
  omega
theorem nine : ∀ k : Nat, k < 16 → ¬ telP (rowOf dT (k : Nat)) 9 := by decide
theorem noDep : telP (rowOf dT 0) 0 := by decide
/-- what is told for a Depth that is none -/
def depP (d : Int) : Int := if d = 0 then 9 else d
/-- the header that is made of what a header tells -/
structure ShortOk (h x : Hd) : Prop where
  ok : HOk x
  int : HdI x
  blk : x.blk = h.blk
  rate : x.rate = h.rate
  dep : x.dep = h.dep
  num : x.num = h.num
  v : x.v = h.v
  mo : x.mo = h.mo
  sb : (rowOf bT x.bc).s ≤ (rowOf bT h.bc).s
  sr : (rowOf rT x.rc).s ≤ (rowOf rT h.rc).s
theorem short_mkE {h : Hd} (k : HOk h) : mkE h.v h.num h.blk h.mo h.rate (chN h.mo) (depP h.dep) = 0 := by
  have h1 := blk_bd k.blk
  have h2 := rate_bd k.rate
  have h3 := dep_bd k.dep
  have h4 : 4 ≤ depP h.dep ∧ depP h.dep ≤ 32 := by
    unfold depP; split <;> omega
  unfold mkE
  simp only [fstE_zero, un_zero _ 10 (by decide), un_zero _ 22 (by decide), chE_zero, Bool.and_eq_true, decide_eq_true_eq]
  exact ⟨h1, h2, h4, k.mo, trivial, k.num, rfl⟩
theorem short_ok {h : Hd} (k : HOk h) (hi : HdI h) : ShortOk h (mkH h.v h.num h.blk h.mo h.rate (depP h.dep)) := by
  obtain ⟨a1, a2, a3, a4⟩ := shF_some k.blk
  obtain ⟨b1, b2, b3, b4⟩ := shF_some k.rate
  have hd : (shF dT (depP h.dep) 16).2.1 = h.dep ∧ (shF dT (depP h.dep) 16).1 < 16 ∧ telP (rowOf dT ((shF dT (depP h.dep) 16).1 : Nat)) h.dep := by
    unfold depP
    by_cases e : h.dep = 0
    · rw [if_pos e, shF_none nine, e]
      exact ⟨rfl, (by decide : 0 < 16), noDep⟩
    · rw [if_neg e]
      obtain ⟨d1, d2, d3, _⟩ := shF_some k.dep
      exact ⟨d1, d2, d3⟩
  obtain ⟨d1, d2, d3⟩ := hd
  refine ⟨⟨k.mo, a3.1, b3.1, d3.1, k.num, ?_, ?_, ?_⟩, ⟨?_, ?_, hi.mo, ?_, hi.num, ?_, ?_, ?_⟩, a1, b1, d1, rfl, rfl, rfl, a4, b4⟩
  · show telP _ (shF bT h.blk 16).2.1
    rw [a1]; exact a3
  · show telP _ (shF rT h.rate 16).2.1
    rw [b1]; exact b3
  · show telP _ (shF dT (depP h.dep) 16).2.1
    rw [d1]; exact d3
  · show I64 ((shF bT h.blk 16).1 : Nat); constructor <;> omega
  · show I64 ((shF rT h.rate 16).1 : Nat); constructor <;> omega
  · show I64 ((shF dT (depP h.dep) 16).1 : Nat); constructor <;> omega
  · show I64 (shF bT h.blk 16).2.1; rw [a1]; exact hi.blk
  · show I64 (shF rT h.rate 16).2.1; rw [b1]; exact hi.rate
  · show I64 (shF dT (depP h.dep) 16).2.1; rw [d1]; exact hi.dep
theorem tdB_len {r : Rw} (hs : r.s = 0 ∨ r.s = 8 ∨ r.s = 16) (n : Int) : (tdB r n).length * 8 = r.s := by
  unfold tdB
  rcases hs with h | h | h
  · rw [h]; rfl
  · rw [h]; rfl
  · rw [h]; rfl
theorem wrB_len {h : Hd} (k : HOk h) : (wrB h).length = 5 + U.szOf h.num.toNat + (tdB (rowOf bT h.bc) h.blk).length + (tdB (rowOf rT h.rc) h.rate).length := by
  unfold wrB
  rw [if_pos ((ck_ok h).2 k)]
  unfold hbB
  simp only [List.length_append, U.cd_len, List.length_cons, List.length_nil, hd4]
  omega
theorem short_len {h x : Hd} (k : HOk h) (s : ShortOk h x) : (wrB x).length ≤ (wrB h).length ∧ 6 ≤ (wrB x).length ∧ (wrB h).length ≤ 16 := by
  have h1 := tdB_len (row_sizes sizes_b bOk h.bc) h.blk
  have h2 := tdB_len (row_sizes sizes_r rOk h.rc) h.rate
  have h3 := tdB_len (row_sizes sizes_b bOk x.bc) x.blk
  have h4 := tdB_len (row_sizes sizes_r rOk x.rc) x.rate
  have h5 := s.sb
  have h6 := s.sr
  have h7 := U.szOf_bd h.num.toNat
  have h8 := (rowOf_bd bOk h.bc).2.2.2
  have h9 := (rowOf_bd rOk h.rc).2.2.2
  rw [wrB_len k, wrB_len s.ok, s.num]
  omega
end Go.Proofs.YteahiigfclabfaaDoor.H
