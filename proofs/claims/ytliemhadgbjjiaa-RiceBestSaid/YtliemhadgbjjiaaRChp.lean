/-
  What cheapest finds is the least: plain mathematics.
-/
import Derived.Test.YtliemhadgbjjiaaRCheap
import Derived.Test.YtliemhadgbjjiaaRSizeA
namespace Go.Proofs.Ytliemhadgbjjiaa
open Go.RowKit

section
variable {m : Nat} {ns : List Nat}
theorem stepC_keep (st : Option (Int × Int)) (c : Int × Int) : stepC m ns st c = st ∨ (stepC m ns st c = some c ∧ mayP c.1 c.2 ns = true) := by
  unfold stepC
  split
  · rename_i h; exact .inr ⟨rfl, h.1⟩
  · exact .inl rfl
/-- what a fold of steps leaves -/
theorem fold_le : ∀ (l : List (Int × Int)) (st : Option (Int × Int)),
    (∀ d, l.foldl (stepC m ns) st = some d → (st = some d ∨ d ∈ l ∧ mayP d.1 d.2 ns = true)) ∧
    (∀ d, st = some d → ∃ e, l.foldl (stepC m ns) st = some e ∧ szP m e.1 e.2 ns ≤ szP m d.1 d.2 ns) ∧
    (∀ d ∈ l, mayP d.1 d.2 ns = true → ∃ e, l.foldl (stepC m ns) st = some e ∧ szP m e.1 e.2 ns ≤ szP m d.1 d.2 ns)
  | [], st => ⟨fun d h => .inl h, fun d h => ⟨d, h, Nat.le_refl _⟩, fun d h => by cases h⟩
  | c :: l, st => by
    obtain ⟨h1, h2, h3⟩ := fold_le l (stepC m ns st c)
    rw [List.foldl_cons]
    refine ⟨fun d hd => ?_, fun d hd => ?_, fun d hd hm => ?_⟩
    · rcases h1 d hd with h | ⟨h, h'⟩
      · rcases stepC_keep (m := m) (ns := ns) st c with e | ⟨e, e'⟩
        · exact .inl (by rw [← e]; exact h)
        · rw [e] at h
          cases h
          exact .inr ⟨List.mem_cons_self .., e'⟩
      · exact .inr ⟨List.mem_cons_of_mem _ h, h'⟩
    · by_cases hs : stepC m ns st c = st
      · exact h2 d (by rw [hs]; exact hd)
      · have h4 : mayP c.1 c.2 ns = true ∧ (∀ d, st = some d → szP m c.1 c.2 ns < szP m d.1 d.2 ns) := by
          unfold stepC at hs
          split at hs
          · assumption
          · exact absurd rfl hs
        obtain ⟨e, e1, e2⟩ := h2 c (by unfold stepC; rw [if_pos h4])
        have := h4.2 d hd
        exact ⟨e, e1, by omega⟩
    · rcases List.mem_cons.1 hd with rfl | hd
      · by_cases h4 : ∀ d', st = some d' → szP m d.1 d.2 ns < szP m d'.1 d'.2 ns
        · exact h2 d (by unfold stepC; rw [if_pos ⟨hm, h4⟩])
        · have h5 : ∃ d', st = some d' ∧ szP m d'.1 d'.2 ns ≤ szP m d.1 d.2 ns := by
            cases st with
            | none => exact absurd (fun d' e => by cases e) h4
            | some d' =>
              refine ⟨d', rfl, ?_⟩
              by_cases h6 : szP m d.1 d.2 ns < szP m d'.1 d'.2 ns
              · exact absurd (fun d'' e => by cases e; exact h6) h4
              · omega
          obtain ⟨d', e1, e2⟩ := h5
          obtain ⟨e, g1, g2⟩ := h2 d' (by unfold stepC; rw [if_neg (fun h => h4 h.2)]; exact e1)
          exact ⟨e, g1, by omega⟩
      · exact h3 d hd hm
end
theorem hiS_zero (p : Nat) (ns : List Nat) (h : ∀ n ∈ ns, n < 2 ^ p) : hiS p ns = 0 := by
  induction ns with
  | nil => simp [hiS]
  | cons n ns ih =>
    have h1 := ih (fun x hx => h x (List.mem_cons_of_mem _ hx))
    have h2 := Nat.div_eq_of_lt (h n (List.mem_cons_self ..))
    unfold hiS at h1 ⊢
    rw [List.map_cons, List.sum_cons, h1, h2]
/-- a part that may be written by some parameter is written by the best one, in no more bits -/
theorem chp_le {m : Nat} (_ : m ≤ 1) {ns : List Nat} (h1 : 1 ≤ ns.length) (hlt : ∀ n ∈ ns, n < 4294967296) {p wd : Int} (hp : isP m p wd) (hy : mayP p wd ns = true) :
    ∃ c, chp m ns = some c ∧ isP m c.1 c.2 ∧ mayP c.1 c.2 ns = true ∧ szP m c.1 c.2 ns ≤ szP m p wd ns := by
  have hmx := mxN_mem (ns := ns) (by omega)
  have hml := hlt _ hmx
  have hup := bl_upper (mxN ns) (by omega)
  have hW32 := bl_lower (mxN ns) 32 (by omega)
  have hlow := bl_lower (mxN ns)
  have hall : ∀ q, Lib.bitLen (mxN ns) ≤ q → ∀ n ∈ ns, n < 2 ^ q := fun q hq n hn => Nat.lt_of_le_of_lt (mxN_le n hn) (Nat.lt_of_lt_of_le hup (Nat.pow_le_pow_right (by decide) hq))
  obtain ⟨f1, _, f3⟩ := fold_le (m := m) (ns := ns) (cand m (Lib.bitLen (mxN ns))) none
  have hc : ∀ c, chp m ns = some c → isP m c.1 c.2 ∧ mayP c.1 c.2 ns = true := fun c e => by
    rcases f1 c e with h | ⟨h, h'⟩
    · cases h
    · refine ⟨?_, h'⟩
      unfold cand at h
      rcases List.mem_append.1 h with h | h
      · obtain ⟨q, hq, rfl⟩ := List.mem_map.1 h
        have := List.mem_range.1 hq
        exact .inr ⟨by simp, by show (q : Int) ≤ 14 + 16 * (m : Int); omega, rfl⟩
      · split at h
        · rw [List.mem_singleton] at h
          subst h
          exact .inl ⟨rfl, by simp, by show ((Lib.bitLen (mxN ns) : Nat) : Int) ≤ 31; omega⟩
        · cases h
  have hin : ∃ d ∈ cand m (Lib.bitLen (mxN ns)), mayP d.1 d.2 ns = true ∧ szP m d.1 d.2 ns ≤ szP m p wd ns := by
    generalize Lib.bitLen (mxN ns) = W at *
    rcases hp with ⟨rfl, w1, w2⟩ | ⟨p1, p2, rfl⟩
    · obtain ⟨wd, rfl⟩ := Int.eq_ofNat_of_zero_le w1
      have hlt2 : mxN ns < 2 ^ wd := by
        unfold mayP at hy
        simpa using hy
      have hWw := hlow wd hlt2
      refine ⟨(-1, (W : Int)), ?_, ?_, ?_⟩
      · unfold cand
        rw [if_pos (by omega)]
        exact List.mem_append_right _ (List.mem_singleton.2 rfl)
      · unfold mayP
        simpa using hup
      · unfold szP
        simp only [if_true, Int.toNat_natCast]
        unfold szR
        have := Nat.mul_le_mul_right ns.length hWw
        omega
    · obtain ⟨p, rfl⟩ := Int.eq_ofNat_of_zero_le p1
      have hpm : p ≤ 14 + 16 * m := by omega
      by_cases hpW : p ≤ W
      · refine ⟨((p : Int), 0), ?_, hy, Nat.le_refl _⟩
        unfold cand
        exact List.mem_append_left _ (List.mem_map.2 ⟨p, List.mem_range.2 (by omega), rfl⟩)
      · refine ⟨((W : Int), 0), ?_, ?_, ?_⟩
        · unfold cand
          exact List.mem_append_left _ (List.mem_map.2 ⟨W, List.mem_range.2 (by omega), rfl⟩)
        · unfold mayP
          rw [if_neg (by show ¬ ((W : Int) = -1); omega)]
          simp only [Int.toNat_natCast, decide_eq_true_eq]
          rw [Nat.div_eq_of_lt hup]
          omega
        · unfold szP
          rw [if_neg (by show ¬ ((W : Int) = -1); omega), if_neg (by omega)]
          simp only [Int.toNat_natCast]
          unfold szK
          rw [hiS_zero W ns (hall W (Nat.le_refl _)), hiS_zero p ns (hall p (by omega))]
          have := Nat.mul_le_mul_right ns.length (show 1 + W ≤ 1 + p by omega)
          omega
  obtain ⟨d, d1, d2, d3⟩ := hin
  obtain ⟨e, e1, e2⟩ := f3 d d1 d2
  obtain ⟨c1, c2⟩ := hc e e1
  exact ⟨e, e1, c1, c2, by omega⟩
end Go.Proofs.Ytliemhadgbjjiaa
