/-
  ReadPicture by places: what the document's text reads is what the reader reads.
-/
import Derived.Test.YtphpciglpnbblaaDoorTPq
import Derived.Test.YtphpciglpnbblaaDoorTPR
namespace Go.Proofs.YtphpciglpnbblaaDoor
open Go.RowKit Go.Shelf

theorem high_neg (r : List Nat) (h : r.length < 4) : highE r = -1 := by unfold highE; rw [if_pos h]
theorem high_pos (r : List Nat) (h : ¬ r.length < 4) : highE r = (vl (tkB 4 r) : Nat) := by unfold highE tkB; rw [if_neg h, if_neg h]
theorem high_lt (r : List Nat) (hb : ∀ x ∈ r, x < 256) : -1 ≤ highE r ∧ highE r < 4294967296 := by
  unfold highE
  split
  · omega
  · have := vl_lt (r.take 4) (fun x hx => hb x (List.mem_of_mem_take hx))
    rw [List.length_take, show min 4 r.length = 4 by omega, show (2 : Nat) ^ (8 * 4) = 4294967296 by decide] at this
    omega
theorem high_nat (r : List Nat) (m : Nat) (h : highE r = m) : ¬ r.length < 4 ∧ vl (tkB 4 r) = m := by
  by_cases h4 : r.length < 4
  · rw [high_neg r h4] at h; omega
  · rw [high_pos r h4] at h
    exact ⟨h4, by omega⟩
theorem pin (num : List Nat → Nat) (r : List Nat) (s : Nat) (h4 : ¬ r.length < 4) (hs : num (tkB 4 r) = s) (hl : 4 + s ≤ r.length) : txS num r = false ∧ txB num r = (r.drop 4).take s ∧ txR num r = r.drop (4 + s) := by
  have hR : tkR 4 r = r.drop 4 := by unfold tkR; rw [if_neg h4]
  have hd : (r.drop 4).length = r.length - 4 := List.length_drop
  unfold txS txB txR
  rw [hs, hR]
  refine ⟨?_, ?_, ?_⟩
  · rw [decide_eq_false h4, decide_eq_false (by omega)]; rfl
  · unfold tkB; rw [if_neg (by omega)]
  · unfold tkR; rw [if_neg (by omega), List.drop_drop]
theorem pout (num : List Nat → Nat) (r : List Nat) (s : Nat) (h4 : ¬ r.length < 4) (hs : num (tkB 4 r) = s) (hl : ¬ 4 + s ≤ r.length) : txS num r = true := by
  have hR : tkR 4 r = r.drop 4 := by unfold tkR; rw [if_neg h4]
  have hd : (r.drop 4).length = r.length - 4 := List.length_drop
  unfold txS
  rw [hs, hR, decide_eq_true (p := (r.drop 4).length < s) (by omega), Bool.or_true]
theorem pout0 (num : List Nat → Nat) (r : List Nat) (h4 : r.length < 4) : txS num r = true := by
  unfold txS
  rw [decide_eq_true h4, Bool.true_or]
/-- a text that runs out, by its place -/
theorem tx_bad (bs : List Nat) (k : Nat) (h : highE (bs.drop k) < 0 ∨ (bs.length : Int) < (k : Int) + 4 + highE (bs.drop k)) (hk : k ≤ bs.length) : txS vl (bs.drop k) = true := by
  by_cases h4 : (bs.drop k).length < 4
  · exact pout0 vl _ h4
  · have hp := high_pos _ h4
    refine pout vl _ _ h4 rfl ?_
    have hd : (bs.drop k).length = bs.length - k := List.length_drop
    omega
theorem tx_good (bs : List Nat) (k m : Nat) (h : highE (bs.drop k) = m) (hl : k + 4 + m ≤ bs.length) : txS vl (bs.drop k) = false ∧ txB vl (bs.drop k) = (bs.drop (k + 4)).take m ∧ txR vl (bs.drop k) = bs.drop (k + 4 + m) := by
  obtain ⟨h4, hv⟩ := high_nat _ m h
  have hd : (bs.drop k).length = bs.length - k := List.length_drop
  obtain ⟨a, b, c⟩ := pin vl _ m h4 hv (by omega)
  refine ⟨a, ?_, ?_⟩
  · rw [b, List.drop_drop]
  · rw [c, List.drop_drop, Nat.add_assoc]
theorem zA (bs : List Nat) (h : bs.length < 4 ∨ txS vl (q1 bs) = true ∨ txS vl (q2 bs) = true ∨ (q3 bs).length < 4 ∨ (q4 bs).length < 4 ∨ (q5 bs).length < 4 ∨ (q6 bs).length < 4 ∨ txS vl (q7 bs) = true) : rpE bs = 11 := by
  unfold rpE
  rw [if_pos]
  unfold z8 z7 z6 z5 z4 z3 z2 z1
  rcases h with h | h | h | h | h | h | h | h <;> simp [h]
theorem zB (bs : List Nat) (h0 : ¬ bs.length < 4) (h1 : txS vl (q1 bs) = false) (h2 : txS vl (q2 bs) = false) (h3 : ¬ (q3 bs).length < 4) (h4 : ¬ (q4 bs).length < 4) (h5 : ¬ (q5 bs).length < 4) (h6 : ¬ (q6 bs).length < 4) (h7 : txS vl (q7 bs) = false) : rpE bs = if 0 < (q8 bs).length then 12 else pcE (rpP bs) := by
  unfold rpE
  rw [if_neg]
  unfold z8 z7 z6 z5 z4 z3 z2 z1
  simp [h0, h1, h2, h3, h4, h5, h6, h7]
theorem q1_at (bs : List Nat) (h : ¬ bs.length < 4) : q1 bs = bs.drop 4 := by unfold q1 tkR; rw [if_neg h]
theorem rp1 (bs : List Nat) (h : highE (bs.drop 4) < 0 ∨ (bs.length : Int) < 8 + highE (bs.drop 4)) : rpE bs = 11 := by
  by_cases h4 : bs.length < 4
  · exact zA bs (.inl h4)
  · refine zA bs (.inr (.inl ?_))
    rw [q1_at bs h4]
    exact tx_bad bs 4 (by omega) (by omega)
theorem q2_at (bs : List Nat) (m : Nat) (hm : highE (bs.drop 4) = m) (hl : 8 + m ≤ bs.length) : ¬ bs.length < 4 ∧ txS vl (q1 bs) = false ∧ txB vl (q1 bs) = (bs.drop 8).take m ∧ q2 bs = bs.drop (8 + m) := by
  have h4 : ¬ bs.length < 4 := by omega
  obtain ⟨a, b, c⟩ := tx_good bs 4 m hm (by omega)
  refine ⟨h4, by rw [q1_at bs h4]; exact a, by rw [q1_at bs h4]; exact b, ?_⟩
  unfold q2
  rw [q1_at bs h4, c]
theorem rp2 (bs : List Nat) (m : Nat) (hm : highE (bs.drop 4) = m) (hl : 8 + m ≤ bs.length) (h : highE (bs.drop (8 + m)) < 0 ∨ (bs.length : Int) < ((8 + m : Nat) : Int) + 4 + highE (bs.drop (8 + m))) : rpE bs = 11 := by
  obtain ⟨_, _, _, h2⟩ := q2_at bs m hm hl
  refine zA bs (.inr (.inr (.inl ?_)))
  rw [h2]
  exact tx_bad bs _ h hl
theorem q3_at (bs : List Nat) (at_ l : Nat) (h2 : q2 bs = bs.drop at_) (hl : highE (bs.drop at_) = l) (hle : at_ + 4 + l ≤ bs.length) : txS vl (q2 bs) = false ∧ txB vl (q2 bs) = (bs.drop (at_ + 4)).take l ∧ q3 bs = bs.drop (at_ + 4 + l) := by
  obtain ⟨a, b, c⟩ := tx_good bs at_ l hl hle
  refine ⟨by rw [h2]; exact a, by rw [h2]; exact b, ?_⟩
  unfold q3
  rw [h2, c]
theorem qn_at (bs : List Nat) (t : Nat) (h3 : q3 bs = bs.drop t) : ((q3 bs).length < 4 ∨ (q4 bs).length < 4 ∨ (q5 bs).length < 4 ∨ (q6 bs).length < 4) ∨ (¬ (q3 bs).length < 4 ∧ ¬ (q4 bs).length < 4 ∧ ¬ (q5 bs).length < 4 ∧ ¬ (q6 bs).length < 4 ∧ q4 bs = bs.drop (t + 4) ∧ q5 bs = bs.drop (t + 8) ∧ q6 bs = bs.drop (t + 12) ∧ q7 bs = bs.drop (t + 16)) := by
  by_cases a3 : (q3 bs).length < 4
  · exact .inl (.inl a3)
  · have e4 : q4 bs = bs.drop (t + 4) := by unfold q4 tkR; rw [if_neg a3, h3, List.drop_drop]
    by_cases a4 : (q4 bs).length < 4
    · exact .inl (.inr (.inl a4))
    · have e5 : q5 bs = bs.drop (t + 8) := by unfold q5 tkR; rw [if_neg a4, e4, List.drop_drop]
      by_cases a5 : (q5 bs).length < 4
      · exact .inl (.inr (.inr (.inl a5)))
      · have e6 : q6 bs = bs.drop (t + 12) := by unfold q6 tkR; rw [if_neg a5, e5, List.drop_drop]
        by_cases a6 : (q6 bs).length < 4
        · exact .inl (.inr (.inr (.inr a6)))
        · have e7 : q7 bs = bs.drop (t + 16) := by unfold q7 tkR; rw [if_neg a6, e6, List.drop_drop]
          exact .inr ⟨a3, a4, a5, a6, e4, e5, e6, e7⟩
theorem rp3 (bs : List Nat) (t : Nat) (h3 : q3 bs = bs.drop t) (h : highE (bs.drop (t + 16)) < 0 ∨ (bs.length : Int) < (t : Int) + 16 + 4 + highE (bs.drop (t + 16))) : rpE bs = 11 := by
  rcases qn_at bs t h3 with h5 | ⟨a3, a4, a5, a6, e4, e5, e6, e7⟩
  · refine zA bs (.inr (.inr (.inr ?_)))
    rcases h5 with h5 | h5 | h5 | h5
    · exact .inl h5
    · exact .inr (.inl h5)
    · exact .inr (.inr (.inl h5))
    · exact .inr (.inr (.inr (.inl h5)))
  · refine zA bs (.inr (.inr (.inr (.inr (.inr (.inr (.inr ?_)))))))
    rw [e7]
    have hd : (bs.drop (t + 12)).length = bs.length - (t + 12) := List.length_drop
    rw [e6] at a6
    by_cases h4 : (bs.drop (t + 16)).length < 4
    · exact pout0 vl _ h4
    · exact tx_bad bs (t + 16) (by omega) (by omega)
theorem rp_form (bs : List Nat) (m l dl : Nat) (hm : highE (bs.drop 4) = m) (h8 : 8 + m ≤ bs.length) (hl : highE (bs.drop (8 + m)) = l) (hle : 8 + m + 4 + l ≤ bs.length) (hd : highE (bs.drop (8 + m + 4 + l + 16)) = dl) (hde : 8 + m + 4 + l + 16 + 4 + dl ≤ bs.length) :
    rpE bs = (if 8 + m + 4 + l + 16 + 4 + dl < bs.length then 12 else pcE (rpP bs)) ∧ rpP bs = ⟨highE bs, strN ((bs.drop 8).take m), strN ((bs.drop (8 + m + 4)).take l), highE (bs.drop (8 + m + 4 + l)), highE (bs.drop (8 + m + 4 + l + 4)), highE (bs.drop (8 + m + 4 + l + 8)), highE (bs.drop (8 + m + 4 + l + 12))⟩ ∧ rpD bs = (bs.drop (8 + m + 4 + l + 16 + 4)).take dl := by
  obtain ⟨b0, b1, b2, b3⟩ := q2_at bs m hm h8
  obtain ⟨c1, c2, c3⟩ := q3_at bs (8 + m) l b3 hl hle
  generalize 8 + m + 4 + l = t at *
  rcases qn_at bs t c3 with h5 | ⟨a3, a4, a5, a6, e4, e5, e6, e7⟩
  · exfalso
    have z3 : (q3 bs).length = bs.length - t := by rw [c3, List.length_drop]
    have f3 : ¬ (q3 bs).length < 4 := by omega
    have e4 : q4 bs = bs.drop (t + 4) := by unfold q4 tkR; rw [if_neg f3, c3, List.drop_drop]
    have z4 : (q4 bs).length = bs.length - (t + 4) := by rw [e4, List.length_drop]
    have f4 : ¬ (q4 bs).length < 4 := by omega
    have e5 : q5 bs = bs.drop (t + 8) := by unfold q5 tkR; rw [if_neg f4, e4, List.drop_drop]
    have z5 : (q5 bs).length = bs.length - (t + 8) := by rw [e5, List.length_drop]
    have f5 : ¬ (q5 bs).length < 4 := by omega
    have e6 : q6 bs = bs.drop (t + 12) := by unfold q6 tkR; rw [if_neg f5, e5, List.drop_drop]
    have z6 : (q6 bs).length = bs.length - (t + 12) := by rw [e6, List.length_drop]
    omega
  · obtain ⟨d1, d2, d3⟩ := tx_good bs (t + 16) dl hd hde
    refine ⟨?_, ?_, ?_⟩
    · rw [zB bs b0 b1 c1 a3 a4 a5 a6 (by rw [e7]; exact d1)]
      have : (q8 bs).length = bs.length - (t + 16 + 4 + dl) := by unfold q8; rw [e7, d3, List.length_drop]
      rw [this]
      by_cases hlt : t + 16 + 4 + dl < bs.length
      · rw [if_pos hlt, if_pos (by omega)]
      · rw [if_neg hlt, if_neg (by omega)]
    · unfold rpP
      rw [b2, c2, ← high_pos bs b0, ← high_pos _ a3, ← high_pos _ a4, ← high_pos _ a5, ← high_pos _ a6, c3, e4, e5, e6]
    · unfold rpD
      rw [e7, d2]
end Go.Proofs.YtphpciglpnbblaaDoor
