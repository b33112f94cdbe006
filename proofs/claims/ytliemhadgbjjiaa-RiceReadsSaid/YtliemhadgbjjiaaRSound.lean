/-
  What Read answers, and as what it is written.
-/
import Derived.Test.YtliemhadgbjjiaaRForth
namespace Go.Proofs.Ytliemhadgbjjiaa
open Go.RowKit

/-- what Read leaves -/
def ReadOk (w : World) (r : Nat) (v : Value) (bs : List Nat) (a b s : Nat) (e : Ending) (w' : World) : Prop :=
  (∃ E : Int, e = .returned (.tuple #[.slice none 0 0, plan0, iv E]) ∧ (E = 10 ∨ E = 11 ∨ E = 12 ∨ E = 13) ∧ Rd w' r v bs a ∧ Only (Just r) w w') ∨
  (∃ (m o : Int) (gp gb g Q : Nat) (ps ws l : List Int), e = .returned (.tuple #[.slice (some ⟨g, 0, none⟩) (b - s) (b - s), planV m o (.slice (some ⟨gp, 0, none⟩) Q Q) (.slice (some ⟨gb, 0, none⟩) Q Q), iv 0]) ∧ s ≤ b ∧ Q ≤ b ∧
    ISrc w' (.slice (some ⟨gp, 0, none⟩) Q Q) ps ∧ ISrc w' (.slice (some ⟨gb, 0, none⟩) Q Q) ws ∧ ISrc w' (.slice (some ⟨g, 0, none⟩) (b - s) (b - s)) l ∧
    sizeE m o ps ws s l = 0 ∧ Sees bs a (outL m o ps ws s l) ∧ Rd w' r v bs (a + (outL m o ps ws s l).length) ∧ Only (Just r) w w')
theorem read_sound {w : World} {r : Nat} {v : Value} {bs : List Nat} {a : Nat} (hR : Rd w r v bs a) (b s : Nat) (h : ckB b s = 0) :
    Calls Try.prog 23 #[.pointer (some ⟨r, 0, none⟩), iv b, iv s] w fun e w' => ReadOk w r v bs a b s e w' := by
  refine (read_any hR b s h).mono ?_
  rintro e w' (⟨E, rfl, hE, hR', ho, _⟩ | ⟨m, o, gp, gb, g, rs, a', rfl, hp, bp, bb, bg, hR', ho⟩)
  · exact .inl ⟨E, rfl, hE, hR', ho⟩
  · obtain ⟨l, hl, hF, hn, hpt, hS, ha, hr⟩ := block_forth h hp
    obtain ⟨b1, b2, _, b4⟩ := ckB_zero h
    have hpp : 0 < 2 ^ o := Nat.two_pow_pos o
    have hlt := hF.lt
    have heq := hF.eq
    have hbs : s ≤ b := by
      have := Nat.div_le_self b (2 ^ o)
      omega
    have hPb : 2 ^ o ≤ b := by
      have h1 : 2 ^ o * 1 ≤ 2 ^ o * (b / 2 ^ o) := Nat.mul_le_mul_left _ (by omega)
      rw [heq, hn] at h1
      omega
    have hz := hF.sizeE
    have hout : outL (m : Int) (o : Int) (rs.map (·.1)) (rs.map (·.2.1)) (s : Int) l = blockB (b / 2 ^ o) s (2 ^ o) m o (rs.map (·.1)) (rs.map (·.2.1)) l := by
      unfold outL
      rw [if_pos hz]
      have : l.length + s = b := by omega
      simp [this]
    have fitP : ∀ k, (k1 : k < (rs.map (·.1)).length) → (k2 : k < (rs.map (·.2.1)).length) → isP m (rs.map (·.1))[k] (rs.map (·.2.1))[k] := hF.all
    have m1 := hF.m1
    refine .inr ⟨m, o, gp, gb, g, 2 ^ o, rs.map (·.1), rs.map (·.2.1), l, rfl, hbs, hPb, ?_, ?_, ?_, hz, by rw [hout]; exact hS, by rw [hout, ← ha]; exact hR', ho⟩
    · rw [setAll_all _ _ _ (by simp [hr]) (by simp)] at bp
      refine ISrc.of_box (t := 3) bp (by simp [hr]) (Nat.le_refl _) (by rw [hF.np]; omega) (fun x hx => ?_)
      obtain ⟨k, k1, rfl⟩ := List.getElem_of_mem hx
      have := fitP k k1 (by simpa using k1)
      unfold isP at this
      omega
    · rw [setAll_all _ _ _ (by simp [hr]) (by simp)] at bb
      refine ISrc.of_box (t := 3) bb (by simp [hr]) (Nat.le_refl _) (by rw [hF.nb]; omega) (fun x hx => ?_)
      obtain ⟨k, k1, rfl⟩ := List.getElem_of_mem hx
      have := fitP k (by simpa using k1) k1
      unfold isP at this
      omega
    · rw [← hpt, layAll_all (b / 2 ^ o) s (2 ^ o) (b - s) hlt l _ (by omega) hn (by simp)] at bg
      refine ISrc.of_box (t := 3) bg hn (Nat.le_refl _) (by omega) (fun x hx => ?_)
      have := hF.res x hx
      unfold isR at this
      omega
/-- a row of bits as numbers -/
theorem isrc_bits {w : World} {base : Nat} {v : Value} {L : List Nat} (h : Bitrow w base v L) (hb : ∀ b ∈ L, b ≤ 1) (hl : L.length ≤ 100000000) : ISrc w v (L.map fun (b : Nat) => (b : Int)) := by
  refine ⟨?_, by rw [List.length_map]; omega, fun x hx => ?_⟩
  · rcases h.2 with ⟨rfl, hn⟩ | ⟨g, cap, cur, rfl, hg⟩
    · exact ⟨none, 0, by rw [List.length_map, hn], by rw [List.length_map]; omega, fun j hj => by rw [List.length_map] at hj; omega⟩
    · refine ⟨some ⟨g, 0, none⟩, cap, by rw [List.length_map], by rw [List.length_map]; exact hg.2.2.1, fun j hj => ⟨_, rfl, ?_⟩⟩
      rw [List.length_map] at hj
      refine World.ownsRow.cells h (g := g) rfl j _ ?_
      unfold bv
      rw [List.getElem?_map, List.getElem?_eq_getElem hj, List.getElem_map]
      rfl
  · obtain ⟨b, hb1, rfl⟩ := List.mem_map.1 hx
    have := hb b hb1
    omega
/-- the bits that stand at a place, as numbers -/
theorem isrc_piece {w : World} {base g c a : Nat} {bs : List Nat} {L : List Nat} (h : w.ownsRow base 3 1 (.slice (some ⟨g, 0, none⟩) (8 * bs.length) c) (8 * bs.length) (bv (bitsOf bs))) (hl : bs.length ≤ 300) (hS : Sees bs a L) (c' : Nat) (hc : L.length ≤ c') :
    ISrc w (.slice (some ((⟨g, 0, none⟩ : Addr).add a)) L.length c') (L.map fun (b : Nat) => (b : Int)) := by
  have hbl := bitsOf_len bs
  have h1 : Bitrow w base (.slice (some ⟨g, 0, none⟩) (8 * bs.length) c) (bitsOf bs) := by unfold Bitrow; rw [hbl]; exact h
  have h2 := (isrc_bits h1 (bitsOf_le bs) (by omega)).sub a L.length (by rw [List.length_map, hbl]; exact hS.1) c' hc
  rw [← List.map_drop, ← List.map_take, hS.2] at h2
  exact h2
theorem Sees.le1 {bs : List Nat} {a : Nat} {L : List Nat} (h : Sees bs a L) : ∀ b ∈ L, b ≤ 1 := fun b hb => by
  rw [← h.2] at hb
  exact bitsOf_le bs b (List.mem_of_mem_drop (List.mem_of_mem_take hb))
end Go.Proofs.Ytliemhadgbjjiaa
