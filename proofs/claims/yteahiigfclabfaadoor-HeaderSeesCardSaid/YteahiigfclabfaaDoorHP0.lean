/-
  Plain mathematics: a bit that is turned, and damage of bits in a row.
-/
import Derived.Test.YteahiigfclabfaaDoorHK2
namespace Go.Proofs.YteahiigfclabfaaDoor.U

/-- bit k of bytes turned -/
def tog (cs : List Nat) (k : Nat) : List Nat := cs.set (k / 8) (cs.getD (k / 8) 0 ^^^ (128 / 2 ^ (k % 8)))
theorem tog_len (cs : List Nat) (k : Nat) : (tog cs k).length = cs.length := by simp [tog]
theorem pow7 : ∀ j, j < 8 → 128 / 2 ^ j = 2 ^ (7 - j) := by decide
theorem tog_lt (cs : List Nat) (k : Nat) (h : ∀ x ∈ cs, x < 256) : ∀ x ∈ tog cs k, x < 256 := by
  intro x hx
  unfold tog at hx
  rcases List.mem_or_eq_of_mem_set hx with h1 | h1
  · exact h x h1
  · subst h1
    refine Nat.xor_lt_two_pow (n := 8) ?_ ?_
    · by_cases hl : k / 8 < cs.length
      · rw [List.getD_eq_getElem?_getD, List.getElem?_eq_getElem hl]; exact h _ (List.getElem_mem hl)
      · rw [List.getD_eq_getElem?_getD, List.getElem?_eq_none (by omega)]; decide
    · have := Nat.div_le_self 128 (2 ^ (k % 8)); omega
theorem sm_tog {n : Nat} (r : Nat) (h8 : 8 ≤ n) (cs : List Nat) (k : Nat) (hk : k < 8 * cs.length) : sm n r (tog cs k) = sm n r cs ^^^ nous n r (n + (8 * cs.length - 1 - k)) 1 := by
  have hl : k / 8 < cs.length := by omega
  have e1 : cs = cs.take (k / 8) ++ cs[k / 8] :: cs.drop (k / 8 + 1) := by
    rw [List.getElem_cons_drop, List.take_append_drop]
  have e2 : tog cs k = cs.take (k / 8) ++ (cs[k / 8] ^^^ (128 / 2 ^ (k % 8))) :: cs.drop (k / 8 + 1) := by
    unfold tog
    rw [List.set_eq_take_append_cons_drop, if_pos hl, List.getD_eq_getElem?_getD, List.getElem?_eq_getElem hl]
    rfl
  have hx : nous n r (8 * (cs.drop (k / 8 + 1)).length + n) (128 / 2 ^ (k % 8)) = nous n r (n + (8 * cs.length - 1 - k)) 1 := by
    have hj : k % 8 < 8 := Nat.mod_lt _ (by decide)
    have h1 : 1 < 2 ^ (n - (7 - k % 8)) := by
      have : 2 ^ 1 ≤ 2 ^ (n - (7 - k % 8)) := Nat.pow_le_pow_right (by decide) (by omega)
      omega
    rw [pow7 _ hj, ← Nat.one_mul (2 ^ (7 - k % 8)), ← nous_small r (7 - k % 8) (by omega) h1, ← nous_add]
    congr 1
    rw [List.length_drop]
    omega
  have e3 : sm n r cs = sm n r (cs.take (k / 8) ++ cs[k / 8] :: cs.drop (k / 8 + 1)) := by rw [← e1]
  rw [e2, e3, sm_append, sm_append, sm_cons, sm_cons, nous_xor, hx]
  simp only [List.length_cons]
  generalize nous n r (8 * ((cs.drop (k / 8 + 1)).length + 1)) (sm n r (cs.take (k / 8))) = A
  generalize nous n r (8 * (cs.drop (k / 8 + 1)).length + n) cs[k / 8] = B
  generalize nous n r (n + (8 * cs.length - 1 - k)) 1 = E
  generalize sm n r (cs.drop (k / 8 + 1)) = D
  rw [Nat.xor_assoc B E D, Nat.xor_comm E D, ← Nat.xor_assoc B D E, ← Nat.xor_assoc A]

/-- what i bits of damage, from bit k0 on, have made -/
def Seen (n r : Nat) (bs cs : List Nat) (k0 i : Nat) (turned : Bool) : Prop :=
  ∃ d m, sm n r cs = sm n r bs ^^^ nous n r m d ∧ d < 2 ^ n ∧ (turned = true ↔ d ≠ 0) ∧ (k0 + i ≤ 8 * bs.length → i ≤ n → d < 2 ^ i ∧ m = n + 8 * bs.length - k0 - i)

theorem seen_start (n r : Nat) (bs : List Nat) (k0 : Nat) : Seen n r bs bs k0 0 false :=
  ⟨0, n + 8 * bs.length - k0 - 0, by rw [nous_zero, Nat.xor_zero], Nat.two_pow_pos n, by simp, fun _ _ => ⟨by decide, rfl⟩⟩
theorem seen_skip {n r : Nat} {bs cs : List Nat} {k0 i : Nat} {turned : Bool} (h : Seen n r bs cs k0 i turned) : Seen n r bs cs k0 (i + 1) turned := by
  obtain ⟨d, m, h1, h2, h3, h4⟩ := h
  by_cases hk : k0 + (i + 1) ≤ 8 * bs.length ∧ i + 1 ≤ n
  · obtain ⟨h5, rfl⟩ := h4 (by omega) (by omega)
    have hp : 2 ^ (i + 1) ≤ 2 ^ n := Nat.pow_le_pow_right (by decide) hk.2
    have hp1 : 2 ^ i ≤ 2 ^ (n - 1) := Nat.pow_le_pow_right (by decide) (by omega)
    have e : 2 ^ (i + 1) = 2 * 2 ^ i := Nat.pow_succ'
    refine ⟨2 * d, n + 8 * bs.length - k0 - (i + 1), ?_, by omega, ?_, fun _ _ => ⟨by omega, rfl⟩⟩
    · rw [h1, ← nou_small r (by omega) (show d < 2 ^ (n - 1) by omega), show n + 8 * bs.length - k0 - i = (n + 8 * bs.length - k0 - (i + 1)) + 1 from by omega]
      rfl
    · rw [h3]; omega
  · exact ⟨d, m, h1, h2, h3, fun a b => absurd ⟨a, b⟩ hk⟩
theorem seen_set {n r : Nat} {bs cs : List Nat} {k0 i : Nat} {turned : Bool} (h8 : 8 ≤ n) (hl : cs.length = bs.length) (hi : i < n) (hk : k0 + i < 8 * bs.length) (h : Seen n r bs cs k0 i turned) : Seen n r bs (tog cs (k0 + i)) k0 (i + 1) true := by
  obtain ⟨d, m, h1, h2, h3, h4⟩ := h
  obtain ⟨h5, rfl⟩ := h4 (by omega) (by omega)
  have hp : 2 ^ (i + 1) ≤ 2 ^ n := Nat.pow_le_pow_right (by decide) (by omega)
  have hp1 : 2 ^ i ≤ 2 ^ (n - 1) := Nat.pow_le_pow_right (by decide) (by omega)
  have e : 2 ^ (i + 1) = 2 * 2 ^ i := Nat.pow_succ'
  refine ⟨2 * d + 1, n + 8 * bs.length - k0 - (i + 1), ?_, by omega, by simp, fun _ _ => ⟨by omega, rfl⟩⟩
  have hx : 2 * d + 1 = nou n r d ^^^ 1 := by
    rw [nou_small r (by omega) (show d < 2 ^ (n - 1) by omega)]
    have := xor_add_high d 1 1 (by decide)
    rw [Nat.mul_comm 2 d]
    simpa using this.symm
  rw [sm_tog r h8 cs (k0 + i) (by omega), h1, hx, nous_xor, hl, Nat.xor_assoc, show n + 8 * bs.length - k0 - i = (n + 8 * bs.length - k0 - (i + 1)) + 1 from by omega, show n + (8 * bs.length - 1 - (k0 + i)) = n + 8 * bs.length - k0 - (i + 1) from by omega]
  rfl
theorem seen_end {n r : Nat} (hn : 1 ≤ n) (hr : r % 2 = 1) (hr2 : r < 2 ^ n) {bs cs : List Nat} {k0 i : Nat} {turned : Bool} (h : Seen n r bs cs k0 i turned) : turned = true ↔ sm n r cs ≠ sm n r bs := by
  obtain ⟨d, m, h1, h2, h3, _⟩ := h
  rw [h3, h1]
  constructor
  · intro hd he
    have : nous n r m d = 0 := by
      have h9 := congrArg (fun x => sm n r bs ^^^ x) he
      simpa [← Nat.xor_assoc] using h9
    exact hd (nous_inj0 hn hr hr2 m h2 this)
  · rintro hne rfl
    rw [nous_zero, Nat.xor_zero] at hne
    exact hne rfl

/-- the sum of bytes, and their sum behind them, is 0 -/
theorem sm_own (a : List Nat) : sm 8 7 (a ++ [sm 8 7 a]) = 0 := by
  rw [sm_snoc]
  unfold stepS
  exact Nat.xor_self _
end Go.Proofs.YteahiigfclabfaaDoor.U
namespace Go.Proofs.YteahiigfclabfaaDoor.H
theorem wr_sum {h : Hd} (k : HOk h) : U.sm 8 7 (wrB h) = 0 := by
  have e : wrB h = hbB h ++ [U.sm 8 7 (hbB h)] := by unfold wrB; rw [if_pos ((ck_ok h).2 k)]
  rw [e]
  exact U.sm_own _
/-- damage of no more than 8 bits is seen -/
theorem seen_no {h : Hd} (k : HOk h) {cs : List Nat} {k0 i : Nat} (hl : cs.length = (wrB h).length) (hlt : ∀ x ∈ cs, x < 256) (hs : U.Seen 8 7 (wrB h) cs k0 i true) : rdE cs ≠ 0 ∨ rdN cs ≠ (wrB h).length := by
  by_cases hE : rdE cs = 0
  · right
    intro hN
    obtain ⟨n, hb⟩ := rd_back hlt hE
    have hn : n = (wrB h).length := by have := hb.num; omega
    have e : wrB (rdX cs) = cs := by rw [hb.wr, List.take_of_length_le (by omega)]
    have s1 := wr_sum hb.ok
    rw [e] at s1
    have s2 := wr_sum k
    have := (U.seen_end (by decide) (by decide) (by decide) hs).1 rfl
    omega
  · exact .inl hE
end Go.Proofs.YteahiigfclabfaaDoor.H
