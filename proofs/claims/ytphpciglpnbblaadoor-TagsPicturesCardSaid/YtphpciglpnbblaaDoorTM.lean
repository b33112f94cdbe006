/-
  Plain mathematics: comments, names, letters.
-/
import Derived.Test.YtphpciglpnbblaaDoorTL
namespace Go.Proofs.YtphpciglpnbblaaDoor
open Go.RowKit Go.Shelf

theorem decodeN_ge (n b0 b1 b2 b3 : Nat) (h : 128 ≤ b0) : 128 ≤ (Lib.decodeN n b0 b1 b2 b3).1 := by
  unfold Lib.decodeN
  rw [if_neg (by omega)]
  split
  · split <;> (dsimp only; omega)
  · split
    · split <;> (dsimp only; omega)
    · split
      · split <;> (dsimp only; omega)
      · decide
theorem nb_get (s : ByteArray) (k : Nat) (h : k < s.size) : (nb s)[k]'(by rw [nb_len]; exact h) = (s.get! k).toNat := by
  have : s.get! k = s.data[k]'h := by
    rw [Utf8W.get!_of_lt s k h]
    rfl
  rw [this]
  simp [nb]
theorem idx_from (q : Nat → Bool) (hq : ∀ r, 128 ≤ r → q r = true) (s : ByteArray) : ∀ (f pos : Nat), s.size ≤ pos + f → decide (0 ≤ Lib.idxFuncFrom q true s f pos) = ((nb s).drop pos).any q
  | 0, pos, h => by
    rw [List.drop_of_length_le (by rw [nb_len]; omega)]
    rfl
  | f + 1, pos, h => by
    unfold Lib.idxFuncFrom
    by_cases hp : pos < s.size
    · rw [if_pos hp, List.drop_eq_getElem_cons (by rw [nb_len]; exact hp), List.any_cons, nb_get s pos hp, Lib.decode_at]
      by_cases ha : (s.get! pos).toNat < 128
      · rw [show Lib.decodeN (s.size - pos) (s.get! pos).toNat (s.get! (pos + 1)).toNat (s.get! (pos + 2)).toNat (s.get! (pos + 3)).toNat = ((s.get! pos).toNat, 1) by unfold Lib.decodeN; rw [if_pos ha]]
        dsimp only
        cases hx : q (s.get! pos).toNat with
        | true => rw [if_pos rfl, Bool.true_or]; exact decide_eq_true (by omega)
        | false => rw [if_neg (by decide), Bool.false_or]; exact idx_from q hq s f (pos + 1) (by omega)
      · rw [if_pos (hq _ (decodeN_ge _ _ _ _ _ (by omega))), hq (s.get! pos).toNat (by omega), Bool.true_or]
        exact decide_eq_true (by omega)
    · rw [if_neg hp, List.drop_of_length_le (by rw [nb_len]; omega)]
      rfl
theorem idx_any (q : Nat → Bool) (hq : ∀ r, 128 ≤ r → q r = true) (s : ByteArray) : decide (0 ≤ Lib.idxFunc q true s) = (nb s).any q := by
  have := idx_from q hq s s.size 0 (by omega)
  rwa [List.drop_zero] at this
/-- where the first = stands -/
def eqI (s : ByteArray) : Int := Lib.indexByte s.data.toList 61
theorem index_spec (c : UInt8) : ∀ l : List UInt8, (Lib.indexByte l c = -1 ∧ ∀ x ∈ l, x ≠ c) ∨ ∃ k : Nat, Lib.indexByte l c = k ∧ k < l.length ∧ l[k]? = some c ∧ ∀ j, j < k → l[j]? ≠ some c
  | [] => .inl ⟨rfl, fun x h => by cases h⟩
  | b :: l => by
    unfold Lib.indexByte
    by_cases hb : b = c
    · rw [if_pos (by simpa using hb)]
      exact .inr ⟨0, rfl, by simp, by simp [hb], fun j hj => by omega⟩
    · rw [if_neg (by simpa using hb)]
      rcases index_spec c l with ⟨h1, h2⟩ | ⟨k, h1, h2, h3, h4⟩
      · rw [h1]
        refine .inl ⟨rfl, fun x hx => ?_⟩
        rcases List.mem_cons.1 hx with e | e
        · rw [e]; exact hb
        · exact h2 x e
      · rw [h1]
        refine .inr ⟨k + 1, ?_, by simpa using h2, by simpa using h3, fun j hj => ?_⟩
        · rw [if_neg (by simp)]
          rfl
        · cases j with
          | zero => simpa using hb
          | succ j => simpa using h4 j (by omega)
theorem eqI_spec (s : ByteArray) : (eqI s = -1 ∧ ∀ x ∈ nb s, x ≠ 61) ∨ ∃ k : Nat, eqI s = k ∧ k < s.size ∧ (nb s)[k]? = some 61 ∧ ∀ j, j < k → (nb s)[j]? ≠ some 61 := by
  have key : ∀ (x : UInt8), x.toNat = 61 ↔ x = 61 := fun x => ⟨fun h => UInt8.toNat_inj.1 (by rw [h]; rfl), fun h => by rw [h]; rfl⟩
  rcases index_spec 61 s.data.toList with ⟨h1, h2⟩ | ⟨k, h1, h2, h3, h4⟩
  · refine .inl ⟨h1, fun x hx => ?_⟩
    obtain ⟨y, hy, rfl⟩ := List.mem_map.1 hx
    exact fun e => h2 y hy ((key y).1 e)
  · refine .inr ⟨k, h1, by rw [Array.length_toList] at h2; exact h2, ?_, fun j hj => ?_⟩
    · rw [nb, List.getElem?_map, h3]
      rfl
    · rw [nb, List.getElem?_map]
      intro e
      obtain ⟨y, hy, hy2⟩ := Option.map_eq_some_iff.1 e
      exact h4 j hj (by rw [hy, (key y).1 hy2])
/-- may a letter be one of a name? -/
def nmB (x : Nat) : Bool := decide (32 ≤ x) && decide (x ≤ 125)
/-- is it printed? -/
def prB (x : Nat) : Bool := decide (32 ≤ x) && decide (x ≤ 126)
/-- is it a text? -/
def isT (s : ByteArray) : Bool := Lib.validD s.data.toList
/-- is it a comment? -/
def isC (s : ByteArray) : Bool := decide (0 < eqI s) && (nb (s.extract 0 (eqI s).toNat)).all nmB && isT (s.extract ((eqI s).toNat + 1) s.size)
theorem isC_pos {s : ByteArray} (h : isC s = true) : ∃ k : Nat, eqI s = k ∧ 0 < k ∧ k < s.size := by
  unfold isC at h
  simp only [Bool.and_eq_true, decide_eq_true_eq] at h
  rcases eqI_spec s with ⟨h1, _⟩ | ⟨k, h1, h2, _⟩
  · rw [h1] at h; omega
  · exact ⟨k, h1, by rw [h1] at h; omega, h2⟩
theorem nb_extract (s : ByteArray) (a b : Nat) : nb (s.extract a b) = ((nb s).take b).drop a := by
  unfold nb
  rw [show (s.extract a b).data = s.data.extract a b by simp, Array.toList_extract]
  simp [List.map_take, List.map_drop, List.drop_take]
end Go.Proofs.YtphpciglpnbblaaDoor
