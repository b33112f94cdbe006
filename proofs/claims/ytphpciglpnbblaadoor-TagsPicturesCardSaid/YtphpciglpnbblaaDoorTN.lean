/-
  The document's Text: it is UTF-8's own test.
-/
import Derived.Test.YtphpciglpnbblaaDoorTT
namespace Go.Proofs.YtphpciglpnbblaaDoor
open Go.RowKit Go.Shelf

/-- a byte of a text from a place on -/
def bt (s : ByteArray) (i j : Nat) : Nat := ((s.data.toList.drop i).getD j 0).toNat
/-- is the rest a text? -/
def vD (s : ByteArray) (i : Nat) : Bool := Lib.validD (s.data.toList.drop i)
theorem bt_lt (s : ByteArray) (i j : Nat) : bt s i j < 256 := by unfold bt; exact UInt8.toNat_lt _
theorem bt_get (s : ByteArray) (i j : Nat) (h : i + j < s.size) : bt s i j = (s.get! (i + j)).toNat := by
  have h1 : s.get! (i + j) = s.data[i + j]'h := by
    rw [Utf8W.get!_of_lt s (i + j) h]
    rfl
  unfold bt
  rw [h1, List.getD_eq_getElem?_getD, List.getElem?_drop, Array.getElem?_toList, Array.getElem?_eq_getElem h, Option.getD_some]
theorem vD_ne (s : ByteArray) (i : Nat) (h : i < s.size) : s.data.toList.drop i ≠ [] := fun e => by
  have := congrArg List.length e
  rw [List.length_drop, Array.length_toList] at this
  have h2 : s.size = s.data.size := rfl
  simp at this
  omega
theorem vD_len (s : ByteArray) (i : Nat) : (s.data.toList.drop i).length = s.size - i := by rw [List.length_drop, Array.length_toList]; rfl
theorem vD_end (s : ByteArray) : vD s s.size = true := by
  unfold vD
  rw [List.eq_nil_of_length_eq_zero (l := s.data.toList.drop s.size) (by rw [vD_len]; omega)]
  rfl
theorem vD_one (s : ByteArray) (i : Nat) (h : i < s.size) (hc : bt s i 0 < 128) : vD s i = vD s (i + 1) := by
  unfold vD
  rw [Lib.validD_step _ (vD_ne s i h), Lib.decodeL_N]
  unfold Lib.decodeN
  rw [if_pos (show ((s.data.toList.drop i).getD 0 0).toNat < 128 from hc)]
  dsimp only
  rw [if_neg (by have : ((s.data.toList.drop i).getD 0 0).toNat < 128 := hc; omega), List.drop_drop]
theorem vD_bad (s : ByteArray) (i : Nat) (h : i < s.size) (hc : (128 ≤ bt s i 0 ∧ bt s i 0 < 194) ∨ 245 ≤ bt s i 0) : vD s i = false := by
  unfold vD
  rw [Lib.validD_step _ (vD_ne s i h), Lib.decodeL_N, Lib.decodeN_bad _ _ _ _ _ (by
    have := bt_lt s i 0
    unfold bt at *
    omega)]
  rfl
/-- the value of the bytes of a letter, so far -/
def vN (s : ByteArray) (i M : Nat) : Nat → Nat
  | 0 => bt s i 0 % M
  | k + 1 => vN s i M k * 64 + (bt s i (k + 1) - 128)
/-- are so many bytes behind the first such that go on? -/
def cN (s : ByteArray) (i : Nat) (k : Nat) : Prop := ∀ j, j < k → 128 ≤ bt s i (j + 1) ∧ bt s i (j + 1) ≤ 191
theorem cN_succ (s : ByteArray) (i k : Nat) (h : cN s i k) (h1 : 128 ≤ bt s i (k + 1)) (h2 : bt s i (k + 1) ≤ 191) : cN s i (k + 1) := fun j hj => by
  rcases Nat.lt_succ_iff_lt_or_eq.1 hj with h3 | rfl
  · exact h j h3
  · exact ⟨h1, h2⟩
theorem vN_lt (s : ByteArray) (i M : Nat) (hM : 0 < M) (hM2 : M ≤ 32) : ∀ k, k ≤ 3 → cN s i k → vN s i M k < 32 * 64 ^ k
  | 0, _, _ => by
    have := Nat.mod_lt (bt s i 0) hM
    unfold vN
    omega
  | k + 1, hk, h => by
    have h1 := vN_lt s i M hM hM2 k (by omega) (fun j hj => h j (by omega))
    have h2 := h k (by omega)
    unfold vN
    rw [Nat.pow_succ]
    omega
set_option maxRecDepth 100000 in
set_option maxHeartbeats 4000000 in
theorem vD_2 (s : ByteArray) (i : Nat) (h : i < s.size) (h1 : 194 ≤ bt s i 0) (h2 : bt s i 0 < 224) :
    (cN s i 1 ∧ i + 2 ≤ s.size ∧ 128 ≤ vN s i 32 1 ∧ vN s i 32 1 ≤ 1114111 ∧ ¬ (55296 ≤ vN s i 32 1 ∧ vN s i 32 1 ≤ 57343) ∧ vD s i = vD s (i + 2)) ∨
    (¬ (cN s i 1 ∧ i + 2 ≤ s.size ∧ 128 ≤ vN s i 32 1 ∧ vN s i 32 1 ≤ 1114111 ∧ ¬ (55296 ≤ vN s i 32 1 ∧ vN s i 32 1 ≤ 57343)) ∧ vD s i = false) := by
  have hv : vN s i 32 1 = (bt s i 0 % 32) * 64 + (bt s i 1 - 128) := rfl
  have hc : cN s i 1 ↔ (128 ≤ bt s i 1 ∧ bt s i 1 ≤ 191) := by
    unfold cN
    constructor
    · intro hh
      exact hh 0 (by decide)
    · intro hh j hj
      match j, hj with
      | 0, _ => exact hh
  have hst : vD s i = if (Lib.decodeN (s.size - i) (bt s i 0) (bt s i 1) (bt s i 2) (bt s i 3)).1 = 65533 ∧ (Lib.decodeN (s.size - i) (bt s i 0) (bt s i 1) (bt s i 2) (bt s i 3)).2 = 1 then false else vD s (i + (Lib.decodeN (s.size - i) (bt s i 0) (bt s i 1) (bt s i 2) (bt s i 3)).2) := by
    unfold vD
    rw [Lib.validD_step _ (vD_ne s i h), Lib.decodeL_N, vD_len, List.drop_drop]
    rfl
  rw [hv, hc, hst]
  have l0 := bt_lt s i 0
  have l1 := bt_lt s i 1
  have l2 := bt_lt s i 2
  have l3 := bt_lt s i 3
  clear hv hc hst
  generalize bt s i 0 = b0 at *
  generalize bt s i 1 = b1 at *
  generalize bt s i 2 = b2 at *
  generalize bt s i 3 = b3 at *
  by_cases hg : (128 ≤ b1 ∧ b1 ≤ 191) ∧ i + 2 ≤ s.size ∧ 128 ≤ (b0 % 32) * 64 + (b1 - 128) ∧ (b0 % 32) * 64 + (b1 - 128) ≤ 1114111 ∧ ¬ (55296 ≤ (b0 % 32) * 64 + (b1 - 128) ∧ (b0 % 32) * 64 + (b1 - 128) ≤ 57343)
  · have hd : (Lib.decodeN (s.size - i) b0 b1 b2 b3).2 = 2 := by
      unfold Lib.decodeN
      repeat' split
      all_goals first | rfl | (exfalso; omega)
    rw [hd, if_neg (fun e => absurd e.2 (by decide))]
    exact .inl ⟨hg.1, hg.2.1, hg.2.2.1, hg.2.2.2.1, hg.2.2.2.2, rfl⟩
  · have hd : Lib.decodeN (s.size - i) b0 b1 b2 b3 = (65533, 1) := by
      unfold Lib.decodeN
      repeat' split
      all_goals first | rfl | (exfalso; omega)
    rw [hd, if_pos ⟨rfl, rfl⟩]
    exact .inr ⟨hg, rfl⟩
set_option maxRecDepth 100000 in
set_option maxHeartbeats 4000000 in
theorem vD_3 (s : ByteArray) (i : Nat) (h : i < s.size) (h1 : 224 ≤ bt s i 0) (h2 : bt s i 0 < 240) :
    (cN s i 2 ∧ i + 3 ≤ s.size ∧ 2048 ≤ vN s i 16 2 ∧ vN s i 16 2 ≤ 1114111 ∧ ¬ (55296 ≤ vN s i 16 2 ∧ vN s i 16 2 ≤ 57343) ∧ vD s i = vD s (i + 3)) ∨
    (¬ (cN s i 2 ∧ i + 3 ≤ s.size ∧ 2048 ≤ vN s i 16 2 ∧ vN s i 16 2 ≤ 1114111 ∧ ¬ (55296 ≤ vN s i 16 2 ∧ vN s i 16 2 ≤ 57343)) ∧ vD s i = false) := by
  have hv : vN s i 16 2 = ((bt s i 0 % 16) * 64 + (bt s i 1 - 128)) * 64 + (bt s i 2 - 128) := rfl
  have hc : cN s i 2 ↔ (128 ≤ bt s i 1 ∧ bt s i 1 ≤ 191) ∧ (128 ≤ bt s i 2 ∧ bt s i 2 ≤ 191) := by
    unfold cN
    constructor
    · intro hh
      exact ⟨hh 0 (by decide), hh 1 (by decide)⟩
    · intro hh j hj
      match j, hj with
      | 0, _ => exact hh.1
      | 1, _ => exact hh.2
  have hst : vD s i = if (Lib.decodeN (s.size - i) (bt s i 0) (bt s i 1) (bt s i 2) (bt s i 3)).1 = 65533 ∧ (Lib.decodeN (s.size - i) (bt s i 0) (bt s i 1) (bt s i 2) (bt s i 3)).2 = 1 then false else vD s (i + (Lib.decodeN (s.size - i) (bt s i 0) (bt s i 1) (bt s i 2) (bt s i 3)).2) := by
    unfold vD
    rw [Lib.validD_step _ (vD_ne s i h), Lib.decodeL_N, vD_len, List.drop_drop]
    rfl
  rw [hv, hc, hst]
  have l0 := bt_lt s i 0
  have l1 := bt_lt s i 1
  have l2 := bt_lt s i 2
  have l3 := bt_lt s i 3
  clear hv hc hst
  generalize bt s i 0 = b0 at *
  generalize bt s i 1 = b1 at *
  generalize bt s i 2 = b2 at *
  generalize bt s i 3 = b3 at *
  by_cases hg : ((128 ≤ b1 ∧ b1 ≤ 191) ∧ (128 ≤ b2 ∧ b2 ≤ 191)) ∧ i + 3 ≤ s.size ∧ 2048 ≤ ((b0 % 16) * 64 + (b1 - 128)) * 64 + (b2 - 128) ∧ ((b0 % 16) * 64 + (b1 - 128)) * 64 + (b2 - 128) ≤ 1114111 ∧ ¬ (55296 ≤ ((b0 % 16) * 64 + (b1 - 128)) * 64 + (b2 - 128) ∧ ((b0 % 16) * 64 + (b1 - 128)) * 64 + (b2 - 128) ≤ 57343)
  · have hd : (Lib.decodeN (s.size - i) b0 b1 b2 b3).2 = 3 := by
      unfold Lib.decodeN
      repeat' split
      all_goals first | rfl | (exfalso; omega)
    rw [hd, if_neg (fun e => absurd e.2 (by decide))]
    exact .inl ⟨hg.1, hg.2.1, hg.2.2.1, hg.2.2.2.1, hg.2.2.2.2, rfl⟩
  · have hd : Lib.decodeN (s.size - i) b0 b1 b2 b3 = (65533, 1) := by
      unfold Lib.decodeN
      repeat' split
      all_goals first | rfl | (exfalso; omega)
    rw [hd, if_pos ⟨rfl, rfl⟩]
    exact .inr ⟨hg, rfl⟩
set_option maxRecDepth 100000 in
set_option maxHeartbeats 4000000 in
theorem vD_4 (s : ByteArray) (i : Nat) (h : i < s.size) (h1 : 240 ≤ bt s i 0) (h2 : bt s i 0 < 245) :
    (cN s i 3 ∧ i + 4 ≤ s.size ∧ 65536 ≤ vN s i 8 3 ∧ vN s i 8 3 ≤ 1114111 ∧ ¬ (55296 ≤ vN s i 8 3 ∧ vN s i 8 3 ≤ 57343) ∧ vD s i = vD s (i + 4)) ∨
    (¬ (cN s i 3 ∧ i + 4 ≤ s.size ∧ 65536 ≤ vN s i 8 3 ∧ vN s i 8 3 ≤ 1114111 ∧ ¬ (55296 ≤ vN s i 8 3 ∧ vN s i 8 3 ≤ 57343)) ∧ vD s i = false) := by
  have hv : vN s i 8 3 = (((bt s i 0 % 8) * 64 + (bt s i 1 - 128)) * 64 + (bt s i 2 - 128)) * 64 + (bt s i 3 - 128) := rfl
  have hc : cN s i 3 ↔ (128 ≤ bt s i 1 ∧ bt s i 1 ≤ 191) ∧ (128 ≤ bt s i 2 ∧ bt s i 2 ≤ 191) ∧ (128 ≤ bt s i 3 ∧ bt s i 3 ≤ 191) := by
    unfold cN
    constructor
    · intro hh
      exact ⟨hh 0 (by decide), hh 1 (by decide), hh 2 (by decide)⟩
    · intro hh j hj
      match j, hj with
      | 0, _ => exact hh.1
      | 1, _ => exact hh.2.1
      | 2, _ => exact hh.2.2
  have hst : vD s i = if (Lib.decodeN (s.size - i) (bt s i 0) (bt s i 1) (bt s i 2) (bt s i 3)).1 = 65533 ∧ (Lib.decodeN (s.size - i) (bt s i 0) (bt s i 1) (bt s i 2) (bt s i 3)).2 = 1 then false else vD s (i + (Lib.decodeN (s.size - i) (bt s i 0) (bt s i 1) (bt s i 2) (bt s i 3)).2) := by
    unfold vD
    rw [Lib.validD_step _ (vD_ne s i h), Lib.decodeL_N, vD_len, List.drop_drop]
    rfl
  rw [hv, hc, hst]
  have l0 := bt_lt s i 0
  have l1 := bt_lt s i 1
  have l2 := bt_lt s i 2
  have l3 := bt_lt s i 3
  clear hv hc hst
  generalize bt s i 0 = b0 at *
  generalize bt s i 1 = b1 at *
  generalize bt s i 2 = b2 at *
  generalize bt s i 3 = b3 at *
  by_cases hg : ((128 ≤ b1 ∧ b1 ≤ 191) ∧ (128 ≤ b2 ∧ b2 ≤ 191) ∧ (128 ≤ b3 ∧ b3 ≤ 191)) ∧ i + 4 ≤ s.size ∧ 65536 ≤ (((b0 % 8) * 64 + (b1 - 128)) * 64 + (b2 - 128)) * 64 + (b3 - 128) ∧ (((b0 % 8) * 64 + (b1 - 128)) * 64 + (b2 - 128)) * 64 + (b3 - 128) ≤ 1114111 ∧ ¬ (55296 ≤ (((b0 % 8) * 64 + (b1 - 128)) * 64 + (b2 - 128)) * 64 + (b3 - 128) ∧ (((b0 % 8) * 64 + (b1 - 128)) * 64 + (b2 - 128)) * 64 + (b3 - 128) ≤ 57343)
  · have hd : (Lib.decodeN (s.size - i) b0 b1 b2 b3).2 = 4 := by
      unfold Lib.decodeN
      repeat' split
      all_goals first | rfl | (exfalso; omega)
    rw [hd, if_neg (fun e => absurd e.2 (by decide))]
    exact .inl ⟨hg.1, hg.2.1, hg.2.2.1, hg.2.2.2.1, hg.2.2.2.2, rfl⟩
  · have hd : Lib.decodeN (s.size - i) b0 b1 b2 b3 = (65533, 1) := by
      unfold Lib.decodeN
      repeat' split
      all_goals first | rfl | (exfalso; omega)
    rw [hd, if_pos ⟨rfl, rfl⟩]
    exact .inr ⟨hg, rfl⟩
end Go.Proofs.YtphpciglpnbblaaDoor
