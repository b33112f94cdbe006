/-
  The document's bits of an info, plain mathematics.
-/
import Derived.Test.YtpgcaijanmpanaaIP
import Derived.Test.YtpgcaijanmpanaaIZ
namespace Go.Proofs.Ytpgcaijanmpanaa
open Go.RowKit Go.Shelf

/-- m bits of n, the greatest first -/
def bl : Nat → Nat → List Bool
  | 0, _ => []
  | m + 1, n => bl m (n / 2) ++ [decide (n % 2 = 1)]
theorem bl_len : ∀ (m n : Nat), (bl m n).length = m
  | 0, _ => rfl
  | m + 1, n => by rw [bl, List.length_append, bl_len m]; rfl
theorem bl_split (a : Nat) : ∀ (b n : Nat), bl (a + b) n = bl a (n / 2 ^ b) ++ bl b n
  | 0, n => by simp [bl]
  | b + 1, n => by
    show bl (a + b) (n / 2) ++ _ = _
    rw [bl_split a b (n / 2), bl, Nat.div_div_eq_div_mul, Nat.pow_succ, Nat.mul_comm 2, List.append_assoc]
theorem bl_mod : ∀ (b x y : Nat), bl b (x * 2 ^ b + y) = bl b y
  | 0, _, _ => rfl
  | b + 1, x, y => by
    have h : x * 2 ^ (b + 1) + y = 2 * (x * 2 ^ b) + y := by rw [Nat.pow_succ, ← Nat.mul_assoc]; omega
    have h1 : (x * 2 ^ (b + 1) + y) / 2 = x * 2 ^ b + y / 2 := by rw [h]; omega
    have h2 : (x * 2 ^ (b + 1) + y) % 2 = y % 2 := by rw [h]; omega
    rw [bl, bl, h1, h2, bl_mod b]
theorem bl_join (a b x y : Nat) (h : y < 2 ^ b) : bl a x ++ bl b y = bl (a + b) (x * 2 ^ b + y) := by
  rw [bl_split, bl_mod, Nat.mul_comm, Nat.mul_add_div (Nat.two_pow_pos b), Nat.div_eq_of_lt h, Nat.add_zero]
theorem bl_take (m n j : Nat) (h : j < m) : (bl m n).take (j + 1) = (bl m n).take j ++ [decide (n / 2 ^ (m - 1 - j) % 2 = 1)] := by
  obtain ⟨r, rfl⟩ : ∃ r, m = (j + 1) + r := ⟨m - (j + 1), by omega⟩
  rw [show j + 1 + r - 1 - j = r by omega, bl_split, List.take_append_of_le_length (by rw [bl_len]; exact Nat.le_refl _), List.take_append_of_le_length (by rw [bl_len]; omega), List.take_of_length_le (by rw [bl_len]; exact Nat.le_refl _)]
  show bl j _ ++ _ = (bl j _ ++ _).take j ++ _
  rw [List.take_append_of_le_length (by rw [bl_len]; exact Nat.le_refl _), List.take_of_length_le (by rw [bl_len]; exact Nat.le_refl _)]
/-- the number that bits are -/
def bval (l : List Bool) : Nat := l.foldl (fun a b => 2 * a + b.toNat) 0
theorem bval_snoc (l : List Bool) (b : Bool) : bval (l ++ [b]) = 2 * bval l + b.toNat := by simp [bval, List.foldl_append]
theorem bval_bl : ∀ (m n : Nat), bval (bl m n) = n % 2 ^ m
  | 0, n => by rw [Nat.pow_zero, Nat.mod_one]; rfl
  | m + 1, n => by
    rw [bl, bval_snoc, bval_bl m, Nat.pow_succ, Nat.mul_comm (2 ^ m) 2, Nat.mod_mul]
    by_cases h : n % 2 = 1
    · rw [decide_eq_true h, h]; simp; omega
    · rw [decide_eq_false h, show n % 2 = 0 by omega]; simp
theorem bval_lt (l : List Bool) : bval l < 2 ^ l.length := by
  refine list_snoc (fun l => bval l < 2 ^ l.length) (by decide) (fun l x h => ?_) l
  rw [bval_snoc, List.length_append, List.length_singleton, Nat.pow_succ]
  have := x.toNat_le
  omega
/-- eight bits a byte -/
def pk (m : Nat) (l : List Bool) : List Nat := (List.range m).map fun j => bval ((l.drop (8 * j)).take 8)
theorem pk_len (m : Nat) (l : List Bool) : (pk m l).length = m := by simp [pk]
theorem pk_succ (m : Nat) (l : List Bool) : pk (m + 1) l = pk m l ++ [bval ((l.drop (8 * m)).take 8)] := by simp [pk, List.range_succ]
theorem pk_bl (m n : Nat) : pk m (bl (8 * m) n) = be m n := by
  unfold pk be
  refine List.map_congr_left fun j hj => ?_
  have hj := List.mem_range.1 hj
  obtain ⟨r, rfl⟩ : ∃ r, m = j + 1 + r := ⟨m - (j + 1), by omega⟩
  rw [show 8 * (j + 1 + r) = 8 * j + (8 + 8 * r) by omega, bl_split (8 * j), List.drop_append_of_le_length (by rw [bl_len]; exact Nat.le_refl _), List.drop_of_length_le (by rw [bl_len]; exact Nat.le_refl _), List.nil_append, bl_split 8, List.take_append_of_le_length (by rw [bl_len]; exact Nat.le_refl _), List.take_of_length_le (by rw [bl_len]; exact Nat.le_refl _), bval_bl, show j + 1 + r - 1 - j = r by omega]
theorem pk_append (b : Nat) (l2 : List Bool) : ∀ (a : Nat) (l1 : List Bool), l1.length = 8 * a → pk (a + b) (l1 ++ l2) = pk a l1 ++ pk b l2 := by
  intro a l1 h
  unfold pk
  rw [List.range_add, List.map_append, List.map_map]
  congr 1
  · refine List.map_congr_left fun j hj => ?_
    have hj := List.mem_range.1 hj
    rw [List.drop_append_of_le_length (by omega), List.take_append_of_le_length (by rw [List.length_drop]; omega)]
  · refine List.map_congr_left fun j _ => ?_
    show bval (((l1 ++ l2).drop (8 * (a + j))).take 8) = _
    rw [show 8 * (a + j) = l1.length + 8 * j by omega, List.drop_length_add_append]
/-- the eight numbers in the order of the bytes: which, of how many bits, how much less, and what is told -/
def fw (k : Nat) : Nat := [3, 4, 5, 6, 0, 1, 2, 7].getD k 0
def fb (k : Nat) : Nat := [16, 16, 24, 24, 20, 3, 5, 36].getD k 0
def fm (k : Nat) : Nat := [0, 0, 0, 0, 0, 1, 1, 0].getD k 0
def fn (i : Nf) (k : Nat) : Nat := [i.mb.toNat, i.xb.toNat, i.mf.toNat, i.xf.toNat, i.r.toNat, i.c.toNat - 1, i.d.toNat - 1, i.t.toNat].getD k 0
theorem fw_lt (k : Nat) (h : k < 8) : fw k < 8 := by
  rcases (show k = 0 ∨ k = 1 ∨ k = 2 ∨ k = 3 ∨ k = 4 ∨ k = 5 ∨ k = 6 ∨ k = 7 by omega) with rfl | rfl | rfl | rfl | rfl | rfl | rfl | rfl <;> decide
theorem fb_le (k : Nat) (h : k < 8) : 1 ≤ fb k ∧ fb k ≤ 36 := by
  rcases (show k = 0 ∨ k = 1 ∨ k = 2 ∨ k = 3 ∨ k = 4 ∨ k = 5 ∨ k = 6 ∨ k = 7 by omega) with rfl | rfl | rfl | rfl | rfl | rfl | rfl | rfl <;> decide
theorem fn_is {i : Nf} (h : mayI i) (k : Nat) (hk : k < 8) : nth i (fw k) - (fm k : Int) = (fn i k : Int) ∧ fn i k < 68719476736 := by
  obtain ⟨h0, h1, h2, h3, h4, h5, h6, h7, _⟩ := h
  unfold wi at h0 h1 h2 h3 h4 h5 h6 h7
  rcases (show k = 0 ∨ k = 1 ∨ k = 2 ∨ k = 3 ∨ k = 4 ∨ k = 5 ∨ k = 6 ∨ k = 7 by omega) with rfl | rfl | rfl | rfl | rfl | rfl | rfl | rfl <;> simp [nth, fw, fm, fn] <;> omega
def pb (i : Nf) (k : Nat) : List Bool := (List.range k).flatMap fun j => bl (fb j) (fn i j)
theorem pb_succ (i : Nf) (k : Nat) : pb i (k + 1) = pb i k ++ bl (fb k) (fn i k) := by simp [pb, List.range_succ]
theorem pb_len (i : Nf) : ∀ k, k ≤ 8 → (pb i k).length ≤ 36 * k
  | 0, _ => by simp [pb]
  | k + 1, h => by
    have := pb_len i k (by omega)
    have := (fb_le k (by omega)).2
    rw [pb_succ, List.length_append, bl_len]
    omega
theorem pb_all (i : Nf) : pb i 8 = bl 16 i.mb.toNat ++ (bl 16 i.xb.toNat ++ (bl 24 i.mf.toNat ++ (bl 24 i.xf.toNat ++ (bl 20 i.r.toNat ++ (bl 3 (i.c.toNat - 1) ++ (bl 5 (i.d.toNat - 1) ++ bl 36 i.t.toNat)))))) := by
  simp [pb, List.range_succ, fb, fn]
theorem pb_144 (i : Nf) : (pb i 8).length = 144 := by rw [pb_all]; simp [bl_len]
theorem pk_wr {i : Nf} (h : mayI i) : pk 18 (pb i 8) ++ i.s = wrB i := by
  obtain ⟨h0, h1, h2, h3, h4, h5, h6, h7, _⟩ := h
  unfold wi at h0 h1 h2 h3 h4 h5 h6 h7
  have e5 : bl 20 i.r.toNat ++ (bl 3 (i.c.toNat - 1) ++ (bl 5 (i.d.toNat - 1) ++ bl 36 i.t.toNat)) = bl (8 * 8) (shN i) := by
    rw [← List.append_assoc, bl_join 20 3 _ _ (by omega), ← List.append_assoc, bl_join 23 5 _ _ (by omega), bl_join 28 36 _ _ (by omega)]
    rfl
  rw [pb_all, e5]
  unfold wrB
  rw [pk_append 16 _ 2 _ (bl_len _ _), pk_append 14 _ 2 _ (bl_len _ _), pk_append 11 _ 3 _ (bl_len _ _), pk_append 8 _ 3 _ (bl_len _ _), pk_bl 2, pk_bl 2, pk_bl 3, pk_bl 3, pk_bl 8]
  simp only [List.append_assoc]
end Go.Proofs.Ytpgcaijanmpanaa
