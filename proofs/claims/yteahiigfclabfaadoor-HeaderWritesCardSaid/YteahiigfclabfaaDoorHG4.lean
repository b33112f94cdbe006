/-
  Texts of earlier stages, put together.
-/
import Derived.Test.YteahiigfclabfaaDoorHG3
import Derived.Outline
import Derived.WalkMore
import Derived.Deep.OwnRows
import Derived.Maps.AppendAt
import Derived.Deep.Upon
namespace Go.Proofs.YteahiigfclabfaaDoor.U

/-- the table: what numbers of a kind are below; what its first byte begins with; how many bits of the number that holds -/
def bel : List Nat := [128, 2048, 65536, 2097152, 67108864, 2147483648, 68719476736]
def mrk : List Nat := [0, 192, 224, 240, 248, 252, 254]
def bts : List Nat := [7, 5, 4, 3, 2, 1, 0]

/-- how many bytes a number's code has -/
def szOf (n : Nat) : Nat :=
  if n < 128 then 1 else if n < 2048 then 2 else if n < 65536 then 3 else if n < 2097152 then 4 else if n < 67108864 then 5 else if n < 2147483648 then 6 else 7
/-- the bytes behind the first one: k of them -/
def tl (n : Nat) : Nat → List Nat
  | 0 => []
  | k + 1 => (128 + n / 64 ^ k % 64) :: tl n k
/-- the first byte -/
def fb (n : Nat) : Nat := mrk.getD (szOf n - 1) 0 + n / 64 ^ (szOf n - 1)
/-- a number's code -/
def cd (n : Nat) : List Nat := fb n :: tl n (szOf n - 1)
/-- how many bytes a code has that begins with this one -/
def begunOf (x : Nat) : Nat :=
  if x < 128 then 1 else if x < 192 then 0 else if x < 224 then 2 else if x < 240 then 3 else if x < 248 then 4 else if x < 252 then 5 else if x < 254 then 6 else if x < 255 then 7 else 0
/-- what is gathered of k bytes more: the number, and the error -/
def gat (n : Nat) : Nat → List Nat → Nat × Nat
  | 0, _ => (n, 0)
  | _ + 1, [] => (n, 11)
  | k + 1, x :: r => if x / 64 = 2 then gat (n * 64 + x % 64) k r else (n, 12)
/-- the number, its size, and the error -/
def getOf : List Nat → Nat × Nat × Nat
  | [] => (0, 0, 11)
  | x :: r =>
    if begunOf x = 0 then (0, 0, 12)
    else if (gat (x - mrk.getD (begunOf x - 1) 0) (begunOf x - 1) r).2 = 0 then
      (if szOf (gat (x - mrk.getD (begunOf x - 1) 0) (begunOf x - 1) r).1 < begunOf x then (0, 0, 12) else ((gat (x - mrk.getD (begunOf x - 1) 0) (begunOf x - 1) r).1, begunOf x, 0))
    else (0, 0, (gat (x - mrk.getD (begunOf x - 1) 0) (begunOf x - 1) r).2)

theorem szOf_cases (n : Nat) : (n < 128 ∧ szOf n = 1) ∨ (128 ≤ n ∧ n < 2048 ∧ szOf n = 2) ∨ (2048 ≤ n ∧ n < 65536 ∧ szOf n = 3) ∨ (65536 ≤ n ∧ n < 2097152 ∧ szOf n = 4) ∨
    (2097152 ≤ n ∧ n < 67108864 ∧ szOf n = 5) ∨ (67108864 ≤ n ∧ n < 2147483648 ∧ szOf n = 6) ∨ (2147483648 ≤ n ∧ szOf n = 7) := by
  unfold szOf
  by_cases h1 : n < 128
  · simp [h1]
  by_cases h2 : n < 2048
  · simp [h1, h2]; omega
  by_cases h3 : n < 65536
  · simp [h1, h2, h3]; omega
  by_cases h4 : n < 2097152
  · simp [h1, h2, h3, h4]; omega
  by_cases h5 : n < 67108864
  · simp [h1, h2, h3, h4, h5]; omega
  by_cases h6 : n < 2147483648
  · simp [h1, h2, h3, h4, h5, h6]; omega
  simp [h1, h2, h3, h4, h5, h6]; omega
theorem szOf_bd (n : Nat) : 1 ≤ szOf n ∧ szOf n ≤ 7 := by
  rcases szOf_cases n with h | h | h | h | h | h | h <;> omega
theorem tl_len (n k : Nat) : (tl n k).length = k := by
  induction k with
  | zero => rfl
  | succ k ih => simp [tl, ih]
theorem cd_len (n : Nat) : (cd n).length = szOf n := by
  have := szOf_bd n
  simp only [cd, List.length_cons, tl_len]; omega
/-- the first byte, kind by kind -/
theorem fb_cases (n : Nat) (hn : n < 68719476736) : (n < 128 ∧ szOf n = 1 ∧ fb n = n) ∨ (128 ≤ n ∧ n < 2048 ∧ szOf n = 2 ∧ fb n = 192 + n / 64) ∨ (2048 ≤ n ∧ n < 65536 ∧ szOf n = 3 ∧ fb n = 224 + n / 4096) ∨
    (65536 ≤ n ∧ n < 2097152 ∧ szOf n = 4 ∧ fb n = 240 + n / 262144) ∨ (2097152 ≤ n ∧ n < 67108864 ∧ szOf n = 5 ∧ fb n = 248 + n / 16777216) ∨
    (67108864 ≤ n ∧ n < 2147483648 ∧ szOf n = 6 ∧ fb n = 252 + n / 1073741824) ∨ (2147483648 ≤ n ∧ szOf n = 7 ∧ fb n = 254) := by
  rcases szOf_cases n with ⟨h, e⟩ | ⟨h, g, e⟩ | ⟨h, g, e⟩ | ⟨h, g, e⟩ | ⟨h, g, e⟩ | ⟨h, g, e⟩ | ⟨h, e⟩ <;> simp only [fb, e, mrk] <;> simp <;> omega
theorem fb_begun (n : Nat) (hn : n < 68719476736) : begunOf (fb n) = szOf n ∧ fb n - mrk.getD (szOf n - 1) 0 = n / 64 ^ (szOf n - 1) ∧ fb n < 256 := by
  refine ⟨?_, by unfold fb; exact Nat.add_sub_cancel_left .., ?_⟩
  · rcases fb_cases n hn with h | h | h | h | h | h | h <;> (unfold begunOf; (repeat' split) <;> omega)
  · rcases fb_cases n hn with h | h | h | h | h | h | h <;> omega
theorem tl_lt (n k : Nat) : ∀ x ∈ tl n k, 128 ≤ x ∧ x < 192 := by
  induction k with
  | zero => simp [tl]
  | succ k ih =>
    intro x hx
    simp only [tl, List.mem_cons] at hx
    rcases hx with rfl | hx
    · have := Nat.mod_lt (n / 64 ^ k) (show 0 < 64 by decide); omega
    · exact ih x hx
theorem cd_lt (n : Nat) (hn : n < 68719476736) : ∀ x ∈ cd n, x < 256 := by
  intro x hx
  simp only [cd, List.mem_cons] at hx
  rcases hx with rfl | hx
  · exact (fb_begun n hn).2.2
  · have := tl_lt n _ x hx; omega
/-- one step down -/
theorem down (n k : Nat) : n / 64 ^ (k + 1) * 64 + n / 64 ^ k % 64 = n / 64 ^ k := by
  rw [Nat.pow_succ, ← Nat.div_div_eq_div_mul]; omega
theorem gat_tl (n k : Nat) (r : List Nat) : gat (n / 64 ^ k) k (tl n k ++ r) = (n, 0) := by
  induction k with
  | zero => simp [gat]
  | succ k ih =>
    have hm := Nat.mod_lt (n / 64 ^ k) (show 0 < 64 by decide)
    have e1 : (128 + n / 64 ^ k % 64) / 64 = 2 := by omega
    have e2 : (128 + n / 64 ^ k % 64) % 64 = n / 64 ^ k % 64 := by omega
    rw [tl, List.cons_append, gat, if_pos e1, e2, down]
    exact ih
theorem gat_short (n k m : Nat) (h : m < k) (a : Nat) : (gat a k ((tl n k).take m)).2 = 11 := by
  induction k generalizing m a with
  | zero => omega
  | succ k ih =>
    cases m with
    | zero => simp [gat]
    | succ m =>
      have hm := Nat.mod_lt (n / 64 ^ k) (show 0 < 64 by decide)
      have e1 : (128 + n / 64 ^ k % 64) / 64 = 2 := by omega
      rw [tl, List.take_succ_cons, gat, if_pos e1]
      exact ih m (by omega) _
/-- what is put is got, whatever is behind it -/
theorem get_put (n : Nat) (hn : n < 68719476736) (r : List Nat) : getOf (cd n ++ r) = (n, szOf n, 0) := by
  obtain ⟨h1, h2, _⟩ := fb_begun n hn
  have h3 := szOf_bd n
  have h4 := gat_tl n (szOf n - 1) r
  rw [cd, List.cons_append, getOf, h1, h2, if_neg (by omega), h4, if_pos rfl, if_neg (Nat.lt_irrefl _)]
/-- a part of a code is none -/
theorem get_part (n : Nat) (hn : n < 68719476736) (i : Nat) (hi : i < szOf n) : getOf ((cd n).take i) = (0, 0, 11) := by
  obtain ⟨h1, _, _⟩ := fb_begun n hn
  have h3 := szOf_bd n
  cases i with
  | zero => simp [getOf]
  | succ i =>
    have h4 := gat_short n (szOf n - 1) i (by omega) (fb n - mrk.getD (szOf n - 1) 0)
    rw [cd, List.take_succ_cons, getOf, h1, if_neg (by omega), h4, if_neg (by decide)]
/-- within a code none begins -/
theorem get_inside (n i : Nat) (h0 : 1 ≤ i) (hi : i < szOf n) (r : List Nat) : getOf ((cd n ++ r).drop i) = (0, 0, 12) := by
  have hl := tl_len n (szOf n - 1)
  obtain ⟨j, rfl⟩ : ∃ j, i = j + 1 := ⟨i - 1, by omega⟩
  have hj : j < (tl n (szOf n - 1)).length := by omega
  rw [cd, List.cons_append, List.drop_succ_cons, List.drop_append_of_le_length (by omega), List.drop_eq_getElem_cons hj, List.cons_append, getOf]
  have hx := tl_lt n _ _ (List.getElem_mem hj)
  rw [if_pos (by unfold begunOf; rw [if_neg (by omega), if_pos (by omega)])]
theorem gat_err (n k : Nat) (r : List Nat) : (gat n k r).2 = 0 ∨ (gat n k r).2 = 11 ∨ (gat n k r).2 = 12 := by
  induction k generalizing n r with
  | zero => simp [gat]
  | succ k ih =>
    cases r with
    | nil => simp [gat]
    | cons x r =>
      rw [gat]
      split
      · exact ih _ _
      · simp
theorem gat_back (n k : Nat) (r : List Nat) (h : (gat n k r).2 = 0) : k ≤ r.length ∧ n = (gat n k r).1 / 64 ^ k ∧ r.take k = tl (gat n k r).1 k := by
  induction k generalizing n r with
  | zero => simp [gat, tl]
  | succ k ih =>
    cases r with
    | nil => simp [gat] at h
    | cons x r =>
      rw [gat] at h ⊢
      by_cases hx : x / 64 = 2
      · rw [if_pos hx] at h ⊢
        obtain ⟨a, b, c⟩ := ih _ _ h
        generalize (gat (n * 64 + x % 64) k r).1 = m at *
        have hm := Nat.mod_lt x (show 0 < 64 by decide)
        refine ⟨by simp; omega, ?_, ?_⟩
        · rw [Nat.pow_succ, ← Nat.div_div_eq_div_mul, ← b]; omega
        · rw [List.take_succ_cons, c, tl, ← b]
          congr 1
          omega
      · rw [if_neg hx] at h
        simp at h
theorem gat_len_of_err (n k : Nat) (r : List Nat) (h : (gat n k r).2 = 0) : k ≤ r.length := (gat_back n k r h).1
/-- what is got: nothing, or the number that is put as what was got -/
theorem get_back (bs : List Nat) : ((getOf bs).2.2 ≠ 0 ∧ getOf bs = (0, 0, (getOf bs).2.2) ∧ (getOf bs).2.2 < 13) ∨
    ∃ m, m < 68719476736 ∧ getOf bs = (m, szOf m, 0) ∧ szOf m ≤ bs.length ∧ bs.take (szOf m) = cd m := by
  cases bs with
  | nil => left; simp [getOf]
  | cons x r =>
    by_cases hb : begunOf x = 0
    · left; rw [getOf, if_pos hb]; simp
    · by_cases hg : (gat (x - mrk.getD (begunOf x - 1) 0) (begunOf x - 1) r).2 = 0
      · by_cases hs : szOf (gat (x - mrk.getD (begunOf x - 1) 0) (begunOf x - 1) r).1 < begunOf x
        · left; rw [getOf, if_neg hb, if_pos hg, if_pos hs]; simp
        · right
          obtain ⟨a, b, c⟩ := gat_back _ _ _ hg
          refine ⟨(gat (x - mrk.getD (begunOf x - 1) 0) (begunOf x - 1) r).1, ?_⟩
          rw [getOf, if_neg hb, if_pos hg, if_neg hs]
          generalize (gat (x - mrk.getD (begunOf x - 1) 0) (begunOf x - 1) r).1 = m at *
          have hk : (x < 128 ∧ begunOf x = 1) ∨ (192 ≤ x ∧ x < 224 ∧ begunOf x = 2) ∨ (224 ≤ x ∧ x < 240 ∧ begunOf x = 3) ∨ (240 ≤ x ∧ x < 248 ∧ begunOf x = 4) ∨ (248 ≤ x ∧ x < 252 ∧ begunOf x = 5) ∨ (252 ≤ x ∧ x < 254 ∧ begunOf x = 6) ∨ (x = 254 ∧ begunOf x = 7) := by
            revert hb
            unfold begunOf
            (repeat' split) <;> omega
          have key : m < 68719476736 ∧ szOf m = begunOf x ∧ x = mrk.getD (begunOf x - 1) 0 + m / 64 ^ (begunOf x - 1) := by
            rcases hk with ⟨h, e⟩ | ⟨h, g, e⟩ | ⟨h, g, e⟩ | ⟨h, g, e⟩ | ⟨h, g, e⟩ | ⟨h, g, e⟩ | ⟨h, e⟩ <;> rw [e] at b hs ⊢ <;> simp [mrk] at b ⊢ <;>
              rcases szOf_cases m with k | k | k | k | k | k | k <;> omega
          obtain ⟨k1, k2, k3⟩ := key
          refine ⟨k1, by rw [k2], by rw [k2]; simp; omega, ?_⟩
          have hz := szOf_bd m
          rw [← k2] at c k3
          obtain ⟨j, hj⟩ : ∃ j, szOf m = j + 1 := ⟨szOf m - 1, by omega⟩
          rw [cd, fb, ← k3]
          rw [hj] at c ⊢
          rw [List.take_succ_cons]
          rw [show j + 1 - 1 = j from rfl] at c ⊢
          rw [c]
      · left
        rw [getOf, if_neg hb, if_neg hg]
        have := gat_err (x - mrk.getD (begunOf x - 1) 0) (begunOf x - 1) r
        exact ⟨hg, rfl, by simp only; omega⟩

theorem fb_mono (n m : Nat) (hn : n < 68719476736) (hm : m < 68719476736) (h : n ≤ m) : fb n ≤ fb m := by
  rcases fb_cases n hn with a | a | a | a | a | a | a <;> rcases fb_cases m hm with b | b | b | b | b | b | b <;> omega
theorem tl_order (n m k j : Nat) (h0 : n / 64 ^ k = m / 64 ^ k) (hj : ∀ i, i < j → (tl n k)[i]? = (tl m k)[i]?) (x y : Nat) (hx : (tl n k)[j]? = some x) (hy : (tl m k)[j]? = some y) (h : x < y) : n < m := by
  induction k generalizing j with
  | zero => simp [tl] at hx
  | succ k ih =>
    have dn := down n k
    have dm := down m k
    cases j with
    | zero =>
      simp [tl] at hx hy
      by_cases hlt : n < m
      · exact hlt
      · have := Nat.div_le_div_right (c := 64 ^ k) (show m ≤ n by omega)
        omega
    | succ j =>
      have h1 := hj 0 (by omega)
      simp [tl] at h1 hx hy
      refine ih j (by omega) (fun i hi => ?_) hx hy
      have := hj (i + 1) (by omega)
      simpa [tl] using this
theorem cd_order (n m j : Nat) (hn : n < 68719476736) (hm : m < 68719476736) (hj : ∀ i, i < j → (cd n)[i]? = (cd m)[i]?) (x y : Nat) (hx : (cd n)[j]? = some x) (hy : (cd m)[j]? = some y) (h : x < y) : n < m := by
  cases j with
  | zero =>
    simp [cd] at hx hy
    by_cases hlt : n < m
    · exact hlt
    · have := fb_mono m n hm hn (by omega)
      omega
  | succ j =>
    have h1 := hj 0 (by omega)
    simp [cd] at h1 hx hy
    have a := fb_begun n hn
    have b := fb_begun m hm
    have e : szOf n = szOf m := by rw [← a.1, ← b.1, h1]
    rw [e] at hx
    refine tl_order n m (szOf m - 1) j ?_ (fun i hi => ?_) x y hx hy h
    · rw [← b.2.1, ← h1, ← e]; exact a.2.1.symm
    · have := hj (i + 1) (by omega)
      simp [cd] at this
      rw [e] at this
      exact this
/-- one code is the beginning of the other: they are one -/
theorem cd_begin (n m : Nat) (hn : n < 68719476736) (hm : m < 68719476736) (h : ∀ i, i < (cd n).length → i < (cd m).length → (cd n)[i]? = (cd m)[i]?) : n = m := by
  have one : ∀ n m, n < 68719476736 → m < 68719476736 → (∀ i, i < (cd n).length → i < (cd m).length → (cd n)[i]? = (cd m)[i]?) → (cd n).length ≤ (cd m).length → n = m := by
    intro n m hn hm h hl
    have e : cd m = cd n ++ (cd m).drop (cd n).length := by
      have : (cd m).take (cd n).length = cd n := by
        apply List.ext_getElem?
        intro i
        rw [List.getElem?_take]
        by_cases hi : i < (cd n).length
        · rw [if_pos hi, h i hi (by omega)]
        · rw [if_neg hi, List.getElem?_eq_none (by omega)]
      conv => lhs; rw [← List.take_append_drop (cd n).length (cd m), this]
    have g := get_put n hn ((cd m).drop (cd n).length)
    rw [← e] at g
    have g' := get_put m hm []
    rw [List.append_nil, g] at g'
    exact (Prod.mk.inj g').1
  by_cases hl : (cd n).length ≤ (cd m).length
  · exact one n m hn hm h hl
  · exact (one m n hm hn (fun i a b => (h i b a).symm) (by omega)).symm

/-- a code's byte at a place -/
theorem tl_at (n k i : Nat) (h : i < k) : (tl n k)[i]? = some (128 + n / 64 ^ (k - 1 - i) % 64) := by
  induction k generalizing i with
  | zero => omega
  | succ k ih =>
    cases i with
    | zero => simp [tl]
    | succ i => rw [tl, List.getElem?_cons_succ, ih i (by omega), show k + 1 - 1 - (i + 1) = k - 1 - i from by omega]
theorem cd_at0 (n : Nat) : (cd n)[0]? = some (mrk.getD (szOf n - 1) 0 + n / 64 ^ (szOf n - 1)) := rfl
theorem cd_at (n i : Nat) (h0 : 1 ≤ i) (h : i < szOf n) : (cd n)[i]? = some (128 + n / 64 ^ (szOf n - 1 - i) % 64) := by
  obtain ⟨j, rfl⟩ : ∃ j, i = j + 1 := ⟨i - 1, by omega⟩
  rw [cd, List.getElem?_cons_succ, tl_at _ _ _ (by omega), show szOf n - 1 - 1 - j = szOf n - 1 - (j + 1) from by omega]
end Go.Proofs.YteahiigfclabfaaDoor.U

namespace Go.Proofs.YteahiigfclabfaaDoor.U
open Go.RowKit

theorem src3 (w : World) (x y z : Nat) (hx : x < 256) (hy : y < 256) (hz : z < 256) (t : TypeId) : Src (w.alloc (.cells #[.int .u8 (x : Int), .int .u8 (y : Int), .int .u8 (z : Int)] t)) (.slice (some ⟨w.heap.size, 0, none⟩) 3 3) [x, y, z] := by
  refine Src.of_cells rfl (fun j hj => ?_) (by simp) (by simpa using ⟨hx, hy, hz⟩)
  match j, hj with
  | 0, _ => simp [byt]
  | 1, _ => simp [byt]
  | 2, _ => simp [byt]

/-- The table of package coded holds what start-up laid. -/
structure LaidC (w : World) : Prop where
  below : ∀ k, k < 7 → w.cell? ⟨7, k * 3, none⟩ = some (iv (bel.getD k 0 : Nat))
  mark : ∀ k, k < 7 → w.cell? ⟨7, k * 3 + 1, none⟩ = some (iv (mrk.getD k 0 : Nat))
  bits : ∀ k, k < 7 → w.cell? ⟨7, k * 3 + 2, none⟩ = some (iv (bts.getD k 0 : Nat))
theorem LaidC.nix {w w' : World} (h : LaidC w) (ho : Only Nix w w') : LaidC w' :=
  ⟨fun k hk => cell_keep ho (h.below k hk), fun k hk => cell_keep ho (h.mark k hk), fun k hk => cell_keep ho (h.bits k hk)⟩
end Go.Proofs.YteahiigfclabfaaDoor.U

namespace Go.Proofs.YteahiigfclabfaaDoor.U
open Go.RowKit

theorem bel_at (n s : Nat) (hn : n < 68719476736) (h1 : 1 ≤ s) (h2 : s ≤ szOf n) : (s < szOf n ↔ bel.getD (s - 1) 0 ≤ n) ∧ s ≤ 7 := by
  have hz := szOf_bd n
  refine ⟨?_, by omega⟩
  obtain rfl | rfl | rfl | rfl | rfl | rfl | rfl : s = 1 ∨ s = 2 ∨ s = 3 ∨ s = 4 ∨ s = 5 ∨ s = 6 ∨ s = 7 := by omega
  all_goals (simp [bel]; rcases szOf_cases n with h | h | h | h | h | h | h <;> omega)
def LenP (n : Nat) (s4 : Value) : Prop := ∃ s : Nat, 1 ≤ s ∧ s ≤ szOf n ∧ s4 = iv s

set_option maxHeartbeats 400000 in
theorem len_yes {w : World} (hL : LaidC w) (n : Nat) (z : Int) (hz : z = (n : Int)) (hn : n < 68719476736) :
    Calls Tryd.prog 49 #[iv z] w fun e w' => e = .returned (.tuple #[iv (szOf n : Nat), iv 0]) ∧ w = w' := by
  subst hz
  have d1 : ¬ ((n : Int) < 0) := by omega
  have d2 : ¬ ((68719476735 : Int) < (n : Int)) := by omega
  have HL := Lib.hid hL
  clear hL
  go_enter Tryd.func49, Tryd.ntmps49
  go_wp2
  go_loop [4] (fun s4 => LenP n s4) (fun s4 => szOf n - (intOf s4).toNat)
  case atStart => exact ⟨1, by omega, (szOf_bd n).1, rfl⟩
  case round =>
    obtain ⟨s, h1, h2, rfl⟩ := hrel
    obtain ⟨hb, h7⟩ := bel_at n s hn h1 h2
    have hc := HL.out.below (s - 1) (by omega)
    generalize bel.getD (s - 1) 0 = B at *
    by_cases hlt : B ≤ n
    · have hlt2 : (B : Int) ≤ (n : Int) := by omega
      go_wp2
      go_round
      case rel => exact ⟨s + 1, by omega, by omega, by go_num⟩
      case measure => simp [intOf]; omega
    · have hlt2 : decide (B ≤ n) = false := by simp; omega
      obtain rfl : s = szOf n := by omega
      go_wp2
      go_ret2
      exact ⟨rfl, rfl⟩

set_option maxHeartbeats 400000 in
theorem len_no {w : World} (z : Int) (hz : z < 0 ∨ 68719476735 < z) :
    Calls Tryd.prog 49 #[iv z] w fun e w' => e = .returned (.tuple #[iv 0, iv 10]) ∧ w = w' := by
  rcases hz with h | h
  · go_enter Tryd.func49, Tryd.ntmps49
    go_wp2
    go_ret2
    exact ⟨rfl, rfl⟩
  · have h' : ¬ z < 0 := by omega
    go_enter Tryd.func49, Tryd.ntmps49
    go_wp2
    go_ret2
    exact ⟨rfl, rfl⟩
end Go.Proofs.YteahiigfclabfaaDoor.U

namespace Go.Proofs.YteahiigfclabfaaDoor.U
open Go.RowKit

theorem begun_at : ∀ x, x < 256 → ∀ i, i < 7 → (begunOf x = 0 ∨ i < begunOf x) → ((x / 2 ^ bts.getD i 0 = mrk.getD i 0 / 2 ^ bts.getD i 0) ↔ begunOf x = i + 1) := by decide +kernel
def BegunP (w : World) (x : Nat) (s4 : Value) (wr : World) : Prop := ∃ i : Nat, i ≤ 7 ∧ (begunOf x = 0 ∨ i < begunOf x) ∧ s4 = iv i ∧ Only Nix w wr
theorem begun_le (x : Nat) : begunOf x ≤ 7 := by unfold begunOf; (repeat' split) <;> omega

set_option maxHeartbeats 1000000 in
theorem begun_any {w : World} (hL : LaidC w) (x : Nat) (hx : x < 256) :
    Calls Tryd.prog 74 #[iv (x : Int)] w fun e w' => e = .returned (iv (begunOf x : Nat)) ∧ Only Nix w w' := by
  have HL := Lib.hid hL
  clear hL
  go_enter Tryd.func74, Tryd.ntmps74
  go_wp2
  go_loopw [4] (fun s4 wr => BegunP w x s4 wr) (fun s4 _ => 7 - (intOf s4).toNat)
  case atStart => exact ⟨0, by omega, by omega, rfl, Only.refl _ _⟩
  case round =>
    obtain ⟨i, h1, h2, rfl, ho⟩ := hrel
    have hb7 := begun_le x
    by_cases hlt : i < 7
    · have HL2 := HL.out.nix ho
      have hm := HL2.mark i hlt
      have hbt := HL2.bits i hlt
      have hat := begun_at x hx i hlt h2
      clear HL2
      by_cases hq : begunOf x = i + 1
      · obtain rfl | rfl | rfl | rfl | rfl | rfl | rfl : i = 0 ∨ i = 1 ∨ i = 2 ∨ i = 3 ∨ i = 4 ∨ i = 5 ∨ i = 6 := by omega
        all_goals
          simp [mrk, bts] at hm hbt hat
        all_goals
          have hq2 := hat.2 hq
          clear hat
        · have hd : (((x : Int) / 128 : Int) == 0) = true := by simp; omega
          have Hq := Lib.hid hq
          clear hq2 hq
          go_wp2
          go_quiet (fail)
          go_wp2
          go_ret
          exact ⟨ret1 (by have := Hq.out; omega), ho.drewN _⟩
        · have hd : (((x : Int) / 32 : Int) == 6) = true := by simp; omega
          have Hq := Lib.hid hq
          clear hq2 hq
          go_wp2
          go_quiet (fail)
          go_wp2
          go_ret
          exact ⟨ret1 (by have := Hq.out; omega), ho.drewN _⟩
        · have hd : (((x : Int) / 16 : Int) == 14) = true := by simp; omega
          have Hq := Lib.hid hq
          clear hq2 hq
          go_wp2
          go_quiet (fail)
          go_wp2
          go_ret
          exact ⟨ret1 (by have := Hq.out; omega), ho.drewN _⟩
        · have hd : (((x : Int) / 8 : Int) == 30) = true := by simp; omega
          have Hq := Lib.hid hq
          clear hq2 hq
          go_wp2
          go_quiet (fail)
          go_wp2
          go_ret
          exact ⟨ret1 (by have := Hq.out; omega), ho.drewN _⟩
        · have hd : (((x : Int) / 4 : Int) == 62) = true := by simp; omega
          have Hq := Lib.hid hq
          clear hq2 hq
          go_wp2
          go_quiet (fail)
          go_wp2
          go_ret
          exact ⟨ret1 (by have := Hq.out; omega), ho.drewN _⟩
        · have hd : (((x : Int) / 2 : Int) == 126) = true := by simp; omega
          have Hq := Lib.hid hq
          clear hq2 hq
          go_wp2
          go_quiet (fail)
          go_wp2
          go_ret
          exact ⟨ret1 (by have := Hq.out; omega), ho.drewN _⟩
        · have hd : (((x : Int) : Int) == 254) = true := by simp; omega
          have Hq := Lib.hid hq
          clear hq2 hq
          go_wp2
          go_quiet (fail)
          go_wp2
          go_ret
          exact ⟨ret1 (by have := Hq.out; omega), ho.drewN _⟩
      · obtain rfl | rfl | rfl | rfl | rfl | rfl | rfl : i = 0 ∨ i = 1 ∨ i = 2 ∨ i = 3 ∨ i = 4 ∨ i = 5 ∨ i = 6 := by omega
        all_goals
          simp [mrk, bts] at hm hbt hat
        all_goals
          have hq2 : ¬ _ := fun h => hq (hat.1 h)
          clear hat
        · have hd : (((x : Int) / 128 : Int) == 0) = false := by simp; omega
          have Hq := Lib.hid hq
          clear hq2 hq
          go_wp2
          go_quiet (fail)
          go_wp2
          go_roundw
          case rel => exact ⟨1, by omega, by have := Hq.out; omega, by go_num, ho.drewN _⟩
          case measure => simp [intOf]
        · have hd : (((x : Int) / 32 : Int) == 6) = false := by simp; omega
          have Hq := Lib.hid hq
          clear hq2 hq
          go_wp2
          go_quiet (fail)
          go_wp2
          go_roundw
          case rel => exact ⟨2, by omega, by have := Hq.out; omega, by go_num, ho.drewN _⟩
          case measure => simp [intOf]
        · have hd : (((x : Int) / 16 : Int) == 14) = false := by simp; omega
          have Hq := Lib.hid hq
          clear hq2 hq
          go_wp2
          go_quiet (fail)
          go_wp2
          go_roundw
          case rel => exact ⟨3, by omega, by have := Hq.out; omega, by go_num, ho.drewN _⟩
          case measure => simp [intOf]
        · have hd : (((x : Int) / 8 : Int) == 30) = false := by simp; omega
          have Hq := Lib.hid hq
          clear hq2 hq
          go_wp2
          go_quiet (fail)
          go_wp2
          go_roundw
          case rel => exact ⟨4, by omega, by have := Hq.out; omega, by go_num, ho.drewN _⟩
          case measure => simp [intOf]
        · have hd : (((x : Int) / 4 : Int) == 62) = false := by simp; omega
          have Hq := Lib.hid hq
          clear hq2 hq
          go_wp2
          go_quiet (fail)
          go_wp2
          go_roundw
          case rel => exact ⟨5, by omega, by have := Hq.out; omega, by go_num, ho.drewN _⟩
          case measure => simp [intOf]
        · have hd : (((x : Int) / 2 : Int) == 126) = false := by simp; omega
          have Hq := Lib.hid hq
          clear hq2 hq
          go_wp2
          go_quiet (fail)
          go_wp2
          go_roundw
          case rel => exact ⟨6, by omega, by have := Hq.out; omega, by go_num, ho.drewN _⟩
          case measure => simp [intOf]
        · have hd : (((x : Int) : Int) == 254) = false := by simp; omega
          have Hq := Lib.hid hq
          clear hq2 hq
          go_wp2
          go_quiet (fail)
          go_wp2
          go_roundw
          case rel => exact ⟨7, by omega, by have := Hq.out; omega, by go_num, ho.drewN _⟩
          case measure => simp [intOf]
    · obtain rfl : i = 7 := by omega
      have h0 : Hid (begunOf x = 0) := (show begunOf x = 0 by omega)
      clear h2
      go_wp2
      go_ret
      exact ⟨ret1 (by rw [h0.out]; rfl), ho⟩
end Go.Proofs.YteahiigfclabfaaDoor.U

namespace Go.Proofs.YteahiigfclabfaaDoor.U
open Go.RowKit

theorem first_xor : ∀ x, x < 256 → begunOf x ≠ 0 → x ^^^ mrk.getD (begunOf x - 1) 0 = x - mrk.getD (begunOf x - 1) 0 ∧ x - mrk.getD (begunOf x - 1) 0 < 128 ∧ mrk.getD (begunOf x - 1) 0 < 256 := by decide +kernel
theorem and63 (v : Nat) (hv : v < 2 ^ 62) : bits .and .i64 (v : Int) 63 = ((v % 64 : Nat) : Int) := by
  have := i64_and_nat v 63 hv (by decide)
  rw [show (63 : Nat) = 2 ^ 6 - 1 from rfl, Nat.and_two_pow_sub_one_eq_mod] at this
  exact this
theorem or64 (a y : Nat) (ha : a < 2 ^ 50) (hy : y < 64) : bits .or .i64 ((a : Int) * 64) (y : Int) = ((a * 64 + y : Nat) : Int) := by
  have := i64_join (a * 64) y 6 (by omega) hy (by omega) (Nat.mul_mod_left _ _)
  rw [Int.natCast_mul] at this
  exact this
/-- where gathering stands: t bytes are gone through, N is what is gathered -/
def GatP (w : World) (bs : List Nat) (n0 S : Nat) (s4 s5 s6 : Value) (wr : World) : Prop :=
  s5 = iv 0 ∧ ∃ t N : Nat, 1 ≤ t ∧ t ≤ S ∧ t ≤ bs.length ∧ N < 128 * 64 ^ (t - 1) ∧ s4 = iv (N : Nat) ∧ s6 = iv (t : Nat) ∧ gat n0 (S - 1) (bs.drop 1) = gat N (S - t) (bs.drop t) ∧ Only Nix w wr
theorem gat_step (N k y : Nat) (r : List Nat) : gat N (k + 1) (y :: r) = if y / 64 = 2 then gat (N * 64 + y % 64) k r else (N, 12) := rfl
theorem pow64 (j : Nat) (h : j ≤ 6) : 64 ^ j ≤ 64 ^ 6 := Nat.pow_le_pow_right (by decide) h

set_option maxHeartbeats 1000000 in
theorem gather_any {w : World} (hL : LaidC w) (A : Option Addr) (c : Nat) (bs : List Nat) (x : Nat) (h : Src w (.slice A bs.length c) bs) (hx : bs[0]? = some x) (hb : begunOf x ≠ 0) :
    Calls Tryd.prog 75 #[.slice A bs.length c, iv (begunOf x : Nat)] w
      fun e w' => e = .returned (.tuple #[iv ((gat (x - mrk.getD (begunOf x - 1) 0) (begunOf x - 1) (bs.drop 1)).1 : Nat), iv ((gat (x - mrk.getD (begunOf x - 1) 0) (begunOf x - 1) (bs.drop 1)).2 : Nat)]) ∧ Only Nix w w' := by
  have hb7 := begun_le x
  obtain ⟨h0, hx0⟩ := List.getElem?_eq_some_iff.1 hx
  have hx256 : x < 256 := by rw [← hx0]; exact h.lt _ (List.getElem_mem h0)
  obtain ⟨fx1, fx2, fx3⟩ := first_xor x hx256 hb
  have hmk := hL.mark (begunOf x - 1) (by omega)
  obtain ⟨ad, rfl, hc0⟩ := h.at_ h0
  rw [hx0] at hc0
  have hxr : bits .xor .i64 (x : Int) (mrk.getD (begunOf x - 1) 0 : Nat) = ((x - mrk.getD (begunOf x - 1) 0 : Nat) : Int) := by
    rw [i64_xor_nat _ _ (by omega) (by omega), fx1]
  have hsm := h.small
  have Hs := Lib.hid h
  have hS1 : 1 ≤ begunOf x := by omega
  generalize begunOf x = S at *
  generalize mrk.getD (S - 1) 0 = M at *
  have hc0' : w.cell? ad = some (byt x) := by rw [Addr.add_zero'] at hc0; exact hc0
  clear hx hx0 fx1 hL hc0 h
  generalize hN0 : x - M = N0 at *
  clear hN0
  have e1 : ((S : Int) - 1).toNat = S - 1 := by omega
  have e2 : 0 ≤ (S : Int) - 1 := by omega
  have e3 : (S : Int) - 1 < 7 := by omega
  unfold byt at hc0'
  generalize hG : gat N0 (S - 1) (bs.drop 1) = G at *
  have HG := Lib.hid hG
  clear hG
  go_enter Tryd.func75, Tryd.ntmps75
  go_wp2
  go_step3
  go_wp2
  go_quiet (fail)
  go_wp2
  go_step3
  go_wp2
  go_loopw [4, 5, 6] (fun s4 s5 s6 wr => GatP w bs N0 S s4 s5 s6 wr) (fun _ _ s6 _ => S - (intOf s6).toNat)
  case atStart => exact ⟨rfl, 1, N0, by omega, hS1, by omega, by simpa using fx2, rfl, rfl, rfl, (Only.refl _ _).drewN _⟩
  case round =>
    obtain ⟨rfl, t, N, ht1, htS, htb, hN, rfl, rfl, hg, ho⟩ := hrel
    rw [HG.out] at hg
    have Hg := Lib.hid hg
    have hp6 := pow64 (t - 1) (by omega)
    have hN2 : N < 8796093022208 := by have : 128 * 64 ^ (t - 1) ≤ 128 * 64 ^ 6 := Nat.mul_le_mul_left _ hp6; omega
    clear hg hp6
    by_cases hlt : t < S
    · by_cases hend : t = bs.length
      · have hg1 : G = (N, 11) := by
          rw [Hg.out, List.drop_of_length_le (by omega), show S - t = (S - t - 1) + 1 from by omega, gat]
        have Hg1 := Lib.hid hg1
        clear hg1
        have hlt2 : (t : Int) < (S : Int) := by omega
        have hq : ((t : Int) == (bs.length : Int)) = true := by simp; omega
        clear hN hN2
        have Hend := Lib.hid hend
        clear hend
        go_wp2
        rw [Exit.noGoto_ret]
        go_ret2
        exact ⟨ret2 (by rw [Hg1.out]) (by rw [Hg1.out]; rfl), ho⟩
      · have hltb : t < bs.length := by omega
        have hS := Hs.out.nix ho
        obtain ⟨ad', hadr, hy⟩ := hS.at_ hltb
        injection hadr with hadr
        subst hadr
        have hy256 := hS.lt _ (List.getElem_mem hltb)
        have hdrop : bs.drop t = bs[t] :: bs.drop (t + 1) := List.drop_eq_getElem_cons hltb
        have hg1 : G = if bs[t] / 64 = 2 then gat (N * 64 + bs[t] % 64) (S - (t + 1)) (bs.drop (t + 1)) else (N, 12) := by
          rw [Hg.out, hdrop, show S - t = (S - (t + 1)) + 1 from by omega, gat_step]
        have Hg1 := Lib.hid hg1
        clear hg1 hdrop hS
        unfold byt at hy
        generalize bs[t] = y at *
        have hlt2 : (t : Int) < (S : Int) := by omega
        have hq : ((t : Int) == (bs.length : Int)) = false := by simp; omega
        by_cases hy2 : y / 64 = 2
        · have hg2 : gat N0 (S - 1) (bs.drop 1) = gat (N * 64 + y % 64) (S - (t + 1)) (bs.drop (t + 1)) := by
            rw [HG.out, Hg1.out, if_pos hy2]
          have Hg2 := Lib.hid hg2
          have hd : ((y : Int) / 64 != 2) = false := by simp; omega
          have ha := and63 y (by omega)
          have hor : Hid (bits .or .i64 ((N : Int) * 64) ((y : Int) % 64) = ((N * 64 + y % 64 : Nat) : Int)) := or64 N (y % 64) (by omega) (Nat.mod_lt _ (by decide))
          have hN3 : N * 64 + y % 64 < 128 * 64 ^ (t + 1 - 1) := by
            have e : 64 ^ (t + 1 - 1) = 64 ^ (t - 1) * 64 := by rw [← Nat.pow_succ, show t + 1 - 1 = (t - 1) + 1 from by omega]
            rw [e]; generalize 64 ^ (t - 1) = P at *; omega
          have HN3 := Lib.hid hN3
          clear hg2 hN3 hN hy2 hend Hg Hg1
          go_wp2
          go_roundw
          case rel => exact ⟨rfl, t + 1, _, by omega, by omega, by omega, HN3.out, congrArg (Value.int .i64) hor.out, by go_num, Hg2.out, ho⟩
          case measure => simp [intOf]; omega
        · have hg2 : G = (N, 12) := by rw [Hg1.out, if_neg hy2]
          have Hg2 := Lib.hid hg2
          have hd : ((y : Int) / 64 != 2) = true := by simp; omega
          clear hg2 hN hy2 hend Hg Hg1
          go_wp2
          rw [Exit.noGoto_ret]
          go_ret2
          exact ⟨ret2 (by rw [Hg2.out]) (by rw [Hg2.out]; rfl), ho⟩
    · have hg1 : G = (N, 0) := by
        rw [Hg.out, show S - t = 0 from by omega, gat]
      have Hg1 := Lib.hid hg1
      have hlt2 : decide ((t : Int) < (S : Int)) = false := by simp; omega
      have hlt3 : decide (t < S) = false := by simp; omega
      clear hg1 hN Hg
      go_wp2
      rw [Exit.noGoto_ret]
      go_ret2
      exact ⟨ret2 (by rw [Hg1.out]) (by rw [Hg1.out]; rfl), ho⟩
end Go.Proofs.YteahiigfclabfaaDoor.U

namespace Go.Proofs.YteahiigfclabfaaDoor.U
open Go.RowKit

theorem begun_cases (x : Nat) (hb : begunOf x ≠ 0) : (x < 128 ∧ begunOf x = 1) ∨ (192 ≤ x ∧ x < 224 ∧ begunOf x = 2) ∨ (224 ≤ x ∧ x < 240 ∧ begunOf x = 3) ∨ (240 ≤ x ∧ x < 248 ∧ begunOf x = 4) ∨ (248 ≤ x ∧ x < 252 ∧ begunOf x = 5) ∨ (252 ≤ x ∧ x < 254 ∧ begunOf x = 6) ∨ (x = 254 ∧ begunOf x = 7) := by
  revert hb
  unfold begunOf
  (repeat' split) <;> omega
theorem gat_lt (x : Nat) (hb : begunOf x ≠ 0) (r : List Nat) (hg : (gat (x - mrk.getD (begunOf x - 1) 0) (begunOf x - 1) r).2 = 0) : (gat (x - mrk.getD (begunOf x - 1) 0) (begunOf x - 1) r).1 < 68719476736 := by
  obtain ⟨_, b, _⟩ := gat_back _ _ _ hg
  generalize (gat (x - mrk.getD (begunOf x - 1) 0) (begunOf x - 1) r).1 = m at *
  rcases begun_cases x hb with ⟨h, e⟩ | ⟨h, g, e⟩ | ⟨h, g, e⟩ | ⟨h, g, e⟩ | ⟨h, g, e⟩ | ⟨h, g, e⟩ | ⟨h, e⟩ <;> rw [e] at b <;> simp [mrk] at b <;> omega
theorem ret3 {a b c a' b' c' : Int} (h : a = a') (h' : b = b') (h'' : c = c') : Ending.returned (.tuple #[iv a, iv b, iv c]) = .returned (.tuple #[iv a', iv b', iv c']) := by rw [h, h', h'']
/-- what Get answers -/
def gotten (bs : List Nat) : Ending := .returned (.tuple #[iv ((getOf bs).1 : Nat), iv ((getOf bs).2.1 : Nat), iv ((getOf bs).2.2 : Nat)])

set_option maxHeartbeats 1000000 in
theorem get_any {w : World} (hL : LaidC w) (A : Option Addr) (c : Nat) (bs : List Nat) (h : Src w (.slice A bs.length c) bs) :
    Calls Tryd.prog 70 #[.slice A bs.length c] w fun e w' => e = gotten bs ∧ Only Nix w w' := by
  have HL := Lib.hid hL
  have Hs := Lib.hid h
  cases bs with
  | nil =>
    clear hL h
    go_enter Tryd.func70, Tryd.ntmps70
    go_wp2
    go_ret3
    exact ⟨rfl, Only.refl _ _⟩
  | cons x r =>
    obtain ⟨ad, rfl, hc0⟩ := h.at_ (k := 0) (by simp)
    rw [Addr.add_zero', List.getElem_cons_zero] at hc0
    unfold byt at hc0
    have hx := h.lt x (List.mem_cons_self ..)
    have hg0 : getOf (x :: r) = if begunOf x = 0 then (0, 0, 12)
      else if (gat (x - mrk.getD (begunOf x - 1) 0) (begunOf x - 1) r).2 = 0 then
        (if szOf (gat (x - mrk.getD (begunOf x - 1) 0) (begunOf x - 1) r).1 < begunOf x then (0, 0, 12) else ((gat (x - mrk.getD (begunOf x - 1) 0) (begunOf x - 1) r).1, begunOf x, 0))
      else (0, 0, (gat (x - mrk.getD (begunOf x - 1) 0) (begunOf x - 1) r).2) := rfl
    have hlen : ((r.length + 1 : Nat) : Int) ≠ 0 := by omega
    have hsm := h.small
    rw [List.length_cons] at hsm
    clear hL h
    have HB := Lib.hid (begun_any HL.out x hx)
    by_cases hb : begunOf x = 0
    · rw [hb] at HB
      rw [if_pos hb] at hg0
      have Hg := Lib.hid hg0
      clear hg0 hb
      go_enter Tryd.func70, Tryd.ntmps70
      go_wp2_with fail
      refine (HB.out).mono ?_
      rintro e w1 ⟨rfl, o1⟩
      go_wp2
      go_ret3
      exact ⟨by unfold gotten; rw [Hg.out]; rfl, o1⟩
    · rw [if_neg hb] at hg0
      have hb7 := begun_le x
      have HG : Hid (∀ u, Only Nix w u → Calls Tryd.prog 75 #[.slice (some ad) (r.length + 1) c, iv (begunOf x : Nat)] u
          fun e w' => e = .returned (.tuple #[iv ((gat (x - mrk.getD (begunOf x - 1) 0) (begunOf x - 1) r).1 : Nat), iv ((gat (x - mrk.getD (begunOf x - 1) 0) (begunOf x - 1) r).2 : Nat)]) ∧ Only Nix u w') :=
        fun u o => gather_any (HL.out.nix o) (some ad) c (x :: r) x (Hs.out.nix o) rfl hb
      have hlt := gat_lt x hb r
      have herr := gat_err (x - mrk.getD (begunOf x - 1) 0) (begunOf x - 1) r
      generalize gat (x - mrk.getD (begunOf x - 1) 0) (begunOf x - 1) r = G at *
      obtain ⟨N, E⟩ := G
      simp only at hg0 HG hlt herr
      generalize begunOf x = S at *
      have hS0 : ((S : Int) == 0) = false := by simp; omega
      by_cases hE : E = 0
      · subst hE
        have hN := hlt rfl
        rw [if_pos rfl] at hg0
        clear hlt herr
        have HN : Hid (∀ u, Only Nix w u → Calls Tryd.prog 49 #[iv (N : Int)] u fun e w' => e = .returned (.tuple #[iv (szOf N : Nat), iv 0]) ∧ u = w') := fun u o => len_yes (HL.out.nix o) N _ rfl hN
        have hz := szOf_bd N
        by_cases hs : szOf N < S
        · rw [if_pos hs] at hg0
          have Hg := Lib.hid hg0
          clear hg0
          generalize szOf N = Z at *
          have hs2 : (Z : Int) < (S : Int) := by omega
          go_enter Tryd.func70, Tryd.ntmps70
          go_wp2_with fail
          refine (HB.out).mono ?_
          rintro e w1 ⟨rfl, o1⟩
          go_wp2_with fail
          refine (HG.out _ o1).mono ?_
          rintro e w2 ⟨rfl, o2⟩
          go_wp2_with fail
          refine (HN.out _ (o1.trans o2)).mono ?_
          rintro e w3 ⟨rfl, rfl⟩
          go_wp2
          go_ret3
          exact ⟨by unfold gotten; rw [Hg.out]; rfl, o1.trans o2⟩
        · rw [if_neg hs] at hg0
          have Hg := Lib.hid hg0
          clear hg0
          generalize szOf N = Z at *
          have hs2 : decide (Z < S) = false := by simp; omega
          go_enter Tryd.func70, Tryd.ntmps70
          go_wp2_with fail
          refine (HB.out).mono ?_
          rintro e w1 ⟨rfl, o1⟩
          go_wp2_with fail
          refine (HG.out _ o1).mono ?_
          rintro e w2 ⟨rfl, o2⟩
          go_wp2_with fail
          refine (HN.out _ (o1.trans o2)).mono ?_
          rintro e w3 ⟨rfl, rfl⟩
          go_wp2
          go_ret3
          exact ⟨by unfold gotten; rw [Hg.out]; rfl, o1.trans o2⟩
      · rw [if_neg hE] at hg0
        have Hg := Lib.hid hg0
        have hE2 : ((E : Int) != 0) = true := by simp; omega
        clear hg0 hlt
        go_enter Tryd.func70, Tryd.ntmps70
        go_wp2_with fail
        refine (HB.out).mono ?_
        rintro e w1 ⟨rfl, o1⟩
        go_wp2_with fail
        refine (HG.out _ o1).mono ?_
        rintro e w2 ⟨rfl, o2⟩
        go_wp2
        go_ret3
        exact ⟨by unfold gotten; rw [Hg.out]; rfl, o1.trans o2⟩
end Go.Proofs.YteahiigfclabfaaDoor.U

namespace Go.Proofs.YteahiigfclabfaaDoor.U
open Go.RowKit

theorem shr6 (n k : Nat) : (n : Int) / 2 ^ (6 * k) = ((n / 64 ^ k : Nat) : Int) := by
  rw [pow_cast, Nat.pow_mul, ← Int.natCast_ediv]
theorem or_nat (a y m : Nat) (ha : a < 2 ^ 61) (hy : y < 2 ^ m) (hy2 : y < 2 ^ 61) (hd : a % 2 ^ m = 0) : bits .or .i64 (a : Int) (y : Int) = ((a + y : Nat) : Int) := i64_join a y m (by omega) hy (by omega) hd
theorem or_mark (n : Nat) (hn : n < 68719476736) : bits .or .i64 (mrk.getD (szOf n - 1) 0 : Nat) ((n / 64 ^ (szOf n - 1) : Nat) : Int) = (fb n : Int) := by
  rcases szOf_cases n with ⟨h, e⟩ | ⟨h, g, e⟩ | ⟨h, g, e⟩ | ⟨h, g, e⟩ | ⟨h, g, e⟩ | ⟨h, g, e⟩ | ⟨h, e⟩
  · have := or_nat 0 n 7 (by decide) (by omega) (by omega) (by decide); simpa [fb, e, mrk] using this
  · have := or_nat 192 (n / 64) 5 (by decide) (by omega) (by omega) (by decide); simpa [fb, e, mrk] using this
  · have := or_nat 224 (n / 4096) 4 (by decide) (by omega) (by omega) (by decide); simpa [fb, e, mrk] using this
  · have := or_nat 240 (n / 262144) 3 (by decide) (by omega) (by omega) (by decide); simpa [fb, e, mrk] using this
  · have := or_nat 248 (n / 16777216) 2 (by decide) (by omega) (by omega) (by decide); simpa [fb, e, mrk] using this
  · have := or_nat 252 (n / 1073741824) 1 (by decide) (by omega) (by omega) (by decide); simpa [fb, e, mrk] using this
  · have := or_nat 254 (n / 68719476736) 0 (by decide) (by omega) (by omega) (by decide); simpa [fb, e, mrk] using this
theorem or_128 (y : Nat) (hy : y < 64) : bits .or .i64 128 (y : Int) = ((128 + y : Nat) : Int) := or_nat 128 y 6 (by decide) (by omega) (by omega) (by decide)

set_option maxHeartbeats 1000000 in
theorem code1_any {w : World} (hL : LaidC w) (n at_ S x : Nat) (p q : Addr) (hp : w.cell? p = some (iv n)) (hq : w.cell? q = some (iv S)) (hS : S = szOf n) (hn : n < 68719476736) (hat : at_ < S) (hx : (cd n)[at_]? = some x) :
    Calls Tryd.prog 67 #[iv at_, .pointer (some p), .pointer (some q)] w fun e w' => e = .returned (.int .u8 (x : Int)) ∧ w = w' := by
  have hz := szOf_bd n
  by_cases h0 : at_ = 0
  · subst h0
    have hx2 : x = fb n := by rw [cd_at0] at hx; exact (Option.some.inj hx).symm
    have hm := hL.mark (szOf n - 1) (by omega)
    have hs := shr6 n (szOf n - 1)
    have ho := or_mark n hn
    have h256 := (fb_begun n hn).2.2
    rw [← hx2] at ho h256
    rw [← hS] at hm hs ho hz
    have hx256 : (x : Int) % 256 = (x : Int) := by omega
    clear hL hx2 hx hS
    generalize mrk.getD (S - 1) 0 = M at *
    generalize n / 64 ^ (S - 1) = V at *
    go_enter Tryd.func67, Tryd.ntmps67
    go_wp2
    go_ret
    exact ⟨rfl, rfl⟩
  · have hx2 := cd_at n at_ (by omega) (by omega)
    rw [hx] at hx2
    have hx3 := Option.some.inj hx2
    have hs := shr6 n (szOf n - 1 - at_)
    rw [← hS] at hs hx3 hz
    have hlt : n / 64 ^ (S - 1 - at_) ≤ n := Nat.div_le_self _ _
    clear hL hx hS hx2
    generalize n / 64 ^ (S - 1 - at_) = V at *
    have ha := and63 V (by omega)
    have ho : bits .or .i64 128 ((V : Int) % 64) = ((128 + V % 64 : Nat) : Int) := or_128 (V % 64) (Nat.mod_lt _ (by decide))
    rw [← hx3] at ho
    have hx256 : (x : Int) % 256 = (x : Int) := by omega
    have d1 : 0 ≤ (S : Int) - 1 - (at_ : Int) := by omega
    have d2 : ((at_ : Int) == 0) = false := by simp; omega
    have HH := Lib.hid hx3
    clear hx3
    go_enter Tryd.func67, Tryd.ntmps67
    go_wp2
    go_ret
    exact ⟨rfl, rfl⟩
set_option maxHeartbeats 1000000 in
theorem code_any {w : World} (n S : Nat) :
    Calls Tryd.prog 50 #[iv n, iv S] w fun e w' => e = .returned (.func (.func 67) #[] #[.pointer (some ⟨w.heap.size, 0, none⟩), .pointer (some ⟨w.heap.size + 1, 0, none⟩)]) ∧ (w.alloc (.cells #[iv n] 3)).alloc (.cells #[iv S] 3) = w' := by
  go_enter Tryd.func50, Tryd.ntmps50
  go_wp2
  go_ret
  exact ⟨rfl, rfl⟩
end Go.Proofs.YteahiigfclabfaaDoor.U

namespace Go.Proofs.YteahiigfclabfaaDoor.U
open Go.RowKit

set_option maxHeartbeats 400000 in
theorem put_no {w : World} (z : Int) (hz : z < 0 ∨ 68719476735 < z) :
    Calls Tryd.prog 27 #[iv z] w fun e w' => e = .returned (.tuple #[.slice none 0 0, iv 10]) ∧ w = w' := by
  go_enter Tryd.func27, Tryd.ntmps27
  go_wp2_with fail
  refine (len_no z hz).mono ?_
  rintro e w1 ⟨rfl, rfl⟩
  go_wp2
  go_ret2
  exact ⟨rfl, rfl⟩

theorem made_byte (S : Nat) : madeCells #[.int .u8 0] S = (List.replicate S (byt 0)).toArray := by
  apply Array.ext
  · simp [madeCells]
  · intro i h1 h2
    simp [madeCells, byt, Nat.mod_one]
/-- one byte more -/
theorem put_cells (n S j x : Nat) (hS : (cd n).length = S) (hj : j < S) (hx : (cd n)[j]? = some x) :
    (((cd n).take j).map byt ++ List.replicate (S - j) (byt 0)).toArray.setIfInBounds j (byt x) = (((cd n).take (j + 1)).map byt ++ List.replicate (S - (j + 1)) (byt 0)).toArray := by
  have hl : (((cd n).take j).map byt).length = j := by rw [List.length_map, List.length_take]; omega
  have ht : (cd n).take (j + 1) = (cd n).take j ++ [x] := by
    rw [List.take_add_one, hx]; rfl
  obtain ⟨r, hr⟩ : ∃ r, S - j = r + 1 := ⟨S - j - 1, by omega⟩
  rw [List.setIfInBounds_toArray, List.set_append_right _ _ (by omega), hl, Nat.sub_self, ht, hr, show S - (j + 1) = r from by omega, List.replicate_succ, List.set_cons_zero]
  simp
/-- j bytes are laid -/
def PutP (w : World) (n S : Nat) (s24 : Value) (wr : World) : Prop :=
  ∃ j : Nat, j ≤ S ∧ s24 = iv j ∧ Box wr (w.heap.size + 1 + 1) 5 (((cd n).take j).map byt ++ List.replicate (S - j) (byt 0)).toArray ∧ Box wr w.heap.size 3 #[iv n] ∧ Box wr (w.heap.size + 1) 3 #[iv S] ∧ Only Nix w wr

set_option maxHeartbeats 1000000 in
theorem put_yes {w : World} (hL : LaidC w) (n : Nat) (hn : n < 68719476736) :
    Calls Tryd.prog 27 #[iv n] w fun e w' => ∃ g, w.heap.size ≤ g ∧ e = .returned (.tuple #[.slice (some ⟨g, 0, none⟩) (szOf n) (szOf n), iv 0]) ∧ Box w' g 5 ((cd n).map byt).toArray ∧ Only Nix w w' := by
  have hz := szOf_bd n
  have hlen := Lib.hid (cd_len n)
  have hcl := Lib.hid (cd_lt n hn)
  have HL := Lib.hid hL
  have HLO : Hid (∀ u, Only Nix w u → LaidC u) := fun u o => HL.out.nix o
  clear hL
  go_enter Tryd.func27, Tryd.ntmps27
  go_wp2_with fail
  refine (len_yes HL.out n _ rfl hn).mono ?_
  rintro e w1 ⟨rfl, rfl⟩
  generalize hS : szOf n = S at *
  have HS := Lib.hid hS
  clear hS
  go_wp2_with fail
  refine (code_any n S).mono ?_
  rintro e w1 ⟨rfl, rfl⟩
  have hmk := run_make_row' (P := Tryd.prog) 28 5 (.int .u8 0) 1 Tryd.underlying28 Tryd.info_byte rfl .i64 .i64 S (by omega) (by omega)
  go_wp2
  clear hmk
  go_loopw [24] (fun s24 wr => PutP w n S s24 wr) (fun s24 _ => S - (intOf s24).toNat)
  case atStart =>
    refine ⟨0, by omega, rfl, ?_, ?_, ?_, (((Only.refl _ _).alloc _).alloc _).alloc _⟩
    · have := Box.new ((w.alloc (.cells #[iv n] 3)).alloc (.cells #[iv S] 3)) 5 (madeCells #[.int .u8 0] S)
      rw [made_byte] at this ⊢
      simpa using this
    · exact ((Box.new w _ _).alloc _).alloc _
    · have := (Box.new (w.alloc (.cells #[iv n] 3)) 3 #[iv S]).alloc (.cells (madeCells #[.int .u8 0] S) 5)
      rw [World.size_alloc] at this
      exact this
  case round =>
    obtain ⟨j, hj, rfl, hB, hBn, hBS, ho⟩ := hrel
    by_cases hlt : j < S
    · obtain ⟨x, hx⟩ : ∃ x, (cd n)[j]? = some x := ⟨_, List.getElem?_eq_getElem (by rw [hlen.out]; exact hlt)⟩
      have hx256 := hcl.out x (List.mem_of_getElem? hx)
      have HC := Lib.hid (code1_any (HLO.out _ ho) n j S x ⟨w.heap.size, 0, none⟩ ⟨w.heap.size + 1, 0, none⟩ (by rw [hBn.cell]; rfl) (by rw [hBS.cell]; rfl) HS.out.symm hn hlt hx)
      have HP := Lib.hid (put_cells n S j x hlen.out hlt hx)
      have hcell := hB.cell j
      have hfr := hB.frozen j
      have hcj : (((cd n).take j).map byt ++ List.replicate (S - j) (byt 0)).toArray[j]? = some (byt 0) := by
        have hl : (((cd n).take j).map byt).length = j := by rw [List.length_map, List.length_take, hlen.out]; omega
        rw [List.getElem?_toArray, List.getElem?_append_right (by omega), hl, Nat.sub_self, List.getElem?_replicate, if_pos (by omega)]
      rw [hcj] at hcell
      have hlt2 : (j : Int) < (S : Int) := by omega
      have HB := Lib.hid hB
      have HBn := Lib.hid hBn
      have HBS := Lib.hid hBS
      clear hx hB hBn hBS hcj
      go_wp2_with fail
      refine (HC.out).mono ?_
      rintro e w2 ⟨rfl, rfl⟩
      go_wp2
      go_roundw
      case rel =>
        refine ⟨j + 1, by omega, by go_num, ?_, HBn.out.off (by simp; omega) _, HBS.out.off (by simp) _, ho.setCell (.inr (by simp; omega)) _⟩
        rw [← HP.out]
        exact HB.out.put j (byt x)
      case measure => simp [intOf]; omega
    · obtain rfl : j = S := by omega
      have hlt2 : decide (j < j) = false := by simp
      go_wp2
      go_ret2
      have hT : (cd n).take j = cd n := List.take_of_length_le (by rw [hlen.out]; exact Nat.le_refl _)
      rw [hT, Nat.sub_self, List.replicate_zero, List.append_nil] at hB
      exact ⟨w.heap.size + 1 + 1, by omega, by rw [HS.out]; rfl, hB, ho⟩

/-- a block of bytes, as a slice -/
theorem src_box {w : World} {g m c : Nat} {bs : List Nat} (h : Box w g 5 (bs.map byt).toArray) (hm : bs.length = m) (hs : bs.length ≤ 140737488355328) (hlt : ∀ x ∈ bs, x < 256) : Src w (.slice (some ⟨g, 0, none⟩) m c) bs := by
  refine Src.of_cells hm (fun j hj => ?_) hs hlt
  rw [h.cell, Nat.zero_add]
  simp [hj]
theorem src_cd {w : World} {g n : Nat} (hn : n < 68719476736) (h : Box w g 5 ((cd n).map byt).toArray) : Src w (.slice (some ⟨g, 0, none⟩) (szOf n) (szOf n)) (cd n) := by
  have := szOf_bd n
  have hl := cd_len n
  exact src_box h hl (by omega) (cd_lt n hn)
end Go.Proofs.YteahiigfclabfaaDoor.U

namespace Go.Proofs.YteahiigfclabfaaDoor.U
open Go.RowKit

set_option maxRecDepth 100000 in
/-- bytes b... (nil, empty or not), appended to a row of the call's own -/
theorem run_append_bytes {w : World} (base : Nat) (v : Value) (n : Nat) (xs : List Value) (hown : w.ownsRow base 5 1 v n xs) (A : Option Addr) (m c : Nat) (bs : List Nat) (hs : Src w (.slice A m c) bs)
    (h63 : n + m ≤ 1000000) (hbase : base ≤ w.heap.size) (ty : TypeId) :
    ∃ v' w', (Builtin.append_ #[28, 28] ty #[v, .slice A m c]).run Tryd.prog w = .ok v' w' ∧ w'.ownsRow base 5 1 v' (n + m) (xs ++ bs.map byt) ∧ w.grownBy w' v.ownBlock ∧ (v'.ownBlock = v.ownBlock ∨ v'.ownBlock = some w.heap.size) := by
  obtain ⟨i0, hi, hz0, hz1, hz2⟩ := info_parts Tryd.info_byte
  obtain rfl := hs.len
  cases A with
  | some ad =>
    obtain ⟨v', w', h1, h2, h3, _, h5⟩ := run_append_own_at (P := Tryd.prog) w base 28 ty 5 i0 (.int .u8 0) 1 1 Tryd.underlying28 hi hz0 hz1 hz2 rfl (by decide) v n xs hown ad bs.length c (bs.map byt) (by simp)
      (fun j u hu => by
        rw [List.getElem?_map] at hu
        obtain ⟨x, hx, rfl⟩ := Option.map_eq_some_iff.1 hu
        obtain ⟨hj, rfl⟩ := List.getElem?_eq_some_iff.1 hx
        obtain ⟨ad', e, hc⟩ := hs.at_ hj
        injection e with e
        subst e
        exact hc)
      (fun u hu => by obtain ⟨y, _, rfl⟩ := List.mem_map.1 hu; rfl) (by unfold maxLen; omega) (by omega) hbase
    exact ⟨v', w', h1, h2, h3, h5⟩
  | none =>
    have hb : bs = [] := by
      cases bs with
      | nil => rfl
      | cons x r =>
        obtain ⟨ad', e, _⟩ := hs.at_ (k := 0) (by simp)
        cases e
    subst hb
    have hsrc : Go.Src Tryd.prog i0.size 28 (.slice none 0 c) 0 [] w := Go.Src.ofNil w Tryd.underlying28 c
    have key : ∀ B k d, v = .slice B k d → k ≤ d → (Builtin.append_ #[28, 28] ty #[v, .slice none 0 c]).run Tryd.prog w = .ok v w := by
      rintro B k d rfl hle
      exact run_append_nothing w 28 28 ty 5 i0 Tryd.underlying28 hi B k d hle _ hsrc
    refine ⟨v, w, ?_, by simpa using hown, ⟨rfl, rfl, rfl, Nat.le_refl _, fun _ _ _ => rfl⟩, .inl rfl⟩
    rcases hown.2 with ⟨hv, _⟩ | ⟨g, cap, cur, hv, _, _, hle, _⟩
    · exact key _ _ _ hv (Nat.le_refl _)
    · exact key _ _ _ hv hle
/-- .. at the operation -/
theorem wpList_append_bytes {w : World} {ops : Array Oper} {rest : List Oper} {o : Oper} {a : Act} {Q : Exit → Act → World → Prop} (hgd : o.guard = none) (s x : Operand)
    (ho : o.op = .call { callee := .builtin .append, args := #[s, x], argTypes := #[28, 28] })
    (base : Nat) (v : Value) (n : Nat) (xs : List Value) (hs : a.eval s = v) (hown : w.ownsRow base 5 1 v n xs)
    (A : Option Addr) (m c : Nat) (bs : List Nat) (hx : a.eval x = .slice A m c) (hsrc : Src w (.slice A m c) bs) (h63 : n + m ≤ 1000000) (hbase : base ≤ w.heap.size)
    (h : ∀ v' w', w'.ownsRow base 5 1 v' (n + m) (xs ++ bs.map byt) → w.grownBy w' v.ownBlock → (v'.ownBlock = v.ownBlock ∨ v'.ownBlock = some w.heap.size) → wpList Tryd.prog ops Q rest (a.put o.dst v') w') :
    wpList Tryd.prog ops Q (o :: rest) a w := by
  refine wpList_plain hgd fun K hK => ?_
  obtain ⟨v', w', hr, h2, h3, h4⟩ := run_append_bytes base v n xs hown A m c bs hsrc h63 hbase o.type
  unfold Oper.wp execOp
  simp only [ho, resolve, invoke, builtin, Sem.run_bind, Sem.run_pure, Result.andThen_ok, List.map_toArray, List.map_cons, List.map_nil, hs, hx, hr]
  exact hK _ _ (h v' w' h2 h3 h4)
/-- a row of the call's own, as a slice of bytes -/
theorem owns_src {w : World} {base n : Nat} {v : Value} {bs : List Nat} (h : w.ownsRow base 5 1 v n (bs.map byt)) (hs : bs.length ≤ 140737488355328) (hlt : ∀ x ∈ bs, x < 256) : Src w v bs := by
  have hn : bs.length = n := by have := h.1; simpa using this
  rcases h.2 with ⟨rfl, h0⟩ | ⟨g, cap, cur, rfl, _, hg, hle, _, hsz, ht⟩
  · have : bs = [] := List.eq_nil_of_length_eq_zero (by omega)
    subst this
    exact Src.nil w
  · refine Src.of_cells hn (fun j hj => ?_) hs hlt
    rw [cell_of_row w g _ cur 5 (0, 0) hg, Nat.zero_add]
    have h2 : (bs.map byt)[j]? = some (byt bs[j]) := by simp [hj]
    rw [← ht, List.getElem?_take] at h2
    rw [if_pos (by omega)] at h2
    simpa using h2
/-- a block known whole, as a row of the call's own -/
theorem box_owns {w : World} {base g : Nat} {bs : List Nat} (h : Box w g 5 (bs.map byt).toArray) (hb : base ≤ g) (hs : bs.length ≤ 1000000) : w.ownsRow base 5 1 (.slice (some ⟨g, 0, none⟩) bs.length bs.length) bs.length (bs.map byt) :=
  ⟨by simp, .inr ⟨g, bs.length, _, rfl, hb, h, Nat.le_refl _, by unfold maxLen; omega, by simp, by simp only [Nat.mul_one]; exact List.take_of_length_le (by simp)⟩⟩
theorem owns_none {w : World} {base n : Nat} {v : Value} {xs : List Value} (h : w.ownsRow base 5 1 v n xs) (hn : 0 < n) : ∃ g c, v = .slice (some ⟨g, 0, none⟩) n c ∧ base ≤ g ∧ n ≤ c := by
  rcases h.2 with ⟨_, h0⟩ | ⟨g, cap, cur, rfl, hb, _, hle, _⟩
  · omega
  · exact ⟨g, cap, rfl, hb, hle⟩
end Go.Proofs.YteahiigfclabfaaDoor.U
