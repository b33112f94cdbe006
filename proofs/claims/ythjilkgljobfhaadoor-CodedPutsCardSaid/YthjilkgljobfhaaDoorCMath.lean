/-
  Plain mathematics of coded numbers: sizes, codes, what is got of bytes.
-/
import Derived.Test.YthjilkgljobfhaaDoorMath
namespace Go.Proofs.YthjilkgljobfhaaDoor

/-- the table: what numbers of a kind are below; what its first byte begins with; how many bits of the number that holds -/
def bel : List Nat := [128, 2048, 65536, 2097152, 67108864, 2147483648, 68719476736]
def mrk : List Nat := [0, 192, 224, 240, 248, 252, 254]
def bts : List Nat := [7, 5, 4, 3, 2, 1, 0]

/-- how many bytes a number's code has -/
def szOf (n : Nat) : Nat :=
  if n < 128 then 1 else if n < 2048 then 2 else if n < 65536 then 3 else if n < 2097152 then 4 else if n < 67108864 then 5 else if n < 2147483648 then 6 else 7
/-- the bytes behind the first one: k of them -/
def tl (n : Nat) : Nat → List Nat
  | 0 => []
  | k + 1 => (128 + n / 64 ^ k % 64) :: tl n k
/-- the first byte -/
def fb (n : Nat) : Nat := mrk.getD (szOf n - 1) 0 + n / 64 ^ (szOf n - 1)
/-- a number's code -/
def cd (n : Nat) : List Nat := fb n :: tl n (szOf n - 1)
/-- how many bytes a code has that begins with this one -/
def begunOf (x : Nat) : Nat :=
  if x < 128 then 1 else if x < 192 then 0 else if x < 224 then 2 else if x < 240 then 3 else if x < 248 then 4 else if x < 252 then 5 else if x < 254 then 6 else if x < 255 then 7 else 0
/-- what is gathered of k bytes more: the number, and the error -/
def gat (n : Nat) : Nat → List Nat → Nat × Nat
  | 0, _ => (n, 0)
  | _ + 1, [] => (n, 11)
  | k + 1, x :: r => if x / 64 = 2 then gat (n * 64 + x % 64) k r else (n, 12)
/-- the number, its size, and the error -/
def getOf : List Nat → Nat × Nat × Nat
  | [] => (0, 0, 11)
  | x :: r =>
    if begunOf x = 0 then (0, 0, 12)
    else if (gat (x - mrk.getD (begunOf x - 1) 0) (begunOf x - 1) r).2 = 0 then
      (if szOf (gat (x - mrk.getD (begunOf x - 1) 0) (begunOf x - 1) r).1 < begunOf x then (0, 0, 12) else ((gat (x - mrk.getD (begunOf x - 1) 0) (begunOf x - 1) r).1, begunOf x, 0))
    else (0, 0, (gat (x - mrk.getD (begunOf x - 1) 0) (begunOf x - 1) r).2)

theorem szOf_cases (n : Nat) : (n < 128 ∧ szOf n = 1) ∨ (128 ≤ n ∧ n < 2048 ∧ szOf n = 2) ∨ (2048 ≤ n ∧ n < 65536 ∧ szOf n = 3) ∨ (65536 ≤ n ∧ n < 2097152 ∧ szOf n = 4) ∨
    (2097152 ≤ n ∧ n < 67108864 ∧ szOf n = 5) ∨ (67108864 ≤ n ∧ n < 2147483648 ∧ szOf n = 6) ∨ (2147483648 ≤ n ∧ szOf n = 7) := by
  unfold szOf
  by_cases h1 : n < 128
  · simp [h1]
  by_cases h2 : n < 2048
  · simp [h1, h2]; omega
  by_cases h3 : n < 65536
  · simp [h1, h2, h3]; omega
  by_cases h4 : n < 2097152
  · simp [h1, h2, h3, h4]; omega
  by_cases h5 : n < 67108864
  · simp [h1, h2, h3, h4, h5]; omega
  by_cases h6 : n < 2147483648
  · simp [h1, h2, h3, h4, h5, h6]; omega
  simp [h1, h2, h3, h4, h5, h6]; omega
theorem szOf_bd (n : Nat) : 1 ≤ szOf n ∧ szOf n ≤ 7 := by
  rcases szOf_cases n with h | h | h | h | h | h | h <;> omega
theorem tl_len (n k : Nat) : (tl n k).length = k := by
  induction k with
  | zero => rfl
  | succ k ih => simp [tl, ih]
theorem cd_len (n : Nat) : (cd n).length = szOf n := by
  have := szOf_bd n
  simp only [cd, List.length_cons, tl_len]; omega
/-- the first byte, kind by kind -/
theorem fb_cases (n : Nat) (hn : n < 68719476736) : (n < 128 ∧ szOf n = 1 ∧ fb n = n) ∨ (128 ≤ n ∧ n < 2048 ∧ szOf n = 2 ∧ fb n = 192 + n / 64) ∨ (2048 ≤ n ∧ n < 65536 ∧ szOf n = 3 ∧ fb n = 224 + n / 4096) ∨
    (65536 ≤ n ∧ n < 2097152 ∧ szOf n = 4 ∧ fb n = 240 + n / 262144) ∨ (2097152 ≤ n ∧ n < 67108864 ∧ szOf n = 5 ∧ fb n = 248 + n / 16777216) ∨
    (67108864 ≤ n ∧ n < 2147483648 ∧ szOf n = 6 ∧ fb n = 252 + n / 1073741824) ∨ (2147483648 ≤ n ∧ szOf n = 7 ∧ fb n = 254) := by
  rcases szOf_cases n with ⟨h, e⟩ | ⟨h, g, e⟩ | ⟨h, g, e⟩ | ⟨h, g, e⟩ | ⟨h, g, e⟩ | ⟨h, g, e⟩ | ⟨h, e⟩ <;> simp only [fb, e, mrk] <;> simp <;> omega
theorem fb_begun (n : Nat) (hn : n < 68719476736) : begunOf (fb n) = szOf n ∧ fb n - mrk.getD (szOf n - 1) 0 = n / 64 ^ (szOf n - 1) ∧ fb n < 256 := by
  refine ⟨?_, by unfold fb; exact Nat.add_sub_cancel_left .., ?_⟩
  · rcases fb_cases n hn with h | h | h | h | h | h | h <;> (unfold begunOf; (repeat' split) <;> omega)
  · rcases fb_cases n hn with h | h | h | h | h | h | h <;> omega
theorem tl_lt (n k : Nat) : ∀ x ∈ tl n k, 128 ≤ x ∧ x < 192 := by
  induction k with
  | zero => simp [tl]
  | succ k ih =>
    intro x hx
    simp only [tl, List.mem_cons] at hx
    rcases hx with rfl | hx
    · have := Nat.mod_lt (n / 64 ^ k) (show 0 < 64 by decide); omega
    · exact ih x hx
theorem cd_lt (n : Nat) (hn : n < 68719476736) : ∀ x ∈ cd n, x < 256 := by
  intro x hx
  simp only [cd, List.mem_cons] at hx
  rcases hx with rfl | hx
  · exact (fb_begun n hn).2.2
  · have := tl_lt n _ x hx; omega
/-- one step down -/
theorem down (n k : Nat) : n / 64 ^ (k + 1) * 64 + n / 64 ^ k % 64 = n / 64 ^ k := by
  rw [Nat.pow_succ, ← Nat.div_div_eq_div_mul]; omega
theorem gat_tl (n k : Nat) (r : List Nat) : gat (n / 64 ^ k) k (tl n k ++ r) = (n, 0) := by
  induction k with
  | zero => simp [gat]
  | succ k ih =>
    have hm := Nat.mod_lt (n / 64 ^ k) (show 0 < 64 by decide)
    have e1 : (128 + n / 64 ^ k % 64) / 64 = 2 := by omega
    have e2 : (128 + n / 64 ^ k % 64) % 64 = n / 64 ^ k % 64 := by omega
    rw [tl, List.cons_append, gat, if_pos e1, e2, down]
    exact ih
theorem gat_short (n k m : Nat) (h : m < k) (a : Nat) : (gat a k ((tl n k).take m)).2 = 11 := by
  induction k generalizing m a with
  | zero => omega
  | succ k ih =>
    cases m with
    | zero => simp [gat]
    | succ m =>
      have hm := Nat.mod_lt (n / 64 ^ k) (show 0 < 64 by decide)
      have e1 : (128 + n / 64 ^ k % 64) / 64 = 2 := by omega
      rw [tl, List.take_succ_cons, gat, if_pos e1]
      exact ih m (by omega) _
/-- what is put is got, whatever is behind it -/
theorem get_put (n : Nat) (hn : n < 68719476736) (r : List Nat) : getOf (cd n ++ r) = (n, szOf n, 0) := by
  obtain ⟨h1, h2, _⟩ := fb_begun n hn
  have h3 := szOf_bd n
  have h4 := gat_tl n (szOf n - 1) r
  rw [cd, List.cons_append, getOf, h1, h2, if_neg (by omega), h4, if_pos rfl, if_neg (Nat.lt_irrefl _)]
/-- a part of a code is none -/
theorem get_part (n : Nat) (hn : n < 68719476736) (i : Nat) (hi : i < szOf n) : getOf ((cd n).take i) = (0, 0, 11) := by
  obtain ⟨h1, _, _⟩ := fb_begun n hn
  have h3 := szOf_bd n
  cases i with
  | zero => simp [getOf]
  | succ i =>
    have h4 := gat_short n (szOf n - 1) i (by omega) (fb n - mrk.getD (szOf n - 1) 0)
    rw [cd, List.take_succ_cons, getOf, h1, if_neg (by omega), h4, if_neg (by decide)]
/-- within a code none begins -/
theorem get_inside (n i : Nat) (h0 : 1 ≤ i) (hi : i < szOf n) (r : List Nat) : getOf ((cd n ++ r).drop i) = (0, 0, 12) := by
  have hl := tl_len n (szOf n - 1)
  obtain ⟨j, rfl⟩ : ∃ j, i = j + 1 := ⟨i - 1, by omega⟩
  have hj : j < (tl n (szOf n - 1)).length := by omega
  rw [cd, List.cons_append, List.drop_succ_cons, List.drop_append_of_le_length (by omega), List.drop_eq_getElem_cons hj, List.cons_append, getOf]
  have hx := tl_lt n _ _ (List.getElem_mem hj)
  rw [if_pos (by unfold begunOf; rw [if_neg (by omega), if_pos (by omega)])]
theorem gat_err (n k : Nat) (r : List Nat) : (gat n k r).2 = 0 ∨ (gat n k r).2 = 11 ∨ (gat n k r).2 = 12 := by
  induction k generalizing n r with
  | zero => simp [gat]
  | succ k ih =>
    cases r with
    | nil => simp [gat]
    | cons x r =>
      rw [gat]
      split
      · exact ih _ _
      · simp
theorem gat_back (n k : Nat) (r : List Nat) (h : (gat n k r).2 = 0) : k ≤ r.length ∧ n = (gat n k r).1 / 64 ^ k ∧ r.take k = tl (gat n k r).1 k := by
  induction k generalizing n r with
  | zero => simp [gat, tl]
  | succ k ih =>
    cases r with
    | nil => simp [gat] at h
    | cons x r =>
      rw [gat] at h ⊢
      by_cases hx : x / 64 = 2
      · rw [if_pos hx] at h ⊢
        obtain ⟨a, b, c⟩ := ih _ _ h
        generalize (gat (n * 64 + x % 64) k r).1 = m at *
        have hm := Nat.mod_lt x (show 0 < 64 by decide)
        refine ⟨by simp; omega, ?_, ?_⟩
        · rw [Nat.pow_succ, ← Nat.div_div_eq_div_mul, ← b]; omega
        · rw [List.take_succ_cons, c, tl, ← b]
          congr 1
          omega
      · rw [if_neg hx] at h
        simp at h
theorem gat_len_of_err (n k : Nat) (r : List Nat) (h : (gat n k r).2 = 0) : k ≤ r.length := (gat_back n k r h).1
/-- what is got: nothing, or the number that is put as what was got -/
theorem get_back (bs : List Nat) : ((getOf bs).2.2 ≠ 0 ∧ getOf bs = (0, 0, (getOf bs).2.2) ∧ (getOf bs).2.2 < 13) ∨
    ∃ m, m < 68719476736 ∧ getOf bs = (m, szOf m, 0) ∧ szOf m ≤ bs.length ∧ bs.take (szOf m) = cd m := by
  cases bs with
  | nil => left; simp [getOf]
  | cons x r =>
    by_cases hb : begunOf x = 0
    · left; rw [getOf, if_pos hb]; simp
    · by_cases hg : (gat (x - mrk.getD (begunOf x - 1) 0) (begunOf x - 1) r).2 = 0
      · by_cases hs : szOf (gat (x - mrk.getD (begunOf x - 1) 0) (begunOf x - 1) r).1 < begunOf x
        · left; rw [getOf, if_neg hb, if_pos hg, if_pos hs]; simp
        · right
          obtain ⟨a, b, c⟩ := gat_back _ _ _ hg
          refine ⟨(gat (x - mrk.getD (begunOf x - 1) 0) (begunOf x - 1) r).1, ?_⟩
          rw [getOf, if_neg hb, if_pos hg, if_neg hs]
          generalize (gat (x - mrk.getD (begunOf x - 1) 0) (begunOf x - 1) r).1 = m at *
          have hk : (x < 128 ∧ begunOf x = 1) ∨ (192 ≤ x ∧ x < 224 ∧ begunOf x = 2) ∨ (224 ≤ x ∧ x < 240 ∧ begunOf x = 3) ∨ (240 ≤ x ∧ x < 248 ∧ begunOf x = 4) ∨ (248 ≤ x ∧ x < 252 ∧ begunOf x = 5) ∨ (252 ≤ x ∧ x < 254 ∧ begunOf x = 6) ∨ (x = 254 ∧ begunOf x = 7) := by
            revert hb
            unfold begunOf
            (repeat' split) <;> omega
          have key : m < 68719476736 ∧ szOf m = begunOf x ∧ x = mrk.getD (begunOf x - 1) 0 + m / 64 ^ (begunOf x - 1) := by
            rcases hk with ⟨h, e⟩ | ⟨h, g, e⟩ | ⟨h, g, e⟩ | ⟨h, g, e⟩ | ⟨h, g, e⟩ | ⟨h, g, e⟩ | ⟨h, e⟩ <;> rw [e] at b hs ⊢ <;> simp [mrk] at b ⊢ <;>
              rcases szOf_cases m with k | k | k | k | k | k | k <;> omega
          obtain ⟨k1, k2, k3⟩ := key
          refine ⟨k1, by rw [k2], by rw [k2]; simp; omega, ?_⟩
          have hz := szOf_bd m
          rw [← k2] at c k3
          obtain ⟨j, hj⟩ : ∃ j, szOf m = j + 1 := ⟨szOf m - 1, by omega⟩
          rw [cd, fb, ← k3]
          rw [hj] at c ⊢
          rw [List.take_succ_cons]
          rw [show j + 1 - 1 = j from rfl] at c ⊢
          rw [c]
      · left
        rw [getOf, if_neg hb, if_neg hg]
        have := gat_err (x - mrk.getD (begunOf x - 1) 0) (begunOf x - 1) r
        exact ⟨hg, rfl, by simp only; omega⟩

theorem fb_mono (n m : Nat) (hn : n < 68719476736) (hm : m < 68719476736) (h : n ≤ m) : fb n ≤ fb m := by
  rcases fb_cases n hn with a | a | a | a | a | a | a <;> rcases fb_cases m hm with b | b | b | b | b | b | b <;> omega
theorem tl_order (n m k j : Nat) (h0 : n / 64 ^ k = m / 64 ^ k) (hj : ∀ i, i < j → (tl n k)[i]? = (tl m k)[i]?) (x y : Nat) (hx : (tl n k)[j]? = some x) (hy : (tl m k)[j]? = some y) (h : x < y) : n < m := by
  induction k generalizing j with
  | zero => simp [tl] at hx
  | succ k ih =>
    have dn := down n k
    have dm := down m k
    cases j with
    | zero =>
      simp [tl] at hx hy
      by_cases hlt : n < m
      · exact hlt
      · have := Nat.div_le_div_right (c := 64 ^ k) (show m ≤ n by omega)
        omega
    | succ j =>
      have h1 := hj 0 (by omega)
      simp [tl] at h1 hx hy
      refine ih j (by omega) (fun i hi => ?_) hx hy
      have := hj (i + 1) (by omega)
      simpa [tl] using this
theorem cd_order (n m j : Nat) (hn : n < 68719476736) (hm : m < 68719476736) (hj : ∀ i, i < j → (cd n)[i]? = (cd m)[i]?) (x y : Nat) (hx : (cd n)[j]? = some x) (hy : (cd m)[j]? = some y) (h : x < y) : n < m := by
  cases j with
  | zero =>
    simp [cd] at hx hy
    by_cases hlt : n < m
    · exact hlt
    · have := fb_mono m n hm hn (by omega)
      omega
  | succ j =>
    have h1 := hj 0 (by omega)
    simp [cd] at h1 hx hy
    have a := fb_begun n hn
    have b := fb_begun m hm
    have e : szOf n = szOf m := by rw [← a.1, ← b.1, h1]
    rw [e] at hx
    refine tl_order n m (szOf m - 1) j ?_ (fun i hi => ?_) x y hx hy h
    · rw [← b.2.1, ← h1, ← e]; exact a.2.1.symm
    · have := hj (i + 1) (by omega)
      simp [cd] at this
      rw [e] at this
      exact this
/-- one code is the beginning of the other: they are one -/
theorem cd_begin (n m : Nat) (hn : n < 68719476736) (hm : m < 68719476736) (h : ∀ i, i < (cd n).length → i < (cd m).length → (cd n)[i]? = (cd m)[i]?) : n = m := by
  have one : ∀ n m, n < 68719476736 → m < 68719476736 → (∀ i, i < (cd n).length → i < (cd m).length → (cd n)[i]? = (cd m)[i]?) → (cd n).length ≤ (cd m).length → n = m := by
    intro n m hn hm h hl
    have e : cd m = cd n ++ (cd m).drop (cd n).length := by
      have : (cd m).take (cd n).length = cd n := by
        apply List.ext_getElem?
        intro i
        rw [List.getElem?_take]
        by_cases hi : i < (cd n).length
        · rw [if_pos hi, h i hi (by omega)]
        · rw [if_neg hi, List.getElem?_eq_none (by omega)]
      conv => lhs; rw [← List.take_append_drop (cd n).length (cd m), this]
    have g := get_put n hn ((cd m).drop (cd n).length)
    rw [← e] at g
    have g' := get_put m hm []
    rw [List.append_nil, g] at g'
    exact (Prod.mk.inj g').1
  by_cases hl : (cd n).length ≤ (cd m).length
  · exact one n m hn hm h hl
  · exact (one m n hm hn (fun i a b => (h i b a).symm) (by omega)).symm

/-- a code's byte at a place -/
theorem tl_at (n k i : Nat) (h : i < k) : (tl n k)[i]? = some (128 + n / 64 ^ (k - 1 - i) % 64) := by
  induction k generalizing i with
  | zero => omega
  | succ k ih =>
    cases i with
    | zero => simp [tl]
    | succ i => rw [tl, List.getElem?_cons_succ, ih i (by omega), show k + 1 - 1 - (i + 1) = k - 1 - i from by omega]
theorem cd_at0 (n : Nat) : (cd n)[0]? = some (mrk.getD (szOf n - 1) 0 + n / 64 ^ (szOf n - 1)) := rfl
theorem cd_at (n i : Nat) (h0 : 1 ≤ i) (h : i < szOf n) : (cd n)[i]? = some (128 + n / 64 ^ (szOf n - 1 - i) % 64) := by
  obtain ⟨j, rfl⟩ : ∃ j, i = j + 1 := ⟨i - 1, by omega⟩
  rw [cd, List.getElem?_cons_succ, tl_at _ _ _ (by omega), show szOf n - 1 - 1 - j = szOf n - 1 - (j + 1) from by omega]
end Go.Proofs.YthjilkgljobfhaaDoor
