/-
  Plain mathematics of sums: what is left of polynomials over two numbers.
-/
import Derived.Test.YtmnnjbamphoghaaDoorMath
namespace Go.Proofs.YtmnnjbamphoghaaDoor

/-- one nought behind: of a polynomial of degree n whose lesser powers are r -/
def nou (n r v : Nat) : Nat := (2 * v % 2 ^ n) ^^^ (if v.testBit (n - 1) = true then r else 0)
/-- k noughts behind -/
def nous (n r : Nat) : Nat → Nat → Nat
  | 0, v => v
  | k + 1, v => nous n r k (nou n r v)

theorem two_mul_xor (a b : Nat) : 2 * (a ^^^ b) = (2 * a) ^^^ (2 * b) := by
  apply Nat.eq_of_testBit_eq
  intro i
  cases i with
  | zero => simp [Nat.testBit_zero, Nat.mul_mod_right]
  | succ i =>
    rw [Nat.testBit_xor, Nat.testBit_succ, Nat.testBit_succ, Nat.testBit_succ, Nat.mul_div_cancel_left _ (show 0 < 2 by decide), Nat.mul_div_cancel_left _ (show 0 < 2 by decide), Nat.mul_div_cancel_left _ (show 0 < 2 by decide), Nat.testBit_xor]

theorem xor4 (a b c d : Nat) : (a ^^^ b) ^^^ (c ^^^ d) = (a ^^^ c) ^^^ (b ^^^ d) := by
  rw [Nat.xor_assoc, Nat.xor_assoc, ← Nat.xor_assoc b c d, Nat.xor_comm b c, Nat.xor_assoc c b d]

theorem nou_xor (n r a b : Nat) : nou n r (a ^^^ b) = nou n r a ^^^ nou n r b := by
  unfold nou
  rw [two_mul_xor, Nat.xor_mod_two_pow, xor4]
  congr 1
  rw [Nat.testBit_xor]
  cases a.testBit (n - 1) <;> cases b.testBit (n - 1) <;> simp
theorem nou_zero (n r : Nat) : nou n r 0 = 0 := by simp [nou]
theorem nou_lt {n r : Nat} (hr : r < 2 ^ n) (v : Nat) : nou n r v < 2 ^ n := by
  unfold nou
  apply Nat.xor_lt_two_pow
  · exact Nat.mod_lt _ (Nat.two_pow_pos n)
  · split
    · exact hr
    · exact Nat.two_pow_pos n
theorem nous_xor (n r k a b : Nat) : nous n r k (a ^^^ b) = nous n r k a ^^^ nous n r k b := by
  induction k generalizing a b with
  | zero => rfl
  | succ k ih => simp only [nous]; rw [nou_xor, ih]
theorem nous_zero (n r k : Nat) : nous n r k 0 = 0 := by
  induction k with
  | zero => rfl
  | succ k ih => simp only [nous]; rw [nou_zero, ih]
theorem nous_lt {n r : Nat} (hr : r < 2 ^ n) (k v : Nat) (hv : v < 2 ^ n) : nous n r k v < 2 ^ n := by
  induction k generalizing v with
  | zero => exact hv
  | succ k ih => exact ih _ (nou_lt hr v)
theorem nous_nou (n r k v : Nat) : nous n r k (nou n r v) = nou n r (nous n r k v) := by
  induction k generalizing v with
  | zero => rfl
  | succ k ih => simp only [nous]; rw [ih]
theorem nous_add (n r j k v : Nat) : nous n r (j + k) v = nous n r k (nous n r j v) := by
  induction j generalizing v with
  | zero => simp [nous]
  | succ j ih => rw [show j + 1 + k = (j + k) + 1 from by omega]; simp only [nous]; rw [ih]
theorem nous_comm (n r j k v : Nat) : nous n r j (nous n r k v) = nous n r k (nous n r j v) := by
  rw [← nous_add, ← nous_add, Nat.add_comm]
theorem nou_small {n : Nat} (r : Nat) {v : Nat} (hn : 1 ≤ n) (h : v < 2 ^ (n - 1)) : nou n r v = 2 * v := by
  unfold nou
  have e : 2 ^ n = 2 * 2 ^ (n - 1) := by rw [← Nat.pow_succ']; congr 1; omega
  rw [Nat.testBit_lt_two_pow h, Nat.mod_eq_of_lt (by omega)]
  simp
theorem nous_small {n : Nat} (r k : Nat) {v : Nat} (hk : k ≤ n) (h : v < 2 ^ (n - k)) : nous n r k v = v * 2 ^ k := by
  induction k generalizing v with
  | zero => simp [nous]
  | succ k ih =>
    simp only [nous]
    have h1 : 2 ^ (n - (k + 1)) ≤ 2 ^ (n - 1) := Nat.pow_le_pow_right (by decide) (by omega)
    have e : 2 ^ (n - k) = 2 * 2 ^ (n - (k + 1)) := by rw [← Nat.pow_succ']; congr 1; omega
    rw [nou_small r (by omega) (by omega), ih (by omega) (by omega), Nat.pow_succ, Nat.mul_comm 2 v, Nat.mul_assoc, Nat.mul_comm 2]
theorem nou_inj0 {n r v : Nat} (hn : 1 ≤ n) (hr : r % 2 = 1) (hv : v < 2 ^ n) (h : nou n r v = 0) : v = 0 := by
  have e : 2 ^ n = 2 * 2 ^ (n - 1) := by rw [← Nat.pow_succ']; congr 1; omega
  by_cases ht : v.testBit (n - 1) = true
  · exfalso
    unfold nou at h
    rw [if_pos ht] at h
    have h2 := congrArg (· % 2) h
    have h3 : (2 * v % 2 ^ n) % 2 = 0 := by rw [e, Nat.mul_mod_mul_left]; omega
    have h4 : ((2 * v % 2 ^ n) ^^^ r) % 2 = ((2 * v % 2 ^ n) % 2) ^^^ (r % 2) := by
      have := Nat.xor_mod_two_pow (a := 2 * v % 2 ^ n) (b := r) (n := 1)
      simpa using this
    simp only [h4, h3, hr] at h2
    simp at h2
  · have hl : v < 2 ^ (n - 1) := by
      apply Nat.lt_pow_two_of_testBit
      intro i hi
      rcases Nat.lt_or_ge (n - 1) i with hlt | hge
      · exact Nat.testBit_lt_two_pow (Nat.lt_of_lt_of_le hv (Nat.pow_le_pow_right (by decide) (by omega)))
      · obtain rfl : i = n - 1 := by omega
        simpa using ht
    rw [nou_small r hn hl] at h
    omega
theorem nous_inj0 {n r : Nat} (hn : 1 ≤ n) (hr : r % 2 = 1) (hr2 : r < 2 ^ n) (k : Nat) {v : Nat} (hv : v < 2 ^ n) (h : nous n r k v = 0) : v = 0 := by
  induction k generalizing v with
  | zero => exact h
  | succ k ih => exact nou_inj0 hn hr hv (ih (nou_lt hr2 v) h)

/-- the sum, a byte more -/
def stepS (n r s v : Nat) : Nat := nous n r 8 s ^^^ nous n r n v
/-- the sum of bytes behind others whose sum is s -/
def smFrom (n r s : Nat) (bs : List Nat) : Nat := bs.foldl (stepS n r) s
/-- the sum of bytes -/
def sm (n r : Nat) (bs : List Nat) : Nat := smFrom n r 0 bs

theorem smFrom_eq (n r s : Nat) (bs : List Nat) : smFrom n r s bs = nous n r (8 * bs.length) s ^^^ sm n r bs := by
  induction bs generalizing s with
  | nil => simp [smFrom, sm, nous]
  | cons v bs ih =>
    have e1 : smFrom n r s (v :: bs) = smFrom n r (stepS n r s v) bs := rfl
    have e2 : sm n r (v :: bs) = smFrom n r (stepS n r 0 v) bs := rfl
    rw [e1, e2, ih, ih (stepS n r 0 v), ← Nat.xor_assoc]
    congr 1
    unfold stepS
    rw [nous_zero, Nat.zero_xor, nous_xor, List.length_cons, show 8 * (bs.length + 1) = 8 + 8 * bs.length from by omega, nous_add]
theorem sm_append (n r : Nat) (a b : List Nat) : sm n r (a ++ b) = nous n r (8 * b.length) (sm n r a) ^^^ sm n r b := by
  rw [← smFrom_eq]
  unfold sm smFrom
  rw [List.foldl_append]
theorem sm_cons (n r v : Nat) (bs : List Nat) : sm n r (v :: bs) = nous n r (8 * bs.length + n) v ^^^ sm n r bs := by
  have := sm_append n r [v] bs
  rw [List.singleton_append] at this
  rw [this]
  congr 1
  show nous n r _ (stepS n r 0 v) = _
  unfold stepS
  rw [nous_zero, Nat.zero_xor, Nat.add_comm, nous_add]
theorem sm_nil (n r : Nat) : sm n r [] = 0 := rfl
theorem sm_snoc (n r : Nat) (a : List Nat) (v : Nat) : sm n r (a ++ [v]) = stepS n r (sm n r a) v := by
  unfold sm smFrom
  rw [List.foldl_append]
  rfl
theorem sm_lt {n r : Nat} (hr : r < 2 ^ n) (h8 : 8 ≤ n) (bs : List Nat) (hb : ∀ x ∈ bs, x < 256) : sm n r bs < 2 ^ n := by
  induction bs with
  | nil => exact Nat.two_pow_pos n
  | cons v bs ih =>
    rw [sm_cons]
    have hv := hb v (List.mem_cons_self ..)
    have : 2 ^ 8 ≤ 2 ^ n := Nat.pow_le_pow_right (by decide) h8
    exact Nat.xor_lt_two_pow (nous_lt hr _ _ (by omega)) (ih fun x hx => hb x (List.mem_cons_of_mem _ hx))
theorem sm_zip (n r : Nat) (a b : List Nat) (h : a.length = b.length) : sm n r (List.zipWith (· ^^^ ·) a b) = sm n r a ^^^ sm n r b := by
  induction a generalizing b with
  | nil =>
    cases b with
    | nil => simp [sm_nil]
    | cons y b => simp at h
  | cons x a ih =>
    cases b with
    | nil => simp at h
    | cons y b =>
      simp only [List.length_cons, Nat.add_right_cancel_iff] at h
      rw [List.zipWith_cons_cons, sm_cons, sm_cons, sm_cons, ih b h, nous_xor, List.length_zipWith, h, Nat.min_self, xor4]

theorem xor_add_high (a b k : Nat) (hb : b < 2 ^ k) : (a * 2 ^ k) ^^^ b = a * 2 ^ k + b := by
  have e := Nat.two_pow_add_eq_or_of_lt hb a
  rw [Nat.mul_comm a, e]
  apply Nat.eq_of_testBit_eq
  intro i
  rw [Nat.testBit_xor, Nat.testBit_or]
  by_cases hi : i < k
  · have : (2 ^ k * a).testBit i = false := by
      rw [Nat.testBit_two_pow_mul]; simp; omega
    rw [this]; simp
  · have : b.testBit i = false := Nat.testBit_lt_two_pow (Nat.lt_of_lt_of_le hb (Nat.pow_le_pow_right (by decide) (by omega)))
    rw [this]; simp

/-- a byte more, by a table of bytes' sums -/
theorem step_table {n r s v : Nat} (h8 : 8 ≤ n) (hs : s < 2 ^ n) : stepS n r s v = (s * 256 % 2 ^ n) ^^^ nous n r n (s / 2 ^ (n - 8) ^^^ v) := by
  unfold stepS
  have hp : 0 < 2 ^ (n - 8) := Nat.two_pow_pos _
  have e : 2 ^ n = 2 ^ (n - 8) * 256 := by rw [show (256 : Nat) = 2 ^ 8 from rfl, ← Nat.pow_add]; congr 1; omega
  have hl : s % 2 ^ (n - 8) < 2 ^ (n - 8) := Nat.mod_lt _ hp
  have hh : s / 2 ^ (n - 8) < 2 ^ (n - (n - 8)) := by
    rw [show n - (n - 8) = 8 from by omega]
    apply Nat.div_lt_of_lt_mul
    rw [e] at hs; exact hs
  have es : s = (s / 2 ^ (n - 8) * 2 ^ (n - 8)) ^^^ (s % 2 ^ (n - 8)) := by
    rw [xor_add_high _ _ _ hl, Nat.mul_comm]; exact (Nat.div_add_mod _ _).symm
  have e1 : nous n r 8 s = nous n r n (s / 2 ^ (n - 8)) ^^^ (s % 2 ^ (n - 8) * 256) := by
    have e3 : nous n r 8 s = nous n r 8 ((s / 2 ^ (n - 8) * 2 ^ (n - 8)) ^^^ (s % 2 ^ (n - 8))) := by rw [← es]
    rw [e3, nous_xor, nous_small r 8 h8 hl, ← nous_small r (n - 8) (by omega) hh, ← nous_add, show n - 8 + 8 = n from by omega]
  have e2 : s * 256 % 2 ^ n = s % 2 ^ (n - 8) * 256 := by
    rw [e, Nat.mul_mod_mul_right]
  rw [e1, e2, nous_xor, Nat.xor_comm (nous n r n _), Nat.xor_assoc]

/-- a bit more behind what is left -/
def feed (n r : Nat) (s : Nat) (l : List Nat) : Nat := l.foldl (fun s b => nou n r s ^^^ b) s
theorem feed_nil (n r s : Nat) : feed n r s [] = s := rfl
theorem feed_cons (n r s b : Nat) (l : List Nat) : feed n r s (b :: l) = feed n r (nou n r s ^^^ b) l := rfl
theorem feed_append (n r s : Nat) (a b : List Nat) : feed n r s (a ++ b) = feed n r (feed n r s a) b := by
  unfold feed; rw [List.foldl_append]
theorem feed_bitsN (n r k v s : Nat) (hk : k ≤ n) : feed n r s (bitsN k v) = nous n r k s ^^^ (v % 2 ^ k) := by
  induction k generalizing s with
  | zero => simp [bitsN, feed, nous, Nat.mod_one]
  | succ k ih =>
    rw [bitsN, feed_cons, ih _ (by omega), nous_xor]
    have hb : v / 2 ^ k % 2 < 2 := Nat.mod_lt _ (by decide)
    have hb2 : v / 2 ^ k % 2 < 2 ^ (n - k) := Nat.lt_of_lt_of_le hb (by
      have : 2 ^ 1 ≤ 2 ^ (n - k) := Nat.pow_le_pow_right (by decide) (by omega)
      omega)
    rw [nous_small r k (by omega) hb2, Nat.xor_assoc, xor_add_high _ _ _ (Nat.mod_lt _ (Nat.two_pow_pos k))]
    simp only [nous]
    congr 1
    rw [Nat.pow_succ, Nat.mod_mul, Nat.mul_comm (2 ^ k)]
    omega
theorem feed_bytes (n r s : Nat) (bs : List Nat) (h8 : 8 ≤ n) (hb : ∀ x ∈ bs, x < 256) : nous n r n (feed n r s (bitsOf bs)) = smFrom n r (nous n r n s) bs := by
  induction bs generalizing s with
  | nil => rfl
  | cons v bs ih =>
    have hv : v % 2 ^ 8 = v := Nat.mod_eq_of_lt (hb v (List.mem_cons_self ..))
    rw [bitsOf_cons, feed_append, ih _ (fun x hx => hb x (List.mem_cons_of_mem _ hx)), feed_bitsN n r 8 v s h8, hv, nous_xor, nous_comm]
    rfl
theorem left_sm (n r : Nat) (bs : List Nat) (h8 : 8 ≤ n) (hb : ∀ x ∈ bs, x < 256) : nous n r n (feed n r 0 (bitsOf bs)) = sm n r bs := by
  rw [feed_bytes n r 0 bs h8 hb, nous_zero]; rfl
theorem feed_lt {n r : Nat} (hr : r < 2 ^ n) (hn : 1 ≤ n) (s : Nat) (l : List Nat) (hs : s < 2 ^ n) (h : ∀ b ∈ l, b ≤ 1) : feed n r s l < 2 ^ n := by
  induction l generalizing s with
  | nil => exact hs
  | cons b l ih =>
    rw [feed_cons]
    refine ih _ (Nat.xor_lt_two_pow (nou_lt hr s) ?_) (fun x hx => h x (List.mem_cons_of_mem _ hx))
    have := h b (List.mem_cons_self ..)
    have h2 : 2 ^ 1 ≤ 2 ^ n := Nat.pow_le_pow_right (by decide) hn
    omega

theorem testBit_top {n v : Nat} (hn : 1 ≤ n) (hv : v < 2 ^ n) : v.testBit (n - 1) = decide (2 ^ n ≤ 2 * v) := by
  have e : 2 ^ n = 2 * 2 ^ (n - 1) := by rw [← Nat.pow_succ']; congr 1; omega
  by_cases h : 2 ^ (n - 1) ≤ v
  · rw [decide_eq_true (by omega)]
    rw [Nat.testBit, Nat.shiftRight_eq_div_pow]
    have : v / 2 ^ (n - 1) = 1 := by
      rw [Nat.div_eq_iff (Nat.two_pow_pos _)]; omega
    rw [this]; rfl
  · rw [decide_eq_false (by omega)]
    exact Nat.testBit_lt_two_pow (by omega)
/-- the document's step: twice, a bit more, and less the polynomial where it is too great -/
theorem ref_step {n r s b : Nat} (hn : 1 ≤ n) (hs : s < 2 ^ n) (hb : b ≤ 1) : nou n r s ^^^ b = if 2 ^ n ≤ 2 * s + b then (2 * s + b - 2 ^ n) ^^^ r else 2 * s + b := by
  have e : 2 ^ n = 2 * 2 ^ (n - 1) := by rw [← Nat.pow_succ']; congr 1; omega
  have hx : ∀ y, (2 * y) ^^^ b = 2 * y + b := fun y => by
    have := xor_add_high y b 1 (by omega)
    rw [Nat.mul_comm 2 y]; simpa using this
  unfold nou
  rw [testBit_top hn hs]
  by_cases h : 2 ^ n ≤ 2 * s
  · rw [if_pos (by simpa using h), if_pos (by omega), Nat.xor_assoc, Nat.xor_comm r b, ← Nat.xor_assoc]
    have e2 : 2 * s % 2 ^ n = 2 * (s - 2 ^ (n - 1)) := by
      rw [Nat.mod_eq_sub_mod h, Nat.mod_eq_of_lt (by omega)]; omega
    rw [e2, hx]
    congr 1
    omega
  · rw [if_neg (by simpa using h), if_neg (by omega), Nat.xor_zero, Nat.mod_eq_of_lt (by omega), hx]

/-- the product of two: i powers of b -/
def ml (n r a b : Nat) : Nat → Nat
  | 0 => 0
  | i + 1 => ml n r a b i ^^^ (if b.testBit i = true then nous n r i a else 0)
theorem ml_xor (n r a a' b i : Nat) : ml n r (a ^^^ a') b i = ml n r a b i ^^^ ml n r a' b i := by
  induction i with
  | zero => simp [ml]
  | succ i ih =>
    simp only [ml]
    rw [ih, nous_xor, xor4 _ _ (ml n r a' b i)]
    congr 1
    split <;> simp
theorem ml_zero (n r b i : Nat) : ml n r 0 b i = 0 := by
  induction i with
  | zero => rfl
  | succ i ih => simp only [ml]; rw [ih, nous_zero]; simp
theorem ml_nous (n r a b i k : Nat) : ml n r (nous n r k a) b i = nous n r k (ml n r a b i) := by
  induction i with
  | zero => exact (nous_zero n r k).symm
  | succ i ih =>
    simp only [ml]
    rw [ih, nous_xor, nous_comm]
    congr 1
    split
    · rfl
    · exact (nous_zero n r k).symm
theorem ml_one {n : Nat} (r b i : Nat) (hi : i ≤ n) : ml n r 1 b i = b % 2 ^ i := by
  induction i with
  | zero => simp [ml, Nat.mod_one]
  | succ i ih =>
    simp only [ml]
    have h1 : 1 < 2 ^ (n - i) := by
      have : 2 ^ 1 ≤ 2 ^ (n - i) := Nat.pow_le_pow_right (by decide) (by omega)
      omega
    rw [ih (by omega), nous_small r i (by omega) h1, Nat.one_mul, Nat.xor_comm]
    have hl : b % 2 ^ i < 2 ^ i := Nat.mod_lt _ (Nat.two_pow_pos i)
    have ht : b.testBit i = decide (b / 2 ^ i % 2 = 1) := by
      rw [Nat.testBit, Nat.shiftRight_eq_div_pow, Nat.and_comm, Nat.and_one_is_mod]
      have := Nat.mod_lt (b / 2 ^ i) (show 0 < 2 by decide)
      by_cases h : b / 2 ^ i % 2 = 1
      · rw [h]; rfl
      · rw [show b / 2 ^ i % 2 = 0 from by omega]; rfl
    rw [ht, Nat.pow_succ, Nat.mod_mul]
    by_cases h : b / 2 ^ i % 2 = 1
    · rw [if_pos (by simpa using h), h]
      have := xor_add_high 1 (b % 2 ^ i) i hl
      rw [Nat.one_mul] at this
      rw [this]; omega
    · have h0 : b / 2 ^ i % 2 = 0 := by
        have := Nat.mod_lt (b / 2 ^ i) (show 0 < 2 by decide)
        omega
      rw [if_neg (by simpa using h), h0]; simp
theorem ml_swap (n r c a b i j : Nat) : ml n r (ml n r c a i) b j = ml n r (ml n r c b j) a i := by
  induction i with
  | zero => simp only [ml]; exact ml_zero n r b j
  | succ i ih =>
    simp only [ml]
    rw [ml_xor, ih]
    congr 1
    split
    · exact ml_nous n r c b j i
    · exact ml_zero n r b j
theorem ml_comm {n : Nat} (r : Nat) {a b : Nat} (ha : a < 2 ^ n) (hb : b < 2 ^ n) : ml n r a b n = ml n r b a n := by
  have := ml_swap n r 1 a b n n
  rwa [ml_one r a n (Nat.le_refl _), ml_one r b n (Nat.le_refl _), Nat.mod_eq_of_lt ha, Nat.mod_eq_of_lt hb] at this
/-- times x to the k -/
theorem ml_pow {n r : Nat} (hn : 1 ≤ n) (hr : r < 2 ^ n) {a : Nat} (ha : a < 2 ^ n) (k : Nat) : ml n r a (nous n r k 1) n = nous n r k a := by
  have h1 : 1 < 2 ^ n := by
    have : 2 ^ 1 ≤ 2 ^ n := Nat.pow_le_pow_right (by decide) hn
    omega
  rw [ml_comm r ha (nous_lt hr k 1 h1), ml_nous, ml_one r a n (Nat.le_refl _), Nat.mod_eq_of_lt ha]
theorem ml_lt {n r : Nat} (hr : r < 2 ^ n) {a : Nat} (ha : a < 2 ^ n) (b i : Nat) : ml n r a b i < 2 ^ n := by
  induction i with
  | zero => exact Nat.two_pow_pos n
  | succ i ih =>
    simp only [ml]
    refine Nat.xor_lt_two_pow ih ?_
    split
    · exact nous_lt hr _ _ ha
    · exact Nat.two_pow_pos n
end Go.Proofs.YtmnnjbamphoghaaDoor
