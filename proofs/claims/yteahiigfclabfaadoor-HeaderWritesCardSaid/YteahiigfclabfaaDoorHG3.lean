/-
  Texts of earlier stages, put together.
-/
import Derived.Test.YteahiigfclabfaaDoorHG2
import Derived.Outline
namespace Go.Proofs.YteahiigfclabfaaDoor.U

/-- one nought behind: of a polynomial of degree n whose lesser powers are r -/
def nou (n r v : Nat) : Nat := (2 * v % 2 ^ n) ^^^ (if v.testBit (n - 1) = true then r else 0)
/-- k noughts behind -/
def nous (n r : Nat) : Nat → Nat → Nat
  | 0, v => v
  | k + 1, v => nous n r k (nou n r v)

theorem two_mul_xor (a b : Nat) : 2 * (a ^^^ b) = (2 * a) ^^^ (2 * b) := by
  apply Nat.eq_of_testBit_eq
  intro i
  cases i with
  | zero => simp [Nat.testBit_zero, Nat.mul_mod_right]
  | succ i =>
    rw [Nat.testBit_xor, Nat.testBit_succ, Nat.testBit_succ, Nat.testBit_succ, Nat.mul_div_cancel_left _ (show 0 < 2 by decide), Nat.mul_div_cancel_left _ (show 0 < 2 by decide), Nat.mul_div_cancel_left _ (show 0 < 2 by decide), Nat.testBit_xor]

theorem xor4 (a b c d : Nat) : (a ^^^ b) ^^^ (c ^^^ d) = (a ^^^ c) ^^^ (b ^^^ d) := by
  rw [Nat.xor_assoc, Nat.xor_assoc, ← Nat.xor_assoc b c d, Nat.xor_comm b c, Nat.xor_assoc c b d]

theorem nou_xor (n r a b : Nat) : nou n r (a ^^^ b) = nou n r a ^^^ nou n r b := by
  unfold nou
  rw [two_mul_xor, Nat.xor_mod_two_pow, xor4]
  congr 1
  rw [Nat.testBit_xor]
  cases a.testBit (n - 1) <;> cases b.testBit (n - 1) <;> simp
theorem nou_zero (n r : Nat) : nou n r 0 = 0 := by simp [nou]
theorem nou_lt {n r : Nat} (hr : r < 2 ^ n) (v : Nat) : nou n r v < 2 ^ n := by
  unfold nou
  apply Nat.xor_lt_two_pow
  · exact Nat.mod_lt _ (Nat.two_pow_pos n)
  · split
    · exact hr
    · exact Nat.two_pow_pos n
theorem nous_xor (n r k a b : Nat) : nous n r k (a ^^^ b) = nous n r k a ^^^ nous n r k b := by
  induction k generalizing a b with
  | zero => rfl
  | succ k ih => simp only [nous]; rw [nou_xor, ih]
theorem nous_zero (n r k : Nat) : nous n r k 0 = 0 := by
  induction k with
  | zero => rfl
  | succ k ih => simp only [nous]; rw [nou_zero, ih]
theorem nous_lt {n r : Nat} (hr : r < 2 ^ n) (k v : Nat) (hv : v < 2 ^ n) : nous n r k v < 2 ^ n := by
  induction k generalizing v with
  | zero => exact hv
  | succ k ih => exact ih _ (nou_lt hr v)
theorem nous_nou (n r k v : Nat) : nous n r k (nou n r v) = nou n r (nous n r k v) := by
  induction k generalizing v with
  | zero => rfl
  | succ k ih => simp only [nous]; rw [ih]
theorem nous_add (n r j k v : Nat) : nous n r (j + k) v = nous n r k (nous n r j v) := by
  induction j generalizing v with
  | zero => simp [nous]
  | succ j ih => rw [show j + 1 + k = (j + k) + 1 from by omega]; simp only [nous]; rw [ih]
theorem nous_comm (n r j k v : Nat) : nous n r j (nous n r k v) = nous n r k (nous n r j v) := by
  rw [← nous_add, ← nous_add, Nat.add_comm]
theorem nou_small {n : Nat} (r : Nat) {v : Nat} (hn : 1 ≤ n) (h : v < 2 ^ (n - 1)) : nou n r v = 2 * v := by
  unfold nou
  have e : 2 ^ n = 2 * 2 ^ (n - 1) := by rw [← Nat.pow_succ']; congr 1; omega
  rw [Nat.testBit_lt_two_pow h, Nat.mod_eq_of_lt (by omega)]
  simp
theorem nous_small {n : Nat} (r k : Nat) {v : Nat} (hk : k ≤ n) (h : v < 2 ^ (n - k)) : nous n r k v = v * 2 ^ k := by
  induction k generalizing v with
  | zero => simp [nous]
  | succ k ih =>
    simp only [nous]
    have h1 : 2 ^ (n - (k + 1)) ≤ 2 ^ (n - 1) := Nat.pow_le_pow_right (by decide) (by omega)
    have e : 2 ^ (n - k) = 2 * 2 ^ (n - (k + 1)) := by rw [← Nat.pow_succ']; congr 1; omega
    rw [nou_small r (by omega) (by omega), ih (by omega) (by omega), Nat.pow_succ, Nat.mul_comm 2 v, Nat.mul_assoc, Nat.mul_comm 2]
theorem nou_inj0 {n r v : Nat} (hn : 1 ≤ n) (hr : r % 2 = 1) (hv : v < 2 ^ n) (h : nou n r v = 0) : v = 0 := by
  have e : 2 ^ n = 2 * 2 ^ (n - 1) := by rw [← Nat.pow_succ']; congr 1; omega
  by_cases ht : v.testBit (n - 1) = true
  · exfalso
    unfold nou at h
    rw [if_pos ht] at h
    have h2 := congrArg (· % 2) h
    have h3 : (2 * v % 2 ^ n) % 2 = 0 := by rw [e, Nat.mul_mod_mul_left]; omega
    have h4 : ((2 * v % 2 ^ n) ^^^ r) % 2 = ((2 * v % 2 ^ n) % 2) ^^^ (r % 2) := by
      have := Nat.xor_mod_two_pow (a := 2 * v % 2 ^ n) (b := r) (n := 1)
      simpa using this
    simp only [h4, h3, hr] at h2
    simp at h2
  · have hl : v < 2 ^ (n - 1) := by
      apply Nat.lt_pow_two_of_testBit
      intro i hi
      rcases Nat.lt_or_ge (n - 1) i with hlt | hge
      · exact Nat.testBit_lt_two_pow (Nat.lt_of_lt_of_le hv (Nat.pow_le_pow_right (by decide) (by omega)))
      · obtain rfl : i = n - 1 := by omega
        simpa using ht
    rw [nou_small r hn hl] at h
    omega
theorem nous_inj0 {n r : Nat} (hn : 1 ≤ n) (hr : r % 2 = 1) (hr2 : r < 2 ^ n) (k : Nat) {v : Nat} (hv : v < 2 ^ n) (h : nous n r k v = 0) : v = 0 := by
  induction k generalizing v with
  | zero => exact h
  | succ k ih => exact nou_inj0 hn hr hv (ih (nou_lt hr2 v) h)

/-- the sum, a byte more -/
def stepS (n r s v : Nat) : Nat := nous n r 8 s ^^^ nous n r n v
/-- the sum of bytes behind others whose sum is s -/
def smFrom (n r s : Nat) (bs : List Nat) : Nat := bs.foldl (stepS n r) s
/-- the sum of bytes -/
def sm (n r : Nat) (bs : List Nat) : Nat := smFrom n r 0 bs

theorem smFrom_eq (n r s : Nat) (bs : List Nat) : smFrom n r s bs = nous n r (8 * bs.length) s ^^^ sm n r bs := by
  induction bs generalizing s with
  | nil => simp [smFrom, sm, nous]
  | cons v bs ih =>
    have e1 : smFrom n r s (v :: bs) = smFrom n r (stepS n r s v) bs := rfl
    have e2 : sm n r (v :: bs) = smFrom n r (stepS n r 0 v) bs := rfl
    rw [e1, e2, ih, ih (stepS n r 0 v), ← Nat.xor_assoc]
    congr 1
    unfold stepS
    rw [nous_zero, Nat.zero_xor, nous_xor, List.length_cons, show 8 * (bs.length + 1) = 8 + 8 * bs.length from by omega, nous_add]
theorem sm_append (n r : Nat) (a b : List Nat) : sm n r (a ++ b) = nous n r (8 * b.length) (sm n r a) ^^^ sm n r b := by
  rw [← smFrom_eq]
  unfold sm smFrom
  rw [List.foldl_append]
theorem sm_cons (n r v : Nat) (bs : List Nat) : sm n r (v :: bs) = nous n r (8 * bs.length + n) v ^^^ sm n r bs := by
  have := sm_append n r [v] bs
  rw [List.singleton_append] at this
  rw [this]
  congr 1
  show nous n r _ (stepS n r 0 v) = _
  unfold stepS
  rw [nous_zero, Nat.zero_xor, Nat.add_comm, nous_add]
theorem sm_nil (n r : Nat) : sm n r [] = 0 := rfl
theorem sm_snoc (n r : Nat) (a : List Nat) (v : Nat) : sm n r (a ++ [v]) = stepS n r (sm n r a) v := by
  unfold sm smFrom
  rw [List.foldl_append]
  rfl
theorem sm_lt {n r : Nat} (hr : r < 2 ^ n) (h8 : 8 ≤ n) (bs : List Nat) (hb : ∀ x ∈ bs, x < 256) : sm n r bs < 2 ^ n := by
  induction bs with
  | nil => exact Nat.two_pow_pos n
  | cons v bs ih =>
    rw [sm_cons]
    have hv := hb v (List.mem_cons_self ..)
    have : 2 ^ 8 ≤ 2 ^ n := Nat.pow_le_pow_right (by decide) h8
    exact Nat.xor_lt_two_pow (nous_lt hr _ _ (by omega)) (ih fun x hx => hb x (List.mem_cons_of_mem _ hx))
theorem sm_zip (n r : Nat) (a b : List Nat) (h : a.length = b.length) : sm n r (List.zipWith (· ^^^ ·) a b) = sm n r a ^^^ sm n r b := by
  induction a generalizing b with
  | nil =>
    cases b with
    | nil => simp [sm_nil]
    | cons y b => simp at h
  | cons x a ih =>
    cases b with
    | nil => simp at h
    | cons y b =>
      simp only [List.length_cons, Nat.add_right_cancel_iff] at h
      rw [List.zipWith_cons_cons, sm_cons, sm_cons, sm_cons, ih b h, nous_xor, List.length_zipWith, h, Nat.min_self, xor4]

theorem xor_add_high (a b k : Nat) (hb : b < 2 ^ k) : (a * 2 ^ k) ^^^ b = a * 2 ^ k + b := by
  have e := Nat.two_pow_add_eq_or_of_lt hb a
  rw [Nat.mul_comm a, e]
  apply Nat.eq_of_testBit_eq
  intro i
  rw [Nat.testBit_xor, Nat.testBit_or]
  by_cases hi : i < k
  · have : (2 ^ k * a).testBit i = false := by
      rw [Nat.testBit_two_pow_mul]; simp; omega
    rw [this]; simp
  · have : b.testBit i = false := Nat.testBit_lt_two_pow (Nat.lt_of_lt_of_le hb (Nat.pow_le_pow_right (by decide) (by omega)))
    rw [this]; simp

/-- a byte more, by a table of bytes' sums -/
theorem step_table {n r s v : Nat} (h8 : 8 ≤ n) (hs : s < 2 ^ n) : stepS n r s v = (s * 256 % 2 ^ n) ^^^ nous n r n (s / 2 ^ (n - 8) ^^^ v) := by
  unfold stepS
  have hp : 0 < 2 ^ (n - 8) := Nat.two_pow_pos _
  have e : 2 ^ n = 2 ^ (n - 8) * 256 := by rw [show (256 : Nat) = 2 ^ 8 from rfl, ← Nat.pow_add]; congr 1; omega
  have hl : s % 2 ^ (n - 8) < 2 ^ (n - 8) := Nat.mod_lt _ hp
  have hh : s / 2 ^ (n - 8) < 2 ^ (n - (n - 8)) := by
    rw [show n - (n - 8) = 8 from by omega]
    apply Nat.div_lt_of_lt_mul
    rw [e] at hs; exact hs
  have es : s = (s / 2 ^ (n - 8) * 2 ^ (n - 8)) ^^^ (s % 2 ^ (n - 8)) := by
    rw [xor_add_high _ _ _ hl, Nat.mul_comm]; exact (Nat.div_add_mod _ _).symm
  have e1 : nous n r 8 s = nous n r n (s / 2 ^ (n - 8)) ^^^ (s % 2 ^ (n - 8) * 256) := by
    have e3 : nous n r 8 s = nous n r 8 ((s / 2 ^ (n - 8) * 2 ^ (n - 8)) ^^^ (s % 2 ^ (n - 8))) := by rw [← es]
    rw [e3, nous_xor, nous_small r 8 h8 hl, ← nous_small r (n - 8) (by omega) hh, ← nous_add, show n - 8 + 8 = n from by omega]
  have e2 : s * 256 % 2 ^ n = s % 2 ^ (n - 8) * 256 := by
    rw [e, Nat.mul_mod_mul_right]
  rw [e1, e2, nous_xor, Nat.xor_comm (nous n r n _), Nat.xor_assoc]

/-- a bit more behind what is left -/
def feed (n r : Nat) (s : Nat) (l : List Nat) : Nat := l.foldl (fun s b => nou n r s ^^^ b) s
theorem feed_nil (n r s : Nat) : feed n r s [] = s := rfl
theorem feed_cons (n r s b : Nat) (l : List Nat) : feed n r s (b :: l) = feed n r (nou n r s ^^^ b) l := rfl
theorem feed_append (n r s : Nat) (a b : List Nat) : feed n r s (a ++ b) = feed n r (feed n r s a) b := by
  unfold feed; rw [List.foldl_append]
theorem feed_bitsN (n r k v s : Nat) (hk : k ≤ n) : feed n r s (bitsN k v) = nous n r k s ^^^ (v % 2 ^ k) := by
  induction k generalizing s with
  | zero => simp [bitsN, feed, nous, Nat.mod_one]
  | succ k ih =>
    rw [bitsN, feed_cons, ih _ (by omega), nous_xor]
    have hb : v / 2 ^ k % 2 < 2 := Nat.mod_lt _ (by decide)
    have hb2 : v / 2 ^ k % 2 < 2 ^ (n - k) := Nat.lt_of_lt_of_le hb (by
      have : 2 ^ 1 ≤ 2 ^ (n - k) := Nat.pow_le_pow_right (by decide) (by omega)
      omega)
    rw [nous_small r k (by omega) hb2, Nat.xor_assoc, xor_add_high _ _ _ (Nat.mod_lt _ (Nat.two_pow_pos k))]
    simp only [nous]
    congr 1
    rw [Nat.pow_succ, Nat.mod_mul, Nat.mul_comm (2 ^ k)]
    omega
theorem feed_bytes (n r s : Nat) (bs : List Nat) (h8 : 8 ≤ n) (hb : ∀ x ∈ bs, x < 256) : nous n r n (feed n r s (bitsOf bs)) = smFrom n r (nous n r n s) bs := by
  induction bs generalizing s with
  | nil => rfl
  | cons v bs ih =>
    have hv : v % 2 ^ 8 = v := Nat.mod_eq_of_lt (hb v (List.mem_cons_self ..))
    rw [bitsOf_cons, feed_append, ih _ (fun x hx => hb x (List.mem_cons_of_mem _ hx)), feed_bitsN n r 8 v s h8, hv, nous_xor, nous_comm]
    rfl
theorem left_sm (n r : Nat) (bs : List Nat) (h8 : 8 ≤ n) (hb : ∀ x ∈ bs, x < 256) : nous n r n (feed n r 0 (bitsOf bs)) = sm n r bs := by
  rw [feed_bytes n r 0 bs h8 hb, nous_zero]; rfl
theorem feed_lt {n r : Nat} (hr : r < 2 ^ n) (hn : 1 ≤ n) (s : Nat) (l : List Nat) (hs : s < 2 ^ n) (h : ∀ b ∈ l, b ≤ 1) : feed n r s l < 2 ^ n := by
  induction l generalizing s with
  | nil => exact hs
  | cons b l ih =>
    rw [feed_cons]
    refine ih _ (Nat.xor_lt_two_pow (nou_lt hr s) ?_) (fun x hx => h x (List.mem_cons_of_mem _ hx))
    have := h b (List.mem_cons_self ..)
    have h2 : 2 ^ 1 ≤ 2 ^ n := Nat.pow_le_pow_right (by decide) hn
    omega

theorem testBit_top {n v : Nat} (hn : 1 ≤ n) (hv : v < 2 ^ n) : v.testBit (n - 1) = decide (2 ^ n ≤ 2 * v) := by
  have e : 2 ^ n = 2 * 2 ^ (n - 1) := by rw [← Nat.pow_succ']; congr 1; omega
  by_cases h : 2 ^ (n - 1) ≤ v
  · rw [decide_eq_true (by omega)]
    rw [Nat.testBit, Nat.shiftRight_eq_div_pow]
    have : v / 2 ^ (n - 1) = 1 := by
      rw [Nat.div_eq_iff (Nat.two_pow_pos _)]; omega
    rw [this]; rfl
  · rw [decide_eq_false (by omega)]
    exact Nat.testBit_lt_two_pow (by omega)
/-- the document's step: twice, a bit more, and less the polynomial where it is too great -/
theorem ref_step {n r s b : Nat} (hn : 1 ≤ n) (hs : s < 2 ^ n) (hb : b ≤ 1) : nou n r s ^^^ b = if 2 ^ n ≤ 2 * s + b then (2 * s + b - 2 ^ n) ^^^ r else 2 * s + b := by
  have e : 2 ^ n = 2 * 2 ^ (n - 1) := by rw [← Nat.pow_succ']; congr 1; omega
  have hx : ∀ y, (2 * y) ^^^ b = 2 * y + b := fun y => by
    have := xor_add_high y b 1 (by omega)
    rw [Nat.mul_comm 2 y]; simpa using this
  unfold nou
  rw [testBit_top hn hs]
  by_cases h : 2 ^ n ≤ 2 * s
  · rw [if_pos (by simpa using h), if_pos (by omega), Nat.xor_assoc, Nat.xor_comm r b, ← Nat.xor_assoc]
    have e2 : 2 * s % 2 ^ n = 2 * (s - 2 ^ (n - 1)) := by
      rw [Nat.mod_eq_sub_mod h, Nat.mod_eq_of_lt (by omega)]; omega
    rw [e2, hx]
    congr 1
    omega
  · rw [if_neg (by simpa using h), if_neg (by omega), Nat.xor_zero, Nat.mod_eq_of_lt (by omega), hx]

/-- the product of two: i powers of b -/
def ml (n r a b : Nat) : Nat → Nat
  | 0 => 0
  | i + 1 => ml n r a b i ^^^ (if b.testBit i = true then nous n r i a else 0)
theorem ml_xor (n r a a' b i : Nat) : ml n r (a ^^^ a') b i = ml n r a b i ^^^ ml n r a' b i := by
  induction i with
  | zero => simp [ml]
  | succ i ih =>
    simp only [ml]
    rw [ih, nous_xor, xor4 _ _ (ml n r a' b i)]
    congr 1
    split <;> simp
theorem ml_zero (n r b i : Nat) : ml n r 0 b i = 0 := by
  induction i with
  | zero => rfl
  | succ i ih => simp only [ml]; rw [ih, nous_zero]; simp
theorem ml_nous (n r a b i k : Nat) : ml n r (nous n r k a) b i = nous n r k (ml n r a b i) := by
  induction i with
  | zero => exact (nous_zero n r k).symm
  | succ i ih =>
    simp only [ml]
    rw [ih, nous_xor, nous_comm]
    congr 1
    split
    · rfl
    · exact (nous_zero n r k).symm
theorem ml_one {n : Nat} (r b i : Nat) (hi : i ≤ n) : ml n r 1 b i = b % 2 ^ i := by
  induction i with
  | zero => simp [ml, Nat.mod_one]
  | succ i ih =>
    simp only [ml]
    have h1 : 1 < 2 ^ (n - i) := by
      have : 2 ^ 1 ≤ 2 ^ (n - i) := Nat.pow_le_pow_right (by decide) (by omega)
      omega
    rw [ih (by omega), nous_small r i (by omega) h1, Nat.one_mul, Nat.xor_comm]
    have hl : b % 2 ^ i < 2 ^ i := Nat.mod_lt _ (Nat.two_pow_pos i)
    have ht : b.testBit i = decide (b / 2 ^ i % 2 = 1) := by
      rw [Nat.testBit, Nat.shiftRight_eq_div_pow, Nat.and_comm, Nat.and_one_is_mod]
      have := Nat.mod_lt (b / 2 ^ i) (show 0 < 2 by decide)
      by_cases h : b / 2 ^ i % 2 = 1
      · rw [h]; rfl
      · rw [show b / 2 ^ i % 2 = 0 from by omega]; rfl
    rw [ht, Nat.pow_succ, Nat.mod_mul]
    by_cases h : b / 2 ^ i % 2 = 1
    · rw [if_pos (by simpa using h), h]
      have := xor_add_high 1 (b % 2 ^ i) i hl
      rw [Nat.one_mul] at this
      rw [this]; omega
    · have h0 : b / 2 ^ i % 2 = 0 := by
        have := Nat.mod_lt (b / 2 ^ i) (show 0 < 2 by decide)
        omega
      rw [if_neg (by simpa using h), h0]; simp
theorem ml_swap (n r c a b i j : Nat) : ml n r (ml n r c a i) b j = ml n r (ml n r c b j) a i := by
  induction i with
  | zero => simp only [ml]; exact ml_zero n r b j
  | succ i ih =>
    simp only [ml]
    rw [ml_xor, ih]
    congr 1
    split
    · exact ml_nous n r c b j i
    · exact ml_zero n r b j
theorem ml_comm {n : Nat} (r : Nat) {a b : Nat} (ha : a < 2 ^ n) (hb : b < 2 ^ n) : ml n r a b n = ml n r b a n := by
  have := ml_swap n r 1 a b n n
  rwa [ml_one r a n (Nat.le_refl _), ml_one r b n (Nat.le_refl _), Nat.mod_eq_of_lt ha, Nat.mod_eq_of_lt hb] at this
/-- times x to the k -/
theorem ml_pow {n r : Nat} (hn : 1 ≤ n) (hr : r < 2 ^ n) {a : Nat} (ha : a < 2 ^ n) (k : Nat) : ml n r a (nous n r k 1) n = nous n r k a := by
  have h1 : 1 < 2 ^ n := by
    have : 2 ^ 1 ≤ 2 ^ n := Nat.pow_le_pow_right (by decide) hn
    omega
  rw [ml_comm r ha (nous_lt hr k 1 h1), ml_nous, ml_one r a n (Nat.le_refl _), Nat.mod_eq_of_lt ha]
theorem ml_lt {n r : Nat} (hr : r < 2 ^ n) {a : Nat} (ha : a < 2 ^ n) (b i : Nat) : ml n r a b i < 2 ^ n := by
  induction i with
  | zero => exact Nat.two_pow_pos n
  | succ i ih =>
    simp only [ml]
    refine Nat.xor_lt_two_pow ih ?_
    split
    · exact nous_lt hr _ _ ha
    · exact Nat.two_pow_pos n
end Go.Proofs.YteahiigfclabfaaDoor.U

namespace Go.Proofs.YteahiigfclabfaaDoor.U
open Go.RowKit

theorem i64_xor_nat (a b : Nat) (ha : a < 2 ^ 62) (hb : b < 2 ^ 62) : bits .xor .i64 (a : Int) (b : Int) = ((a ^^^ b : Nat) : Int) := by
  have ha' : a % 2 ^ IntKind.i64.bits = a := Nat.mod_eq_of_lt (Nat.lt_of_lt_of_le ha (Nat.pow_le_pow_right (by decide) (by decide)))
  have hb' : b % 2 ^ IntKind.i64.bits = b := Nat.mod_eq_of_lt (Nat.lt_of_lt_of_le hb (Nat.pow_le_pow_right (by decide) (by decide)))
  have hl : a ^^^ b < 2 ^ 62 := Nat.xor_lt_two_pow ha hb
  simp only [bits, BitVec.ofInt_natCast, BitVec.toNat_xor, BitVec.toNat_ofNat, ha', hb']
  exact wraps_i64 _ (Int.natCast_nonneg _) (by exact_mod_cast hl)
theorem i64_and_one (a : Nat) (h : a < 2 ^ 62) : bits .and .i64 (a : Int) 1 = ((a % 2 : Nat) : Int) := by
  have := i64_and_nat a 1 h (by decide)
  rw [Nat.and_one_is_mod] at this
  exact this
theorem testBit_mod (b i : Nat) : b.testBit i = decide (b / 2 ^ i % 2 = 1) := by
  rw [Nat.testBit, Nat.shiftRight_eq_div_pow, Nat.and_comm, Nat.and_one_is_mod]
  have := Nat.mod_lt (b / 2 ^ i) (show 0 < 2 by decide)
  by_cases h : b / 2 ^ i % 2 = 1
  · rw [h]; rfl
  · rw [show b / 2 ^ i % 2 = 0 from by omega]; rfl
theorem nou_hi {n r v : Nat} (hn : 1 ≤ n) (hr : r < 2 ^ n) (hv : v < 2 ^ n) (h : 2 ^ n ≤ 2 * v) : nou n r v = (2 * v) ^^^ (2 ^ n ||| r) := by
  unfold nou
  rw [testBit_top hn hv, if_pos (by simpa using h)]
  have e1 : 2 * v = 2 ^ n ^^^ (2 * v % 2 ^ n) := by
    have := xor_add_high 1 (2 * v % 2 ^ n) n (Nat.mod_lt _ (Nat.two_pow_pos n))
    rw [Nat.one_mul] at this
    rw [this, Nat.mod_eq_sub_mod h, Nat.mod_eq_of_lt (by omega)]
    omega
  have e2 : 2 ^ n ||| r = 2 ^ n ^^^ r := by
    have a := Nat.two_pow_add_eq_or_of_lt hr 1
    have b := xor_add_high 1 r n hr
    rw [Nat.mul_one] at a
    rw [Nat.one_mul] at b
    omega
  rw [e2]
  generalize 2 * v % 2 ^ n = x at *
  rw [e1, xor4, Nat.xor_self, Nat.zero_xor]
/-- a struct of a divisor lies here -/
abbrev dv (n r : Int) : Value := .agg #[iv n, iv r]

/-! The divisor of 8 bits. -/
/-! The divisor of 16 bits. -/
end Go.Proofs.YteahiigfclabfaaDoor.U

namespace Go.Proofs.YteahiigfclabfaaDoor.U
open Go.RowKit

theorem cell_keep {w w' : World} (ho : Only Nix w w') {a : Addr} {u : Value} (h : w.cell? a = some u) : w'.cell? a = some u := by
  rw [World.cell?_of_block (w := w) (ho.block a.block (World.block_lt_of_cell? w a h) (fun e => e))]
  exact h
theorem cell_only {F : Nat → Prop} {w w' : World} (ho : Only F w w') {a : Addr} {u : Value} (h : w.cell? a = some u) (hF : ¬ F a.block) : w'.cell? a = some u := by
  rw [World.cell?_of_block (w := w) (ho.block a.block (World.block_lt_of_cell? w a h) hF)]
  exact h

/-- The slice v0 holds these bytes. -/
structure Src (w : World) (v0 : Value) (bs : List Nat) : Prop where
  form : ∃ A c, v0 = .slice A bs.length c ∧ ∀ j, (hj : j < bs.length) → ∃ ad, A = some ad ∧ w.cell? (ad.add j) = some (byt bs[j])
  small : bs.length ≤ 140737488355328
  lt : ∀ x ∈ bs, x < 256
theorem add_block (ad : Addr) (j : Nat) : (ad.add j).block = ad.block := by unfold Addr.add; split <;> rfl
theorem Src.only {F : Nat → Prop} {w w' : World} {v : Value} {bs : List Nat} (h : Src w v bs) (ho : Only F w w') (hF : ∀ i, i < w.heap.size → F i → ∀ ad n c, v = .slice (some ad) n c → ad.block ≠ i) : Src w' v bs := by
  obtain ⟨A, c, hv, hc⟩ := h.form
  refine ⟨⟨A, c, hv, fun j hj => ?_⟩, h.small, h.lt⟩
  obtain ⟨ad, hA, hx⟩ := hc j hj
  refine ⟨ad, hA, cell_only ho hx (fun e => ?_)⟩
  subst hA
  exact hF _ (World.block_lt_of_cell? w _ hx) e ad _ c hv (add_block ad j).symm
theorem Src.nix {w w' : World} {v : Value} {bs : List Nat} (h : Src w v bs) (ho : Only Nix w w') : Src w' v bs := h.only ho (fun _ _ e => e.elim)
theorem Src.of_cells {w : World} {b off c n : Nat} {bs : List Nat} (hn : bs.length = n) (h : ∀ j, (hj : j < bs.length) → w.cell? ⟨b, off + j, none⟩ = some (byt bs[j])) (hs : bs.length ≤ 140737488355328) (hl : ∀ x ∈ bs, x < 256) : Src w (.slice (some ⟨b, off, none⟩) n c) bs :=
  ⟨⟨_, c, by rw [hn], fun j hj => ⟨_, rfl, by rw [Addr.add_lit]; exact h j hj⟩⟩, hs, hl⟩
theorem Src.nil (w : World) : Src w (.slice none 0 0) [] := ⟨⟨none, 0, rfl, fun j hj => by simp at hj⟩, by simp, by simp⟩

/-- The slice v0 holds these slices of bytes. -/
structure Lists (w : World) (v0 : Value) (bss : List (List Nat)) : Prop where
  form : ∃ A c, v0 = .slice A bss.length c ∧ ∀ j, (hj : j < bss.length) → ∃ ad vj, A = some ad ∧ w.cell? (ad.add j) = some vj ∧ Src w vj bss[j]
  small : bss.length ≤ 140737488355328
theorem Lists.nix {w w' : World} {v : Value} {bss : List (List Nat)} (h : Lists w v bss) (ho : Only Nix w w') : Lists w' v bss := by
  obtain ⟨A, c, hv, hc⟩ := h.form
  refine ⟨⟨A, c, hv, fun j hj => ?_⟩, h.small⟩
  obtain ⟨ad, vj, hA, hx, hs⟩ := hc j hj
  exact ⟨ad, vj, hA, cell_keep ho hx, hs.nix ho⟩
theorem Lists.slice {w : World} {v : Value} {bss : List (List Nat)} (h : Lists w v bss) : ∃ A c, v = .slice A bss.length c := by
  obtain ⟨A, c, hv, _⟩ := h.form
  exact ⟨A, c, hv⟩
theorem Src.slice {w : World} {v : Value} {bs : List Nat} (h : Src w v bs) : ∃ A c, v = .slice A bs.length c := by
  obtain ⟨A, c, hv, _⟩ := h.form
  exact ⟨A, c, hv⟩
theorem Src.at_ {w : World} {A : Option Addr} {n c : Nat} {bs : List Nat} (h : Src w (.slice A n c) bs) {k : Nat} (hk : k < bs.length) : ∃ ad, A = some ad ∧ w.cell? (ad.add k) = some (byt bs[k]) := by
  obtain ⟨A', c', hv, hc⟩ := h.form
  injection hv with e1 _ _
  subst e1
  exact hc k hk
theorem Src.len {w : World} {A : Option Addr} {n c : Nat} {bs : List Nat} (h : Src w (.slice A n c) bs) : n = bs.length := by
  obtain ⟨A', c', hv, _⟩ := h.form
  injection hv
theorem Lists.at_ {w : World} {A : Option Addr} {n c : Nat} {bss : List (List Nat)} (h : Lists w (.slice A n c) bss) {k : Nat} (hk : k < bss.length) : ∃ ad A' c', A = some ad ∧ w.cell? (ad.add k) = some (.slice A' bss[k].length c') ∧ Src w (.slice A' bss[k].length c') bss[k] := by
  obtain ⟨A', c', hv, hc⟩ := h.form
  injection hv with e1 _ _
  subst e1
  obtain ⟨ad, vj, hA, hx, hs⟩ := hc k hk
  obtain ⟨B, d, hB⟩ := hs.slice
  subst hB
  exact ⟨ad, B, d, hA, hx, hs⟩

/-- A literal of slices, just made. -/
theorem Lists.of_cells {w : World} {b n c : Nat} {vs : List Value} {bss : List (List Nat)} (hl : vs.length = bss.length) (hn : bss.length = n) (hs : bss.length ≤ 140737488355328)
    (hc : ∀ j, (hj : j < vs.length) → w.cell? ⟨b, j, none⟩ = some vs[j]) (hv : ∀ j, (hj : j < vs.length) → Src w vs[j] (bss[j]'(hl ▸ hj))) : Lists w (.slice (some ⟨b, 0, none⟩) n c) bss :=
  ⟨⟨_, c, by rw [hn], fun j hj => ⟨_, vs[j]'(hl ▸ hj), rfl, by rw [Addr.add_lit, Nat.zero_add]; exact hc j (hl ▸ hj), hv j (hl ▸ hj)⟩⟩, hs⟩

theorem lists1 {w : World} {v : Value} {bs : List Nat} (h : Src w v bs) (t : TypeId) : Lists (w.alloc (.cells #[v] t)) (.slice (some ⟨w.heap.size, 0, none⟩) 1 1) [bs] := by
  have ho := (Only.refl Nix w).alloc (.cells #[v] t)
  refine Lists.of_cells (vs := [v]) rfl rfl (by simp) (fun j hj => ?_) (fun j hj => ?_)
  · match j, hj with
    | 0, _ => simp
  · match j, hj with
    | 0, _ => exact h.nix ho
theorem lists2 {w : World} {v v' : Value} {bs bs' : List Nat} (h : Src w v bs) (h' : Src w v' bs') (t : TypeId) : Lists (w.alloc (.cells #[v, v'] t)) (.slice (some ⟨w.heap.size, 0, none⟩) 2 2) [bs, bs'] := by
  have ho := (Only.refl Nix w).alloc (.cells #[v, v'] t)
  refine Lists.of_cells (vs := [v, v']) rfl rfl (by simp) (fun j hj => ?_) (fun j hj => ?_)
  · match j, hj with
    | 0, _ => simp
    | 1, _ => simp
  · match j, hj with
    | 0, _ => exact h.nix ho
    | 1, _ => exact h'.nix ho
theorem lists3 {w : World} {v v' v'' : Value} {bs bs' bs'' : List Nat} (h : Src w v bs) (h' : Src w v' bs') (h'' : Src w v'' bs'') (t : TypeId) : Lists (w.alloc (.cells #[v, v', v''] t)) (.slice (some ⟨w.heap.size, 0, none⟩) 3 3) [bs, bs', bs''] := by
  have ho := (Only.refl Nix w).alloc (.cells #[v, v', v''] t)
  refine Lists.of_cells (vs := [v, v', v'']) rfl rfl (by simp) (fun j hj => ?_) (fun j hj => ?_)
  · match j, hj with
    | 0, _ => simp
    | 1, _ => simp
    | 2, _ => simp
  · match j, hj with
    | 0, _ => exact h.nix ho
    | 1, _ => exact h'.nix ho
    | 2, _ => exact h''.nix ho
/-- literals of bytes -/
theorem src1 (w : World) (x : Nat) (hx : x < 256) (t : TypeId) : Src (w.alloc (.cells #[.int .u8 (x : Int)] t)) (.slice (some ⟨w.heap.size, 0, none⟩) 1 1) [x] := by
  refine Src.of_cells rfl (fun j hj => ?_) (by simp) (by simpa using hx)
  match j, hj with
  | 0, _ => simp [byt]
theorem src2 (w : World) (x y : Nat) (hx : x < 256) (hy : y < 256) (t : TypeId) : Src (w.alloc (.cells #[.int .u8 (x : Int), .int .u8 (y : Int)] t)) (.slice (some ⟨w.heap.size, 0, none⟩) 2 2) [x, y] := by
  refine Src.of_cells rfl (fun j hj => ?_) (by simp) (by simpa using ⟨hx, hy⟩)
  match j, hj with
  | 0, _ => simp [byt]
  | 1, _ => simp [byt]

/-- The tables of package sums hold what start-up laid. -/
def hi8 : List Nat := [0, 112, 224, 144, 199, 183, 39, 87, 137, 249, 105, 25, 78, 62, 174, 222]
def lo8 : List Nat := [0, 7, 14, 9, 28, 27, 18, 21, 56, 63, 54, 49, 36, 35, 42, 45]
def hi16 : List Nat := [0, 32867, 32963, 160, 33155, 480, 320, 33059, 33539, 864, 960, 33699, 640, 33507, 33347, 544]
def lo16 : List Nat := [0, 32773, 32783, 10, 32795, 30, 20, 32785, 32819, 54, 60, 32825, 40, 32813, 32807, 34]
structure Laid (w : World) : Prop where
  e0 : w.cell? ⟨4, 0, none⟩ = some (iv 8)
  e1 : w.cell? ⟨4, 1, none⟩ = some (iv 7)
  h8 : ∀ k, k < 16 → w.cell? ⟨5, k, none⟩ = some (iv (hi8.getD k 0 : Nat))
  l8 : ∀ k, k < 16 → w.cell? ⟨6, k, none⟩ = some (iv (lo8.getD k 0 : Nat))
theorem Laid.keep {w w' : World} (h : Laid w) (hk : ∀ a u, w.cell? a = some u → w'.cell? a = some u) : Laid w' :=
  ⟨hk _ _ h.e0, hk _ _ h.e1, fun k hl => hk _ _ (h.h8 k hl), fun k hl => hk _ _ (h.l8 k hl)⟩
theorem Laid.nix {w w' : World} (h : Laid w) (ho : Only Nix w w') : Laid w' := h.keep fun _ _ hc => cell_keep ho hc

theorem tab8 : ∀ v, v < 256 → hi8.getD (v / 16) 0 ^^^ lo8.getD (v % 16) 0 = nous 8 7 8 v := by decide +kernel
theorem tab16 : ∀ v, v < 256 → hi16.getD (v / 16) 0 ^^^ lo16.getD (v % 16) 0 = nous 16 32773 16 v := by decide +kernel
theorem tabLt : ∀ k, k < 16 → hi8.getD k 0 < 65536 ∧ lo8.getD k 0 < 65536 ∧ hi16.getD k 0 < 65536 ∧ lo16.getD k 0 < 65536 := by decide +kernel
theorem and15 (v : Nat) (hv : v < 256) : bits .and .i64 (v : Int) 15 = ((v % 16 : Nat) : Int) := by
  have := i64_and_nat v 15 (by omega) (by decide)
  rw [show (15 : Nat) = 2 ^ 4 - 1 from rfl, Nat.and_two_pow_sub_one_eq_mod] at this
  exact this

set_option maxHeartbeats 400000 in
theorem of8 {w : World} (h : Laid w) (z : Int) (v : Nat) (hz : z = (v : Int)) (hv : v < 256) :
    Calls Tryd.prog 55 #[iv z] w fun e w' => e = .returned (iv (nous 8 7 8 v : Nat)) ∧ Only Nix w w' := by
  subst hz
  have h1 := h.h8 (v / 16) (by omega)
  have h2 := h.l8 (v % 16) (by omega)
  have hr : Hid (bits .xor .i64 (hi8.getD (v / 16) 0 : Nat) (lo8.getD (v % 16) 0 : Nat) = ((nous 8 7 8 v : Nat) : Int)) := by
    show _ = _
    have a := (tabLt (v / 16) (by omega)).1
    have b := (tabLt (v % 16) (by omega)).2.1
    rw [i64_xor_nat _ _ (by omega) (by omega), tab8 v hv]
  generalize hi8.getD (v / 16) 0 = X at *
  generalize lo8.getD (v % 16) 0 = Y at *
  have e1 := and15 v hv
  have i1 : ((v : Int) / 16).toNat = v / 16 := by omega
  have i2 : 0 ≤ (v : Int) / 16 := by omega
  have i3 : (v : Int) / 16 < 16 := by omega
  have i4 : 0 ≤ ((v % 16 : Nat) : Int) := by omega
  have i5 : ((v % 16 : Nat) : Int) < 16 := by omega
  go_enter Tryd.func55, Tryd.ntmps55
  go_wp2
  go_quiet (fail)
  go_wp2
  go_ret
  exact ⟨ret1 hr.out, (Only.refl _ _).drewN _⟩

end Go.Proofs.YteahiigfclabfaaDoor.U

namespace Go.Proofs.YteahiigfclabfaaDoor.U
open Go.RowKit

theorem and_all8 (s : Nat) (h : s < 256) : bits .and .i64 ((s : Int) * 256) 255 = ((s * 256 % 2 ^ 8 : Nat) : Int) := by
  have := i64_and_nat (s * 256) 255 (by omega) (by decide)
  rw [show (255 : Nat) = 2 ^ 8 - 1 from rfl, Nat.and_two_pow_sub_one_eq_mod] at this
  rw [← this, Int.natCast_mul]; rfl
theorem and_all16 (s : Nat) (h : s < 65536) : bits .and .i64 ((s : Int) * 256) 65535 = ((s * 256 % 2 ^ 16 : Nat) : Int) := by
  have := i64_and_nat (s * 256) 65535 (by omega) (by decide)
  rw [show (65535 : Nat) = 2 ^ 16 - 1 from rfl, Nat.and_two_pow_sub_one_eq_mod] at this
  rw [← this, Int.natCast_mul]; rfl
theorem outz8 (s x : Nat) (hs : s < 256) (hx : x < 256) : bits .xor .i64 ((s : Int)) (x : Int) = ((s / 2 ^ (8 - 8) ^^^ x : Nat) : Int) := by
  have e : ((s : Int)) = ((s / 2 ^ (8 - 8) : Nat) : Int) := by simp
  have h : s / 2 ^ (8 - 8) ≤ s := Nat.div_le_self _ _
  rw [e]
  exact i64_xor_nat _ _ (by omega) (by omega)
theorem stepz8 (s x : Nat) (hs : s < 256) (hx : x < 256) : bits .xor .i64 (bits .and .i64 ((s : Int) * 256) 255) ((nous 8 7 8 (s / 2 ^ (8 - 8) ^^^ x) : Nat) : Int) = ((stepS 8 7 s x : Nat) : Int) := by
  have hl : s / 2 ^ (8 - 8) < 2 ^ 8 := by simp; omega
  have hn : nous 8 7 8 (s / 2 ^ (8 - 8) ^^^ x) < 2 ^ 8 := nous_lt (by decide) _ _ (Nat.lt_of_lt_of_le (Nat.xor_lt_two_pow (n := 8) hl hx) (by decide))
  have hm : s * 256 % 2 ^ 8 < 2 ^ 8 := Nat.mod_lt _ (by decide)
  rw [and_all8 s hs, step_table (by decide) hs]
  exact i64_xor_nat _ _ (by omega) (by omega)
theorem outz16 (s x : Nat) (hs : s < 65536) (hx : x < 256) : bits .xor .i64 ((s : Int) / 256) (x : Int) = ((s / 2 ^ (16 - 8) ^^^ x : Nat) : Int) := by
  have e : ((s : Int) / 256) = ((s / 2 ^ (16 - 8) : Nat) : Int) := by simp
  have h : s / 2 ^ (16 - 8) ≤ s := Nat.div_le_self _ _
  rw [e]
  exact i64_xor_nat _ _ (by omega) (by omega)
theorem stepz16 (s x : Nat) (hs : s < 65536) (hx : x < 256) : bits .xor .i64 (bits .and .i64 ((s : Int) * 256) 65535) ((nous 16 32773 16 (s / 2 ^ (16 - 8) ^^^ x) : Nat) : Int) = ((stepS 16 32773 s x : Nat) : Int) := by
  have hl : s / 2 ^ (16 - 8) < 2 ^ 8 := by simp; omega
  have hn : nous 16 32773 16 (s / 2 ^ (16 - 8) ^^^ x) < 2 ^ 16 := nous_lt (by decide) _ _ (Nat.lt_of_lt_of_le (Nat.xor_lt_two_pow (n := 8) hl hx) (by decide))
  have hm : s * 256 % 2 ^ 16 < 2 ^ 16 := Nat.mod_lt _ (by decide)
  rw [and_all16 s hs, step_table (by decide) hs]
  exact i64_xor_nat _ _ (by omega) (by omega)
theorem flat_lt {w : World} {v : Value} {bss : List (List Nat)} (h : Lists w v bss) : ∀ x ∈ bss.flatten, x < 256 := by
  intro x hx
  obtain ⟨bs, hb, hx⟩ := List.mem_flatten.1 hx
  obtain ⟨j, hj, rfl⟩ := List.mem_iff_getElem.1 hb
  obtain ⟨A, c, hv, hc⟩ := h.form
  obtain ⟨ad, vj, _, _, hs⟩ := hc j hj
  exact hs.lt x hx
theorem flat_take {w : World} {v : Value} {bss : List (List Nat)} (h : Lists w v bss) (i : Nat) : ∀ x ∈ (bss.take i).flatten, x < 256 := by
  intro x hx
  refine flat_lt h x ?_
  obtain ⟨bs, hb, hx⟩ := List.mem_flatten.1 hx
  exact List.mem_flatten.2 ⟨bs, List.mem_of_mem_take hb, hx⟩
/-- the table of a Meter, which the variable at pl points to -/
structure MTab (w : World) (pl : Addr) (b off : Nat) : Prop where
  p : w.cell? pl = some (.pointer (some ⟨b, 0, none⟩))
  tab : ∀ k, k < 256 → w.cell? ⟨b, off + k, none⟩ = some (iv (nous 16 32773 16 k : Nat))
theorem MTab.nix {w w' : World} {pl : Addr} {b off : Nat} (h : MTab w pl b off) (ho : Only Nix w w') : MTab w' pl b off := ⟨cell_keep ho h.p, fun k hk => cell_keep ho (h.tab k hk)⟩

def Out8 (w : World) (bss : List (List Nat)) (s7 s20 : Value) (wr : World) : Prop :=
  ∃ i : Nat, i ≤ bss.length ∧ s20 = iv i ∧ s7 = iv (sm 8 7 (bss.take i).flatten : Nat) ∧ Only Nix w wr ∧ Box wr w.heap.size 96 #[iv 8, iv 7]
def In8 (w w1 : World) (t : Nat) (bs : List Nat) (s7 s26 : Value) (wr : World) : Prop :=
  ∃ k : Nat, k ≤ bs.length ∧ s26 = iv k ∧ s7 = iv (smFrom 8 7 t (bs.take k) : Nat) ∧ Only Nix w1 wr ∧ Box wr w.heap.size 96 #[iv 8, iv 7]

set_option maxHeartbeats 1000000 in
theorem sum8 {w : World} {v0 : Value} {bss : List (List Nat)} (hG : Laid w) (h : Lists w v0 bss) :
    Calls Tryd.prog 54 #[dv 8 7, v0, .func (.func 55) #[] #[]] w fun e w' => e = .returned (iv (sm 8 7 bss.flatten : Nat)) ∧ Only Nix w w' := by
  obtain ⟨A, c, hv⟩ := h.slice
  subst hv
  have hsm := h.small
  go_enter Tryd.func54, Tryd.ntmps54
  go_wp2
  go_quiet (fail)
  go_wp2
  go_loopw [7, 20] (fun s7 s20 wr => Out8 w bss s7 s20 wr) (fun _ s20 _ => bss.length - (intOf s20).toNat)
  case atStart => exact ⟨0, Nat.zero_le _, rfl, rfl, ((Only.refl _ _).alloc _).drewN _, (Box.new _ _ _).drewN _⟩
  case round =>
    obtain ⟨i, hi, rfl, rfl, ho, hB⟩ := hrel
    by_cases hlt : i < bss.length
    · obtain ⟨ad, A', c', e1, hx, hs⟩ := (h.nix ho).at_ hlt
      subst e1
      have hlt2 : (i : Int) < (bss.length : Int) := by omega
      have htl := sm_lt (n := 8) (r := 7) (by decide) (by decide) _ (flat_take h i)
      have hfl : Hid ((bss.take (i + 1)).flatten = (bss.take i).flatten ++ bss[i]) := by
        show _ = _
        rw [List.take_succ_eq_append_getElem hlt, List.flatten_append, List.flatten_singleton]
      have hS := hs
      have hsl := hs.small
      have HS := Lib.hid hS
      clear hS hs
      generalize bss[i] = bs at *
      generalize ht : sm 8 7 (bss.take i).flatten = t at *
      have HT := Lib.hid ht
      have HB := Lib.hid hB
      have HO := Lib.hid ho
      clear ht hB ho
      go_wp2
      generalize hW : wr = W1 at *
      clear hW
      go_loopw [7, 26] (fun s7 s26 wi => In8 w W1 t bs s7 s26 wi) (fun _ s26 _ => bs.length - (intOf s26).toNat)
      case atStart => exact ⟨0, Nat.zero_le _, rfl, rfl, Only.refl _ _, HB.out⟩
      case round =>
        obtain ⟨k, hk, rfl, rfl, ho2, hB2⟩ := hrel
        by_cases hkl : k < bs.length
        · obtain ⟨ad2, e2, hx2⟩ := (HS.out.nix ho2).at_ hkl
          subst e2
          unfold byt at hx2
          have hxl := HS.out.lt _ (List.getElem_mem hkl)
          have hkl2 : (k : Int) < (bs.length : Int) := by omega
          have hst : Hid (smFrom 8 7 t (bs.take (k + 1)) = stepS 8 7 (smFrom 8 7 t (bs.take k)) bs[k]) := by
            show _ = _
            rw [List.take_succ_eq_append_getElem hkl]
            unfold smFrom
            rw [List.foldl_append]
            rfl
          have hsl2 : smFrom 8 7 t (bs.take k) < 256 := by
            rw [smFrom_eq]
            exact Nat.xor_lt_two_pow (n := 8) (nous_lt (by decide) _ _ htl) (sm_lt (by decide) (by decide) _ (fun x hx => HS.out.lt x (List.mem_of_mem_take hx)))
          have c0 := hB2.cell 0
          have c1 := hB2.cell 1
          simp at c0 c1
          have HB2 := Lib.hid hB2
          clear hB2
          generalize bs[k] = x at *
          generalize smFrom 8 7 t (bs.take k) = s at *
          have hz : Hid (bits .xor .i64 ((s : Int)) (x : Int) = ((s / 2 ^ (8 - 8) ^^^ x : Nat) : Int)) := outz8 s x hsl2 hxl
          have hzz : Hid (_ = ((stepS 8 7 s x : Nat) : Int)) := stepz8 s x hsl2 hxl
          have hvl : s / 2 ^ (8 - 8) ^^^ x < 256 := Nat.xor_lt_two_pow (n := 8) (by simp; omega) hxl
          generalize s / 2 ^ (8 - 8) ^^^ x = q at hz hzz hvl
          have hG2 := Lib.hid ((hG.nix HO.out).nix ho2)
          go_wp2_with (go_at_call 55; refine (of8 hG2.out _ _ hz.out hvl).mono ?_; rintro e w' ⟨rfl, ho3⟩)
          go_roundw
          case rel => exact ⟨k + 1, by omega, by go_num, by rw [hst.out, ← hzz.out], ho2.trans ho3, HB2.out.only ho3 (fun e => e)⟩
          case measure => simp [intOf]; omega
        · obtain rfl : k = bs.length := by omega
          go_wp2
          go_roundw
          case rel => exact ⟨i + 1, by omega, by go_num, by rw [hfl.out, sm_append, HT.out, ← smFrom_eq, List.take_length], HO.out.trans ho2, hB2⟩
          case measure => simp [intOf]; omega
    · obtain rfl : i = bss.length := by omega
      rw [List.take_length] at *
      go_wp2
      go_ret
      exact ⟨rfl, ho⟩

set_option maxHeartbeats 400000 in
theorem Sum8_any {w : World} {v0 : Value} {bss : List (List Nat)} (hL : Laid w) (h : Lists w v0 bss) :
    Calls Tryd.prog 32 #[v0] w fun e w' => e = .returned (iv (sm 8 7 bss.flatten : Nat)) ∧ Only Nix w w' := by
  have H := Lib.hid (sum8 hL h)
  have h0 := hL.e0
  have h1 := hL.e1
  clear h
  generalize sm 8 7 bss.flatten = X at *
  go_enter Tryd.func32, Tryd.ntmps32
  go_wp2_with fail
  refine (H.out).mono ?_
  rintro e w' ⟨rfl, ho⟩
  go_wp2
  go_ret
  exact ⟨rfl, ho⟩
end Go.Proofs.YteahiigfclabfaaDoor.U
