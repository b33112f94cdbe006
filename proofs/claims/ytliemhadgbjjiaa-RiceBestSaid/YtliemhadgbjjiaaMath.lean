/-
  Plain mathematics of bits: bytes as lists of bits, numbers of bits.
-/
namespace Go.Proofs.Ytliemhadgbjjiaa

/-- n bits of v, the greatest first -/
def bitsN : Nat → Nat → List Nat
  | 0, _ => []
  | n + 1, v => (v / 2 ^ n % 2) :: bitsN n v
/-- the bits of bytes -/
def bitsOf (bs : List Nat) : List Nat := bs.flatMap (bitsN 8)
/-- the number that bits are -/
def val (l : List Nat) : Nat := l.foldl (fun n b => 2 * n + b) 0

theorem bitsN_len (n v : Nat) : (bitsN n v).length = n := by
  induction n with
  | zero => rfl
  | succ n ih => simp [bitsN, ih]
theorem bitsN_le (n v : Nat) : ∀ b ∈ bitsN n v, b ≤ 1 := by
  induction n with
  | zero => simp [bitsN]
  | succ n ih =>
    intro b hb
    simp only [bitsN, List.mem_cons] at hb
    rcases hb with rfl | hb
    · have := Nat.mod_lt (v / 2 ^ n) (show 0 < 2 by omega); omega
    · exact ih b hb
theorem bitsOf_nil : bitsOf [] = [] := rfl
theorem bitsOf_cons (x : Nat) (bs : List Nat) : bitsOf (x :: bs) = bitsN 8 x ++ bitsOf bs := by simp [bitsOf]
theorem bitsOf_append (a b : List Nat) : bitsOf (a ++ b) = bitsOf a ++ bitsOf b := by simp [bitsOf]
theorem bitsOf_len (bs : List Nat) : (bitsOf bs).length = 8 * bs.length := by
  induction bs with
  | nil => rfl
  | cons x bs ih => rw [bitsOf_cons, List.length_append, bitsN_len, ih, List.length_cons]; omega
theorem bitsOf_le (bs : List Nat) : ∀ b ∈ bitsOf bs, b ≤ 1 := by
  intro b hb
  simp only [bitsOf, List.mem_flatMap] at hb
  obtain ⟨x, _, hx⟩ := hb
  exact bitsN_le 8 x b hx

theorem val_go (l : List Nat) (a : Nat) : l.foldl (fun n b => 2 * n + b) a = a * 2 ^ l.length + val l := by
  induction l generalizing a with
  | nil => simp [val]
  | cons b l ih =>
    have e : val (b :: l) = l.foldl (fun n b => 2 * n + b) (2 * 0 + b) := rfl
    rw [List.foldl_cons, ih, e, ih, List.length_cons, Nat.pow_succ]
    have e2 : (2 * a + b) * 2 ^ l.length = a * (2 ^ l.length * 2) + b * 2 ^ l.length := by
      rw [Nat.add_mul, Nat.mul_comm 2 a, Nat.mul_assoc, Nat.mul_comm 2 (2 ^ l.length)]
    rw [e2]; simp [Nat.add_assoc]
theorem val_append (l m : List Nat) : val (l ++ m) = val l * 2 ^ m.length + val m := by
  unfold val
  rw [List.foldl_append, val_go]
  rfl
theorem val_nil : val [] = 0 := rfl
theorem val_cons (b : Nat) (l : List Nat) : val (b :: l) = b * 2 ^ l.length + val l := by
  have := val_append [b] l
  simpa [val] using this
theorem val_lt (l : List Nat) (h : ∀ b ∈ l, b ≤ 1) : val l < 2 ^ l.length := by
  induction l with
  | nil => simp [val]
  | cons b l ih =>
    rw [val_cons, List.length_cons, Nat.pow_succ]
    have h1 := ih (fun b hb => h b (List.mem_cons_of_mem _ hb))
    have h2 := h b (List.mem_cons_self ..)
    have h3 : b * 2 ^ l.length ≤ 1 * 2 ^ l.length := Nat.mul_le_mul_right _ h2
    omega
theorem val_bitsN (n v : Nat) : val (bitsN n v) = v % 2 ^ n := by
  induction n with
  | zero => simp [bitsN, val, Nat.mod_one]
  | succ n ih =>
    rw [bitsN, val_cons, ih, bitsN_len, Nat.pow_succ, Nat.mod_mul]
    rw [Nat.mul_comm (v / 2 ^ n % 2)]; omega
theorem bitsN_mod (n v : Nat) : ∀ m, n ≤ m → bitsN n (v % 2 ^ m) = bitsN n v := by
  induction n with
  | zero => intro _ _; rfl
  | succ n ih =>
    intro m hm
    rw [bitsN, bitsN, ih m (by omega)]
    congr 1
    obtain ⟨k, rfl⟩ := Nat.exists_eq_add_of_le hm
    rw [show n + 1 + k = n + (1 + k) from by omega, Nat.pow_add, Nat.mod_mul_right_div_self, Nat.pow_add, Nat.pow_one]
    exact Nat.mod_mul_right_mod _ _ _
theorem bitsN_add (a b v : Nat) : bitsN (a + b) v = bitsN a (v / 2 ^ b) ++ bitsN b v := by
  induction a with
  | zero => simp [bitsN]
  | succ a ih =>
    rw [show a + 1 + b = (a + b) + 1 from by omega, bitsN, ih, bitsN, List.cons_append, Nat.div_div_eq_div_mul, ← Nat.pow_add, Nat.add_comm b a]
theorem bitsN_val (l : List Nat) (h : ∀ b ∈ l, b ≤ 1) : bitsN l.length (val l) = l := by
  induction l with
  | nil => rfl
  | cons b l ih =>
    have h1 := ih (fun b hb => h b (List.mem_cons_of_mem _ hb))
    have h2 := h b (List.mem_cons_self ..)
    have h3 := val_lt l (fun b hb => h b (List.mem_cons_of_mem _ hb))
    rw [val_cons, List.length_cons, bitsN]
    have hp : 0 < 2 ^ l.length := Nat.two_pow_pos _
    have e1 : (b * 2 ^ l.length + val l) / 2 ^ l.length = b := by
      rw [Nat.mul_comm, Nat.mul_add_div hp, Nat.div_eq_of_lt h3]; rfl
    rw [e1, Nat.mod_eq_of_lt (by omega)]
    congr 1
    rw [← bitsN_mod l.length _ l.length (Nat.le_refl _), Nat.mul_comm, Nat.mul_add_mod, Nat.mod_eq_of_lt h3]
    exact h1

/-- a piece of one number's bits -/
theorem bitsN_piece (n v j k : Nat) (h : j + k ≤ n) : ((bitsN n v).drop j).take k = bitsN k (v / 2 ^ (n - j - k)) := by
  have e : n = j + (k + (n - j - k)) := by omega
  have e1 : bitsN n v = bitsN j (v / 2 ^ (k + (n - j - k))) ++ (bitsN k (v / 2 ^ (n - j - k)) ++ bitsN (n - j - k) v) := by
    rw [← bitsN_add, ← bitsN_add, ← e]
  rw [e1, List.drop_left' (bitsN_len _ _), List.take_left' (bitsN_len _ _)]

theorem bitsOf_split (bs : List Nat) (i : Nat) (h : i < bs.length) : bitsOf bs = bitsOf (bs.take i) ++ (bitsN 8 bs[i] ++ bitsOf (bs.drop (i + 1))) := by
  rw [← bitsOf_cons, ← bitsOf_append, List.getElem_cons_drop, List.take_append_drop]

/-- bits within one byte -/
theorem bitsOf_piece (bs : List Nat) (p k : Nat) (h : p / 8 < bs.length) (hk : k ≤ 8 - p % 8) :
    ((bitsOf bs).drop p).take k = bitsN k (bs[p / 8] / 2 ^ (8 - p % 8 - k)) := by
  have hl : (bitsOf (bs.take (p / 8))).length = 8 * (p / 8) := by rw [bitsOf_len, List.length_take]; omega
  have hp : p = 8 * (p / 8) + p % 8 := by omega
  rw [bitsOf_split bs _ h, List.drop_append, hl, show p - 8 * (p / 8) = p % 8 from by omega, List.drop_of_length_le (by rw [hl]; omega), List.nil_append,
    List.drop_append, bitsN_len, show p % 8 - 8 = 0 from by omega, List.drop_zero, List.take_append, List.length_drop, bitsN_len, show k - (8 - p % 8) = 0 from by omega,
    List.take_zero, List.append_nil]
  exact bitsN_piece 8 _ _ _ (by omega)

theorem chunk (bs : List Nat) (p k : Nat) (h : p / 8 < bs.length) (hk : k ≤ 8 - p % 8) :
    val (((bitsOf bs).drop p).take k) = bs[p / 8] / 2 ^ (8 - p % 8 - k) % 2 ^ k := by
  rw [bitsOf_piece bs p k h hk, val_bitsN]

/-- a number, a piece longer -/
theorem val_more (l : List Nat) (a n k : Nat) (h : a + n + k ≤ l.length) :
    val ((l.drop a).take (n + k)) = val ((l.drop a).take n) * 2 ^ k + val ((l.drop (a + n)).take k) := by
  have e : (l.drop a).take (n + k) = (l.drop a).take n ++ (l.drop (a + n)).take k := by
    rw [List.take_add, List.drop_drop]
  rw [e, val_append, List.length_take, List.length_drop, Nat.min_eq_left (by omega)]

end Go.Proofs.Ytliemhadgbjjiaa
