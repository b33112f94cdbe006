/-
  The digest, in plain mathematics.
-/
namespace Go.Proofs.YtekmebbioalpdaaDoor

/-- what is added in each round -/
def KS : List Nat := [3614090360, 3905402710, 606105819, 3250441966, 4118548399, 1200080426, 2821735955, 4249261313, 1770035416, 2336552879, 4294925233, 2304563134, 1804603682, 4254626195, 2792965006, 1236535329, 4129170786, 3225465664, 643717713, 3921069994, 3593408605, 38016083, 3634488961, 3889429448, 568446438, 3275163606, 4107603335, 1163531501, 2850285829, 4243563512, 1735328473, 2368359562, 4294588738, 2272392833, 1839030562, 4259657740, 2763975236, 1272893353, 4139469664, 3200236656, 681279174, 3936430074, 3572445317, 76029189, 3654602809, 3873151461, 530742520, 3299628645, 4096336452, 1126891415, 2878612391, 4237533241, 1700485571, 2399980690, 4293915773, 2240044497, 1873313359, 4264355552, 2734768916, 1309151649, 4149444226, 3174756917, 718787259, 3951481745]
/-- by how much is turned -/
def TS : List Nat := [7, 12, 17, 22, 5, 9, 14, 20, 4, 11, 16, 23, 6, 10, 15, 21]
/-- a sum of 32 bits -/
def ad (x y : Nat) : Nat := (x + y) % 4294967296
/-- all bits turned over -/
def nt (x : Nat) : Nat := 4294967295 - x
/-- turned to the left -/
def rt (x s : Nat) : Nat := (x * 2 ^ s % 4294967296) ||| (x / 2 ^ (32 - s))
def ff (i b c d : Nat) : Nat :=
  if i < 16 then (b &&& c) ||| (nt b &&& d) else if i < 32 then (d &&& b) ||| (nt d &&& c) else if i < 48 then (b ^^^ c) ^^^ d else c ^^^ (b ||| nt d)
def gg (i : Nat) : Nat := if i < 16 then i else if i < 32 then 5 * i + 1 else if i < 48 then 3 * i + 5 else 7 * i
/-- four numbers -/
structure Q where
  a : Nat
  b : Nat
  c : Nat
  d : Nat
deriving DecidableEq
def Q.ok (q : Q) : Prop := q.a < 4294967296 ∧ q.b < 4294967296 ∧ q.c < 4294967296 ∧ q.d < 4294967296
def Q0 : Q := ⟨1732584193, 4023233417, 2562383102, 271733878⟩
/-- what is turned in round i -/
def smd (M : List Nat) (i : Nat) (q : Q) : Nat := ad (ad (ad q.a (ff i q.b q.c q.d)) (KS.getD i 0)) (M.getD (gg i % 16) 0)
def rnd (M : List Nat) (i : Nat) (q : Q) : Q := ⟨q.d, ad q.b (rt (smd M i q) (TS.getD (i / 16 * 4 + i % 4) 0)), q.b, q.c⟩
def rnds (M : List Nat) : Nat → Q → Q
  | 0, q => q
  | n + 1, q => rnd M n (rnds M n q)
/-- one block more -/
def mxN (n : Nat) (M : List Nat) (q : Q) : Q := ⟨ad q.a (rnds M n q).a, ad q.b (rnds M n q).b, ad q.c (rnds M n q).c, ad q.d (rnds M n q).d⟩
def mx (M : List Nat) (q : Q) : Q := mxN 64 M q
theorem mx_is (M : List Nat) (q : Q) : mx M q = mxN 64 M q := rfl
/-- a word of a part -/
def wd (p : List Nat) (k : Nat) : Nat := p.getD (4 * k) 0 + 256 * p.getD (4 * k + 1) 0 + 65536 * p.getD (4 * k + 2) 0 + 16777216 * p.getD (4 * k + 3) 0
def wds (p : List Nat) : List Nat := (List.range 16).map (wd p)
/-- the numbers behind k blocks -/
def hs : Nat → List Nat → Q
  | 0, _ => Q0
  | k + 1, bs => mx (wds ((bs.drop (64 * k)).take 64)) (hs k bs)
/-- so many bytes of a number, the least one first -/
def lf (v : Nat) : Nat → List Nat
  | 0 => []
  | n + 1 => lf v n ++ [v / 2 ^ (8 * n) % 256]
/-- what comes behind n bytes -/
def zeros (n : Nat) : Nat := (64 - (n + 1 + 8) % 64) % 64
def tail_ (n : Nat) : List Nat := (128 :: List.replicate (zeros n) 0) ++ lf (8 * n) 8
def outQ (q : Q) : List Nat := lf q.a 4 ++ lf q.b 4 ++ lf q.c 4 ++ lf q.d 4
/-- the digest -/
def md (bs : List Nat) : List Nat := outQ (hs ((bs.length + (tail_ bs.length).length) / 64) (bs ++ tail_ bs.length))

theorem ad_lt (x y : Nat) : ad x y < 4294967296 := Nat.mod_lt _ (by decide)
theorem nt_lt (x : Nat) : nt x < 4294967296 := by unfold nt; omega
theorem or_lt32 {x y : Nat} (hx : x < 4294967296) (hy : y < 4294967296) : x ||| y < 4294967296 := Nat.or_lt_two_pow (n := 32) hx hy
theorem and_lt32 {x y : Nat} (hx : x < 4294967296) : x &&& y < 4294967296 := Nat.lt_of_le_of_lt Nat.and_le_left hx
theorem xor_lt32 {x y : Nat} (hx : x < 4294967296) (hy : y < 4294967296) : x ^^^ y < 4294967296 := Nat.xor_lt_two_pow (n := 32) hx hy
theorem rt_lt (x s : Nat) (hx : x < 4294967296) : rt x s < 4294967296 := or_lt32 (Nat.mod_lt _ (by decide)) (Nat.lt_of_le_of_lt (Nat.div_le_self _ _) hx)
theorem rnd_ok (M : List Nat) (i : Nat) {q : Q} (h : q.ok) : (rnd M i q).ok := ⟨h.2.2.2, ad_lt _ _, h.2.1, h.2.2.1⟩
theorem rnds_ok (M : List Nat) : ∀ (n : Nat) {q : Q}, q.ok → (rnds M n q).ok
  | 0, _, h => h
  | n + 1, _, h => rnd_ok M n (rnds_ok M n h)
theorem mxN_ok (n : Nat) (M : List Nat) (q : Q) : (mxN n M q).ok := ⟨ad_lt _ _, ad_lt _ _, ad_lt _ _, ad_lt _ _⟩
theorem mx_ok (M : List Nat) (q : Q) : (mx M q).ok := mxN_ok _ _ _
theorem Q0_ok : Q0.ok := by unfold Q.ok Q0; decide
theorem hs_ok : ∀ (k : Nat) (bs : List Nat), (hs k bs).ok
  | 0, _ => Q0_ok
  | _ + 1, _ => mx_ok _ _
theorem ff_lt (i b c d : Nat) (hb : b < 4294967296) (hc : c < 4294967296) (hd : d < 4294967296) : ff i b c d < 4294967296 := by
  unfold ff
  (repeat' split)
  · exact or_lt32 (and_lt32 hb) (and_lt32 (nt_lt _))
  · exact or_lt32 (and_lt32 hd) (and_lt32 (nt_lt _))
  · exact xor_lt32 (xor_lt32 hb hc) hd
  · exact xor_lt32 hc (or_lt32 hb (nt_lt _))
theorem smd_lt (M : List Nat) (i : Nat) (q : Q) : smd M i q < 4294967296 := ad_lt _ _
theorem lf_len (v : Nat) : ∀ n, (lf v n).length = n
  | 0 => rfl
  | n + 1 => by rw [lf, List.length_append, lf_len v n]; rfl
theorem lf_lt (v : Nat) : ∀ n, ∀ x ∈ lf v n, x < 256
  | 0, x, h => by simp [lf] at h
  | n + 1, x, h => by
    rw [lf] at h
    rcases List.mem_append.1 h with h | h
    · exact lf_lt v n x h
    · have := List.mem_singleton.1 h
      omega
theorem out_len (q : Q) : (outQ q).length = 16 := by simp [outQ, lf_len]
theorem out_lt (q : Q) : ∀ x ∈ outQ q, x < 256 := by
  intro x hx
  unfold outQ at hx
  rcases List.mem_append.1 hx with hx | hx
  · rcases List.mem_append.1 hx with hx | hx
    · rcases List.mem_append.1 hx with hx | hx
      · exact lf_lt _ _ x hx
      · exact lf_lt _ _ x hx
    · exact lf_lt _ _ x hx
  · exact lf_lt _ _ x hx
/-- a block's numbers hang on what is there by then alone -/
theorem hs_append : ∀ (k : Nat) (bs cs : List Nat), 64 * k ≤ bs.length → hs k (bs ++ cs) = hs k bs
  | 0, _, _, _ => rfl
  | k + 1, bs, cs, h => by
    have e : ((bs ++ cs).drop (64 * k)).take 64 = (bs.drop (64 * k)).take 64 := by
      rw [List.drop_append_of_le_length (by omega), List.take_append_of_le_length (by rw [List.length_drop]; omega)]
    rw [hs, hs, hs_append k bs cs (by omega), e]
theorem tail_len (n : Nat) : (tail_ n).length = 1 + zeros n + 8 := by simp [tail_, lf_len]; omega
theorem tail_mod (n : Nat) : (n + (tail_ n).length) % 64 = 0 := by rw [tail_len]; unfold zeros; omega
theorem tail_bd (n : Nat) : (tail_ n).length ≤ 72 := by rw [tail_len]; unfold zeros; omega
theorem md_empty : md [] = [212, 29, 140, 217, 143, 0, 178, 4, 233, 128, 9, 152, 236, 248, 66, 126] := by decide +kernel
end Go.Proofs.YtekmebbioalpdaaDoor
