/-
  Texts of earlier stages, put together.
-/
import Derived.Test.YteahiigfclabfaaDoorRows
import Derived.WalkKit
import Derived.WalkSpells
import Derived.Deep.QuietTactic
import Derived.BigQuiet
import Derived.Deep.Draws
import Derived.Lib.Hide
import Derived.Laws.BitsLemmas
import Derived.Laws.BitsAllLaws
namespace Go.Proofs.YteahiigfclabfaaDoor
open Go.RowKit

/-- Of the blocks that were there, at most those of F have turned; nothing else of the world has, but for draws and new blocks. -/
structure Only (F : Nat → Prop) (w w' : World) : Prop where
  os : w'.os = w.os
  tape : w'.tape = w.tape
  output : w'.output = w.output
  size : w.heap.size ≤ w'.heap.size
  block : ∀ k, k < w.heap.size → ¬ F k → w'.heap[k]? = w.heap[k]?

/-- no block -/
def Nix (_ : Nat) : Prop := False
/-- one block -/
def Just (b k : Nat) : Prop := k = b

theorem Only.refl (F : Nat → Prop) (w : World) : Only F w w := ⟨rfl, rfl, rfl, Nat.le_refl _, fun _ _ _ => rfl⟩
theorem Only.trans {F : Nat → Prop} {a b c : World} (h : Only F a b) (k : Only F b c) : Only F a c :=
  ⟨k.os.trans h.os, k.tape.trans h.tape, k.output.trans h.output, Nat.le_trans h.size k.size, fun i hi hf => (k.block i (Nat.lt_of_lt_of_le hi h.size) hf).trans (h.block i hi hf)⟩
/-- what F' lets turn is either let by F, or new -/
theorem Only.then {F F' : Nat → Prop} {a b c : World} (h : Only F a b) (k : Only F' b c) (hF : ∀ i, F' i → F i ∨ a.heap.size ≤ i) : Only F a c :=
  ⟨k.os.trans h.os, k.tape.trans h.tape, k.output.trans h.output, Nat.le_trans h.size k.size, fun i hi hf =>
    (k.block i (Nat.lt_of_lt_of_le hi h.size) (fun e => (hF i e).elim hf (fun hh => by omega))).trans (h.block i hi hf)⟩
theorem Only.mono {F F' : Nat → Prop} {a b : World} (h : Only F a b) (hF : ∀ i, F i → F' i) : Only F' a b :=
  ⟨h.os, h.tape, h.output, h.size, fun i hi hf => h.block i hi (fun e => hf (hF i e))⟩
theorem Only.nix {F : Nat → Prop} {a b : World} (h : Only Nix a b) : Only F a b := h.mono fun _ e => e.elim
theorem Only.drew {F : Nat → Prop} {a w : World} (h : Only F a w) : Only F a w.drew := ⟨h.os, h.tape, h.output, h.size, h.block⟩
theorem Only.drewN {F : Nat → Prop} {a w : World} (h : Only F a w) (n : Nat) : Only F a (w.drewN n) := ⟨h.os, h.tape, h.output, h.size, h.block⟩
theorem Only.alloc {F : Nat → Prop} {a w : World} (h : Only F a w) (o : Obj) : Only F a (w.alloc o) :=
  ⟨h.os, h.tape, h.output, by have := h.size; simp; omega, fun i hi hf => (Below.heap_alloc w o i (Nat.lt_of_lt_of_le hi h.size)).trans (h.block i hi hf)⟩
theorem Only.setCell {F : Nat → Prop} {a w : World} (h : Only F a w) {p : Addr} (hp : F p.block ∨ a.heap.size ≤ p.block) (u : Value) : Only F a (w.setCell p u) :=
  ⟨h.os, h.tape, h.output, by have := h.size; simpa [World.setCell] using this, fun i hi hf =>
    (Below.heap_setCell w p u i (fun e => by subst e; exact hp.elim hf (fun hh => by omega))).trans (h.block i hi hf)⟩
theorem Only.grown {F : Nat → Prop} {a w w' : World} {row : Option Nat} (h : Only F a w) (hg : w.grownBy w' row) (hr : ∀ k, row = some k → F k ∨ a.heap.size ≤ k) : Only F a w' :=
  ⟨hg.os.trans h.os, hg.tape.trans h.tape, hg.output.trans h.output, Nat.le_trans h.size hg.size, fun i hi hf =>
    (hg.block i (Nat.lt_of_lt_of_le hi h.size) (fun e => (hr i e.symm).elim hf (fun hh => by omega))).trans (h.block i hi hf)⟩
theorem Only.below {F : Nat → Prop} {a w : World} {B : Nat} (h : Only F a w) (hB : B ≤ a.heap.size) (hF : ∀ i, F i → B ≤ i) : Below B a w :=
  ⟨h.os, h.tape, h.output, h.size, fun i hi => h.block i (by omega) (fun e => by have := hF i e; omega)⟩
theorem Only.ofBelow {a w : World} {B : Nat} (h : Below B a w) (hB : a.heap.size ≤ B) : Only Nix a w :=
  ⟨h.os, h.tape, h.output, h.size, fun i hi _ => h.block i (by omega)⟩

/-- Block b is just these cells, none of them frozen. -/
def Box (w : World) (b : Nat) (t : TypeId) (cs : Array Value) : Prop := w.heap[b]? = some (.cells cs t (0, 0))

section
variable {w w' : World} {b : Nat} {t : TypeId} {cs : Array Value}
theorem Box.lt (h : Box w b t cs) : b < w.heap.size := by
  unfold Box at h
  exact (Array.getElem?_eq_some_iff.1 h).1
theorem Box.cell (h : Box w b t cs) (i : Nat) : w.cell? ⟨b, i, none⟩ = cs[i]? := cell_of_row w b i cs t (0, 0) h
theorem Box.frozen (h : Box w b t cs) (i : Nat) : w.frozen? ⟨b, i, none⟩ = false := by
  unfold Box at h
  simp [World.frozen?, h]
theorem Box.new (w : World) (t : TypeId) (cs : Array Value) : Box (w.alloc (.cells cs t)) w.heap.size t cs := heap_alloc_new w _
theorem Box.drew (h : Box w b t cs) : Box w.drew b t cs := h
theorem Box.drewN (h : Box w b t cs) (n : Nat) : Box (w.drewN n) b t cs := h
theorem Box.alloc (h : Box w b t cs) (o : Obj) : Box (w.alloc o) b t cs := (Below.heap_alloc w o b h.lt).trans h
theorem Box.put (h : Box w b t cs) (i : Nat) (u : Value) : Box (w.setCell ⟨b, i, none⟩ u) b t (cs.setIfInBounds i u) := by
  unfold Box at h ⊢
  simp [World.setCell, Array.getElem?_modify, h]
theorem Box.off (h : Box w b t cs) {p : Addr} (hp : b ≠ p.block) (u : Value) : Box (w.setCell p u) b t cs := (Below.heap_setCell w p u b hp).trans h
theorem Box.only {F : Nat → Prop} (h : Box w b t cs) (ho : Only F w w') (hb : ¬ F b) : Box w' b t cs := (ho.block b h.lt hb).trans h
theorem Box.grown {row : Option Nat} (h : Box w b t cs) (hg : w.grownBy w' row) (hb : row ≠ some b) : Box w' b t cs := (hg.block b h.lt (fun e => hb e.symm)).trans h
theorem Box.type_ne {b' : Nat} {t' : TypeId} {cs' : Array Value} (h : Box w b t cs) (h' : Box w b' t' cs') (hne : t ≠ t') : b ≠ b' := by
  intro e
  subst e
  unfold Box at h h'
  rw [h] at h'
  injection h' with h'
  injection h' with _ ht
  exact hne ht
end

section
variable {w w' : World} {base : Nat} {e : TypeId} {size n : Nat} {v : Value} {xs : List Value}
theorem owns_only {F : Nat → Prop} (h : w.ownsRow base e size v n xs) (ho : Only F w w') (hv : ∀ g, v.ownBlock = some g → ¬ F g) : w'.ownsRow base e size v n xs := by
  refine ⟨h.1, ?_⟩
  rcases h.2 with hn | ⟨g, cap, cur, rfl, hb, hgg, rest⟩
  · exact .inl hn
  · refine .inr ⟨g, cap, cur, rfl, hb, ?_, rest⟩
    rw [ho.block g (Array.getElem?_eq_some_iff.1 hgg).1 (hv g (by simp [Value.ownBlock]))]
    exact hgg
theorem owns_box {b : Nat} {t : TypeId} {cs : Array Value} (h : w.ownsRow base e size v n xs) (hb : Box w b t cs) (hne : e ≠ t) : v.ownBlock ≠ some b := by
  rcases h.2 with ⟨rfl, _⟩ | ⟨g, cap, cur, rfl, _, hgg, _⟩
  · simp [Value.ownBlock]
  · intro he
    have hgb : g = b := by simpa [Value.ownBlock] using he
    subst hgb
    exact Box.type_ne (t := e) hgg hb hne rfl
theorem owns_lt (h : w.ownsRow base e size v n xs) {g : Nat} (hg : v.ownBlock = some g) : g < w.heap.size := (h.lt g hg).2
theorem owns_slice (h : w.ownsRow base e size v n xs) : ∃ A c, v = .slice A n c := by
  rcases h.2 with ⟨rfl, hn⟩ | ⟨g, cap, _, rfl, _⟩
  · exact ⟨none, 0, by rw [hn]⟩
  · exact ⟨_, _, rfl⟩
theorem owns_base (h : w.ownsRow base e size v n xs) : w.ownsRow 0 e size v n xs := by
  refine ⟨h.1, ?_⟩
  rcases h.2 with h3 | ⟨g, cap, cur, a1, a2, a3⟩
  · exact .inl h3
  · exact .inr ⟨g, cap, cur, a1, Nat.zero_le _, a3⟩
theorem owns_drewN (h : w.ownsRow base e size v n xs) (k : Nat) : (w.drewN k).ownsRow base e size v n xs := h
end

section
variable {P : Program} {f : FuncId} {args : Array Value} {w : World} {n : Nat} {v : Value}
/-- a callee that leaves the world alone, in a quiet region -/
theorem still_at (h : Calls P f args (w.drewN n) fun e w' => e = .returned v ∧ w.drewN n = w') : Calls P f args (w.drewN n) fun e u => e = .returned v ∧ ∃ m, u = w.drewN m :=
  h.mono fun _ _ hh => ⟨hh.1, n, hh.2.symm⟩
/-- .. behind another quiet region -/
theorem still_at2 {a : Nat} (h : Calls P f args (w.drewN (a + n)) fun e w' => e = .returned v ∧ w.drewN (a + n) = w') : Calls P f args (w.drewN (a + n)) fun e u => e = .returned v ∧ ∃ m, u = w.drewN (a + m) :=
  h.mono fun _ _ hh => ⟨hh.1, n, hh.2.symm⟩
end
theorem ret1 {k : IntKind} {a b : Int} (h : a = b) : Ending.returned (.int k a) = .returned (.int k b) := by rw [h]
theorem ret2 {k l : IntKind} {a b c d : Int} (h : a = b) (h' : c = d) : Ending.returned (.tuple #[.int k a, .int l c]) = .returned (.tuple #[.int k b, .int l d]) := by rw [h, h']
end Go.Proofs.YteahiigfclabfaaDoor

namespace Go.Proofs.YteahiigfclabfaaDoor

/-- n bits of v, the greatest first -/
def bitsN : Nat → Nat → List Nat
  | 0, _ => []
  | n + 1, v => (v / 2 ^ n % 2) :: bitsN n v
/-- the bits of bytes -/
def bitsOf (bs : List Nat) : List Nat := bs.flatMap (bitsN 8)
/-- the number that bits are -/
def val (l : List Nat) : Nat := l.foldl (fun n b => 2 * n + b) 0

theorem bitsN_len (n v : Nat) : (bitsN n v).length = n := by
  induction n with
  | zero => rfl
  | succ n ih => simp [bitsN, ih]
theorem bitsN_le (n v : Nat) : ∀ b ∈ bitsN n v, b ≤ 1 := by
  induction n with
  | zero => simp [bitsN]
  | succ n ih =>
    intro b hb
    simp only [bitsN, List.mem_cons] at hb
    rcases hb with rfl | hb
    · have := Nat.mod_lt (v / 2 ^ n) (show 0 < 2 by omega); omega
    · exact ih b hb
theorem bitsOf_nil : bitsOf [] = [] := rfl
theorem bitsOf_cons (x : Nat) (bs : List Nat) : bitsOf (x :: bs) = bitsN 8 x ++ bitsOf bs := by simp [bitsOf]
theorem bitsOf_append (a b : List Nat) : bitsOf (a ++ b) = bitsOf a ++ bitsOf b := by simp [bitsOf]
theorem bitsOf_len (bs : List Nat) : (bitsOf bs).length = 8 * bs.length := by
  induction bs with
  | nil => rfl
  | cons x bs ih => rw [bitsOf_cons, List.length_append, bitsN_len, ih, List.length_cons]; omega
theorem bitsOf_le (bs : List Nat) : ∀ b ∈ bitsOf bs, b ≤ 1 := by
  intro b hb
  simp only [bitsOf, List.mem_flatMap] at hb
  obtain ⟨x, _, hx⟩ := hb
  exact bitsN_le 8 x b hx

theorem val_go (l : List Nat) (a : Nat) : l.foldl (fun n b => 2 * n + b) a = a * 2 ^ l.length + val l := by
  induction l generalizing a with
  | nil => simp [val]
  | cons b l ih =>
    have e : val (b :: l) = l.foldl (fun n b => 2 * n + b) (2 * 0 + b) := rfl
    rw [List.foldl_cons, ih, e, ih, List.length_cons, Nat.pow_succ]
    have e2 : (2 * a + b) * 2 ^ l.length = a * (2 ^ l.length * 2) + b * 2 ^ l.length := by
      rw [Nat.add_mul, Nat.mul_comm 2 a, Nat.mul_assoc, Nat.mul_comm 2 (2 ^ l.length)]
    rw [e2]; simp [Nat.add_assoc]
theorem val_append (l m : List Nat) : val (l ++ m) = val l * 2 ^ m.length + val m := by
  unfold val
  rw [List.foldl_append, val_go]
  rfl
theorem val_nil : val [] = 0 := rfl
theorem val_cons (b : Nat) (l : List Nat) : val (b :: l) = b * 2 ^ l.length + val l := by
  have := val_append [b] l
  simpa [val] using this
theorem val_lt (l : List Nat) (h : ∀ b ∈ l, b ≤ 1) : val l < 2 ^ l.length := by
  induction l with
  | nil => simp [val]
  | cons b l ih =>
    rw [val_cons, List.length_cons, Nat.pow_succ]
    have h1 := ih (fun b hb => h b (List.mem_cons_of_mem _ hb))
    have h2 := h b (List.mem_cons_self ..)
    have h3 : b * 2 ^ l.length ≤ 1 * 2 ^ l.length := Nat.mul_le_mul_right _ h2
    omega
theorem val_bitsN (n v : Nat) : val (bitsN n v) = v % 2 ^ n := by
  induction n with
  | zero => simp [bitsN, val, Nat.mod_one]
  | succ n ih =>
    rw [bitsN, val_cons, ih, bitsN_len, Nat.pow_succ, Nat.mod_mul]
    rw [Nat.mul_comm (v / 2 ^ n % 2)]; omega
theorem bitsN_mod (n v : Nat) : ∀ m, n ≤ m → bitsN n (v % 2 ^ m) = bitsN n v := by
  induction n with
  | zero => intro _ _; rfl
  | succ n ih =>
    intro m hm
    rw [bitsN, bitsN, ih m (by omega)]
    congr 1
    obtain ⟨k, rfl⟩ := Nat.exists_eq_add_of_le hm
    rw [show n + 1 + k = n + (1 + k) from by omega, Nat.pow_add, Nat.mod_mul_right_div_self, Nat.pow_add, Nat.pow_one]
    exact Nat.mod_mul_right_mod _ _ _
theorem bitsN_add (a b v : Nat) : bitsN (a + b) v = bitsN a (v / 2 ^ b) ++ bitsN b v := by
  induction a with
  | zero => simp [bitsN]
  | succ a ih =>
    rw [show a + 1 + b = (a + b) + 1 from by omega, bitsN, ih, bitsN, List.cons_append, Nat.div_div_eq_div_mul, ← Nat.pow_add, Nat.add_comm b a]
theorem bitsN_val (l : List Nat) (h : ∀ b ∈ l, b ≤ 1) : bitsN l.length (val l) = l := by
  induction l with
  | nil => rfl
  | cons b l ih =>
    have h1 := ih (fun b hb => h b (List.mem_cons_of_mem _ hb))
    have h2 := h b (List.mem_cons_self ..)
    have h3 := val_lt l (fun b hb => h b (List.mem_cons_of_mem _ hb))
    rw [val_cons, List.length_cons, bitsN]
    have hp : 0 < 2 ^ l.length := Nat.two_pow_pos _
    have e1 : (b * 2 ^ l.length + val l) / 2 ^ l.length = b := by
      rw [Nat.mul_comm, Nat.mul_add_div hp, Nat.div_eq_of_lt h3]; rfl
    rw [e1, Nat.mod_eq_of_lt (by omega)]
    congr 1
    rw [← bitsN_mod l.length _ l.length (Nat.le_refl _), Nat.mul_comm, Nat.mul_add_mod, Nat.mod_eq_of_lt h3]
    exact h1

/-- a piece of one number's bits -/
theorem bitsN_piece (n v j k : Nat) (h : j + k ≤ n) : ((bitsN n v).drop j).take k = bitsN k (v / 2 ^ (n - j - k)) := by
  have e : n = j + (k + (n - j - k)) := by omega
  have e1 : bitsN n v = bitsN j (v / 2 ^ (k + (n - j - k))) ++ (bitsN k (v / 2 ^ (n - j - k)) ++ bitsN (n - j - k) v) := by
    rw [← bitsN_add, ← bitsN_add, ← e]
  rw [e1, List.drop_left' (bitsN_len _ _), List.take_left' (bitsN_len _ _)]

theorem bitsOf_split (bs : List Nat) (i : Nat) (h : i < bs.length) : bitsOf bs = bitsOf (bs.take i) ++ (bitsN 8 bs[i] ++ bitsOf (bs.drop (i + 1))) := by
  rw [← bitsOf_cons, ← bitsOf_append, List.getElem_cons_drop, List.take_append_drop]

/-- bits within one byte -/
theorem bitsOf_piece (bs : List Nat) (p k : Nat) (h : p / 8 < bs.length) (hk : k ≤ 8 - p % 8) :
    ((bitsOf bs).drop p).take k = bitsN k (bs[p / 8] / 2 ^ (8 - p % 8 - k)) := by
  have hl : (bitsOf (bs.take (p / 8))).length = 8 * (p / 8) := by rw [bitsOf_len, List.length_take]; omega
  have hp : p = 8 * (p / 8) + p % 8 := by omega
  rw [bitsOf_split bs _ h, List.drop_append, hl, show p - 8 * (p / 8) = p % 8 from by omega, List.drop_of_length_le (by rw [hl]; omega), List.nil_append,
    List.drop_append, bitsN_len, show p % 8 - 8 = 0 from by omega, List.drop_zero, List.take_append, List.length_drop, bitsN_len, show k - (8 - p % 8) = 0 from by omega,
    List.take_zero, List.append_nil]
  exact bitsN_piece 8 _ _ _ (by omega)

theorem chunk (bs : List Nat) (p k : Nat) (h : p / 8 < bs.length) (hk : k ≤ 8 - p % 8) :
    val (((bitsOf bs).drop p).take k) = bs[p / 8] / 2 ^ (8 - p % 8 - k) % 2 ^ k := by
  rw [bitsOf_piece bs p k h hk, val_bitsN]

/-- a number, a piece longer -/
theorem val_more (l : List Nat) (a n k : Nat) (h : a + n + k ≤ l.length) :
    val ((l.drop a).take (n + k)) = val ((l.drop a).take n) * 2 ^ k + val ((l.drop (a + n)).take k) := by
  have e : (l.drop a).take (n + k) = (l.drop a).take n ++ (l.drop (a + n)).take k := by
    rw [List.take_add, List.drop_drop]
  rw [e, val_append, List.length_take, List.length_drop, Nat.min_eq_left (by omega)]

end Go.Proofs.YteahiigfclabfaaDoor

namespace Go.Proofs.YteahiigfclabfaaDoor
open Go.RowKit

theorem w64 (n : Int) (h0 : -9223372036854775808 ≤ n) (h1 : n ≤ 9223372036854775807) : wrap64 n = n := by unfold wrap64; omega
theorem pow_cast (m : Nat) : (2 : Int) ^ m = ((2 ^ m : Nat) : Int) := by norm_cast
theorem pow_le_of {m M : Nat} (h : m ≤ M) : 2 ^ m ≤ 2 ^ M := Nat.pow_le_pow_right (by decide) h
theorem wraps_i64 (n : Int) (h₀ : 0 ≤ n) (h₁ : n < 2 ^ 62) : IntKind.i64.wrap n = n := by rw [IntKind.wrap_i64]; omega
theorem i64_and_nat (a b : Nat) (ha : a < 2 ^ 62) (hb : b < 2 ^ 62) : bits .and .i64 (a : Int) (b : Int) = ((a &&& b : Nat) : Int) := (bits_nat .i64 62 (by decide) wraps_i64 a b ha hb).1
theorem i64_or_nat (a b : Nat) (ha : a < 2 ^ 62) (hb : b < 2 ^ 62) : bits .or .i64 (a : Int) (b : Int) = ((a ||| b : Nat) : Int) := (bits_nat .i64 62 (by decide) wraps_i64 a b ha hb).2
theorem w64_pow (m : Nat) (hm : m ≤ 61) : wrap64 ((2 : Int) ^ m) = ((2 ^ m : Nat) : Int) := by
  have h := pow_le_of hm
  rw [pow_cast]; generalize 2 ^ m = P at *; exact w64 _ (by omega) (by omega)
theorem w64_mask (m : Nat) (hm : m ≤ 61) : wrap64 (wrap64 ((2 : Int) ^ m) - 1) = ((2 ^ m - 1 : Nat) : Int) := by
  have h := pow_le_of hm
  have h0 : 0 < 2 ^ m := Nat.two_pow_pos m
  rw [w64_pow m hm]; generalize 2 ^ m = P at *; rw [w64 _ (by omega) (by omega)]
  omega
theorem i64_mask (a m : Nat) (ha : a < 2 ^ 62) (hm : m ≤ 61) : bits .and .i64 (a : Int) (wrap64 (wrap64 ((2 : Int) ^ m) - 1)) = ((a % 2 ^ m : Nat) : Int) := by
  have h := pow_le_of hm
  rw [w64_mask m hm, i64_and_nat a _ ha (by omega), Nat.and_two_pow_sub_one_eq_mod]
theorem i64_join (a y m : Nat) (ha : a < 2 ^ 62) (hy : y < 2 ^ m) (hy2 : y < 2 ^ 62) (hd : a % 2 ^ m = 0) : bits .or .i64 (a : Int) (y : Int) = ((a + y : Nat) : Int) := by
  rw [i64_or_nat a y ha hy2, nat_join m a y hd hy]

/-- one step of reading a number: m bits more, which stand b bits ahead of their byte's end -/
theorem read_step (V x m b : Nat) (hV : V < 281474976710656) (hx : x < 256) (hm : m ≤ 8) :
    bits .or .i64 (wrap64 ((V : Int) * 2 ^ m)) (bits .and .i64 ((x : Int) / 2 ^ b) (wrap64 (wrap64 ((2 : Int) ^ m) - 1))) = ((V * 2 ^ m + x / 2 ^ b % 2 ^ m : Nat) : Int) := by
  have h := pow_le_of hm
  have h0 : 0 < 2 ^ m := Nat.two_pow_pos m
  have hV2 : V * 2 ^ m ≤ 281474976710656 * 2 ^ 8 := Nat.mul_le_mul (by omega) h
  have hxb : x / 2 ^ b ≤ x := Nat.div_le_self _ _
  have e1 : wrap64 ((V : Int) * 2 ^ m) = ((V * 2 ^ m : Nat) : Int) := by
    rw [pow_cast, ← Int.natCast_mul]; generalize V * 2 ^ m = P at *; exact w64 _ (by omega) (by omega)
  have e2 : (x : Int) / 2 ^ b = ((x / 2 ^ b : Nat) : Int) := by rw [pow_cast, ← Int.natCast_ediv]
  have hl : x / 2 ^ b % 2 ^ m < 2 ^ m := Nat.mod_lt _ h0
  rw [e1, e2, i64_mask _ m (by omega) (by omega), i64_join _ _ m (by omega) hl (by omega) (Nat.mul_mod_left _ _)]
end Go.Proofs.YteahiigfclabfaaDoor

namespace Go.Proofs.YteahiigfclabfaaDoor
open Go.RowKit

abbrev iv (n : Int) : Value := .int .i64 n
/-- a byte as a value -/
def byt (x : Nat) : Value := .int .u8 (x : Int)

/-- At block r lies a Reader of the bytes bs (in the slice v), a bits of which are behind. -/
structure Rd (w : World) (r : Nat) (v : Value) (bs : List Nat) (a : Nat) : Prop where
  box : Box w r 103 #[.int .i64 (a : Int), v]
  own : w.ownsRow 0 5 1 v bs.length (bs.map byt)
  lt : ∀ x ∈ bs, x < 256
  le : a ≤ 8 * bs.length
  small : bs.length ≤ 140737488355328

section
variable {w w' : World} {r : Nat} {v : Value} {bs : List Nat} {a : Nat}
theorem Rd.cell0 (h : Rd w r v bs a) : w.cell? ⟨r, 0, none⟩ = some (.int .i64 (a : Int)) := by rw [h.box.cell]; rfl
theorem Rd.cell1 (h : Rd w r v bs a) : w.cell? ⟨r, 1, none⟩ = some v := by rw [h.box.cell]; rfl
theorem Rd.slice (h : Rd w r v bs a) : ∃ A c, v = .slice A bs.length c := by
  rcases h.own.2 with ⟨rfl, hn⟩ | ⟨g, cap, _, rfl, _⟩
  · exact ⟨none, 0, by rw [hn]⟩
  · exact ⟨_, _, rfl⟩
theorem Rd.slice_pos (h : Rd w r v bs a) (hp : 0 < bs.length) : ∃ g c, v = .slice (some ⟨g, 0, none⟩) bs.length c ∧ g < w.heap.size ∧ ∀ j, (hj : j < bs.length) → w.cell? ⟨g, j, none⟩ = some (byt bs[j]) := by
  rcases h.own.2 with ⟨rfl, hn⟩ | ⟨g, cap, cur, rfl, _, hg, _⟩
  · omega
  · refine ⟨g, cap, rfl, (Array.getElem?_eq_some_iff.1 hg).1, fun j hj => ?_⟩
    rw [h.own.cellAt j (by omega)]
    simp [hj]
theorem Rd.ne (h : Rd w r v bs a) : v.ownBlock ≠ some r := owns_box h.own h.box (by decide)
theorem Rd.keep {F : Nat → Prop} (h : Rd w r v bs a) (ho : Only F w w') (hr : ¬ F r) (hv : ∀ g, v.ownBlock = some g → ¬ F g) : Rd w' r v bs a :=
  ⟨h.box.only ho hr, owns_only h.own ho hv, h.lt, h.le, h.small⟩
theorem Rd.nix (h : Rd w r v bs a) (ho : Only Nix w w') : Rd w' r v bs a := h.keep ho (fun e => e) (fun _ _ e => e)
theorem Rd.drewN (h : Rd w r v bs a) (n : Nat) : Rd (w.drewN n) r v bs a := h.nix ((Only.refl _ _).drewN n)
theorem Rd.alloc (h : Rd w r v bs a) (o : Obj) : Rd (w.alloc o) r v bs a := h.nix ((Only.refl _ _).alloc o)
theorem Rd.to (h : Rd w r v bs a) (a' : Nat) (ha : a' ≤ 8 * bs.length) : Rd (w.setCell ⟨r, 0, none⟩ (.int .i64 (a' : Int))) r v bs a' := by
  have ho : Only (Just r) w (w.setCell ⟨r, 0, none⟩ (.int .i64 (a' : Int))) := (Only.refl (Just r) w).setCell (p := ⟨r, 0, none⟩) (.inl rfl) _
  refine ⟨?_, owns_only h.own ho (fun g hg e => h.ne (by rw [hg]; exact congrArg some e)), h.lt, ha, h.small⟩
  simpa using h.box.put 0 (.int .i64 (a' : Int))
theorem Rd.mem (h : Rd w r v bs a) : r < w.heap.size := h.box.lt
end

set_option maxHeartbeats 400000 in
theorem room_any (b a : Nat) (w : World) (hc : w.cell? ⟨b, 0, none⟩ = some (.int .i64 a)) :
    Calls Tryd.prog 68 #[.pointer (some ⟨b, 0, none⟩)] w fun e w' => e = .returned (.int .i64 (8 - (a : Int) % 8)) ∧ w = w' := by
  go_enter Tryd.func68, Tryd.ntmps68
  go_wp2
  go_ret
  exact ⟨rfl, rfl⟩

set_option maxHeartbeats 400000 in
theorem pad_any (b a : Nat) (w : World) (hc : w.cell? ⟨b, 0, none⟩ = some (.int .i64 a)) :
    Calls Tryd.prog 51 #[.pointer (some ⟨b, 0, none⟩)] w fun e w' => e = .returned (.int .i64 ((8 - (a : Int) % 8) % 8)) ∧ w = w' := by
  go_enter Tryd.func51, Tryd.ntmps51
  go_wp2_with (go_at_call 68; refine (room_any _ _ _ hc).mono ?_; rintro e w' ⟨rfl, rfl⟩)
  go_ret
  exact ⟨rfl, rfl⟩

/-- how many bits up to the next byte's beginning -/
def padN (a : Nat) : Nat := (8 - a % 8) % 8
theorem padN_le (a : Nat) : padN a ≤ 7 := by unfold padN; omega
theorem pad_nat (b a : Nat) (w : World) (hc : w.cell? ⟨b, 0, none⟩ = some (.int .i64 a)) :
    Calls Tryd.prog 51 #[.pointer (some ⟨b, 0, none⟩)] w fun e w' => e = .returned (.int .i64 (padN a : Int)) ∧ w = w' := by
  have h := pad_any b a w hc
  rw [show ((8 - (a : Int) % 8) % 8) = (padN a : Int) from by unfold padN; omega] at h
  exact h

set_option maxHeartbeats 400000 in
theorem forth_any (b a : Nat) (n : Int) (w : World) (hc : w.cell? ⟨b, 0, none⟩ = some (.int .i64 a)) (hf : w.frozen? ⟨b, 0, none⟩ = false) (h0 : 0 ≤ n) (h1 : (a : Int) + n ≤ 4611686018427387904) :
    Calls Tryd.prog 52 #[.pointer (some ⟨b, 0, none⟩), .int .i64 n] w fun e w' => e = .returned (.tuple #[]) ∧ w.setCell ⟨b, 0, none⟩ (.int .i64 ((a : Int) + n)) = w' := by
  go_enter Tryd.func52, Tryd.ntmps52
  go_wp2
  go_end0
  exact ⟨rfl, rfl⟩

set_option maxHeartbeats 400000 in
theorem share_any (b a : Nat) (n : Int) (w : World) (hc : w.cell? ⟨b, 0, none⟩ = some (.int .i64 a)) (h0 : 0 ≤ n) :
    Calls Tryd.prog 66 #[.pointer (some ⟨b, 0, none⟩), .int .i64 n] w fun e w' => e = .returned (.tuple #[.int .i64 (min n (8 - (a : Int) % 8)), .int .i64 (8 - (a : Int) % 8 - min n (8 - (a : Int) % 8))]) ∧ w = w' := by
  by_cases h : n ≤ 8 - (a : Int) % 8
  · go_enter Tryd.func66, Tryd.ntmps66
    go_wp2_with (go_at_call 68; refine (room_any _ _ _ hc).mono ?_; rintro e w' ⟨rfl, rfl⟩)
    all_goals go_ret2
    all_goals exact ⟨ret2 (by omega) (by omega), rfl⟩
  · go_enter Tryd.func66, Tryd.ntmps66
    go_wp2_with (go_at_call 68; refine (room_any _ _ _ hc).mono ?_; rintro e w' ⟨rfl, rfl⟩)
    all_goals go_ret2
    all_goals exact ⟨ret2 (by omega) (by omega), rfl⟩

/-- .. in natural numbers: how many bits of this byte, and how many behind them -/
theorem share_nat (b a n : Nat) (w : World) (hc : w.cell? ⟨b, 0, none⟩ = some (.int .i64 a)) :
    Calls Tryd.prog 66 #[.pointer (some ⟨b, 0, none⟩), .int .i64 (n : Int)] w fun e w' => ∃ m q : Nat, (m ≤ n ∧ m + q = 8 - a % 8 ∧ (m = n ∨ q = 0)) ∧ e = .returned (.tuple #[.int .i64 (m : Int), .int .i64 (q : Int)]) ∧ w = w' := by
  refine (share_any b a n w hc (by omega)).mono fun e w' hh => ?_
  refine ⟨min n (8 - a % 8), 8 - a % 8 - min n (8 - a % 8), by omega, ?_, hh.2⟩
  rw [hh.1]
  exact ret2 (by omega) (by omega)

set_option maxHeartbeats 400000 in
theorem size_any (b n c : Nat) (A : Option Addr) (w : World) (hc : w.cell? ⟨b, 1, none⟩ = some (.slice A n c)) (hn : n ≤ 140737488355328) :
    Calls Tryd.prog 76 #[.pointer (some ⟨b, 0, none⟩)] w fun e w' => e = .returned (.int .i64 (8 * (n : Int))) ∧ w = w' := by
  go_enter Tryd.func76, Tryd.ntmps76
  go_wp2
  go_ret
  exact ⟨rfl, rfl⟩

set_option maxHeartbeats 400000 in
theorem maybe_yes (n : Int) (w : World) (h0 : 0 ≤ n) (h1 : n ≤ 48) :
    Calls Tryd.prog 47 #[.int .i64 n] w fun e w' => e = .returned (.bool true) ∧ w = w' := by
  go_enter Tryd.func47, Tryd.ntmps47
  go_wp2
  go_ret
  exact ⟨rfl, rfl⟩

set_option maxHeartbeats 400000 in
theorem maybe_no (n : Int) (w : World) (h : n < 0 ∨ 48 < n) :
    Calls Tryd.prog 47 #[.int .i64 n] w fun e w' => e = .returned (.bool false) ∧ w = w' := by
  rcases h with h | h
  · have hd : decide (0 ≤ n) = false := by simp; omega
    go_enter Tryd.func47, Tryd.ntmps47
    go_wp2
    go_ret
    exact ⟨rfl, rfl⟩
  · have hd : decide (0 ≤ n) = true := by simp; omega
    have hd2 : decide (n ≤ 48) = false := by simp; omega
    go_enter Tryd.func47, Tryd.ntmps47
    go_wp2
    go_ret
    exact ⟨rfl, rfl⟩

set_option maxHeartbeats 400000 in
theorem at_any (b a : Nat) (w : World) (hc : w.cell? ⟨b, 0, none⟩ = some (.int .i64 a)) :
    Calls Tryd.prog 45 #[.pointer (some ⟨b, 0, none⟩)] w fun e w' => e = .returned (.int .i64 a) ∧ w = w' := by
  go_enter Tryd.func45, Tryd.ntmps45
  go_wp2
  go_ret
  exact ⟨rfl, rfl⟩

set_option maxHeartbeats 400000 in
theorem left_raw (b a n c : Nat) (A : Option Addr) (w : World) (hc0 : w.cell? ⟨b, 0, none⟩ = some (.int .i64 a)) (hc : w.cell? ⟨b, 1, none⟩ = some (.slice A n c)) (hn : n ≤ 140737488355328) (ha : a ≤ 8 * n) :
    Calls Tryd.prog 72 #[.pointer (some ⟨b, 0, none⟩)] w fun e w' => e = .returned (.int .i64 (8 * (n : Int) - a)) ∧ ∃ k, w' = w.drewN k := by
  go_enter Tryd.func72, Tryd.ntmps72
  go_wp2
  go_quiet ((go_at_call 76; exact still_at (size_any _ _ _ _ _ hc hn)))
  go_wp2
  go_ret
  exact ⟨rfl, ⟨_, rfl⟩⟩

theorem left_any {w : World} {r : Nat} {v : Value} {bs : List Nat} {a : Nat} (h : Rd w r v bs a) :
    Calls Tryd.prog 72 #[.pointer (some ⟨r, 0, none⟩)] w fun e w' => e = .returned (.int .i64 (8 * (bs.length : Int) - a)) ∧ ∃ k, w' = w.drewN k := by
  obtain ⟨A, c, hv⟩ := h.slice
  have h1 := h.cell1
  rw [hv] at h1
  exact left_raw r a _ c A w h.cell0 h1 h.small h.le

end Go.Proofs.YteahiigfclabfaaDoor

namespace Go.Proofs.YteahiigfclabfaaDoor
open Go.RowKit

/-- a round's head: k bits are read, q are left -/
def AheadRel (w : World) (bs : List Nat) (a n : Nat) (s1 s5 : Value) (wr : World) : Prop :=
  ∃ k q p : Nat, k + q = n ∧ p = a + k ∧ s1 = .int .i64 (q : Int) ∧ s5 = .int .i64 (val (((bitsOf bs).drop a).take k) : Int) ∧ Box wr w.heap.size 86 #[.int .i64 (p : Int)] ∧ Only Nix w wr

set_option maxHeartbeats 1000000 in
theorem ahead_any {w : World} {r : Nat} {v : Value} {bs : List Nat} {a : Nat} (h : Rd w r v bs a) (n : Nat) (hn : n ≤ 48) (ha : a + n ≤ 8 * bs.length) :
    Calls Tryd.prog 73 #[.pointer (some ⟨r, 0, none⟩), .int .i64 (n : Int)] w fun e w' => e = .returned (.int .i64 (val (((bitsOf bs).drop a).take n) : Int)) ∧ Only Nix w w' := by
  have hc0 := h.cell0
  have hr := h.mem
  have hsm := h.small
  go_enter Tryd.func73, Tryd.ntmps73
  go_wp2
  go_region
  go_wp2
  go_loopw [1, 5] (fun s1 s5 wr => AheadRel w bs a n s1 s5 wr) (fun s1 _ _ => (intOf s1).toNat)
  case atStart => exact ⟨0, n, a, by omega, by omega, rfl, rfl, (Box.new w _ _).drew, ((Only.refl _ _).alloc _).drew⟩
  case round =>
    obtain ⟨k, q, p, hkq, hp, rfl, rfl, hb, ho⟩ := hrel
    have hpc := hb.cell 0
    have hpf := hb.frozen 0
    simp only [List.getElem?_toArray, List.getElem?_cons_zero] at hpc
    have hvl := val_lt (((bitsOf bs).drop a).take k) (fun x hx => bitsOf_le bs x (List.mem_of_mem_drop (List.mem_of_mem_take hx)))
    by_cases hq : 0 < q
    · have hR := h.nix ho
      obtain ⟨g, c, hv, hg, hcell⟩ := hR.slice_pos (by omega)
      have hc1 := hR.cell1
      rw [hv] at hc1
      have hix : p / 8 < bs.length := by omega
      have hx := hcell (p / 8) hix
      have hx2 := h.lt _ (List.getElem_mem hix)
      unfold byt at hx
      clear hcell hv hc0
      go_wp2_with fail
      refine (share_nat _ _ _ _ hpc).mono ?_
      rintro e w1 ⟨m, b, ⟨hm1, hm2, hm3⟩, rfl, rfl⟩
      have hV : val (((bitsOf bs).drop a).take k) < 281474976710656 := by
        have h2 : 2 ^ (((bitsOf bs).drop a).take k).length ≤ 2 ^ 48 := Nat.pow_le_pow_right (by omega) (by have := List.length_take_le k ((bitsOf bs).drop a); omega)
        omega
      generalize hVe : val (((bitsOf bs).drop a).take k) = V at *
      generalize hxe : bs[p / 8] = x at *
      have hm8 : m ≤ 8 := by omega
      have hb8 : b ≤ 8 := by omega
      have Hp := Lib.hid hp
      have Hkq := Lib.hid hkq
      have Hm2 := Lib.hid hm2
      have Hm3 := Lib.hid hm3
      have HVe := Lib.hid hVe
      have Hxe := Lib.hid hxe
      have hp2 : p ≤ 1125899906842624 := by omega
      have hix2 : (p : Int) / 8 < (bs.length : Int) := by omega
      clear hp hkq hm2 hm3 hVe hxe
      go_wp2_with fail
      go_quiet (fail)
      go_wp2_with fail
      refine (forth_any _ p (m : Int) _ ?_ ?_ (by omega) (by omega)).mono ?_
      · exact hpc
      · exact hpf
      rintro e w2 ⟨rfl, rfl⟩
      go_wp2
      have hkq := Hkq.out
      have hp := Hp.out
      have hm2 := Hm2.out
      have hm3 := Hm3.out
      have hw : wrap64 ((q : Int) - (m : Int)) = ((q - m : Nat) : Int) := by rw [w64 _ (by omega) (by omega)]; omega
      have hlen := bitsOf_len bs
      have hstep : V * 2 ^ m + x / 2 ^ b % 2 ^ m = val (((bitsOf bs).drop a).take (k + m)) := by
        rw [val_more _ _ _ _ (by omega), HVe.out, ← hp, chunk bs p m hix (by omega), Hxe.out, show 8 - p % 8 - m = b from by omega]
      refine ⟨⟨k + m, q - m, p + m, by omega, by omega, by rw [hw], by rw [read_step V x m b hV hx2 hm8, hstep], ?_, ?_⟩, ?_⟩
      · have h1 := (hb.drewN nq).put 0 (.int .i64 ((p + m : Nat) : Int))
        simpa using h1
      · exact (ho.drewN nq).setCell (.inr (Nat.le_refl _)) _
      · rw [hw]; simp [intOf]; omega
    · go_wp2
      go_ret
      refine ⟨ret1 ?_, ho⟩
      rw [show k = n from by omega]
end Go.Proofs.YteahiigfclabfaaDoor

namespace Go.Proofs.YteahiigfclabfaaDoor
open Go.RowKit

/-- the number of n bits from bit a on -/
def numAt (bs : List Nat) (a n : Nat) : Nat := val (((bitsOf bs).drop a).take n)
/-- Take's error -/
def takeE (bs : List Nat) (a : Nat) (n : Int) : Int := if n < 0 ∨ 48 < n then 1 else if 8 * (bs.length : Int) - a < n then 11 else 0
/-- Take's number -/
def takeR (bs : List Nat) (a : Nat) (n : Int) : Int := if takeE bs a n = 0 then (numAt bs a n.toNat : Int) else 0
/-- where it stands then -/
def takeA (bs : List Nat) (a : Nat) (n : Int) : Nat := if takeE bs a n = 0 then a + n.toNat else a
/-- Signed's number -/
def signR (bs : List Nat) (a : Nat) (n : Int) : Int :=
  if takeE bs a n = 0 then (if 0 < n ∧ 2 ^ (n.toNat - 1) ≤ numAt bs a n.toNat then (numAt bs a n.toNat : Int) - 2 ^ n.toNat else (numAt bs a n.toNat : Int)) else 0

theorem numAt_lt (bs : List Nat) (a n : Nat) : numAt bs a n < 2 ^ n := by
  have h := val_lt (((bitsOf bs).drop a).take n) (fun x hx => bitsOf_le bs x (List.mem_of_mem_drop (List.mem_of_mem_take hx)))
  exact Nat.lt_of_lt_of_le h (Nat.pow_le_pow_right (by decide) (List.length_take_le _ _))
theorem numAt_lt48 (bs : List Nat) (a n : Nat) (hn : n ≤ 48) : numAt bs a n < 281474976710656 :=
  Nat.lt_of_lt_of_le (numAt_lt bs a n) (pow_le_of hn)
theorem takeE_arg {bs : List Nat} {a : Nat} {n : Int} (h : n < 0 ∨ 48 < n) : takeE bs a n = 1 := by unfold takeE; rw [if_pos h]
theorem takeE_end {bs : List Nat} {a : Nat} {n : Int} (h : ¬ (n < 0 ∨ 48 < n)) (h2 : 8 * (bs.length : Int) - a < n) : takeE bs a n = 11 := by unfold takeE; rw [if_neg h, if_pos h2]
theorem takeE_ok {bs : List Nat} {a : Nat} {n : Int} (h : ¬ (n < 0 ∨ 48 < n)) (h2 : ¬ 8 * (bs.length : Int) - a < n) : takeE bs a n = 0 := by unfold takeE; rw [if_neg h, if_neg h2]

/-- what Take and Signed answer: a number, an error -/
abbrev two (a b : Int) : Ending := .returned (.tuple #[.int .i64 a, .int .i64 b])

section
variable {w : World} {r : Nat} {v : Value} {bs : List Nat} {a : Nat}

set_option maxHeartbeats 400000 in
theorem take_arg (r : Nat) (w : World) (n : Int) (hn : n < 0 ∨ 48 < n) :
    Calls Tryd.prog 69 #[.pointer (some ⟨r, 0, none⟩), .int .i64 n] w fun e w' => e = two 0 1 ∧ w = w' := by
  go_enter Tryd.func69, Tryd.ntmps69
  go_wp2_with fail
  refine (maybe_no _ _ hn).mono ?_
  rintro e w1 ⟨rfl, rfl⟩
  go_wp2
  go_ret2
  exact ⟨rfl, rfl⟩

set_option maxHeartbeats 400000 in
theorem take_end (h : Rd w r v bs a) (n : Int) (hn : ¬ (n < 0 ∨ 48 < n)) (he : 8 * (bs.length : Int) - a < n) :
    Calls Tryd.prog 69 #[.pointer (some ⟨r, 0, none⟩), .int .i64 n] w fun e w' => e = two 0 11 ∧ ∃ k, w' = w.drewN k := by
  have h0 : 0 ≤ n := by omega
  have h48 : n ≤ 48 := by omega
  clear hn
  go_enter Tryd.func69, Tryd.ntmps69
  go_wp2_with fail
  refine (maybe_yes _ _ h0 h48).mono ?_
  rintro e w1 ⟨rfl, rfl⟩
  go_wp2_with fail
  refine (left_any h).mono ?_
  rintro e w1 ⟨rfl, k, rfl⟩
  go_wp2
  go_ret2
  exact ⟨rfl, k, rfl⟩

set_option maxHeartbeats 400000 in
theorem take_ok (h : Rd w r v bs a) (n : Nat) (h48 : n ≤ 48) (ha : a + n ≤ 8 * bs.length) :
    Calls Tryd.prog 69 #[.pointer (some ⟨r, 0, none⟩), .int .i64 (n : Int)] w fun e w' => e = two (numAt bs a n : Int) 0 ∧ Rd w' r v bs (a + n) ∧ Only (Just r) w w' := by
  have hsm := h.small
  have hnl : ¬ (8 * (bs.length : Int) - a < (n : Int)) := by omega
  go_enter Tryd.func69, Tryd.ntmps69
  go_wp2_with fail
  refine (maybe_yes _ _ (by omega) (by omega)).mono ?_
  rintro e w1 ⟨rfl, rfl⟩
  go_wp2_with fail
  refine (left_any h).mono ?_
  rintro e w1 ⟨rfl, k, rfl⟩
  go_wp2_with fail
  refine (ahead_any (h.drewN k) n h48 ha).mono ?_
  rintro e w1 ⟨rfl, ho⟩
  have h1 := (h.drewN k).nix ho
  have hc := h1.cell0
  have hf := h1.box.frozen 0
  go_wp2_with fail
  refine (forth_any _ a (n : Int) _ hc hf (by omega) (by omega)).mono ?_
  rintro e w2 ⟨rfl, rfl⟩
  go_wp2
  go_ret2
  refine ⟨rfl, ?_, ?_⟩
  · have := h1.to (a + n) ha
    simpa using this
  · exact ((((Only.refl (Just r) w).drewN k).trans ho.nix).setCell (p := ⟨r, 0, none⟩) (.inl rfl) _)

theorem take_any (h : Rd w r v bs a) (n : Int) :
    Calls Tryd.prog 69 #[.pointer (some ⟨r, 0, none⟩), .int .i64 n] w fun e w' => e = two (takeR bs a n) (takeE bs a n) ∧ Rd w' r v bs (takeA bs a n) ∧ Only (Just r) w w' := by
  by_cases hn : n < 0 ∨ 48 < n
  · have e1 : takeE bs a n = 1 := takeE_arg hn
    have e2 : takeR bs a n = 0 := by unfold takeR; rw [e1]; rfl
    have e3 : takeA bs a n = a := by unfold takeA; rw [e1]; rfl
    rw [e1, e2, e3]
    exact (take_arg r w n hn).mono fun e w' ⟨he, hw⟩ => ⟨he, hw ▸ h, hw ▸ Only.refl _ _⟩
  · by_cases hl : 8 * (bs.length : Int) - a < n
    · have e1 : takeE bs a n = 11 := takeE_end hn hl
      have e2 : takeR bs a n = 0 := by unfold takeR; rw [e1]; rfl
      have e3 : takeA bs a n = a := by unfold takeA; rw [e1]; rfl
      rw [e1, e2, e3]
      exact (take_end h n hn hl).mono fun e w' ⟨he, k, hw⟩ => ⟨he, hw ▸ h.drewN k, hw ▸ (Only.refl _ _).drewN k⟩
    · have e1 : takeE bs a n = 0 := takeE_ok hn hl
      obtain ⟨m, rfl⟩ := Int.eq_ofNat_of_zero_le (show 0 ≤ n by omega)
      have e2 : takeR bs a (m : Int) = (numAt bs a m : Int) := by unfold takeR; rw [e1, if_pos rfl, Int.toNat_natCast]
      have e3 : takeA bs a (m : Int) = a + m := by unfold takeA; rw [e1, if_pos rfl, Int.toNat_natCast]
      rw [e1, e2, e3]
      exact take_ok h m (by omega) (by omega)

theorem takeR_pos {n : Int} (h : takeE bs a n = 0) : ∃ m : Nat, n = (m : Int) ∧ m ≤ 48 ∧ a + m ≤ 8 * bs.length ∧ takeR bs a n = (numAt bs a m : Int) ∧ takeA bs a n = a + m := by
  have hn : ¬ (n < 0 ∨ 48 < n) := fun hn => by rw [takeE_arg hn] at h; cases h
  have hl : ¬ (8 * (bs.length : Int) - a < n) := fun hl => by rw [takeE_end hn hl] at h; cases h
  obtain ⟨m, rfl⟩ := Int.eq_ofNat_of_zero_le (show 0 ≤ n by omega)
  exact ⟨m, rfl, by omega, by omega, by unfold takeR; rw [h, if_pos rfl, Int.toNat_natCast], by unfold takeA; rw [h, if_pos rfl, Int.toNat_natCast]⟩

/-- Seek's answers -/
def seekE (bs : List Nat) (at_ : Int) : Int := if at_ < 0 ∨ 8 * (bs.length : Int) < at_ then 10 else 0
def seekA (bs : List Nat) (a : Nat) (at_ : Int) : Nat := if at_ < 0 ∨ 8 * (bs.length : Int) < at_ then a else at_.toNat

set_option maxHeartbeats 400000 in
theorem seek_any (h : Rd w r v bs a) (t : Int) :
    Calls Tryd.prog 71 #[.pointer (some ⟨r, 0, none⟩), .int .i64 t] w fun e w' => e = .returned (.int .i64 (seekE bs t)) ∧ Rd w' r v bs (seekA bs a t) ∧ Only (Just r) w w' := by
  have hsm := h.small
  obtain ⟨A, c, hv⟩ := h.slice
  have hc1 := h.cell1
  rw [hv] at hc1
  have Hv := Lib.hid hv
  clear hv
  by_cases h0 : t < 0
  · have hd : decide (t < 0) = true := by simpa using h0
    have e1 : seekE bs t = 10 := by unfold seekE; rw [if_pos (.inl h0)]
    have e2 : seekA bs a t = a := by unfold seekA; rw [if_pos (.inl h0)]
    rw [e1, e2]
    clear e1 e2
    go_enter Tryd.func71, Tryd.ntmps71
    go_wp2
    go_ret
    exact ⟨rfl, h, Only.refl _ _⟩
  · have hd : decide (t < 0) = false := by simpa using h0
    by_cases h1 : 8 * (bs.length : Int) < t
    · have e1 : seekE bs t = 10 := by unfold seekE; rw [if_pos (.inr h1)]
      have e2 : seekA bs a t = a := by unfold seekA; rw [if_pos (.inr h1)]
      rw [e1, e2]
      clear e1 e2
      go_enter Tryd.func71, Tryd.ntmps71
      go_wp2_with fail
      refine (size_any _ _ _ _ _ hc1 hsm).mono ?_
      rintro e w1 ⟨rfl, rfl⟩
      go_wp2
      go_ret
      exact ⟨rfl, h, Only.refl _ _⟩
    · obtain ⟨m, rfl⟩ := Int.eq_ofNat_of_zero_le (show 0 ≤ t by omega)
      have e1 : seekE bs (m : Int) = 0 := by unfold seekE; rw [if_neg (by omega)]
      have e2 : seekA bs a (m : Int) = m := by unfold seekA; rw [if_neg (by omega), Int.toNat_natCast]
      rw [e1, e2]
      clear e1 e2
      have hf := h.box.frozen 0
      have hc0 := h.cell0
      go_enter Tryd.func71, Tryd.ntmps71
      go_wp2_with fail
      refine (size_any _ _ _ _ _ hc1 hsm).mono ?_
      rintro e w1 ⟨rfl, rfl⟩
      go_wp2
      go_ret
      exact ⟨rfl, h.to m (by omega), (Only.refl (Just r) w).setCell (p := ⟨r, 0, none⟩) (.inl rfl) _⟩
end
end Go.Proofs.YteahiigfclabfaaDoor

namespace Go.Proofs.YteahiigfclabfaaDoor
open Go.RowKit

theorem Tryd.info_byte : (Tryd.prog.info? 5).map (fun i => (i.zero, i.size, i.bytes)) = some (some (.int .u8 0), 1, 1) := by kernel_rfl

/-- The slice v0 holds these bytes. -/
structure Src (w : World) (v0 : Value) (bs : List Nat) : Prop where
  form : (v0 = .slice none 0 0 ∧ bs = []) ∨ ∃ ad c, v0 = .slice (some ad) bs.length c ∧ ∀ j u, (bs.map byt)[j]? = some u → w.cell? (ad.add j) = some u
  small : bs.length ≤ 140737488355328

theorem Src.of_owns {w : World} {base : Nat} {v : Value} {bs : List Nat} (h : w.ownsRow base 5 1 v bs.length (bs.map byt)) (hs : bs.length ≤ 140737488355328) : Src w v bs := by
  refine ⟨?_, hs⟩
  rcases h.2 with ⟨rfl, hn⟩ | ⟨g, cap, cur, rfl, hb, hg, rest⟩
  · exact .inl ⟨rfl, List.eq_nil_of_length_eq_zero hn⟩
  · exact .inr ⟨_, cap, rfl, h.cells (g := g) rfl⟩

set_option maxHeartbeats 400000 in
theorem clone_any {w : World} {v0 : Value} {bs : List Nat} (h : Src w v0 bs) :
    Calls Tryd.prog 53 #[v0] w fun e w' => ∃ v, e = .returned v ∧ w'.ownsRow w.heap.size 5 1 v bs.length (bs.map byt) ∧ Only Nix w w' := by
  have hsm := h.small
  obtain ⟨i0, hi, hz0, hz1, hz2⟩ := info_parts Tryd.info_byte
  rcases h.form with ⟨rfl, rfl⟩ | ⟨ad, c, rfl, hcell⟩
  · have hq := fun (u : World) => Lib.run_eql_slice_nil (P := Tryd.prog) u 28 5 none 0 0 0 0 Tryd.underlying28
    go_enter Tryd.func53, Tryd.ntmps53
    go_wp2
    go_ret
    exact ⟨_, rfl, World.ownsRow_nil _ _ _ _, Only.refl _ _⟩
  · have hq := fun (u : World) => Lib.run_eql_slice_nil (P := Tryd.prog) u 28 5 (some ad) bs.length c 0 0 Tryd.underlying28
    go_enter Tryd.func53, Tryd.ntmps53
    go_wp2_with (at_builtin; refine wpList_append_own _ rfl (.tmp 5) (.tmp 6) 28 rfl w.heap.size 5 i0 (.int .u8 0) 1 1 Tryd.underlying28 hi hz0 hz1 hz2 rfl (by decide) (.slice (some ⟨w.heap.size, 0, none⟩) 0 0) 0 [] rfl ?hown ad bs.length c (bs.map byt) rfl ?hl ?hnews ?h1 ?h63 ?hby ?hbase ?rest)
    case hown => exact World.ownsRow_lit w #[] 0 (Nat.le_refl _) (by unfold maxLen; omega) rfl
    case hl => simp
    case hnews =>
      intro j u hu
      exact (World.cell?_alloc_lt _ _ _ (World.block_lt_of_cell? w _ (hcell j u hu))).trans (hcell j u hu)
    case h1 => intro u hu; obtain ⟨x, _, rfl⟩ := List.mem_map.1 hu; rfl
    case h63 => unfold maxLen; omega
    case hby => omega
    case hbase => simp
    case rest =>
      intro v' w' hown hgr _
      go_wp2
      go_ret
      refine ⟨_, rfl, ?_, ?_⟩
      · simpa using hown
      · exact ((Only.refl Nix w).alloc _).grown hgr (fun k e => .inr (by simp [Value.ownBlock] at e; omega))

/-- all blocks of a Reader are new: from B on -/
def RdNew (B r : Nat) (v : Value) : Prop := B ≤ r ∧ ∀ g, v.ownBlock = some g → B ≤ g

set_option maxHeartbeats 400000 in
theorem newReader_any {w : World} {v0 : Value} {bs : List Nat} (h : Src w v0 bs) (hlt : ∀ x ∈ bs, x < 256) :
    Calls Tryd.prog 43 #[v0] w fun e w' => ∃ r v, e = .returned (.pointer (some ⟨r, 0, none⟩)) ∧ Rd w' r v bs 0 ∧ RdNew w.heap.size r v ∧ Only Nix w w' := by
  have Hc := Lib.hid (clone_any h)
  have hsm := h.small
  clear h
  go_enter Tryd.func43, Tryd.ntmps43
  go_wp2_with fail
  refine (Hc.out).mono ?_
  rintro e w1 ⟨v, rfl, hown, ho⟩
  have hsz := ho.size
  obtain ⟨A, c, rfl⟩ := owns_slice hown
  have Hown := Lib.hid hown
  clear hown
  go_wp2
  go_ret
  have hown := Hown.out
  refine ⟨w1.heap.size, .slice A bs.length c, rfl, ⟨Box.new _ _ _, ?_, hlt, by omega, hsm⟩, ⟨hsz, fun g hg => (hown.lt g hg).1⟩, ho.alloc _⟩
  have h2 := hown.alloc (.cells #[Value.int IntKind.i64 0, .slice A bs.length c] 103)
  refine ⟨h2.1, ?_⟩
  rcases h2.2 with h3 | ⟨g, cap, cur, a1, a2, a3⟩
  · exact .inl h3
  · exact .inr ⟨g, cap, cur, a1, Nat.zero_le _, a3⟩
end Go.Proofs.YteahiigfclabfaaDoor
