/-
  Words for memory that my contracts use: what of the old blocks may have turned ('Only'), a block known whole ('Box').
-/
import Derived.Test.YteklfkpeaadinaaGreatDoorRows
import Derived.WalkKit
import Derived.WalkSpells
import Derived.Deep.QuietTactic
import Derived.BigQuiet
import Derived.Deep.Draws
import Derived.Lib.Hide
import Derived.Laws.BitsLemmas
import Derived.Laws.BitsAllLaws
import Derived.Deep.LoopGhost
namespace Go.Proofs.YteklfkpeaadinaaGreatDoor
open Go.RowKit

/-- Of the blocks that were there, at most those of F have turned; nothing else of the world has, but for draws and new blocks. -/
structure Only (F : Nat → Prop) (w w' : World) : Prop where
  os : w'.os = w.os
  tape : w'.tape = w.tape
  output : w'.output = w.output
  size : w.heap.size ≤ w'.heap.size
  block : ∀ k, k < w.heap.size → ¬ F k → w'.heap[k]? = w.heap[k]?
/-- no block -/
def Nix (_ : Nat) : Prop := False
/-- one block -/
def Just (b k : Nat) : Prop := k = b
theorem Only.refl (F : Nat → Prop) (w : World) : Only F w w := ⟨rfl, rfl, rfl, Nat.le_refl _, fun _ _ _ => rfl⟩
theorem Only.trans {F : Nat → Prop} {a b c : World} (h : Only F a b) (k : Only F b c) : Only F a c :=
  ⟨k.os.trans h.os, k.tape.trans h.tape, k.output.trans h.output, Nat.le_trans h.size k.size, fun i hi hf => (k.block i (Nat.lt_of_lt_of_le hi h.size) hf).trans (h.block i hi hf)⟩
/-- what F' lets turn is either let by F, or new -/
theorem Only.then {F F' : Nat → Prop} {a b c : World} (h : Only F a b) (k : Only F' b c) (hF : ∀ i, F' i → F i ∨ a.heap.size ≤ i) : Only F a c :=
  ⟨k.os.trans h.os, k.tape.trans h.tape, k.output.trans h.output, Nat.le_trans h.size k.size, fun i hi hf =>
    (k.block i (Nat.lt_of_lt_of_le hi h.size) (fun e => (hF i e).elim hf (fun hh => by omega))).trans (h.block i hi hf)⟩
theorem Only.mono {F F' : Nat → Prop} {a b : World} (h : Only F a b) (hF : ∀ i, F i → F' i) : Only F' a b :=
  ⟨h.os, h.tape, h.output, h.size, fun i hi hf => h.block i hi (fun e => hf (hF i e))⟩
theorem Only.nix {F : Nat → Prop} {a b : World} (h : Only Nix a b) : Only F a b := h.mono fun _ e => e.elim
theorem Only.drew {F : Nat → Prop} {a w : World} (h : Only F a w) : Only F a w.drew := ⟨h.os, h.tape, h.output, h.size, h.block⟩
theorem Only.drewN {F : Nat → Prop} {a w : World} (h : Only F a w) (n : Nat) : Only F a (w.drewN n) := ⟨h.os, h.tape, h.output, h.size, h.block⟩
theorem Only.alloc {F : Nat → Prop} {a w : World} (h : Only F a w) (o : Obj) : Only F a (w.alloc o) :=
  ⟨h.os, h.tape, h.output, by have := h.size; simp; omega, fun i hi hf => (Below.heap_alloc w o i (Nat.lt_of_lt_of_le hi h.size)).trans (h.block i hi hf)⟩
theorem Only.setCell {F : Nat → Prop} {a w : World} (h : Only F a w) {p : Addr} (hp : F p.block ∨ a.heap.size ≤ p.block) (u : Value) : Only F a (w.setCell p u) :=
  ⟨h.os, h.tape, h.output, by have := h.size; simpa [World.setCell] using this, fun i hi hf =>
    (Below.heap_setCell w p u i (fun e => by subst e; exact hp.elim hf (fun hh => by omega))).trans (h.block i hi hf)⟩
theorem Only.grown {F : Nat → Prop} {a w w' : World} {row : Option Nat} (h : Only F a w) (hg : w.grownBy w' row) (hr : ∀ k, row = some k → F k ∨ a.heap.size ≤ k) : Only F a w' :=
  ⟨hg.os.trans h.os, hg.tape.trans h.tape, hg.output.trans h.output, Nat.le_trans h.size hg.size, fun i hi hf =>
    (hg.block i (Nat.lt_of_lt_of_le hi h.size) (fun e => (hr i e.symm).elim hf (fun hh => by omega))).trans (h.block i hi hf)⟩
theorem Only.below {F : Nat → Prop} {a w : World} {B : Nat} (h : Only F a w) (hB : B ≤ a.heap.size) (hF : ∀ i, F i → B ≤ i) : Below B a w :=
  ⟨h.os, h.tape, h.output, h.size, fun i hi => h.block i (by omega) (fun e => by have := hF i e; omega)⟩
/-- Block b is just these cells, none of them frozen. -/
def Box (w : World) (b : Nat) (t : TypeId) (cs : Array Value) : Prop := w.heap[b]? = some (.cells cs t (0, 0))
section
variable {w w' : World} {b : Nat} {t : TypeId} {cs : Array Value}
theorem Box.lt (h : Box w b t cs) : b < w.heap.size := by
  unfold Box at h
  exact (Array.getElem?_eq_some_iff.1 h).1
theorem Box.cell (h : Box w b t cs) (i : Nat) : w.cell? ⟨b, i, none⟩ = cs[i]? := cell_of_row w b i cs t (0, 0) h
theorem Box.frozen (h : Box w b t cs) (i : Nat) : w.frozen? ⟨b, i, none⟩ = false := by
  unfold Box at h
  simp [World.frozen?, h]
theorem Box.new (w : World) (t : TypeId) (cs : Array Value) : Box (w.alloc (.cells cs t)) w.heap.size t cs := heap_alloc_new w _
theorem Box.drew (h : Box w b t cs) : Box w.drew b t cs := h
theorem Box.alloc (h : Box w b t cs) (o : Obj) : Box (w.alloc o) b t cs := (Below.heap_alloc w o b h.lt).trans h
theorem Box.put (h : Box w b t cs) (i : Nat) (u : Value) : Box (w.setCell ⟨b, i, none⟩ u) b t (cs.setIfInBounds i u) := by
  unfold Box at h ⊢
  simp [World.setCell, Array.getElem?_modify, h]
theorem Box.off (h : Box w b t cs) {p : Addr} (hp : b ≠ p.block) (u : Value) : Box (w.setCell p u) b t cs := (Below.heap_setCell w p u b hp).trans h
theorem Box.only {F : Nat → Prop} (h : Box w b t cs) (ho : Only F w w') (hb : ¬ F b) : Box w' b t cs := (ho.block b h.lt hb).trans h
theorem Box.grown {row : Option Nat} (h : Box w b t cs) (hg : w.grownBy w' row) (hb : row ≠ some b) : Box w' b t cs := (hg.block b h.lt (fun e => hb e.symm)).trans h
theorem Box.type_ne {b' : Nat} {t' : TypeId} {cs' : Array Value} (h : Box w b t cs) (h' : Box w b' t' cs') (hne : t ≠ t') : b ≠ b' := by
  intro e
  subst e
  unfold Box at h h'
  rw [h] at h'
  injection h' with h'
  injection h' with _ ht
  exact hne ht
end
section
variable {w w' : World} {base : Nat} {e : TypeId} {size n : Nat} {v : Value} {xs : List Value}
theorem owns_only {F : Nat → Prop} (h : w.ownsRow base e size v n xs) (ho : Only F w w') (hv : ∀ g, v.ownBlock = some g → ¬ F g) : w'.ownsRow base e size v n xs := by
  refine ⟨h.1, ?_⟩
  rcases h.2 with hn | ⟨g, cap, cur, rfl, hb, hgg, rest⟩
  · exact .inl hn
  · refine .inr ⟨g, cap, cur, rfl, hb, ?_, rest⟩
    rw [ho.block g (Array.getElem?_eq_some_iff.1 hgg).1 (hv g (by simp [Value.ownBlock]))]
    exact hgg
theorem owns_box {b : Nat} {t : TypeId} {cs : Array Value} (h : w.ownsRow base e size v n xs) (hb : Box w b t cs) (hne : e ≠ t) : v.ownBlock ≠ some b := by
  rcases h.2 with ⟨rfl, _⟩ | ⟨g, cap, cur, rfl, _, hgg, _⟩
  · simp [Value.ownBlock]
  · intro he
    have hgb : g = b := by simpa [Value.ownBlock] using he
    subst hgb
    exact Box.type_ne (t := e) hgg hb hne rfl
theorem owns_lt (h : w.ownsRow base e size v n xs) {g : Nat} (hg : v.ownBlock = some g) : g < w.heap.size := (h.lt g hg).2
theorem owns_slice (h : w.ownsRow base e size v n xs) : ∃ A c, v = .slice A n c := by
  rcases h.2 with ⟨rfl, hn⟩ | ⟨g, cap, _, rfl, _⟩
  · exact ⟨none, 0, by rw [hn]⟩
  · exact ⟨_, _, rfl⟩
end
section
variable {P : Program} {f : FuncId} {args : Array Value} {w : World} {n : Nat} {v : Value}
/-- a callee that leaves the world alone, in a quiet region -/
theorem still_at (h : Calls P f args (w.drewN n) fun e w' => e = .returned v ∧ w.drewN n = w') : Calls P f args (w.drewN n) fun e u => e = .returned v ∧ ∃ m, u = w.drewN m :=
  h.mono fun _ _ hh => ⟨hh.1, n, hh.2.symm⟩
/-- .. behind another quiet region -/
theorem still_at2 {a : Nat} (h : Calls P f args (w.drewN (a + n)) fun e w' => e = .returned v ∧ w.drewN (a + n) = w') : Calls P f args (w.drewN (a + n)) fun e u => e = .returned v ∧ ∃ m, u = w.drewN (a + m) :=
  h.mono fun _ _ hh => ⟨hh.1, n, hh.2.symm⟩
end
theorem ret2 {k l : IntKind} {a b c d : Int} (h : a = b) (h' : c = d) : Ending.returned (.tuple #[.int k a, .int l c]) = .returned (.tuple #[.int k b, .int l d]) := by rw [h, h']
end Go.Proofs.YteklfkpeaadinaaGreatDoor
namespace Go.Proofs.YteklfkpeaadinaaGreatDoor
/-- n bits of v, the greatest first -/
def bitsN : Nat → Nat → List Nat
  | 0, _ => []
  | n + 1, v => (v / 2 ^ n % 2) :: bitsN n v
/-- the bits of bytes -/
def bitsOf (bs : List Nat) : List Nat := bs.flatMap (bitsN 8)
/-- the number that bits are -/
def val (l : List Nat) : Nat := l.foldl (fun n b => 2 * n + b) 0
theorem bitsN_len (n v : Nat) : (bitsN n v).length = n := by
  induction n with
  | zero => rfl
  | succ n ih => simp [bitsN, ih]
theorem bitsN_le (n v : Nat) : ∀ b ∈ bitsN n v, b ≤ 1 := by
  induction n with
  | zero => simp [bitsN]
  | succ n ih =>
    intro b hb
    simp only [bitsN, List.mem_cons] at hb
    rcases hb with rfl | hb
    · have := Nat.mod_lt (v / 2 ^ n) (show 0 < 2 by omega); omega
    · exact ih b hb
theorem bitsOf_nil : bitsOf [] = [] := rfl
theorem bitsOf_cons (x : Nat) (bs : List Nat) : bitsOf (x :: bs) = bitsN 8 x ++ bitsOf bs := by simp [bitsOf]
theorem bitsOf_append (a b : List Nat) : bitsOf (a ++ b) = bitsOf a ++ bitsOf b := by simp [bitsOf]
theorem bitsOf_len (bs : List Nat) : (bitsOf bs).length = 8 * bs.length := by
  induction bs with
  | nil => rfl
  | cons x bs ih => rw [bitsOf_cons, List.length_append, bitsN_len, ih, List.length_cons]; omega
theorem val_go (l : List Nat) (a : Nat) : l.foldl (fun n b => 2 * n + b) a = a * 2 ^ l.length + val l := by
  induction l generalizing a with
  | nil => simp [val]
  | cons b l ih =>
    have e : val (b :: l) = l.foldl (fun n b => 2 * n + b) (2 * 0 + b) := rfl
    rw [List.foldl_cons, ih, e, ih, List.length_cons, Nat.pow_succ]
    have e2 : (2 * a + b) * 2 ^ l.length = a * (2 ^ l.length * 2) + b * 2 ^ l.length := by
      rw [Nat.add_mul, Nat.mul_comm 2 a, Nat.mul_assoc, Nat.mul_comm 2 (2 ^ l.length)]
    rw [e2]; simp [Nat.add_assoc]
theorem val_append (l m : List Nat) : val (l ++ m) = val l * 2 ^ m.length + val m := by
  unfold val
  rw [List.foldl_append, val_go]
  rfl
theorem val_cons (b : Nat) (l : List Nat) : val (b :: l) = b * 2 ^ l.length + val l := by
  have := val_append [b] l
  simpa [val] using this
theorem val_lt (l : List Nat) (h : ∀ b ∈ l, b ≤ 1) : val l < 2 ^ l.length := by
  induction l with
  | nil => simp [val]
  | cons b l ih =>
    rw [val_cons, List.length_cons, Nat.pow_succ]
    have h1 := ih (fun b hb => h b (List.mem_cons_of_mem _ hb))
    have h2 := h b (List.mem_cons_self ..)
    have h3 : b * 2 ^ l.length ≤ 1 * 2 ^ l.length := Nat.mul_le_mul_right _ h2
    omega
theorem val_bitsN (n v : Nat) : val (bitsN n v) = v % 2 ^ n := by
  induction n with
  | zero => simp [bitsN, val, Nat.mod_one]
  | succ n ih =>
    rw [bitsN, val_cons, ih, bitsN_len, Nat.pow_succ, Nat.mod_mul]
    rw [Nat.mul_comm (v / 2 ^ n % 2)]; omega
theorem bitsN_mod (n v : Nat) : ∀ m, n ≤ m → bitsN n (v % 2 ^ m) = bitsN n v := by
  induction n with
  | zero => intro _ _; rfl
  | succ n ih =>
    intro m hm
    rw [bitsN, bitsN, ih m (by omega)]
    congr 1
    obtain ⟨k, rfl⟩ := Nat.exists_eq_add_of_le hm
    rw [show n + 1 + k = n + (1 + k) from by omega, Nat.pow_add, Nat.mod_mul_right_div_self, Nat.pow_add, Nat.pow_one]
    exact Nat.mod_mul_right_mod _ _ _
theorem bitsN_add (a b v : Nat) : bitsN (a + b) v = bitsN a (v / 2 ^ b) ++ bitsN b v := by
  induction a with
  | zero => simp [bitsN]
  | succ a ih =>
    rw [show a + 1 + b = (a + b) + 1 from by omega, bitsN, ih, bitsN, List.cons_append, Nat.div_div_eq_div_mul, ← Nat.pow_add, Nat.add_comm b a]
theorem bitsN_val (l : List Nat) (h : ∀ b ∈ l, b ≤ 1) : bitsN l.length (val l) = l := by
  induction l with
  | nil => rfl
  | cons b l ih =>
    have h1 := ih (fun b hb => h b (List.mem_cons_of_mem _ hb))
    have h2 := h b (List.mem_cons_self ..)
    have h3 := val_lt l (fun b hb => h b (List.mem_cons_of_mem _ hb))
    rw [val_cons, List.length_cons, bitsN]
    have hp : 0 < 2 ^ l.length := Nat.two_pow_pos _
    have e1 : (b * 2 ^ l.length + val l) / 2 ^ l.length = b := by
      rw [Nat.mul_comm, Nat.mul_add_div hp, Nat.div_eq_of_lt h3]; rfl
    rw [e1, Nat.mod_eq_of_lt (by omega)]
    congr 1
    rw [← bitsN_mod l.length _ l.length (Nat.le_refl _), Nat.mul_comm, Nat.mul_add_mod, Nat.mod_eq_of_lt h3]
    exact h1
/-- a piece of one number's bits -/
theorem bitsN_piece (n v j k : Nat) (h : j + k ≤ n) : ((bitsN n v).drop j).take k = bitsN k (v / 2 ^ (n - j - k)) := by
  have e : n = j + (k + (n - j - k)) := by omega
  have e1 : bitsN n v = bitsN j (v / 2 ^ (k + (n - j - k))) ++ (bitsN k (v / 2 ^ (n - j - k)) ++ bitsN (n - j - k) v) := by
    rw [← bitsN_add, ← bitsN_add, ← e]
  rw [e1, List.drop_left' (bitsN_len _ _), List.take_left' (bitsN_len _ _)]
theorem bitsOf_split (bs : List Nat) (i : Nat) (h : i < bs.length) : bitsOf bs = bitsOf (bs.take i) ++ (bitsN 8 bs[i] ++ bitsOf (bs.drop (i + 1))) := by
  rw [← bitsOf_cons, ← bitsOf_append, List.getElem_cons_drop, List.take_append_drop]
end Go.Proofs.YteklfkpeaadinaaGreatDoor
namespace Go.Proofs.YteklfkpeaadinaaGreatDoor
open Go.RowKit

theorem w64 (n : Int) (h0 : -9223372036854775808 ≤ n) (h1 : n ≤ 9223372036854775807) : wrap64 n = n := by unfold wrap64; omega
theorem pow_cast (m : Nat) : (2 : Int) ^ m = ((2 ^ m : Nat) : Int) := by norm_cast
theorem pow_le_of {m M : Nat} (h : m ≤ M) : 2 ^ m ≤ 2 ^ M := Nat.pow_le_pow_right (by decide) h
theorem wraps_i64 (n : Int) (h₀ : 0 ≤ n) (h₁ : n < 2 ^ 62) : IntKind.i64.wrap n = n := by rw [IntKind.wrap_i64]; omega
theorem i64_and_nat (a b : Nat) (ha : a < 2 ^ 62) (hb : b < 2 ^ 62) : bits .and .i64 (a : Int) (b : Int) = ((a &&& b : Nat) : Int) := (bits_nat .i64 62 (by decide) wraps_i64 a b ha hb).1
theorem w64_pow (m : Nat) (hm : m ≤ 61) : wrap64 ((2 : Int) ^ m) = ((2 ^ m : Nat) : Int) := by
  have h := pow_le_of hm
  rw [pow_cast]; generalize 2 ^ m = P at *; exact w64 _ (by omega) (by omega)
theorem w64_mask (m : Nat) (hm : m ≤ 61) : wrap64 (wrap64 ((2 : Int) ^ m) - 1) = ((2 ^ m - 1 : Nat) : Int) := by
  have h := pow_le_of hm
  have h0 : 0 < 2 ^ m := Nat.two_pow_pos m
  rw [w64_pow m hm]; generalize 2 ^ m = P at *; rw [w64 _ (by omega) (by omega)]
  omega
theorem i64_mask (a m : Nat) (ha : a < 2 ^ 62) (hm : m ≤ 61) : bits .and .i64 (a : Int) (wrap64 (wrap64 ((2 : Int) ^ m) - 1)) = ((a % 2 ^ m : Nat) : Int) := by
  have h := pow_le_of hm
  rw [w64_mask m hm, i64_and_nat a _ ha (by omega), Nat.and_two_pow_sub_one_eq_mod]
end Go.Proofs.YteklfkpeaadinaaGreatDoor
namespace Go.Proofs.YteklfkpeaadinaaGreatDoor
open Go.RowKit

/-- a byte as a value -/
def byt (x : Nat) : Value := .int .u8 (x : Int)
set_option maxHeartbeats 400000 in
theorem room_any (b a : Nat) (w : World) (hc : w.cell? ⟨b, 0, none⟩ = some (.int .i64 a)) :
    Calls Tryz.prog 76 #[.pointer (some ⟨b, 0, none⟩)] w fun e w' => e = .returned (.int .i64 (8 - (a : Int) % 8)) ∧ w = w' := by
  go_enter Tryz.func76, Tryz.ntmps76
  go_wp2
  go_ret
  exact ⟨rfl, rfl⟩
set_option maxHeartbeats 400000 in
theorem pad_any (b a : Nat) (w : World) (hc : w.cell? ⟨b, 0, none⟩ = some (.int .i64 a)) :
    Calls Tryz.prog 39 #[.pointer (some ⟨b, 0, none⟩)] w fun e w' => e = .returned (.int .i64 ((8 - (a : Int) % 8) % 8)) ∧ w = w' := by
  go_enter Tryz.func39, Tryz.ntmps39
  go_wp2_with (go_at_call 76; refine (room_any _ _ _ hc).mono ?_; rintro e w' ⟨rfl, rfl⟩)
  go_ret
  exact ⟨rfl, rfl⟩
/-- how many bits up to the next byte's beginning -/
def padN (a : Nat) : Nat := (8 - a % 8) % 8
theorem padN_le (a : Nat) : padN a ≤ 7 := by unfold padN; omega
theorem pad_nat (b a : Nat) (w : World) (hc : w.cell? ⟨b, 0, none⟩ = some (.int .i64 a)) :
    Calls Tryz.prog 39 #[.pointer (some ⟨b, 0, none⟩)] w fun e w' => e = .returned (.int .i64 (padN a : Int)) ∧ w = w' := by
  have h := pad_any b a w hc
  rw [show ((8 - (a : Int) % 8) % 8) = (padN a : Int) from by unfold padN; omega] at h
  exact h
set_option maxHeartbeats 400000 in
theorem forth_any (b a : Nat) (n : Int) (w : World) (hc : w.cell? ⟨b, 0, none⟩ = some (.int .i64 a)) (hf : w.frozen? ⟨b, 0, none⟩ = false) (h0 : 0 ≤ n) (h1 : (a : Int) + n ≤ 4611686018427387904) :
    Calls Tryz.prog 40 #[.pointer (some ⟨b, 0, none⟩), .int .i64 n] w fun e w' => e = .returned (.tuple #[]) ∧ w.setCell ⟨b, 0, none⟩ (.int .i64 ((a : Int) + n)) = w' := by
  go_enter Tryz.func40, Tryz.ntmps40
  go_wp2
  go_end0
  exact ⟨rfl, rfl⟩
set_option maxHeartbeats 400000 in
theorem share_any (b a : Nat) (n : Int) (w : World) (hc : w.cell? ⟨b, 0, none⟩ = some (.int .i64 a)) (h0 : 0 ≤ n) :
    Calls Tryz.prog 78 #[.pointer (some ⟨b, 0, none⟩), .int .i64 n] w fun e w' => e = .returned (.tuple #[.int .i64 (min n (8 - (a : Int) % 8)), .int .i64 (8 - (a : Int) % 8 - min n (8 - (a : Int) % 8))]) ∧ w = w' := by
  by_cases h : n ≤ 8 - (a : Int) % 8
  · go_enter Tryz.func78, Tryz.ntmps78
    go_wp2_with (go_at_call 76; refine (room_any _ _ _ hc).mono ?_; rintro e w' ⟨rfl, rfl⟩)
    all_goals go_ret2
    all_goals exact ⟨ret2 (by omega) (by omega), rfl⟩
  · go_enter Tryz.func78, Tryz.ntmps78
    go_wp2_with (go_at_call 76; refine (room_any _ _ _ hc).mono ?_; rintro e w' ⟨rfl, rfl⟩)
    all_goals go_ret2
    all_goals exact ⟨ret2 (by omega) (by omega), rfl⟩
/-- .. in natural numbers: how many bits of this byte, and how many behind them -/
theorem share_nat (b a n : Nat) (w : World) (hc : w.cell? ⟨b, 0, none⟩ = some (.int .i64 a)) :
    Calls Tryz.prog 78 #[.pointer (some ⟨b, 0, none⟩), .int .i64 (n : Int)] w fun e w' => ∃ m q : Nat, (m ≤ n ∧ m + q = 8 - a % 8 ∧ (m = n ∨ q = 0)) ∧ e = .returned (.tuple #[.int .i64 (m : Int), .int .i64 (q : Int)]) ∧ w = w' := by
  refine (share_any b a n w hc (by omega)).mono fun e w' hh => ?_
  refine ⟨min n (8 - a % 8), 8 - a % 8 - min n (8 - a % 8), by omega, ?_, hh.2⟩
  rw [hh.1]
  exact ret2 (by omega) (by omega)
set_option maxHeartbeats 400000 in
theorem maybe_yes (n : Int) (w : World) (h0 : 0 ≤ n) (h1 : n ≤ 48) :
    Calls Tryz.prog 70 #[.int .i64 n] w fun e w' => e = .returned (.bool true) ∧ w = w' := by
  go_enter Tryz.func70, Tryz.ntmps70
  go_wp2
  go_ret
  exact ⟨rfl, rfl⟩
set_option maxHeartbeats 400000 in
theorem maybe_no (n : Int) (w : World) (h : n < 0 ∨ 48 < n) :
    Calls Tryz.prog 70 #[.int .i64 n] w fun e w' => e = .returned (.bool false) ∧ w = w' := by
  rcases h with h | h
  · have hd : decide (0 ≤ n) = false := by simp; omega
    go_enter Tryz.func70, Tryz.ntmps70
    go_wp2
    go_ret
    exact ⟨rfl, rfl⟩
  · have hd : decide (0 ≤ n) = true := by simp; omega
    have hd2 : decide (n ≤ 48) = false := by simp; omega
    go_enter Tryz.func70, Tryz.ntmps70
    go_wp2
    go_ret
    exact ⟨rfl, rfl⟩
end Go.Proofs.YteklfkpeaadinaaGreatDoor
namespace Go.Proofs.YteklfkpeaadinaaGreatDoor
open Go.RowKit

end Go.Proofs.YteklfkpeaadinaaGreatDoor
namespace Go.Proofs.YteklfkpeaadinaaGreatDoor
open Go.RowKit

/-- what Take and Signed answer: a number, an error -/
abbrev two (a b : Int) : Ending := .returned (.tuple #[.int .i64 a, .int .i64 b])
section
variable {w : World} {r : Nat} {v : Value} {bs : List Nat} {a : Nat}

end
end Go.Proofs.YteklfkpeaadinaaGreatDoor
namespace Go.Proofs.YteklfkpeaadinaaGreatDoor
open Go.RowKit

end Go.Proofs.YteklfkpeaadinaaGreatDoor
namespace Go.Proofs.YteklfkpeaadinaaGreatDoor
open Go.RowKit

theorem Tryz.info_byte : (Tryz.prog.info? 5).map (fun i => (i.zero, i.size, i.bytes)) = some (some (.int .u8 0), 1, 1) := by kernel_rfl
/-- The slice v0 holds these bytes. -/
structure Src (w : World) (v0 : Value) (bs : List Nat) : Prop where
  form : (v0 = .slice none 0 0 ∧ bs = []) ∨ ∃ ad c, v0 = .slice (some ad) bs.length c ∧ ∀ j u, (bs.map byt)[j]? = some u → w.cell? (ad.add j) = some u
  small : bs.length ≤ 140737488355328
theorem Src.of_owns {w : World} {base : Nat} {v : Value} {bs : List Nat} (h : w.ownsRow base 5 1 v bs.length (bs.map byt)) (hs : bs.length ≤ 140737488355328) : Src w v bs := by
  refine ⟨?_, hs⟩
  rcases h.2 with ⟨rfl, hn⟩ | ⟨g, cap, cur, rfl, hb, hg, rest⟩
  · exact .inl ⟨rfl, List.eq_nil_of_length_eq_zero hn⟩
  · exact .inr ⟨_, cap, rfl, h.cells (g := g) rfl⟩
set_option maxHeartbeats 400000 in
theorem clone_any {w : World} {v0 : Value} {bs : List Nat} (h : Src w v0 bs) :
    Calls Tryz.prog 42 #[v0] w fun e w' => ∃ v, e = .returned v ∧ w'.ownsRow w.heap.size 5 1 v bs.length (bs.map byt) ∧ Only Nix w w' := by
  have hsm := h.small
  obtain ⟨i0, hi, hz0, hz1, hz2⟩ := info_parts Tryz.info_byte
  rcases h.form with ⟨rfl, rfl⟩ | ⟨ad, c, rfl, hcell⟩
  · have hq := fun (u : World) => Lib.run_eql_slice_nil (P := Tryz.prog) u 39 5 none 0 0 0 0 Tryz.underlying39
    go_enter Tryz.func42, Tryz.ntmps42
    go_wp2
    go_ret
    exact ⟨_, rfl, World.ownsRow_nil _ _ _ _, Only.refl _ _⟩
  · have hq := fun (u : World) => Lib.run_eql_slice_nil (P := Tryz.prog) u 39 5 (some ad) bs.length c 0 0 Tryz.underlying39
    go_enter Tryz.func42, Tryz.ntmps42
    go_wp2_with (at_builtin; refine wpList_append_own _ rfl (.tmp 5) (.tmp 6) 39 rfl w.heap.size 5 i0 (.int .u8 0) 1 1 Tryz.underlying39 hi hz0 hz1 hz2 rfl (by decide) (.slice (some ⟨w.heap.size, 0, none⟩) 0 0) 0 [] rfl ?hown ad bs.length c (bs.map byt) rfl ?hl ?hnews ?h1 ?h63 ?hby ?hbase ?rest)
    case hown => exact World.ownsRow_lit w #[] 0 (Nat.le_refl _) (by unfold maxLen; omega) rfl
    case hl => simp
    case hnews =>
      intro j u hu
      exact (World.cell?_alloc_lt _ _ _ (World.block_lt_of_cell? w _ (hcell j u hu))).trans (hcell j u hu)
    case h1 => intro u hu; obtain ⟨x, _, rfl⟩ := List.mem_map.1 hu; rfl
    case h63 => unfold maxLen; omega
    case hby => omega
    case hbase => simp
    case rest =>
      intro v' w' hown hgr _
      go_wp2
      go_ret
      refine ⟨_, rfl, ?_, ?_⟩
      · simpa using hown
      · exact ((Only.refl Nix w).alloc _).grown hgr (fun k e => .inr (by simp [Value.ownBlock] at e; omega))
end Go.Proofs.YteklfkpeaadinaaGreatDoor
