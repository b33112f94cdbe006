/-
  append(s, b...) onto a row of bytes of the call's own; what it holds then.
-/
import Derived.Test.YtekmebbioalpdaaDoorDSrc
import Derived.Deep.OwnRows
import Derived.WalkMore
import Derived.Maps.AppendAt
import Derived.Deep.Upon
namespace Go.Proofs.YtekmebbioalpdaaDoor
open Go.RowKit

theorem Tryd.info_byte : (Tryd.prog.info? 5).map (fun i => (i.zero, i.size, i.bytes)) = some (some (.int .u8 0), 1, 1) := by kernel_rfl
theorem made_byte (S : Nat) : madeCells #[.int .u8 0] S = (List.replicate S (byt 0)).toArray := by
  apply Array.ext
  · simp [madeCells]
  · intro i h1 h2
    simp [madeCells, byt, Nat.mod_one]
/-- make([]byte, l, c) -/
theorem run_make_lc (l c : Nat) (h : l ≤ c) (hc : c ≤ 281474976710656) (w : World) :
    (Instr.makeSlice 22 (.int .i64 (l : Int)) (.int .i64 (c : Int))).run Tryd.prog w = .ok (.slice (some ⟨w.heap.size, 0, none⟩) l c) (w.alloc (.cells (List.replicate c (byt 0)).toArray 5)) := by
  obtain ⟨i0, hi, hz0, hz1, hz2⟩ := info_parts Tryd.info_byte
  have := run_make (P := Tryd.prog) w 22 5 i0 (.int .u8 0) Tryd.underlying22 hi hz0 .i64 .i64 (l : Int) (c : Int) (by omega) (by omega) (by rw [hz2]; omega) (by omega)
  simp only [Int.toNat_natCast, hz1, Nat.mul_one] at this
  rw [this, show (Value.int .u8 0).cells = #[.int .u8 0] from rfl, made_byte]
/-- from a block on -/
def From (b k : Nat) : Prop := b ≤ k
theorem Only.from {w u w' : World} {b : Nat} (h : Only Nix w u) (k : Only (From b) u w') (hb : w.heap.size ≤ b) : Only Nix w w' :=
  h.then k (fun _ hi => .inr (Nat.le_trans hb hi))
theorem byt_src1 (w : World) (x : Nat) (hx : x < 256) (t : TypeId) : Src (w.alloc (.cells #[.int .u8 (x : Int)] t)) (.slice (some ⟨w.heap.size, 0, none⟩) 1 1) [x] := by
  refine Src.of_cells rfl (fun j hj => ?_) (by simp) (by simpa using hx)
  match j, hj with
  | 0, _ => simp [byt]

/-- bytes b... (nil, empty or not), appended to a row of the call's own -/
theorem run_append_bytes {w : World} (base : Nat) (v : Value) (n : Nat) (xs : List Value) (hown : w.ownsRow base 5 1 v n xs) (A : Option Addr) (m c : Nat) (bs : List Nat) (hs : Src w (.slice A m c) bs)
    (h63 : n + m ≤ 100000000) (hbase : base ≤ w.heap.size) (ty : TypeId) :
    ∃ v' w', (Builtin.append_ #[22, 22] ty #[v, .slice A m c]).run Tryd.prog w = .ok v' w' ∧ w'.ownsRow base 5 1 v' (n + m) (xs ++ bs.map byt) ∧ w.grownBy w' v.ownBlock ∧ (v'.ownBlock = v.ownBlock ∨ v'.ownBlock = some w.heap.size) := by
  obtain ⟨i0, hi, hz0, hz1, hz2⟩ := info_parts Tryd.info_byte
  obtain rfl := hs.len
  cases A with
  | some ad =>
    obtain ⟨v', w', h1, h2, h3, _, h5⟩ := run_append_own_at (P := Tryd.prog) w base 22 ty 5 i0 (.int .u8 0) 1 1 Tryd.underlying22 hi hz0 hz1 hz2 rfl (by decide) v n xs hown ad bs.length c (bs.map byt) (by simp)
      (fun j u hu => by
        rw [List.getElem?_map] at hu
        obtain ⟨x, hx, rfl⟩ := Option.map_eq_some_iff.1 hu
        obtain ⟨hj, rfl⟩ := List.getElem?_eq_some_iff.1 hx
        obtain ⟨ad', e, hc⟩ := hs.at_ hj
        injection e with e
        subst e
        exact hc)
      (fun u hu => by obtain ⟨y, _, rfl⟩ := List.mem_map.1 hu; rfl) (by unfold maxLen; omega) (by omega) hbase
    exact ⟨v', w', h1, h2, h3, h5⟩
  | none =>
    have hb : bs = [] := by
      cases bs with
      | nil => rfl
      | cons x r =>
        obtain ⟨ad', e, _⟩ := hs.at_ (k := 0) (by simp)
        cases e
    subst hb
    have hsrc : Go.Src Tryd.prog i0.size 22 (.slice none 0 c) 0 [] w := Go.Src.ofNil w Tryd.underlying22 c
    have key : ∀ B k d, v = .slice B k d → k ≤ d → (Builtin.append_ #[22, 22] ty #[v, .slice none 0 c]).run Tryd.prog w = .ok v w := by
      rintro B k d rfl hle
      exact run_append_nothing w 22 22 ty 5 i0 Tryd.underlying22 hi B k d hle _ hsrc
    refine ⟨v, w, ?_, by simpa using hown, ⟨rfl, rfl, rfl, Nat.le_refl _, fun _ _ _ => rfl⟩, .inl rfl⟩
    rcases hown.2 with ⟨hv, _⟩ | ⟨g, cap, cur, hv, _, _, hle, _⟩
    · exact key _ _ _ hv (Nat.le_refl _)
    · exact key _ _ _ hv hle
/-- .. at the operation -/
theorem wpList_append_bytes {w : World} {ops : Array Oper} {rest : List Oper} {o : Oper} {a : Act} {Q : Exit → Act → World → Prop} (hgd : o.guard = none) (s x : Operand)
    (ho : o.op = .call { callee := .builtin .append, args := #[s, x], argTypes := #[22, 22] })
    (base : Nat) (v : Value) (n : Nat) (xs : List Value) (hs : a.eval s = v) (hown : w.ownsRow base 5 1 v n xs)
    (A : Option Addr) (m c : Nat) (bs : List Nat) (hx : a.eval x = .slice A m c) (hsrc : Src w (.slice A m c) bs) (h63 : n + m ≤ 100000000) (hbase : base ≤ w.heap.size)
    (h : ∀ v' w', w'.ownsRow base 5 1 v' (n + m) (xs ++ bs.map byt) → w.grownBy w' v.ownBlock → (v'.ownBlock = v.ownBlock ∨ v'.ownBlock = some w.heap.size) → wpList Tryd.prog ops Q rest (a.put o.dst v') w') :
    wpList Tryd.prog ops Q (o :: rest) a w := by
  refine wpList_plain hgd fun K hK => ?_
  obtain ⟨v', w', hr, h2, h3, h4⟩ := run_append_bytes base v n xs hown A m c bs hsrc h63 hbase o.type
  unfold Oper.wp execOp
  simp only [ho, resolve, invoke, builtin, Sem.run_bind, Sem.run_pure, Result.andThen_ok, List.map_toArray, List.map_cons, List.map_nil, hs, hx, hr]
  exact hK _ _ (h v' w' h2 h3 h4)
/-- a row of the call's own, as a slice of bytes -/
theorem owns_src {w : World} {base n : Nat} {v : Value} {bs : List Nat} (h : w.ownsRow base 5 1 v n (bs.map byt)) (hs : bs.length ≤ 140737488355328) (hlt : ∀ x ∈ bs, x < 256) : Src w v bs := by
  have hn : bs.length = n := by have := h.1; simpa using this
  rcases h.2 with ⟨rfl, h0⟩ | ⟨g, cap, cur, rfl, _, hg, hle, _, hsz, ht⟩
  · have : bs = [] := List.eq_nil_of_length_eq_zero (by omega)
    subst this
    exact Src.nil w
  · refine Src.of_cells hn (fun j hj => ?_) hs hlt
    rw [cell_of_row w g _ cur 5 (0, 0) hg, Nat.zero_add]
    have h2 : (bs.map byt)[j]? = some (byt bs[j]) := by simp [hj]
    rw [← ht, List.getElem?_take] at h2
    rw [if_pos (by omega)] at h2
    simpa using h2
/-- a block known whole, as a row of the call's own -/
theorem box_owns {w : World} {base g : Nat} {bs : List Nat} (h : Box w g 5 (bs.map byt).toArray) (hb : base ≤ g) (hs : bs.length ≤ 100000000) : w.ownsRow base 5 1 (.slice (some ⟨g, 0, none⟩) bs.length bs.length) bs.length (bs.map byt) :=
  ⟨by simp, .inr ⟨g, bs.length, _, rfl, hb, h, Nat.le_refl _, by unfold maxLen; omega, by simp, by simp only [Nat.mul_one]; exact List.take_of_length_le (by simp)⟩⟩
theorem owns_none {w : World} {base n : Nat} {v : Value} {xs : List Value} (h : w.ownsRow base 5 1 v n xs) (hn : 0 < n) : ∃ g c, v = .slice (some ⟨g, 0, none⟩) n c ∧ base ≤ g ∧ n ≤ c := by
  rcases h.2 with ⟨_, h0⟩ | ⟨g, cap, cur, rfl, hb, _, hle, _⟩
  · omega
  · exact ⟨g, cap, rfl, hb, hle⟩
end Go.Proofs.YtekmebbioalpdaaDoor
