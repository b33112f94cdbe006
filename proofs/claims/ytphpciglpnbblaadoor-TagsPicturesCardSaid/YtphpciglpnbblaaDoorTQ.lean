/-
  append onto a row of the call's own; what it holds then.
-/
import Derived.Test.YtphpciglpnbblaaDoorIA
import Derived.Maps.AppendAt
import Derived.Deep.Upon
namespace Go.Proofs.YtphpciglpnbblaaDoor
open Go.RowKit

/-- a row of the call's own that holds these -/
def Owns {α : Type} (w : World) (base : Nat) (e : TypeId) (f : α → Value) (v : Value) (xs : List α) : Prop := w.ownsRow base e 1 v xs.length (xs.map f)
section
variable {α : Type} {w w' : World} {base : Nat} {e : TypeId} {f : α → Value} {v v2 : Value} {xs ys : List α}
theorem Owns.nil (w : World) (base : Nat) (e : TypeId) (f : α → Value) : Owns w base e f (.slice none 0 0) [] := ⟨by simp, .inl ⟨rfl, rfl⟩⟩
theorem Owns.nix (h : Owns w base e f v xs) (ho : Only Nix w w') : Owns w' base e f v xs := owns_only h ho (fun _ _ e => e)
theorem Owns.lt (h : Owns w base e f v xs) {g : Nat} (hg : v.ownBlock = some g) : base ≤ g ∧ g < w.heap.size := World.ownsRow.lt h g hg
theorem Owns.slice (h : Owns w base e f v xs) : ∃ A c, v = .slice A xs.length c := owns_slice h
/-- what was owned and does not lie in the row that grew -/
theorem Owns.grown {row : Option Nat} (h : Owns w base e f v xs) (hg : w.grownBy w' row) (hr : ∀ g, v.ownBlock = some g → row ≠ some g) : Owns w' base e f v xs := by
  refine ⟨h.1, ?_⟩
  rcases h.2 with hn | ⟨g, cap, cur, rfl, hb, hgg, rest⟩
  · exact .inl hn
  · refine .inr ⟨g, cap, cur, rfl, hb, ?_, rest⟩
    rw [hg.block g (Array.getElem?_eq_some_iff.1 hgg).1 (fun e => hr g rfl e.symm)]
    exact hgg
/-- two rows that have no block in common -/
def Apart2 (v v2 : Value) : Prop := ∀ g, v.ownBlock = some g → v2.ownBlock ≠ some g
theorem Apart2.nil (v : Value) : Apart2 v (.slice none 0 0) := fun g _ e => by cases e
theorem Apart2.symm (h : Apart2 v v2) : Apart2 v2 v := fun g hg e => h g e hg
/-- the one of which has grown -/
theorem Apart2.moved {β : Type} {e' : TypeId} {f' : β → Value} {zs : List β} {v' : Value} (h : Apart2 v v2) (h2 : Owns w base e' f' v2 zs) (hm : v'.ownBlock = v.ownBlock ∨ v'.ownBlock = some w.heap.size) : Apart2 v' v2 := by
  intro g hg e
  rcases hm with hm | hm
  · exact h g (hm ▸ hg) e
  · rw [hm] at hg
    injection hg with hg
    have := (h2.lt e).2
    omega
theorem wpList_app {T : TypeId} {z : Value} {bytes : Nat} (hT : Tryd.prog.underlying T = some (.slice e)) (hi : (Tryd.prog.info? e).map (fun i => (i.zero, i.size, i.bytes)) = some (some z, 1, bytes)) (hz : z.cells.size = 1) (hby : bytes ≤ 16)
    (hf : ∀ x, (f x).oneCell' = true) {ops : Array Oper} {rest : List Oper} {o : Oper} {a : Act} {Q : Exit → Act → World → Prop} (hgd : o.guard = none) (s x : Operand)
    (ho : o.op = .call { callee := .builtin .append, args := #[s, x], argTypes := #[T, T] })
    (base : Nat) (v : Value) (xs : List α) (hs : a.eval s = v) (hown : Owns w base e f v xs) (ad : Addr) (m c : Nat) (ys : List α) (hx : a.eval x = .slice (some ad) m c) (hl : ys.length = m)
    (hnews : ∀ j, (h : j < ys.length) → w.cell? (ad.add j) = some (f ys[j])) (h63 : xs.length + m ≤ 1000000) (hbase : base ≤ w.heap.size)
    (h : ∀ v' w', Owns w' base e f v' (xs ++ ys) → w.grownBy w' v.ownBlock → (v'.ownBlock = v.ownBlock ∨ v'.ownBlock = some w.heap.size) → wpList Tryd.prog ops Q rest (a.put o.dst v') w') :
    wpList Tryd.prog ops Q (o :: rest) a w := by
  obtain ⟨i0, hi0, hz0, hz1, hz2⟩ := info_parts hi
  refine wpList_append_own_at w hgd s x T ho base e i0 z 1 bytes hT hi0 hz0 hz1 hz2 hz (by decide) v xs.length (xs.map f) hs hown ad m c (ys.map f) hx (by simpa using hl) (fun j u hu => ?_) (fun u hu => ?_) (by unfold maxLen; omega) ?_ hbase ?_
  · rw [List.getElem?_map] at hu
    obtain ⟨y, hy, rfl⟩ := Option.map_eq_some_iff.1 hu
    obtain ⟨hj, rfl⟩ := List.getElem?_eq_some_iff.1 hy
    exact hnews j hj
  · obtain ⟨y, _, rfl⟩ := List.mem_map.1 hu
    exact hf y
  · have : (xs.length + m) * bytes ≤ 1000000 * 16 := Nat.mul_le_mul h63 hby
    omega
  · intro v' w' h1 h2 _ h4
    refine h v' w' ?_ h2 h4
    unfold Owns
    rw [List.length_append, List.map_append, hl]
    exact h1
theorem Only.grew {W : World} {row : Option Nat} (h : Only Nix W w) (hg : w.grownBy w' row) (hr : ∀ g, row = some g → W.heap.size ≤ g) : Only Nix W w' := h.grown hg (fun k hk => .inr (hr k hk))
end
theorem Tryd.info_byte : (Tryd.prog.info? 5).map (fun i => (i.zero, i.size, i.bytes)) = some (some (.int .u8 0), 1, 1) := by kernel_rfl
/-- a byte is appended -/
theorem app_byte {w : World} {ops : Array Oper} {rest : List Oper} {o : Oper} {a : Act} {Q : Exit → Act → World → Prop} (hgd : o.guard = none) (s x : Operand)
    (ho : o.op = .call { callee := .builtin .append, args := #[s, x], argTypes := #[25, 25] })
    (base : Nat) (v : Value) (xs : List Nat) (hs : a.eval s = v) (hown : Owns w base 5 byt v xs) (g : Nat) (y : Nat) (hx : a.eval x = .slice (some ⟨g, 0, none⟩) 1 1) (hc : w.cell? ⟨g, 0, none⟩ = some (byt y)) (h63 : xs.length ≤ 100000) (hbase : base ≤ w.heap.size)
    (h : ∀ v' w', Owns w' base 5 byt v' (xs ++ [y]) → w.grownBy w' v.ownBlock → (v'.ownBlock = v.ownBlock ∨ v'.ownBlock = some w.heap.size) → wpList Tryd.prog ops Q rest (a.put o.dst v') w') : wpList Tryd.prog ops Q (o :: rest) a w :=
  wpList_app Tryd.underlying25 Tryd.info_byte rfl (by decide) (fun _ => rfl) hgd s x ho base v xs hs hown ⟨g, 0, none⟩ 1 1 [y] hx rfl (fun j hj => by
    obtain rfl : j = 0 := by simpa using hj
    exact hc) (by omega) hbase h
theorem Owns.cell {α : Type} {w : World} {base : Nat} {e : TypeId} {f : α → Value} {v : Value} {xs : List α} (h : Owns w base e f v xs) {j : Nat} (hj : j < xs.length) : ∃ g c, v = .slice (some ⟨g, 0, none⟩) xs.length c ∧ xs.length ≤ c ∧ w.cell? ⟨g, j, none⟩ = some (f xs[j]) := by
  rcases h.2 with ⟨_, h0⟩ | ⟨g, cap, cur, rfl, _, hg, hle, _, _, ht⟩
  · omega
  · refine ⟨g, cap, rfl, hle, ?_⟩
    rw [cell_of_row w g _ cur e (0, 0) hg]
    have h2 : (xs.map f)[j]? = some (f xs[j]) := by simp [hj]
    rw [← ht, List.getElem?_take] at h2
    rw [if_pos (by omega)] at h2
    simpa using h2
theorem Owns.ints {w : World} {base : Nat} {v : Value} {xs : List Int} (h : Owns w base 3 iv v xs) (hs : xs.length ≤ 1000000) (hf : ∀ x ∈ xs, -9223372036854775808 ≤ x ∧ x ≤ 9223372036854775807) : ISrc w v xs := by
  obtain ⟨A, c, rfl⟩ := h.slice
  by_cases h0 : xs.length = 0
  · refine ⟨⟨A, c, rfl, by omega, fun j hj => by omega⟩, by omega, hf⟩
  · obtain ⟨g, c', e, hle, _⟩ := h.cell (j := 0) (by omega)
    injection e with e1 _ e3
    subst e1 e3
    refine ⟨⟨_, c, rfl, hle, fun j hj => ⟨_, rfl, ?_⟩⟩, by omega, hf⟩
    obtain ⟨g', c', e, _, hc⟩ := h.cell hj
    injection e with e1 _ _
    injection e1 with e1
    injection e1 with e1 _ _
    subst e1
    rw [Addr.add_lit, Nat.zero_add]
    exact hc
theorem Owns.bytes {w : World} {base : Nat} {v : Value} {xs : List Nat} (h : Owns w base 5 byt v xs) (hs : xs.length ≤ 1000000) (hf : ∀ x ∈ xs, x < 256) : Src w v xs := by
  obtain ⟨A, c, rfl⟩ := h.slice
  by_cases h0 : xs.length = 0
  · refine ⟨⟨A, c, rfl, fun j hj => by omega⟩, by omega, hf⟩
  · obtain ⟨g, c', e, _, _⟩ := h.cell (j := 0) (by omega)
    injection e with e1 _ e3
    subst e1 e3
    refine ⟨⟨_, c, rfl, fun j hj => ⟨_, rfl, ?_⟩⟩, by omega, hf⟩
    obtain ⟨g', c', e, _, hc⟩ := h.cell hj
    injection e with e1 _ _
    injection e1 with e1
    injection e1 with e1 _ _
    subst e1
    rw [Addr.add_lit, Nat.zero_add]
    exact hc
end Go.Proofs.YtphpciglpnbblaaDoor
