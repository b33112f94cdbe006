/-
  Rows of numbers of my own: made, appended to, read.
-/
import Derived.Test.YtgjnhbfdbiibdaaKCheck
import Derived.Laws.AppendOwnNone
import Derived.Deep.AppendLies
import Derived.Deep.OwnRows
namespace Go.Proofs.Ytgjnhbfdbiibdaa
open Go.RowKit

theorem Try.info_int : (Try.prog.info? 3).map (fun i => (i.zero, i.size, i.bytes)) = some (some (.int .i64 0), 1, 8) := by kernel_rfl
theorem wpList_append_one {w : World} {ops : Array Oper} {rest : List Oper} {o : Oper} {a : Act} {Q : Exit → Act → World → Prop} (hg : o.guard = none) (s x : Operand)
    (hop : o.op = Op.call { callee := Callee.builtin Builtin.append, args := #[s, x], argTypes := #[22, 22] })
    (base : Nat) (v : Value) (n : Nat) (xs : List Value) (hs : a.eval s = v) (hown : w.ownsRow base 3 1 v n xs) (H : Nat) (y : Int) (hx : a.eval x = .slice (some ⟨H, 0, none⟩) 1 1) (hc : w.cell? ⟨H, 0, none⟩ = some (iv y)) (hn : n ≤ 100000000) (hb : base ≤ w.heap.size)
    (hK : ∀ g cap w', w'.ownsRow base 3 1 (.slice (some ⟨g, 0, none⟩) (n + 1) cap) (n + 1) (xs ++ [iv y]) → w.grownBy w' v.ownBlock → (v.ownBlock = some g ∨ g = w.heap.size) → wpList Try.prog ops Q rest (a.put o.dst (.slice (some ⟨g, 0, none⟩) (n + 1) cap)) w') :
    wpList Try.prog ops Q (o :: rest) a w := by
  obtain ⟨i0, hi, hz0, hz1, hz2⟩ := info_parts Try.info_int
  exact wpList_append_lies w hg s x 22 hop base 3 i0 (.int .i64 0) 1 8 Try.underlying22 hi hz0 hz1 hz2 rfl (by decide) v n xs hs hown ⟨H, 0, none⟩ 1 1 [iv y] hx rfl (fun j u hu => by
    obtain rfl : j = 0 := by
      have := (List.getElem?_eq_some_iff.1 hu).1
      simp at this
      omega
    rw [Addr.add_lit, hc]
    simpa using hu) (fun u hu => by simp at hu; subst hu; rfl) (by decide) (by unfold maxLen; omega) (by omega) hb _ rfl (fun g cap w' r1 r2 r3 _ => hK g cap w' r1 r2 r3)
theorem row_form {W : World} {base n : Nat} {v : Value} {xs : List Value} (h : W.ownsRow base 3 1 v n xs) (hn : 0 < n) : ∃ g c, v = .slice (some ⟨g, 0, none⟩) n c ∧ base ≤ g := by
  rcases h.2 with ⟨_, e⟩ | ⟨g, cap, cur, e, hb, _⟩
  · omega
  · exact ⟨g, cap, e, hb⟩
theorem isrc_row {W : World} {base n g c : Nat} {vs : List Value} {xs : List Int} (h : W.ownsRow base 3 1 (.slice (some ⟨g, 0, none⟩) n c) n vs) (e : vs = xs.map iv) (hf : ∀ x ∈ xs, -9223372036854775808 ≤ x ∧ x ≤ 9223372036854775807) (hn : n ≤ 100000000) : ISrc W (.slice (some ⟨g, 0, none⟩) n c) xs := by
  have hl : xs.length = n := by
    have := h.1
    rw [e, List.length_map] at this
    omega
  have hc : n ≤ c := by
    rcases h.2 with ⟨e, _⟩ | ⟨g', cap, cur, e, _, _, h3, _⟩
    · cases e
    · injection e with _ _ e3; omega
  refine ⟨⟨_, c, by rw [hl], by omega, fun j hj => ⟨_, rfl, ?_⟩⟩, by omega, hf⟩
  refine World.ownsRow.cells h (g := g) rfl j _ ?_
  rw [e, List.getElem?_map, List.getElem?_eq_getElem hj]
  rfl
theorem owns_down {W : World} {a b n : Nat} {v : Value} {xs : List Value} (h : W.ownsRow b 3 1 v n xs) (hab : a ≤ b) : W.ownsRow a 3 1 v n xs := by
  refine ⟨h.1, ?_⟩
  rcases h.2 with e | ⟨g, cap, cur, e, hb, r⟩
  · exact .inl e
  · exact .inr ⟨g, cap, cur, e, Nat.le_trans hab hb, r⟩
theorem made_own (u : World) (c base : Nat) (hc : c ≤ 1000000) (hb : base ≤ u.heap.size) :
    (Go.Instr.makeSlice 22 (.int .i64 0) (.int .i64 (c : Int))).run Try.prog u = .ok (.slice (some ⟨u.heap.size, 0, none⟩) 0 c) (u.alloc (.cells (madeCells #[.int .i64 0] c) 3)) ∧
    (u.alloc (.cells (madeCells #[.int .i64 0] c) 3)).ownsRow base 3 1 (.slice (some ⟨u.heap.size, 0, none⟩) 0 c) 0 [] := by
  obtain ⟨i0, hi, hz0, hz1, hz2⟩ := info_parts Try.info_int
  obtain ⟨w', h1, h2, _⟩ := run_make_own u base 22 3 i0 (.int .i64 0) 1 Try.underlying22 hi hz0 hz1 .i64 .i64 c (by rw [hz2]; omega) (by unfold maxLen; omega) hb
  have h3 := run_make u 22 3 i0 (.int .i64 0) Try.underlying22 hi hz0 .i64 .i64 0 (c : Int) (by omega) (by omega) (by rw [hz2]; omega) (by omega)
  rw [hz1, Nat.mul_one, Int.toNat_natCast] at h3
  rw [h1] at h3
  injection h3 with _ e
  subst e
  exact ⟨h1, h2⟩
end Go.Proofs.Ytgjnhbfdbiibdaa
