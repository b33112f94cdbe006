/-
  A slice of calls (Op) that came in: its cells; and rows of calls of the statement's own.
-/
import Derived.Test.YtpcddacfhmkkbaaBackMath
import Derived.ProofKit
import Derived.OpenShut
import Derived.Lib.SmallJoins
import Derived.Deep.Slices
namespace Go.Proofs.Ytpcddacfhmkkbaa
open Go.ChangeShapes Go.WideShapes Go.ChangeAt Go.RowKit Go.Joins

theorem Try.own : ownKnob Try.prog.godebug = none := by kernel_rfl
theorem Try.laidOut : laidOutB Try.prog = true := by kernel_rfl
theorem Try.cellsOp : Try.prog.cellsOf 35 = 3 := by kernel_rfl
theorem Try.info_op : (Try.prog.info? 35).map (fun i => (i.zero, i.size, i.bytes)) = some (some (.agg #[.int .i64 0, .int .i64 0, .int .i64 0]), 3, 24) := by kernel_rfl

/-- an int -/
abbrev iv (n : Int) : Value := .int .i64 n
/-- the cells of calls -/
def flat (os : List Op3) : List Value := os.flatMap fun o => [iv o.1, iv o.2.1, iv o.2.2]
theorem flat_len (os : List Op3) : (flat os).length = os.length * 3 := by
  induction os with
  | nil => rfl
  | cons o os ih => simp [flat] at ih ⊢; omega
theorem flat_append (a b : List Op3) : flat (a ++ b) = flat a ++ flat b := by simp [flat]
theorem flat_at (os : List Op3) (j : Nat) (hj : j < os.length) : (flat os)[3 * j]? = some (iv os[j].1) ∧ (flat os)[3 * j + 1]? = some (iv os[j].2.1) ∧ (flat os)[3 * j + 2]? = some (iv os[j].2.2) := by
  have e : flat os = flat (os.take j) ++ (flat [os[j]] ++ flat (os.drop (j + 1))) := by
    rw [← flat_append, ← flat_append, List.singleton_append, List.getElem_cons_drop, List.take_append_drop]
  have hl : (flat (os.take j)).length = 3 * j := by rw [flat_len, List.length_take]; omega
  rw [e]
  refine ⟨?_, ?_, ?_⟩
  · rw [List.getElem?_append_right (by omega), hl, Nat.sub_self]; rfl
  · rw [List.getElem?_append_right (by omega), hl, show 3 * j + 1 - 3 * j = 1 from by omega]; rfl
  · rw [List.getElem?_append_right (by omega), hl, show 3 * j + 2 - 3 * j = 2 from by omega]; rfl

/-- The slice v0 holds these calls. -/
def OpsIn (w : World) (v0 : Value) (os : List Op3) : Prop :=
  (∃ A c, v0 = .slice A 0 c ∧ os = []) ∨
  ∃ b off c, v0 = .slice (some ⟨b, off, none⟩) os.length c ∧ b < w.heap.size ∧ ∀ j, (hj : j < os.length) → w.cell? ⟨b, off + j * 3, none⟩ = some (iv os[j].1) ∧ w.cell? ⟨b, off + j * 3 + 1, none⟩ = some (iv os[j].2.1) ∧ w.cell? ⟨b, off + j * 3 + 2, none⟩ = some (iv os[j].2.2)
theorem OpsIn.slice {w : World} {v0 : Value} {os : List Op3} (h : OpsIn w v0 os) : ∃ A c, v0 = .slice A os.length c := by
  rcases h with ⟨A, c, hv, rfl⟩ | ⟨b, off, c, hv, _⟩
  · exact ⟨A, c, hv⟩
  · exact ⟨_, c, hv⟩
theorem OpsIn.at_ {w : World} {A : Option Addr} {n c : Nat} {os : List Op3} (h : OpsIn w (.slice A n c) os) {j : Nat} (hj : j < os.length) :
    ∃ b off, A = some ⟨b, off, none⟩ ∧ b < w.heap.size ∧ w.cell? ⟨b, off + j * 3, none⟩ = some (iv os[j].1) ∧ w.cell? ⟨b, off + j * 3 + 1, none⟩ = some (iv os[j].2.1) ∧ w.cell? ⟨b, off + j * 3 + 2, none⟩ = some (iv os[j].2.2) := by
  rcases h with ⟨_, _, _, rfl⟩ | ⟨b, off, c', hv, hb, hc⟩
  · simp at hj
  · injection hv with h1 _ _
    exact ⟨b, off, h1, hb, hc j hj⟩
theorem OpsIn.keep {w w' : World} {v0 : Value} {os : List Op3} (h : OpsIn w v0 os) (ho : Only Nix w w') : OpsIn w' v0 os := by
  rcases h with h | ⟨b, off, c', hv, hb, hc⟩
  · exact .inl h
  · refine .inr ⟨b, off, c', hv, by have := ho.size; omega, fun j hj => ?_⟩
    have e : ∀ o, w'.cell? ⟨b, o, none⟩ = w.cell? ⟨b, o, none⟩ := fun o => World.cell?_of_block (w := w) (ho.block b hb (fun e => e))
    rw [e, e, e]
    exact hc j hj
theorem OpsIn.of_owns {w : World} {base : Nat} {v : Value} {os : List Op3} (h : w.ownsRow base 35 3 v os.length (flat os)) : OpsIn w v os := by
  rcases h.2 with ⟨rfl, hn⟩ | ⟨g, cap, cur, rfl, _, hg, _⟩
  · exact .inl ⟨none, 0, rfl, List.eq_nil_of_length_eq_zero hn⟩
  · refine .inr ⟨g, 0, cap, rfl, (Array.getElem?_eq_some_iff.1 hg).1, fun j hj => ?_⟩
    obtain ⟨f1, f2, f3⟩ := flat_at os j hj
    rw [Nat.zero_add, h.cellAt _ (by omega), h.cellAt _ (by omega), h.cellAt _ (by omega), Nat.mul_comm j 3]
    exact ⟨f1, f2, f3⟩

/-- numbers of Go's int -/
def Fits (n : Int) : Prop := -9223372036854775808 ≤ n ∧ n ≤ 9223372036854775807
theorem fits_of_wf {n : Int} (h : (Lit.int .i64 n).wf = true) : Fits n := by
  have := h
  simp [Lit.wf, IntKind.min, IntKind.max, IntKind.signed, IntKind.bits] at this
  exact ⟨by omega, by omega⟩

section
variable {H : Type} {enc : TypeId × Value → H} {w : World}
/-- a struct of three fields of one cell each, read field by field -/
theorem three_fields {P : Program} {t : TypeId} {f0 f1 f2 : Field} {fuel base : Nat} {spare : Nat → Bool} {held : Bool} {c0 c1 c2 : Value} {x : DataW H × List MemPlace} (ht : P.underlying t = some (.struct #[f0, f1, f2])) (hone : Go.Deep.oneCellFields P #[f0, f1, f2] = true)
    (h : DataW.trod enc P w base spare held fuel t [c0, c1, c2] = some x) : ∃ n y0 y1 y2, DataW.trod enc P w base spare held n f0.type [c0] = some y0 ∧ DataW.trod enc P w base spare held n f1.type [c1] = some y1 ∧ DataW.trod enc P w base spare held n f2.type [c2] = some y2 := by
  obtain ⟨y0, y1, y2, n, _, _, t0, t1, t2⟩ := Go.Deep.trod_struct3 ht h
  obtain ⟨o0, k0⟩ := Go.Deep.hone_of hone 0 f0 rfl
  obtain ⟨o1, k1⟩ := Go.Deep.hone_of hone 1 f1 rfl
  obtain ⟨o2, k2⟩ := Go.Deep.hone_of hone 2 f2 rfl
  rw [o0, k0] at t0
  rw [o1, k1] at t1
  rw [o2, k2] at t2
  exact ⟨n, y0, y1, y2, t0, t1, t2⟩
/-- an argument of type []Op, opened -/
theorem open_ops {A : Option Addr} {len cap : Nat} {d : DataW H} {p : List MemPlace} (h : DataW.Trod enc Try.prog w 0 (fun _ => true) true 23 (.slice A len cap) d p) :
    ∃ os : List Op3, OpsIn w (.slice A len cap) os ∧ os.length = len ∧ len ≤ maxLen ∧ ∀ o ∈ os, Fits o.1 ∧ Fits o.2.1 ∧ Fits o.2.2 := by
  obtain ⟨fuel, hf⟩ := h
  rcases Go.Deep.open_slice Try.underlying23 hf with ⟨hcs, _⟩ | ⟨a, l, c, m, n, D, Pl, hcs, _, hl, hm, hmm, _, hi⟩
  · simp [Value.cells] at hcs
    obtain ⟨rfl, rfl, rfl⟩ := hcs
    exact ⟨[], .inl ⟨none, 0, rfl, rfl⟩, rfl, by unfold maxLen; omega, by simp⟩
  · simp [Value.cells] at hcs
    obtain ⟨rfl, rfl, rfl⟩ := hcs
    simp only [if_true] at hmm
    subst hmm
    rcases Nat.eq_zero_or_pos len with rfl | hp
    · exact ⟨[], .inl ⟨_, _, rfl, rfl⟩, rfl, by unfold maxLen; omega, by simp⟩
    · have hcell : ∀ i, i < len → ∃ o : Op3, (w.cell? (a.add (i * 3)) = some (iv o.1) ∧ w.cell? (a.add (i * 3 + 1)) = some (iv o.2.1) ∧ w.cell? (a.add (i * 3 + 2)) = some (iv o.2.2)) ∧ Fits o.1 ∧ Fits o.2.1 ∧ Fits o.2.2 := by
        intro i hil
        obtain ⟨cs', hc, ht'⟩ := hi i (by omega)
        rw [Try.cellsOp] at hc
        obtain ⟨_, hcl, hat⟩ := World.cells?_some hc
        obtain ⟨c0, c1, c2, rfl⟩ : ∃ c0 c1 c2, cs' = [c0, c1, c2] := by
          match cs', hcl with
          | [c0, c1, c2], _ => exact ⟨c0, c1, c2, rfl⟩
        obtain ⟨n', y0, y1, y2, t0, t1, t2⟩ := three_fields Try.underlying35 (by kernel_rfl) ht'
        obtain ⟨x0, e0, _, w0⟩ := DataW.trod_int Try.underlying_int t0
        obtain ⟨x1, e1, _, w1⟩ := DataW.trod_int Try.underlying_int t1
        obtain ⟨x2, e2, _, w2⟩ := DataW.trod_int Try.underlying_int t2
        simp at e0 e1 e2
        subst e0 e1 e2
        have a0 := hat 0 (by omega)
        have a1 := hat 1 (by omega)
        have a2 := hat 2 (by omega)
        rw [Go.Deep.add_add] at a0 a1 a2
        exact ⟨(x0, x1, x2), ⟨by simpa using a0, by simpa using a1, by simpa using a2⟩, fits_of_wf w0, fits_of_wf w1, fits_of_wf w2⟩
      obtain ⟨f, hfn⟩ := Go.Deep.choose_lt hcell
      obtain ⟨bb, off, spot⟩ := a
      have hspot : spot = none := by
        have := World.cell?_spot (hfn 0 hp).1.1
        simpa [Addr.add] using this
      subst hspot
      refine ⟨(List.range len).map f, .inr ⟨bb, off, _, by rw [List.length_map, List.length_range], World.block_lt_of_cell? w _ (by simpa [Addr.add] using (hfn 0 hp).1.1), fun j hj => ?_⟩, by simp, by omega, ?_⟩
      · simp only [List.length_map, List.length_range] at hj
        have h3 := (hfn j hj).1
        simp only [List.getElem_map, List.getElem_range]
        simpa [Addr.add_lit, Nat.add_assoc] using h3
      · intro o ho
        obtain ⟨j, hj, rfl⟩ := List.mem_map.1 ho
        exact (hfn j (List.mem_range.1 hj)).2
end
end Go.Proofs.Ytpcddacfhmkkbaa
