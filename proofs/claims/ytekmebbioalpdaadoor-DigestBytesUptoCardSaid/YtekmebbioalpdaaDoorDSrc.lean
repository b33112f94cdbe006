/-
  Slices of bytes: what they hold.
-/
import Derived.Test.YtekmebbioalpdaaDoorMem
import Derived.Test.YtekmebbioalpdaaDoorInts
import Derived.Outline
import Derived.Deep.MidRow
namespace Go.Proofs.YtekmebbioalpdaaDoor
open Go.RowKit

/-- an int -/
abbrev iv (n : Int) : Value := .int .i64 n
/-- a byte as a value -/
def byt (x : Nat) : Value := .int .u8 (x : Int)
/-- a word of 32 bits as a value -/
def wv (x : Nat) : Value := .int .u32 (x : Int)
theorem cell_keep {w w' : World} (ho : Only Nix w w') {a : Addr} {u : Value} (h : w.cell? a = some u) : w'.cell? a = some u := by
  rw [World.cell?_of_block (w := w) (ho.block a.block (World.block_lt_of_cell? w a h) (fun e => e))]
  exact h
theorem cell_only {F : Nat → Prop} {w w' : World} (ho : Only F w w') {a : Addr} {u : Value} (h : w.cell? a = some u) (hF : ¬ F a.block) : w'.cell? a = some u := by
  rw [World.cell?_of_block (w := w) (ho.block a.block (World.block_lt_of_cell? w a h) hF)]
  exact h

/-- The slice v0 holds these bytes. -/
structure Src (w : World) (v0 : Value) (bs : List Nat) : Prop where
  form : ∃ A c, v0 = .slice A bs.length c ∧ ∀ j, (hj : j < bs.length) → ∃ ad, A = some ad ∧ w.cell? (ad.add j) = some (byt bs[j])
  small : bs.length ≤ 140737488355328
  lt : ∀ x ∈ bs, x < 256
theorem add_block (ad : Addr) (j : Nat) : (ad.add j).block = ad.block := by unfold Addr.add; split <;> rfl
theorem Src.only {F : Nat → Prop} {w w' : World} {v : Value} {bs : List Nat} (h : Src w v bs) (ho : Only F w w') (hF : ∀ i, i < w.heap.size → F i → ∀ ad n c, v = .slice (some ad) n c → ad.block ≠ i) : Src w' v bs := by
  obtain ⟨A, c, hv, hc⟩ := h.form
  refine ⟨⟨A, c, hv, fun j hj => ?_⟩, h.small, h.lt⟩
  obtain ⟨ad, hA, hx⟩ := hc j hj
  refine ⟨ad, hA, cell_only ho hx (fun e => ?_)⟩
  subst hA
  exact hF _ (World.block_lt_of_cell? w _ hx) e ad _ c hv (add_block ad j).symm
theorem Src.nix {w w' : World} {v : Value} {bs : List Nat} (h : Src w v bs) (ho : Only Nix w w') : Src w' v bs := h.only ho (fun _ _ e => e.elim)
theorem Src.of_cells {w : World} {b off c n : Nat} {bs : List Nat} (hn : bs.length = n) (h : ∀ j, (hj : j < bs.length) → w.cell? ⟨b, off + j, none⟩ = some (byt bs[j])) (hs : bs.length ≤ 140737488355328) (hl : ∀ x ∈ bs, x < 256) : Src w (.slice (some ⟨b, off, none⟩) n c) bs :=
  ⟨⟨_, c, by rw [hn], fun j hj => ⟨_, rfl, by rw [Addr.add_lit]; exact h j hj⟩⟩, hs, hl⟩
theorem Src.nil (w : World) : Src w (.slice none 0 0) [] := ⟨⟨none, 0, rfl, fun j hj => by simp at hj⟩, by simp, by simp⟩
theorem Src.slice {w : World} {v : Value} {bs : List Nat} (h : Src w v bs) : ∃ A c, v = .slice A bs.length c := by
  obtain ⟨A, c, hv, _⟩ := h.form
  exact ⟨A, c, hv⟩
theorem Src.at_ {w : World} {A : Option Addr} {n c : Nat} {bs : List Nat} (h : Src w (.slice A n c) bs) {k : Nat} (hk : k < bs.length) : ∃ ad, A = some ad ∧ w.cell? (ad.add k) = some (byt bs[k]) := by
  obtain ⟨A', c', hv, hc⟩ := h.form
  injection hv with e1 _ _
  subst e1
  exact hc k hk
theorem Src.len {w : World} {A : Option Addr} {n c : Nat} {bs : List Nat} (h : Src w (.slice A n c) bs) : n = bs.length := by
  obtain ⟨A', c', hv, _⟩ := h.form
  injection hv

/-- what lies in a block that has not turned -/
theorem range_nix {F : Nat → Prop} {w w' : World} (ho : Only F w w') {b o : Nat} {cs : List Value} (h : w.rangeAt b o cs) (hF : ¬ F b) : w'.rangeAt b o cs :=
  fun j v hv => cell_only ho (h j v hv) hF
theorem range_box {w : World} {b : Nat} {t : TypeId} {pre cs post : List Value} (h : Box w b t (pre ++ cs ++ post).toArray) : w.rangeAt b pre.length cs := fun j v hv => by
  rw [h.cell]
  obtain ⟨hj, rfl⟩ := List.getElem?_eq_some_iff.1 hv
  simp [List.getElem?_append_right, List.getElem?_append, hj]
theorem Only.setCells {F : Nat → Prop} {a : World} {b : Nat} (hb : F b ∨ a.heap.size ≤ b) : ∀ (vs : List Value) (o : Nat) {w : World}, Only F a w → Only F a (w.setCells b o vs)
  | [], _, _, h => h
  | v :: r, o, w, h => by
    rw [World.setCells]
    exact Only.setCells hb r (o + 1) (h.setCell (p := ⟨b, o, none⟩) hb v)
/-- cells laid over others, in the midst of a block -/
theorem Box.setCells {b : Nat} {t : TypeId} {post : List Value} : ∀ (vs pre old : List Value) {w : World}, old.length = vs.length → Box w b t (pre ++ old ++ post).toArray → Box (w.setCells b pre.length vs) b t (pre ++ vs ++ post).toArray
  | [], pre, old, w, h, hb => by
    obtain rfl : old = [] := List.eq_nil_of_length_eq_zero h
    exact hb
  | v :: r, pre, [], w, h, hb => by simp at h
  | v :: r, pre, x :: old, w, h, hb => by
    rw [World.setCells]
    have h1 := hb.put pre.length v
    rw [List.setIfInBounds_toArray, List.append_assoc, List.set_append_right _ _ (Nat.le_refl _), Nat.sub_self, List.cons_append, List.set_cons_zero] at h1
    have h2 := Box.setCells (post := post) r (pre ++ [v]) old (w := w.setCell ⟨b, pre.length, none⟩ v) (by simpa using h) (by simpa using h1)
    simpa using h2
/-- a whole block laid anew -/
theorem Box.setAll {w : World} {b : Nat} {t : TypeId} {vs old : List Value} (h : Box w b t old.toArray) (hl : old.length = vs.length) : Box (w.setCells b 0 vs) b t vs.toArray := by
  have := Box.setCells (post := []) vs [] old hl (by simpa using h)
  simpa using this
theorem Box.there {w : World} {b : Nat} {t : TypeId} {cs : Array Value} (h : Box w b t cs) {o n : Nat} (hn : o + n ≤ cs.size) : w.there b o n := fun j hj => by
  refine ⟨?_, h.frozen _⟩
  rw [h.cell, Array.getElem?_eq_getElem (by omega)]
  rfl
theorem Box.offCells {b : Nat} {t : TypeId} {cs : Array Value} {g : Nat} (hg : b ≠ g) : ∀ (vs : List Value) (o : Nat) {w : World}, Box w b t cs → Box (w.setCells g o vs) b t cs
  | [], _, _, h => h
  | v :: r, o, w, h => by
    rw [World.setCells]
    exact Box.offCells hg r (o + 1) (h.off (p := ⟨g, o, none⟩) hg v)
/-- one element of an array by value -/
theorem run_index_arr {P : Program} {t e : TypeId} {n i : Nat} {cs : List Value} {x : Value} {d : TypeDesc} (hu : P.underlying t = some (.array n e)) (he : P.underlying e = some d) (hd : d.isRow = false) (hz : (P.info? e).map (·.size) = some 1) (hi : i < n) (hx : cs[i]? = some x) (w : World) :
    (Instr.index t (.agg cs.toArray) (.int .i64 (i : Int))).run P w = .ok x w := by
  cases hq : P.info? e with
  | none => simp [hq] at hz
  | some inf =>
    have hs : inf.size = 1 := by simpa [hq] using hz
    have hagg : (isAgg e).run P w = .ok false w := by
      unfold isAgg
      rw [Sem.run_bind, run_underlying he w]
      cases d <;> simp_all
    have hb : 0 ≤ (i : Int) ∧ (i : Int) < (n : Int) := by omega
    simp [Instr.index, asIntOf, run_underlying hu, hb, part, hagg, sizeOf, typeInfo, hq, hs, hx, go_sem]
    omega
/-- a whole array into a block -/
theorem wpList_store_arr {P : Program} {ops : Array Oper} {rest : List Oper} {op : Oper} {a : Act} {w : World} {Q : Exit → Act → World → Prop} (hgd : op.guard = none) (hdst : op.dst = none) (ty : TypeId) (x y : Operand) (ho : op.op = .store ty x y)
    (b o : Nat) (cells : List Value) (hx : a.eval x = .pointer (some ⟨b, o, none⟩)) (hy : a.eval y = .agg cells.toArray)
    (ht : w.there b o cells.length) (hi : (P.info? ty).map (·.size) = some cells.length) (h1 : ∀ v ∈ cells, v.oneCell' = true)
    (h : wpList P ops Q rest a (w.setCells b o cells)) : wpList P ops Q (op :: rest) a w := by
  refine wpList_store_mid hgd ty x y ho b o cells.toArray hx hy (by simpa using ht) (by simpa using hi) (all_oneCell_toArray h1) ?_
  rw [hdst]
  exact h
theorem size_setCells (b : Nat) : ∀ (vs : List Value) (o : Nat) (w : World), (w.setCells b o vs).heap.size = w.heap.size
  | [], _, _ => rfl
  | v :: r, o, w => by rw [World.setCells, size_setCells b r (o + 1)]; simp [World.setCell]
theorem map_wv_one (l : List Nat) : ∀ v ∈ l.map wv, v.oneCell' = true := by
  intro v hv
  obtain ⟨x, _, rfl⟩ := List.mem_map.1 hv
  rfl
theorem map_byt_one (l : List Nat) : ∀ v ∈ l.map byt, v.oneCell' = true := by
  intro v hv
  obtain ⟨x, _, rfl⟩ := List.mem_map.1 hv
  rfl
end Go.Proofs.YtekmebbioalpdaaDoor
