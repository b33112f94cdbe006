/-
  A state, and how it takes bytes: plain mathematics; copy into the midst of a block.
-/
import Derived.Test.YtekmebbioalpdaaDoorDMix
import Derived.Test.YtekmebbioalpdaaDoorDApp
import Derived.Laws.CopyOwn
namespace Go.Proofs.YtekmebbioalpdaaDoor
open Go.RowKit

/-- the part that is not whole yet -/
structure StP (pt L : List Nat) : Prop where
  len : pt.length = 64
  lt : ∀ x ∈ pt, x < 256
  part : pt.take (L.length % 64) = L.drop (64 * (L.length / 64))
/-- A state lies at block b: it has taken the bytes L. -/
def St (w : World) (b : Nat) (t : TypeId) (L : List Nat) : Prop := ∃ pt, Box w b t (stc (hs (L.length / 64) L) pt (L.length : Int)).toArray ∧ StP pt L
theorem St.only {F : Nat → Prop} {w w' : World} {b : Nat} {t : TypeId} {L : List Nat} (h : St w b t L) (ho : Only F w w') (hb : ¬ F b) : St w' b t L := by
  obtain ⟨pt, h1, h2⟩ := h
  exact ⟨pt, h1.only ho hb, h2⟩

theorem splice_lt {pt X : List Nat} (r : Nat) (h1 : ∀ x ∈ pt, x < 256) (h2 : ∀ x ∈ X, x < 256) : ∀ x ∈ splice pt r X, x < 256 := by
  intro x hx
  unfold splice at hx
  rcases List.mem_append.1 hx with hx | hx
  · exact h1 x (List.mem_of_mem_take hx)
  · rcases List.mem_append.1 hx with hx | hx
    · exact h2 x hx
    · exact h1 x (List.mem_of_mem_drop hx)
theorem splice_take {pt X : List Nat} (r : Nat) (h : r ≤ pt.length) : (splice pt r X).take (r + X.length) = pt.take r ++ X := by
  unfold splice
  rw [← List.append_assoc, List.take_append_of_le_length (by simp; omega)]
  exact List.take_of_length_le (by simp; omega)
theorem div_mod (L : List Nat) : L.length = 64 * (L.length / 64) + L.length % 64 := by omega
theorem stp_more {pt L X : List Nat} (h : StP pt L) (hX : ∀ x ∈ X, x < 256) (hr : L.length % 64 + X.length < 64) :
    StP (splice pt (L.length % 64) X) (L ++ X) ∧ hs ((L ++ X).length / 64) (L ++ X) = hs (L.length / 64) L := by
  have hl := h.len
  have e1 : (L ++ X).length / 64 = L.length / 64 := by rw [List.length_append]; omega
  have e2 : (L ++ X).length % 64 = L.length % 64 + X.length := by rw [List.length_append]; omega
  refine ⟨⟨?_, splice_lt _ h.lt hX, ?_⟩, ?_⟩
  · rw [length_splice _ _ _ (by omega), hl]
  · rw [e1, e2, splice_take _ (by omega), h.part, List.drop_append_of_le_length (by omega)]
  · rw [e1, hs_append _ _ _ (by omega)]
theorem stp_full {pt L X : List Nat} (h : StP pt L) (hX : ∀ x ∈ X, x < 256) (hr : L.length % 64 + X.length = 64) :
    StP (splice pt (L.length % 64) X) (L ++ X) ∧ hs ((L ++ X).length / 64) (L ++ X) = mx (wds (splice pt (L.length % 64) X)) (hs (L.length / 64) L) := by
  have hl := h.len
  have e1 : (L ++ X).length / 64 = L.length / 64 + 1 := by rw [List.length_append]; omega
  have e2 : (L ++ X).length % 64 = 0 := by rw [List.length_append]; omega
  have e3 : (splice pt (L.length % 64) X).length = 64 := by rw [length_splice _ _ _ (by omega), hl]
  refine ⟨⟨e3, splice_lt _ h.lt hX, ?_⟩, ?_⟩
  · rw [e1, e2, List.take_zero, List.drop_of_length_le (by rw [List.length_append]; omega)]
  · have e4 : ((L ++ X).drop (64 * (L.length / 64))).take 64 = splice pt (L.length % 64) X := by
      rw [List.drop_append_of_le_length (by omega), ← h.part, ← splice_take _ (by omega), hr]
      rw [List.take_of_length_le (by rw [List.length_take, e3]; omega), List.take_of_length_le (by omega)]
    rw [e1, hs, e4, hs_append _ _ _ (by omega)]
theorem splice_stc (q : Q) (pt X : List Nat) (n : Int) (r : Nat) (h : r + X.length ≤ pt.length) : splice (stc q pt n) (4 + r) (X.map byt) = stc q (splice pt r X) n := by
  unfold stc splice
  have e1 : ([wv q.a, wv q.b, wv q.c, wv q.d] ++ List.map byt pt ++ [iv n]).take (4 + r) = [wv q.a, wv q.b, wv q.c, wv q.d] ++ (pt.take r).map byt := by
    rw [List.append_assoc, List.take_append, List.take_of_length_le (by simp), show 4 + r - [wv q.a, wv q.b, wv q.c, wv q.d].length = r from by simp, List.take_append_of_le_length (by simp; omega), List.map_take]
  have e2 : ([wv q.a, wv q.b, wv q.c, wv q.d] ++ List.map byt pt ++ [iv n]).drop (4 + r + (X.map byt).length) = (pt.drop (r + X.length)).map byt ++ [iv n] := by
    rw [List.append_assoc, List.drop_append, List.drop_of_length_le (by simp; omega), List.nil_append, show 4 + r + (X.map byt).length - [wv q.a, wv q.b, wv q.c, wv q.d].length = r + X.length from by simp; omega, List.drop_append_of_le_length (by simp; omega), List.map_drop]
  rw [e1, e2]
  simp
theorem put_many (q : Q) (pt : List Nat) (n m : Int) (h : pt.length = 64) : (stc q pt n).toArray.setIfInBounds 68 (iv m) = (stc q pt m).toArray := by
  rw [List.setIfInBounds_toArray]
  unfold stc
  rw [List.set_append_right _ _ (by simp; omega)]
  simp [h]
theorem stc_many (q : Q) (pt : List Nat) (n : Int) (h : pt.length = 64) : (stc q pt n).toArray[68]? = some (iv n) := by
  rw [List.getElem?_toArray]
  unfold stc
  rw [List.getElem?_append_right (by simp; omega)]
  simp [h]

/-- copy into the midst of a block, as one step of a region that draws its order -/
theorem step_copy_row {P : Program} {ops : Array Oper} {o : Oper} {a : Act} {w : World} {K : Act → World → Prop} {Q : Exit → Act → World → Prop} {E : Prop} (hgd : o.guard = none) (d s : Operand) (dT sT : TypeId)
    (ho : o.op = .call { callee := .builtin .copy, args := #[d, s], argTypes := #[dT, sT] }) (elem : TypeId) (hu : P.underlying dT = some (.slice elem)) (hsz : (P.info? elem).map (·.size) = some 1)
    (ad : Addr) (dLen dCap sLen sCap : Nat) (g off : Nat) (hd : a.eval d = .slice (some ⟨g, off, none⟩) dLen dCap) (hs : a.eval s = .slice (some ad) sLen sCap)
    (cur : List Value) (t : TypeId) (hg : Box w g t cur.toArray) (cs : List Value) (hn : cs.length = Nat.min sLen dLen)
    (hsrc : ∀ j v, cs[j]? = some v → w.cell? (ad.add j) = some v) (hfit : off + cs.length ≤ cur.length) (h1 : ∀ v ∈ cs, v.oneCell' = true)
    (h : ∀ w', Hid (Box w' g t (splice cur off cs).toArray) → Only (Just g) w w' → K (a.put o.dst (goInt cs.length)) w') :
    if Region.wanted o (yielded ops a.tmps) = true then Oper.wp P o a w K Q else E := by
  have hw : Region.wanted o (yielded ops a.tmps) = true := by simp [Region.wanted, hgd]
  rw [if_pos hw]
  have hrun := run_copy_row (P := P) w dT sT o.type elem g off dLen dCap ad sLen sCap cur.toArray t cs hu hsz hg hn hsrc (by simpa using hfit) h1
  unfold Oper.wp
  simp [execOp, ho, resolve, invoke, builtin, hd, hs, hrun, Result.andThen]
  exact h _ (show _ = _ by simpa [splice] using setRow_heap w g _ _ t _ hg) ⟨rfl, rfl, rfl, by simp [World.setRow], fun k _ hk => setRow_other w g k _ hk⟩
theorem Tryd.size_byte : (Tryd.prog.info? 5).map (·.size) = some 1 := by kernel_rfl
/-- how long a slice is -/
def lenOf : Value → Nat
  | .slice _ n _ => n
  | _ => 0
end Go.Proofs.YtekmebbioalpdaaDoor
