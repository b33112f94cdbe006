/-
  Texts of earlier stages, put together.
-/
import Derived.Test.YteahiigfclabfaaDoorHG1
import Derived.Lib.AppendZerosOnto
import Derived.Deep.RegionLaw
import Derived.BigRegion
import Derived.Deep.AppendLies
namespace Go.Proofs.YteahiigfclabfaaDoor
open Go.RowKit

theorem zeroCells_list (z : Value) (k : Nat) : (Builtin.zeroCells #[z] k).toList = List.replicate k z := by
  simp only [Builtin.zeroCells, List.size_toArray, List.length_cons, List.length_nil, Nat.zero_add, Nat.mul_one, Array.toList_map, Array.toList_range]
  refine List.ext_getElem (by simp) fun i h1 h2 => ?_
  simp [Nat.mod_one]
theorem zeroCells_arr (z : Value) (k : Nat) : Builtin.zeroCells #[z] k = (List.replicate k z).toArray := by
  rw [← zeroCells_list]

/-- what a world's own row of k noughts more is -/
def OwnMore (w : World) (base : Nat) (e : TypeId) (v : Value) (n k : Nat) (xs : List Value) (z : Value) (v' : Value) (w' : World) : Prop :=
  w'.ownsRow base e 1 v' (n + k) (xs ++ List.replicate k z) ∧ w.grownBy w' v.ownBlock ∧ (v'.ownBlock = v.ownBlock ∨ v'.ownBlock = some w.heap.size)

theorem run_append_own_zeros {P : Program} (w : World) (base : Nat) (t tn ty e : TypeId) (i : TypeInfo) (z : Value) (bytes : Nat) (kq kn : IntKind) (ht : P.underlying t = some (.slice e)) (htn : P.underlying tn = some (.int kn))
    (hi : P.info? e = some i) (hz : i.zero = some z) (hsize : i.size = 1) (hby : i.bytes = bytes) (hzc : z.cells = #[z]) (hz1 : z.oneCell' = true)
    (v : Value) (n : Nat) (xs : List Value) (hown : w.ownsRow base e 1 v n xs) (k : Nat) (h63 : n + k ≤ maxLen) (hbytes : (n + k) * bytes ≤ 140737488355328) (hbase : base ≤ w.heap.size) :
    ∃ v' w', (Builtin.append_ #[t, tn] ty #[v, .int kq (k : Int)]).run P w = .ok v' w' ∧ OwnMore w base e v n k xs z v' w' := by
  subst hby
  have hsmall : n + k ≤ 9223372036854775807 := by simp only [maxLen] at h63; omega
  have hw : IntKind.i64.wrap (k : Int) = k := by rw [IntKind.wrap_i64]; omega
  have hw0 : IntKind.i64.wrap 0 = 0 := by rw [IntKind.wrap_i64]; rfl
  have hkb : k * i.bytes ≤ 140737488355328 := Nat.le_trans (Nat.mul_le_mul_right _ (by omega)) hbytes
  have h48i : ¬ (281474976710656 < (k : Int) * (i.bytes : Int)) := by rw [← Int.natCast_mul]; omega
  have hneg : ¬ ((k : Int) < 0) := by omega
  have hlen : (xs ++ List.replicate k z).length = (n + k) * 1 := by rw [List.length_append, hown.1, List.length_replicate, Nat.add_mul, Nat.mul_one k]
  have grown : ∀ (old : Nat) (row : Option Nat),
      (w.drew.alloc (.cells (xs.toArray ++ Builtin.zeroCells z.cells k ++ Builtin.zeroCells z.cells (grownCap w (n + k) old e - (n + k))) e)).ownsRow base e 1
        (.slice (some ⟨w.heap.size, 0, none⟩) (n + k) (grownCap w (n + k) old e)) (n + k) (xs ++ List.replicate k z) ∧
      w.grownBy (w.drew.alloc (.cells (xs.toArray ++ Builtin.zeroCells z.cells k ++ Builtin.zeroCells z.cells (grownCap w (n + k) old e - (n + k))) e)) row := by
    intro old row
    have hge := grownCap_ge w (n + k) old e
    have hcm : grownCap w (n + k) old e ≤ maxLen := grownCap_le_maxLen w (n + k) old e h63
    refine ⟨⟨hlen, .inr ⟨w.heap.size, _, _, rfl, hbase, heap_alloc_new w.drew _, hge, hcm, ?_, ?_⟩⟩, ⟨rfl, rfl, rfl, by simp, fun j hj _ => Below.heap_alloc w.drew _ j hj⟩⟩
    · have := hown.1
      simp only [Array.size_append, List.size_toArray, size_zeroCells, hzc, List.length_cons, List.length_nil]
      omega
    · simp only [Array.toList_append, List.append_assoc, hzc, zeroCells_list]
      rw [← List.append_assoc, ← hlen]
      exact List.take_left
  rcases hown.2 with ⟨rfl, rfl⟩ | ⟨g, cap, cur, rfl, hbg, hg, hnc, hcm, hcs, htake⟩
  · have hx : xs = [] := List.eq_nil_of_length_eq_zero (by simpa using hown.1)
    subst hx
    by_cases hk : k = 0
    · subst hk
      refine ⟨.slice none 0 0, w, ?_, World.ownsRow_nil w base e 1, ⟨rfl, rfl, rfl, Nat.le_refl _, fun _ _ _ => rfl⟩, .inl rfl⟩
      simp [Builtin.append_, run_underlying ht, run_underlying htn, sizeOf, typeInfo, hi, asInt, asIntOf, hw0]
    · have hr := Lib.run_append_nil_zeros (P := P) w t tn ty e i z kq kn ht htn hi hz k (by omega) (by omega) (by omega) (by omega)
      have hgr := grown 0 (Value.ownBlock (.slice none 0 0))
      simp only [Nat.zero_add, List.nil_append, Array.empty_append] at hgr
      refine ⟨_, _, hr, ?_, hgr.2, .inr rfl⟩
      simpa using hgr.1
  · by_cases hroom : n + k ≤ cap
    · have hfit : n + (List.replicate k z).length ≤ cur.size := by rw [List.length_replicate, hcs]; omega
      have hst := run_storeCells_at P g n e (List.replicate k z) 0 cur w hg (by simpa using hfit) (fun u hu => by rw [(List.mem_replicate.1 hu).2]; exact hz1)
      simp only [Nat.add_zero] at hst
      refine ⟨.slice (some ⟨g, 0, none⟩) (n + k) cap, w.setRow g (cur.toList.take n ++ List.replicate k z ++ cur.toList.drop (n + (List.replicate k z).length)).toArray, ?_,
        ⟨hlen, .inr ⟨g, cap, _, rfl, hbg, setRow_heap w g cur _ e _ hg, hroom, hcm, ?_, ?_⟩⟩, ⟨rfl, rfl, rfl, by simp, fun k _ hk => setRow_other w g k _ (fun e => hk (by simp [Value.ownBlock, e]))⟩, .inl rfl⟩
      · by_cases hk : k = 0
        · subst hk
          simp only [List.replicate_zero] at hst
          simp [Builtin.append_, run_underlying ht, run_underlying htn, sizeOf, typeInfo, hi, hsize, asInt, asIntOf, hw0, hnc, Addr.add_lit, hst]
        · simp [Builtin.append_, run_underlying ht, run_underlying htn, sizeOf, typeInfo, zeroValue, hi, hz, hsize, asInt, asIntOf, hw, hk, hneg, h48i, hroom, Addr.add_lit, hzc, zeroCells_arr, hst]
      · simp only [List.size_toArray, List.length_append, List.length_take, List.length_drop, Array.length_toList, List.length_replicate]
        omega
      · have ht' : cur.toList.take n = xs := by simpa using htake
        rw [ht', ← hlen]
        exact List.take_left
    · have holds : ∀ j u, xs[j]? = some u → w.cell? ((⟨g, 0, none⟩ : Addr).add j) = some u := hown.cells (g := g) rfl
      have hold := run_firstCells_some (P := P) w.drew i.size n ⟨g, 0, none⟩ n cap xs (by rw [hsize]; exact hown.1) holds
      have hfit : Builtin.nextslicecap (n + k) cap * i.bytes ≤ 281474976710656 := by
        have h1 : Builtin.nextslicecap (n + k) cap * i.bytes ≤ 2 * (n + k) * i.bytes := Nat.mul_le_mul_right _ (nextslicecap_le (by omega))
        rw [Nat.mul_assoc] at h1
        omega
      have hr := Lib.run_append_grow_zeros (P := P) w t tn ty e i z kq kn ht htn hi hz (some ⟨g, 0, none⟩) n cap xs hold k (by omega) (by omega) (by omega) (by omega) (by omega) hfit
      have hgr := grown cap (Value.ownBlock (.slice (some ⟨g, 0, none⟩) n cap))
      exact ⟨_, _, hr, hgr.1, hgr.2, .inr rfl⟩

/-- .. as one step of a region that draws its order -/
theorem step_append_own_zeros {P : Program} {ops : Array Oper} {o : Oper} {a : Act} {w : World} {K : Act → World → Prop} {Q : Exit → Act → World → Prop} {E : Prop}
    (hg : o.guard = none) (s x : Operand) (t tn : TypeId) (hop : o.op = Op.call { callee := Callee.builtin Builtin.append, args := #[s, x], argTypes := #[t, tn] })
    (base : Nat) (e : TypeId) (i : TypeInfo) (z : Value) (bytes : Nat) (kq kn : IntKind) (ht : P.underlying t = some (.slice e)) (htn : P.underlying tn = some (.int kn))
    (hi : P.info? e = some i) (hz : i.zero = some z) (hsize : i.size = 1) (hby : i.bytes = bytes) (hzc : z.cells = #[z]) (hz1 : z.oneCell' = true)
    (v : Value) (n : Nat) (xs : List Value) (hs : a.eval s = v) (k : Nat) (hx : a.eval x = .int kq (k : Int)) (hown : w.ownsRow base e 1 v n xs) (h63 : n + k ≤ maxLen) (hbytes : (n + k) * bytes ≤ 140737488355328) (hbase : base ≤ w.heap.size)
    (hK : ∀ v' w', OwnMore w base e v n k xs z v' w' → K (a.put o.dst v') w') :
    if Region.wanted o (yielded ops a.tmps) = true then Oper.wp P o a w K Q else E := by
  have hwd : Region.wanted o (yielded ops a.tmps) = true := by simp [Region.wanted, hg]
  rw [if_pos hwd]
  obtain ⟨v', w', hrun, hm⟩ := run_append_own_zeros (P := P) w base t tn o.type e i z bytes kq kn ht htn hi hz hsize hby hzc hz1 v n xs hown k h63 hbytes hbase
  unfold Oper.wp
  simp [execOp, hop, resolve, invoke, builtin, hs, hx, hrun, Result.andThen]
  exact hK v' w' hm
end Go.Proofs.YteahiigfclabfaaDoor

namespace Go.Proofs.YteahiigfclabfaaDoor
open Go.RowKit

/-- These bytes are these bits, and noughts up to the last byte's end. -/
structure Packs (bs l : List Nat) : Prop where
  lt : ∀ x ∈ bs, x < 256
  bits : bitsOf bs = l ++ List.replicate (8 * bs.length - l.length) 0
  lo : l.length ≤ 8 * bs.length
  hi : 8 * bs.length < l.length + 8

/-- At block b lies a Writer of the bits l (in the slice v, whose bytes are bs). -/
structure Wr (w : World) (b : Nat) (v : Value) (bs l : List Nat) : Prop where
  box : Box w b 88 #[.int .i64 (l.length : Int), v]
  own : w.ownsRow 0 5 1 v bs.length (bs.map byt)
  packs : Packs bs l
  small : l.length ≤ 562949953421312

/-- a Writer's blocks -/
def WF (b : Nat) (v : Value) (k : Nat) : Prop := k = b ∨ v.ownBlock = some k
/-- the slice v' lies where v lay, or is new -/
def Moves (B : Nat) (v v' : Value) : Prop := ∀ g, v'.ownBlock = some g → v.ownBlock = some g ∨ B ≤ g

theorem Moves.refl (B : Nat) (v : Value) : Moves B v v := fun _ h => .inl h
theorem Moves.trans {B B' : Nat} {a b c : Value} (h : Moves B a b) (k : Moves B' b c) (hB : B ≤ B') : Moves B a c := fun g hg => by
  rcases k g hg with h1 | h1
  · exact h g h1
  · exact .inr (by omega)

section
variable {w w' : World} {b : Nat} {v : Value} {bs l : List Nat}
theorem Wr.cell0 (h : Wr w b v bs l) : w.cell? ⟨b, 0, none⟩ = some (.int .i64 (l.length : Int)) := by rw [h.box.cell]; rfl
theorem Wr.cell1 (h : Wr w b v bs l) : w.cell? ⟨b, 1, none⟩ = some v := by rw [h.box.cell]; rfl
theorem Wr.ne (h : Wr w b v bs l) : v.ownBlock ≠ some b := owns_box h.own h.box (by decide)
theorem Wr.keep {F : Nat → Prop} (h : Wr w b v bs l) (ho : Only F w w') (hr : ¬ F b) (hv : ∀ g, v.ownBlock = some g → ¬ F g) : Wr w' b v bs l :=
  ⟨h.box.only ho hr, owns_only h.own ho hv, h.packs, h.small⟩
theorem Wr.nix (h : Wr w b v bs l) (ho : Only Nix w w') : Wr w' b v bs l := h.keep ho (fun e => e) (fun _ _ e => e)
theorem Wr.drewN (h : Wr w b v bs l) (n : Nat) : Wr (w.drewN n) b v bs l := h.nix ((Only.refl _ _).drewN n)
theorem Wr.alloc (h : Wr w b v bs l) (o : Obj) : Wr (w.alloc o) b v bs l := h.nix ((Only.refl _ _).alloc o)
theorem Wr.len (h : Wr w b v bs l) : bs.length ≤ 70368744177665 := by have := h.small; have := h.packs.hi; omega
end

theorem bitsOf_inj : ∀ (a b : List Nat), (∀ x ∈ a, x < 256) → (∀ x ∈ b, x < 256) → bitsOf a = bitsOf b → a = b
  | [], [], _, _, _ => rfl
  | [], y :: b, _, _, h => by have := congrArg List.length h; rw [bitsOf_len, bitsOf_len] at this; simp at this
  | x :: a, [], _, _, h => by have := congrArg List.length h; rw [bitsOf_len, bitsOf_len] at this; simp at this
  | x :: a, y :: b, ha, hb, h => by
    rw [bitsOf_cons, bitsOf_cons] at h
    obtain ⟨h1, h2⟩ := List.append_inj h (by rw [bitsN_len, bitsN_len])
    have h3 := congrArg val h1
    rw [val_bitsN, val_bitsN, Nat.mod_eq_of_lt (ha x (List.mem_cons_self ..)), Nat.mod_eq_of_lt (hb y (List.mem_cons_self ..))] at h3
    rw [h3, bitsOf_inj a b (fun z hz => ha z (List.mem_cons_of_mem _ hz)) (fun z hz => hb z (List.mem_cons_of_mem _ hz)) h2]
theorem Packs.inj {a b l : List Nat} (h : Packs a l) (k : Packs b l) : a = b := by
  have h1 := h.lo
  have h2 := h.hi
  have h3 := k.lo
  have h4 := k.hi
  refine bitsOf_inj a b h.lt k.lt ?_
  rw [h.bits, k.bits, show a.length = b.length from by omega]

theorem bits_zeros (k : Nat) : bitsOf (List.replicate k 0) = List.replicate (8 * k) 0 := by
  induction k with
  | zero => rfl
  | succ k ih =>
    rw [List.replicate_succ, bitsOf_cons, ih, show 8 * (k + 1) = 8 + 8 * k from by omega, ← List.replicate_append_replicate]
    rfl
/-- n noughts more, and as many bytes as they want -/
theorem Packs.zeros {bs l : List Nat} (h : Packs bs l) (n k : Nat) (hk : 8 * (bs.length + k) < l.length + n + 8) (hk2 : l.length + n ≤ 8 * (bs.length + k)) : Packs (bs ++ List.replicate k 0) (l ++ List.replicate n 0) := by
  have h1 := h.lo
  refine ⟨fun x hx => ?_, ?_, by simp; omega, by simp; omega⟩
  · rcases List.mem_append.1 hx with h2 | h2
    · exact h.lt x h2
    · rw [(List.mem_replicate.1 h2).2]; decide
  · rw [bitsOf_append, h.bits, bits_zeros, List.append_assoc, List.append_assoc, List.replicate_append_replicate, List.replicate_append_replicate]
    congr 2
    simp
    omega

theorem Tryd.underlying_int : Tryd.prog.underlying 3 = some (.int .i64) := by kernel_rfl

set_option maxHeartbeats 1000000 in
theorem noughts_any {w : World} {b : Nat} {v : Value} {bs l : List Nat} (h : Wr w b v bs l) (n : Nat) (hn : l.length + n ≤ 562949953421312) :
    Calls Tryd.prog 65 #[.pointer (some ⟨b, 0, none⟩), .int .i64 (n : Int)] w fun e w' => ∃ v' bs', e = .returned (.tuple #[]) ∧ Wr w' b v' bs' (l ++ List.replicate n 0) ∧ Only (WF b v) w w' ∧ Moves w.heap.size v v' := by
  have hc0 := h.cell0
  have hf0 := h.box.frozen 0
  have hlen := h.len
  obtain ⟨A, c, hv⟩ := owns_slice h.own
  obtain ⟨i0, hi, hz0, hz1, hz2⟩ := info_parts Tryd.info_byte
  go_enter Tryd.func65, Tryd.ntmps65
  go_wp2_with fail
  refine (forth_any _ l.length _ _ hc0 hf0 (by omega) (by omega)).mono ?_
  rintro e w2 ⟨rfl, rfl⟩
  generalize hw1 : w.setCell ⟨b, 0, none⟩ (.int .i64 ((l.length : Int) + (n : Int))) = w1
  have ho1 : Only (Just b) w w1 := by rw [← hw1]; exact (Only.refl (Just b) w).setCell (p := ⟨b, 0, none⟩) (.inl rfl) _
  have hb1 : Box w1 b 88 #[.int .i64 ((l.length + n : Nat) : Int), v] := by rw [← hw1]; simpa using h.box.put 0 (.int .i64 ((l.length + n : Nat) : Int))
  have hw1o : w1.ownsRow 0 5 1 v bs.length (bs.map byt) := owns_only h.own ho1 (fun g hg e => h.ne (by rw [hg]; exact congrArg some e))
  clear hw1
  have hd0 : w1.cell? ⟨b, 0, none⟩ = some (.int .i64 ((l.length + n : Nat) : Int)) := by rw [hb1.cell]; rfl
  have hd1 : w1.cell? ⟨b, 1, none⟩ = some v := by rw [hb1.cell]; rfl
  have hfr1 := hb1.frozen 1
  have hp := h.packs
  have hlo := hp.lo
  have hhi := hp.hi
  clear hc0 hf0
  generalize hL : l.length + n = L at *
  have HL := Lib.hid hL
  clear hL
  have hP := padN_le L
  obtain ⟨W, hW, hW1, hW2⟩ : ∃ W : Nat, ((L : Int) + (padN L : Int)) / 8 = (W : Int) ∧ 8 * W < L + 8 ∧ L ≤ 8 * W := ⟨(L + padN L) / 8, by omega, by omega, by unfold padN; omega⟩
  have HW := Lib.hid hW
  clear hW
  have Hpad := Lib.hid (fun u => pad_nat b L u)
  generalize padN L = P at *
  rw [hv] at hd1
  have Hv := Lib.hid hv
  clear hv
  go_wp2_with fail
  go_quiet ((go_at_call 51; exact still_at (Hpad.out _ hd0)))
  go_wp2_with fail
  rw [HW.out]
  obtain ⟨k, hk⟩ : ∃ k : Nat, W = bs.length + k := ⟨W - bs.length, by have := HL.out; omega⟩
  have hk2 : (W : Int) - (bs.length : Int) = (k : Int) := by omega
  have Hk := Lib.hid hk
  clear hk
  generalize hwd : w1.drewN nq = w2
  have hd1' : w2.cell? ⟨b, 1, none⟩ = some (.slice A bs.length c) := by rw [← hwd]; exact hd1
  have hfr1' : w2.frozen? ⟨b, 1, none⟩ = false := by rw [← hwd]; exact hfr1
  have hown2 : w2.ownsRow 0 5 1 v bs.length (bs.map byt) := by rw [← hwd]; exact hw1o
  have hb2 : Box w2 b 88 #[.int .i64 (L : Int), v] := by rw [← hwd]; exact hb1
  have ho2 : Only (Just b) w w2 := by rw [← hwd]; exact ho1.drewN nq
  have hown := Lib.hid hown2
  clear hd0 hd1 hfr1 hw1o hb1 ho1 hwd hown2 Hpad
  have hkb : (bs.length + k) * 1 ≤ 140737488355328 := by have := Hk.out; omega
  have hkm : bs.length + k ≤ maxLen := by unfold maxLen; omega
  have hne := h.ne
  have hwk := Lib.hid (wraps_i64 (k : Int) (by omega) (by have := Hk.out; omega))
  go_region_law (refine step_append_own_zeros rfl (.tmp 25) (.tmp 32) 28 3 rfl 0 5 i0 (.int .u8 0) 1 .i64 .i64 Tryd.underlying28 Tryd.underlying_int hi hz0 hz1 hz2 rfl rfl v bs.length (bs.map byt) (by simp [Act.eval, Act.put, Hv.out]) k (by simp [Act.eval, Act.put]; exact hwk.out) hown.out hkm hkb (Nat.zero_le _) ?_; intro v' w3 hm; have hb3 := hb2.drew.grown hm.2.1 hne; have hfr3 := hb3.frozen 1; have hd3 := hb3.cell 1; obtain ⟨A', c', hv'⟩ := owns_slice hm.1; subst hv'; have HM := Lib.hid hm; clear hm; simp only [List.getElem?_toArray, List.getElem?_cons_succ, List.getElem?_cons_zero] at hd3)
  all_goals
    go_end0
    obtain ⟨m1, m2, m3⟩ := HM.out
    have hL := HL.out
    have hk := Hk.out
    have hWF : Only (WF b v) w w3 := ((ho2.mono (fun i e => Or.inl e)).drew).grown m2 (fun g e => .inl (.inr e))
    have hso : ∀ x, (w3.setCell ⟨b, 1, none⟩ x).ownsRow 0 5 1 (.slice A' (bs.length + k) c') (bs.length + k) (bs.map byt ++ List.replicate k (.int .u8 0)) := fun x => by
      refine owns_only m1 ((Only.refl (Just b) w3).setCell (p := ⟨b, 1, none⟩) (.inl rfl) _) (fun g hg e => ?_)
      exact owns_box m1 hb3 (by decide) (by rw [hg]; exact congrArg some e)
    refine ⟨.slice A' (bs.length + k) c', bs ++ List.replicate k 0, rfl, ⟨?_, ?_, ?_, ?_⟩, ?_, ?_⟩
    · have h1 := hb3.put 1 (.slice A' (bs.length + k) c')
      rw [List.length_append, List.length_replicate, hL]
      simpa using h1
    · have h1 := hso (.slice A' (bs.length + k) c')
      rw [List.length_append, List.length_replicate, List.map_append, List.map_replicate]
      exact h1
    · exact hp.zeros n k (by omega) (by omega)
    · rw [List.length_append, List.length_replicate]; omega
    · exact hWF.setCell (p := ⟨b, 1, none⟩) (.inl (.inl rfl)) _
    · intro g hg
      rcases m3 with m3 | m3
      · exact .inl (by rw [← m3]; exact hg)
      · refine .inr ?_
        have h1 := ho2.size
        rw [hg] at m3
        have h2 : g = w2.heap.size := by simpa using m3
        omega
end Go.Proofs.YteahiigfclabfaaDoor

namespace Go.Proofs.YteahiigfclabfaaDoor
open Go.RowKit

theorem val_zeros (k : Nat) : val (List.replicate k 0) = 0 := by
  induction k with
  | zero => rfl
  | succ k ih => rw [List.replicate_succ, val_cons, ih]; simp
theorem bitsOf_set (bs : List Nat) (i y : Nat) (h : i < bs.length) : bitsOf (bs.set i y) = bitsOf (bs.take i) ++ (bitsN 8 y ++ bitsOf (bs.drop (i + 1))) := by
  have h1 := bitsOf_split (bs.set i y) i (by simpa using h)
  rw [h1, List.getElem_set_self, List.take_set_of_le (Nat.le_refl _), List.drop_set_of_lt (by omega)]

/-- the byte in which the noughts begin -/
theorem byte_at (bs L : List Nat) (z : Nat) (hb : bitsOf bs = L ++ List.replicate z 0) (hp : L.length / 8 < bs.length) (hlt : ∀ x ∈ bs, x < 256) :
    ∃ B : List Nat, L = bitsOf (bs.take (L.length / 8)) ++ B ∧ B.length = L.length % 8 ∧ (∀ x ∈ B, x ≤ 1) ∧ bitsN 8 bs[L.length / 8] = B ++ List.replicate (8 - L.length % 8) 0 ∧
      bs[L.length / 8] = val B * 2 ^ (8 - L.length % 8) ∧ bitsOf (bs.drop (L.length / 8 + 1)) = List.replicate (z - (8 - L.length % 8)) 0 := by
  have hl := bitsOf_len bs
  have hz : 8 * bs.length = L.length + z := by rw [← hl, hb, List.length_append, List.length_replicate]
  have hA : (bitsOf (bs.take (L.length / 8))).length = 8 * (L.length / 8) := by rw [bitsOf_len, List.length_take]; omega
  have hs := bitsOf_split bs _ hp
  have hx := hlt _ (List.getElem_mem hp)
  rw [hb] at hs
  generalize hAe : bitsOf (bs.take (L.length / 8)) = A at *
  generalize bs[L.length / 8] = x at *
  generalize bitsOf (bs.drop (L.length / 8 + 1)) = C at *
  have hL1 : L = A ++ L.drop A.length := by
    have h1 : (L ++ List.replicate z 0).take A.length = A := by rw [hs, List.take_left]
    rw [List.take_append, show A.length - L.length = 0 from by omega, List.take_zero, List.append_nil] at h1
    calc L = L.take A.length ++ L.drop A.length := (List.take_append_drop _ _).symm
      _ = A ++ L.drop A.length := by rw [h1]
  have hBl : (L.drop A.length).length = L.length % 8 := by rw [List.length_drop]; omega
  have h2 : bitsN 8 x ++ C = L.drop A.length ++ List.replicate z 0 := by
    have h1 : (L ++ List.replicate z 0).drop A.length = bitsN 8 x ++ C := by rw [hs, List.drop_left]
    rw [← h1, List.drop_append, show A.length - L.length = 0 from by omega, List.drop_zero]
  have h3 : bitsN 8 x = L.drop A.length ++ List.replicate (8 - L.length % 8) 0 := by
    have h1 : (bitsN 8 x ++ C).take 8 = bitsN 8 x := List.take_left' (bitsN_len 8 x)
    rw [← h1, h2, List.take_append, hBl, List.take_of_length_le (by omega), List.take_replicate, Nat.min_eq_left (by omega)]
  have h4 : C = List.replicate (z - (8 - L.length % 8)) 0 := by
    have h1 : (bitsN 8 x ++ C).drop 8 = C := List.drop_left' (bitsN_len 8 x)
    rw [← h1, h2, List.drop_append, hBl, List.drop_of_length_le (by omega), List.nil_append, List.drop_replicate]
  refine ⟨L.drop A.length, hL1, hBl, fun y hy => ?_, h3, ?_, h4⟩
  · exact bitsN_le 8 x y (by rw [h3]; exact List.mem_append_left _ hy)
  · have h5 := val_bitsN 8 x
    rw [h3, val_append, val_zeros, List.length_replicate, Nat.add_zero, Nat.mod_eq_of_lt hx] at h5
    exact h5.symm

/-- m bits, the number X, laid over noughts: those of the byte in which they begin -/
theorem lay_bits (bs L : List Nat) (z m b X : Nat) (hb : bitsOf bs = L ++ List.replicate z 0) (hp : L.length / 8 < bs.length) (hlt : ∀ x ∈ bs, x < 256) (hm : m + b = 8 - L.length % 8) (hX : X < 2 ^ m) :
    bs[L.length / 8] ||| (X * 2 ^ b) < 256 ∧ X * 2 ^ b < 256 ∧
      bitsOf (bs.set (L.length / 8) (bs[L.length / 8] ||| (X * 2 ^ b))) = (L ++ bitsN m X) ++ List.replicate (z - m) 0 := by
  obtain ⟨B, h1, h2, h3, h4, h5, h6⟩ := byte_at bs L z hb hp hlt
  have hl := bitsOf_len bs
  have hz : 8 * bs.length = L.length + z := by rw [← hl, hb, List.length_append, List.length_replicate]
  have hxl := hlt _ (List.getElem_mem hp)
  have hpow : 2 ^ (8 - L.length % 8) = 2 ^ m * 2 ^ b := by rw [← hm, Nat.pow_add]
  have hXb : X * 2 ^ b < 2 ^ (8 - L.length % 8) := by
    rw [hpow]; exact Nat.mul_lt_mul_of_pos_right hX (Nat.two_pow_pos b)
  have h8 : 2 ^ (8 - L.length % 8) ≤ 2 ^ 8 := Nat.pow_le_pow_right (by decide) (by omega)
  have hor : bs[L.length / 8] ||| (X * 2 ^ b) = bs[L.length / 8] + X * 2 ^ b := nat_join (8 - L.length % 8) _ _ (by rw [h5]; exact Nat.mul_mod_left _ _) hXb
  have hTl : (B ++ (bitsN m X ++ List.replicate b 0)).length = 8 := by simp [bitsN_len]; omega
  have hTle : ∀ y ∈ B ++ (bitsN m X ++ List.replicate b 0), y ≤ 1 := by
    intro y hy
    rcases List.mem_append.1 hy with hy | hy
    · exact h3 y hy
    · rcases List.mem_append.1 hy with hy | hy
      · exact bitsN_le m X y hy
      · rw [(List.mem_replicate.1 hy).2]; decide
  have hTv : val (B ++ (bitsN m X ++ List.replicate b 0)) = bs[L.length / 8] + X * 2 ^ b := by
    rw [val_append, val_append, val_bitsN, val_zeros, Nat.mod_eq_of_lt hX, h5, hpow, List.length_append, bitsN_len, List.length_replicate, Nat.pow_add, Nat.add_zero]
  have hT := bitsN_val _ hTle
  rw [hTl, hTv] at hT
  have hlt2 : bs[L.length / 8] + X * 2 ^ b < 256 := by
    have := val_lt _ hTle
    rw [hTl, hTv] at this
    exact this
  refine ⟨by rw [hor]; exact hlt2, by omega, ?_⟩
  rw [bitsOf_set bs _ _ hp, hor, hT, h6]
  conv => rhs; rw [h1]
  simp only [List.append_assoc, List.replicate_append_replicate]
  congr 4
  have : L.length = (bitsOf (bs.take (L.length / 8)) ++ B).length := by rw [← h1]
  omega

/-- the last m bits of any int -/
theorem i64_low (x : Int) (m : Nat) (hm : m ≤ 61) : bits .and .i64 x (wrap64 (wrap64 ((2 : Int) ^ m) - 1)) = x % 2 ^ m := by
  have h := pow_le_of hm
  have h0 : 0 < 2 ^ m := Nat.two_pow_pos m
  rw [w64_mask m hm]
  have hmask : (2 ^ m - 1) % 2 ^ IntKind.i64.bits = 2 ^ m - 1 := Nat.mod_eq_of_lt (by show _ < 2 ^ 64; omega)
  simp only [bits, BitVec.ofInt_natCast, BitVec.toNat_and, BitVec.toNat_ofNat, BitVec.toNat_ofInt, hmask, Nat.and_two_pow_sub_one_eq_mod]
  have e1 : ((x % ((2 ^ IntKind.i64.bits : Nat) : Int)).toNat % 2 ^ m : Nat) = ((x % 2 ^ m).toNat : Nat) := by
    have hp : (0 : Int) < ((2 ^ IntKind.i64.bits : Nat) : Int) := by decide
    have h1 : 0 ≤ x % ((2 ^ IntKind.i64.bits : Nat) : Int) := Int.emod_nonneg _ (by omega)
    have hd : ((2 ^ m : Nat) : Int) ∣ ((2 ^ IntKind.i64.bits : Nat) : Int) := Int.natCast_dvd_natCast.2 (Nat.pow_dvd_pow 2 (by show m ≤ 64; omega))
    have h2 : ((x % ((2 ^ IntKind.i64.bits : Nat) : Int)) % ((2 ^ m : Nat) : Int)) = x % ((2 ^ m : Nat) : Int) := Int.emod_emod_of_dvd x hd
    rw [pow_cast, ← h2]
    obtain ⟨c, hc⟩ := Int.eq_ofNat_of_zero_le h1
    rw [hc, Int.toNat_natCast, ← Int.natCast_emod, Int.toNat_natCast]
  rw [e1]
  have h3 : 0 ≤ x % 2 ^ m := Int.emod_nonneg _ (by rw [pow_cast]; omega)
  have h4 : x % 2 ^ m < 2 ^ m := Int.emod_lt_of_pos _ (by rw [pow_cast]; omega)
  rw [pow_cast] at h3 h4 ⊢
  generalize x % ((2 ^ m : Nat) : Int) = r at *
  generalize 2 ^ m = P at *
  rw [Int.toNat_of_nonneg h3]
  exact wraps_i64 r h3 (by omega)

/-- a piece of an int's last n bits -/
theorem int_piece (x : Int) (n q m : Nat) (h : q + m ≤ n) : (x / 2 ^ q) % 2 ^ m = (((x % 2 ^ n).toNat / 2 ^ q % 2 ^ m : Nat) : Int) := by
  obtain ⟨r, rfl⟩ := Nat.exists_eq_add_of_le h
  have hp : (0 : Int) < 2 ^ (q + m + r) := by rw [pow_cast]; have := Nat.two_pow_pos (q + m + r); omega
  have hq : (0 : Int) < 2 ^ q := by rw [pow_cast]; have := Nat.two_pow_pos q; omega
  have h1 : 0 ≤ x % 2 ^ (q + m + r) := Int.emod_nonneg _ (by omega)
  have h2 := Int.emod_add_mul_ediv x (2 ^ (q + m + r))
  generalize hU : x % 2 ^ (q + m + r) = U at *
  generalize x / 2 ^ (q + m + r) = t at *
  obtain ⟨u, rfl⟩ := Int.eq_ofNat_of_zero_le h1
  have e1 : x / 2 ^ q = (u : Int) / 2 ^ q + 2 ^ m * (2 ^ r * t) := by
    rw [← h2, Int.pow_add, Int.pow_add, Int.mul_assoc, Int.mul_assoc, Int.add_mul_ediv_left _ _ (by omega)]
  rw [e1, Int.add_mul_emod_self_left, Int.toNat_natCast, pow_cast, pow_cast, ← Int.natCast_ediv, ← Int.natCast_emod]

/-- one step of writing -/
theorem write_step (x : Int) (n q m b y : Nat) (h : q + m ≤ n) (hm : m ≤ 8) (hy : y < 256) (hX : (x % 2 ^ n).toNat / 2 ^ q % 2 ^ m * 2 ^ b < 256) :
    bits .or .u8 (y : Int) (wrap64 (bits .and .i64 (x / 2 ^ q) (wrap64 (wrap64 ((2 : Int) ^ m) - 1)) * 2 ^ b) % 256) = ((y ||| ((x % 2 ^ n).toNat / 2 ^ q % 2 ^ m * 2 ^ b) : Nat) : Int) := by
  rw [i64_low _ m (by omega), int_piece x n q m h, pow_cast b, ← Int.natCast_mul]
  generalize (x % 2 ^ n).toNat / 2 ^ q % 2 ^ m * 2 ^ b = Z at *
  have e : wrap64 (Z : Int) % 256 = (Z : Int) := by rw [w64 _ (by omega) (by omega)]; omega
  rw [e, u8_or_nat y Z hy hX]
end Go.Proofs.YteahiigfclabfaaDoor

namespace Go.Proofs.YteahiigfclabfaaDoor
open Go.RowKit

/-- a round's head: k bits are written, q are left -/
def NumRel (w : World) (b : Nat) (v0 v : Value) (N : Nat) (l : List Nat) (n U : Nat) (s1 : Value) (wr : World) : Prop :=
  ∃ (k q : Nat) (bs : List Nat), k + q = n ∧ s1 = .int .i64 (q : Int) ∧ bs.length = N ∧ Box wr w.heap.size 86 #[.int .i64 ((l.length + k : Nat) : Int)] ∧
    Box wr b 88 #[.int .i64 ((l.length + n : Nat) : Int), v] ∧ wr.ownsRow 0 5 1 v N (bs.map byt) ∧ (∀ x ∈ bs, x < 256) ∧
    bitsOf bs = (l ++ bitsN k (U / 2 ^ q)) ++ List.replicate (8 * N - l.length - k) 0 ∧ Only (WF b v0) w wr

set_option maxHeartbeats 2000000 in
theorem number_any {w : World} {b : Nat} {v0 : Value} {bs0 l : List Nat} (h : Wr w b v0 bs0 l) (n : Nat) (x : Int) (hn : n ≤ 48) (hl : l.length + n ≤ 562949953421312) :
    Calls Tryd.prog 48 #[.pointer (some ⟨b, 0, none⟩), .int .i64 (n : Int), .int .i64 x] w fun e w' => ∃ v' bs', e = .returned (.tuple #[]) ∧ Wr w' b v' bs' (l ++ bitsN n (x % 2 ^ n).toNat) ∧ Only (WF b v0) w w' ∧ Moves w.heap.size v0 v' := by
  have hc0 := h.cell0
  have hbl := h.box.lt
  go_enter Tryd.func48, Tryd.ntmps48
  go_wp2_with fail
  refine (noughts_any (h.alloc _) n hl).mono ?_
  rintro e w1 ⟨v, bs, rfl, hW, ho, hmv⟩
  have hsz := ho.size
  have hpb : Box w1 w.heap.size 86 #[.int .i64 (l.length : Int)] := by
    refine (Box.new w _ _).only ho ?_
    rintro (e | e)
    · omega
    · have := owns_lt h.own e; omega
  have how : Only (WF b v0) w w1 := ((Only.refl _ w).alloc _).trans ho
  have hmv' : Moves w.heap.size v0 v := fun g hg => by
    rcases hmv g hg with h1 | h1
    · exact .inl h1
    · simp at h1; exact .inr (by omega)
  have hlen := hW.len
  have hP0 := hW.packs
  have hN1 := hP0.lo
  have hN2 := hP0.hi
  rw [List.length_append, List.length_replicate] at hN1 hN2
  generalize hNe : bs.length = N at *
  generalize hUe : (x % 2 ^ n).toNat = U at *
  have HNe := Lib.hid hNe
  have HUe := Lib.hid hUe
  clear hNe hUe
  clear hc0
  go_wp2_with fail
  go_loopw [1] (fun s1 wr => NumRel w b v0 v N l n U s1 wr) (fun s1 _ => (intOf s1).toNat)
  case atStart =>
    have hw1 := hW.own
    have hw2 := hW.box
    have hbt := hP0.bits
    rw [HNe.out] at hw1 hbt
    rw [List.length_append, List.length_replicate] at hw2 hbt
    refine ⟨0, n, bs, by omega, rfl, HNe.out, hpb, hw2, hw1, hP0.lt, ?_, how⟩
    rw [hbt, List.append_assoc, List.replicate_append_replicate]
    simp only [bitsN, List.append_nil]
    congr 2
    omega
  case round =>
    clear hW how hpb hP0 HNe hsz ho bs
    obtain ⟨k, q, bs, hkq, rfl, hNe, hpb, hbx, hown, hlt, hbits, how⟩ := hrel
    have hsz := how.size
    have hq48 : q ≤ 48 := by omega
    by_cases hq : 0 < q
    · obtain ⟨g, c, hv⟩ : ∃ g c, v = .slice (some ⟨g, 0, none⟩) N c := by
        rcases hown.2 with ⟨_, hn⟩ | ⟨g, cap, cur, hv, _⟩
        · omega
        · exact ⟨g, cap, hv⟩
      subst hv
      have hix : (l.length + k) / 8 < bs.length := by omega
      have hgne : g ≠ b := fun e => owns_box hown hbx (by decide) (by simp [Value.ownBlock, e])
      have hgnp : g ≠ w.heap.size := fun e => owns_box hown hpb (by decide) (by simp [Value.ownBlock, e])
      have hgl : g < wr.heap.size := owns_lt hown (by simp [Value.ownBlock])
      have hpc := hpb.cell 0
      have hpf := hpb.frozen 0
      have hd1 := hbx.cell 1
      simp only [List.getElem?_toArray, List.getElem?_cons_zero, List.getElem?_cons_succ] at hpc hd1
      have hy := hown.cellAt ((l.length + k) / 8) (by omega)
      rw [List.getElem?_map, List.getElem?_eq_getElem hix] at hy
      have hyf := hown.frozenAt ((l.length + k) / 8)
      simp only [Option.map_some, byt] at hy
      have hylt := hlt _ (List.getElem_mem hix)
      have Hbits := Lib.hid hbits
      have Hlt := Lib.hid hlt
      have Hkq := Lib.hid hkq
      have HNe := Lib.hid hNe
      have Hown := Lib.hid hown
      generalize hPe : l.length + k = P at *
      have HPe := Lib.hid hPe
      generalize hye : bs[P / 8] = y at *
      have Hye := Lib.hid hye
      have hP2 : P ≤ 1125899906842624 := by omega
      have hix2 : (P : Int) / 8 < (N : Int) := by omega
      clear hbits hlt hkq hNe hown hPe hye
      go_wp2_with fail
      refine (share_nat _ _ _ _ hpc).mono ?_
      rintro e w2 ⟨m, bb, ⟨hm1, hm2, hm3⟩, rfl, rfl⟩
      obtain ⟨q', hq'⟩ : ∃ q' : Nat, q = m + q' := ⟨q - m, by omega⟩
      have hwq : wrap64 ((q : Int) - (m : Int)) = (q' : Int) := by rw [w64 _ (by omega) (by omega)]; omega
      have hm8 : m ≤ 8 := by omega
      have hbb8 : bb ≤ 8 := by omega
      have Hq' := Lib.hid hq'
      have Hm2 := Lib.hid hm2
      have Hm3 := Lib.hid hm3
      clear hq' hm2 hm3
      go_wp2_with fail
      go_region
      go_wp2_with fail
      have hq' := Hq'.out
      have hm2 := Hm2.out
      have hkq := Hkq.out
      have hPe := HPe.out
      have hNe := HNe.out
      have hLl : (l ++ bitsN k (U / 2 ^ q)).length = P := by rw [List.length_append, bitsN_len]; exact hPe
      have hXl : U / 2 ^ q' % 2 ^ m < 2 ^ m := Nat.mod_lt _ (Nat.two_pow_pos m)
      have hlay := lay_bits bs (l ++ bitsN k (U / 2 ^ q)) _ m bb (U / 2 ^ q' % 2 ^ m) Hbits.out (by rw [hLl]; omega) Hlt.out (by rw [hLl]; exact hm2) hXl
      simp only [hLl] at hlay
      rw [Hye.out] at hlay
      obtain ⟨hl1, hl2, hl3⟩ := hlay
      have hst := write_step x n q' m bb y (by omega) hm8 hylt (by rw [HUe.out]; exact hl2)
      rw [HUe.out] at hst
      rw [show q - m = q' from by omega, hst]
      generalize hYe : y ||| U / 2 ^ q' % 2 ^ m * 2 ^ bb = Y at *
      have hcs : (wr.setCell ⟨g, P / 8, none⟩ (.int .u8 (Y : Int))).drew.cell? ⟨w.heap.size, 0, none⟩ = some (.int .i64 (P : Int)) := by
        have := ((hpb.off (p := ⟨g, P / 8, none⟩) (fun e => hgnp e.symm) (.int .u8 (Y : Int))).drew).cell 0
        simpa using this
      have hcf : (wr.setCell ⟨g, P / 8, none⟩ (.int .u8 (Y : Int))).drew.frozen? ⟨w.heap.size, 0, none⟩ = false :=
        ((hpb.off (p := ⟨g, P / 8, none⟩) (fun e => hgnp e.symm) (.int .u8 (Y : Int))).drew).frozen 0
      refine (forth_any _ P _ _ hcs hcf (by omega) (by omega)).mono ?_
      rintro e w3 ⟨rfl, rfl⟩
      have Hst := Lib.hid (And.intro hl1 hl3)
      have Hqm := Lib.hid (And.intro hq' (And.intro hm2 (And.intro hkq (And.intro hPe hNe))))
      clear hst hl1 hl2 hl3 hXl hLl hq' hm2 hkq hPe hNe hYe hcs hcf
      go_wp2
      obtain ⟨hq', hm2, hkq, hPe, hNe⟩ := Hqm.out
      obtain ⟨hl1, hl3⟩ := Hst.out
      have hsw : (q : Int) - (m : Int) = (q' : Int) := by omega
      rw [hsw]
      have hstored := (Hown.out).stored (P / 8) (.int .u8 (Y : Int))
      refine ⟨⟨k + m, q', bs.set (P / 8) Y, by omega, rfl, by rw [List.length_set]; exact hNe, ?_, ?_, ?_, ?_, ?_, ?_⟩, ?_⟩
      · have h1 := ((hpb.off (p := ⟨g, P / 8, none⟩) (fun e => hgnp e.symm) (.int .u8 (Y : Int))).put 0 (.int .i64 ((l.length + (k + m) : Nat) : Int))).drew
        rw [show ((l.length + (k + m) : Nat) : Int) = (P : Int) + (m : Int) from by omega] at h1 ⊢
        simpa using h1
      · exact (((hbx.off (p := ⟨g, P / 8, none⟩) (fun e => hgne e.symm) (.int .u8 (Y : Int))).drew).off (p := ⟨w.heap.size, 0, none⟩) (by show b ≠ w.heap.size; omega) _)
      · have h1 := hstored.1
        rw [show (bs.map byt).set (P / 8) (.int .u8 (Y : Int)) = (bs.set (P / 8) Y).map byt from by rw [List.map_set]; rfl] at h1
        exact owns_only (F := Just w.heap.size) h1 (((Only.refl (Just w.heap.size) _).drew).setCell (p := ⟨w.heap.size, 0, none⟩) (.inl rfl) _) (fun i hi e => hgnp (by simp [Value.ownBlock] at hi; rw [hi]; exact e))
      · intro z hz
        rcases List.mem_or_eq_of_mem_set hz with h1 | h1
        · exact Hlt.out z h1
        · rw [h1]; exact hl1
      · rw [hl3, show k + m = k + m from rfl, bitsN_add, Nat.div_div_eq_div_mul, ← Nat.pow_add, show q' + m = q from by omega, bitsN_mod m _ m (Nat.le_refl _), List.append_assoc l]
        congr 2
        omega
      · refine ((how.setCell (p := ⟨g, P / 8, none⟩) ?_ _).drew).setCell (p := ⟨w.heap.size, 0, none⟩) (.inr (Nat.le_refl _)) _
        rcases hmv' g (by simp [Value.ownBlock]) with h1 | h1
        · exact .inl (.inr h1)
        · exact .inr h1
      · have hm3 := Hm3.out; simp [intOf]; omega
    · go_wp2
      go_end0
      obtain rfl : q = 0 := by omega
      obtain rfl : k = n := by omega
      refine ⟨v, bs, rfl, ⟨?_, ?_, ⟨hlt, ?_, ?_, ?_⟩, ?_⟩, how, hmv'⟩
      · rw [List.length_append, bitsN_len]; exact hbx
      · rw [hNe]; exact hown
      · rw [hbits, Nat.pow_zero, Nat.div_one, HUe.out, List.length_append, bitsN_len, hNe, Nat.sub_sub]
      · rw [List.length_append, bitsN_len, hNe]; exact hN1
      · rw [List.length_append, bitsN_len, hNe]; exact hN2
      · rw [List.length_append, bitsN_len]; exact hl
end Go.Proofs.YteahiigfclabfaaDoor

namespace Go.Proofs.YteahiigfclabfaaDoor
open Go.RowKit

/-- the Writer has these bits then; nothing else has turned but its own blocks -/
def WrTo (w : World) (b : Nat) (v : Value) (l' : List Nat) (w' : World) : Prop := ∃ v' bs', Wr w' b v' bs' l' ∧ Only (WF b v) w w' ∧ Moves w.heap.size v v'
theorem WrTo.same {w w' : World} {b : Nat} {v : Value} {bs l : List Nat} (h : Wr w b v bs l) (he : w = w') : WrTo w b v l w' := by
  subst he
  exact ⟨v, bs, h, Only.refl _ _, Moves.refl _ _⟩
theorem WrTo.of {a b c : World} {k : Nat} {v v1 : Value} {l' : List Nat} (h2 : Only (WF k v) a b) (h3 : Moves a.heap.size v v1) (h : WrTo b k v1 l' c) : WrTo a k v l' c := by
  obtain ⟨v2, bs2, k1, k2, k3⟩ := h
  refine ⟨v2, bs2, k1, h2.then k2 ?_, h3.trans k3 h2.size⟩
  rintro i (e | e)
  · exact .inl (.inl e)
  · exact (h3 i e).imp .inr id

/-- Put's error, and the bits then -/
def putE (n x : Int) : Int := if n < 0 ∨ 48 < n then 1 else if x < 0 ∨ (2 : Int) ^ n.toNat ≤ x then 10 else 0
def putL (l : List Nat) (n x : Int) : List Nat := if putE n x = 0 then l ++ bitsN n.toNat x.toNat else l
/-- Signed's -/
def isS (n : Nat) (x : Int) : Prop := if n = 0 then x = 0 else -((2 : Int) ^ (n - 1)) ≤ x ∧ x < (2 : Int) ^ (n - 1)
instance (n : Nat) (x : Int) : Decidable (isS n x) := by unfold isS; exact inferInstance
def sgnE (n x : Int) : Int := if n < 0 ∨ 48 < n then 1 else if isS n.toNat x then 0 else 10
def sgnL (l : List Nat) (n x : Int) : List Nat := if sgnE n x = 0 then l ++ bitsN n.toNat (x % 2 ^ n.toNat).toNat else l
/-- Unary's -/
def unE (x : Int) : Int := if x < 0 ∨ 65536 < x then 10 else 0
def unL (l : List Nat) (x : Int) : List Nat := if unE x = 0 then (l ++ List.replicate x.toNat 0) ++ [1] else l

section
variable {w : World} {b : Nat} {v : Value} {bs l : List Nat}

set_option maxHeartbeats 400000 in
theorem newWriter_any (w : World) :
    Calls Tryd.prog 24 #[] w fun e w' => e = .returned (.pointer (some ⟨w.heap.size, 0, none⟩)) ∧ Wr w' w.heap.size (.slice none 0 0) [] [] ∧ Only Nix w w' := by
  go_enter Tryd.func24, Tryd.ntmps24
  go_wp2
  go_ret
  exact ⟨rfl, ⟨Box.new _ _ _, World.ownsRow_nil _ _ _ _, ⟨by simp, rfl, by simp, by simp⟩, by simp⟩, (Only.refl _ _).alloc _⟩

set_option maxHeartbeats 400000 in
theorem put_arg (b : Nat) (w : World) (n x : Int) (hn : n < 0 ∨ 48 < n) :
    Calls Tryd.prog 25 #[.pointer (some ⟨b, 0, none⟩), .int .i64 n, .int .i64 x] w fun e w' => e = .returned (.int .i64 1) ∧ w = w' := by
  go_enter Tryd.func25, Tryd.ntmps25
  go_wp2_with fail
  refine (maybe_no _ _ hn).mono ?_
  rintro e w1 ⟨rfl, rfl⟩
  go_wp2
  go_ret
  exact ⟨rfl, rfl⟩

set_option maxHeartbeats 400000 in
theorem put_range (b : Nat) (w : World) (n : Nat) (x : Int) (hn : n ≤ 48) (hx : x < 0 ∨ ((2 ^ n : Nat) : Int) ≤ x) :
    Calls Tryd.prog 25 #[.pointer (some ⟨b, 0, none⟩), .int .i64 (n : Int), .int .i64 x] w fun e w' => e = .returned (.int .i64 10) ∧ w = w' := by
  have hp := w64_pow n (by omega)
  by_cases h0 : x < 0
  · have hd : decide (x < 0) = true := by simpa using h0
    go_enter Tryd.func25, Tryd.ntmps25
    go_wp2_with fail
    refine (maybe_yes _ _ (by omega) (by omega)).mono ?_
    rintro e w1 ⟨rfl, rfl⟩
    go_wp2
    go_ret
    exact ⟨rfl, rfl⟩
  · have hd : decide (x < 0) = false := by simpa using h0
    have h1 : wrap64 ((2 : Int) ^ n) ≤ x := by rw [hp]; omega
    clear hp
    go_enter Tryd.func25, Tryd.ntmps25
    go_wp2_with fail
    refine (maybe_yes _ _ (by omega) (by omega)).mono ?_
    rintro e w1 ⟨rfl, rfl⟩
    go_wp2
    go_ret
    exact ⟨rfl, rfl⟩

set_option maxHeartbeats 400000 in
theorem put_ok (h : Wr w b v bs l) (hl : l.length ≤ 281474976710656) (n : Nat) (x : Int) (hn : n ≤ 48) (hx0 : 0 ≤ x) (hx : x < ((2 ^ n : Nat) : Int)) :
    Calls Tryd.prog 25 #[.pointer (some ⟨b, 0, none⟩), .int .i64 (n : Int), .int .i64 x] w fun e w' => e = .returned (.int .i64 0) ∧ WrTo w b v (l ++ bitsN n (x % 2 ^ n).toNat) w' := by
  have hp := w64_pow n (by omega)
  have hd : decide (x < 0) = false := by simp; omega
  have h1 : ¬ wrap64 ((2 : Int) ^ n) ≤ x := by rw [hp]; omega
  have hd2 : decide (wrap64 ((2 : Int) ^ n) ≤ x) = false := by simpa using h1
  have Hn := Lib.hid (number_any h n x hn (by omega))
  clear hp h1
  go_enter Tryd.func25, Tryd.ntmps25
  go_wp2_with fail
  refine (maybe_yes _ _ (by omega) (by omega)).mono ?_
  rintro e w1 ⟨rfl, rfl⟩
  go_wp2_with fail
  refine (Hn.out).mono ?_
  rintro e w1 ⟨v', bs', rfl, hw⟩
  go_wp2
  go_ret
  exact ⟨rfl, v', bs', hw⟩

theorem put_any (h : Wr w b v bs l) (hl : l.length ≤ 281474976710656) (n x : Int) :
    Calls Tryd.prog 25 #[.pointer (some ⟨b, 0, none⟩), .int .i64 n, .int .i64 x] w fun e w' => e = .returned (.int .i64 (putE n x)) ∧ WrTo w b v (putL l n x) w' := by
  by_cases hn : n < 0 ∨ 48 < n
  · have e1 : putE n x = 1 := by unfold putE; rw [if_pos hn]
    have e2 : putL l n x = l := by unfold putL; rw [e1]; rfl
    rw [e1, e2]
    exact (put_arg b w n x hn).mono fun e w' hh => ⟨hh.1, WrTo.same h hh.2⟩
  · obtain ⟨m, rfl⟩ := Int.eq_ofNat_of_zero_le (show 0 ≤ n by omega)
    by_cases hx : x < 0 ∨ ((2 ^ m : Nat) : Int) ≤ x
    · have e1 : putE (m : Int) x = 10 := by unfold putE; rw [if_neg hn, Int.toNat_natCast, pow_cast, if_pos hx]
      have e2 : putL l (m : Int) x = l := by unfold putL; rw [e1]; rfl
      rw [e1, e2]
      exact (put_range b w m x (by omega) hx).mono fun e w' hh => ⟨hh.1, WrTo.same h hh.2⟩
    · have e1 : putE (m : Int) x = 0 := by unfold putE; rw [if_neg hn, Int.toNat_natCast, pow_cast, if_neg hx]
      have e2 : putL l (m : Int) x = l ++ bitsN m (x % 2 ^ m).toNat := by
        unfold putL
        rw [e1, if_pos rfl, Int.toNat_natCast, pow_cast, Int.emod_eq_of_lt (by omega) (by omega)]
      rw [e1, e2]
      exact put_ok h hl m x (by omega) (by omega) (by omega)

end
end Go.Proofs.YteahiigfclabfaaDoor

namespace Go.Proofs.YteahiigfclabfaaDoor
open Go.RowKit

section
variable {w : World} {b : Nat} {v : Value} {bs l : List Nat}

set_option maxHeartbeats 400000 in
theorem bytes_any (h : Wr w b v bs l) :
    Calls Tryd.prog 31 #[.pointer (some ⟨b, 0, none⟩)] w fun e w' => ∃ v', e = .returned v' ∧ w'.ownsRow w.heap.size 5 1 v' bs.length (bs.map byt) ∧ Only Nix w w' := by
  have hc := h.cell1
  have hlen := h.len
  have Hc := Lib.hid (clone_any (Src.of_owns h.own (by omega)))
  obtain ⟨A, c, hv⟩ := owns_slice h.own
  rw [hv] at hc Hc
  clear hv
  go_enter Tryd.func31, Tryd.ntmps31
  go_wp2_with fail
  refine (Hc.out).mono ?_
  rintro e w1 ⟨v', rfl, hw⟩
  go_wp2
  go_ret
  exact ⟨v', rfl, hw⟩
end
end Go.Proofs.YteahiigfclabfaaDoor

namespace Go.Proofs.YteahiigfclabfaaDoor
open Go.RowKit

/-- The slice v0 holds these lists of bytes, none of them empty, in every world in which no other blocks than F's have turned. -/
def Lists (w : World) (F : Nat → Prop) (v0 : Value) (ll : List (List Nat)) : Prop :=
  ∃ A c, v0 = .slice A ll.length c ∧ ∀ j, (hj : j < ll.length) → ∃ g off ad c', A = some ⟨g, off, none⟩ ∧ 0 < ll[j].length ∧ ll[j].length ≤ 1048576 ∧ (∀ x ∈ ll[j], x < 256) ∧
    ∀ w', Only F w w' → w'.cell? ⟨g, off + j, none⟩ = some (.slice (some ad) ll[j].length c') ∧ ∀ k u, (ll[j].map byt)[k]? = some u → w'.cell? (ad.add k) = some u

def AppRel (w : World) (b : Nat) (v : Value) (L : List Nat) (ll : List (List Nat)) (s12 : Value) (wr : World) : Prop :=
  ∃ i : Nat, i ≤ ll.length ∧ s12 = iv i ∧ WrTo w b v (L ++ bitsOf (ll.take i).flatten) wr
def AppIn (w : World) (b : Nat) (v : Value) (L m : List Nat) (s39 : Value) (wr : World) : Prop :=
  ∃ k : Nat, k ≤ m.length ∧ s39 = iv k ∧ WrTo w b v (L ++ bitsOf (m.take k)) wr

theorem Packs.full {bs l m : List Nat} (h : Packs bs l) (ha : l.length % 8 = 0) (hm : ∀ x ∈ m, x < 256) : Packs (bs ++ m) (l ++ bitsOf m) := by
  have h1 := h.lo
  have h2 := h.hi
  have e : 8 * bs.length = l.length := by omega
  have hb := h.bits
  rw [e, Nat.sub_self, List.replicate_zero, List.append_nil] at hb
  have hl := bitsOf_len m
  refine ⟨fun x hx => ?_, ?_, ?_, ?_⟩
  · rcases List.mem_append.1 hx with h3 | h3
    · exact h.lt x h3
    · exact hm x h3
  · rw [bitsOf_append, hb, List.length_append, List.length_append, hl, show 8 * (bs.length + m.length) - (l.length + 8 * m.length) = 0 from by omega]
    simp
  · rw [List.length_append, List.length_append, hl]; omega
  · rw [List.length_append, List.length_append, hl]; omega

set_option maxHeartbeats 2000000 in
theorem append_any {w : World} {b : Nat} {v : Value} {bs L : List Nat} {v0 : Value} {ll : List (List Nat)} (h : Wr w b v bs L) (hLL : Lists w (WF b v) v0 ll) (hn : ll.length ≤ 1000) (hl : ∀ i, i ≤ ll.length → (L ++ bitsOf (ll.take i).flatten).length ≤ 140737488355328) :
    Calls Tryd.prog 28 #[.pointer (some ⟨b, 0, none⟩), v0] w fun e w' => e = .returned (.tuple #[]) ∧ WrTo w b v (L ++ bitsOf ll.flatten) w' := by
  obtain ⟨i0, hi, hz0, hz1, hz2⟩ := info_parts Tryd.info_byte
  obtain ⟨A, c, hv0, hcell⟩ := hLL
  subst hv0
  have Hcell := Lib.hid hcell
  have Hl := Lib.hid hl
  have hW0 := Lib.hid (WrTo.same h rfl)
  clear hcell h hl
  go_enter Tryd.func28, Tryd.ntmps28
  go_wp2
  go_loopw [12] (fun s12 wr => AppRel w b v L ll s12 wr) (fun s12 _ => ll.length - (intOf s12).toNat)
  case atStart => exact ⟨0, Nat.zero_le _, rfl, by simpa [bitsOf] using hW0.out⟩
  case round =>
    obtain ⟨i, hi1, rfl, v1, bs1, hW1, ho1, hm1⟩ := hrel
    by_cases hlt : i < ll.length
    · obtain ⟨g, off, ad, c', rfl, hpos, hbig, h256, hall⟩ := Hcell.out i hlt
      have hfl : (ll.take (i + 1)).flatten = (ll.take i).flatten ++ ll[i] := by rw [List.take_succ_eq_append_getElem hlt, List.flatten_append]; simp
      have hnext : L ++ bitsOf (ll.take (i + 1)).flatten = (L ++ bitsOf (ll.take i).flatten) ++ bitsOf ll[i] := by rw [hfl, bitsOf_append, List.append_assoc]
      have hl1 := Hl.out (i + 1) (by omega)
      rw [hnext] at hl1
      have Hnext := Lib.hid hnext
      have Hall := Lib.hid hall
      have H256 := Lib.hid h256
      clear hfl hnext hall h256
      generalize ll[i] = m at *
      generalize L ++ bitsOf (ll.take i).flatten = L1 at *
      have hbm := bitsOf_len m
      rw [List.length_append, hbm] at hl1
      have Hbm := Lib.hid hbm
      clear hbm
      obtain ⟨hx, hsrc⟩ := Hall.out wr ho1
      have Hsrc := Lib.hid hsrc
      clear hsrc
      have hlt2 : (i : Int) < (ll.length : Int) := by omega
      have Hpad := Lib.hid (pad_nat b L1.length wr hW1.cell0)
      have HW1 := Lib.hid hW1
      have Ho1 := Lib.hid ho1
      have Hm1 := Lib.hid hm1
      have hl1len := hW1.len
      obtain ⟨A5, c5, hv5⟩ := owns_slice hW1.own
      have hc1 := hW1.cell1
      rw [hv5] at hc1
      have hf1 := hW1.box.frozen 1
      have hne1 := hW1.ne
      have Hv5 := Lib.hid hv5
      clear hW1 ho1 hm1 hv5
      by_cases hP : padN L1.length = 0
      · have ha8 : L1.length % 8 = 0 := by unfold padN at hP; omega
        rw [hP] at Hpad
        have Ha8 := Lib.hid ha8
        clear hP ha8
        go_wp2_with fail
        refine (Hpad.out).mono ?_
        rintro e w2 ⟨rfl, rfl⟩
        go_wp2_with (at_builtin; refine wpList_append_lies _ rfl (.tmp 25) (.tmp 26) 28 rfl 0 5 i0 (.int .u8 0) 1 1 Tryd.underlying28 hi hz0 hz1 hz2 rfl (by decide) (.slice A5 bs1.length c5) bs1.length (bs1.map byt) rfl ?hown ad m.length c' (m.map byt) rfl ?hl ?hnews ?h1 hpos ?h63 ?hby ?hbase wr.heap.size ?hH ?rest)
        case hown => have := HW1.out.own; rw [Hv5.out] at this; exact this
        case hl => simp
        case hnews => exact Hsrc.out
        case h1 => intro u hu; obtain ⟨y, _, rfl⟩ := List.mem_map.1 hu; rfl
        case h63 => unfold maxLen; omega
        case hby => omega
        case hbase => omega
        case hH => rfl
        case rest =>
          intro g3 cap3 w3 hown3 hgr hat hlt3
          have hb3 := HW1.out.box.grown hgr (by rw [← Hv5.out]; exact hne1)
          have hk0 := hb3.cell 0
          have hk1 := hb3.cell 1
          have hkf := hb3.frozen 1
          have hkf0 := hb3.frozen 0
          simp only [List.getElem?_toArray, List.getElem?_cons_zero, List.getElem?_cons_succ] at hk0 hk1
          rw [Hv5.out] at hk1
          have ho3 : Only (WF b v1) wr w3 := (Only.refl _ _).grown hgr (fun k e => .inl (.inr (by rw [Hv5.out]; exact e)))
          have hown4 : (w3.setCell ⟨b, 1, none⟩ (.slice (some ⟨g3, 0, none⟩) (bs1.length + m.length) cap3)).ownsRow 0 5 1 (.slice (some ⟨g3, 0, none⟩) (bs1.length + m.length) cap3) (bs1.length + m.length) (bs1.map byt ++ m.map byt) :=
            owns_only hown3 ((Only.refl (Just b) w3).setCell (p := ⟨b, 1, none⟩) (.inl rfl) _) (fun q hq e => owns_box hown3 hb3 (by decide) (by rw [hq]; exact congrArg some e))
          have hb4 := hb3.put 1 (.slice (some ⟨g3, 0, none⟩) (bs1.length + m.length) cap3)
          have ho4 := ho3.setCell (p := ⟨b, 1, none⟩) (.inl (.inl rfl)) (.slice (some ⟨g3, 0, none⟩) (bs1.length + m.length) cap3)
          have hd0 := hb4.cell 0
          have hdf := hb4.frozen 0
          simp at hd0
          have HH := Lib.hid (And.intro hown4 (And.intro hb4 (And.intro ho4 hat)))
          clear hown3 hgr hat hb3 ho3 hown4 hb4 ho4
          go_wp2_with fail
          refine (forth_any _ L1.length _ _ hd0 hdf (by omega) (by omega)).mono ?_
          rintro e w5 ⟨rfl, rfl⟩
          go_wp2
          go_roundw
          case rel =>
            obtain ⟨hown4, hb4, ho4, hat⟩ := HH.out
            have hbm := Hbm.out
            refine ⟨i + 1, by omega, by go_num, ?_⟩
            rw [Hnext.out]
            refine WrTo.of Ho1.out Hm1.out ⟨.slice (some ⟨g3, 0, none⟩) (bs1.length + m.length) cap3, bs1 ++ m, ⟨?_, ?_, HW1.out.packs.full Ha8.out H256.out, ?_⟩, ?_, ?_⟩
            · have h9 := hb4.put 0 (.int .i64 ((L1.length + 8 * m.length : Nat) : Int))
              rw [List.length_append, hbm]
              rw [show ((L1.length + 8 * m.length : Nat) : Int) = (L1.length : Int) + 8 * (m.length : Int) from by omega] at h9 ⊢
              simpa using h9
            · rw [List.length_append, List.map_append]
              exact owns_only hown4 ((Only.refl (Just b) _).setCell (p := ⟨b, 0, none⟩) (.inl rfl) _) (fun q hq e => owns_box hown4 hb4 (by decide) (by rw [hq]; exact congrArg some e))
            · rw [List.length_append, hbm]; omega
            · exact ho4.setCell (p := ⟨b, 0, none⟩) (.inl (.inl rfl)) _
            · intro q hq
              simp [Value.ownBlock] at hq
              subst hq
              rcases hat with h5 | h5
              · exact .inl (by rw [Hv5.out]; exact h5)
              · exact .inr (by omega)
          case measure => simp [intOf]; omega
      · have hPb : ((padN L1.length : Int) == 0) = false := by rw [beq_eq_false_iff_ne]; omega
        generalize padN L1.length = P at *
        clear hP hc1 hf1 hne1
        have hst : WrTo w b v (L1 ++ bitsOf (m.take 0)) wr := by
          rw [List.take_zero, bitsOf_nil, List.append_nil]
          exact ⟨v1, bs1, HW1.out, Ho1.out, Hm1.out⟩
        have Hst := Lib.hid hst
        clear hst
        go_wp2_with fail
        refine (Hpad.out).mono ?_
        rintro e w2 ⟨rfl, rfl⟩
        clear Hpad HW1 Ho1 Hm1 Hv5 Hsrc
        go_wp2
        go_loopw [39] (fun s39 wi => AppIn w b v L1 m s39 wi) (fun s39 _ => m.length - (intOf s39).toNat)
        case atStart => exact ⟨0, Nat.zero_le _, rfl, Hst.out⟩
        case round =>
          obtain ⟨k, hk, rfl, v2, bs2, hW2, ho2, hm2⟩ := hrel
          by_cases hkl : k < m.length
          · have hb := (Hall.out _ ho2).2 k (byt m[k]) (by simp [hkl])
            unfold byt at hb
            have hy := H256.out _ (List.getElem_mem hkl)
            have hmt : L1 ++ bitsOf (m.take (k + 1)) = (L1 ++ bitsOf (m.take k)) ++ bitsN 8 m[k] := by
              rw [List.take_succ_eq_append_getElem hkl, bitsOf_append, bitsOf_cons, bitsOf_nil, List.append_nil, List.append_assoc]
            have Hmt := Lib.hid hmt
            have hL2 : (L1 ++ bitsOf (m.take k)).length ≤ 281474976710656 := by rw [List.length_append, bitsOf_len, List.length_take]; omega
            have hnum := number_any hW2 8 (m[k] : Int) (by omega) (by omega)
            have ey : ((m[k] : Int) % 2 ^ 8).toNat = m[k] := by omega
            rw [ey] at hnum
            have Hn := Lib.hid hnum
            clear hmt hnum ey
            generalize m[k] = y at *
            have hkl2 : (k : Int) < (m.length : Int) := by omega
            go_wp2_with fail
            refine (Hn.out).mono ?_
            rintro e w4 ⟨v4, bs4, rfl, hW4⟩
            go_wp2
            go_roundw
            case rel =>
              refine ⟨k + 1, by omega, by go_num, ?_⟩
              rw [Hmt.out]
              exact WrTo.of ho2 hm2 ⟨v4, bs4, hW4⟩
            case measure => simp [intOf]; omega
          · obtain rfl : k = m.length := by omega
            have hkl2 : decide ((m.length : Int) < (m.length : Int)) = false := by simp
            go_wp2
            go_roundw
            case rel =>
              refine ⟨i + 1, by omega, by go_num, ?_⟩
              rw [Hnext.out]
              have h9 : WrTo w b v (L1 ++ bitsOf (m.take m.length)) wr := ⟨v2, bs2, hW2, ho2, hm2⟩
              rw [List.take_length] at h9
              exact h9
            case measure => simp [intOf]; omega
    · obtain rfl : i = ll.length := by omega
      have hlt2 : decide ((ll.length : Int) < (ll.length : Int)) = false := by simp
      have hfin : WrTo w b v (L ++ bitsOf ll.flatten) wr := by
        have : WrTo w b v (L ++ bitsOf (ll.take ll.length).flatten) wr := ⟨v1, bs1, hW1, ho1, hm1⟩
        rw [List.take_length] at this
        exact this
      have Hfin := Lib.hid hfin
      clear hfin
      go_wp2
      go_end0
      exact ⟨rfl, Hfin.out⟩
end Go.Proofs.YteahiigfclabfaaDoor
