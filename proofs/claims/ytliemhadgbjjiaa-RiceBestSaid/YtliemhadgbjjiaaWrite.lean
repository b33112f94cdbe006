/-
  The Writer of package bits: what it is in memory ('Wr'); noughts.
-/
import Derived.Test.YtliemhadgbjjiaaClone
import Derived.Test.YtliemhadgbjjiaaZeros
namespace Go.Proofs.Ytliemhadgbjjiaa
open Go.RowKit

/-- These bytes are these bits, and noughts up to the last byte's end. -/
structure Packs (bs l : List Nat) : Prop where
  lt : ∀ x ∈ bs, x < 256
  bits : bitsOf bs = l ++ List.replicate (8 * bs.length - l.length) 0
  lo : l.length ≤ 8 * bs.length
  hi : 8 * bs.length < l.length + 8

/-- At block b lies a Writer of the bits l (in the slice v, whose bytes are bs). -/
structure Wr (w : World) (b : Nat) (v : Value) (bs l : List Nat) : Prop where
  box : Box w b 68 #[.int .i64 (l.length : Int), v]
  own : w.ownsRow 0 5 1 v bs.length (bs.map byt)
  packs : Packs bs l
  small : l.length ≤ 562949953421312

/-- a Writer's blocks -/
def WF (b : Nat) (v : Value) (k : Nat) : Prop := k = b ∨ v.ownBlock = some k
/-- the slice v' lies where v lay, or is new -/
def Moves (B : Nat) (v v' : Value) : Prop := ∀ g, v'.ownBlock = some g → v.ownBlock = some g ∨ B ≤ g

theorem Moves.refl (B : Nat) (v : Value) : Moves B v v := fun _ h => .inl h
theorem Moves.trans {B B' : Nat} {a b c : Value} (h : Moves B a b) (k : Moves B' b c) (hB : B ≤ B') : Moves B a c := fun g hg => by
  rcases k g hg with h1 | h1
  · exact h g h1
  · exact .inr (by omega)

section
variable {w w' : World} {b : Nat} {v : Value} {bs l : List Nat}
theorem Wr.cell0 (h : Wr w b v bs l) : w.cell? ⟨b, 0, none⟩ = some (.int .i64 (l.length : Int)) := by rw [h.box.cell]; rfl
theorem Wr.cell1 (h : Wr w b v bs l) : w.cell? ⟨b, 1, none⟩ = some v := by rw [h.box.cell]; rfl
theorem Wr.ne (h : Wr w b v bs l) : v.ownBlock ≠ some b := owns_box h.own h.box (by decide)
theorem Wr.keep {F : Nat → Prop} (h : Wr w b v bs l) (ho : Only F w w') (hr : ¬ F b) (hv : ∀ g, v.ownBlock = some g → ¬ F g) : Wr w' b v bs l :=
  ⟨h.box.only ho hr, owns_only h.own ho hv, h.packs, h.small⟩
theorem Wr.nix (h : Wr w b v bs l) (ho : Only Nix w w') : Wr w' b v bs l := h.keep ho (fun e => e) (fun _ _ e => e)
theorem Wr.drewN (h : Wr w b v bs l) (n : Nat) : Wr (w.drewN n) b v bs l := h.nix ((Only.refl _ _).drewN n)
theorem Wr.alloc (h : Wr w b v bs l) (o : Obj) : Wr (w.alloc o) b v bs l := h.nix ((Only.refl _ _).alloc o)
theorem Wr.len (h : Wr w b v bs l) : bs.length ≤ 70368744177665 := by have := h.small; have := h.packs.hi; omega
end

theorem bitsOf_inj : ∀ (a b : List Nat), (∀ x ∈ a, x < 256) → (∀ x ∈ b, x < 256) → bitsOf a = bitsOf b → a = b
  | [], [], _, _, _ => rfl
  | [], y :: b, _, _, h => by have := congrArg List.length h; rw [bitsOf_len, bitsOf_len] at this; simp at this
  | x :: a, [], _, _, h => by have := congrArg List.length h; rw [bitsOf_len, bitsOf_len] at this; simp at this
  | x :: a, y :: b, ha, hb, h => by
    rw [bitsOf_cons, bitsOf_cons] at h
    obtain ⟨h1, h2⟩ := List.append_inj h (by rw [bitsN_len, bitsN_len])
    have h3 := congrArg val h1
    rw [val_bitsN, val_bitsN, Nat.mod_eq_of_lt (ha x (List.mem_cons_self ..)), Nat.mod_eq_of_lt (hb y (List.mem_cons_self ..))] at h3
    rw [h3, bitsOf_inj a b (fun z hz => ha z (List.mem_cons_of_mem _ hz)) (fun z hz => hb z (List.mem_cons_of_mem _ hz)) h2]
theorem Packs.inj {a b l : List Nat} (h : Packs a l) (k : Packs b l) : a = b := by
  have h1 := h.lo
  have h2 := h.hi
  have h3 := k.lo
  have h4 := k.hi
  refine bitsOf_inj a b h.lt k.lt ?_
  rw [h.bits, k.bits, show a.length = b.length from by omega]

theorem bits_zeros (k : Nat) : bitsOf (List.replicate k 0) = List.replicate (8 * k) 0 := by
  induction k with
  | zero => rfl
  | succ k ih =>
    rw [List.replicate_succ, bitsOf_cons, ih, show 8 * (k + 1) = 8 + 8 * k from by omega, ← List.replicate_append_replicate]
    rfl
/-- n noughts more, and as many bytes as they want -/
theorem Packs.zeros {bs l : List Nat} (h : Packs bs l) (n k : Nat) (hk : 8 * (bs.length + k) < l.length + n + 8) (hk2 : l.length + n ≤ 8 * (bs.length + k)) : Packs (bs ++ List.replicate k 0) (l ++ List.replicate n 0) := by
  have h1 := h.lo
  refine ⟨fun x hx => ?_, ?_, by simp; omega, by simp; omega⟩
  · rcases List.mem_append.1 hx with h2 | h2
    · exact h.lt x h2
    · rw [(List.mem_replicate.1 h2).2]; decide
  · rw [bitsOf_append, h.bits, bits_zeros, List.append_assoc, List.append_assoc, List.replicate_append_replicate, List.replicate_append_replicate]
    congr 2
    simp
    omega

theorem Try.underlying_int : Try.prog.underlying 3 = some (.int .i64) := by kernel_rfl

set_option maxHeartbeats 1000000 in
theorem noughts_any {w : World} {b : Nat} {v : Value} {bs l : List Nat} (h : Wr w b v bs l) (n : Nat) (hn : l.length + n ≤ 562949953421312) :
    Calls Try.prog 66 #[.pointer (some ⟨b, 0, none⟩), .int .i64 (n : Int)] w fun e w' => ∃ v' bs', e = .returned (.tuple #[]) ∧ Wr w' b v' bs' (l ++ List.replicate n 0) ∧ Only (WF b v) w w' ∧ Moves w.heap.size v v' := by
  have hc0 := h.cell0
  have hf0 := h.box.frozen 0
  have hlen := h.len
  obtain ⟨A, c, hv⟩ := owns_slice h.own
  obtain ⟨i0, hi, hz0, hz1, hz2⟩ := info_parts Try.info_byte
  go_enter Try.func66, Try.ntmps66
  go_wp2_with fail
  refine (forth_any _ l.length _ _ hc0 hf0 (by omega) (by omega)).mono ?_
  rintro e w2 ⟨rfl, rfl⟩
  generalize hw1 : w.setCell ⟨b, 0, none⟩ (.int .i64 ((l.length : Int) + (n : Int))) = w1
  have ho1 : Only (Just b) w w1 := by rw [← hw1]; exact (Only.refl (Just b) w).setCell (p := ⟨b, 0, none⟩) (.inl rfl) _
  have hb1 : Box w1 b 68 #[.int .i64 ((l.length + n : Nat) : Int), v] := by rw [← hw1]; simpa using h.box.put 0 (.int .i64 ((l.length + n : Nat) : Int))
  have hw1o : w1.ownsRow 0 5 1 v bs.length (bs.map byt) := owns_only h.own ho1 (fun g hg e => h.ne (by rw [hg]; exact congrArg some e))
  clear hw1
  have hd0 : w1.cell? ⟨b, 0, none⟩ = some (.int .i64 ((l.length + n : Nat) : Int)) := by rw [hb1.cell]; rfl
  have hd1 : w1.cell? ⟨b, 1, none⟩ = some v := by rw [hb1.cell]; rfl
  have hfr1 := hb1.frozen 1
  have hp := h.packs
  have hlo := hp.lo
  have hhi := hp.hi
  clear hc0 hf0
  generalize hL : l.length + n = L at *
  have HL := Lib.hid hL
  clear hL
  have hP := padN_le L
  obtain ⟨W, hW, hW1, hW2⟩ : ∃ W : Nat, ((L : Int) + (padN L : Int)) / 8 = (W : Int) ∧ 8 * W < L + 8 ∧ L ≤ 8 * W := ⟨(L + padN L) / 8, by omega, by omega, by unfold padN; omega⟩
  have HW := Lib.hid hW
  clear hW
  have Hpad := Lib.hid (fun u => pad_nat b L u)
  generalize padN L = P at *
  rw [hv] at hd1
  have Hv := Lib.hid hv
  clear hv
  go_wp2_with fail
  go_quiet ((go_at_call 45; exact still_at (Hpad.out _ hd0)))
  go_wp2_with fail
  rw [HW.out]
  obtain ⟨k, hk⟩ : ∃ k : Nat, W = bs.length + k := ⟨W - bs.length, by have := HL.out; omega⟩
  have hk2 : (W : Int) - (bs.length : Int) = (k : Int) := by omega
  have Hk := Lib.hid hk
  clear hk
  generalize hwd : w1.drewN nq = w2
  have hd1' : w2.cell? ⟨b, 1, none⟩ = some (.slice A bs.length c) := by rw [← hwd]; exact hd1
  have hfr1' : w2.frozen? ⟨b, 1, none⟩ = false := by rw [← hwd]; exact hfr1
  have hown2 : w2.ownsRow 0 5 1 v bs.length (bs.map byt) := by rw [← hwd]; exact hw1o
  have hb2 : Box w2 b 68 #[.int .i64 (L : Int), v] := by rw [← hwd]; exact hb1
  have ho2 : Only (Just b) w w2 := by rw [← hwd]; exact ho1.drewN nq
  have hown := Lib.hid hown2
  clear hd0 hd1 hfr1 hw1o hb1 ho1 hwd hown2 Hpad
  have hkb : (bs.length + k) * 1 ≤ 140737488355328 := by have := Hk.out; omega
  have hkm : bs.length + k ≤ maxLen := by unfold maxLen; omega
  have hne := h.ne
  have hwk := Lib.hid (wraps_i64 (k : Int) (by omega) (by have := Hk.out; omega))
  go_region_law (refine step_append_own_zeros rfl (.tmp 25) (.tmp 32) 41 3 rfl 0 5 i0 (.int .u8 0) 1 .i64 .i64 Try.underlying41 Try.underlying_int hi hz0 hz1 hz2 rfl rfl v bs.length (bs.map byt) (by simp [Act.eval, Act.put, Hv.out]) k (by simp [Act.eval, Act.put]; exact hwk.out) hown.out hkm hkb (Nat.zero_le _) ?_; intro v' w3 hm; have hb3 := hb2.drew.grown hm.2.1 hne; have hfr3 := hb3.frozen 1; have hd3 := hb3.cell 1; obtain ⟨A', c', hv'⟩ := owns_slice hm.1; subst hv'; have HM := Lib.hid hm; clear hm; simp only [List.getElem?_toArray, List.getElem?_cons_succ, List.getElem?_cons_zero] at hd3)
  all_goals
    go_end0
    obtain ⟨m1, m2, m3⟩ := HM.out
    have hL := HL.out
    have hk := Hk.out
    have hWF : Only (WF b v) w w3 := ((ho2.mono (fun i e => Or.inl e)).drew).grown m2 (fun g e => .inl (.inr e))
    have hso : ∀ x, (w3.setCell ⟨b, 1, none⟩ x).ownsRow 0 5 1 (.slice A' (bs.length + k) c') (bs.length + k) (bs.map byt ++ List.replicate k (.int .u8 0)) := fun x => by
      refine owns_only m1 ((Only.refl (Just b) w3).setCell (p := ⟨b, 1, none⟩) (.inl rfl) _) (fun g hg e => ?_)
      exact owns_box m1 hb3 (by decide) (by rw [hg]; exact congrArg some e)
    refine ⟨.slice A' (bs.length + k) c', bs ++ List.replicate k 0, rfl, ⟨?_, ?_, ?_, ?_⟩, ?_, ?_⟩
    · have h1 := hb3.put 1 (.slice A' (bs.length + k) c')
      rw [List.length_append, List.length_replicate, hL]
      simpa using h1
    · have h1 := hso (.slice A' (bs.length + k) c')
      rw [List.length_append, List.length_replicate, List.map_append, List.map_replicate]
      exact h1
    · exact hp.zeros n k (by omega) (by omega)
    · rw [List.length_append, List.length_replicate]; omega
    · exact hWF.setCell (p := ⟨b, 1, none⟩) (.inl (.inl rfl)) _
    · intro g hg
      rcases m3 with m3 | m3
      · exact .inl (by rw [← m3]; exact hg)
      · refine .inr ?_
        have h1 := ho2.size
        rw [hg] at m3
        have h2 : g = w2.heap.size := by simpa using m3
        omega
end Go.Proofs.Ytliemhadgbjjiaa
