/-
  Package header, what Read is made of: a Reader of the call's own, expect, told.
-/
import Derived.Test.YteahiigfclabfaaDoorHY
namespace Go.Proofs.YteahiigfclabfaaDoor.H
open Go.RowKit

/-- At block r lies a Reader of the call's own, a bits of which are behind; nothing of W0 has turned. -/
def Rt (W0 : World) (r : Nat) (bs : List Nat) (a : Nat) (u : World) : Prop := ∃ v, Rd u r v bs a ∧ Only Nix W0 u ∧ W0.heap.size ≤ r ∧ ∀ g, v.ownBlock = some g → W0.heap.size ≤ g ∧ g < r
section
variable {W0 u u' : World} {r a : Nat} {bs : List Nat}
theorem Rt.only (h : Rt W0 r bs a u) : Only Nix W0 u := by
  obtain ⟨v, _, ho, _⟩ := h
  exact ho
theorem Rt.nix (h : Rt W0 r bs a u) (ho : Only Nix u u') : Rt W0 r bs a u' := by
  obtain ⟨v, h1, h2, h3, h4⟩ := h
  exact ⟨v, h1.nix ho, h2.trans ho, h3, h4⟩
theorem Rt.mem (h : Rt W0 r bs a u) : r < u.heap.size := by
  obtain ⟨v, h1, _⟩ := h
  exact h1.mem
theorem Rt.ge (h : Rt W0 r bs a u) : W0.heap.size ≤ r := by
  obtain ⟨v, _, _, h3, _⟩ := h
  exact h3
theorem Rt.le (h : Rt W0 r bs a u) : a ≤ 8 * bs.length := by
  obtain ⟨v, h1, _⟩ := h
  exact h1.le
theorem Rt.small (h : Rt W0 r bs a u) : bs.length ≤ 140737488355328 := by
  obtain ⟨v, h1, _⟩ := h
  exact h1.small
theorem Rt.just (h : Rt W0 r bs a u) (ho : Only (Just r) u u') : Only Nix W0 u' := by
  obtain ⟨v, _, h2, h3, _⟩ := h
  exact h2.then ho (fun i e => .inr (by rw [show i = r from e]; exact h3))
theorem Rt.keep {F : Nat → Prop} (h : Rt W0 r bs a u) (ho : Only F u u') (hF : ∀ k, F k → r < k) : Rt W0 r bs a u' := by
  obtain ⟨v, h1, h2, h3, h4⟩ := h
  refine ⟨v, h1.keep ho (fun e => by have := hF r e; omega) (fun g hg e => by have := hF g e; have := (h4 g hg).2; omega), h2.then ho (fun i e => .inr (by have := hF i e; omega)), h3, h4⟩
theorem take_rt (h : Rt W0 r bs a u) (n : Int) :
    Calls Tryd.prog 69 #[.pointer (some ⟨r, 0, none⟩), iv n] u fun e u' => e = .returned (.tuple #[iv (takeR bs a n), iv (takeE bs a n)]) ∧ Rt W0 r bs (takeA bs a n) u' ∧ Only (Just r) u u' := by
  have k := h
  obtain ⟨v, h1, h2, h3, h4⟩ := h
  exact (take_any h1 n).mono fun e u' ⟨he, hr, ho⟩ => ⟨he, ⟨v, hr, k.just ho, h3, h4⟩, ho⟩
theorem seek_rt (h : Rt W0 r bs a u) (t : Int) :
    Calls Tryd.prog 71 #[.pointer (some ⟨r, 0, none⟩), iv t] u fun e u' => e = .returned (iv (seekE bs t)) ∧ Rt W0 r bs (seekA bs a t) u' ∧ Only (Just r) u u' := by
  have k := h
  obtain ⟨v, h1, h2, h3, h4⟩ := h
  exact (seek_any h1 t).mono fun e u' ⟨he, hr, ho⟩ => ⟨he, ⟨v, hr, k.just ho, h3, h4⟩, ho⟩
theorem at_rt (h : Rt W0 r bs a u) :
    Calls Tryd.prog 45 #[.pointer (some ⟨r, 0, none⟩)] u fun e u' => e = .returned (iv a) ∧ u = u' := by
  obtain ⟨v, h1, _⟩ := h
  exact at_any r a u h1.cell0
end
/-- a reader's value -/
abbrev rdv (r : Nat) (A : Option Addr) (m c : Nat) : Value := .agg #[.pointer (some ⟨r, 0, none⟩), .slice A m c]
abbrev rdc (r : Nat) (A : Option Addr) (m c : Nat) : Array Value := #[.pointer (some ⟨r, 0, none⟩), .slice A m c]
/-- expect's error -/
def expE (bs : List Nat) (a : Nat) (n want wrong : Int) : Int := fstE [takeE bs a n, un (decide (takeR bs a n = want)) wrong]
set_option maxHeartbeats 4000000 in
theorem expect_any {W0 u : World} {r a : Nat} {bs : List Nat} (h : Rt W0 r bs a u) (A : Option Addr) (m c : Nat) (n want wrong : Int) :
    Calls Tryd.prog 64 #[rdv r A m c, iv n, iv want, iv wrong] u fun e u' => e = .returned (iv (expE bs a n want wrong)) ∧ Rt W0 r bs (takeA bs a n) u' ∧ Only (Just r) u u' := by
  have hT := take_rt (h.nix ((Only.refl Nix u).alloc (.cells (rdc r A m c) 79))) n
  have HT := Lib.hid hT
  have HE : Hid (expE bs a n want wrong = fstE [takeE bs a n, un (decide (takeR bs a n = want)) wrong]) := Lib.hid rfl
  clear hT h
  generalize takeE bs a n = E at *
  generalize takeR bs a n = V at *
  generalize expE bs a n want wrong = X at *
  generalize takeA bs a n = a' at *
  go_enter Tryd.func64, Tryd.ntmps64
  go_wp2_with fail
  refine HT.out.mono ?_
  rintro _ u1 ⟨rfl, hr1, ho1⟩
  have HR1 := Lib.hid hr1
  have HO1 := Lib.hid (((Only.refl (Just r) u).alloc (.cells (rdc r A m c) 79)).trans ho1)
  clear hr1 ho1
  go_wp2_with fail
  refine (unless_any (decide (V = want)) wrong _).mono ?_
  rintro _ _ ⟨rfl, rfl⟩
  have HF := Lib.hid (first_any _ _ (esrc_new u1 24 [E, un (decide (V = want)) wrong] (by show 2 ≤ 1000; decide)))
  generalize un (decide (V = want)) wrong = U1 at *
  go_wp2_with fail
  refine (HF.out).mono ?_
  rintro _ _ ⟨rfl, rfl⟩
  rw [← HE.out]
  go_wp2
  go_ret
  exact ⟨rfl, HR1.out.nix ((Only.refl Nix u1).alloc _), HO1.out.alloc _⟩
/-- told's error, and number -/
def toE (bs : List Nat) (a : Nat) (R : Rw) : Int := fstE [takeE bs a R.s, if (R.m : Int) < R.l + takeR bs a R.s then 13 else 0]
def toV (bs : List Nat) (a : Nat) (R : Rw) : Int := R.u * (R.l + takeR bs a R.s)
theorem takeR_bd (bs : List Nat) (a : Nat) (n : Nat) (hn : n ≤ 16) : 0 ≤ takeR bs a n ∧ takeR bs a n < 65536 := by
  unfold takeR
  split
  · have := numAt_lt bs a n
    have h2 : 2 ^ n ≤ 2 ^ 16 := pow_le_of hn
    rw [Int.toNat_natCast]
    constructor
    · omega
    · have : numAt bs a n < 65536 := Nat.lt_of_lt_of_le this h2
      omega
  · constructor <;> omega
set_option maxHeartbeats 4000000 in
theorem told_any {W0 u : World} {r a : Nat} {bs : List Nat} (h : Rt W0 r bs a u) (A : Option Addr) (m c : Nat) (R : Rw) (hR : R.u ≤ 1000000 ∧ R.l ≤ 1 ∧ R.m ≤ 65535 ∧ R.s ≤ 16) :
    Calls Tryd.prog 63 #[rdv r A m c, rv R] u fun e u' => e = .returned (.tuple #[iv (if toE bs a R = 0 then toV bs a R else 0), iv (toE bs a R)]) ∧ Rt W0 r bs (takeA bs a R.s) u' ∧ Only (Just r) u u' := by
  have hm := h.mem
  obtain ⟨ru, rl, rm, rs⟩ := R
  obtain ⟨k1, k2, k3, k4⟩ := hR
  simp only at k1 k2 k3 k4
  have hb := takeR_bd bs a rs k4
  have ho0 := ((Only.refl Nix u).alloc (.cells (rdc r A m c) 79)).alloc (.cells #[iv ru, iv rl, iv rm, iv rs] 59)
  have HT := Lib.hid (take_rt (h.nix ho0) rs)
  have HO0 := Lib.hid ho0
  have HE : Hid (toE bs a ⟨ru, rl, rm, rs⟩ = fstE [takeE bs a rs, if (rm : Int) < rl + takeR bs a rs then 13 else 0]) := Lib.hid rfl
  have HV : Hid (toV bs a ⟨ru, rl, rm, rs⟩ = ru * (rl + takeR bs a rs)) := Lib.hid rfl
  clear ho0 h
  simp only [rv]
  generalize takeE bs a rs = E at *
  generalize takeR bs a rs = V at *
  generalize toE bs a ⟨ru, rl, rm, rs⟩ = X at *
  generalize toV bs a ⟨ru, rl, rm, rs⟩ = Y at *
  generalize takeA bs a rs = a' at *
  have HZ : Hid ((if X = 0 then Y else 0) = if X = 0 then ru * (rl + V) else 0) := Lib.hid (by rw [HV.out])
  generalize (if X = 0 then Y else 0) = Z at *
  have hB1 := (Box.new u 79 (rdc r A m c)).alloc (.cells #[iv ru, iv rl, iv rm, iv rs] 59)
  have hB2 := Box.new (u.alloc (.cells (rdc r A m c) 79)) 59 #[iv ru, iv rl, iv rm, iv rs]
  have hru := HT.out
  clear hru
  go_enter Tryd.func63, Tryd.ntmps63
  go_wp2_with fail
  refine HT.out.mono ?_
  rintro _ u1 ⟨rfl, hr1, ho1⟩
  have HR1 := Lib.hid hr1
  have HO1 := Lib.hid ((HO0.out.nix (F := Just r)).trans ho1)
  have hB3 := hB2.only ho1 (fun e => by have e2 : (u.alloc (.cells (rdc r A m c) 79)).heap.size = r := e; simp at e2; omega)
  have q0 : u1.cell? ⟨u.heap.size + 1, 0, none⟩ = some (iv ru) := by have := hB3.cell 0; simpa using this
  have q1 : u1.cell? ⟨u.heap.size + 1, 1, none⟩ = some (iv rl) := by have := hB3.cell 1; simpa using this
  have q2 : u1.cell? ⟨u.heap.size + 1, 2, none⟩ = some (iv rm) := by have := hB3.cell 2; simpa using this
  clear hr1 ho1 hB1 hB2 hB3 HT
  by_cases e0 : E = 0
  · subst e0
    by_cases e1 : (rm : Int) < rl + V
    · rw [if_pos e1] at HE
      have hX : X = 13 := HE.out
      subst hX
      have hZ : Z = 0 := HZ.out
      subst hZ
      go_wp2
      go_ret2
      exact ⟨rfl, HR1.out, HO1.out⟩
    · rw [if_neg e1] at HE
      have hX : X = 0 := HE.out
      subst hX
      have hw : IntKind.i64.wrap (ru * (rl + V)) = ru * (rl + V) := by
        refine wraps_i64 _ (Int.mul_nonneg (by omega) (by omega)) ?_
        have : (ru : Int) * (rl + V) ≤ 1000000 * 65537 := Int.mul_le_mul (by omega) (by omega) (by omega) (by omega)
        omega
      have hZ : Z = ru * (rl + V) := HZ.out
      subst hZ
      go_wp2
      go_ret2
      exact ⟨rfl, HR1.out, HO1.out⟩
  · have hX : X = E := by rw [HE.out]; simp [fstE, e0]
    subst hX
    have hZ : Z = 0 := by rw [HZ.out, if_neg e0]
    subst hZ
    go_wp2
    go_ret2
    exact ⟨rfl, HR1.out, HO1.out⟩
/-- how far a Reader stands: which of its calls are done -/
def posL : List (Nat × Nat) → Nat → (Nat → Bool) → Nat
  | [], p, _ => p
  | (c, q) :: l, p, L => posL l (if L c = true then q else p) L
theorem posL_same {i : Nat} {L : Nat → Bool} : ∀ {ps : List (Nat × Nat)} {p : Nat}, (ps.all fun x => i != x.1) = true → posL ps p (andOne L i) = posL ps p L
  | [], _, _ => rfl
  | (c, q) :: l, p, h => by
    simp only [List.all_cons, Bool.and_eq_true, bne_iff_ne] at h
    unfold posL
    rw [andOne_ne (fun e => h.1 e.symm)]
    exact posL_same h.2
/-- a region's world: a Reader that stands as far as its calls are done -/
structure RS (W0 : World) (r : Nat) (bs : List Nat) (ps : List (Nat × Nat)) (p : Nat) (L : Nat → Bool) (u : World) : Prop where
  rt : Rt W0 r bs (posL ps p L) u
theorem RS.nix {W0 u u' : World} {r p : Nat} {bs : List Nat} {ps : List (Nat × Nat)} {L : Nat → Bool} (h : RS W0 r bs ps p L u) (ho : Only Nix u u') : RS W0 r bs ps p L u' := ⟨h.rt.nix ho⟩
theorem RS.same {W0 u : World} {r p i : Nat} {bs : List Nat} {ps : List (Nat × Nat)} {L : Nat → Bool} (hi : (ps.all fun x => i != x.1) = true) (h : RS W0 r bs ps p L u) : RS W0 r bs ps p (andOne L i) u := ⟨by rw [posL_same hi]; exact h.rt⟩
theorem RS.to {W0 u : World} {r p q : Nat} {bs : List Nat} {ps : List (Nat × Nat)} {L : Nat → Bool} (h : Rt W0 r bs q u) (hp : posL ps p L = q) : RS W0 r bs ps p L u := ⟨by rw [hp]; exact h⟩
theorem RS.out {W0 u : World} {r p q : Nat} {bs : List Nat} {ps : List (Nat × Nat)} {L : Nat → Bool} (h : RS W0 r bs ps p L u) (hp : posL ps p L = q) : Rt W0 r bs q u := by rw [← hp]; exact h.rt
/-- a slice of errors that is not the Reader -/
structure EsN (r : Nat) (u : World) (v : Value) (es : List Int) : Prop where
  src : ESrc u v es
  ne : ∀ g n c, v = .slice (some ⟨g, 0, none⟩) n c → g ≠ r
theorem EsN.only {r : Nat} {u u' : World} {v : Value} {es : List Int} (h : EsN r u v es) (ho : Only (Just r) u u') : EsN r u' v es := by
  obtain ⟨⟨⟨g, c, hv, hc⟩, hs⟩, hn⟩ := h
  exact ⟨⟨⟨g, c, hv, fun j hj => U.cell_only ho (hc j hj) (fun e => hn g _ c hv e)⟩, hs⟩, hn⟩
theorem esn_new {r : Nat} {w : World} (hr : r < w.heap.size) (t : TypeId) (es : List Int) (h : es.length ≤ 1000) : EsN r (w.alloc (.cells (es.map iv).toArray t)) (.slice (some ⟨w.heap.size, 0, none⟩) es.length es.length) es := by
  refine ⟨esrc_new w t es h, fun g n c e => ?_⟩
  injection e with e1 _ _
  injection e1 with e2
  injection e2 with e3 _ _
  omega
theorem expE_zero {bs : List Nat} {a : Nat} {n want wrong : Int} (hw : wrong ≠ 0) : expE bs a n want wrong = 0 ↔ takeE bs a n = 0 ∧ takeR bs a n = want := by
  unfold expE
  rw [fstE_zero, fstE_zero, un_zero _ _ hw]
  simp [fstE]
theorem takeA_ok {bs : List Nat} {a : Nat} {n : Int} (h : takeE bs a n = 0) : takeA bs a n = a + n.toNat := by unfold takeA; rw [if_pos h]
theorem Tryd.size_reader : (Tryd.prog.info? 79).map (·.size) = some 2 := by kernel_rfl
section
variable {W0 W1 u u' : World} {r p i : Nat} {bs : List Nat} {ps : List (Nat × Nat)} {L : Nat → Bool}
theorem sameS (hi : (ps.all fun x => i != x.1) = true) (h : RS W0 r bs ps p L u ∧ Only (Just r) W1 u) : RS W0 r bs ps p (andOne L i) u ∧ Only (Just r) W1 u := ⟨RS.same hi h.1, h.2⟩
theorem nixS (h : RS W0 r bs ps p L u ∧ Only (Just r) W1 u) (ho : Only Nix u u') : RS W0 r bs ps p L u' ∧ Only (Just r) W1 u' := ⟨h.1.nix ho, h.2.trans ho.nix⟩
end
theorem eval_tmp {A : Act} {i : Nat} {v : Value} (h : A.tmps[i]? = some v) : A.eval (.tmp i) = v := by
  show A.tmps.getD i undef = v
  rw [Array.getD_eq_getD_getElem?, h]
  rfl
end Go.Proofs.YteahiigfclabfaaDoor.H
