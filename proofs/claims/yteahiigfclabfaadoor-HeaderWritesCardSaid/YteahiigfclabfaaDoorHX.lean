/-
  A Writer of the call's own, and what is written of a code that tells.
-/
import Derived.Test.YteahiigfclabfaaDoorHW
namespace Go.Proofs.YteahiigfclabfaaDoor.H
open Go.RowKit

/-- At block b lies a Writer of the bits l, all of it newer than W0; nothing of W0 has turned. -/
def Wt (W0 : World) (b : Nat) (l : List Nat) (u : World) : Prop := ∃ v bs, Wr u b v bs l ∧ Only Nix W0 u ∧ W0.heap.size ≤ b ∧ ∀ g, v.ownBlock = some g → W0.heap.size ≤ g
theorem Wt.only {W0 u : World} {b : Nat} {l : List Nat} (h : Wt W0 b l u) : Only Nix W0 u := by
  obtain ⟨v, bs, _, ho, _⟩ := h
  exact ho
theorem wr_nix {u u' : World} {b : Nat} {v : Value} {bs l : List Nat} (h : Wr u b v bs l) (ho : Only Nix u u') : Wr u' b v bs l :=
  ⟨h.box.only ho (fun e => e), owns_only h.own ho (fun _ _ e => e), h.packs, h.small⟩
theorem Wt.nix {W0 u u' : World} {b : Nat} {l : List Nat} (h : Wt W0 b l u) (ho : Only Nix u u') : Wt W0 b l u' := by
  obtain ⟨v, bs, h1, h2, h3, h4⟩ := h
  exact ⟨v, bs, wr_nix h1 ho, h2.trans ho, h3, h4⟩
theorem Wt.to {W0 u u' : World} {b : Nat} {v : Value} {l' : List Nat} (h2 : Only Nix W0 u) (h3 : W0.heap.size ≤ b) (h4 : ∀ g, v.ownBlock = some g → W0.heap.size ≤ g) (h : WrTo u b v l' u') : Wt W0 b l' u' := by
  obtain ⟨v', bs', k1, k2, k3⟩ := h
  refine ⟨v', bs', k1, h2.then k2 (fun i e => .inr ?_), h3, fun g hg => ?_⟩
  · rcases e with rfl | e
    · exact h3
    · exact h4 i e
  · rcases k3 g hg with e | e
    · exact h4 g e
    · exact Nat.le_trans h2.size e
theorem put_wt {W0 u : World} {b : Nat} {l : List Nat} (h : Wt W0 b l u) (hl : l.length ≤ 1000) (n : Nat) (x : Int) (hn : n ≤ 48) (h0 : 0 ≤ x) (hx : x < ((2 ^ n : Nat) : Int)) :
    Calls Tryd.prog 25 #[.pointer (some ⟨b, 0, none⟩), iv n, iv x] u fun e u' => e = .returned (iv 0) ∧ Wt W0 b (l ++ bitsN n x.toNat) u' := by
  obtain ⟨v, bs, h1, h2, h3, h4⟩ := h
  have hE : putE n x = 0 := by
    unfold putE
    rw [if_neg (by omega), if_neg]
    rw [Int.toNat_natCast]
    intro h
    rcases h with h | h
    · omega
    · rw [show (2 : Int) ^ n = ((2 ^ n : Nat) : Int) from by norm_cast] at h
      omega
  refine (put_any h1 (by omega) n x).mono ?_
  rintro _ u' ⟨rfl, k⟩
  rw [hE]
  unfold putL at k
  rw [if_pos hE, Int.toNat_natCast] at k
  exact ⟨rfl, Wt.to h2 h3 h4 k⟩
theorem new_wt (W0 : World) :
    Calls Tryd.prog 24 #[] W0 fun e u' => e = .returned (.pointer (some ⟨W0.heap.size, 0, none⟩)) ∧ Wt W0 W0.heap.size [] u' := by
  refine (newWriter_any W0).mono ?_
  rintro _ u' ⟨rfl, h, ho⟩
  exact ⟨rfl, _, _, h, ho, Nat.le_refl _, fun g hg => by simp [Value.ownBlock] at hg⟩
/-- a region's world: its last call writes -/
structure LastW (A B : World → Prop) (c : Nat) (L : Nat → Bool) (u : World) : Prop where
  old : L c = false → A u
  new : L c = true → B u
theorem LastW.same {A B : World → Prop} {c i : Nat} {L : Nat → Bool} {u' : World} (hc : L c = false) (hi : c ≠ i) (h : A u') : LastW A B c (andOne L i) u' := by
  refine ⟨fun _ => h, fun e => ?_⟩
  rw [andOne_ne hi, hc] at e
  cases e
theorem LastW.fin {A B : World → Prop} {c : Nat} {L : Nat → Bool} {u' : World} (h : B u') : LastW A B c (andOne L c) u' := by
  refine ⟨fun e => ?_, fun _ => h⟩
  rw [andOne_self] at e
  cases e
theorem LastW.begin {A B : World → Prop} {c : Nat} {u : World} (h : A u) : LastW A B c (fun _ => false) u :=
  ⟨fun _ => h, fun e => absurd e (by decide)⟩

/-- a row may be so that what it tells goes into its bits -/
def RwOk (r : Rw) : Prop := r.u ≤ 1000000 ∧ r.l ≤ 1 ∧ r.m ≤ 65535 ∧ r.s ≤ 16 ∧ r.m < r.l + 2 ^ r.s
instance (r : Rw) : Decidable (RwOk r) := by unfold RwOk; exact inferInstance
theorem rows_ok : (∀ r ∈ bT, RwOk r) ∧ (∀ r ∈ rT, RwOk r) ∧ ∀ r ∈ dT, RwOk r := by decide
theorem rowOf_ok {T : List Rw} (h : ∀ r ∈ T, RwOk r) (hT : TOk T) (c : Int) : RwOk (rowOf T c) := by
  unfold rowOf
  split
  · decide
  · rename_i hc
    have hl : c.toNat < T.length := by rw [hT.len]; omega
    rw [List.getD_eq_getElem?_getD, List.getElem?_eq_getElem hl]
    exact h _ (List.getElem_mem hl)
/-- the bits by which a code tells a number -/
def tdL (r : Rw) (n : Int) : List Nat := bitsN r.s (n.tdiv r.u - r.l).toNat
theorem tdL_len (r : Rw) (n : Int) : (tdL r n).length = r.s := bitsN_len _ _

set_option maxRecDepth 100000 in
set_option maxHeartbeats 4000000 in
theorem writeTold_any {W0 w : World} {b : Nat} {l : List Nat} (h : Wt W0 b l w) (hl : l.length ≤ 900) (R : Rw) (hR : RwOk R) (n : Int) (hn : I64 n) (ht : telP R n) :
    Calls Tryd.prog 29 #[.pointer (some ⟨b, 0, none⟩), rv R, iv n] w fun e u' => e = .returned (.tuple #[]) ∧ Wt W0 b (l ++ tdL R n) u' := by
  obtain ⟨ru, lo, m, s⟩ := R
  obtain ⟨k1, k2, k3, k4, k5⟩ := hR
  obtain ⟨t1, t2, t3, t4⟩ := ht
  simp only [rv] at *
  have hu : ¬ ((ru : Int) = 0) := by omega
  have hu2 : ¬ (ru = 0) := by omega
  have hw := tdiv_wrap hn ru (by omega)
  have hps : (m : Int) < lo + ((2 ^ s : Nat) : Int) := by exact_mod_cast k5
  have hPut := put_wt (h.nix ((Only.refl Nix w).alloc (.cells #[iv ru, iv lo, iv m, iv s] 59))) (by omega) s (n.tdiv ru - lo) (by omega) (by omega) (by omega)
  have HPut : Hid (∀ x, Wt W0 b l x → Calls Tryd.prog 25 #[.pointer (some ⟨b, 0, none⟩), iv s, iv (n.tdiv ru - lo)] x fun e u' => e = .returned (iv 0) ∧ Wt W0 b (l ++ tdL ⟨ru, lo, m, s⟩ n) u') := Lib.hid (fun x hx => put_wt hx (by omega) s (n.tdiv ru - lo) (by omega) (by omega) (by omega))
  have hw2 : IntKind.i64.wrap (n.tdiv ru - lo) = n.tdiv ru - lo := wraps_i64 _ (by omega) (by omega)
  have hBr := Box.new w 59 #[iv ru, iv lo, iv m, iv s]
  have hO := (Only.refl Nix w).alloc (.cells #[iv ru, iv lo, iv m, iv s] 59)
  have HW := Lib.hid (h.nix hO)
  generalize hW1 : w.alloc (.cells #[iv ru, iv lo, iv m, iv s] 59) = W1 at *
  have q0 := hBr.cell 0
  have q1 := hBr.cell 1
  have q3 := hBr.cell 3
  simp only [List.getElem?_toArray, List.getElem?_cons_zero, List.getElem?_cons_succ] at q0 q1 q3
  clear hPut h hBr hO t1 t2 t3 t4 k5 hps
  generalize hQ : n.tdiv ru = Q at *
  go_enter Tryd.func29, Tryd.ntmps29
  go_wp2
  have fr_R : ∀ j s, j < 11 → (([some 6, some 7, some 8, some 9, some 10, some 11, some 12, some 13, some 14, some 15, some 16] : List (Option Nat)).all fun d => d != some s) = true → ([some 6, some 7, some 8, some 9, some 10, some 11, some 12, some 13, some 14, some 15, some 16] : List (Option Nat)).getD j none ≠ some s := by
    intro j s hj ha e
    rw [List.getD_eq_getElem?_getD, List.getElem?_eq_getElem (by exact hj), Option.getD_some] at e
    have := List.all_eq_true.1 ha _ (List.getElem_mem (by exact hj))
    rw [e] at this
    simp at this
  refine region_tel (by kernel_rfl) (fun k0 => ([some 6, some 7, some 8, some 9, some 10, some 11, some 12, some 13, some 14, some 15, some 16] : List (Option Nat)).getD k0 none) (PL [eqP (.pointer (some ⟨b, 0, none⟩)),
      eqP (.pointer (some ⟨w.heap.size, 3, none⟩)),
      eqP (iv s),
      eqP (iv n),
      eqP (.pointer (some ⟨w.heap.size, 0, none⟩)),
      eqP (iv ru),
      eqP (iv Q),
      eqP (.pointer (some ⟨w.heap.size, 1, none⟩)),
      eqP (iv lo),
      eqP (iv (Q - lo)),
      eqP (iv 0)]) (fun _ _ => True) (LastW (Only Nix (W1)) (Wt W0 b (l ++ tdL ⟨ru, lo, m, s⟩ n)) 10) 17 11 rfl (by kernel_rfl) (by kernel_rfl) rfl (by kernel_rfl) (by kernel_rfl) (stab_all ⟨fun _ _ _ h _ => h, fun _ _ _ h _ => h, fun _ _ _ h _ => h, fun _ _ _ h _ => h, fun _ _ _ h _ => h, fun _ _ _ h _ => h, fun _ _ _ h _ => h, fun _ _ _ h _ => h, fun _ _ _ h _ => h, fun _ _ _ h _ => h, fun _ _ _ h _ => h, trivial⟩) (LastW.begin (Only.refl _ _).drew) ?stepsR (fun vs => [(6, vs 0), (7, vs 1), (8, vs 2), (9, vs 3), (10, vs 4), (11, vs 5), (12, vs 6), (13, vs 7), (14, vs 8), (15, vs 9), (16, vs 10)]) (fun vs => rfl) ?doneR
  case stepsR =>
    refine ⟨?_, ?_, ?_, ?_, ?_, ?_, ?_, ?_, ?_, ?_, ?_, trivial⟩
    · intro L vs A' u hW hL0 hnd K' hK
      have ny10 : L 10 = false := notYet hW.closed (j := 10) (by rfl) (k := 0) (by kernel_rfl) hL0
      have hS := hW.wi.s.old ny10
      have r0 : A'.tmps[0]? = some (.pointer (some ⟨b, 0, none⟩)) := (hW.out 0 (fun j hj => fr_R j 0 hj (by kernel_rfl))).trans rfl
      go_simp
      exact hK _ _ (by first | rfl | (show _ = _; simp)) trivial (LastW.same ny10 (by decide) hS)
    · intro L vs A' u hW hL0 hnd K' hK
      have ny2 : L 2 = false := notYet hW.closed (j := 2) (by rfl) (k := 1) (by kernel_rfl) hL0
      have ny10 : L 10 = false := notYet hW.closed (j := 10) (by rfl) (k := 2) (by kernel_rfl) ny2
      have hS := hW.wi.s.old ny10
      have r4 : A'.tmps[4]? = some (.pointer (some ⟨w.heap.size, 0, none⟩)) := (hW.out 4 (fun j hj => fr_R j 4 hj (by kernel_rfl))).trans rfl
      go_simp
      exact hK _ _ (by first | rfl | (show _ = _; simp)) trivial (LastW.same ny10 (by decide) hS)
    · intro L vs A' u hW hL0 hnd K' hK
      have ny10 : L 10 = false := notYet hW.closed (j := 10) (by rfl) (k := 2) (by kernel_rfl) hL0
      have hS := hW.wi.s.old ny10
      have r7 : A'.tmps[7]? = some (.pointer (some ⟨w.heap.size, 3, none⟩)) := by
        obtain ⟨x, e, h⟩ := hW.tel 1 7 (by decide) (hnd 1 (by kernel_rfl)) rfl
        rw [e]; exact congrArg some h
      have hc := U.cell_keep hS q3
      go_simp
      exact hK _ _ (rfl) trivial (LastW.same ny10 (by decide) hS)
    · intro L vs A' u hW hL0 hnd K' hK
      have ny6 : L 6 = false := notYet hW.closed (j := 6) (by rfl) (k := 3) (by kernel_rfl) hL0
      have ny9 : L 9 = false := notYet hW.closed (j := 9) (by rfl) (k := 6) (by kernel_rfl) ny6
      have ny10 : L 10 = false := notYet hW.closed (j := 10) (by rfl) (k := 9) (by kernel_rfl) ny9
      have hS := hW.wi.s.old ny10
      have r2 : A'.tmps[2]? = some (iv n) := (hW.out 2 (fun j hj => fr_R j 2 hj (by kernel_rfl))).trans rfl
      go_simp
      exact hK _ _ (by first | rfl | (show _ = _; simp)) trivial (LastW.same ny10 (by decide) hS)
    · intro L vs A' u hW hL0 hnd K' hK
      have ny5 : L 5 = false := notYet hW.closed (j := 5) (by rfl) (k := 4) (by kernel_rfl) hL0
      have ny6 : L 6 = false := notYet hW.closed (j := 6) (by rfl) (k := 5) (by kernel_rfl) ny5
      have ny9 : L 9 = false := notYet hW.closed (j := 9) (by rfl) (k := 6) (by kernel_rfl) ny6
      have ny10 : L 10 = false := notYet hW.closed (j := 10) (by rfl) (k := 9) (by kernel_rfl) ny9
      have hS := hW.wi.s.old ny10
      have r4 : A'.tmps[4]? = some (.pointer (some ⟨w.heap.size, 0, none⟩)) := (hW.out 4 (fun j hj => fr_R j 4 hj (by kernel_rfl))).trans rfl
      go_simp
      exact hK _ _ (by first | rfl | (show _ = _; simp)) trivial (LastW.same ny10 (by decide) hS)
    · intro L vs A' u hW hL0 hnd K' hK
      have ny6 : L 6 = false := notYet hW.closed (j := 6) (by rfl) (k := 5) (by kernel_rfl) hL0
      have ny9 : L 9 = false := notYet hW.closed (j := 9) (by rfl) (k := 6) (by kernel_rfl) ny6
      have ny10 : L 10 = false := notYet hW.closed (j := 10) (by rfl) (k := 9) (by kernel_rfl) ny9
      have hS := hW.wi.s.old ny10
      have r10 : A'.tmps[10]? = some (.pointer (some ⟨w.heap.size, 0, none⟩)) := by
        obtain ⟨x, e, h⟩ := hW.tel 4 10 (by decide) (hnd 4 (by kernel_rfl)) rfl
        rw [e]; exact congrArg some h
      have hc := U.cell_keep hS q0
      go_simp
      exact hK _ _ (rfl) trivial (LastW.same ny10 (by decide) hS)
    · intro L vs A' u hW hL0 hnd K' hK
      have ny9 : L 9 = false := notYet hW.closed (j := 9) (by rfl) (k := 6) (by kernel_rfl) hL0
      have ny10 : L 10 = false := notYet hW.closed (j := 10) (by rfl) (k := 9) (by kernel_rfl) ny9
      have hS := hW.wi.s.old ny10
      have r9 : A'.tmps[9]? = some (iv n) := by
        obtain ⟨x, e, h⟩ := hW.tel 3 9 (by decide) (hnd 3 (by kernel_rfl)) rfl
        rw [e]; exact congrArg some h
      have r11 : A'.tmps[11]? = some (iv ru) := by
        obtain ⟨x, e, h⟩ := hW.tel 5 11 (by decide) (hnd 5 (by kernel_rfl)) rfl
        rw [e]; exact congrArg some h
      go_simp
      exact hK _ _ (by first | rfl | (show _ = _; simp)) trivial (LastW.same ny10 (by decide) hS)
    · intro L vs A' u hW hL0 hnd K' hK
      have ny8 : L 8 = false := notYet hW.closed (j := 8) (by rfl) (k := 7) (by kernel_rfl) hL0
      have ny9 : L 9 = false := notYet hW.closed (j := 9) (by rfl) (k := 8) (by kernel_rfl) ny8
      have ny10 : L 10 = false := notYet hW.closed (j := 10) (by rfl) (k := 9) (by kernel_rfl) ny9
      have hS := hW.wi.s.old ny10
      have r4 : A'.tmps[4]? = some (.pointer (some ⟨w.heap.size, 0, none⟩)) := (hW.out 4 (fun j hj => fr_R j 4 hj (by kernel_rfl))).trans rfl
      go_simp
      exact hK _ _ (by first | rfl | (show _ = _; simp)) trivial (LastW.same ny10 (by decide) hS)
    · intro L vs A' u hW hL0 hnd K' hK
      have ny9 : L 9 = false := notYet hW.closed (j := 9) (by rfl) (k := 8) (by kernel_rfl) hL0
      have ny10 : L 10 = false := notYet hW.closed (j := 10) (by rfl) (k := 9) (by kernel_rfl) ny9
      have hS := hW.wi.s.old ny10
      have r13 : A'.tmps[13]? = some (.pointer (some ⟨w.heap.size, 1, none⟩)) := by
        obtain ⟨x, e, h⟩ := hW.tel 7 13 (by decide) (hnd 7 (by kernel_rfl)) rfl
        rw [e]; exact congrArg some h
      have hc := U.cell_keep hS q1
      go_simp
      exact hK _ _ (rfl) trivial (LastW.same ny10 (by decide) hS)
    · intro L vs A' u hW hL0 hnd K' hK
      have ny10 : L 10 = false := notYet hW.closed (j := 10) (by rfl) (k := 9) (by kernel_rfl) hL0
      have hS := hW.wi.s.old ny10
      have r12 : A'.tmps[12]? = some (iv Q) := by
        obtain ⟨x, e, h⟩ := hW.tel 6 12 (by decide) (hnd 6 (by kernel_rfl)) rfl
        rw [e]; exact congrArg some h
      have r14 : A'.tmps[14]? = some (iv lo) := by
        obtain ⟨x, e, h⟩ := hW.tel 8 14 (by decide) (hnd 8 (by kernel_rfl)) rfl
        rw [e]; exact congrArg some h
      go_simp
      exact hK _ _ (by first | rfl | (show _ = _; simp)) trivial (LastW.same ny10 (by decide) hS)
    · intro L vs A' u hW hL0 hnd K' hK
      have hS := hW.wi.s.old hL0
      have r6 : A'.tmps[6]? = some (.pointer (some ⟨b, 0, none⟩)) := by
        obtain ⟨x, e, h⟩ := hW.tel 0 6 (by decide) (hnd 0 (by kernel_rfl)) rfl
        rw [e]; exact congrArg some h
      have r8 : A'.tmps[8]? = some (iv s) := by
        obtain ⟨x, e, h⟩ := hW.tel 2 8 (by decide) (hnd 2 (by kernel_rfl)) rfl
        rw [e]; exact congrArg some h
      have r15 : A'.tmps[15]? = some (iv (Q - lo)) := by
        obtain ⟨x, e, h⟩ := hW.tel 9 15 (by decide) (hnd 9 (by kernel_rfl)) rfl
        rw [e]; exact congrArg some h
      have HCL := Lib.hid (HPut.out u (HW.out.nix hS))
      go_simp
      refine (HCL.out).mono ?_
      rintro _ u1 ⟨rfl, k⟩
      exact hK _ _ rfl trivial (LastW.fin k)
  case doneR =>
    intro L vs u2 hS hP hall
    have HK := Lib.hid (hS.new (hall 10 (by decide)))
    clear hS hP hall fr_R
    simp only [putV, List.foldl_cons, List.foldl_nil, List.setIfInBounds_toArray, List.set_cons_zero, List.set_cons_succ]
    go_wp2
    go_end0
    exact ⟨rfl, HK.out⟩
end Go.Proofs.YteahiigfclabfaaDoor.H
