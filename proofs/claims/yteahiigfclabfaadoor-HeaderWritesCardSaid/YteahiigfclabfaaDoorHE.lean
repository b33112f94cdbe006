/-
  Package header, a Number: number.
-/
import Derived.Test.YteahiigfclabfaaDoorHD
namespace Go.Proofs.YteahiigfclabfaaDoor.H
open Go.RowKit

theorem src_dropA {w : World} {A : Option Addr} {n c k : Nat} {bs : List Nat} (h : U.Src w (.slice A n c) bs) (hk : k ≤ n) (hnc : n ≤ c) : U.Src w (.slice (if c = k then A else A.map (·.add k)) (n - k) (c - k)) (bs.drop k) := by
  have hn := h.len
  obtain ⟨A', c', hv, hc⟩ := h.form
  injection hv with e1 _ _
  subst e1
  refine ⟨⟨if c = k then A else A.map (·.add k), c - k, by rw [List.length_drop, hn], fun j hj => ?_⟩, by have := h.small; rw [List.length_drop]; omega, fun x hx => h.lt x (List.mem_of_mem_drop hx)⟩
  rw [List.length_drop] at hj
  obtain ⟨ad, rfl, hx⟩ := hc (k + j) (by omega)
  rw [if_neg (by omega)]
  refine ⟨ad.add k, rfl, ?_⟩
  rw [List.getElem_drop, ← hx]
  congr 1
  unfold Addr.add
  split <;> split <;> simp_all [Nat.add_assoc]
/-- what Get answers behind the first four bytes -/
def gN (bs : List Nat) : Nat := (U.getOf (bs.drop 4)).1
def gS (bs : List Nat) : Nat := (U.getOf (bs.drop 4)).2.1
def gE (bs : List Nat) : Nat := (U.getOf (bs.drop 4)).2.2
theorem g_bd (bs : List Nat) : gN bs < 68719476736 ∧ gS bs ≤ 7 ∧ (gE bs = 0 → 1 ≤ gS bs ∧ gS bs + 4 ≤ bs.length ∧ (bs.drop 4).take (gS bs) = U.cd (gN bs)) := by
  unfold gN gS gE
  rcases U.get_back (bs.drop 4) with ⟨h1, h2, _⟩ | ⟨m, h1, h2, h3, h4⟩
  · rw [h2]
    exact ⟨by show 0 < 68719476736; omega, by show 0 ≤ 7; omega, fun e => absurd e h1⟩
  · rw [h2]
    have := U.szOf_bd m
    rw [List.length_drop] at h3
    exact ⟨h1, this.2, fun _ => ⟨this.1, by show U.szOf m + 4 ≤ bs.length; omega, h4⟩⟩
/-- number's error -/
def nuE (bs : List Nat) (v : Bool) : Int := fstE [gE bs, un (decide (mayN v (gN bs))) 10, seekE bs (32 + 8 * gS bs)]
def NuP (W0 : World) (r : Nat) (bs : List Nat) (v : Bool) (u : World) (e : Ending) (u' : World) : Prop :=
  e = .returned (.tuple #[iv (gN bs), iv (nuE bs v)]) ∧ Only (Just r) u u' ∧ (nuE bs v = 0 → Rt W0 r bs (32 + 8 * gS bs) u')
def NuQ (W0 : World) (r : Nat) (bs : List Nat) (U0 : World) (V X : Int) (p : Nat) (e : Ending) (u' : World) : Prop :=
  e = .returned (.tuple #[iv V, iv X]) ∧ Only (Just r) U0 u' ∧ Rt W0 r bs p u'
set_option maxRecDepth 100000 in
set_option maxHeartbeats 4000000 in
theorem nu_raw {W0 U0 : World} (hL : LaidH W0) {r : Nat} {bs : List Nat} (h : Rt W0 r bs 32 U0) (A : Option Addr) (m c : Nat) (hs : U.Src W0 (.slice A m c) bs) (hmc : m ≤ c) (v : Bool) :
    Calls Tryd.prog 62 #[rdv r A m c, .bool v] U0 (NuQ W0 r bs U0 (gN bs) (nuE bs v) (seekA bs 32 (32 + 8 * gS bs))) := by
  have hm := h.mem
  have h4 := h.le
  obtain ⟨hg1, hg2, _⟩ := g_bd bs
  have hlen := hs.len
  have HG : Hid (∀ x A' c', LaidH x → U.Src x (.slice A' (bs.drop 4).length c') (bs.drop 4) → Calls Tryd.prog 70 #[.slice A' (bs.drop 4).length c'] x fun e w' => e = .returned (.tuple #[iv (gN bs), iv (gS bs), iv (gE bs)]) ∧ Only Nix x w') := Lib.hid (fun x A' c' hx h => U.get_any hx.coded A' c' _ h)
  have HSk : Hid (∀ x, Rt W0 r bs 32 x → Calls Tryd.prog 71 #[.pointer (some ⟨r, 0, none⟩), iv (32 + 8 * gS bs)] x fun e u' => e = .returned (iv (seekE bs (32 + 8 * gS bs))) ∧ Rt W0 r bs (seekA bs 32 (32 + 8 * gS bs)) u' ∧ Only (Just r) x u') := Lib.hid (fun x hx => seek_rt hx _)
  have HAt : Hid (∀ x, Rt W0 r bs 32 x → Calls Tryd.prog 45 #[.pointer (some ⟨r, 0, none⟩)] x fun e u' => e = .returned (iv 32) ∧ x = u') := Lib.hid (fun x hx => at_rt hx)
  have HMb : Hid (∀ x, Calls Tryd.prog 36 #[.bool v, iv (gN bs)] x fun e w' => e = .returned (.bool (decide (mayN v (gN bs)))) ∧ x = w') := Lib.hid (fun x => mayBe_any v _ x)
  have HE : Hid (nuE bs v = fstE [gE bs, un (decide (mayN v (gN bs))) 10, seekE bs (32 + 8 * gS bs)]) := Lib.hid rfl
  have HDr : Hid (U.Src W0 (.slice (if c = 4 then A else A.map (·.add 4)) (m - 4) (c - 4)) (bs.drop 4)) := Lib.hid (src_dropA hs (by omega) hmc)
  have HLx : Hid (∀ a x, Rt W0 r bs a x → LaidH x) := Lib.hid (fun a x hx => hL.nix hx.only)
  generalize decide (mayN v (gN bs)) = B1 at *
  generalize seekA bs 32 (32 + 8 * gS bs) = p1 at *
  generalize seekE bs (32 + 8 * gS bs) = E3 at *
  generalize nuE bs v = F at *
  generalize gN bs = G1 at *
  generalize gS bs = G2 at *
  generalize gE bs = G3 at *
  generalize bs.drop 4 = ds at *
  have HQ : Hid (∀ e u', e = .returned (.tuple #[iv G1, iv F]) ∧ Only (Just r) U0 u' ∧ Rt W0 r bs p1 u' → NuQ W0 r bs U0 G1 F p1 e u') := Lib.hid (fun e u' hh => hh)
  have HO1 := Lib.hid ((Only.refl Nix U0).alloc (.cells (rdc r A m c) 79))
  have HR1 := Lib.hid (h.nix HO1.out)
  have HB := Lib.hid (Box.new U0 79 (rdc r A m c))
  have HN : Hid (¬ Just r U0.heap.size) := Lib.hid (fun e => by have e2 : U0.heap.size = r := e; omega)
  have q0 : (U0.alloc (.cells (rdc r A m c) 79)).cell? ⟨U0.heap.size, 0, none⟩ = some (.pointer (some ⟨r, 0, none⟩)) := HB.out.cell 0
  have q1 : (U0.alloc (.cells (rdc r A m c) 79)).cell? ⟨U0.heap.size, 1, none⟩ = some (.slice A m c) := HB.out.cell 1
  have hm4 : 4 ≤ m := by omega
  have hc4 : 4 ≤ c := by omega
  have hm4i : (4 : Int) ≤ (m : Int) := by omega
  clear h hL hlen h4 hs
  generalize hW1 : U0.alloc (.cells (rdc r A m c) 79) = W1 at *
  go_enter Tryd.func62, Tryd.ntmps62
  simp only [rdv, rdc] at *
  go_wp2
  have fr_R : ∀ j s, j < 15 → (([some 10, some 11, some 12, some 13, some 14, some 15, some 16, some 17, some 9, some 18, some 19, some 20, some 6, some 7, some 8] : List (Option Nat)).all fun d => d != some s) = true → ([some 10, some 11, some 12, some 13, some 14, some 15, some 16, some 17, some 9, some 18, some 19, some 20, some 6, some 7, some 8] : List (Option Nat)).getD j none ≠ some s := by
    intro j s hj ha e
    rw [List.getD_eq_getElem?_getD, List.getElem?_eq_getElem (by exact hj), Option.getD_some] at e
    have := List.all_eq_true.1 ha _ (List.getElem_mem (by exact hj))
    rw [e] at this
    simp at this
  refine region_tel (by kernel_rfl) (fun k0 => ([some 10, some 11, some 12, some 13, some 14, some 15, some 16, some 17, some 9, some 18, some 19, some 20, some 6, some 7, some 8] : List (Option Nat)).getD k0 none) (PL [eqP (.pointer (some ⟨U0.heap.size, 1, none⟩)),
      eqP (.slice A m c),
      eqP (.pointer (some ⟨U0.heap.size, 0, none⟩)),
      eqP (.pointer (some ⟨r, 0, none⟩)),
      eqP (iv 32),
      eqP (iv 4),
      (fun v x => U.Src x v ds),
      eqP (.tuple #[iv G1, iv G2, iv G3]),
      eqP (.tuple #[iv G1, iv G2, iv G3]),
      eqP (iv G1),
      eqP (iv G2),
      eqP (iv G3),
      eqP (iv G1),
      eqP (iv G2),
      eqP (iv G3)]) (fun u u' => Only Nix u u') (fun _ u => Only Nix (W1) u) 38 15 rfl (by kernel_rfl) (by kernel_rfl) rfl (by kernel_rfl) (by kernel_rfl) (stab_all ⟨fun _ _ _ h _ => h, fun _ _ _ h _ => h, fun _ _ _ h _ => h, fun _ _ _ h _ => h, fun _ _ _ h _ => h, fun _ _ _ h _ => h, fun _ _ _ h ho => h.nix ho, fun _ _ _ h _ => h, fun _ _ _ h _ => h, fun _ _ _ h _ => h, fun _ _ _ h _ => h, fun _ _ _ h _ => h, fun _ _ _ h _ => h, fun _ _ _ h _ => h, fun _ _ _ h _ => h, trivial⟩) ((Only.refl _ _).drew) ?stepsR (fun vs => [(10, vs 0), (11, vs 1), (12, vs 2), (13, vs 3), (14, vs 4), (15, vs 5), (16, vs 6), (17, vs 7), (9, vs 8), (18, vs 9), (19, vs 10), (20, vs 11), (6, vs 12), (7, vs 13), (8, vs 14)]) (fun vs => rfl) ?doneR
  case stepsR =>
    refine ⟨?_, ?_, ?_, ?_, ?_, ?_, ?_, ?_, ?_, ?_, ?_, ?_, ?_, ?_, ?_, trivial⟩
    · intro L vs A' u hW hL0 hnd K' hK
      have hS := hW.wi.s
      have r2 : A'.tmps[2]? = some (.pointer (some ⟨U0.heap.size, 0, none⟩)) := (hW.out 2 (fun j hj => fr_R j 2 hj (by kernel_rfl))).trans rfl
      go_simp
      exact hK _ _ (by first | rfl | (show _ = _; simp)) (Only.refl _ _) hS
    · intro L vs A' u hW hL0 hnd K' hK
      have hS := hW.wi.s
      have r10 : A'.tmps[10]? = some (.pointer (some ⟨U0.heap.size, 1, none⟩)) := by
        obtain ⟨x, e, h⟩ := hW.tel 0 10 (by decide) (hnd 0 (by kernel_rfl)) rfl
        rw [e]; exact congrArg some h
      have hc := U.cell_keep hS q1
      go_simp
      exact hK _ _ (rfl) (Only.refl _ _) hS
    · intro L vs A' u hW hL0 hnd K' hK
      have hS := hW.wi.s
      have r2 : A'.tmps[2]? = some (.pointer (some ⟨U0.heap.size, 0, none⟩)) := (hW.out 2 (fun j hj => fr_R j 2 hj (by kernel_rfl))).trans rfl
      go_simp
      exact hK _ _ (by first | rfl | (show _ = _; simp)) (Only.refl _ _) hS
    · intro L vs A' u hW hL0 hnd K' hK
      have hS := hW.wi.s
      have r12 : A'.tmps[12]? = some (.pointer (some ⟨U0.heap.size, 0, none⟩)) := by
        obtain ⟨x, e, h⟩ := hW.tel 2 12 (by decide) (hnd 2 (by kernel_rfl)) rfl
        rw [e]; exact congrArg some h
      have hc := U.cell_keep hS q0
      go_simp
      exact hK _ _ (rfl) (Only.refl _ _) hS
    · intro L vs A' u hW hL0 hnd K' hK
      have hS := hW.wi.s
      have r13 : A'.tmps[13]? = some (.pointer (some ⟨r, 0, none⟩)) := by
        obtain ⟨x, e, h⟩ := hW.tel 3 13 (by decide) (hnd 3 (by kernel_rfl)) rfl
        rw [e]; exact congrArg some h
      have HCL := Lib.hid (HAt.out u (HR1.out.nix hS))
      go_simp
      refine (HCL.out).mono ?_
      rintro _ u' ⟨rfl, rfl⟩
      exact hK _ _ (rfl) (Only.refl _ _) hS
    · intro L vs A' u hW hL0 hnd K' hK
      have hS := hW.wi.s
      have r14 : A'.tmps[14]? = some (iv 32) := by
        obtain ⟨x, e, h⟩ := hW.tel 4 14 (by decide) (hnd 4 (by kernel_rfl)) rfl
        rw [e]; exact congrArg some h
      go_simp
      exact hK _ _ (by first | rfl | (show _ = _; simp)) (Only.refl _ _) hS
    · intro L vs A' u hW hL0 hnd K' hK
      have hS := hW.wi.s
      have r11 : A'.tmps[11]? = some (.slice A m c) := by
        obtain ⟨x, e, h⟩ := hW.tel 1 11 (by decide) (hnd 1 (by kernel_rfl)) rfl
        rw [e]; exact congrArg some h
      have r15 : A'.tmps[15]? = some (iv 4) := by
        obtain ⟨x, e, h⟩ := hW.tel 5 15 (by decide) (hnd 5 (by kernel_rfl)) rfl
        rw [e]; exact congrArg some h
      go_simp
      refine hK _ _ ?_ (Only.refl _ _) hS
      exact HDr.out.nix (HR1.out.only.trans hS)
    · intro L vs A' u hW hL0 hnd K' hK
      have hS := hW.wi.s
      obtain ⟨x16, r16, p16⟩ := hW.tel 6 16 (by decide) (hnd 6 (by kernel_rfl)) rfl
      obtain ⟨A', c', e16⟩ := p16.slice
      subst e16
      have HCL := Lib.hid (HG.out u A' c' (HLx.out _ _ (HR1.out.nix hS)) p16)
      go_simp
      refine (HCL.out).mono ?_
      rintro _ u' ⟨rfl, ho'⟩
      exact hK _ _ rfl ho' (hS.trans ho')
    · intro L vs A' u hW hL0 hnd K' hK
      have hS := hW.wi.s
      have r17 : A'.tmps[17]? = some (.tuple #[iv G1, iv G2, iv G3]) := by
        obtain ⟨x, e, h⟩ := hW.tel 7 17 (by decide) (hnd 7 (by kernel_rfl)) rfl
        rw [e]; exact congrArg some h
      go_simp
      exact hK _ _ (by first | rfl | (show _ = _; simp)) (Only.refl _ _) hS
    · intro L vs A' u hW hL0 hnd K' hK
      have hS := hW.wi.s
      have r9 : A'.tmps[9]? = some (.tuple #[iv G1, iv G2, iv G3]) := by
        obtain ⟨x, e, h⟩ := hW.tel 8 9 (by decide) (hnd 8 (by kernel_rfl)) rfl
        rw [e]; exact congrArg some h
      go_simp
      exact hK _ _ (by first | rfl | (show _ = _; simp)) (Only.refl _ _) hS
    · intro L vs A' u hW hL0 hnd K' hK
      have hS := hW.wi.s
      have r9 : A'.tmps[9]? = some (.tuple #[iv G1, iv G2, iv G3]) := by
        obtain ⟨x, e, h⟩ := hW.tel 8 9 (by decide) (hnd 8 (by kernel_rfl)) rfl
        rw [e]; exact congrArg some h
      go_simp
      exact hK _ _ (by first | rfl | (show _ = _; simp)) (Only.refl _ _) hS
    · intro L vs A' u hW hL0 hnd K' hK
      have hS := hW.wi.s
      have r9 : A'.tmps[9]? = some (.tuple #[iv G1, iv G2, iv G3]) := by
        obtain ⟨x, e, h⟩ := hW.tel 8 9 (by decide) (hnd 8 (by kernel_rfl)) rfl
        rw [e]; exact congrArg some h
      go_simp
      exact hK _ _ (by first | rfl | (show _ = _; simp)) (Only.refl _ _) hS
    · intro L vs A' u hW hL0 hnd K' hK
      have hS := hW.wi.s
      have r18 : A'.tmps[18]? = some (iv G1) := by
        obtain ⟨x, e, h⟩ := hW.tel 9 18 (by decide) (hnd 9 (by kernel_rfl)) rfl
        rw [e]; exact congrArg some h
      go_simp
      exact hK _ _ (by first | rfl | (show _ = _; simp)) (Only.refl _ _) hS
    · intro L vs A' u hW hL0 hnd K' hK
      have hS := hW.wi.s
      have r19 : A'.tmps[19]? = some (iv G2) := by
        obtain ⟨x, e, h⟩ := hW.tel 10 19 (by decide) (hnd 10 (by kernel_rfl)) rfl
        rw [e]; exact congrArg some h
      go_simp
      exact hK _ _ (by first | rfl | (show _ = _; simp)) (Only.refl _ _) hS
    · intro L vs A' u hW hL0 hnd K' hK
      have hS := hW.wi.s
      have r20 : A'.tmps[20]? = some (iv G3) := by
        obtain ⟨x, e, h⟩ := hW.tel 11 20 (by decide) (hnd 11 (by kernel_rfl)) rfl
        rw [e]; exact congrArg some h
      go_simp
      exact hK _ _ (by first | rfl | (show _ = _; simp)) (Only.refl _ _) hS
  case doneR =>
    intro L vs u1 hS hP hall
    have e12 : vs 12 = iv G1 := hP 12 (by decide)
    have e13 : vs 13 = iv G2 := hP 13 (by decide)
    have e14 : vs 14 = iv G3 := hP 14 (by decide)
    have HR2 := Lib.hid (HR1.out.nix hS)
    have HO2 := Lib.hid (HO1.out.trans hS)
    have HB2 := Lib.hid (HB.out.only hS (fun e => e))
    have k0 : u1.cell? ⟨U0.heap.size, 0, none⟩ = some (.pointer (some ⟨r, 0, none⟩)) := HB2.out.cell 0
    clear hS hP hall fr_R q0 q1
    simp only [putV, List.foldl_cons, List.foldl_nil, List.setIfInBounds_toArray, List.set_cons_zero, List.set_cons_succ]
    rw [e12, e13, e14]
    generalize vs 0 = y0, vs 1 = y1, vs 2 = y2, vs 3 = y3, vs 4 = y4, vs 5 = y5, vs 6 = y6, vs 7 = y7, vs 8 = y8, vs 9 = y9, vs 10 = y10, vs 11 = y11
    clear e12 e13 e14
    have hw1 : IntKind.i64.wrap (8 * (G2 : Int)) = 8 * (G2 : Int) := wraps_i64 _ (by omega) (by omega)
    have hw2 : IntKind.i64.wrap (32 + 8 * (G2 : Int)) = 32 + 8 * (G2 : Int) := wraps_i64 _ (by omega) (by omega)
    go_wp2
    have fr_Q : ∀ j s, j < 19 → (([some 21, some 22, some 23, some 24, some 25, some 26, some 27, some 28, some 29, some 30, some 31, some 32, some 33, some 34, some 35, some 36, some 37, some 4, some 5] : List (Option Nat)).all fun d => d != some s) = true → ([some 21, some 22, some 23, some 24, some 25, some 26, some 27, some 28, some 29, some 30, some 31, some 32, some 33, some 34, some 35, some 36, some 37, some 4, some 5] : List (Option Nat)).getD j none ≠ some s := by
      intro j s hj ha e
      rw [List.getD_eq_getElem?_getD, List.getElem?_eq_getElem (by exact hj), Option.getD_some] at e
      have := List.all_eq_true.1 ha _ (List.getElem_mem (by exact hj))
      rw [e] at this
      simp at this
    refine region_tel (by kernel_rfl) (fun k0 => ([some 21, some 22, some 23, some 24, some 25, some 26, some 27, some 28, some 29, some 30, some 31, some 32, some 33, some 34, some 35, some 36, some 37, some 4, some 5] : List (Option Nat)).getD k0 none) (PL [eqP (iv G1),
      eqP (iv G3),
      eqP (.bool v),
      eqP (iv G1),
      eqP (.bool B1),
      eqP (iv (un B1 10)),
      eqP (.pointer (some ⟨U0.heap.size, 0, none⟩)),
      eqP (.pointer (some ⟨r, 0, none⟩)),
      eqP (.pointer (some ⟨U0.heap.size, 0, none⟩)),
      eqP (.pointer (some ⟨r, 0, none⟩)),
      eqP (iv 32),
      eqP (iv G2),
      eqP (iv (8 * (G2 : Int))),
      eqP (iv (32 + 8 * (G2 : Int))),
      eqP (iv E3),
      (fun v x => EsN r x v [(G3 : Int), un B1 10, E3]),
      eqP (iv F),
      eqP (iv G1),
      eqP (iv F)]) (fun x y => Only (Just r) x y) (fun L x => RS W0 r bs [(14, p1)] 32 L x ∧ Only (Just r) u1 x) 38 19 rfl (by kernel_rfl) (by kernel_rfl) rfl (by kernel_rfl) (by kernel_rfl) (stab_all ⟨fun _ _ _ h _ => h, fun _ _ _ h _ => h, fun _ _ _ h _ => h, fun _ _ _ h _ => h, fun _ _ _ h _ => h, fun _ _ _ h _ => h, fun _ _ _ h _ => h, fun _ _ _ h _ => h, fun _ _ _ h _ => h, fun _ _ _ h _ => h, fun _ _ _ h _ => h, fun _ _ _ h _ => h, fun _ _ _ h _ => h, fun _ _ _ h _ => h, fun _ _ _ h _ => h, fun _ _ _ h ho => h.only ho, fun _ _ _ h _ => h, fun _ _ _ h _ => h, fun _ _ _ h _ => h, trivial⟩) (⟨RS.to (HR2.out.nix (Only.refl _ _).drew) rfl, (Only.refl _ _).drew⟩) ?stepsQ (fun vs => [(21, vs 0), (22, vs 1), (23, vs 2), (24, vs 3), (25, vs 4), (26, vs 5), (27, vs 6), (28, vs 7), (29, vs 8), (30, vs 9), (31, vs 10), (32, vs 11), (33, vs 12), (34, vs 13), (35, vs 14), (36, vs 15), (37, vs 16), (4, vs 17), (5, vs 18)]) (fun vs => rfl) ?doneQ
    case stepsQ =>
      refine ⟨?_, ?_, ?_, ?_, ?_, ?_, ?_, ?_, ?_, ?_, ?_, ?_, ?_, ?_, ?_, ?_, ?_, ?_, ?_, trivial⟩
      · intro L vs A' u hW hL0 hnd K' hK
        have hS := hW.wi.s
        have r6 : A'.tmps[6]? = some (iv G1) := (hW.out 6 (fun j hj => fr_Q j 6 hj (by kernel_rfl))).trans rfl
        go_simp
        exact hK _ _ (by first | rfl | (show _ = _; simp)) (Only.refl _ _) (sameS rfl hS)
      · intro L vs A' u hW hL0 hnd K' hK
        have hS := hW.wi.s
        have r8 : A'.tmps[8]? = some (iv G3) := (hW.out 8 (fun j hj => fr_Q j 8 hj (by kernel_rfl))).trans rfl
        go_simp
        exact hK _ _ (by first | rfl | (show _ = _; simp)) (Only.refl _ _) (sameS rfl hS)
      · intro L vs A' u hW hL0 hnd K' hK
        have hS := hW.wi.s
        have r1 : A'.tmps[1]? = some (.bool v) := (hW.out 1 (fun j hj => fr_Q j 1 hj (by kernel_rfl))).trans rfl
        go_simp
        exact hK _ _ (by first | rfl | (show _ = _; simp)) (Only.refl _ _) (sameS rfl hS)
      · intro L vs A' u hW hL0 hnd K' hK
        have hS := hW.wi.s
        have r6 : A'.tmps[6]? = some (iv G1) := (hW.out 6 (fun j hj => fr_Q j 6 hj (by kernel_rfl))).trans rfl
        go_simp
        exact hK _ _ (by first | rfl | (show _ = _; simp)) (Only.refl _ _) (sameS rfl hS)
      · intro L vs A' u hW hL0 hnd K' hK
        have hS := hW.wi.s
        have r23 : A'.tmps[23]? = some (.bool v) := by
          obtain ⟨x, e, h⟩ := hW.tel 2 23 (by decide) (hnd 2 (by kernel_rfl)) rfl
          rw [e]; exact congrArg some h
        have r24 : A'.tmps[24]? = some (iv G1) := by
          obtain ⟨x, e, h⟩ := hW.tel 3 24 (by decide) (hnd 3 (by kernel_rfl)) rfl
          rw [e]; exact congrArg some h
        have HCL := Lib.hid (HMb.out u)
        go_simp
        refine (HCL.out).mono ?_
        rintro _ u' ⟨rfl, rfl⟩
        exact hK _ _ (rfl) (Only.refl _ _) (sameS rfl hS)
      · intro L vs A' u hW hL0 hnd K' hK
        have hS := hW.wi.s
        have r25 : A'.tmps[25]? = some (.bool B1) := by
          obtain ⟨x, e, h⟩ := hW.tel 4 25 (by decide) (hnd 4 (by kernel_rfl)) rfl
          rw [e]; exact congrArg some h
        have HCL := Lib.hid (unless_any B1 10 u)
        go_simp
        refine (HCL.out).mono ?_
        rintro _ u' ⟨rfl, rfl⟩
        exact hK _ _ (rfl) (Only.refl _ _) (sameS rfl hS)
      · intro L vs A' u hW hL0 hnd K' hK
        have hS := hW.wi.s
        have r2 : A'.tmps[2]? = some (.pointer (some ⟨U0.heap.size, 0, none⟩)) := (hW.out 2 (fun j hj => fr_Q j 2 hj (by kernel_rfl))).trans rfl
        go_simp
        exact hK _ _ (by first | rfl | (show _ = _; simp)) (Only.refl _ _) (sameS rfl hS)
      · intro L vs A' u hW hL0 hnd K' hK
        have hS := hW.wi.s
        have r27 : A'.tmps[27]? = some (.pointer (some ⟨U0.heap.size, 0, none⟩)) := by
          obtain ⟨x, e, h⟩ := hW.tel 6 27 (by decide) (hnd 6 (by kernel_rfl)) rfl
          rw [e]; exact congrArg some h
        have hc := U.cell_only hS.2 k0 HN.out
        go_simp
        exact hK _ _ (rfl) (Only.refl _ _) (sameS rfl hS)
      · intro L vs A' u hW hL0 hnd K' hK
        have hS := hW.wi.s
        have r2 : A'.tmps[2]? = some (.pointer (some ⟨U0.heap.size, 0, none⟩)) := (hW.out 2 (fun j hj => fr_Q j 2 hj (by kernel_rfl))).trans rfl
        go_simp
        exact hK _ _ (by first | rfl | (show _ = _; simp)) (Only.refl _ _) (sameS rfl hS)
      · intro L vs A' u hW hL0 hnd K' hK
        have hS := hW.wi.s
        have r29 : A'.tmps[29]? = some (.pointer (some ⟨U0.heap.size, 0, none⟩)) := by
          obtain ⟨x, e, h⟩ := hW.tel 8 29 (by decide) (hnd 8 (by kernel_rfl)) rfl
          rw [e]; exact congrArg some h
        have hc := U.cell_only hS.2 k0 HN.out
        go_simp
        exact hK _ _ (rfl) (Only.refl _ _) (sameS rfl hS)
      · intro L vs A' u hW hL0 hnd K' hK
        have hS := hW.wi.s
        have ny13 : L 13 = false := notYet hW.closed (j := 13) (by rfl) (k := 10) (by kernel_rfl) hL0
        have ny14 : L 14 = false := notYet hW.closed (j := 14) (by rfl) (k := 13) (by kernel_rfl) ny13
        have r30 : A'.tmps[30]? = some (.pointer (some ⟨r, 0, none⟩)) := by
          obtain ⟨x, e, h⟩ := hW.tel 9 30 (by decide) (hnd 9 (by kernel_rfl)) rfl
          rw [e]; exact congrArg some h
        have HCL := Lib.hid (HAt.out u (RS.out hS.1 (by simp [posL, ny14])))
        go_simp
        refine (HCL.out).mono ?_
        rintro _ u' ⟨rfl, rfl⟩
        exact hK _ _ rfl (Only.refl _ _) (sameS rfl hS)
      · intro L vs A' u hW hL0 hnd K' hK
        have hS := hW.wi.s
        have r7 : A'.tmps[7]? = some (iv G2) := (hW.out 7 (fun j hj => fr_Q j 7 hj (by kernel_rfl))).trans rfl
        go_simp
        exact hK _ _ (by first | rfl | (show _ = _; simp)) (Only.refl _ _) (sameS rfl hS)
      · intro L vs A' u hW hL0 hnd K' hK
        have hS := hW.wi.s
        have r32 : A'.tmps[32]? = some (iv G2) := by
          obtain ⟨x, e, h⟩ := hW.tel 11 32 (by decide) (hnd 11 (by kernel_rfl)) rfl
          rw [e]; exact congrArg some h
        go_simp
        exact hK _ _ (by first | rfl | (show _ = _; simp)) (Only.refl _ _) (sameS rfl hS)
      · intro L vs A' u hW hL0 hnd K' hK
        have hS := hW.wi.s
        have r31 : A'.tmps[31]? = some (iv 32) := by
          obtain ⟨x, e, h⟩ := hW.tel 10 31 (by decide) (hnd 10 (by kernel_rfl)) rfl
          rw [e]; exact congrArg some h
        have r33 : A'.tmps[33]? = some (iv (8 * (G2 : Int))) := by
          obtain ⟨x, e, h⟩ := hW.tel 12 33 (by decide) (hnd 12 (by kernel_rfl)) rfl
          rw [e]; exact congrArg some h
        go_simp
        exact hK _ _ (by first | rfl | (show _ = _; simp)) (Only.refl _ _) (sameS rfl hS)
      · intro L vs A' u hW hL0 hnd K' hK
        have hS := hW.wi.s
        have r28 : A'.tmps[28]? = some (.pointer (some ⟨r, 0, none⟩)) := by
          obtain ⟨x, e, h⟩ := hW.tel 7 28 (by decide) (hnd 7 (by kernel_rfl)) rfl
          rw [e]; exact congrArg some h
        have r34 : A'.tmps[34]? = some (iv (32 + 8 * (G2 : Int))) := by
          obtain ⟨x, e, h⟩ := hW.tel 13 34 (by decide) (hnd 13 (by kernel_rfl)) rfl
          rw [e]; exact congrArg some h
        have HCL := Lib.hid (HSk.out u (RS.out hS.1 (by simp [posL, hL0])))
        go_simp
        refine (HCL.out).mono ?_
        rintro _ u' ⟨rfl, hr, ho'⟩
        exact hK _ _ rfl ho' ⟨RS.to hr (by simp [posL, andOne]), hS.2.trans ho'⟩
      · intro L vs A' u hW hL0 hnd K' hK
        have hS := hW.wi.s
        have r22 : A'.tmps[22]? = some (iv G3) := by
          obtain ⟨x, e, h⟩ := hW.tel 1 22 (by decide) (hnd 1 (by kernel_rfl)) rfl
          rw [e]; exact congrArg some h
        have r26 : A'.tmps[26]? = some (iv (un B1 10)) := by
          obtain ⟨x, e, h⟩ := hW.tel 5 26 (by decide) (hnd 5 (by kernel_rfl)) rfl
          rw [e]; exact congrArg some h
        have r35 : A'.tmps[35]? = some (iv E3) := by
          obtain ⟨x, e, h⟩ := hW.tel 14 35 (by decide) (hnd 14 (by kernel_rfl)) rfl
          rw [e]; exact congrArg some h
        go_simp
        exact hK _ _ (show EsN r _ _ [(G3 : Int), un B1 10, E3] from esn_new hS.1.rt.mem _ [(G3 : Int), un B1 10, E3] (by show 3 ≤ 1000; decide)) ((Only.refl _ _).alloc _) (sameS rfl (nixS hS ((Only.refl _ _).alloc _)))
      · intro L vs A' u hW hL0 hnd K' hK
        have hS := hW.wi.s
        obtain ⟨x36, r36, p36⟩ := hW.tel 15 36 (by decide) (hnd 15 (by kernel_rfl)) rfl
        have HCL := Lib.hid (first_any x36 _ p36.src)
        go_simp
        refine (HCL.out).mono ?_
        rintro _ u' ⟨rfl, rfl⟩
        exact hK _ _ (congrArg iv HE.out.symm) (Only.refl _ _) (sameS rfl hS)
      · intro L vs A' u hW hL0 hnd K' hK
        have hS := hW.wi.s
        have r21 : A'.tmps[21]? = some (iv G1) := by
          obtain ⟨x, e, h⟩ := hW.tel 0 21 (by decide) (hnd 0 (by kernel_rfl)) rfl
          rw [e]; exact congrArg some h
        go_simp
        exact hK _ _ (by first | rfl | (show _ = _; simp)) (Only.refl _ _) (sameS rfl hS)
      · intro L vs A' u hW hL0 hnd K' hK
        have hS := hW.wi.s
        have r37 : A'.tmps[37]? = some (iv F) := by
          obtain ⟨x, e, h⟩ := hW.tel 16 37 (by decide) (hnd 16 (by kernel_rfl)) rfl
          rw [e]; exact congrArg some h
        go_simp
        exact hK _ _ (by first | rfl | (show _ = _; simp)) (Only.refl _ _) (sameS rfl hS)
    case doneQ =>
      intro L vs x hS hP hall
      have e17 : vs 17 = iv G1 := hP 17 (by decide)
      have e18 : vs 18 = iv F := hP 18 (by decide)
      have HR4 := Lib.hid (RS.out hS.1 (by simp [posL, hall 14 (by decide)]) : Rt W0 r bs p1 x)
      have HO4 := Lib.hid (HO2.out.nix.trans hS.2)
      clear hS hP hall fr_Q
      simp only [putV, List.foldl_cons, List.foldl_nil, List.setIfInBounds_toArray, List.set_cons_zero, List.set_cons_succ]
      rw [e17, e18]
      go_wp2
      go_ret2
      exact HQ.out _ _ ⟨rfl, HO4.out, HR4.out⟩
theorem nu_any {W0 U0 : World} (hL : LaidH W0) {r : Nat} {bs : List Nat} (h : Rt W0 r bs 32 U0) (A : Option Addr) (m c : Nat) (hs : U.Src W0 (.slice A m c) bs) (hmc : m ≤ c) (v : Bool) :
    Calls Tryd.prog 62 #[rdv r A m c, .bool v] U0 (NuP W0 r bs v U0) := by
  refine (nu_raw hL h A m c hs hmc v).mono ?_
  rintro e u' ⟨rfl, ho, hr⟩
  refine ⟨rfl, ho, fun e => ?_⟩
  unfold nuE at e
  rw [fstE_zero, fstE_zero, fstE_zero] at e
  have e3 := e.2.2.1
  have : seekA bs 32 (32 + 8 * (gS bs : Int)) = 32 + 8 * gS bs := by
    unfold seekE at e3
    unfold seekA
    split at e3
    · cases e3
    · rename_i hn
      rw [if_neg hn]
      omega
  rw [this] at hr
  exact hr
end Go.Proofs.YteahiigfclabfaaDoor.H
