/-
  Package header, the Mode and the code of a Depth: modeAndDepth.
-/
import Derived.Test.YteahiigfclabfaaDoorHC
namespace Go.Proofs.YteahiigfclabfaaDoor.H
open Go.RowKit

/-- modeAndDepth's error -/
def mdE (bs : List Nat) : Int := fstE [takeE bs 24 4, takeE bs 28 3, chE (takeR bs 24 4), un (decide ((rowOf dT (takeR bs 28 3)).u ≠ 0)) 13, expE bs 31 1 0 12]
def MdP (W0 : World) (r : Nat) (bs : List Nat) (u : World) (e : Ending) (u' : World) : Prop :=
  ∃ x y : Int, e = .returned (.tuple #[iv x, iv y, iv (mdE bs)]) ∧ Only (Just r) u u' ∧ (mdE bs = 0 → x = takeR bs 24 4 ∧ y = takeR bs 28 3 ∧ Rt W0 r bs 32 u')
def MdQ (W0 : World) (r : Nat) (bs : List Nat) (U0 : World) (V1 V2 X : Int) (p3 : Nat) (e : Ending) (u' : World) : Prop :=
  e = .returned (.tuple #[iv V1, iv V2, iv X]) ∧ Only (Just r) U0 u' ∧ Rt W0 r bs p3 u'
set_option maxRecDepth 100000 in
set_option maxHeartbeats 4000000 in
theorem md_raw {W0 U0 : World} (hL : LaidH W0) {r : Nat} {bs : List Nat} (h : Rt W0 r bs 24 U0) (A : Option Addr) (m c : Nat) :
    Calls Tryd.prog 61 #[rdv r A m c] U0 (MdQ W0 r bs U0 (takeR bs 24 4) (takeR bs (takeA bs 24 4) 3)
      (fstE [takeE bs 24 4, takeE bs (takeA bs 24 4) 3, chE (takeR bs 24 4), un (decide ((rowOf dT (takeR bs (takeA bs 24 4) 3)).u ≠ 0)) 13, expE bs (takeA bs (takeA bs 24 4) 3) 1 0 12]) (takeA bs (takeA bs (takeA bs 24 4) 3) 1)) := by
  have hm := h.mem
  have HX : Hid (∀ (a : Nat) (n want wrong : Int) x, Rt W0 r bs a x → Calls Tryd.prog 64 #[rdv r A m c, iv n, iv want, iv wrong] x fun e u' => e = .returned (iv (expE bs a n want wrong)) ∧ Rt W0 r bs (takeA bs a n) u' ∧ Only (Just r) x u') := Lib.hid (fun a n want wrong x hx => expect_any hx A m c n want wrong)
  have HT : Hid (∀ (a : Nat) (n : Int) x, Rt W0 r bs a x → Calls Tryd.prog 69 #[.pointer (some ⟨r, 0, none⟩), iv n] x fun e u' => e = .returned (.tuple #[iv (takeR bs a n), iv (takeE bs a n)]) ∧ Rt W0 r bs (takeA bs a n) u' ∧ Only (Just r) x u') := Lib.hid (fun a n x hx => take_rt hx n)
  have HL0 := Lib.hid hL
  have HLx : Hid (∀ a x, Rt W0 r bs a x → LaidH x) := Lib.hid (fun a x hx => hL.nix hx.only)
  have HT1 := Lib.hid (HT.out 24 4)
  have HT2 := Lib.hid (HT.out (takeA bs 24 4) 3)
  have HX1 := Lib.hid (HX.out (takeA bs (takeA bs 24 4) 3) 1 0 12)
  generalize expE bs (takeA bs (takeA bs 24 4) 3) 1 0 12 = E5 at *
  generalize takeA bs (takeA bs (takeA bs 24 4) 3) 1 = p3 at *
  generalize takeA bs (takeA bs 24 4) 3 = p2 at *
  generalize takeR bs (takeA bs 24 4) 3 = V2 at *
  generalize takeE bs (takeA bs 24 4) 3 = E2 at *
  generalize takeA bs 24 4 = p1 at *
  generalize takeR bs 24 4 = V1 at *
  generalize takeE bs 24 4 = E1 at *
  have HCh : Hid (∀ x, LaidH x → Calls Tryd.prog 18 #[iv V1] x fun e w' => e = .returned (.tuple #[iv (chN V1), iv (chE V1)]) ∧ x = w') := Lib.hid (fun x hx => channels_any hx V1)
  have C3 : Hid (∀ x, Calls Tryd.prog 35 #[.agg (tc dT), iv V2] x fun x' w' => x' = .returned (.bool (decide ((rowOf dT V2).u ≠ 0))) ∧ Only Nix x w') := Lib.hid (fun x => has_any dOk V2 x)
  generalize decide ((rowOf dT V2).u ≠ 0) = B3 at *
  generalize chN V1 = N3 at *
  generalize chE V1 = E3 at *
  obtain ⟨F, hF⟩ : ∃ F, fstE [E1, E2, E3, un B3 13, E5] = F := ⟨_, rfl⟩
  rw [hF]
  have HF := Lib.hid hF
  clear hF HX
  have HQ : Hid (∀ e u', e = .returned (.tuple #[iv V1, iv V2, iv F]) ∧ Only (Just r) U0 u' ∧ Rt W0 r bs p3 u' → MdQ W0 r bs U0 V1 V2 F p3 e u') := Lib.hid (fun e u' hh => hh)
  have HO1 := Lib.hid ((Only.refl Nix U0).alloc (.cells (rdc r A m c) 79))
  have HR1 := Lib.hid (h.nix HO1.out)
  have HB := Lib.hid (Box.new U0 79 (rdc r A m c))
  have HN : Hid (¬ Just r U0.heap.size) := Lib.hid (fun e => by have e2 : U0.heap.size = r := e; omega)
  have q0 : (U0.alloc (.cells (rdc r A m c) 79)).cell? ⟨U0.heap.size, 0, none⟩ = some (.pointer (some ⟨r, 0, none⟩)) := HB.out.cell 0
  clear h HT hL
  generalize hW1 : U0.alloc (.cells (rdc r A m c) 79) = W1 at *
  go_enter Tryd.func61, Tryd.ntmps61
  simp only [rdv, rdc] at *
  go_wp2_with fail
  refine (HT1.out _ HR1.out).mono ?_
  rintro _ u1 ⟨rfl, hr1, ho1⟩
  have HR2 := Lib.hid hr1
  have HO2 := Lib.hid (HO1.out.nix.trans ho1)
  have HB2 := Lib.hid (HB.out.only ho1 HN.out)
  have q1 : u1.cell? ⟨U0.heap.size, 0, none⟩ = some (.pointer (some ⟨r, 0, none⟩)) := HB2.out.cell 0
  clear hr1 ho1 HB HR1
  go_wp2_with fail
  refine (HT2.out _ HR2.out).mono ?_
  rintro _ u2 ⟨rfl, hr1, ho1⟩
  have HR3 := Lib.hid hr1
  have HO3 := Lib.hid (HO2.out.trans ho1)
  have HL3 := Lib.hid (HLx.out _ _ hr1)
  have HB3 := Lib.hid (HB2.out.only ho1 HN.out)
  clear hr1 ho1 HT1 HT2 q0 q1 HB2
  go_wp2_with fail
  refine (HCh.out _ HL3.out).mono ?_
  rintro _ _ ⟨rfl, rfl⟩
  go_wp2
  have fr_R : ∀ j s, j < 16 → (([some 25, some 26, some 27, some 28, some 29, some 30, some 31, some 32, some 33, some 34, some 35, some 36, some 37, some 2, some 3, some 4] : List (Option Nat)).all fun d => d != some s) = true → ([some 25, some 26, some 27, some 28, some 29, some 30, some 31, some 32, some 33, some 34, some 35, some 36, some 37, some 2, some 3, some 4] : List (Option Nat)).getD j none ≠ some s := by
    intro j s hj ha e
    rw [List.getD_eq_getElem?_getD, List.getElem?_eq_getElem (by exact hj), Option.getD_some] at e
    have := List.all_eq_true.1 ha _ (List.getElem_mem (by exact hj))
    rw [e] at this
    simp at this
  refine region_tel (by kernel_rfl) (fun k0 => ([some 25, some 26, some 27, some 28, some 29, some 30, some 31, some 32, some 33, some 34, some 35, some 36, some 37, some 2, some 3, some 4] : List (Option Nat)).getD k0 none) (PL [eqP (iv V1),
      eqP (iv V2),
      eqP (iv E1),
      eqP (iv E2),
      eqP (iv E3),
      eqP (.agg (tc dT)),
      eqP (iv V2),
      eqP (.bool B3),
      eqP (iv (un B3 13)),
      eqP (rdv r A m c),
      eqP (iv E5),
      (fun v x => EsN r x v [E1, E2, E3, un B3 13, E5]),
      eqP (iv F),
      eqP (iv V1),
      eqP (iv V2),
      eqP (iv F)]) (fun x y => Only (Just r) x y) (fun L x => RS W0 r bs [(10, p3)] p2 L x ∧ Only (Just r) u2 x) 38 16 rfl (by kernel_rfl) (by kernel_rfl) rfl (by kernel_rfl) (by kernel_rfl) (stab_all ⟨fun _ _ _ h _ => h, fun _ _ _ h _ => h, fun _ _ _ h _ => h, fun _ _ _ h _ => h, fun _ _ _ h _ => h, fun _ _ _ h _ => h, fun _ _ _ h _ => h, fun _ _ _ h _ => h, fun _ _ _ h _ => h, fun _ _ _ h _ => h, fun _ _ _ h _ => h, fun _ _ _ h ho => h.only ho, fun _ _ _ h _ => h, fun _ _ _ h _ => h, fun _ _ _ h _ => h, fun _ _ _ h _ => h, trivial⟩) (⟨RS.to (HR3.out.nix (Only.refl _ _).drew) rfl, (Only.refl _ _).drew⟩) ?stepsR (fun vs => [(25, vs 0), (26, vs 1), (27, vs 2), (28, vs 3), (29, vs 4), (30, vs 5), (31, vs 6), (32, vs 7), (33, vs 8), (34, vs 9), (35, vs 10), (36, vs 11), (37, vs 12), (2, vs 13), (3, vs 14), (4, vs 15)]) (fun vs => rfl) ?doneR
  case stepsR =>
    refine ⟨?_, ?_, ?_, ?_, ?_, ?_, ?_, ?_, ?_, ?_, ?_, ?_, ?_, ?_, ?_, ?_, trivial⟩
    · intro L vs A' u hW hL0 hnd K' hK
      have hS := hW.wi.s
      have ny13 : L 13 = false := notYet hW.closed (j := 13) (by rfl) (k := 0) (by kernel_rfl) hL0
      have r2 : A'.tmps[2]? = some (iv V1) := (hW.fresh 13 2 (by decide) ny13 rfl).trans rfl
      go_simp
      exact hK _ _ (by first | rfl | (show _ = _; simp)) (Only.refl _ _) (sameS rfl hS)
    · intro L vs A' u hW hL0 hnd K' hK
      have hS := hW.wi.s
      have ny14 : L 14 = false := notYet hW.closed (j := 14) (by rfl) (k := 1) (by kernel_rfl) hL0
      have r3 : A'.tmps[3]? = some (iv V2) := (hW.fresh 14 3 (by decide) ny14 rfl).trans rfl
      go_simp
      exact hK _ _ (by first | rfl | (show _ = _; simp)) (Only.refl _ _) (sameS rfl hS)
    · intro L vs A' u hW hL0 hnd K' hK
      have hS := hW.wi.s
      have ny11 : L 11 = false := notYet hW.closed (j := 11) (by rfl) (k := 2) (by kernel_rfl) hL0
      have ny12 : L 12 = false := notYet hW.closed (j := 12) (by rfl) (k := 11) (by kernel_rfl) ny11
      have ny15 : L 15 = false := notYet hW.closed (j := 15) (by rfl) (k := 12) (by kernel_rfl) ny12
      have r4 : A'.tmps[4]? = some (iv E1) := (hW.fresh 15 4 (by decide) ny15 rfl).trans rfl
      go_simp
      exact hK _ _ (by first | rfl | (show _ = _; simp)) (Only.refl _ _) (sameS rfl hS)
    · intro L vs A' u hW hL0 hnd K' hK
      have hS := hW.wi.s
      have r5 : A'.tmps[5]? = some (iv E2) := (hW.out 5 (fun j hj => fr_R j 5 hj (by kernel_rfl))).trans rfl
      go_simp
      exact hK _ _ (by first | rfl | (show _ = _; simp)) (Only.refl _ _) (sameS rfl hS)
    · intro L vs A' u hW hL0 hnd K' hK
      have hS := hW.wi.s
      have r7 : A'.tmps[7]? = some (iv E3) := (hW.out 7 (fun j hj => fr_R j 7 hj (by kernel_rfl))).trans rfl
      go_simp
      exact hK _ _ (by first | rfl | (show _ = _; simp)) (Only.refl _ _) (sameS rfl hS)
    · intro L vs A' u hW hL0 hnd K' hK
      have hS := hW.wi.s
      refine wp_load_mid 61 _ rfl 2 0 rfl (tl dT) _ (range_nix HL0.out.depths hS.1.rt.only) Tryd.under_table rfl Tryd.size_tl_dT ?_
      exact hK _ _ (rfl) (Only.refl _ _) (sameS rfl hS)
    · intro L vs A' u hW hL0 hnd K' hK
      have hS := hW.wi.s
      have ny7 : L 7 = false := notYet hW.closed (j := 7) (by rfl) (k := 6) (by kernel_rfl) hL0
      have ny8 : L 8 = false := notYet hW.closed (j := 8) (by rfl) (k := 7) (by kernel_rfl) ny7
      have ny11 : L 11 = false := notYet hW.closed (j := 11) (by rfl) (k := 8) (by kernel_rfl) ny8
      have ny12 : L 12 = false := notYet hW.closed (j := 12) (by rfl) (k := 11) (by kernel_rfl) ny11
      have ny13 : L 13 = false := notYet hW.closed (j := 13) (by rfl) (k := 12) (by kernel_rfl) ny12
      have ny14 : L 14 = false := notYet hW.closed (j := 14) (by rfl) (k := 13) (by kernel_rfl) ny13
      have r3 : A'.tmps[3]? = some (iv V2) := (hW.fresh 14 3 (by decide) ny14 rfl).trans rfl
      go_simp
      exact hK _ _ (by first | rfl | (show _ = _; simp)) (Only.refl _ _) (sameS rfl hS)
    · intro L vs A' u hW hL0 hnd K' hK
      have hS := hW.wi.s
      have r30 : A'.tmps[30]? = some (.agg (tc dT)) := by
        obtain ⟨x, e, h⟩ := hW.tel 5 30 (by decide) (hnd 5 (by kernel_rfl)) rfl
        rw [e]; exact congrArg some h
      have r31 : A'.tmps[31]? = some (iv V2) := by
        obtain ⟨x, e, h⟩ := hW.tel 6 31 (by decide) (hnd 6 (by kernel_rfl)) rfl
        rw [e]; exact congrArg some h
      have HCL := Lib.hid (C3.out u)
      go_simp
      refine (HCL.out).mono ?_
      rintro _ u' ⟨rfl, ho'⟩
      exact hK _ _ (rfl) ho'.nix (sameS rfl (nixS hS ho'))
    · intro L vs A' u hW hL0 hnd K' hK
      have hS := hW.wi.s
      have r32 : A'.tmps[32]? = some (.bool B3) := by
        obtain ⟨x, e, h⟩ := hW.tel 7 32 (by decide) (hnd 7 (by kernel_rfl)) rfl
        rw [e]; exact congrArg some h
      have HCL := Lib.hid (unless_any B3 13 u)
      go_simp
      refine (HCL.out).mono ?_
      rintro _ u' ⟨rfl, rfl⟩
      exact hK _ _ (rfl) (Only.refl _ _) (sameS rfl hS)
    · intro L vs A' u hW hL0 hnd K' hK
      have hS := hW.wi.s
      have r1 : A'.tmps[1]? = some (.pointer (some ⟨U0.heap.size, 0, none⟩)) := (hW.out 1 (fun j hj => fr_R j 1 hj (by kernel_rfl))).trans rfl
      have hbx := HB3.out.only hS.2 HN.out
      refine wp_load_row 79 (.tmp 1) rfl U0.heap.size (eval_tmp r1) 79 _ (0, 0) _ hbx Tryd.underlying79 rfl Tryd.size_reader ?_
      exact hK _ _ rfl (Only.refl _ _) (sameS rfl hS)
    · intro L vs A' u hW hL0 hnd K' hK
      have hS := hW.wi.s
      have r34 : A'.tmps[34]? = some (rdv r A m c) := by
        obtain ⟨x, e, h⟩ := hW.tel 9 34 (by decide) (hnd 9 (by kernel_rfl)) rfl
        rw [e]; exact congrArg some h
      have HCL := Lib.hid (HX1.out u (RS.out hS.1 (by simp [posL, hL0])))
      go_simp
      refine (HCL.out).mono ?_
      rintro _ u' ⟨rfl, hr, ho'⟩
      exact hK _ _ rfl ho' ⟨RS.to hr (by simp [posL, andOne]), hS.2.trans ho'⟩
    · intro L vs A' u hW hL0 hnd K' hK
      have hS := hW.wi.s
      have r27 : A'.tmps[27]? = some (iv E1) := by
        obtain ⟨x, e, h⟩ := hW.tel 2 27 (by decide) (hnd 2 (by kernel_rfl)) rfl
        rw [e]; exact congrArg some h
      have r28 : A'.tmps[28]? = some (iv E2) := by
        obtain ⟨x, e, h⟩ := hW.tel 3 28 (by decide) (hnd 3 (by kernel_rfl)) rfl
        rw [e]; exact congrArg some h
      have r29 : A'.tmps[29]? = some (iv E3) := by
        obtain ⟨x, e, h⟩ := hW.tel 4 29 (by decide) (hnd 4 (by kernel_rfl)) rfl
        rw [e]; exact congrArg some h
      have r33 : A'.tmps[33]? = some (iv (un B3 13)) := by
        obtain ⟨x, e, h⟩ := hW.tel 8 33 (by decide) (hnd 8 (by kernel_rfl)) rfl
        rw [e]; exact congrArg some h
      have r35 : A'.tmps[35]? = some (iv E5) := by
        obtain ⟨x, e, h⟩ := hW.tel 10 35 (by decide) (hnd 10 (by kernel_rfl)) rfl
        rw [e]; exact congrArg some h
      go_simp
      exact hK _ _ (show EsN r _ _ [E1, E2, E3, un B3 13, E5] from esn_new hS.1.rt.mem _ [E1, E2, E3, un B3 13, E5] (by show 5 ≤ 1000; decide)) ((Only.refl _ _).alloc _) (sameS rfl (nixS hS ((Only.refl _ _).alloc _)))
    · intro L vs A' u hW hL0 hnd K' hK
      have hS := hW.wi.s
      obtain ⟨x36, r36, p36⟩ := hW.tel 11 36 (by decide) (hnd 11 (by kernel_rfl)) rfl
      have HCL := Lib.hid (first_any x36 _ p36.src)
      go_simp
      refine (HCL.out).mono ?_
      rintro _ u' ⟨rfl, rfl⟩
      exact hK _ _ (congrArg iv HF.out) (Only.refl _ _) (sameS rfl hS)
    · intro L vs A' u hW hL0 hnd K' hK
      have hS := hW.wi.s
      have r25 : A'.tmps[25]? = some (iv V1) := by
        obtain ⟨x, e, h⟩ := hW.tel 0 25 (by decide) (hnd 0 (by kernel_rfl)) rfl
        rw [e]; exact congrArg some h
      go_simp
      exact hK _ _ (by first | rfl | (show _ = _; simp)) (Only.refl _ _) (sameS rfl hS)
    · intro L vs A' u hW hL0 hnd K' hK
      have hS := hW.wi.s
      have r26 : A'.tmps[26]? = some (iv V2) := by
        obtain ⟨x, e, h⟩ := hW.tel 1 26 (by decide) (hnd 1 (by kernel_rfl)) rfl
        rw [e]; exact congrArg some h
      go_simp
      exact hK _ _ (by first | rfl | (show _ = _; simp)) (Only.refl _ _) (sameS rfl hS)
    · intro L vs A' u hW hL0 hnd K' hK
      have hS := hW.wi.s
      have r37 : A'.tmps[37]? = some (iv F) := by
        obtain ⟨x, e, h⟩ := hW.tel 12 37 (by decide) (hnd 12 (by kernel_rfl)) rfl
        rw [e]; exact congrArg some h
      go_simp
      exact hK _ _ (by first | rfl | (show _ = _; simp)) (Only.refl _ _) (sameS rfl hS)
  case doneR =>
    intro L vs x hS hP hall
    have e13 : vs 13 = iv V1 := hP 13 (by decide)
    have e14 : vs 14 = iv V2 := hP 14 (by decide)
    have e15 : vs 15 = iv F := hP 15 (by decide)
    have HR4 := Lib.hid (RS.out hS.1 (by simp [posL, hall 10 (by decide)]) : Rt W0 r bs p3 x)
    have HO4 := Lib.hid (HO3.out.trans hS.2)
    clear hS hP hall fr_R
    simp only [putV, List.foldl_cons, List.foldl_nil, List.setIfInBounds_toArray, List.set_cons_zero, List.set_cons_succ]
    rw [e13, e14, e15]
    go_wp2
    go_ret3
    exact HQ.out _ _ ⟨rfl, HO4.out, HR4.out⟩
theorem md_any {W0 U0 : World} (hL : LaidH W0) {r : Nat} {bs : List Nat} (h : Rt W0 r bs 24 U0) (A : Option Addr) (m c : Nat) :
    Calls Tryd.prog 61 #[rdv r A m c] U0 (MdP W0 r bs U0) := by
  refine (md_raw hL h A m c).mono ?_
  rintro e u' ⟨rfl, ho, hr⟩
  by_cases h0 : takeE bs 24 4 = 0
  · have a1 : takeA bs 24 4 = 28 := takeA_ok h0
    rw [a1] at hr ⊢
    by_cases h1 : takeE bs 28 3 = 0
    · have a2 : takeA bs 28 3 = 31 := takeA_ok h1
      rw [a2] at hr ⊢
      refine ⟨_, _, rfl, ho, fun e => ⟨rfl, rfl, ?_⟩⟩
      unfold mdE at e
      rw [fstE_zero, fstE_zero, fstE_zero, fstE_zero, fstE_zero] at e
      have a3 : takeA bs 31 1 = 32 := takeA_ok ((expE_zero (by decide)).1 e.2.2.2.2.1).1
      rw [a3] at hr
      exact hr
    · have hE : fstE [takeE bs 24 4, takeE bs 28 3, chE (takeR bs 24 4), un (decide ((rowOf dT (takeR bs 28 3)).u ≠ 0)) 13, expE bs (takeA bs 28 3) 1 0 12] = mdE bs := by
        unfold mdE; simp [fstE, h0, h1]
      rw [hE]
      refine ⟨_, _, rfl, ho, fun e => ?_⟩
      unfold mdE at e
      rw [fstE_zero, fstE_zero] at e
      exact absurd e.2.1 h1
  · have hE : ∀ a b c d, fstE [takeE bs 24 4, a, b, c, d] = mdE bs := fun a b c d => by
      unfold mdE; simp [fstE, h0]
    rw [hE]
    refine ⟨_, _, rfl, ho, fun e => ?_⟩
    unfold mdE at e
    rw [fstE_zero] at e
    exact absurd e.1 h0
end Go.Proofs.YteahiigfclabfaaDoor.H
