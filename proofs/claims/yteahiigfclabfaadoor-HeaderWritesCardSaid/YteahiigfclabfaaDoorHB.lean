/-
  Package header, what a header begins with: sync.
-/
import Derived.Test.YteahiigfclabfaaDoorHA
namespace Go.Proofs.YteahiigfclabfaaDoor.H
open Go.RowKit

/-- sync's error -/
def syE (bs : List Nat) : Int := fstE [expE bs 0 8 255 14, expE bs 8 7 124 14, takeE bs 15 1]
theorem syE_ok {bs : List Nat} (h : fstE [expE bs 0 8 255 14, expE bs (takeA bs 0 8) 7 124 14] = 0) : takeA bs (takeA bs 0 8) 7 = 15 ∧ syE bs = takeE bs 15 1 := by
  rw [fstE_zero, fstE_zero] at h
  obtain ⟨h1, h2, _⟩ := h
  have a1 : takeA bs 0 8 = 8 := takeA_ok ((expE_zero (by decide)).1 h1).1
  rw [a1] at h2 ⊢
  have a2 : takeA bs 8 7 = 15 := takeA_ok ((expE_zero (by decide)).1 h2).1
  refine ⟨a2, ?_⟩
  unfold syE
  simp only [fstE, h1, h2, if_true]
  split <;> simp_all
theorem syE_no {bs : List Nat} (h : fstE [expE bs 0 8 255 14, expE bs (takeA bs 0 8) 7 124 14] ≠ 0) : syE bs = fstE [expE bs 0 8 255 14, expE bs (takeA bs 0 8) 7 124 14] := by
  unfold syE
  by_cases h1 : expE bs 0 8 255 14 = 0
  · have a1 : takeA bs 0 8 = 8 := takeA_ok ((expE_zero (by decide)).1 h1).1
    rw [a1] at h ⊢
    by_cases h2 : expE bs 8 7 124 14 = 0
    · exact absurd (by simp [fstE, h1, h2]) h
    · simp [fstE, h1, h2]
  · simp [fstE, h1]
def SyP (W0 : World) (r : Nat) (bs : List Nat) (u : World) (e : Ending) (u' : World) : Prop :=
  ∃ x : Bool, e = .returned (.tuple #[.bool x, iv (syE bs)]) ∧ Only (Just r) u u' ∧ (syE bs = 0 → x = decide (takeR bs 15 1 = 1) ∧ Rt W0 r bs 16 u')
set_option maxRecDepth 100000 in
set_option maxHeartbeats 4000000 in
theorem sync_any {W0 U0 : World} {r : Nat} {bs : List Nat} (h : Rt W0 r bs 0 U0) (A : Option Addr) (m c : Nat) :
    Calls Tryd.prog 59 #[rdv r A m c] U0 (SyP W0 r bs U0) := by
  have hm := h.mem
  have HX : Hid (∀ (a : Nat) (n want wrong : Int) x, Rt W0 r bs a x → Calls Tryd.prog 64 #[rdv r A m c, iv n, iv want, iv wrong] x fun e u' => e = .returned (iv (expE bs a n want wrong)) ∧ Rt W0 r bs (takeA bs a n) u' ∧ Only (Just r) x u') := Lib.hid (fun a n want wrong x hx => expect_any hx A m c n want wrong)
  have HT : Hid (∀ x, Rt W0 r bs 15 x → Calls Tryd.prog 69 #[.pointer (some ⟨r, 0, none⟩), iv 1] x fun e u' => e = .returned (.tuple #[iv (takeR bs 15 1), iv (takeE bs 15 1)]) ∧ Rt W0 r bs (takeA bs 15 1) u' ∧ Only (Just r) x u') := Lib.hid (fun x hx => take_rt hx 1)
  have HTA : Hid (takeE bs 15 1 = 0 → takeA bs 15 1 = 16) := Lib.hid (fun e => takeA_ok e)
  have HY1 : Hid (fstE [expE bs 0 8 255 14, expE bs (takeA bs 0 8) 7 124 14] = 0 → takeA bs (takeA bs 0 8) 7 = 15 ∧ syE bs = takeE bs 15 1) := Lib.hid syE_ok
  have HY2 : Hid (fstE [expE bs 0 8 255 14, expE bs (takeA bs 0 8) 7 124 14] ≠ 0 → syE bs = fstE [expE bs 0 8 255 14, expE bs (takeA bs 0 8) 7 124 14]) := Lib.hid syE_no
  have HX1 := Lib.hid (HX.out 0 8 255 14)
  have HX2 := Lib.hid (HX.out (takeA bs 0 8) 7 124 14)
  generalize takeA bs (takeA bs 0 8) 7 = p2 at *
  generalize expE bs 0 8 255 14 = E1 at *
  generalize expE bs (takeA bs 0 8) 7 124 14 = E2 at *
  generalize takeA bs 0 8 = p1 at *
  generalize takeA bs 15 1 = p3 at *
  obtain ⟨F, hF⟩ : ∃ F, fstE [E1, E2] = F := ⟨_, rfl⟩
  rw [hF] at HY1 HY2
  have HF := Lib.hid hF
  clear hF HX
  have hB := Box.new U0 79 (rdc r A m c)
  have HO1 := Lib.hid ((Only.refl Nix U0).alloc (.cells (rdc r A m c) 79))
  have HR1 := Lib.hid (h.nix HO1.out)
  have HB := Lib.hid hB
  clear h hB
  have hne : ¬ Just r U0.heap.size := fun e => by have e2 : U0.heap.size = r := e; omega
  have HN := Lib.hid hne
  clear hne
  generalize hW1 : U0.alloc (.cells (rdc r A m c) 79) = W1 at *
  go_enter Tryd.func59, Tryd.ntmps59
  simp only [rdv, rdc] at *
  go_wp2
  have fr_R : ∀ j s, j < 7 → (([some 5, some 6, some 7, some 8, some 9, some 10, some 3] : List (Option Nat)).all fun d => d != some s) = true → ([some 5, some 6, some 7, some 8, some 9, some 10, some 3] : List (Option Nat)).getD j none ≠ some s := by
    intro j s hj ha e
    rw [List.getD_eq_getElem?_getD, List.getElem?_eq_getElem (by exact hj), Option.getD_some] at e
    have := List.all_eq_true.1 ha _ (List.getElem_mem (by exact hj))
    rw [e] at this
    simp at this
  refine region_tel (by kernel_rfl) (fun k0 => ([some 5, some 6, some 7, some 8, some 9, some 10, some 3] : List (Option Nat)).getD k0 none) (PL [eqP (rdv r A m c),
      eqP (iv E1),
      eqP (rdv r A m c),
      eqP (iv E2),
      (fun v x => EsN r x v [E1, E2]),
      eqP (iv F),
      eqP (iv F)]) (fun x y => Only (Just r) x y) (fun L x => RS W0 r bs [(1, p1), (3, p2)] 0 L x ∧ Only (Just r) W1 x) 23 7 rfl (by kernel_rfl) (by kernel_rfl) rfl (by kernel_rfl) (by kernel_rfl) (stab_all ⟨fun _ _ _ h _ => h, fun _ _ _ h _ => h, fun _ _ _ h _ => h, fun _ _ _ h _ => h, fun _ _ _ h ho => h.only ho, fun _ _ _ h _ => h, fun _ _ _ h _ => h, trivial⟩) (⟨RS.to (HR1.out.nix (Only.refl _ _).drew) rfl, (Only.refl _ _).drew⟩) ?stepsR (fun vs => [(5, vs 0), (6, vs 1), (7, vs 2), (8, vs 3), (9, vs 4), (10, vs 5), (3, vs 6)]) (fun vs => rfl) ?doneR
  case stepsR =>
    refine ⟨?_, ?_, ?_, ?_, ?_, ?_, ?_, trivial⟩
    · intro L vs A' u hW hL0 hnd K' hK
      have hS := hW.wi.s
      have r1 : A'.tmps[1]? = some (.pointer (some ⟨U0.heap.size, 0, none⟩)) := (hW.out 1 (fun j hj => fr_R j 1 hj (by kernel_rfl))).trans rfl
      have hbx := HB.out.only hS.2 HN.out
      refine wp_load_row 79 (.tmp 1) rfl U0.heap.size (eval_tmp r1) 79 _ (0, 0) _ hbx Tryd.underlying79 rfl Tryd.size_reader ?_
      exact hK _ _ rfl (Only.refl _ _) (sameS rfl hS)
    · intro L vs A' u hW hL0 hnd K' hK
      have ny3 : L 3 = false := notYet hW.closed (j := 3) (by rfl) (k := 1) (by kernel_rfl) hL0
      have hS := hW.wi.s
      have r5 : A'.tmps[5]? = some (rdv r A m c) := by
        obtain ⟨x, e, h⟩ := hW.tel 0 5 (by decide) (hnd 0 (by kernel_rfl)) rfl
        rw [e]; exact congrArg some h
      have HCL := Lib.hid (HX1.out u (RS.out hS.1 (by simp [posL, hL0, ny3])))
      go_simp
      refine (HCL.out).mono ?_
      rintro _ u' ⟨rfl, hr, ho'⟩
      exact hK _ _ rfl ho' ⟨RS.to hr (by simp [posL, andOne, ny3]), hS.2.trans ho'⟩
    · intro L vs A' u hW hL0 hnd K' hK
      have hS := hW.wi.s
      have r1 : A'.tmps[1]? = some (.pointer (some ⟨U0.heap.size, 0, none⟩)) := (hW.out 1 (fun j hj => fr_R j 1 hj (by kernel_rfl))).trans rfl
      have hbx := HB.out.only hS.2 HN.out
      refine wp_load_row 79 (.tmp 1) rfl U0.heap.size (eval_tmp r1) 79 _ (0, 0) _ hbx Tryd.underlying79 rfl Tryd.size_reader ?_
      exact hK _ _ rfl (Only.refl _ _) (sameS rfl hS)
    · intro L vs A' u hW hL0 hnd K' hK
      have yes1 : L 1 = true := hnd 1 (by kernel_rfl)
      have hS := hW.wi.s
      have r7 : A'.tmps[7]? = some (rdv r A m c) := by
        obtain ⟨x, e, h⟩ := hW.tel 2 7 (by decide) (hnd 2 (by kernel_rfl)) rfl
        rw [e]; exact congrArg some h
      have HCL := Lib.hid (HX2.out u (RS.out hS.1 (by simp [posL, hL0, yes1])))
      go_simp
      refine (HCL.out).mono ?_
      rintro _ u' ⟨rfl, hr, ho'⟩
      exact hK _ _ rfl ho' ⟨RS.to hr (by simp [posL, andOne]), hS.2.trans ho'⟩
    · intro L vs A' u hW hL0 hnd K' hK
      have hS := hW.wi.s
      have r6 : A'.tmps[6]? = some (iv E1) := by
        obtain ⟨x, e, h⟩ := hW.tel 1 6 (by decide) (hnd 1 (by kernel_rfl)) rfl
        rw [e]; exact congrArg some h
      have r8 : A'.tmps[8]? = some (iv E2) := by
        obtain ⟨x, e, h⟩ := hW.tel 3 8 (by decide) (hnd 3 (by kernel_rfl)) rfl
        rw [e]; exact congrArg some h
      go_simp
      exact hK _ _ (show EsN r _ _ [E1, E2] from esn_new hS.1.rt.mem _ [E1, E2] (by show 2 ≤ 1000; decide)) ((Only.refl _ _).alloc _) (sameS rfl (nixS hS ((Only.refl _ _).alloc _)))
    · intro L vs A' u hW hL0 hnd K' hK
      have hS := hW.wi.s
      obtain ⟨x9, r9, p9⟩ := hW.tel 4 9 (by decide) (hnd 4 (by kernel_rfl)) rfl
      have HCL := Lib.hid (first_any x9 _ p9.src)
      go_simp
      refine (HCL.out).mono ?_
      rintro _ u' ⟨rfl, rfl⟩
      exact hK _ _ (congrArg iv HF.out) (Only.refl _ _) (sameS rfl hS)
    · intro L vs A' u hW hL0 hnd K' hK
      have hS := hW.wi.s
      have r10 : A'.tmps[10]? = some (iv F) := by
        obtain ⟨x, e, h⟩ := hW.tel 5 10 (by decide) (hnd 5 (by kernel_rfl)) rfl
        rw [e]; exact congrArg some h
      go_simp
      exact hK _ _ (by first | rfl | (show _ = _; simp)) (Only.refl _ _) (sameS rfl hS)
  case doneR =>
    intro L vs x hS hP hall
    have e6 : vs 6 = iv F := hP 6 (by decide)
    have h2 := hS.2
    have h1 : Rt W0 r bs p2 x := RS.out hS.1 (by simp [posL, hall 3 (by decide)])
    have HR2 := Lib.hid h1
    have HO2 := Lib.hid (HO1.out.nix.trans h2)
    have HB2 := Lib.hid (HB.out.only h2 HN.out)
    clear hS hP hall fr_R h1 h2
    simp only [putV, List.foldl_cons, List.foldl_nil, List.setIfInBounds_toArray, List.set_cons_zero, List.set_cons_succ]
    rw [e6]
    by_cases hF0 : F = 0
    · obtain ⟨hp, hE⟩ := HY1.out hF0
      subst hp
      have q0 : x.cell? ⟨U0.heap.size, 0, none⟩ = some (.pointer (some ⟨r, 0, none⟩)) := HB2.out.cell 0
      have HT2 := Lib.hid (HT.out x HR2.out)
      have HSE := Lib.hid hE
      clear hE HX1 HX2 HT
      subst hF0
      go_wp2_with fail
      refine HT2.out.mono ?_
      rintro _ u2 ⟨rfl, hr3, ho3⟩
      have HR3 := Lib.hid hr3
      have HO3 := Lib.hid (HO2.out.trans ho3)
      clear hr3 ho3
      go_wp2
      go_ret2
      refine ⟨decide (takeR bs 15 1 = 1), by rw [HSE.out] <;> rfl, HO3.out, fun e => ⟨rfl, ?_⟩⟩
      rw [HSE.out] at e
      have := HTA.out e
      subst this
      exact HR3.out
    · have hE := HY2.out hF0
      have HSE := Lib.hid hE
      clear hE
      go_wp2
      go_ret2
      exact ⟨false, by rw [HSE.out] <;> rfl, HO2.out, fun e => absurd (HSE.out.symm.trans e) hF0⟩
end Go.Proofs.YteahiigfclabfaaDoor.H
