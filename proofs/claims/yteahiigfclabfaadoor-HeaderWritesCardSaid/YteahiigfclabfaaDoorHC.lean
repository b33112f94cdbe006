/-
  Package header, the codes of a Block and a Rate: codes.
-/
import Derived.Test.YteahiigfclabfaaDoorHB
namespace Go.Proofs.YteahiigfclabfaaDoor.H
open Go.RowKit

/-- codes' error -/
def coE (bs : List Nat) : Int := fstE [takeE bs 16 4, takeE bs 20 4, un (decide ((rowOf bT (takeR bs 16 4)).u ≠ 0) && decide ((rowOf rT (takeR bs 20 4)).u ≠ 0)) 13]
def CoP (W0 : World) (r : Nat) (bs : List Nat) (u : World) (e : Ending) (u' : World) : Prop :=
  ∃ x y : Int, e = .returned (.tuple #[iv x, iv y, iv (coE bs)]) ∧ Only (Just r) u u' ∧ (coE bs = 0 → x = takeR bs 16 4 ∧ y = takeR bs 20 4 ∧ Rt W0 r bs 24 u')
theorem coE_no {bs : List Nat} (X : Int) (h : takeE bs 16 4 ≠ 0) : fstE [takeE bs 16 4, takeE bs (takeA bs 16 4) 4, X] = coE bs := by
  unfold coE
  simp [fstE, h]
theorem coE_yes {bs : List Nat} (h : takeE bs 16 4 = 0) : takeA bs 16 4 = 20 := takeA_ok h
theorem coE_at {bs : List Nat} (h : coE bs = 0) : takeA bs 20 4 = 24 := by
  unfold coE at h
  rw [fstE_zero, fstE_zero] at h
  exact takeA_ok h.2.1
/-- a load of a table behind a guard that says yes -/
theorem wpList_load_mid_g {P : Program} {ops : Array Oper} {rest : List Oper} {op : Oper} {a : Act} {w : World} {Q : Exit → Act → World → Prop} (j s : Nat) (b : Bool) (hg : op.guard = some (j, b)) (hd : (ops[j]?.bind fun x => x.dst) = some s) (ht : a.tmps[s]? = some (.bool b)) (ty : TypeId) (x : Operand) (ho : op.op = .load ty x)
    (g o : Nat) (hx : a.eval x = .pointer (some ⟨g, o, none⟩)) (cs : List Value) (d : TypeDesc) (hc : w.rangeAt g o cs)
    (hu : P.underlying ty = some d) (hr : d.isRow = true) (hi : (P.info? ty).map (·.size) = some cs.length)
    (h : wpList P ops Q rest (a.put op.dst (.agg cs.toArray)) w) : wpList P ops Q (op :: rest) a w :=
  BigFrame.wpList_want (wanted_yes hg hd ht) fun _ hK => wp_load_mid ty x ho g o hx cs d hc hu hr hi (hK _ _ h)
def CoQ (W0 : World) (r : Nat) (bs : List Nat) (U0 : World) (V1 V2 X : Int) (e : Ending) (u' : World) : Prop :=
  e = .returned (.tuple #[iv V1, iv V2, iv X]) ∧ Only (Just r) U0 u' ∧ Rt W0 r bs (takeA bs (takeA bs 16 4) 4) u'
set_option maxRecDepth 100000 in
set_option maxHeartbeats 4000000 in
theorem codes_raw {W0 U0 : World} (hL : LaidH W0) {r : Nat} {bs : List Nat} (h : Rt W0 r bs 16 U0) (A : Option Addr) (m c : Nat) :
    Calls Tryd.prog 60 #[rdv r A m c] U0 (CoQ W0 r bs U0 (takeR bs 16 4) (takeR bs (takeA bs 16 4) 4)
      (fstE [takeE bs 16 4, takeE bs (takeA bs 16 4) 4, un (decide ((rowOf bT (takeR bs 16 4)).u ≠ 0) && decide ((rowOf rT (takeR bs (takeA bs 16 4) 4)).u ≠ 0)) 13])) := by
  have hm := h.mem
  have HT : Hid (∀ (a : Nat) (n : Int) x, Rt W0 r bs a x → Calls Tryd.prog 69 #[.pointer (some ⟨r, 0, none⟩), iv n] x fun e u' => e = .returned (.tuple #[iv (takeR bs a n), iv (takeE bs a n)]) ∧ Rt W0 r bs (takeA bs a n) u' ∧ Only (Just r) x u') := Lib.hid (fun a n x hx => take_rt hx n)
  have HLx : Hid (∀ a x, Rt W0 r bs a x → LaidH x) := Lib.hid (fun a x hx => hL.nix hx.only)
  have HT1 := Lib.hid (HT.out 16 4)
  have HT2 := Lib.hid (HT.out (takeA bs 16 4) 4)
  have HQ : Hid (∀ V1 V2 X e u', e = .returned (.tuple #[iv V1, iv V2, iv X]) ∧ Only (Just r) U0 u' ∧ Rt W0 r bs (takeA bs (takeA bs 16 4) 4) u' → CoQ W0 r bs U0 V1 V2 X e u') := Lib.hid (fun V1 V2 X e u' hh => hh)
  generalize takeA bs (takeA bs 16 4) 4 = p2 at *
  generalize takeR bs (takeA bs 16 4) 4 = V2 at *
  generalize takeE bs (takeA bs 16 4) 4 = E2 at *
  generalize takeA bs 16 4 = p1 at *
  generalize takeR bs 16 4 = V1 at *
  generalize takeE bs 16 4 = E1 at *
  have C1 : Hid (∀ x, Calls Tryd.prog 35 #[.agg (tc bT), iv V1] x fun x' w' => x' = .returned (.bool (decide ((rowOf bT V1).u ≠ 0))) ∧ Only Nix x w') := Lib.hid (fun x => has_any bOk V1 x)
  have C2 : Hid (∀ x, Calls Tryd.prog 35 #[.agg (tc rT), iv V2] x fun x' w' => x' = .returned (.bool (decide ((rowOf rT V2).u ≠ 0))) ∧ Only Nix x w') := Lib.hid (fun x => has_any rOk V2 x)
  generalize decide ((rowOf bT V1).u ≠ 0) = B1 at *
  generalize decide ((rowOf rT V2).u ≠ 0) = B2 at *
  have HXf : Hid (B1 = false → fstE [E1, E2, un (B1 && B2) 13] = fstE [E1, E2, un false 13]) := Lib.hid (fun e => by rw [e]; rfl)
  have HXt : Hid (B1 = true → fstE [E1, E2, un (B1 && B2) 13] = fstE [E1, E2, un B2 13]) := Lib.hid (fun e => by rw [e]; rfl)
  generalize fstE [E1, E2, un (B1 && B2) 13] = X at *
  have HO1 := Lib.hid ((Only.refl Nix U0).alloc (.cells (rdc r A m c) 79))
  have HR1 := Lib.hid (h.nix HO1.out)
  have HB := Lib.hid (Box.new U0 79 (rdc r A m c))
  have HN : Hid (¬ Just r U0.heap.size) := Lib.hid (fun e => by have e2 : U0.heap.size = r := e; omega)
  have q0 : (U0.alloc (.cells (rdc r A m c) 79)).cell? ⟨U0.heap.size, 0, none⟩ = some (.pointer (some ⟨r, 0, none⟩)) := HB.out.cell 0
  clear h HT hL
  generalize hW1 : U0.alloc (.cells (rdc r A m c) 79) = W1 at *
  go_enter Tryd.func60, Tryd.ntmps60
  simp only [rdv, rdc] at *
  go_wp2_with fail
  refine (HT1.out _ HR1.out).mono ?_
  rintro _ u1 ⟨rfl, hr1, ho1⟩
  have HR2 := Lib.hid hr1
  have HO2 := Lib.hid (HO1.out.nix.trans ho1)
  have HB2 := Lib.hid (HB.out.only ho1 HN.out)
  have q1 : u1.cell? ⟨U0.heap.size, 0, none⟩ = some (.pointer (some ⟨r, 0, none⟩)) := HB2.out.cell 0
  clear hr1 ho1 HB HR1
  go_wp2_with fail
  refine (HT2.out _ HR2.out).mono ?_
  rintro _ u2 ⟨rfl, hr1, ho1⟩
  have HR3 := Lib.hid hr1
  have HO3 := Lib.hid (HO2.out.trans ho1)
  have HL3 := Lib.hid (HLx.out _ _ hr1)
  clear hr1 ho1 HT1 HT2 q0 q1
  go_wp2_with (refine wpList_load_mid rfl 61 _ rfl 0 0 rfl (tl bT) _ HL3.out.blocks Tryd.under_table rfl Tryd.size_tl_bT ?_)
  refine (C1.out _).mono ?_
  rintro _ u3 ⟨rfl, ho3⟩
  have HL4 := Lib.hid (HL3.out.nix ho3)
  have HO4 := Lib.hid (HO3.out.trans ho3.nix)
  have HR4 := Lib.hid (HR3.out.nix ho3)
  clear ho3
  cases B1
  · have HX0 := Lib.hid (HXf.out rfl)
    clear HXf HXt
    go_wp2_with fail
    refine (unless_any false 13 _).mono ?_
    rintro _ _ ⟨rfl, rfl⟩
    have HF := Lib.hid (first_any _ _ (esrc_new u3 24 [E1, E2, un false 13] (by show 3 ≤ 1000; decide)))
    rw [← HX0.out] at HF
    have HF2 := HF
    clear HF HX0
    generalize un false 13 = U1 at *
    go_wp2_with fail
    refine (HF2.out).mono ?_
    rintro _ _ ⟨rfl, rfl⟩
    go_wp2
    go_ret3
    exact HQ.out _ _ _ _ _ ⟨rfl, HO4.out.alloc _, HR4.out.nix ((Only.refl Nix u3).alloc _)⟩
  · have HX0 := Lib.hid (HXt.out rfl)
    clear HXf HXt
    go_wp2_with (refine wpList_load_mid_g 7 25 true rfl rfl rfl 61 _ rfl 1 0 rfl (tl rT) _ HL4.out.rates Tryd.under_table rfl Tryd.size_tl_rT ?_)
    refine (C2.out _).mono ?_
    rintro _ u4 ⟨rfl, ho4⟩
    have HO5 := Lib.hid (HO4.out.trans ho4.nix)
    have HR5 := Lib.hid (HR4.out.nix ho4)
    clear ho4
    go_wp2_with fail
    refine (unless_any B2 13 _).mono ?_
    rintro _ _ ⟨rfl, rfl⟩
    have HF := Lib.hid (first_any _ _ (esrc_new u4 24 [E1, E2, un B2 13] (by show 3 ≤ 1000; decide)))
    rw [← HX0.out] at HF
    have HF2 := HF
    clear HF HX0
    generalize un B2 13 = U1 at *
    go_wp2_with fail
    refine (HF2.out).mono ?_
    rintro _ _ ⟨rfl, rfl⟩
    go_wp2
    go_ret3
    exact HQ.out _ _ _ _ _ ⟨rfl, HO5.out.alloc _, HR5.out.nix ((Only.refl Nix u4).alloc _)⟩
theorem codes_any {W0 U0 : World} (hL : LaidH W0) {r : Nat} {bs : List Nat} (h : Rt W0 r bs 16 U0) (A : Option Addr) (m c : Nat) :
    Calls Tryd.prog 60 #[rdv r A m c] U0 (CoP W0 r bs U0) := by
  refine (codes_raw hL h A m c).mono ?_
  rintro e u' ⟨rfl, ho, hr⟩
  by_cases h0 : takeE bs 16 4 = 0
  · rw [coE_yes h0] at hr ⊢
    refine ⟨_, _, rfl, ho, fun e => ⟨rfl, rfl, ?_⟩⟩
    rw [coE_at e] at hr
    exact hr
  · rw [coE_no _ h0]
    refine ⟨_, _, rfl, ho, fun e => ?_⟩
    unfold coE at e
    rw [fstE_zero] at e
    exact absurd e.1 h0
end Go.Proofs.YteahiigfclabfaaDoor.H
