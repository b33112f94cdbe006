/-
  The statements' fold and same; what Get answers, told by them.
-/
import Derived.Test.YtphpciglpnbblaaDoorTJ
import Derived.Test.YtphpciglpnbblaaDoorTP1
namespace Go.Proofs.YtphpciglpnbblaaDoor
open Go.RowKit Go.Shelf

/-- a byte with great and small letters as one -/
def fo (x : Nat) : Nat := if 65 ≤ x ∧ x ≤ 90 then x + 32 else x
theorem fold_any {w : World} (x : Nat) (hx : x < 256) : Calls Tryd.prog 44 #[.int .u8 (x : Int)] w fun e w' => e = .returned (.int .u8 (fo x : Nat)) ∧ Only Nix w w' := by
  by_cases h1 : 65 ≤ x
  · have h1i : (65 : Int) ≤ (x : Int) := by omega
    by_cases h2 : x ≤ 90
    · have h2i : (x : Int) ≤ 90 := by omega
      have HB : Hid (((fo x : Nat) : Int) = (x : Int) + 32) := Lib.hid (by unfold fo; rw [if_pos ⟨h1, h2⟩]; rfl)
      have hw1 : IntKind.u8.wrap ((x : Int) + 32) = (x : Int) + 32 := by rw [IntKind.wrap_u8]; omega
      go_enter Tryd.func44, Tryd.ntmps44
      go_wp2
      go_ret
      exact ⟨by rw [HB.out]; rfl, Only.refl _ _⟩
    · have h2i : decide ((x : Int) ≤ 90) = false := by simp; omega
      have h2j : decide (x ≤ 90) = false := by simp; omega
      have HB : Hid (fo x = x) := Lib.hid (by unfold fo; rw [if_neg (by omega)])
      go_enter Tryd.func44, Tryd.ntmps44
      go_wp2
      go_ret
      exact ⟨by rw [HB.out]; rfl, Only.refl _ _⟩
  · have h1i : decide ((65 : Int) ≤ (x : Int)) = false := by simp; omega
    have h1j : decide (65 ≤ x) = false := by simp; omega
    have HB : Hid (fo x = x) := Lib.hid (by unfold fo; rw [if_neg (by omega)])
    go_enter Tryd.func44, Tryd.ntmps44
    go_wp2
    go_ret
    exact ⟨by rw [HB.out]; rfl, Only.refl _ _⟩
/-- are two names one? -/
def sameN (a b : ByteArray) : Prop := (nb a).map fo = (nb b).map fo
instance (a b : ByteArray) : Decidable (sameN a b) := by unfold sameN; infer_instance
def SaRel (w : World) (a b : ByteArray) (s5 : Value) (wr : World) : Prop := ∃ i : Nat, i ≤ a.size ∧ s5 = iv i ∧ ((nb a).take i).map fo = ((nb b).take i).map fo ∧ Only Nix w wr
theorem take_one (l : List Nat) (i x : Nat) (h : l[i]? = some x) : (l.take (i + 1)).map fo = (l.take i).map fo ++ [fo x] := by
  rw [List.take_add_one, h]
  simp
set_option maxRecDepth 100000 in
set_option maxHeartbeats 8000000 in
theorem same_any {w : World} (a b : ByteArray) (ha : a.size ≤ 1000000) (_hb : b.size ≤ 1000000) : Calls Tryd.prog 21 #[.string a, .string b] w fun e w' => e = .returned (.bool (decide (sameN a b))) ∧ Only Nix w w' := by
  have HE : Hid (∀ B : Bool, (B = true ↔ sameN a b) → decide (sameN a b) = B) := Lib.hid (fun b h => by
    cases b with
    | true => exact decide_eq_true (h.1 rfl)
    | false => exact decide_eq_false (fun hh => by cases h.2 hh))
  obtain ⟨E, hE⟩ : ∃ E, decide (sameN a b) = E := ⟨_, rfl⟩
  rw [hE] at HE ⊢
  clear hE
  by_cases hl : a.size = b.size
  · have hli : (a.size : Int) = (b.size : Int) := by omega
    have HTl : Hid ((nb a).take a.size = nb a ∧ (nb b).take a.size = nb b) := Lib.hid ⟨List.take_of_length_le (by rw [nb_len]; exact Nat.le_refl _), List.take_of_length_le (by rw [nb_len, hl]; exact Nat.le_refl _)⟩
    have HFo : Hid (∀ u (x : UInt8), Calls Tryd.prog 44 #[.int .u8 (x.toNat : Int)] u fun e w' => e = .returned (.int .u8 (fo x.toNat : Nat)) ∧ Only Nix u w') := Lib.hid (fun u x => fold_any x.toNat x.toNat_lt)
    obtain ⟨N, hN⟩ : ∃ N, a.size = N := ⟨_, rfl⟩
    have hN2 : b.size = N := by omega
    go_enter Tryd.func21, Tryd.ntmps21
    go_wp2
    go_loopw [5] (fun s5 wr => SaRel w a b s5 wr) (fun s5 _ => a.size - (intOf s5).toNat)
    case atStart => exact ⟨0, Nat.zero_le _, rfl, rfl, Only.refl _ _⟩
    case round =>
      obtain ⟨i, hi, rfl, heq, ho⟩ := hrel
      have HQ := Lib.hid heq
      have HO := Lib.hid ho
      clear heq ho
      by_cases hlt : i < a.size
      · have hlti : (i : Int) < (a.size : Int) := by omega
        have hltb : i < b.size := by omega
        have hltbi : (i : Int) < (b.size : Int) := by omega
        obtain ⟨x, hx⟩ : ∃ x, a.get! i = x := ⟨_, rfl⟩
        have hgx : ∀ h : i < a.size, a[i]'h = x := fun h => by rw [← hx]; exact (Utf8W.get!_of_lt a i h).symm
        obtain ⟨y, hy⟩ : ∃ y, b.get! i = y := ⟨_, rfl⟩
        have hgy : ∀ h : i < b.size, b[i]'h = y := fun h => by rw [← hy]; exact (Utf8W.get!_of_lt b i h).symm
        have HX := Lib.hid (take_one (nb a) i x.toNat (by rw [nb_at a i hlt, hx]))
        have HY := Lib.hid (take_one (nb b) i y.toNat (by rw [nb_at b i hltb, hy]))
        have HXm : Hid ((nb a)[i]? = some x.toNat) := Lib.hid (by rw [nb_at a i hlt, hx])
        have HYm : Hid ((nb b)[i]? = some y.toNat) := Lib.hid (by rw [nb_at b i hltb, hy])
        clear hx hy
        have HFx : Hid (∀ u, Calls Tryd.prog 44 #[.int .u8 (x.toNat : Int)] u fun e w' => e = .returned (.int .u8 (fo x.toNat : Nat)) ∧ Only Nix u w') := Lib.hid (fun u => HFo.out u x)
        have HFy : Hid (∀ u, Calls Tryd.prog 44 #[.int .u8 (y.toNat : Int)] u fun e w' => e = .returned (.int .u8 (fo y.toNat : Nat)) ∧ Only Nix u w') := Lib.hid (fun u => HFo.out u y)
        by_cases hq : fo x.toNat = fo y.toNat
        · have HQ1 : Hid (((nb a).take (i + 1)).map fo = ((nb b).take (i + 1)).map fo) := Lib.hid (by rw [HX.out, HY.out, HQ.out, hq])
          rw [← hq] at HFy
          generalize fo x.toNat = F at *
          go_wp2_with fail
          have fr_SF : ∀ j s, j < 9 → (([some 17, some 18, some 19, some 20, some 21, some 22, some 23, some 24, some 25] : List (Option Nat)).all fun d => d != some s) = true → ([some 17, some 18, some 19, some 20, some 21, some 22, some 23, some 24, some 25] : List (Option Nat)).getD j none ≠ some s := by
            intro j s hj ha e
            rw [List.getD_eq_getElem?_getD, List.getElem?_eq_getElem (by exact hj), Option.getD_some] at e
            have := List.all_eq_true.1 ha _ (List.getElem_mem (by exact hj))
            rw [e] at this
            simp at this
          refine region_tel (by kernel_rfl) (fun k0 => ([some 17, some 18, some 19, some 20, some 21, some 22, some 23, some 24, some 25] : List (Option Nat)).getD k0 none) (PL [eqP (.string a), eqP (iv i), eqP (.int .u8 (x.toNat : Int)), eqP (.int .u8 ((F : Nat) : Int)), eqP (.string b), eqP (iv i), eqP (.int .u8 (y.toNat : Int)), eqP (.int .u8 ((F : Nat) : Int)), eqP (.bool false)]) (fun _ _ => True) (fun _ u => Only Nix wr u) 26 9 rfl (by kernel_rfl) (by kernel_rfl) rfl (by kernel_rfl) (by kernel_rfl) (stab_all ⟨fun _ _ _ h _ => h, fun _ _ _ h _ => h, fun _ _ _ h _ => h, fun _ _ _ h _ => h, fun _ _ _ h _ => h, fun _ _ _ h _ => h, fun _ _ _ h _ => h, fun _ _ _ h _ => h, fun _ _ _ h _ => h, trivial⟩) ((Only.refl _ _).drew) ?stepsSF (fun vs => [(17, vs 0), (18, vs 1), (19, vs 2), (20, vs 3), (21, vs 4), (22, vs 5), (23, vs 6), (24, vs 7), (25, vs 8)]) (fun vs => rfl) ?doneSF
          case stepsSF =>
            refine ⟨?_, ?_, ?_, ?_, ?_, ?_, ?_, ?_, ?_, trivial⟩
            · intro L vs A' u hW hL0 hnd K' hK
              have hS := hW.wi.s
              have r0 : A'.tmps[0]? = some (.string a) := (hW.out 0 (fun j hj => fr_SF j 0 hj (by kernel_rfl))).trans rfl
              go_simp
              exact hK _ _ (by first | rfl | (show _ = _; simp)) trivial (hS)
            · intro L vs A' u hW hL0 hnd K' hK
              have hS := hW.wi.s
              have r5 : A'.tmps[5]? = some (iv i) := (hW.out 5 (fun j hj => fr_SF j 5 hj (by kernel_rfl))).trans rfl
              go_simp
              exact hK _ _ (by first | rfl | (show _ = _; simp)) trivial (hS)
            · intro L vs A' u hW hL0 hnd K' hK
              have hS := hW.wi.s
              have r17 : A'.tmps[17]? = some (.string a) := by
                obtain ⟨x, e, h⟩ := hW.tel 0 17 (by decide) (hnd 0 (by kernel_rfl)) rfl
                rw [e]; exact congrArg some h
              have r18 : A'.tmps[18]? = some (iv i) := by
                obtain ⟨x, e, h⟩ := hW.tel 1 18 (by decide) (hnd 1 (by kernel_rfl)) rfl
                rw [e]; exact congrArg some h
              go_simp
              exact hK _ _ (by first | rfl | (show _ = _; simp)) trivial (hS)
            · intro L vs A' u hW hL0 hnd K' hK
              have hS := hW.wi.s
              have r19 : A'.tmps[19]? = some (.int .u8 (x.toNat : Int)) := by
                obtain ⟨x, e, h⟩ := hW.tel 2 19 (by decide) (hnd 2 (by kernel_rfl)) rfl
                rw [e]; exact congrArg some h
              have r19 : A'.tmps[19]? = some (.int .u8 (x.toNat : Int)) := by
                obtain ⟨x, e, h⟩ := hW.tel 2 19 (by decide) (hnd 2 (by kernel_rfl)) rfl
                rw [e]; exact congrArg some h
              have hc := HFx.out u
              go_simp
              refine (hc).mono ?_
              rintro e u2 ⟨rfl, ho⟩
              exact hK _ _ rfl trivial (hS.trans ho)
            · intro L vs A' u hW hL0 hnd K' hK
              have hS := hW.wi.s
              have r1 : A'.tmps[1]? = some (.string b) := (hW.out 1 (fun j hj => fr_SF j 1 hj (by kernel_rfl))).trans rfl
              go_simp
              exact hK _ _ (by first | rfl | (show _ = _; simp)) trivial (hS)
            · intro L vs A' u hW hL0 hnd K' hK
              have hS := hW.wi.s
              have r5 : A'.tmps[5]? = some (iv i) := (hW.out 5 (fun j hj => fr_SF j 5 hj (by kernel_rfl))).trans rfl
              go_simp
              exact hK _ _ (by first | rfl | (show _ = _; simp)) trivial (hS)
            · intro L vs A' u hW hL0 hnd K' hK
              have hS := hW.wi.s
              have r21 : A'.tmps[21]? = some (.string b) := by
                obtain ⟨x, e, h⟩ := hW.tel 4 21 (by decide) (hnd 4 (by kernel_rfl)) rfl
                rw [e]; exact congrArg some h
              have r22 : A'.tmps[22]? = some (iv i) := by
                obtain ⟨x, e, h⟩ := hW.tel 5 22 (by decide) (hnd 5 (by kernel_rfl)) rfl
                rw [e]; exact congrArg some h
              go_simp
              exact hK _ _ (by first | rfl | (show _ = _; simp)) trivial (hS)
            · intro L vs A' u hW hL0 hnd K' hK
              have hS := hW.wi.s
              have r23 : A'.tmps[23]? = some (.int .u8 (y.toNat : Int)) := by
                obtain ⟨x, e, h⟩ := hW.tel 6 23 (by decide) (hnd 6 (by kernel_rfl)) rfl
                rw [e]; exact congrArg some h
              have r23 : A'.tmps[23]? = some (.int .u8 (y.toNat : Int)) := by
                obtain ⟨x, e, h⟩ := hW.tel 6 23 (by decide) (hnd 6 (by kernel_rfl)) rfl
                rw [e]; exact congrArg some h
              have hc := HFy.out u
              go_simp
              refine (hc).mono ?_
              rintro e u2 ⟨rfl, ho⟩
              exact hK _ _ rfl trivial (hS.trans ho)
            · intro L vs A' u hW hL0 hnd K' hK
              have hS := hW.wi.s
              have r20 : A'.tmps[20]? = some (.int .u8 ((F : Nat) : Int)) := by
                obtain ⟨x, e, h⟩ := hW.tel 3 20 (by decide) (hnd 3 (by kernel_rfl)) rfl
                rw [e]; exact congrArg some h
              have r24 : A'.tmps[24]? = some (.int .u8 ((F : Nat) : Int)) := by
                obtain ⟨x, e, h⟩ := hW.tel 7 24 (by decide) (hnd 7 (by kernel_rfl)) rfl
                rw [e]; exact congrArg some h
              go_simp
              exact hK _ _ (by first | rfl | (show _ = _; simp)) trivial (hS)
          case doneSF =>
            intro L vs u hS hP hall
            have e0 : vs 0 = .string a := hP 0 (by decide)
            have e1 : vs 1 = iv i := hP 1 (by decide)
            have e2 : vs 2 = .int .u8 (x.toNat : Int) := hP 2 (by decide)
            have e3 : vs 3 = .int .u8 ((F : Nat) : Int) := hP 3 (by decide)
            have e4 : vs 4 = .string b := hP 4 (by decide)
            have e5 : vs 5 = iv i := hP 5 (by decide)
            have e6 : vs 6 = .int .u8 (y.toNat : Int) := hP 6 (by decide)
            have e7 : vs 7 = .int .u8 ((F : Nat) : Int) := hP 7 (by decide)
            have e8 : vs 8 = .bool false := hP 8 (by decide)
            simp only [putV, List.foldl_cons, List.foldl_nil, List.setIfInBounds_toArray, List.set_cons_zero, List.set_cons_succ, e0, e1, e2, e3, e4, e5, e6, e7, e8]
            clear e0 e1 e2 e3 e4 e5 e6 e7 e8 hP hall fr_SF
            have HO2 := Lib.hid (HO.out.trans hS)
            clear hS
            go_wp2
            go_roundw
            case rel => exact ⟨i + 1, hlt, by go_num, HQ1.out, HO2.out⟩
            case measure => simp [intOf]; omega
        · have HF : Hid (E = false) := Lib.hid (HE.out false ⟨(fun h => by cases h), fun h => by
            have e1 : ((nb a).map fo)[i]? = some (fo x.toNat) := by rw [List.getElem?_map, HXm.out]; rfl
            have e2 : ((nb b).map fo)[i]? = some (fo y.toNat) := by rw [List.getElem?_map, HYm.out]; rfl
            unfold sameN at h
            rw [h, e2] at e1
            injection e1 with e1
            exact absurd e1.symm hq⟩)
          generalize fo x.toNat = F at *
          generalize fo y.toNat = G at *
          have hqi : ¬ (F : Int) = (G : Int) := by omega
          go_wp2_with fail
          have fr_SG : ∀ j s, j < 9 → (([some 17, some 18, some 19, some 20, some 21, some 22, some 23, some 24, some 25] : List (Option Nat)).all fun d => d != some s) = true → ([some 17, some 18, some 19, some 20, some 21, some 22, some 23, some 24, some 25] : List (Option Nat)).getD j none ≠ some s := by
            intro j s hj ha e
            rw [List.getD_eq_getElem?_getD, List.getElem?_eq_getElem (by exact hj), Option.getD_some] at e
            have := List.all_eq_true.1 ha _ (List.getElem_mem (by exact hj))
            rw [e] at this
            simp at this
          refine region_tel (by kernel_rfl) (fun k0 => ([some 17, some 18, some 19, some 20, some 21, some 22, some 23, some 24, some 25] : List (Option Nat)).getD k0 none) (PL [eqP (.string a), eqP (iv i), eqP (.int .u8 (x.toNat : Int)), eqP (.int .u8 ((F : Nat) : Int)), eqP (.string b), eqP (iv i), eqP (.int .u8 (y.toNat : Int)), eqP (.int .u8 ((G : Nat) : Int)), eqP (.bool true)]) (fun _ _ => True) (fun _ u => Only Nix wr u) 26 9 rfl (by kernel_rfl) (by kernel_rfl) rfl (by kernel_rfl) (by kernel_rfl) (stab_all ⟨fun _ _ _ h _ => h, fun _ _ _ h _ => h, fun _ _ _ h _ => h, fun _ _ _ h _ => h, fun _ _ _ h _ => h, fun _ _ _ h _ => h, fun _ _ _ h _ => h, fun _ _ _ h _ => h, fun _ _ _ h _ => h, trivial⟩) ((Only.refl _ _).drew) ?stepsSG (fun vs => [(17, vs 0), (18, vs 1), (19, vs 2), (20, vs 3), (21, vs 4), (22, vs 5), (23, vs 6), (24, vs 7), (25, vs 8)]) (fun vs => rfl) ?doneSG
          case stepsSG =>
            refine ⟨?_, ?_, ?_, ?_, ?_, ?_, ?_, ?_, ?_, trivial⟩
            · intro L vs A' u hW hL0 hnd K' hK
              have hS := hW.wi.s
              have r0 : A'.tmps[0]? = some (.string a) := (hW.out 0 (fun j hj => fr_SG j 0 hj (by kernel_rfl))).trans rfl
              go_simp
              exact hK _ _ (by first | rfl | (show _ = _; simp)) trivial (hS)
            · intro L vs A' u hW hL0 hnd K' hK
              have hS := hW.wi.s
              have r5 : A'.tmps[5]? = some (iv i) := (hW.out 5 (fun j hj => fr_SG j 5 hj (by kernel_rfl))).trans rfl
              go_simp
              exact hK _ _ (by first | rfl | (show _ = _; simp)) trivial (hS)
            · intro L vs A' u hW hL0 hnd K' hK
              have hS := hW.wi.s
              have r17 : A'.tmps[17]? = some (.string a) := by
                obtain ⟨x, e, h⟩ := hW.tel 0 17 (by decide) (hnd 0 (by kernel_rfl)) rfl
                rw [e]; exact congrArg some h
              have r18 : A'.tmps[18]? = some (iv i) := by
                obtain ⟨x, e, h⟩ := hW.tel 1 18 (by decide) (hnd 1 (by kernel_rfl)) rfl
                rw [e]; exact congrArg some h
              go_simp
              exact hK _ _ (by first | rfl | (show _ = _; simp)) trivial (hS)
            · intro L vs A' u hW hL0 hnd K' hK
              have hS := hW.wi.s
              have r19 : A'.tmps[19]? = some (.int .u8 (x.toNat : Int)) := by
                obtain ⟨x, e, h⟩ := hW.tel 2 19 (by decide) (hnd 2 (by kernel_rfl)) rfl
                rw [e]; exact congrArg some h
              have r19 : A'.tmps[19]? = some (.int .u8 (x.toNat : Int)) := by
                obtain ⟨x, e, h⟩ := hW.tel 2 19 (by decide) (hnd 2 (by kernel_rfl)) rfl
                rw [e]; exact congrArg some h
              have hc := HFx.out u
              go_simp
              refine (hc).mono ?_
              rintro e u2 ⟨rfl, ho⟩
              exact hK _ _ rfl trivial (hS.trans ho)
            · intro L vs A' u hW hL0 hnd K' hK
              have hS := hW.wi.s
              have r1 : A'.tmps[1]? = some (.string b) := (hW.out 1 (fun j hj => fr_SG j 1 hj (by kernel_rfl))).trans rfl
              go_simp
              exact hK _ _ (by first | rfl | (show _ = _; simp)) trivial (hS)
            · intro L vs A' u hW hL0 hnd K' hK
              have hS := hW.wi.s
              have r5 : A'.tmps[5]? = some (iv i) := (hW.out 5 (fun j hj => fr_SG j 5 hj (by kernel_rfl))).trans rfl
              go_simp
              exact hK _ _ (by first | rfl | (show _ = _; simp)) trivial (hS)
            · intro L vs A' u hW hL0 hnd K' hK
              have hS := hW.wi.s
              have r21 : A'.tmps[21]? = some (.string b) := by
                obtain ⟨x, e, h⟩ := hW.tel 4 21 (by decide) (hnd 4 (by kernel_rfl)) rfl
                rw [e]; exact congrArg some h
              have r22 : A'.tmps[22]? = some (iv i) := by
                obtain ⟨x, e, h⟩ := hW.tel 5 22 (by decide) (hnd 5 (by kernel_rfl)) rfl
                rw [e]; exact congrArg some h
              go_simp
              exact hK _ _ (by first | rfl | (show _ = _; simp)) trivial (hS)
            · intro L vs A' u hW hL0 hnd K' hK
              have hS := hW.wi.s
              have r23 : A'.tmps[23]? = some (.int .u8 (y.toNat : Int)) := by
                obtain ⟨x, e, h⟩ := hW.tel 6 23 (by decide) (hnd 6 (by kernel_rfl)) rfl
                rw [e]; exact congrArg some h
              have r23 : A'.tmps[23]? = some (.int .u8 (y.toNat : Int)) := by
                obtain ⟨x, e, h⟩ := hW.tel 6 23 (by decide) (hnd 6 (by kernel_rfl)) rfl
                rw [e]; exact congrArg some h
              have hc := HFy.out u
              go_simp
              refine (hc).mono ?_
              rintro e u2 ⟨rfl, ho⟩
              exact hK _ _ rfl trivial (hS.trans ho)
            · intro L vs A' u hW hL0 hnd K' hK
              have hS := hW.wi.s
              have r20 : A'.tmps[20]? = some (.int .u8 ((F : Nat) : Int)) := by
                obtain ⟨x, e, h⟩ := hW.tel 3 20 (by decide) (hnd 3 (by kernel_rfl)) rfl
                rw [e]; exact congrArg some h
              have r24 : A'.tmps[24]? = some (.int .u8 ((G : Nat) : Int)) := by
                obtain ⟨x, e, h⟩ := hW.tel 7 24 (by decide) (hnd 7 (by kernel_rfl)) rfl
                rw [e]; exact congrArg some h
              go_simp
              exact hK _ _ (by show _ = _; simp; exact hqi) trivial (hS)
          case doneSG =>
            intro L vs u hS hP hall
            have e0 : vs 0 = .string a := hP 0 (by decide)
            have e1 : vs 1 = iv i := hP 1 (by decide)
            have e2 : vs 2 = .int .u8 (x.toNat : Int) := hP 2 (by decide)
            have e3 : vs 3 = .int .u8 ((F : Nat) : Int) := hP 3 (by decide)
            have e4 : vs 4 = .string b := hP 4 (by decide)
            have e5 : vs 5 = iv i := hP 5 (by decide)
            have e6 : vs 6 = .int .u8 (y.toNat : Int) := hP 6 (by decide)
            have e7 : vs 7 = .int .u8 ((G : Nat) : Int) := hP 7 (by decide)
            have e8 : vs 8 = .bool true := hP 8 (by decide)
            simp only [putV, List.foldl_cons, List.foldl_nil, List.setIfInBounds_toArray, List.set_cons_zero, List.set_cons_succ, e0, e1, e2, e3, e4, e5, e6, e7, e8]
            clear e0 e1 e2 e3 e4 e5 e6 e7 e8 hP hall fr_SG
            have HO2 := Lib.hid (HO.out.trans hS)
            clear hS
            go_wp2
            go_ret
            exact ⟨by rw [HF.out]; rfl, HO2.out⟩
      · have hd : decide (i < a.size) = false := by simp; omega
        obtain rfl : i = a.size := by omega
        have HF : Hid (E = true) := Lib.hid (HE.out true ⟨fun _ => by
          have h := HQ.out
          rw [HTl.out.1, HTl.out.2] at h
          exact h, fun _ => rfl⟩)
        go_wp2
        go_ret
        exact ⟨by rw [HF.out]; rfl, HO.out⟩
  · have hli : ¬ (a.size : Int) = (b.size : Int) := by omega
    have HF : Hid (E = false) := Lib.hid (HE.out false ⟨(fun h => by cases h), fun h => by
      have := congrArg List.length (show (nb a).map fo = (nb b).map fo from h)
      rw [List.length_map, List.length_map, nb_len, nb_len] at this
      exact absurd this hl⟩)
    go_enter Tryd.func21, Tryd.ntmps21
    go_wp2
    go_ret
    exact ⟨by rw [HF.out]; rfl, Only.refl _ _⟩
end Go.Proofs.YtphpciglpnbblaaDoor
