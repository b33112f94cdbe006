/-
  Package header, shortest.
-/
import Derived.Test.YteahiigfclabfaaDoorHT
namespace Go.Proofs.YteahiigfclabfaaDoor.H
open Go.RowKit

/-- a struct out of an array by value -/
theorem run_index_row {P : Program} {t e : TypeId} {n i k : Nat} {cs ys : Array Value} {d : TypeDesc} (hu : P.underlying t = some (.array n e)) (he : P.underlying e = some d) (hd : (match d with | .struct _ | .array _ _ => true | _ => false) = true) (hz : (P.info? e).map (·.size) = some k) (z : Int) (hzi : z = (i : Int)) (hi : i < n) (hy : cs.extract (i * k) (i * k + k) = ys) (w : World) :
    (Instr.index t (.agg cs) (.int .i64 z)).run P w = .ok (.agg ys) w := by
  subst hzi
  cases hq : P.info? e with
  | none => simp [hq] at hz
  | some inf =>
    have hs : inf.size = k := by simpa [hq] using hz
    have hagg : (isAgg e).run P w = .ok true w := by
      unfold isAgg
      rw [Sem.run_bind, run_underlying he w]
      cases d <;> simp_all
    have hb : 0 ≤ (i : Int) ∧ (i : Int) < (n : Int) := by omega
    simp [Instr.index, asIntOf, run_underlying hu, hb, part, hagg, sizeOf, typeInfo, hq, hs, go_sem]
    rw [if_pos (by omega)]
    simp [hy, go_sem]
theorem tc_extract {T : List Rw} (hT : TOk T) (k : Nat) (hk : k < 16) : (tc T).extract (k * 4) (k * 4 + 4) = #[iv (rowOf T k).u, iv (rowOf T k).l, iv (rowOf T k).m, iv (rowOf T k).s] := by
  have h0 := row_cells hT k 0 hk (by decide)
  have h1 := row_cells hT k 1 hk (by decide)
  have h2 := row_cells hT k 2 hk (by decide)
  have h3 := row_cells hT k 3 hk (by decide)
  apply Array.ext_getElem?
  intro i
  rw [Array.getElem?_extract]
  have hz := tc_size hT
  by_cases hi : i < 4
  · rw [if_pos (by omega)]
    obtain rfl | rfl | rfl | rfl : i = 0 ∨ i = 1 ∨ i = 2 ∨ i = 3 := by omega
    · rw [h0]; rfl
    · rw [h1]; rfl
    · rw [h2]; rfl
    · rw [h3]; rfl
  · rw [if_neg (by omega)]
    simp [hi]

/-- what shortest tells behind one row more: the code, what it tells, whether one was found -/
def shStep (T : List Rw) (n : Int) (st : Nat × Int × Bool) (i : Nat) : Nat × Int × Bool :=
  if telP (rowOf T i) n ∧ (st.2.2 = false ∨ (rowOf T i).s < (rowOf T st.1).s) then (i, n, true) else st
/-- .. behind j rows -/
def shF (T : List Rw) (n : Int) : Nat → Nat × Int × Bool
  | 0 => (0, 0, false)
  | j + 1 => shStep T n (shF T n j) j
theorem shF_lt (T : List Rw) (n : Int) (j : Nat) (hj : j ≤ 16) : (shF T n j).1 < 16 := by
  induction j with
  | zero => exact (show 0 < 16 by decide)
  | succ j ih =>
    show (shStep T n (shF T n j) j).1 < 16
    unfold shStep
    split
    · show j < 16; omega
    · exact ih (by omega)
def ShP (W : World) (T : List Rw) (n : Int) (s4 s5 s6 s10 : Value) (wr : World) : Prop :=
  ∃ j : Nat, j ≤ 16 ∧ s10 = iv j ∧ s4 = iv (shF T n j).1 ∧ s5 = iv (shF T n j).2.1 ∧ s6 = .bool (shF T n j).2.2 ∧ Only Nix W wr

set_option maxRecDepth 100000 in
set_option maxHeartbeats 8000000 in
theorem shortest_any {T : List Rw} (hT : TOk T) (n : Int) (hn : I64 n) (w : World) :
    Calls Tryd.prog 46 #[.agg (tc T), iv n] w fun x w' => x = .returned (.tuple #[iv (shF T n 16).1, iv (shF T n 16).2.1]) ∧ Only Nix w w' := by
  have hz := Tryd.size_tc hT
  have hz2 := tc_size hT
  have hIX : Hid (∀ k : Nat, k < 16 → ∀ u : World, (Instr.index 61 (.agg (tc T)) (iv k)).run Tryd.prog u = .ok (.agg #[iv (rowOf T k).u, iv (rowOf T k).l, iv (rowOf T k).m, iv (rowOf T k).s]) u) := Lib.hid (fun k hk u =>
    run_index_row Tryd.under_table Tryd.underlying59 rfl Tryd.size_row _ rfl hk (tc_extract hT k hk) u)
  have hTE : Hid (∀ k : Nat, k < 16 → ∀ u : World, Calls Tryd.prog 37 #[rv (rowOf T k), iv n] u fun x w' => x = .returned (.bool (decide (telP (rowOf T k) n))) ∧ Only Nix u w') := Lib.hid (fun k hk u => tells_any _ (rowOf_bd hT k) n hn u)
  have hCE : Hid (∀ k : Nat, k < 16 → (tc T)[k * 4 + 3]? = some (iv (rowOf T k).s)) := Lib.hid (fun k hk => row_cells hT k 3 hk (by decide))
  have hBD : Hid (∀ k : Nat, (rowOf T k).s ≤ 16) := Lib.hid (fun k => (rowOf_bd hT k).2.2.2)
  generalize hC : tc T = C at *
  have hB := Box.new w 61 C
  have HO := Lib.hid ((Only.refl Nix w).alloc (.cells C 61))
  have HZ := Lib.hid hz
  clear hz hn
  generalize hW0 : w.alloc (.cells C 61) = W0 at *
  have HB := Lib.hid hB
  go_enter Tryd.func46, Tryd.ntmps46
  go_wp2_with (refine wpList_load_row rfl 61 _ rfl w.heap.size rfl 61 C (0, 0) _ HB.out Tryd.under_table rfl HZ.out ?_)
  go_loopw [4, 5, 6, 10] (fun s4 s5 s6 s10 wr => ShP W0 T n s4 s5 s6 s10 wr) (fun _ _ _ s10 _ => 16 - (intOf s10).toNat)
  case atStart => exact ⟨0, by decide, rfl, rfl, rfl, rfl, Only.refl _ _⟩
  case round =>
    obtain ⟨j, hj, rfl, rfl, rfl, rfl, hO⟩ := hrel
    have HR := Lib.hid hO
    clear hO hB
    by_cases hlt : j < 16
    · have hlt2 : (j : Int) < 16 := by omega
      have hix := hIX.out j hlt
      go_wp2
      have hX := hTE.out j hlt
      have hs3 := hBD.out j
      have hst : shF T n (j + 1) = shStep T n (shF T n j) j := rfl
      have hc16 := shF_lt T n j hj
      generalize shF T n j = st at *
      obtain ⟨c, t, F⟩ := st
      have hSt := Lib.hid hst
      simp only at hc16
      have hcs := hCE.out c hc16
      have hs4 := hBD.out c
      obtain ⟨X, hX2⟩ : ∃ X, decide (telP (rowOf T j) n) = X := ⟨_, rfl⟩
      rw [hX2] at hX
      have hX3 : Hid (telP (rowOf T j) n ↔ X = true) := Lib.hid (by rw [← hX2]; simp)
      have hHS : Hid (shStep T n (c, t, F) j = if telP (rowOf T j) n ∧ (F = false ∨ (rowOf T j).s < (rowOf T c).s) then (j, n, true) else (c, t, F)) := Lib.hid rfl
      generalize rowOf T c = Rc at *
      clear hX2 hst hix
      generalize rowOf T j = Rj at *
      obtain ⟨ru, rl, rm, rs⟩ := Rj
      simp only [rv] at hX
      simp only at hs3 ⊢
      have HX := Lib.hid hX
      clear hX
      have hBr := Box.new wr 59 #[iv ru, iv rl, iv rm, iv rs]
      have hOr := Lib.hid ((Only.refl Nix wr).alloc (.cells #[iv ru, iv rl, iv rm, iv rs] 59))
      have hM : wr.heap.size = wr.heap.size := rfl
      generalize hW1 : wr.alloc (.cells #[iv ru, iv rl, iv rm, iv rs] 59) = W1 at *
      have hRg : W1.rangeAt wr.heap.size 0 [iv ru, iv rl, iv rm, iv rs] := fun i v hi => by
        rw [Nat.zero_add, hBr.cell]
        simpa using hi
      have q3 : W1.cell? ⟨wr.heap.size, 3, none⟩ = some (iv rs) := hBr.cell 3
      have qc : W1.cell? ⟨w.heap.size, c * 4 + 3, none⟩ = some (iv Rc.s) := U.cell_keep (HR.out.trans hOr.out) ((HB.out.cell (c * 4 + 3)).trans hcs)
      have HOW : Hid (Only Nix W0 W1) := Lib.hid (HR.out.trans hOr.out)
      have hc17 : (c : Int) < 16 := by omega
      clear hBr hcs hOr
      cases X with
      | false =>
        have hQ : Hid (¬ (telP ⟨ru, rl, rm, rs⟩ n ∧ (F = false ∨ rs < Rc.s))) := Lib.hid (fun h => by have := hX3.out.1 h.1; cases this)
        cases F with
        | false =>
          have fr_Ra : ∀ j s, j < 16 → (([some 14, some 15, some 16, some 17, some 18, some 19, some 20, some 21, some 22, some 23, some 24, some 25, some 26, some 27, some 28, some 29] : List (Option Nat)).all fun d => d != some s) = true → ([some 14, some 15, some 16, some 17, some 18, some 19, some 20, some 21, some 22, some 23, some 24, some 25, some 26, some 27, some 28, some 29] : List (Option Nat)).getD j none ≠ some s := by
            intro j s hj ha e
            rw [List.getD_eq_getElem?_getD, List.getElem?_eq_getElem (by exact hj), Option.getD_some] at e
            have := List.all_eq_true.1 ha _ (List.getElem_mem (by exact hj))
            rw [e] at this
            simp at this
          refine region_tel (by kernel_rfl) (fun k0 => ([some 14, some 15, some 16, some 17, some 18, some 19, some 20, some 21, some 22, some 23, some 24, some 25, some 26, some 27, some 28, some 29] : List (Option Nat)).getD k0 none) (PL [eqP (.agg #[iv ru, iv rl, iv rm, iv rs]),
      eqP (iv n),
      eqP (.bool false),
      eqP (.bool false),
      eqP (undef),
      eqP (undef),
      eqP (undef),
      eqP (undef),
      eqP (undef),
      eqP (undef),
      eqP (undef),
      eqP (undef),
      eqP (undef),
      eqP (undef),
      eqP (undef),
      eqP (.bool false)]) (fun u u' => Only Nix u u') (fun _ u => Only Nix (W1) u) 35 16 rfl (by kernel_rfl) (by kernel_rfl) rfl (by kernel_rfl) (by kernel_rfl) (stab_all ⟨fun _ _ _ h _ => h, fun _ _ _ h _ => h, fun _ _ _ h _ => h, fun _ _ _ h _ => h, fun _ _ _ h _ => h, fun _ _ _ h _ => h, fun _ _ _ h _ => h, fun _ _ _ h _ => h, fun _ _ _ h _ => h, fun _ _ _ h _ => h, fun _ _ _ h _ => h, fun _ _ _ h _ => h, fun _ _ _ h _ => h, fun _ _ _ h _ => h, fun _ _ _ h _ => h, fun _ _ _ h _ => h, trivial⟩) ((Only.refl _ _).drew) ?stepsRa (fun vs => [(14, vs 0), (15, vs 1), (16, vs 2), (17, vs 3), (18, vs 4), (19, vs 5), (20, vs 6), (21, vs 7), (22, vs 8), (23, vs 9), (24, vs 10), (25, vs 11), (26, vs 12), (27, vs 13), (28, vs 14), (29, vs 15)]) (fun vs => rfl) ?doneRa
          case stepsRa =>
            refine ⟨?_, ?_, ?_, ?_, ?_, ?_, ?_, ?_, ?_, ?_, ?_, ?_, ?_, ?_, ?_, ?_, trivial⟩
            · intro L vs A' u hW hL0 hnd K' hK
              have hS := hW.wi.s
              have r8 : A'.tmps[8]? = some (.pointer (some ⟨wr.heap.size, 0, none⟩)) := (hW.out 8 (fun j hj => fr_Ra j 8 hj (by kernel_rfl))).trans rfl
              refine wp_load_mid 59 _ rfl wr.heap.size 0 (by go_simp) [iv ru, iv rl, iv rm, iv rs] _ (range_nix hRg hS) Tryd.underlying59 rfl Tryd.size_row ?_
              exact hK _ _ rfl (Only.refl _ _) hS
            · intro L vs A' u hW hL0 hnd K' hK
              have hS := hW.wi.s
              have r1 : A'.tmps[1]? = some (iv n) := (hW.out 1 (fun j hj => fr_Ra j 1 hj (by kernel_rfl))).trans rfl
              go_simp
              exact hK _ _ (by first | rfl | (show _ = _; simp)) (Only.refl _ _) hS
            · intro L vs A' u hW hL0 hnd K' hK
              have hS := hW.wi.s
              have r14 : A'.tmps[14]? = some (.agg #[iv ru, iv rl, iv rm, iv rs]) := by
                obtain ⟨x, e, h⟩ := hW.tel 0 14 (by decide) (hnd 0 (by kernel_rfl)) rfl
                rw [e]; exact congrArg some h
              have r15 : A'.tmps[15]? = some (iv n) := by
                obtain ⟨x, e, h⟩ := hW.tel 1 15 (by decide) (hnd 1 (by kernel_rfl)) rfl
                rw [e]; exact congrArg some h
              have HCL := Lib.hid (HX.out u)
              go_simp
              refine (HCL.out).mono ?_
              rintro _ u' ⟨rfl, ho'⟩
              exact hK _ _ (rfl) ho' (hS.trans ho')
            · intro L vs A' u hW hL0 hnd K' hK
              have hS := hW.wi.s
              have r16 : A'.tmps[16]? = some (.bool false) := by
                obtain ⟨x, e, h⟩ := hW.tel 2 16 (by decide) (hnd 2 (by kernel_rfl)) rfl
                rw [e]; exact congrArg some h
              go_simp
              exact hK _ _ (by first | rfl | (show _ = _; simp)) (Only.refl _ _) hS
            · intro L vs A' u hW hL0 hnd K' hK
              have hS := hW.wi.s
              have r17 : A'.tmps[17]? = some (.bool false) := by
                obtain ⟨x, e, h⟩ := hW.tel 3 17 (by decide) (hnd 3 (by kernel_rfl)) rfl
                rw [e]; exact congrArg some h
              rw [if_neg (wanted_no (j := 3) (s := 17) (b := true) rfl (by kernel_rfl) r17)]
              exact hK _ _ rfl (Only.refl _ _) hS
            · intro L vs A' u hW hL0 hnd K' hK
              have hS := hW.wi.s
              have r17 : A'.tmps[17]? = some (.bool false) := by
                obtain ⟨x, e, h⟩ := hW.tel 3 17 (by decide) (hnd 3 (by kernel_rfl)) rfl
                rw [e]; exact congrArg some h
              rw [if_neg (wanted_no (j := 3) (s := 17) (b := true) rfl (by kernel_rfl) r17)]
              exact hK _ _ rfl (Only.refl _ _) hS
            · intro L vs A' u hW hL0 hnd K' hK
              have hS := hW.wi.s
              have r17 : A'.tmps[17]? = some (.bool false) := by
                obtain ⟨x, e, h⟩ := hW.tel 3 17 (by decide) (hnd 3 (by kernel_rfl)) rfl
                rw [e]; exact congrArg some h
              rw [if_neg (wanted_no (j := 3) (s := 17) (b := true) rfl (by kernel_rfl) r17)]
              exact hK _ _ rfl (Only.refl _ _) hS
            · intro L vs A' u hW hL0 hnd K' hK
              have hS := hW.wi.s
              have r20 : A'.tmps[20]? = some (undef) := by
                obtain ⟨x, e, h⟩ := hW.tel 6 20 (by decide) (hnd 6 (by kernel_rfl)) rfl
                rw [e]; exact congrArg some h
              rw [if_neg (wanted_no2 (j := 6) (s := 20) (b := false) rfl (by kernel_rfl) r20)]
              exact hK _ _ rfl (Only.refl _ _) hS
            · intro L vs A' u hW hL0 hnd K' hK
              have hS := hW.wi.s
              have r20 : A'.tmps[20]? = some (undef) := by
                obtain ⟨x, e, h⟩ := hW.tel 6 20 (by decide) (hnd 6 (by kernel_rfl)) rfl
                rw [e]; exact congrArg some h
              rw [if_neg (wanted_no2 (j := 6) (s := 20) (b := false) rfl (by kernel_rfl) r20)]
              exact hK _ _ rfl (Only.refl _ _) hS
            · intro L vs A' u hW hL0 hnd K' hK
              have hS := hW.wi.s
              have r20 : A'.tmps[20]? = some (undef) := by
                obtain ⟨x, e, h⟩ := hW.tel 6 20 (by decide) (hnd 6 (by kernel_rfl)) rfl
                rw [e]; exact congrArg some h
              rw [if_neg (wanted_no2 (j := 6) (s := 20) (b := false) rfl (by kernel_rfl) r20)]
              exact hK _ _ rfl (Only.refl _ _) hS
            · intro L vs A' u hW hL0 hnd K' hK
              have hS := hW.wi.s
              have r20 : A'.tmps[20]? = some (undef) := by
                obtain ⟨x, e, h⟩ := hW.tel 6 20 (by decide) (hnd 6 (by kernel_rfl)) rfl
                rw [e]; exact congrArg some h
              rw [if_neg (wanted_no2 (j := 6) (s := 20) (b := false) rfl (by kernel_rfl) r20)]
              exact hK _ _ rfl (Only.refl _ _) hS
            · intro L vs A' u hW hL0 hnd K' hK
              have hS := hW.wi.s
              have r20 : A'.tmps[20]? = some (undef) := by
                obtain ⟨x, e, h⟩ := hW.tel 6 20 (by decide) (hnd 6 (by kernel_rfl)) rfl
                rw [e]; exact congrArg some h
              rw [if_neg (wanted_no2 (j := 6) (s := 20) (b := false) rfl (by kernel_rfl) r20)]
              exact hK _ _ rfl (Only.refl _ _) hS
            · intro L vs A' u hW hL0 hnd K' hK
              have hS := hW.wi.s
              have r20 : A'.tmps[20]? = some (undef) := by
                obtain ⟨x, e, h⟩ := hW.tel 6 20 (by decide) (hnd 6 (by kernel_rfl)) rfl
                rw [e]; exact congrArg some h
              rw [if_neg (wanted_no2 (j := 6) (s := 20) (b := false) rfl (by kernel_rfl) r20)]
              exact hK _ _ rfl (Only.refl _ _) hS
            · intro L vs A' u hW hL0 hnd K' hK
              have hS := hW.wi.s
              have r20 : A'.tmps[20]? = some (undef) := by
                obtain ⟨x, e, h⟩ := hW.tel 6 20 (by decide) (hnd 6 (by kernel_rfl)) rfl
                rw [e]; exact congrArg some h
              rw [if_neg (wanted_no2 (j := 6) (s := 20) (b := false) rfl (by kernel_rfl) r20)]
              exact hK _ _ rfl (Only.refl _ _) hS
            · intro L vs A' u hW hL0 hnd K' hK
              have hS := hW.wi.s
              have r17 : A'.tmps[17]? = some (.bool false) := by
                obtain ⟨x, e, h⟩ := hW.tel 3 17 (by decide) (hnd 3 (by kernel_rfl)) rfl
                rw [e]; exact congrArg some h
              rw [if_neg (wanted_no (j := 3) (s := 17) (b := true) rfl (by kernel_rfl) r17)]
              exact hK _ _ rfl (Only.refl _ _) hS
            · intro L vs A' u hW hL0 hnd K' hK
              have hS := hW.wi.s
              have r17 : A'.tmps[17]? = some (.bool false) := by
                obtain ⟨x, e, h⟩ := hW.tel 3 17 (by decide) (hnd 3 (by kernel_rfl)) rfl
                rw [e]; exact congrArg some h
              have r28 : A'.tmps[28]? = some (undef) := by
                obtain ⟨x, e, h⟩ := hW.tel 14 28 (by decide) (hnd 14 (by kernel_rfl)) rfl
                rw [e]; exact congrArg some h
              go_simp
              exact hK _ _ (by first | rfl | (show _ = _; simp)) (Only.refl _ _) hS
          case doneRa =>
            intro L vs u hS hP hall
            have e15 : vs 15 = .bool false := hP 15 (by decide)
            have HS := Lib.hid (HOW.out.trans hS)
            clear hS hP hall fr_Ra
            simp only [putV, List.foldl_cons, List.foldl_nil, List.setIfInBounds_toArray, List.set_cons_zero, List.set_cons_succ]
            rw [e15]
            go_wp2
            go_roundw
            case rel => exact ⟨j + 1, by omega, by go_num, by rw [hSt.out, hHS.out, if_neg hQ.out], by rw [hSt.out, hHS.out, if_neg hQ.out], by rw [hSt.out, hHS.out, if_neg hQ.out], HS.out⟩
            case measure => simp [intOf]; omega
        | true =>
          have fr_Rb : ∀ j s, j < 16 → (([some 14, some 15, some 16, some 17, some 18, some 19, some 20, some 21, some 22, some 23, some 24, some 25, some 26, some 27, some 28, some 29] : List (Option Nat)).all fun d => d != some s) = true → ([some 14, some 15, some 16, some 17, some 18, some 19, some 20, some 21, some 22, some 23, some 24, some 25, some 26, some 27, some 28, some 29] : List (Option Nat)).getD j none ≠ some s := by
            intro j s hj ha e
            rw [List.getD_eq_getElem?_getD, List.getElem?_eq_getElem (by exact hj), Option.getD_some] at e
            have := List.all_eq_true.1 ha _ (List.getElem_mem (by exact hj))
            rw [e] at this
            simp at this
          refine region_tel (by kernel_rfl) (fun k0 => ([some 14, some 15, some 16, some 17, some 18, some 19, some 20, some 21, some 22, some 23, some 24, some 25, some 26, some 27, some 28, some 29] : List (Option Nat)).getD k0 none) (PL [eqP (.agg #[iv ru, iv rl, iv rm, iv rs]),
      eqP (iv n),
      eqP (.bool false),
      eqP (.bool false),
      eqP (undef),
      eqP (undef),
      eqP (undef),
      eqP (undef),
      eqP (undef),
      eqP (undef),
      eqP (undef),
      eqP (undef),
      eqP (undef),
      eqP (undef),
      eqP (undef),
      eqP (.bool false)]) (fun u u' => Only Nix u u') (fun _ u => Only Nix (W1) u) 35 16 rfl (by kernel_rfl) (by kernel_rfl) rfl (by kernel_rfl) (by kernel_rfl) (stab_all ⟨fun _ _ _ h _ => h, fun _ _ _ h _ => h, fun _ _ _ h _ => h, fun _ _ _ h _ => h, fun _ _ _ h _ => h, fun _ _ _ h _ => h, fun _ _ _ h _ => h, fun _ _ _ h _ => h, fun _ _ _ h _ => h, fun _ _ _ h _ => h, fun _ _ _ h _ => h, fun _ _ _ h _ => h, fun _ _ _ h _ => h, fun _ _ _ h _ => h, fun _ _ _ h _ => h, fun _ _ _ h _ => h, trivial⟩) ((Only.refl _ _).drew) ?stepsRb (fun vs => [(14, vs 0), (15, vs 1), (16, vs 2), (17, vs 3), (18, vs 4), (19, vs 5), (20, vs 6), (21, vs 7), (22, vs 8), (23, vs 9), (24, vs 10), (25, vs 11), (26, vs 12), (27, vs 13), (28, vs 14), (29, vs 15)]) (fun vs => rfl) ?doneRb
          case stepsRb =>
            refine ⟨?_, ?_, ?_, ?_, ?_, ?_, ?_, ?_, ?_, ?_, ?_, ?_, ?_, ?_, ?_, ?_, trivial⟩
            · intro L vs A' u hW hL0 hnd K' hK
              have hS := hW.wi.s
              have r8 : A'.tmps[8]? = some (.pointer (some ⟨wr.heap.size, 0, none⟩)) := (hW.out 8 (fun j hj => fr_Rb j 8 hj (by kernel_rfl))).trans rfl
              refine wp_load_mid 59 _ rfl wr.heap.size 0 (by go_simp) [iv ru, iv rl, iv rm, iv rs] _ (range_nix hRg hS) Tryd.underlying59 rfl Tryd.size_row ?_
              exact hK _ _ rfl (Only.refl _ _) hS
            · intro L vs A' u hW hL0 hnd K' hK
              have hS := hW.wi.s
              have r1 : A'.tmps[1]? = some (iv n) := (hW.out 1 (fun j hj => fr_Rb j 1 hj (by kernel_rfl))).trans rfl
              go_simp
              exact hK _ _ (by first | rfl | (show _ = _; simp)) (Only.refl _ _) hS
            · intro L vs A' u hW hL0 hnd K' hK
              have hS := hW.wi.s
              have r14 : A'.tmps[14]? = some (.agg #[iv ru, iv rl, iv rm, iv rs]) := by
                obtain ⟨x, e, h⟩ := hW.tel 0 14 (by decide) (hnd 0 (by kernel_rfl)) rfl
                rw [e]; exact congrArg some h
              have r15 : A'.tmps[15]? = some (iv n) := by
                obtain ⟨x, e, h⟩ := hW.tel 1 15 (by decide) (hnd 1 (by kernel_rfl)) rfl
                rw [e]; exact congrArg some h
              have HCL := Lib.hid (HX.out u)
              go_simp
              refine (HCL.out).mono ?_
              rintro _ u' ⟨rfl, ho'⟩
              exact hK _ _ (rfl) ho' (hS.trans ho')
            · intro L vs A' u hW hL0 hnd K' hK
              have hS := hW.wi.s
              have r16 : A'.tmps[16]? = some (.bool false) := by
                obtain ⟨x, e, h⟩ := hW.tel 2 16 (by decide) (hnd 2 (by kernel_rfl)) rfl
                rw [e]; exact congrArg some h
              go_simp
              exact hK _ _ (by first | rfl | (show _ = _; simp)) (Only.refl _ _) hS
            · intro L vs A' u hW hL0 hnd K' hK
              have hS := hW.wi.s
              have r17 : A'.tmps[17]? = some (.bool false) := by
                obtain ⟨x, e, h⟩ := hW.tel 3 17 (by decide) (hnd 3 (by kernel_rfl)) rfl
                rw [e]; exact congrArg some h
              rw [if_neg (wanted_no (j := 3) (s := 17) (b := true) rfl (by kernel_rfl) r17)]
              exact hK _ _ rfl (Only.refl _ _) hS
            · intro L vs A' u hW hL0 hnd K' hK
              have hS := hW.wi.s
              have r17 : A'.tmps[17]? = some (.bool false) := by
                obtain ⟨x, e, h⟩ := hW.tel 3 17 (by decide) (hnd 3 (by kernel_rfl)) rfl
                rw [e]; exact congrArg some h
              rw [if_neg (wanted_no (j := 3) (s := 17) (b := true) rfl (by kernel_rfl) r17)]
              exact hK _ _ rfl (Only.refl _ _) hS
            · intro L vs A' u hW hL0 hnd K' hK
              have hS := hW.wi.s
              have r17 : A'.tmps[17]? = some (.bool false) := by
                obtain ⟨x, e, h⟩ := hW.tel 3 17 (by decide) (hnd 3 (by kernel_rfl)) rfl
                rw [e]; exact congrArg some h
              rw [if_neg (wanted_no (j := 3) (s := 17) (b := true) rfl (by kernel_rfl) r17)]
              exact hK _ _ rfl (Only.refl _ _) hS
            · intro L vs A' u hW hL0 hnd K' hK
              have hS := hW.wi.s
              have r20 : A'.tmps[20]? = some (undef) := by
                obtain ⟨x, e, h⟩ := hW.tel 6 20 (by decide) (hnd 6 (by kernel_rfl)) rfl
                rw [e]; exact congrArg some h
              rw [if_neg (wanted_no2 (j := 6) (s := 20) (b := false) rfl (by kernel_rfl) r20)]
              exact hK _ _ rfl (Only.refl _ _) hS
            · intro L vs A' u hW hL0 hnd K' hK
              have hS := hW.wi.s
              have r20 : A'.tmps[20]? = some (undef) := by
                obtain ⟨x, e, h⟩ := hW.tel 6 20 (by decide) (hnd 6 (by kernel_rfl)) rfl
                rw [e]; exact congrArg some h
              rw [if_neg (wanted_no2 (j := 6) (s := 20) (b := false) rfl (by kernel_rfl) r20)]
              exact hK _ _ rfl (Only.refl _ _) hS
            · intro L vs A' u hW hL0 hnd K' hK
              have hS := hW.wi.s
              have r20 : A'.tmps[20]? = some (undef) := by
                obtain ⟨x, e, h⟩ := hW.tel 6 20 (by decide) (hnd 6 (by kernel_rfl)) rfl
                rw [e]; exact congrArg some h
              rw [if_neg (wanted_no2 (j := 6) (s := 20) (b := false) rfl (by kernel_rfl) r20)]
              exact hK _ _ rfl (Only.refl _ _) hS
            · intro L vs A' u hW hL0 hnd K' hK
              have hS := hW.wi.s
              have r20 : A'.tmps[20]? = some (undef) := by
                obtain ⟨x, e, h⟩ := hW.tel 6 20 (by decide) (hnd 6 (by kernel_rfl)) rfl
                rw [e]; exact congrArg some h
              rw [if_neg (wanted_no2 (j := 6) (s := 20) (b := false) rfl (by kernel_rfl) r20)]
              exact hK _ _ rfl (Only.refl _ _) hS
            · intro L vs A' u hW hL0 hnd K' hK
              have hS := hW.wi.s
              have r20 : A'.tmps[20]? = some (undef) := by
                obtain ⟨x, e, h⟩ := hW.tel 6 20 (by decide) (hnd 6 (by kernel_rfl)) rfl
                rw [e]; exact congrArg some h
              rw [if_neg (wanted_no2 (j := 6) (s := 20) (b := false) rfl (by kernel_rfl) r20)]
              exact hK _ _ rfl (Only.refl _ _) hS
            · intro L vs A' u hW hL0 hnd K' hK
              have hS := hW.wi.s
              have r20 : A'.tmps[20]? = some (undef) := by
                obtain ⟨x, e, h⟩ := hW.tel 6 20 (by decide) (hnd 6 (by kernel_rfl)) rfl
                rw [e]; exact congrArg some h
              rw [if_neg (wanted_no2 (j := 6) (s := 20) (b := false) rfl (by kernel_rfl) r20)]
              exact hK _ _ rfl (Only.refl _ _) hS
            · intro L vs A' u hW hL0 hnd K' hK
              have hS := hW.wi.s
              have r20 : A'.tmps[20]? = some (undef) := by
                obtain ⟨x, e, h⟩ := hW.tel 6 20 (by decide) (hnd 6 (by kernel_rfl)) rfl
                rw [e]; exact congrArg some h
              rw [if_neg (wanted_no2 (j := 6) (s := 20) (b := false) rfl (by kernel_rfl) r20)]
              exact hK _ _ rfl (Only.refl _ _) hS
            · intro L vs A' u hW hL0 hnd K' hK
              have hS := hW.wi.s
              have r17 : A'.tmps[17]? = some (.bool false) := by
                obtain ⟨x, e, h⟩ := hW.tel 3 17 (by decide) (hnd 3 (by kernel_rfl)) rfl
                rw [e]; exact congrArg some h
              rw [if_neg (wanted_no (j := 3) (s := 17) (b := true) rfl (by kernel_rfl) r17)]
              exact hK _ _ rfl (Only.refl _ _) hS
            · intro L vs A' u hW hL0 hnd K' hK
              have hS := hW.wi.s
              have r17 : A'.tmps[17]? = some (.bool false) := by
                obtain ⟨x, e, h⟩ := hW.tel 3 17 (by decide) (hnd 3 (by kernel_rfl)) rfl
                rw [e]; exact congrArg some h
              have r28 : A'.tmps[28]? = some (undef) := by
                obtain ⟨x, e, h⟩ := hW.tel 14 28 (by decide) (hnd 14 (by kernel_rfl)) rfl
                rw [e]; exact congrArg some h
              go_simp
              exact hK _ _ (by first | rfl | (show _ = _; simp)) (Only.refl _ _) hS
          case doneRb =>
            intro L vs u hS hP hall
            have e15 : vs 15 = .bool false := hP 15 (by decide)
            have HS := Lib.hid (HOW.out.trans hS)
            clear hS hP hall fr_Rb
            simp only [putV, List.foldl_cons, List.foldl_nil, List.setIfInBounds_toArray, List.set_cons_zero, List.set_cons_succ]
            rw [e15]
            go_wp2
            go_roundw
            case rel => exact ⟨j + 1, by omega, by go_num, by rw [hSt.out, hHS.out, if_neg hQ.out], by rw [hSt.out, hHS.out, if_neg hQ.out], by rw [hSt.out, hHS.out, if_neg hQ.out], HS.out⟩
            case measure => simp [intOf]; omega
      | true =>
        cases F with
        | false =>
          have hQ : Hid (telP ⟨ru, rl, rm, rs⟩ n ∧ (false = false ∨ rs < Rc.s)) := Lib.hid ⟨hX3.out.2 rfl, .inl rfl⟩
          have fr_Rc : ∀ j s, j < 16 → (([some 14, some 15, some 16, some 17, some 18, some 19, some 20, some 21, some 22, some 23, some 24, some 25, some 26, some 27, some 28, some 29] : List (Option Nat)).all fun d => d != some s) = true → ([some 14, some 15, some 16, some 17, some 18, some 19, some 20, some 21, some 22, some 23, some 24, some 25, some 26, some 27, some 28, some 29] : List (Option Nat)).getD j none ≠ some s := by
            intro j s hj ha e
            rw [List.getD_eq_getElem?_getD, List.getElem?_eq_getElem (by exact hj), Option.getD_some] at e
            have := List.all_eq_true.1 ha _ (List.getElem_mem (by exact hj))
            rw [e] at this
            simp at this
          refine region_tel (by kernel_rfl) (fun k0 => ([some 14, some 15, some 16, some 17, some 18, some 19, some 20, some 21, some 22, some 23, some 24, some 25, some 26, some 27, some 28, some 29] : List (Option Nat)).getD k0 none) (PL [eqP (.agg #[iv ru, iv rl, iv rm, iv rs]),
      eqP (iv n),
      eqP (.bool true),
      eqP (.bool true),
      eqP (.bool false),
      eqP (.bool true),
      eqP (.bool true),
      eqP (undef),
      eqP (undef),
      eqP (undef),
      eqP (undef),
      eqP (undef),
      eqP (undef),
      eqP (undef),
      eqP (.bool true),
      eqP (.bool true)]) (fun u u' => Only Nix u u') (fun _ u => Only Nix (W1) u) 35 16 rfl (by kernel_rfl) (by kernel_rfl) rfl (by kernel_rfl) (by kernel_rfl) (stab_all ⟨fun _ _ _ h _ => h, fun _ _ _ h _ => h, fun _ _ _ h _ => h, fun _ _ _ h _ => h, fun _ _ _ h _ => h, fun _ _ _ h _ => h, fun _ _ _ h _ => h, fun _ _ _ h _ => h, fun _ _ _ h _ => h, fun _ _ _ h _ => h, fun _ _ _ h _ => h, fun _ _ _ h _ => h, fun _ _ _ h _ => h, fun _ _ _ h _ => h, fun _ _ _ h _ => h, fun _ _ _ h _ => h, trivial⟩) ((Only.refl _ _).drew) ?stepsRc (fun vs => [(14, vs 0), (15, vs 1), (16, vs 2), (17, vs 3), (18, vs 4), (19, vs 5), (20, vs 6), (21, vs 7), (22, vs 8), (23, vs 9), (24, vs 10), (25, vs 11), (26, vs 12), (27, vs 13), (28, vs 14), (29, vs 15)]) (fun vs => rfl) ?doneRc
          case stepsRc =>
            refine ⟨?_, ?_, ?_, ?_, ?_, ?_, ?_, ?_, ?_, ?_, ?_, ?_, ?_, ?_, ?_, ?_, trivial⟩
            · intro L vs A' u hW hL0 hnd K' hK
              have hS := hW.wi.s
              have r8 : A'.tmps[8]? = some (.pointer (some ⟨wr.heap.size, 0, none⟩)) := (hW.out 8 (fun j hj => fr_Rc j 8 hj (by kernel_rfl))).trans rfl
              refine wp_load_mid 59 _ rfl wr.heap.size 0 (by go_simp) [iv ru, iv rl, iv rm, iv rs] _ (range_nix hRg hS) Tryd.underlying59 rfl Tryd.size_row ?_
              exact hK _ _ rfl (Only.refl _ _) hS
            · intro L vs A' u hW hL0 hnd K' hK
              have hS := hW.wi.s
              have r1 : A'.tmps[1]? = some (iv n) := (hW.out 1 (fun j hj => fr_Rc j 1 hj (by kernel_rfl))).trans rfl
              go_simp
              exact hK _ _ (by first | rfl | (show _ = _; simp)) (Only.refl _ _) hS
            · intro L vs A' u hW hL0 hnd K' hK
              have hS := hW.wi.s
              have r14 : A'.tmps[14]? = some (.agg #[iv ru, iv rl, iv rm, iv rs]) := by
                obtain ⟨x, e, h⟩ := hW.tel 0 14 (by decide) (hnd 0 (by kernel_rfl)) rfl
                rw [e]; exact congrArg some h
              have r15 : A'.tmps[15]? = some (iv n) := by
                obtain ⟨x, e, h⟩ := hW.tel 1 15 (by decide) (hnd 1 (by kernel_rfl)) rfl
                rw [e]; exact congrArg some h
              have HCL := Lib.hid (HX.out u)
              go_simp
              refine (HCL.out).mono ?_
              rintro _ u' ⟨rfl, ho'⟩
              exact hK _ _ (rfl) ho' (hS.trans ho')
            · intro L vs A' u hW hL0 hnd K' hK
              have hS := hW.wi.s
              have r16 : A'.tmps[16]? = some (.bool true) := by
                obtain ⟨x, e, h⟩ := hW.tel 2 16 (by decide) (hnd 2 (by kernel_rfl)) rfl
                rw [e]; exact congrArg some h
              go_simp
              exact hK _ _ (by first | rfl | (show _ = _; simp)) (Only.refl _ _) hS
            · intro L vs A' u hW hL0 hnd K' hK
              have hS := hW.wi.s
              have r6 : A'.tmps[6]? = some (.bool false) := (hW.out 6 (fun j hj => fr_Rc j 6 hj (by kernel_rfl))).trans rfl
              have r17 : A'.tmps[17]? = some (.bool true) := by
                obtain ⟨x, e, h⟩ := hW.tel 3 17 (by decide) (hnd 3 (by kernel_rfl)) rfl
                rw [e]; exact congrArg some h
              rw [if_pos (wanted_yes (j := 3) (s := 17) (b := true) rfl (by kernel_rfl) r17)]
              go_simp
              exact hK _ _ (by first | rfl | (show _ = _; simp)) (Only.refl _ _) hS
            · intro L vs A' u hW hL0 hnd K' hK
              have hS := hW.wi.s
              have r18 : A'.tmps[18]? = some (.bool false) := by
                obtain ⟨x, e, h⟩ := hW.tel 4 18 (by decide) (hnd 4 (by kernel_rfl)) rfl
                rw [e]; exact congrArg some h
              have r17 : A'.tmps[17]? = some (.bool true) := by
                obtain ⟨x, e, h⟩ := hW.tel 3 17 (by decide) (hnd 3 (by kernel_rfl)) rfl
                rw [e]; exact congrArg some h
              rw [if_pos (wanted_yes (j := 3) (s := 17) (b := true) rfl (by kernel_rfl) r17)]
              go_simp
              exact hK _ _ (by first | rfl | (show _ = _; simp)) (Only.refl _ _) hS
            · intro L vs A' u hW hL0 hnd K' hK
              have hS := hW.wi.s
              have r19 : A'.tmps[19]? = some (.bool true) := by
                obtain ⟨x, e, h⟩ := hW.tel 5 19 (by decide) (hnd 5 (by kernel_rfl)) rfl
                rw [e]; exact congrArg some h
              have r17 : A'.tmps[17]? = some (.bool true) := by
                obtain ⟨x, e, h⟩ := hW.tel 3 17 (by decide) (hnd 3 (by kernel_rfl)) rfl
                rw [e]; exact congrArg some h
              rw [if_pos (wanted_yes (j := 3) (s := 17) (b := true) rfl (by kernel_rfl) r17)]
              go_simp
              exact hK _ _ (by first | rfl | (show _ = _; simp)) (Only.refl _ _) hS
            · intro L vs A' u hW hL0 hnd K' hK
              have hS := hW.wi.s
              have r20 : A'.tmps[20]? = some (.bool true) := by
                obtain ⟨x, e, h⟩ := hW.tel 6 20 (by decide) (hnd 6 (by kernel_rfl)) rfl
                rw [e]; exact congrArg some h
              rw [if_neg (wanted_no (j := 6) (s := 20) (b := false) rfl (by kernel_rfl) r20)]
              exact hK _ _ rfl (Only.refl _ _) hS
            · intro L vs A' u hW hL0 hnd K' hK
              have hS := hW.wi.s
              have r20 : A'.tmps[20]? = some (.bool true) := by
                obtain ⟨x, e, h⟩ := hW.tel 6 20 (by decide) (hnd 6 (by kernel_rfl)) rfl
                rw [e]; exact congrArg some h
              rw [if_neg (wanted_no (j := 6) (s := 20) (b := false) rfl (by kernel_rfl) r20)]
              exact hK _ _ rfl (Only.refl _ _) hS
            · intro L vs A' u hW hL0 hnd K' hK
              have hS := hW.wi.s
              have r20 : A'.tmps[20]? = some (.bool true) := by
                obtain ⟨x, e, h⟩ := hW.tel 6 20 (by decide) (hnd 6 (by kernel_rfl)) rfl
                rw [e]; exact congrArg some h
              rw [if_neg (wanted_no (j := 6) (s := 20) (b := false) rfl (by kernel_rfl) r20)]
              exact hK _ _ rfl (Only.refl _ _) hS
            · intro L vs A' u hW hL0 hnd K' hK
              have hS := hW.wi.s
              have r20 : A'.tmps[20]? = some (.bool true) := by
                obtain ⟨x, e, h⟩ := hW.tel 6 20 (by decide) (hnd 6 (by kernel_rfl)) rfl
                rw [e]; exact congrArg some h
              rw [if_neg (wanted_no (j := 6) (s := 20) (b := false) rfl (by kernel_rfl) r20)]
              exact hK _ _ rfl (Only.refl _ _) hS
            · intro L vs A' u hW hL0 hnd K' hK
              have hS := hW.wi.s
              have r20 : A'.tmps[20]? = some (.bool true) := by
                obtain ⟨x, e, h⟩ := hW.tel 6 20 (by decide) (hnd 6 (by kernel_rfl)) rfl
                rw [e]; exact congrArg some h
              rw [if_neg (wanted_no (j := 6) (s := 20) (b := false) rfl (by kernel_rfl) r20)]
              exact hK _ _ rfl (Only.refl _ _) hS
            · intro L vs A' u hW hL0 hnd K' hK
              have hS := hW.wi.s
              have r20 : A'.tmps[20]? = some (.bool true) := by
                obtain ⟨x, e, h⟩ := hW.tel 6 20 (by decide) (hnd 6 (by kernel_rfl)) rfl
                rw [e]; exact congrArg some h
              rw [if_neg (wanted_no (j := 6) (s := 20) (b := false) rfl (by kernel_rfl) r20)]
              exact hK _ _ rfl (Only.refl _ _) hS
            · intro L vs A' u hW hL0 hnd K' hK
              have hS := hW.wi.s
              have r20 : A'.tmps[20]? = some (.bool true) := by
                obtain ⟨x, e, h⟩ := hW.tel 6 20 (by decide) (hnd 6 (by kernel_rfl)) rfl
                rw [e]; exact congrArg some h
              rw [if_neg (wanted_no (j := 6) (s := 20) (b := false) rfl (by kernel_rfl) r20)]
              exact hK _ _ rfl (Only.refl _ _) hS
            · intro L vs A' u hW hL0 hnd K' hK
              have hS := hW.wi.s
              have r20 : A'.tmps[20]? = some (.bool true) := by
                obtain ⟨x, e, h⟩ := hW.tel 6 20 (by decide) (hnd 6 (by kernel_rfl)) rfl
                rw [e]; exact congrArg some h
              have r27 : A'.tmps[27]? = some (undef) := by
                obtain ⟨x, e, h⟩ := hW.tel 13 27 (by decide) (hnd 13 (by kernel_rfl)) rfl
                rw [e]; exact congrArg some h
              have r17 : A'.tmps[17]? = some (.bool true) := by
                obtain ⟨x, e, h⟩ := hW.tel 3 17 (by decide) (hnd 3 (by kernel_rfl)) rfl
                rw [e]; exact congrArg some h
              rw [if_pos (wanted_yes (j := 3) (s := 17) (b := true) rfl (by kernel_rfl) r17)]
              go_simp
              exact hK _ _ (by first | rfl | (show _ = _; simp)) (Only.refl _ _) hS
            · intro L vs A' u hW hL0 hnd K' hK
              have hS := hW.wi.s
              have r17 : A'.tmps[17]? = some (.bool true) := by
                obtain ⟨x, e, h⟩ := hW.tel 3 17 (by decide) (hnd 3 (by kernel_rfl)) rfl
                rw [e]; exact congrArg some h
              have r28 : A'.tmps[28]? = some (.bool true) := by
                obtain ⟨x, e, h⟩ := hW.tel 14 28 (by decide) (hnd 14 (by kernel_rfl)) rfl
                rw [e]; exact congrArg some h
              go_simp
              exact hK _ _ (by first | rfl | (show _ = _; simp)) (Only.refl _ _) hS
          case doneRc =>
            intro L vs u hS hP hall
            have e15 : vs 15 = .bool true := hP 15 (by decide)
            have HS := Lib.hid (HOW.out.trans hS)
            clear hS hP hall fr_Rc
            simp only [putV, List.foldl_cons, List.foldl_nil, List.setIfInBounds_toArray, List.set_cons_zero, List.set_cons_succ]
            rw [e15]
            go_wp2
            go_roundw
            case rel => exact ⟨j + 1, by omega, by go_num, by rw [hSt.out, hHS.out, if_pos hQ.out], by rw [hSt.out, hHS.out, if_pos hQ.out], by rw [hSt.out, hHS.out, if_pos hQ.out], HS.out⟩
            case measure => simp [intOf]; omega
        | true =>
          by_cases hcmp : rs < Rc.s
          · have hci : (rs : Int) < (Rc.s : Int) := by omega
            have hQ : Hid (telP ⟨ru, rl, rm, rs⟩ n ∧ (true = false ∨ rs < Rc.s)) := Lib.hid ⟨hX3.out.2 rfl, .inr hcmp⟩
            have fr_Rd : ∀ j s, j < 16 → (([some 14, some 15, some 16, some 17, some 18, some 19, some 20, some 21, some 22, some 23, some 24, some 25, some 26, some 27, some 28, some 29] : List (Option Nat)).all fun d => d != some s) = true → ([some 14, some 15, some 16, some 17, some 18, some 19, some 20, some 21, some 22, some 23, some 24, some 25, some 26, some 27, some 28, some 29] : List (Option Nat)).getD j none ≠ some s := by
              intro j s hj ha e
              rw [List.getD_eq_getElem?_getD, List.getElem?_eq_getElem (by exact hj), Option.getD_some] at e
              have := List.all_eq_true.1 ha _ (List.getElem_mem (by exact hj))
              rw [e] at this
              simp at this
            refine region_tel (by kernel_rfl) (fun k0 => ([some 14, some 15, some 16, some 17, some 18, some 19, some 20, some 21, some 22, some 23, some 24, some 25, some 26, some 27, some 28, some 29] : List (Option Nat)).getD k0 none) (PL [eqP (.agg #[iv ru, iv rl, iv rm, iv rs]),
      eqP (iv n),
      eqP (.bool true),
      eqP (.bool true),
      eqP (.bool true),
      eqP (.bool false),
      eqP (.bool false),
      eqP (.pointer (some ⟨wr.heap.size, 3, none⟩)),
      eqP (iv rs),
      eqP (iv c),
      eqP (.pointer (some ⟨w.heap.size, c * 4, none⟩)),
      eqP (.pointer (some ⟨w.heap.size, c * 4 + 3, none⟩)),
      eqP (iv Rc.s),
      eqP (.bool true),
      eqP (.bool true),
      eqP (.bool true)]) (fun u u' => Only Nix u u') (fun _ u => Only Nix (W1) u) 35 16 rfl (by kernel_rfl) (by kernel_rfl) rfl (by kernel_rfl) (by kernel_rfl) (stab_all ⟨fun _ _ _ h _ => h, fun _ _ _ h _ => h, fun _ _ _ h _ => h, fun _ _ _ h _ => h, fun _ _ _ h _ => h, fun _ _ _ h _ => h, fun _ _ _ h _ => h, fun _ _ _ h _ => h, fun _ _ _ h _ => h, fun _ _ _ h _ => h, fun _ _ _ h _ => h, fun _ _ _ h _ => h, fun _ _ _ h _ => h, fun _ _ _ h _ => h, fun _ _ _ h _ => h, fun _ _ _ h _ => h, trivial⟩) ((Only.refl _ _).drew) ?stepsRd (fun vs => [(14, vs 0), (15, vs 1), (16, vs 2), (17, vs 3), (18, vs 4), (19, vs 5), (20, vs 6), (21, vs 7), (22, vs 8), (23, vs 9), (24, vs 10), (25, vs 11), (26, vs 12), (27, vs 13), (28, vs 14), (29, vs 15)]) (fun vs => rfl) ?doneRd
            case stepsRd =>
              refine ⟨?_, ?_, ?_, ?_, ?_, ?_, ?_, ?_, ?_, ?_, ?_, ?_, ?_, ?_, ?_, ?_, trivial⟩
              · intro L vs A' u hW hL0 hnd K' hK
                have hS := hW.wi.s
                have r8 : A'.tmps[8]? = some (.pointer (some ⟨wr.heap.size, 0, none⟩)) := (hW.out 8 (fun j hj => fr_Rd j 8 hj (by kernel_rfl))).trans rfl
                refine wp_load_mid 59 _ rfl wr.heap.size 0 (by go_simp) [iv ru, iv rl, iv rm, iv rs] _ (range_nix hRg hS) Tryd.underlying59 rfl Tryd.size_row ?_
                exact hK _ _ rfl (Only.refl _ _) hS
              · intro L vs A' u hW hL0 hnd K' hK
                have hS := hW.wi.s
                have r1 : A'.tmps[1]? = some (iv n) := (hW.out 1 (fun j hj => fr_Rd j 1 hj (by kernel_rfl))).trans rfl
                go_simp
                exact hK _ _ (by first | rfl | (show _ = _; simp)) (Only.refl _ _) hS
              · intro L vs A' u hW hL0 hnd K' hK
                have hS := hW.wi.s
                have r14 : A'.tmps[14]? = some (.agg #[iv ru, iv rl, iv rm, iv rs]) := by
                  obtain ⟨x, e, h⟩ := hW.tel 0 14 (by decide) (hnd 0 (by kernel_rfl)) rfl
                  rw [e]; exact congrArg some h
                have r15 : A'.tmps[15]? = some (iv n) := by
                  obtain ⟨x, e, h⟩ := hW.tel 1 15 (by decide) (hnd 1 (by kernel_rfl)) rfl
                  rw [e]; exact congrArg some h
                have HCL := Lib.hid (HX.out u)
                go_simp
                refine (HCL.out).mono ?_
                rintro _ u' ⟨rfl, ho'⟩
                exact hK _ _ (rfl) ho' (hS.trans ho')
              · intro L vs A' u hW hL0 hnd K' hK
                have hS := hW.wi.s
                have r16 : A'.tmps[16]? = some (.bool true) := by
                  obtain ⟨x, e, h⟩ := hW.tel 2 16 (by decide) (hnd 2 (by kernel_rfl)) rfl
                  rw [e]; exact congrArg some h
                go_simp
                exact hK _ _ (by first | rfl | (show _ = _; simp)) (Only.refl _ _) hS
              · intro L vs A' u hW hL0 hnd K' hK
                have hS := hW.wi.s
                have r6 : A'.tmps[6]? = some (.bool true) := (hW.out 6 (fun j hj => fr_Rd j 6 hj (by kernel_rfl))).trans rfl
                have r17 : A'.tmps[17]? = some (.bool true) := by
                  obtain ⟨x, e, h⟩ := hW.tel 3 17 (by decide) (hnd 3 (by kernel_rfl)) rfl
                  rw [e]; exact congrArg some h
                rw [if_pos (wanted_yes (j := 3) (s := 17) (b := true) rfl (by kernel_rfl) r17)]
                go_simp
                exact hK _ _ (by first | rfl | (show _ = _; simp)) (Only.refl _ _) hS
              · intro L vs A' u hW hL0 hnd K' hK
                have hS := hW.wi.s
                have r18 : A'.tmps[18]? = some (.bool true) := by
                  obtain ⟨x, e, h⟩ := hW.tel 4 18 (by decide) (hnd 4 (by kernel_rfl)) rfl
                  rw [e]; exact congrArg some h
                have r17 : A'.tmps[17]? = some (.bool true) := by
                  obtain ⟨x, e, h⟩ := hW.tel 3 17 (by decide) (hnd 3 (by kernel_rfl)) rfl
                  rw [e]; exact congrArg some h
                rw [if_pos (wanted_yes (j := 3) (s := 17) (b := true) rfl (by kernel_rfl) r17)]
                go_simp
                exact hK _ _ (by first | rfl | (show _ = _; simp)) (Only.refl _ _) hS
              · intro L vs A' u hW hL0 hnd K' hK
                have hS := hW.wi.s
                have r19 : A'.tmps[19]? = some (.bool false) := by
                  obtain ⟨x, e, h⟩ := hW.tel 5 19 (by decide) (hnd 5 (by kernel_rfl)) rfl
                  rw [e]; exact congrArg some h
                have r17 : A'.tmps[17]? = some (.bool true) := by
                  obtain ⟨x, e, h⟩ := hW.tel 3 17 (by decide) (hnd 3 (by kernel_rfl)) rfl
                  rw [e]; exact congrArg some h
                rw [if_pos (wanted_yes (j := 3) (s := 17) (b := true) rfl (by kernel_rfl) r17)]
                go_simp
                exact hK _ _ (by first | rfl | (show _ = _; simp)) (Only.refl _ _) hS
              · intro L vs A' u hW hL0 hnd K' hK
                have hS := hW.wi.s
                have r8 : A'.tmps[8]? = some (.pointer (some ⟨wr.heap.size, 0, none⟩)) := (hW.out 8 (fun j hj => fr_Rd j 8 hj (by kernel_rfl))).trans rfl
                have r20 : A'.tmps[20]? = some (.bool false) := by
                  obtain ⟨x, e, h⟩ := hW.tel 6 20 (by decide) (hnd 6 (by kernel_rfl)) rfl
                  rw [e]; exact congrArg some h
                rw [if_pos (wanted_yes (j := 6) (s := 20) (b := false) rfl (by kernel_rfl) r20)]
                go_simp
                exact hK _ _ (by first | rfl | (show _ = _; simp)) (Only.refl _ _) hS
              · intro L vs A' u hW hL0 hnd K' hK
                have hS := hW.wi.s
                have r21 : A'.tmps[21]? = some (.pointer (some ⟨wr.heap.size, 3, none⟩)) := by
                  obtain ⟨x, e, h⟩ := hW.tel 7 21 (by decide) (hnd 7 (by kernel_rfl)) rfl
                  rw [e]; exact congrArg some h
                have r20 : A'.tmps[20]? = some (.bool false) := by
                  obtain ⟨x, e, h⟩ := hW.tel 6 20 (by decide) (hnd 6 (by kernel_rfl)) rfl
                  rw [e]; exact congrArg some h
                rw [if_pos (wanted_yes (j := 6) (s := 20) (b := false) rfl (by kernel_rfl) r20)]
                have hc := U.cell_keep hS q3
                go_simp
                exact hK _ _ (rfl) (Only.refl _ _) hS
              · intro L vs A' u hW hL0 hnd K' hK
                have hS := hW.wi.s
                have r4 : A'.tmps[4]? = some (iv c) := (hW.out 4 (fun j hj => fr_Rd j 4 hj (by kernel_rfl))).trans rfl
                have r20 : A'.tmps[20]? = some (.bool false) := by
                  obtain ⟨x, e, h⟩ := hW.tel 6 20 (by decide) (hnd 6 (by kernel_rfl)) rfl
                  rw [e]; exact congrArg some h
                rw [if_pos (wanted_yes (j := 6) (s := 20) (b := false) rfl (by kernel_rfl) r20)]
                go_simp
                exact hK _ _ (by first | rfl | (show _ = _; simp)) (Only.refl _ _) hS
              · intro L vs A' u hW hL0 hnd K' hK
                have hS := hW.wi.s
                have r2 : A'.tmps[2]? = some (.pointer (some ⟨w.heap.size, 0, none⟩)) := (hW.out 2 (fun j hj => fr_Rd j 2 hj (by kernel_rfl))).trans rfl
                have r23 : A'.tmps[23]? = some (iv c) := by
                  obtain ⟨x, e, h⟩ := hW.tel 9 23 (by decide) (hnd 9 (by kernel_rfl)) rfl
                  rw [e]; exact congrArg some h
                have r20 : A'.tmps[20]? = some (.bool false) := by
                  obtain ⟨x, e, h⟩ := hW.tel 6 20 (by decide) (hnd 6 (by kernel_rfl)) rfl
                  rw [e]; exact congrArg some h
                rw [if_pos (wanted_yes (j := 6) (s := 20) (b := false) rfl (by kernel_rfl) r20)]
                go_simp
                exact hK _ _ (by first | rfl | (show _ = _; simp)) (Only.refl _ _) hS
              · intro L vs A' u hW hL0 hnd K' hK
                have hS := hW.wi.s
                have r24 : A'.tmps[24]? = some (.pointer (some ⟨w.heap.size, c * 4, none⟩)) := by
                  obtain ⟨x, e, h⟩ := hW.tel 10 24 (by decide) (hnd 10 (by kernel_rfl)) rfl
                  rw [e]; exact congrArg some h
                have r20 : A'.tmps[20]? = some (.bool false) := by
                  obtain ⟨x, e, h⟩ := hW.tel 6 20 (by decide) (hnd 6 (by kernel_rfl)) rfl
                  rw [e]; exact congrArg some h
                rw [if_pos (wanted_yes (j := 6) (s := 20) (b := false) rfl (by kernel_rfl) r20)]
                go_simp
                exact hK _ _ (by first | rfl | (show _ = _; simp)) (Only.refl _ _) hS
              · intro L vs A' u hW hL0 hnd K' hK
                have hS := hW.wi.s
                have r25 : A'.tmps[25]? = some (.pointer (some ⟨w.heap.size, c * 4 + 3, none⟩)) := by
                  obtain ⟨x, e, h⟩ := hW.tel 11 25 (by decide) (hnd 11 (by kernel_rfl)) rfl
                  rw [e]; exact congrArg some h
                have r20 : A'.tmps[20]? = some (.bool false) := by
                  obtain ⟨x, e, h⟩ := hW.tel 6 20 (by decide) (hnd 6 (by kernel_rfl)) rfl
                  rw [e]; exact congrArg some h
                rw [if_pos (wanted_yes (j := 6) (s := 20) (b := false) rfl (by kernel_rfl) r20)]
                have hc := U.cell_keep hS qc
                go_simp
                exact hK _ _ (rfl) (Only.refl _ _) hS
              · intro L vs A' u hW hL0 hnd K' hK
                have hS := hW.wi.s
                have r22 : A'.tmps[22]? = some (iv rs) := by
                  obtain ⟨x, e, h⟩ := hW.tel 8 22 (by decide) (hnd 8 (by kernel_rfl)) rfl
                  rw [e]; exact congrArg some h
                have r26 : A'.tmps[26]? = some (iv Rc.s) := by
                  obtain ⟨x, e, h⟩ := hW.tel 12 26 (by decide) (hnd 12 (by kernel_rfl)) rfl
                  rw [e]; exact congrArg some h
                have r20 : A'.tmps[20]? = some (.bool false) := by
                  obtain ⟨x, e, h⟩ := hW.tel 6 20 (by decide) (hnd 6 (by kernel_rfl)) rfl
                  rw [e]; exact congrArg some h
                rw [if_pos (wanted_yes (j := 6) (s := 20) (b := false) rfl (by kernel_rfl) r20)]
                go_simp
                exact hK _ _ (by first | rfl | (show _ = _; simp)) (Only.refl _ _) hS
              · intro L vs A' u hW hL0 hnd K' hK
                have hS := hW.wi.s
                have r20 : A'.tmps[20]? = some (.bool false) := by
                  obtain ⟨x, e, h⟩ := hW.tel 6 20 (by decide) (hnd 6 (by kernel_rfl)) rfl
                  rw [e]; exact congrArg some h
                have r27 : A'.tmps[27]? = some (.bool true) := by
                  obtain ⟨x, e, h⟩ := hW.tel 13 27 (by decide) (hnd 13 (by kernel_rfl)) rfl
                  rw [e]; exact congrArg some h
                have r17 : A'.tmps[17]? = some (.bool true) := by
                  obtain ⟨x, e, h⟩ := hW.tel 3 17 (by decide) (hnd 3 (by kernel_rfl)) rfl
                  rw [e]; exact congrArg some h
                rw [if_pos (wanted_yes (j := 3) (s := 17) (b := true) rfl (by kernel_rfl) r17)]
                go_simp
                exact hK _ _ (by first | rfl | (show _ = _; simp)) (Only.refl _ _) hS
              · intro L vs A' u hW hL0 hnd K' hK
                have hS := hW.wi.s
                have r17 : A'.tmps[17]? = some (.bool true) := by
                  obtain ⟨x, e, h⟩ := hW.tel 3 17 (by decide) (hnd 3 (by kernel_rfl)) rfl
                  rw [e]; exact congrArg some h
                have r28 : A'.tmps[28]? = some (.bool true) := by
                  obtain ⟨x, e, h⟩ := hW.tel 14 28 (by decide) (hnd 14 (by kernel_rfl)) rfl
                  rw [e]; exact congrArg some h
                go_simp
                exact hK _ _ (by first | rfl | (show _ = _; simp)) (Only.refl _ _) hS
            case doneRd =>
              intro L vs u hS hP hall
              have e15 : vs 15 = .bool true := hP 15 (by decide)
              have HS := Lib.hid (HOW.out.trans hS)
              clear hS hP hall fr_Rd
              simp only [putV, List.foldl_cons, List.foldl_nil, List.setIfInBounds_toArray, List.set_cons_zero, List.set_cons_succ]
              rw [e15]
              go_wp2
              go_roundw
              case rel => exact ⟨j + 1, by omega, by go_num, by rw [hSt.out, hHS.out, if_pos hQ.out], by rw [hSt.out, hHS.out, if_pos hQ.out], by rw [hSt.out, hHS.out, if_pos hQ.out], HS.out⟩
              case measure => simp [intOf]; omega
          · have hci : ¬ ((rs : Int) < (Rc.s : Int)) := by omega
            have hQ : Hid (¬ (telP ⟨ru, rl, rm, rs⟩ n ∧ (true = false ∨ rs < Rc.s))) := Lib.hid (fun h => by rcases h.2 with h | h; cases h; exact hcmp h)
            have fr_Re : ∀ j s, j < 16 → (([some 14, some 15, some 16, some 17, some 18, some 19, some 20, some 21, some 22, some 23, some 24, some 25, some 26, some 27, some 28, some 29] : List (Option Nat)).all fun d => d != some s) = true → ([some 14, some 15, some 16, some 17, some 18, some 19, some 20, some 21, some 22, some 23, some 24, some 25, some 26, some 27, some 28, some 29] : List (Option Nat)).getD j none ≠ some s := by
              intro j s hj ha e
              rw [List.getD_eq_getElem?_getD, List.getElem?_eq_getElem (by exact hj), Option.getD_some] at e
              have := List.all_eq_true.1 ha _ (List.getElem_mem (by exact hj))
              rw [e] at this
              simp at this
            refine region_tel (by kernel_rfl) (fun k0 => ([some 14, some 15, some 16, some 17, some 18, some 19, some 20, some 21, some 22, some 23, some 24, some 25, some 26, some 27, some 28, some 29] : List (Option Nat)).getD k0 none) (PL [eqP (.agg #[iv ru, iv rl, iv rm, iv rs]),
      eqP (iv n),
      eqP (.bool true),
      eqP (.bool true),
      eqP (.bool true),
      eqP (.bool false),
      eqP (.bool false),
      eqP (.pointer (some ⟨wr.heap.size, 3, none⟩)),
      eqP (iv rs),
      eqP (iv c),
      eqP (.pointer (some ⟨w.heap.size, c * 4, none⟩)),
      eqP (.pointer (some ⟨w.heap.size, c * 4 + 3, none⟩)),
      eqP (iv Rc.s),
      eqP (.bool false),
      eqP (.bool false),
      eqP (.bool false)]) (fun u u' => Only Nix u u') (fun _ u => Only Nix (W1) u) 35 16 rfl (by kernel_rfl) (by kernel_rfl) rfl (by kernel_rfl) (by kernel_rfl) (stab_all ⟨fun _ _ _ h _ => h, fun _ _ _ h _ => h, fun _ _ _ h _ => h, fun _ _ _ h _ => h, fun _ _ _ h _ => h, fun _ _ _ h _ => h, fun _ _ _ h _ => h, fun _ _ _ h _ => h, fun _ _ _ h _ => h, fun _ _ _ h _ => h, fun _ _ _ h _ => h, fun _ _ _ h _ => h, fun _ _ _ h _ => h, fun _ _ _ h _ => h, fun _ _ _ h _ => h, fun _ _ _ h _ => h, trivial⟩) ((Only.refl _ _).drew) ?stepsRe (fun vs => [(14, vs 0), (15, vs 1), (16, vs 2), (17, vs 3), (18, vs 4), (19, vs 5), (20, vs 6), (21, vs 7), (22, vs 8), (23, vs 9), (24, vs 10), (25, vs 11), (26, vs 12), (27, vs 13), (28, vs 14), (29, vs 15)]) (fun vs => rfl) ?doneRe
            case stepsRe =>
              refine ⟨?_, ?_, ?_, ?_, ?_, ?_, ?_, ?_, ?_, ?_, ?_, ?_, ?_, ?_, ?_, ?_, trivial⟩
              · intro L vs A' u hW hL0 hnd K' hK
                have hS := hW.wi.s
                have r8 : A'.tmps[8]? = some (.pointer (some ⟨wr.heap.size, 0, none⟩)) := (hW.out 8 (fun j hj => fr_Re j 8 hj (by kernel_rfl))).trans rfl
                refine wp_load_mid 59 _ rfl wr.heap.size 0 (by go_simp) [iv ru, iv rl, iv rm, iv rs] _ (range_nix hRg hS) Tryd.underlying59 rfl Tryd.size_row ?_
                exact hK _ _ rfl (Only.refl _ _) hS
              · intro L vs A' u hW hL0 hnd K' hK
                have hS := hW.wi.s
                have r1 : A'.tmps[1]? = some (iv n) := (hW.out 1 (fun j hj => fr_Re j 1 hj (by kernel_rfl))).trans rfl
                go_simp
                exact hK _ _ (by first | rfl | (show _ = _; simp)) (Only.refl _ _) hS
              · intro L vs A' u hW hL0 hnd K' hK
                have hS := hW.wi.s
                have r14 : A'.tmps[14]? = some (.agg #[iv ru, iv rl, iv rm, iv rs]) := by
                  obtain ⟨x, e, h⟩ := hW.tel 0 14 (by decide) (hnd 0 (by kernel_rfl)) rfl
                  rw [e]; exact congrArg some h
                have r15 : A'.tmps[15]? = some (iv n) := by
                  obtain ⟨x, e, h⟩ := hW.tel 1 15 (by decide) (hnd 1 (by kernel_rfl)) rfl
                  rw [e]; exact congrArg some h
                have HCL := Lib.hid (HX.out u)
                go_simp
                refine (HCL.out).mono ?_
                rintro _ u' ⟨rfl, ho'⟩
                exact hK _ _ (rfl) ho' (hS.trans ho')
              · intro L vs A' u hW hL0 hnd K' hK
                have hS := hW.wi.s
                have r16 : A'.tmps[16]? = some (.bool true) := by
                  obtain ⟨x, e, h⟩ := hW.tel 2 16 (by decide) (hnd 2 (by kernel_rfl)) rfl
                  rw [e]; exact congrArg some h
                go_simp
                exact hK _ _ (by first | rfl | (show _ = _; simp)) (Only.refl _ _) hS
              · intro L vs A' u hW hL0 hnd K' hK
                have hS := hW.wi.s
                have r6 : A'.tmps[6]? = some (.bool true) := (hW.out 6 (fun j hj => fr_Re j 6 hj (by kernel_rfl))).trans rfl
                have r17 : A'.tmps[17]? = some (.bool true) := by
                  obtain ⟨x, e, h⟩ := hW.tel 3 17 (by decide) (hnd 3 (by kernel_rfl)) rfl
                  rw [e]; exact congrArg some h
                rw [if_pos (wanted_yes (j := 3) (s := 17) (b := true) rfl (by kernel_rfl) r17)]
                go_simp
                exact hK _ _ (by first | rfl | (show _ = _; simp)) (Only.refl _ _) hS
              · intro L vs A' u hW hL0 hnd K' hK
                have hS := hW.wi.s
                have r18 : A'.tmps[18]? = some (.bool true) := by
                  obtain ⟨x, e, h⟩ := hW.tel 4 18 (by decide) (hnd 4 (by kernel_rfl)) rfl
                  rw [e]; exact congrArg some h
                have r17 : A'.tmps[17]? = some (.bool true) := by
                  obtain ⟨x, e, h⟩ := hW.tel 3 17 (by decide) (hnd 3 (by kernel_rfl)) rfl
                  rw [e]; exact congrArg some h
                rw [if_pos (wanted_yes (j := 3) (s := 17) (b := true) rfl (by kernel_rfl) r17)]
                go_simp
                exact hK _ _ (by first | rfl | (show _ = _; simp)) (Only.refl _ _) hS
              · intro L vs A' u hW hL0 hnd K' hK
                have hS := hW.wi.s
                have r19 : A'.tmps[19]? = some (.bool false) := by
                  obtain ⟨x, e, h⟩ := hW.tel 5 19 (by decide) (hnd 5 (by kernel_rfl)) rfl
                  rw [e]; exact congrArg some h
                have r17 : A'.tmps[17]? = some (.bool true) := by
                  obtain ⟨x, e, h⟩ := hW.tel 3 17 (by decide) (hnd 3 (by kernel_rfl)) rfl
                  rw [e]; exact congrArg some h
                rw [if_pos (wanted_yes (j := 3) (s := 17) (b := true) rfl (by kernel_rfl) r17)]
                go_simp
                exact hK _ _ (by first | rfl | (show _ = _; simp)) (Only.refl _ _) hS
              · intro L vs A' u hW hL0 hnd K' hK
                have hS := hW.wi.s
                have r8 : A'.tmps[8]? = some (.pointer (some ⟨wr.heap.size, 0, none⟩)) := (hW.out 8 (fun j hj => fr_Re j 8 hj (by kernel_rfl))).trans rfl
                have r20 : A'.tmps[20]? = some (.bool false) := by
                  obtain ⟨x, e, h⟩ := hW.tel 6 20 (by decide) (hnd 6 (by kernel_rfl)) rfl
                  rw [e]; exact congrArg some h
                rw [if_pos (wanted_yes (j := 6) (s := 20) (b := false) rfl (by kernel_rfl) r20)]
                go_simp
                exact hK _ _ (by first | rfl | (show _ = _; simp)) (Only.refl _ _) hS
              · intro L vs A' u hW hL0 hnd K' hK
                have hS := hW.wi.s
                have r21 : A'.tmps[21]? = some (.pointer (some ⟨wr.heap.size, 3, none⟩)) := by
                  obtain ⟨x, e, h⟩ := hW.tel 7 21 (by decide) (hnd 7 (by kernel_rfl)) rfl
                  rw [e]; exact congrArg some h
                have r20 : A'.tmps[20]? = some (.bool false) := by
                  obtain ⟨x, e, h⟩ := hW.tel 6 20 (by decide) (hnd 6 (by kernel_rfl)) rfl
                  rw [e]; exact congrArg some h
                rw [if_pos (wanted_yes (j := 6) (s := 20) (b := false) rfl (by kernel_rfl) r20)]
                have hc := U.cell_keep hS q3
                go_simp
                exact hK _ _ (rfl) (Only.refl _ _) hS
              · intro L vs A' u hW hL0 hnd K' hK
                have hS := hW.wi.s
                have r4 : A'.tmps[4]? = some (iv c) := (hW.out 4 (fun j hj => fr_Re j 4 hj (by kernel_rfl))).trans rfl
                have r20 : A'.tmps[20]? = some (.bool false) := by
                  obtain ⟨x, e, h⟩ := hW.tel 6 20 (by decide) (hnd 6 (by kernel_rfl)) rfl
                  rw [e]; exact congrArg some h
                rw [if_pos (wanted_yes (j := 6) (s := 20) (b := false) rfl (by kernel_rfl) r20)]
                go_simp
                exact hK _ _ (by first | rfl | (show _ = _; simp)) (Only.refl _ _) hS
              · intro L vs A' u hW hL0 hnd K' hK
                have hS := hW.wi.s
                have r2 : A'.tmps[2]? = some (.pointer (some ⟨w.heap.size, 0, none⟩)) := (hW.out 2 (fun j hj => fr_Re j 2 hj (by kernel_rfl))).trans rfl
                have r23 : A'.tmps[23]? = some (iv c) := by
                  obtain ⟨x, e, h⟩ := hW.tel 9 23 (by decide) (hnd 9 (by kernel_rfl)) rfl
                  rw [e]; exact congrArg some h
                have r20 : A'.tmps[20]? = some (.bool false) := by
                  obtain ⟨x, e, h⟩ := hW.tel 6 20 (by decide) (hnd 6 (by kernel_rfl)) rfl
                  rw [e]; exact congrArg some h
                rw [if_pos (wanted_yes (j := 6) (s := 20) (b := false) rfl (by kernel_rfl) r20)]
                go_simp
                exact hK _ _ (by first | rfl | (show _ = _; simp)) (Only.refl _ _) hS
              · intro L vs A' u hW hL0 hnd K' hK
                have hS := hW.wi.s
                have r24 : A'.tmps[24]? = some (.pointer (some ⟨w.heap.size, c * 4, none⟩)) := by
                  obtain ⟨x, e, h⟩ := hW.tel 10 24 (by decide) (hnd 10 (by kernel_rfl)) rfl
                  rw [e]; exact congrArg some h
                have r20 : A'.tmps[20]? = some (.bool false) := by
                  obtain ⟨x, e, h⟩ := hW.tel 6 20 (by decide) (hnd 6 (by kernel_rfl)) rfl
                  rw [e]; exact congrArg some h
                rw [if_pos (wanted_yes (j := 6) (s := 20) (b := false) rfl (by kernel_rfl) r20)]
                go_simp
                exact hK _ _ (by first | rfl | (show _ = _; simp)) (Only.refl _ _) hS
              · intro L vs A' u hW hL0 hnd K' hK
                have hS := hW.wi.s
                have r25 : A'.tmps[25]? = some (.pointer (some ⟨w.heap.size, c * 4 + 3, none⟩)) := by
                  obtain ⟨x, e, h⟩ := hW.tel 11 25 (by decide) (hnd 11 (by kernel_rfl)) rfl
                  rw [e]; exact congrArg some h
                have r20 : A'.tmps[20]? = some (.bool false) := by
                  obtain ⟨x, e, h⟩ := hW.tel 6 20 (by decide) (hnd 6 (by kernel_rfl)) rfl
                  rw [e]; exact congrArg some h
                rw [if_pos (wanted_yes (j := 6) (s := 20) (b := false) rfl (by kernel_rfl) r20)]
                have hc := U.cell_keep hS qc
                go_simp
                exact hK _ _ (rfl) (Only.refl _ _) hS
              · intro L vs A' u hW hL0 hnd K' hK
                have hS := hW.wi.s
                have r22 : A'.tmps[22]? = some (iv rs) := by
                  obtain ⟨x, e, h⟩ := hW.tel 8 22 (by decide) (hnd 8 (by kernel_rfl)) rfl
                  rw [e]; exact congrArg some h
                have r26 : A'.tmps[26]? = some (iv Rc.s) := by
                  obtain ⟨x, e, h⟩ := hW.tel 12 26 (by decide) (hnd 12 (by kernel_rfl)) rfl
                  rw [e]; exact congrArg some h
                have r20 : A'.tmps[20]? = some (.bool false) := by
                  obtain ⟨x, e, h⟩ := hW.tel 6 20 (by decide) (hnd 6 (by kernel_rfl)) rfl
                  rw [e]; exact congrArg some h
                rw [if_pos (wanted_yes (j := 6) (s := 20) (b := false) rfl (by kernel_rfl) r20)]
                go_simp
                exact hK _ _ (by first | rfl | (show _ = _; simp)) (Only.refl _ _) hS
              · intro L vs A' u hW hL0 hnd K' hK
                have hS := hW.wi.s
                have r20 : A'.tmps[20]? = some (.bool false) := by
                  obtain ⟨x, e, h⟩ := hW.tel 6 20 (by decide) (hnd 6 (by kernel_rfl)) rfl
                  rw [e]; exact congrArg some h
                have r27 : A'.tmps[27]? = some (.bool false) := by
                  obtain ⟨x, e, h⟩ := hW.tel 13 27 (by decide) (hnd 13 (by kernel_rfl)) rfl
                  rw [e]; exact congrArg some h
                have r17 : A'.tmps[17]? = some (.bool true) := by
                  obtain ⟨x, e, h⟩ := hW.tel 3 17 (by decide) (hnd 3 (by kernel_rfl)) rfl
                  rw [e]; exact congrArg some h
                rw [if_pos (wanted_yes (j := 3) (s := 17) (b := true) rfl (by kernel_rfl) r17)]
                go_simp
                exact hK _ _ (by first | rfl | (show _ = _; simp)) (Only.refl _ _) hS
              · intro L vs A' u hW hL0 hnd K' hK
                have hS := hW.wi.s
                have r17 : A'.tmps[17]? = some (.bool true) := by
                  obtain ⟨x, e, h⟩ := hW.tel 3 17 (by decide) (hnd 3 (by kernel_rfl)) rfl
                  rw [e]; exact congrArg some h
                have r28 : A'.tmps[28]? = some (.bool false) := by
                  obtain ⟨x, e, h⟩ := hW.tel 14 28 (by decide) (hnd 14 (by kernel_rfl)) rfl
                  rw [e]; exact congrArg some h
                go_simp
                exact hK _ _ (by first | rfl | (show _ = _; simp)) (Only.refl _ _) hS
            case doneRe =>
              intro L vs u hS hP hall
              have e15 : vs 15 = .bool false := hP 15 (by decide)
              have HS := Lib.hid (HOW.out.trans hS)
              clear hS hP hall fr_Re
              simp only [putV, List.foldl_cons, List.foldl_nil, List.setIfInBounds_toArray, List.set_cons_zero, List.set_cons_succ]
              rw [e15]
              go_wp2
              go_roundw
              case rel => exact ⟨j + 1, by omega, by go_num, by rw [hSt.out, hHS.out, if_neg hQ.out], by rw [hSt.out, hHS.out, if_neg hQ.out], by rw [hSt.out, hHS.out, if_neg hQ.out], HS.out⟩
              case measure => simp [intOf]; omega
    · obtain rfl : j = 16 := by omega
      go_wp2
      go_ret2
      exact ⟨rfl, HO.out.trans HR.out⟩
end Go.Proofs.YteahiigfclabfaaDoor.H
