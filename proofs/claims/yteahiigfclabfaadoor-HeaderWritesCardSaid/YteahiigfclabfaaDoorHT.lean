/-
  Package header, Check.
-/
import Derived.Test.YteahiigfclabfaaDoorHS
namespace Go.Proofs.YteahiigfclabfaaDoor.H
open Go.RowKit

/-- a header -/
structure Hd where
  v : Bool
  bc : Int
  rc : Int
  mo : Int
  dc : Int
  num : Int
  blk : Int
  rate : Int
  dep : Int
deriving DecidableEq
def hc (h : Hd) : Array Value := #[.bool h.v, iv h.bc, iv h.rc, iv h.mo, iv h.dc, iv h.num, iv h.blk, iv h.rate, iv h.dep]
def hv (h : Hd) : Value := .agg (hc h)
/-- its numbers are ints -/
structure HdI (h : Hd) : Prop where
  bc : I64 h.bc
  rc : I64 h.rc
  mo : I64 h.mo
  dc : I64 h.dc
  num : I64 h.num
  blk : I64 h.blk
  rate : I64 h.rate
  dep : I64 h.dep
/-- what is wrong with it -/
def ckE (h : Hd) : Int :=
  fstE [chE h.mo, un ((decide ((rowOf bT h.bc).u ≠ 0) && decide ((rowOf rT h.rc).u ≠ 0)) && decide ((rowOf dT h.dc).u ≠ 0)) 13, un (decide (mayN h.v h.num)) 10,
    un (decide (telP (rowOf bT h.bc) h.blk)) 22, un (decide (telP (rowOf rT h.rc) h.rate)) 22, un (decide (telP (rowOf dT h.dc) h.dep)) 22]

theorem Tryd.size_tl_bT : (Tryd.prog.info? 61).map (·.size) = some (tl bT).length := by kernel_rfl
theorem Tryd.size_tl_rT : (Tryd.prog.info? 61).map (·.size) = some (tl rT).length := by kernel_rfl
theorem Tryd.size_tl_dT : (Tryd.prog.info? 61).map (·.size) = some (tl dT).length := by kernel_rfl
theorem esrc_new (w : World) (t : TypeId) (es : List Int) (h : es.length ≤ 1000) : ESrc (w.alloc (.cells (es.map iv).toArray t)) (.slice (some ⟨w.heap.size, 0, none⟩) es.length es.length) es := by
  refine ⟨⟨_, _, rfl, fun j hj => ?_⟩, h⟩
  rw [(Box.new w t _).cell]
  simp [hj]
theorem ESrc.nix {w w' : World} {v : Value} {es : List Int} (h : ESrc w v es) (ho : Only Nix w w') : ESrc w' v es := by
  obtain ⟨g, c, hv, hc⟩ := h.form
  exact ⟨⟨g, c, hv, fun j hj => U.cell_keep ho (hc j hj)⟩, h.small⟩

set_option maxRecDepth 100000 in
set_option maxHeartbeats 8000000 in
theorem check_any {w : World} (hL : LaidH w) (h : Hd) (hi : HdI h) :
    Calls Tryd.prog 11 #[hv h] w fun x w' => x = .returned (iv (ckE h)) ∧ Only Nix w w' := by
  obtain ⟨V, bc, rc, mo, dc, num, blk, rate, dep⟩ := h
  obtain ⟨i1, i2, i3, i4, i5, i6, i7, i8⟩ := hi
  have HE : Hid (ckE ⟨V, bc, rc, mo, dc, num, blk, rate, dep⟩ = fstE [chE mo, un ((decide ((rowOf bT bc).u ≠ 0) && decide ((rowOf rT rc).u ≠ 0)) && decide ((rowOf dT dc).u ≠ 0)) 13, un (decide (mayN V num)) 10, un (decide (telP (rowOf bT bc) blk)) 22, un (decide (telP (rowOf rT rc) rate)) 22, un (decide (telP (rowOf dT dc) dep)) 22]) := Lib.hid rfl
  generalize ckE ⟨V, bc, rc, mo, dc, num, blk, rate, dep⟩ = E at *
  obtain ⟨B1, hB1⟩ : ∃ B, decide ((rowOf bT bc).u ≠ 0) = B := ⟨_, rfl⟩
  obtain ⟨B2, hB2⟩ : ∃ B, decide ((rowOf rT rc).u ≠ 0) = B := ⟨_, rfl⟩
  obtain ⟨B3, hB3⟩ : ∃ B, decide ((rowOf dT dc).u ≠ 0) = B := ⟨_, rfl⟩
  obtain ⟨B4, hB4⟩ : ∃ B, decide (mayN V num) = B := ⟨_, rfl⟩
  obtain ⟨B5, hB5⟩ : ∃ B, decide (telP (rowOf bT bc) blk) = B := ⟨_, rfl⟩
  obtain ⟨B6, hB6⟩ : ∃ B, decide (telP (rowOf rT rc) rate) = B := ⟨_, rfl⟩
  obtain ⟨B7, hB7⟩ : ∃ B, decide (telP (rowOf dT dc) dep) = B := ⟨_, rfl⟩
  rw [hB1, hB2, hB3, hB4, hB5, hB6, hB7] at HE
  have C1 : Hid (∀ u, Calls Tryd.prog 35 #[.agg (tc bT), iv bc] u fun x w' => x = .returned (.bool B1) ∧ Only Nix u w') := Lib.hid (fun u => by rw [← hB1]; exact has_any bOk bc u)
  have C2 : Hid (∀ u, Calls Tryd.prog 35 #[.agg (tc rT), iv rc] u fun x w' => x = .returned (.bool B2) ∧ Only Nix u w') := Lib.hid (fun u => by rw [← hB2]; exact has_any rOk rc u)
  have C3 : Hid (∀ u, Calls Tryd.prog 35 #[.agg (tc dT), iv dc] u fun x w' => x = .returned (.bool B3) ∧ Only Nix u w') := Lib.hid (fun u => by rw [← hB3]; exact has_any dOk dc u)
  have C4 : Hid (∀ u, Calls Tryd.prog 36 #[.bool V, iv num] u fun x w' => x = .returned (.bool B4) ∧ u = w') := Lib.hid (fun u => by rw [← hB4]; exact mayBe_any V num u)
  have C5 : Hid (∀ u, Calls Tryd.prog 37 #[rv (rowOf bT bc), iv blk] u fun x w' => x = .returned (.bool B5) ∧ Only Nix u w') := Lib.hid (fun u => by rw [← hB5]; exact tells_any _ (rowOf_bd bOk bc) blk i6 u)
  have C6 : Hid (∀ u, Calls Tryd.prog 37 #[rv (rowOf rT rc), iv rate] u fun x w' => x = .returned (.bool B6) ∧ Only Nix u w') := Lib.hid (fun u => by rw [← hB6]; exact tells_any _ (rowOf_bd rOk rc) rate i7 u)
  have C7 : Hid (∀ u, Calls Tryd.prog 37 #[rv (rowOf dT dc), iv dep] u fun x w' => x = .returned (.bool B7) ∧ Only Nix u w') := Lib.hid (fun u => by rw [← hB7]; exact tells_any _ (rowOf_bd dOk dc) dep i8 u)
  have C8 : Hid (∀ u, Calls Tryd.prog 30 #[.agg (tc bT), iv bc] u fun x w' => x = .returned (rv (rowOf bT bc)) ∧ Only Nix u w') := Lib.hid (fun u => row_any bOk bc u)
  have C9 : Hid (∀ u, Calls Tryd.prog 30 #[.agg (tc rT), iv rc] u fun x w' => x = .returned (rv (rowOf rT rc)) ∧ Only Nix u w') := Lib.hid (fun u => row_any rOk rc u)
  have C10 : Hid (∀ u, Calls Tryd.prog 30 #[.agg (tc dT), iv dc] u fun x w' => x = .returned (rv (rowOf dT dc)) ∧ Only Nix u w') := Lib.hid (fun u => row_any dOk dc u)
  have CH : Hid (∀ u, LaidH u → Calls Tryd.prog 18 #[iv mo] u fun x w' => x = .returned (.tuple #[iv (chN mo), iv (chE mo)]) ∧ u = w') := Lib.hid (fun u hu => channels_any hu mo)
  generalize rowOf bT bc = R1 at *
  generalize rowOf rT rc = R2 at *
  generalize rowOf dT dc = R3 at *
  generalize chE mo = E0 at *
  generalize chN mo = N0 at *
  clear hB1 hB2 hB3 hB4 hB5 hB6 hB7 i1 i2 i3 i4 i5 i6 i7 i8
  have HL := Lib.hid (hL.nix ((Only.refl Nix w).alloc (.cells (hc ⟨V, bc, rc, mo, dc, num, blk, rate, dep⟩) 23)))
  have hB := Box.new w 23 (hc ⟨V, bc, rc, mo, dc, num, blk, rate, dep⟩)
  have HO := Lib.hid ((Only.refl Nix w).alloc (.cells (hc ⟨V, bc, rc, mo, dc, num, blk, rate, dep⟩) 23))
  have q0 := hB.cell 0
  have q1 := hB.cell 1
  have q2 := hB.cell 2
  have q3 := hB.cell 3
  have q4 := hB.cell 4
  have q5 := hB.cell 5
  have q6 := hB.cell 6
  have q7 := hB.cell 7
  have q8 := hB.cell 8
  generalize hW0 : w.alloc (.cells (hc ⟨V, bc, rc, mo, dc, num, blk, rate, dep⟩) 23) = W0 at *
  have HCL := Lib.hid (CH.out W0 HL.out)
  go_enter Tryd.func11, Tryd.ntmps11
  simp only [hv, hc] at *
  go_wp2_with fail

  refine (HCL.out).mono ?_
  rintro _ w1 ⟨rfl, rfl⟩
  go_wp2
  simp only [List.getElem?_toArray, List.getElem?_cons_zero, List.getElem?_cons_succ] at q0 q1 q2 q3 q4 q5 q6 q7 q8
  clear hB HCL
  have fr_R : ∀ j s, j < 51 → (([some 11, some 12, some 13, some 14, some 15, some 16, some 17, some 18, some 19, some 20, some 21, some 22, some 23, some 24, some 25, some 26, some 27, some 28, some 29, some 30, some 31, some 32, some 33, some 34, some 35, some 36, some 37, some 38, some 39, some 40, some 41, some 42, some 43, some 44, some 45, some 46, some 47, some 48, some 49, some 50, some 51, some 52, some 53, some 54, some 55, some 56, some 57, some 58, some 59, some 60, some 2] : List (Option Nat)).all fun d => d != some s) = true → ([some 11, some 12, some 13, some 14, some 15, some 16, some 17, some 18, some 19, some 20, some 21, some 22, some 23, some 24, some 25, some 26, some 27, some 28, some 29, some 30, some 31, some 32, some 33, some 34, some 35, some 36, some 37, some 38, some 39, some 40, some 41, some 42, some 43, some 44, some 45, some 46, some 47, some 48, some 49, some 50, some 51, some 52, some 53, some 54, some 55, some 56, some 57, some 58, some 59, some 60, some 2] : List (Option Nat)).getD j none ≠ some s := by
    intro j s hj ha e
    rw [List.getD_eq_getElem?_getD, List.getElem?_eq_getElem (by exact hj), Option.getD_some] at e
    have := List.all_eq_true.1 ha _ (List.getElem_mem (by exact hj))
    rw [e] at this
    simp at this
  refine region_tel (by kernel_rfl) (fun k0 => ([some 11, some 12, some 13, some 14, some 15, some 16, some 17, some 18, some 19, some 20, some 21, some 22, some 23, some 24, some 25, some 26, some 27, some 28, some 29, some 30, some 31, some 32, some 33, some 34, some 35, some 36, some 37, some 38, some 39, some 40, some 41, some 42, some 43, some 44, some 45, some 46, some 47, some 48, some 49, some 50, some 51, some 52, some 53, some 54, some 55, some 56, some 57, some 58, some 59, some 60, some 2] : List (Option Nat)).getD k0 none) (PL [eqP (iv E0),
      eqP (.agg (tc bT)),
      eqP (.pointer (some ⟨w.heap.size, 1, none⟩)),
      eqP (iv bc),
      eqP (.bool B1),
      eqP (.bool B1),
      eqP (if B1 = true then .agg (tc rT) else undef),
      eqP (if B1 = true then .pointer (some ⟨w.heap.size, 2, none⟩) else undef),
      eqP (if B1 = true then iv rc else undef),
      eqP (if B1 = true then .bool B2 else undef),
      eqP (.bool (B1 && B2)),
      eqP (.bool (B1 && B2)),
      eqP (if (B1 && B2) = true then .agg (tc dT) else undef),
      eqP (if (B1 && B2) = true then .pointer (some ⟨w.heap.size, 4, none⟩) else undef),
      eqP (if (B1 && B2) = true then iv dc else undef),
      eqP (if (B1 && B2) = true then .bool B3 else undef),
      eqP (.bool ((B1 && B2) && B3)),
      eqP (iv (un ((B1 && B2) && B3) 13)),
      eqP (.pointer (some ⟨w.heap.size, 0, none⟩)),
      eqP (.bool V),
      eqP (.pointer (some ⟨w.heap.size, 5, none⟩)),
      eqP (iv num),
      eqP (.bool B4),
      eqP (iv (un B4 10)),
      eqP (.agg (tc bT)),
      eqP (.pointer (some ⟨w.heap.size, 1, none⟩)),
      eqP (iv bc),
      eqP (rv R1),
      eqP (.pointer (some ⟨w.heap.size, 6, none⟩)),
      eqP (iv blk),
      eqP (.bool B5),
      eqP (iv (un B5 22)),
      eqP (.agg (tc rT)),
      eqP (.pointer (some ⟨w.heap.size, 2, none⟩)),
      eqP (iv rc),
      eqP (rv R2),
      eqP (.pointer (some ⟨w.heap.size, 7, none⟩)),
      eqP (iv rate),
      eqP (.bool B6),
      eqP (iv (un B6 22)),
      eqP (.agg (tc dT)),
      eqP (.pointer (some ⟨w.heap.size, 4, none⟩)),
      eqP (iv dc),
      eqP (rv R3),
      eqP (.pointer (some ⟨w.heap.size, 8, none⟩)),
      eqP (iv dep),
      eqP (.bool B7),
      eqP (iv (un B7 22)),
      (fun v u => ESrc u v [E0, un (B1 && B2 && B3) 13, un B4 10, un B5 22, un B6 22, un B7 22]),
      eqP (iv E),
      eqP (iv E)]) (fun u u' => Only Nix u u') (fun _ u => Only Nix (W0) u) 61 51 rfl (by kernel_rfl) (by kernel_rfl) rfl (by kernel_rfl) (by kernel_rfl) (stab_all ⟨fun _ _ _ h _ => h, fun _ _ _ h _ => h, fun _ _ _ h _ => h, fun _ _ _ h _ => h, fun _ _ _ h _ => h, fun _ _ _ h _ => h, fun _ _ _ h _ => h, fun _ _ _ h _ => h, fun _ _ _ h _ => h, fun _ _ _ h _ => h, fun _ _ _ h _ => h, fun _ _ _ h _ => h, fun _ _ _ h _ => h, fun _ _ _ h _ => h, fun _ _ _ h _ => h, fun _ _ _ h _ => h, fun _ _ _ h _ => h, fun _ _ _ h _ => h, fun _ _ _ h _ => h, fun _ _ _ h _ => h, fun _ _ _ h _ => h, fun _ _ _ h _ => h, fun _ _ _ h _ => h, fun _ _ _ h _ => h, fun _ _ _ h _ => h, fun _ _ _ h _ => h, fun _ _ _ h _ => h, fun _ _ _ h _ => h, fun _ _ _ h _ => h, fun _ _ _ h _ => h, fun _ _ _ h _ => h, fun _ _ _ h _ => h, fun _ _ _ h _ => h, fun _ _ _ h _ => h, fun _ _ _ h _ => h, fun _ _ _ h _ => h, fun _ _ _ h _ => h, fun _ _ _ h _ => h, fun _ _ _ h _ => h, fun _ _ _ h _ => h, fun _ _ _ h _ => h, fun _ _ _ h _ => h, fun _ _ _ h _ => h, fun _ _ _ h _ => h, fun _ _ _ h _ => h, fun _ _ _ h _ => h, fun _ _ _ h _ => h, fun _ _ _ h _ => h, fun _ _ _ h ho => h.nix ho, fun _ _ _ h _ => h, fun _ _ _ h _ => h, trivial⟩) ((Only.refl _ _).drew) ?stepsR (fun vs => [(11, vs 0), (12, vs 1), (13, vs 2), (14, vs 3), (15, vs 4), (16, vs 5), (17, vs 6), (18, vs 7), (19, vs 8), (20, vs 9), (21, vs 10), (22, vs 11), (23, vs 12), (24, vs 13), (25, vs 14), (26, vs 15), (27, vs 16), (28, vs 17), (29, vs 18), (30, vs 19), (31, vs 20), (32, vs 21), (33, vs 22), (34, vs 23), (35, vs 24), (36, vs 25), (37, vs 26), (38, vs 27), (39, vs 28), (40, vs 29), (41, vs 30), (42, vs 31), (43, vs 32), (44, vs 33), (45, vs 34), (46, vs 35), (47, vs 36), (48, vs 37), (49, vs 38), (50, vs 39), (51, vs 40), (52, vs 41), (53, vs 42), (54, vs 43), (55, vs 44), (56, vs 45), (57, vs 46), (58, vs 47), (59, vs 48), (60, vs 49), (2, vs 50)]) (fun vs => rfl) ?doneR
  case stepsR =>
    refine ⟨?_, ?_, ?_, ?_, ?_, ?_, ?_, ?_, ?_, ?_, ?_, ?_, ?_, ?_, ?_, ?_, ?_, ?_, ?_, ?_, ?_, ?_, ?_, ?_, ?_, ?_, ?_, ?_, ?_, ?_, ?_, ?_, ?_, ?_, ?_, ?_, ?_, ?_, ?_, ?_, ?_, ?_, ?_, ?_, ?_, ?_, ?_, ?_, ?_, ?_, ?_, trivial⟩
    · intro L vs A' u hW hL0 hnd K' hK
      have hS := hW.wi.s
      have r4 : A'.tmps[4]? = some (iv E0) := (hW.out 4 (fun j hj => fr_R j 4 hj (by kernel_rfl))).trans rfl
      go_simp
      exact hK _ _ (by first | rfl | (show _ = _; simp)) (Only.refl _ _) hS
    · intro L vs A' u hW hL0 hnd K' hK
      have hS := hW.wi.s
      refine wp_load_mid 61 _ rfl 0 0 rfl (tl bT) _ (range_nix HL.out.blocks hS) Tryd.under_table rfl Tryd.size_tl_bT ?_
      exact hK _ _ (rfl) (Only.refl _ _) hS
    · intro L vs A' u hW hL0 hnd K' hK
      have hS := hW.wi.s
      have r1 : A'.tmps[1]? = some (.pointer (some ⟨w.heap.size, 0, none⟩)) := (hW.out 1 (fun j hj => fr_R j 1 hj (by kernel_rfl))).trans rfl
      go_simp
      exact hK _ _ (by first | rfl | (show _ = _; simp)) (Only.refl _ _) hS
    · intro L vs A' u hW hL0 hnd K' hK
      have hS := hW.wi.s
      have r13 : A'.tmps[13]? = some (.pointer (some ⟨w.heap.size, 1, none⟩)) := by
        obtain ⟨x, e, h⟩ := hW.tel 2 13 (by decide) (hnd 2 (by kernel_rfl)) rfl
        rw [e]; exact congrArg some h
      have hc := U.cell_keep hS q1
      go_simp
      exact hK _ _ (rfl) (Only.refl _ _) hS
    · intro L vs A' u hW hL0 hnd K' hK
      have hS := hW.wi.s
      have r12 : A'.tmps[12]? = some (.agg (tc bT)) := by
        obtain ⟨x, e, h⟩ := hW.tel 1 12 (by decide) (hnd 1 (by kernel_rfl)) rfl
        rw [e]; exact congrArg some h
      have r14 : A'.tmps[14]? = some (iv bc) := by
        obtain ⟨x, e, h⟩ := hW.tel 3 14 (by decide) (hnd 3 (by kernel_rfl)) rfl
        rw [e]; exact congrArg some h
      have HCL := Lib.hid (C1.out u)
      go_simp
      refine (HCL.out).mono ?_
      rintro _ u' ⟨rfl, ho'⟩
      exact hK _ _ (rfl) ho' (hS.trans ho')
    · intro L vs A' u hW hL0 hnd K' hK
      have hS := hW.wi.s
      have r15 : A'.tmps[15]? = some (.bool B1) := by
        obtain ⟨x, e, h⟩ := hW.tel 4 15 (by decide) (hnd 4 (by kernel_rfl)) rfl
        rw [e]; exact congrArg some h
      go_simp
      exact hK _ _ (by first | rfl | (show _ = _; simp)) (Only.refl _ _) hS
    · intro L vs A' u hW hL0 hnd K' hK
      have hS := hW.wi.s
      have r16 : A'.tmps[16]? = some (.bool B1) := by
        obtain ⟨x, e, h⟩ := hW.tel 5 16 (by decide) (hnd 5 (by kernel_rfl)) rfl
        rw [e]; exact congrArg some h
      by_cases hg : B1 = true
      · rw [if_pos (wanted_yes (j := 5) (s := 16) (b := true) rfl (by kernel_rfl) (by rw [r16, hg]))]
        refine wp_load_mid 61 _ rfl 1 0 rfl (tl rT) _ (range_nix HL.out.rates hS) Tryd.under_table rfl Tryd.size_tl_rT ?_
        exact hK _ _ ((if_pos hg).symm) (Only.refl _ _) hS
      · rw [if_neg (wanted_no (j := 5) (s := 16) (b := true) rfl (by kernel_rfl) (by rw [r16, show (B1) = !true from by simpa using hg]))]
        exact hK _ _ (if_neg hg).symm (Only.refl _ _) hS
    · intro L vs A' u hW hL0 hnd K' hK
      have hS := hW.wi.s
      have r1 : A'.tmps[1]? = some (.pointer (some ⟨w.heap.size, 0, none⟩)) := (hW.out 1 (fun j hj => fr_R j 1 hj (by kernel_rfl))).trans rfl
      have r16 : A'.tmps[16]? = some (.bool B1) := by
        obtain ⟨x, e, h⟩ := hW.tel 5 16 (by decide) (hnd 5 (by kernel_rfl)) rfl
        rw [e]; exact congrArg some h
      by_cases hg : B1 = true
      · rw [if_pos (wanted_yes (j := 5) (s := 16) (b := true) rfl (by kernel_rfl) (by rw [r16, hg]))]
        go_simp
        exact hK _ _ ((if_pos hg).symm) (Only.refl _ _) hS
      · rw [if_neg (wanted_no (j := 5) (s := 16) (b := true) rfl (by kernel_rfl) (by rw [r16, show (B1) = !true from by simpa using hg]))]
        exact hK _ _ (if_neg hg).symm (Only.refl _ _) hS
    · intro L vs A' u hW hL0 hnd K' hK
      have hS := hW.wi.s
      have r18 : A'.tmps[18]? = some (if B1 = true then .pointer (some ⟨w.heap.size, 2, none⟩) else undef) := by
        obtain ⟨x, e, h⟩ := hW.tel 7 18 (by decide) (hnd 7 (by kernel_rfl)) rfl
        rw [e]; exact congrArg some h
      have r16 : A'.tmps[16]? = some (.bool B1) := by
        obtain ⟨x, e, h⟩ := hW.tel 5 16 (by decide) (hnd 5 (by kernel_rfl)) rfl
        rw [e]; exact congrArg some h
      by_cases hg : B1 = true
      · rw [if_pos (wanted_yes (j := 5) (s := 16) (b := true) rfl (by kernel_rfl) (by rw [r16, hg]))]
        rw [if_pos hg] at r18
        have hc := U.cell_keep hS q2
        go_simp
        exact hK _ _ ((if_pos hg).symm) (Only.refl _ _) hS
      · rw [if_neg (wanted_no (j := 5) (s := 16) (b := true) rfl (by kernel_rfl) (by rw [r16, show (B1) = !true from by simpa using hg]))]
        exact hK _ _ (if_neg hg).symm (Only.refl _ _) hS
    · intro L vs A' u hW hL0 hnd K' hK
      have hS := hW.wi.s
      have r17 : A'.tmps[17]? = some (if B1 = true then .agg (tc rT) else undef) := by
        obtain ⟨x, e, h⟩ := hW.tel 6 17 (by decide) (hnd 6 (by kernel_rfl)) rfl
        rw [e]; exact congrArg some h
      have r19 : A'.tmps[19]? = some (if B1 = true then iv rc else undef) := by
        obtain ⟨x, e, h⟩ := hW.tel 8 19 (by decide) (hnd 8 (by kernel_rfl)) rfl
        rw [e]; exact congrArg some h
      have r16 : A'.tmps[16]? = some (.bool B1) := by
        obtain ⟨x, e, h⟩ := hW.tel 5 16 (by decide) (hnd 5 (by kernel_rfl)) rfl
        rw [e]; exact congrArg some h
      by_cases hg : B1 = true
      · rw [if_pos (wanted_yes (j := 5) (s := 16) (b := true) rfl (by kernel_rfl) (by rw [r16, hg]))]
        rw [if_pos hg] at r17
        rw [if_pos hg] at r19
        have HCL := Lib.hid (C2.out u)
        go_simp
        refine (HCL.out).mono ?_
        rintro _ u' ⟨rfl, ho'⟩
        exact hK _ _ ((if_pos hg).symm) ho' (hS.trans ho')
      · rw [if_neg (wanted_no (j := 5) (s := 16) (b := true) rfl (by kernel_rfl) (by rw [r16, show (B1) = !true from by simpa using hg]))]
        exact hK _ _ (if_neg hg).symm (Only.refl _ _) hS
    · intro L vs A' u hW hL0 hnd K' hK
      have hS := hW.wi.s
      have r16 : A'.tmps[16]? = some (.bool B1) := by
        obtain ⟨x, e, h⟩ := hW.tel 5 16 (by decide) (hnd 5 (by kernel_rfl)) rfl
        rw [e]; exact congrArg some h
      have r20 : A'.tmps[20]? = some (if B1 = true then .bool B2 else undef) := by
        obtain ⟨x, e, h⟩ := hW.tel 9 20 (by decide) (hnd 9 (by kernel_rfl)) rfl
        rw [e]; exact congrArg some h
      by_cases hg : B1 = true
      · rw [if_pos hg] at r20
        go_simp
        exact hK _ _ (show _ = _ by simp [hg]) (Only.refl _ _) hS
      · rw [if_neg hg] at r20
        go_simp
        exact hK _ _ (show _ = _ by simp [hg]) (Only.refl _ _) hS
    · intro L vs A' u hW hL0 hnd K' hK
      have hS := hW.wi.s
      have r21 : A'.tmps[21]? = some (.bool (B1 && B2)) := by
        obtain ⟨x, e, h⟩ := hW.tel 10 21 (by decide) (hnd 10 (by kernel_rfl)) rfl
        rw [e]; exact congrArg some h
      go_simp
      exact hK _ _ (by first | rfl | (show _ = _; simp)) (Only.refl _ _) hS
    · intro L vs A' u hW hL0 hnd K' hK
      have hS := hW.wi.s
      have r22 : A'.tmps[22]? = some (.bool (B1 && B2)) := by
        obtain ⟨x, e, h⟩ := hW.tel 11 22 (by decide) (hnd 11 (by kernel_rfl)) rfl
        rw [e]; exact congrArg some h
      by_cases hg : (B1 && B2) = true
      · rw [if_pos (wanted_yes (j := 11) (s := 22) (b := true) rfl (by kernel_rfl) (by rw [r22, hg]))]
        refine wp_load_mid 61 _ rfl 2 0 rfl (tl dT) _ (range_nix HL.out.depths hS) Tryd.under_table rfl Tryd.size_tl_dT ?_
        exact hK _ _ ((if_pos hg).symm) (Only.refl _ _) hS
      · rw [if_neg (wanted_no (j := 11) (s := 22) (b := true) rfl (by kernel_rfl) (by rw [r22, show ((B1 && B2)) = !true from by simpa using hg]))]
        exact hK _ _ (if_neg hg).symm (Only.refl _ _) hS
    · intro L vs A' u hW hL0 hnd K' hK
      have hS := hW.wi.s
      have r1 : A'.tmps[1]? = some (.pointer (some ⟨w.heap.size, 0, none⟩)) := (hW.out 1 (fun j hj => fr_R j 1 hj (by kernel_rfl))).trans rfl
      have r22 : A'.tmps[22]? = some (.bool (B1 && B2)) := by
        obtain ⟨x, e, h⟩ := hW.tel 11 22 (by decide) (hnd 11 (by kernel_rfl)) rfl
        rw [e]; exact congrArg some h
      by_cases hg : (B1 && B2) = true
      · rw [if_pos (wanted_yes (j := 11) (s := 22) (b := true) rfl (by kernel_rfl) (by rw [r22, hg]))]
        go_simp
        exact hK _ _ ((if_pos hg).symm) (Only.refl _ _) hS
      · rw [if_neg (wanted_no (j := 11) (s := 22) (b := true) rfl (by kernel_rfl) (by rw [r22, show ((B1 && B2)) = !true from by simpa using hg]))]
        exact hK _ _ (if_neg hg).symm (Only.refl _ _) hS
    · intro L vs A' u hW hL0 hnd K' hK
      have hS := hW.wi.s
      have r24 : A'.tmps[24]? = some (if (B1 && B2) = true then .pointer (some ⟨w.heap.size, 4, none⟩) else undef) := by
        obtain ⟨x, e, h⟩ := hW.tel 13 24 (by decide) (hnd 13 (by kernel_rfl)) rfl
        rw [e]; exact congrArg some h
      have r22 : A'.tmps[22]? = some (.bool (B1 && B2)) := by
        obtain ⟨x, e, h⟩ := hW.tel 11 22 (by decide) (hnd 11 (by kernel_rfl)) rfl
        rw [e]; exact congrArg some h
      by_cases hg : (B1 && B2) = true
      · rw [if_pos (wanted_yes (j := 11) (s := 22) (b := true) rfl (by kernel_rfl) (by rw [r22, hg]))]
        rw [if_pos hg] at r24
        have hc := U.cell_keep hS q4
        go_simp
        exact hK _ _ ((if_pos hg).symm) (Only.refl _ _) hS
      · rw [if_neg (wanted_no (j := 11) (s := 22) (b := true) rfl (by kernel_rfl) (by rw [r22, show ((B1 && B2)) = !true from by simpa using hg]))]
        exact hK _ _ (if_neg hg).symm (Only.refl _ _) hS
    · intro L vs A' u hW hL0 hnd K' hK
      have hS := hW.wi.s
      have r23 : A'.tmps[23]? = some (if (B1 && B2) = true then .agg (tc dT) else undef) := by
        obtain ⟨x, e, h⟩ := hW.tel 12 23 (by decide) (hnd 12 (by kernel_rfl)) rfl
        rw [e]; exact congrArg some h
      have r25 : A'.tmps[25]? = some (if (B1 && B2) = true then iv dc else undef) := by
        obtain ⟨x, e, h⟩ := hW.tel 14 25 (by decide) (hnd 14 (by kernel_rfl)) rfl
        rw [e]; exact congrArg some h
      have r22 : A'.tmps[22]? = some (.bool (B1 && B2)) := by
        obtain ⟨x, e, h⟩ := hW.tel 11 22 (by decide) (hnd 11 (by kernel_rfl)) rfl
        rw [e]; exact congrArg some h
      by_cases hg : (B1 && B2) = true
      · rw [if_pos (wanted_yes (j := 11) (s := 22) (b := true) rfl (by kernel_rfl) (by rw [r22, hg]))]
        rw [if_pos hg] at r23
        rw [if_pos hg] at r25
        have HCL := Lib.hid (C3.out u)
        go_simp
        refine (HCL.out).mono ?_
        rintro _ u' ⟨rfl, ho'⟩
        exact hK _ _ ((if_pos hg).symm) ho' (hS.trans ho')
      · rw [if_neg (wanted_no (j := 11) (s := 22) (b := true) rfl (by kernel_rfl) (by rw [r22, show ((B1 && B2)) = !true from by simpa using hg]))]
        exact hK _ _ (if_neg hg).symm (Only.refl _ _) hS
    · intro L vs A' u hW hL0 hnd K' hK
      have hS := hW.wi.s
      have r22 : A'.tmps[22]? = some (.bool (B1 && B2)) := by
        obtain ⟨x, e, h⟩ := hW.tel 11 22 (by decide) (hnd 11 (by kernel_rfl)) rfl
        rw [e]; exact congrArg some h
      have r26 : A'.tmps[26]? = some (if (B1 && B2) = true then .bool B3 else undef) := by
        obtain ⟨x, e, h⟩ := hW.tel 15 26 (by decide) (hnd 15 (by kernel_rfl)) rfl
        rw [e]; exact congrArg some h
      by_cases hg : (B1 && B2) = true
      · rw [if_pos hg] at r26
        go_simp
        exact hK _ _ (show _ = _ by simp [hg]) (Only.refl _ _) hS
      · rw [if_neg hg] at r26
        go_simp
        exact hK _ _ (show _ = _ by simp [hg]) (Only.refl _ _) hS
    · intro L vs A' u hW hL0 hnd K' hK
      have hS := hW.wi.s
      have r27 : A'.tmps[27]? = some (.bool ((B1 && B2) && B3)) := by
        obtain ⟨x, e, h⟩ := hW.tel 16 27 (by decide) (hnd 16 (by kernel_rfl)) rfl
        rw [e]; exact congrArg some h
      have HCL := Lib.hid (unless_any (((B1 && B2) && B3)) 13 u)
      go_simp
      refine (HCL.out).mono ?_
      rintro _ u' ⟨rfl, rfl⟩
      exact hK _ _ (rfl) (Only.refl _ _) hS
    · intro L vs A' u hW hL0 hnd K' hK
      have hS := hW.wi.s
      have r1 : A'.tmps[1]? = some (.pointer (some ⟨w.heap.size, 0, none⟩)) := (hW.out 1 (fun j hj => fr_R j 1 hj (by kernel_rfl))).trans rfl
      go_simp
      exact hK _ _ (by first | rfl | (show _ = _; simp)) (Only.refl _ _) hS
    · intro L vs A' u hW hL0 hnd K' hK
      have hS := hW.wi.s
      have r29 : A'.tmps[29]? = some (.pointer (some ⟨w.heap.size, 0, none⟩)) := by
        obtain ⟨x, e, h⟩ := hW.tel 18 29 (by decide) (hnd 18 (by kernel_rfl)) rfl
        rw [e]; exact congrArg some h
      have hc := U.cell_keep hS q0
      go_simp
      exact hK _ _ (rfl) (Only.refl _ _) hS
    · intro L vs A' u hW hL0 hnd K' hK
      have hS := hW.wi.s
      have r1 : A'.tmps[1]? = some (.pointer (some ⟨w.heap.size, 0, none⟩)) := (hW.out 1 (fun j hj => fr_R j 1 hj (by kernel_rfl))).trans rfl
      go_simp
      exact hK _ _ (by first | rfl | (show _ = _; simp)) (Only.refl _ _) hS
    · intro L vs A' u hW hL0 hnd K' hK
      have hS := hW.wi.s
      have r31 : A'.tmps[31]? = some (.pointer (some ⟨w.heap.size, 5, none⟩)) := by
        obtain ⟨x, e, h⟩ := hW.tel 20 31 (by decide) (hnd 20 (by kernel_rfl)) rfl
        rw [e]; exact congrArg some h
      have hc := U.cell_keep hS q5
      go_simp
      exact hK _ _ (rfl) (Only.refl _ _) hS
    · intro L vs A' u hW hL0 hnd K' hK
      have hS := hW.wi.s
      have r30 : A'.tmps[30]? = some (.bool V) := by
        obtain ⟨x, e, h⟩ := hW.tel 19 30 (by decide) (hnd 19 (by kernel_rfl)) rfl
        rw [e]; exact congrArg some h
      have r32 : A'.tmps[32]? = some (iv num) := by
        obtain ⟨x, e, h⟩ := hW.tel 21 32 (by decide) (hnd 21 (by kernel_rfl)) rfl
        rw [e]; exact congrArg some h
      have HCL := Lib.hid (C4.out u)
      go_simp
      refine (HCL.out).mono ?_
      rintro _ u' ⟨rfl, rfl⟩
      exact hK _ _ (rfl) (Only.refl _ _) hS
    · intro L vs A' u hW hL0 hnd K' hK
      have hS := hW.wi.s
      have r33 : A'.tmps[33]? = some (.bool B4) := by
        obtain ⟨x, e, h⟩ := hW.tel 22 33 (by decide) (hnd 22 (by kernel_rfl)) rfl
        rw [e]; exact congrArg some h
      have HCL := Lib.hid (unless_any (B4) 10 u)
      go_simp
      refine (HCL.out).mono ?_
      rintro _ u' ⟨rfl, rfl⟩
      exact hK _ _ (rfl) (Only.refl _ _) hS
    · intro L vs A' u hW hL0 hnd K' hK
      have hS := hW.wi.s
      refine wp_load_mid 61 _ rfl 0 0 rfl (tl bT) _ (range_nix HL.out.blocks hS) Tryd.under_table rfl Tryd.size_tl_bT ?_
      exact hK _ _ (rfl) (Only.refl _ _) hS
    · intro L vs A' u hW hL0 hnd K' hK
      have hS := hW.wi.s
      have r1 : A'.tmps[1]? = some (.pointer (some ⟨w.heap.size, 0, none⟩)) := (hW.out 1 (fun j hj => fr_R j 1 hj (by kernel_rfl))).trans rfl
      go_simp
      exact hK _ _ (by first | rfl | (show _ = _; simp)) (Only.refl _ _) hS
    · intro L vs A' u hW hL0 hnd K' hK
      have hS := hW.wi.s
      have r36 : A'.tmps[36]? = some (.pointer (some ⟨w.heap.size, 1, none⟩)) := by
        obtain ⟨x, e, h⟩ := hW.tel 25 36 (by decide) (hnd 25 (by kernel_rfl)) rfl
        rw [e]; exact congrArg some h
      have hc := U.cell_keep hS q1
      go_simp
      exact hK _ _ (rfl) (Only.refl _ _) hS
    · intro L vs A' u hW hL0 hnd K' hK
      have hS := hW.wi.s
      have r35 : A'.tmps[35]? = some (.agg (tc bT)) := by
        obtain ⟨x, e, h⟩ := hW.tel 24 35 (by decide) (hnd 24 (by kernel_rfl)) rfl
        rw [e]; exact congrArg some h
      have r37 : A'.tmps[37]? = some (iv bc) := by
        obtain ⟨x, e, h⟩ := hW.tel 26 37 (by decide) (hnd 26 (by kernel_rfl)) rfl
        rw [e]; exact congrArg some h
      have HCL := Lib.hid (C8.out u)
      go_simp
      refine (HCL.out).mono ?_
      rintro _ u' ⟨rfl, ho'⟩
      exact hK _ _ (rfl) ho' (hS.trans ho')
    · intro L vs A' u hW hL0 hnd K' hK
      have hS := hW.wi.s
      have r1 : A'.tmps[1]? = some (.pointer (some ⟨w.heap.size, 0, none⟩)) := (hW.out 1 (fun j hj => fr_R j 1 hj (by kernel_rfl))).trans rfl
      go_simp
      exact hK _ _ (by first | rfl | (show _ = _; simp)) (Only.refl _ _) hS
    · intro L vs A' u hW hL0 hnd K' hK
      have hS := hW.wi.s
      have r39 : A'.tmps[39]? = some (.pointer (some ⟨w.heap.size, 6, none⟩)) := by
        obtain ⟨x, e, h⟩ := hW.tel 28 39 (by decide) (hnd 28 (by kernel_rfl)) rfl
        rw [e]; exact congrArg some h
      have hc := U.cell_keep hS q6
      go_simp
      exact hK _ _ (rfl) (Only.refl _ _) hS
    · intro L vs A' u hW hL0 hnd K' hK
      have hS := hW.wi.s
      have r38 : A'.tmps[38]? = some (rv R1) := by
        obtain ⟨x, e, h⟩ := hW.tel 27 38 (by decide) (hnd 27 (by kernel_rfl)) rfl
        rw [e]; exact congrArg some h
      have r40 : A'.tmps[40]? = some (iv blk) := by
        obtain ⟨x, e, h⟩ := hW.tel 29 40 (by decide) (hnd 29 (by kernel_rfl)) rfl
        rw [e]; exact congrArg some h
      have HCL := Lib.hid (C5.out u)
      go_simp
      refine (HCL.out).mono ?_
      rintro _ u' ⟨rfl, ho'⟩
      exact hK _ _ (rfl) ho' (hS.trans ho')
    · intro L vs A' u hW hL0 hnd K' hK
      have hS := hW.wi.s
      have r41 : A'.tmps[41]? = some (.bool B5) := by
        obtain ⟨x, e, h⟩ := hW.tel 30 41 (by decide) (hnd 30 (by kernel_rfl)) rfl
        rw [e]; exact congrArg some h
      have HCL := Lib.hid (unless_any (B5) 22 u)
      go_simp
      refine (HCL.out).mono ?_
      rintro _ u' ⟨rfl, rfl⟩
      exact hK _ _ (rfl) (Only.refl _ _) hS
    · intro L vs A' u hW hL0 hnd K' hK
      have hS := hW.wi.s
      refine wp_load_mid 61 _ rfl 1 0 rfl (tl rT) _ (range_nix HL.out.rates hS) Tryd.under_table rfl Tryd.size_tl_rT ?_
      exact hK _ _ (rfl) (Only.refl _ _) hS
    · intro L vs A' u hW hL0 hnd K' hK
      have hS := hW.wi.s
      have r1 : A'.tmps[1]? = some (.pointer (some ⟨w.heap.size, 0, none⟩)) := (hW.out 1 (fun j hj => fr_R j 1 hj (by kernel_rfl))).trans rfl
      go_simp
      exact hK _ _ (by first | rfl | (show _ = _; simp)) (Only.refl _ _) hS
    · intro L vs A' u hW hL0 hnd K' hK
      have hS := hW.wi.s
      have r44 : A'.tmps[44]? = some (.pointer (some ⟨w.heap.size, 2, none⟩)) := by
        obtain ⟨x, e, h⟩ := hW.tel 33 44 (by decide) (hnd 33 (by kernel_rfl)) rfl
        rw [e]; exact congrArg some h
      have hc := U.cell_keep hS q2
      go_simp
      exact hK _ _ (rfl) (Only.refl _ _) hS
    · intro L vs A' u hW hL0 hnd K' hK
      have hS := hW.wi.s
      have r43 : A'.tmps[43]? = some (.agg (tc rT)) := by
        obtain ⟨x, e, h⟩ := hW.tel 32 43 (by decide) (hnd 32 (by kernel_rfl)) rfl
        rw [e]; exact congrArg some h
      have r45 : A'.tmps[45]? = some (iv rc) := by
        obtain ⟨x, e, h⟩ := hW.tel 34 45 (by decide) (hnd 34 (by kernel_rfl)) rfl
        rw [e]; exact congrArg some h
      have HCL := Lib.hid (C9.out u)
      go_simp
      refine (HCL.out).mono ?_
      rintro _ u' ⟨rfl, ho'⟩
      exact hK _ _ (rfl) ho' (hS.trans ho')
    · intro L vs A' u hW hL0 hnd K' hK
      have hS := hW.wi.s
      have r1 : A'.tmps[1]? = some (.pointer (some ⟨w.heap.size, 0, none⟩)) := (hW.out 1 (fun j hj => fr_R j 1 hj (by kernel_rfl))).trans rfl
      go_simp
      exact hK _ _ (by first | rfl | (show _ = _; simp)) (Only.refl _ _) hS
    · intro L vs A' u hW hL0 hnd K' hK
      have hS := hW.wi.s
      have r47 : A'.tmps[47]? = some (.pointer (some ⟨w.heap.size, 7, none⟩)) := by
        obtain ⟨x, e, h⟩ := hW.tel 36 47 (by decide) (hnd 36 (by kernel_rfl)) rfl
        rw [e]; exact congrArg some h
      have hc := U.cell_keep hS q7
      go_simp
      exact hK _ _ (rfl) (Only.refl _ _) hS
    · intro L vs A' u hW hL0 hnd K' hK
      have hS := hW.wi.s
      have r46 : A'.tmps[46]? = some (rv R2) := by
        obtain ⟨x, e, h⟩ := hW.tel 35 46 (by decide) (hnd 35 (by kernel_rfl)) rfl
        rw [e]; exact congrArg some h
      have r48 : A'.tmps[48]? = some (iv rate) := by
        obtain ⟨x, e, h⟩ := hW.tel 37 48 (by decide) (hnd 37 (by kernel_rfl)) rfl
        rw [e]; exact congrArg some h
      have HCL := Lib.hid (C6.out u)
      go_simp
      refine (HCL.out).mono ?_
      rintro _ u' ⟨rfl, ho'⟩
      exact hK _ _ (rfl) ho' (hS.trans ho')
    · intro L vs A' u hW hL0 hnd K' hK
      have hS := hW.wi.s
      have r49 : A'.tmps[49]? = some (.bool B6) := by
        obtain ⟨x, e, h⟩ := hW.tel 38 49 (by decide) (hnd 38 (by kernel_rfl)) rfl
        rw [e]; exact congrArg some h
      have HCL := Lib.hid (unless_any (B6) 22 u)
      go_simp
      refine (HCL.out).mono ?_
      rintro _ u' ⟨rfl, rfl⟩
      exact hK _ _ (rfl) (Only.refl _ _) hS
    · intro L vs A' u hW hL0 hnd K' hK
      have hS := hW.wi.s
      refine wp_load_mid 61 _ rfl 2 0 rfl (tl dT) _ (range_nix HL.out.depths hS) Tryd.under_table rfl Tryd.size_tl_dT ?_
      exact hK _ _ (rfl) (Only.refl _ _) hS
    · intro L vs A' u hW hL0 hnd K' hK
      have hS := hW.wi.s
      have r1 : A'.tmps[1]? = some (.pointer (some ⟨w.heap.size, 0, none⟩)) := (hW.out 1 (fun j hj => fr_R j 1 hj (by kernel_rfl))).trans rfl
      go_simp
      exact hK _ _ (by first | rfl | (show _ = _; simp)) (Only.refl _ _) hS
    · intro L vs A' u hW hL0 hnd K' hK
      have hS := hW.wi.s
      have r52 : A'.tmps[52]? = some (.pointer (some ⟨w.heap.size, 4, none⟩)) := by
        obtain ⟨x, e, h⟩ := hW.tel 41 52 (by decide) (hnd 41 (by kernel_rfl)) rfl
        rw [e]; exact congrArg some h
      have hc := U.cell_keep hS q4
      go_simp
      exact hK _ _ (rfl) (Only.refl _ _) hS
    · intro L vs A' u hW hL0 hnd K' hK
      have hS := hW.wi.s
      have r51 : A'.tmps[51]? = some (.agg (tc dT)) := by
        obtain ⟨x, e, h⟩ := hW.tel 40 51 (by decide) (hnd 40 (by kernel_rfl)) rfl
        rw [e]; exact congrArg some h
      have r53 : A'.tmps[53]? = some (iv dc) := by
        obtain ⟨x, e, h⟩ := hW.tel 42 53 (by decide) (hnd 42 (by kernel_rfl)) rfl
        rw [e]; exact congrArg some h
      have HCL := Lib.hid (C10.out u)
      go_simp
      refine (HCL.out).mono ?_
      rintro _ u' ⟨rfl, ho'⟩
      exact hK _ _ (rfl) ho' (hS.trans ho')
    · intro L vs A' u hW hL0 hnd K' hK
      have hS := hW.wi.s
      have r1 : A'.tmps[1]? = some (.pointer (some ⟨w.heap.size, 0, none⟩)) := (hW.out 1 (fun j hj => fr_R j 1 hj (by kernel_rfl))).trans rfl
      go_simp
      exact hK _ _ (by first | rfl | (show _ = _; simp)) (Only.refl _ _) hS
    · intro L vs A' u hW hL0 hnd K' hK
      have hS := hW.wi.s
      have r55 : A'.tmps[55]? = some (.pointer (some ⟨w.heap.size, 8, none⟩)) := by
        obtain ⟨x, e, h⟩ := hW.tel 44 55 (by decide) (hnd 44 (by kernel_rfl)) rfl
        rw [e]; exact congrArg some h
      have hc := U.cell_keep hS q8
      go_simp
      exact hK _ _ (rfl) (Only.refl _ _) hS
    · intro L vs A' u hW hL0 hnd K' hK
      have hS := hW.wi.s
      have r54 : A'.tmps[54]? = some (rv R3) := by
        obtain ⟨x, e, h⟩ := hW.tel 43 54 (by decide) (hnd 43 (by kernel_rfl)) rfl
        rw [e]; exact congrArg some h
      have r56 : A'.tmps[56]? = some (iv dep) := by
        obtain ⟨x, e, h⟩ := hW.tel 45 56 (by decide) (hnd 45 (by kernel_rfl)) rfl
        rw [e]; exact congrArg some h
      have HCL := Lib.hid (C7.out u)
      go_simp
      refine (HCL.out).mono ?_
      rintro _ u' ⟨rfl, ho'⟩
      exact hK _ _ (rfl) ho' (hS.trans ho')
    · intro L vs A' u hW hL0 hnd K' hK
      have hS := hW.wi.s
      have r57 : A'.tmps[57]? = some (.bool B7) := by
        obtain ⟨x, e, h⟩ := hW.tel 46 57 (by decide) (hnd 46 (by kernel_rfl)) rfl
        rw [e]; exact congrArg some h
      have HCL := Lib.hid (unless_any (B7) 22 u)
      go_simp
      refine (HCL.out).mono ?_
      rintro _ u' ⟨rfl, rfl⟩
      exact hK _ _ (rfl) (Only.refl _ _) hS
    · intro L vs A' u hW hL0 hnd K' hK
      have hS := hW.wi.s
      have r11 : A'.tmps[11]? = some (iv E0) := by
        obtain ⟨x, e, h⟩ := hW.tel 0 11 (by decide) (hnd 0 (by kernel_rfl)) rfl
        rw [e]; exact congrArg some h
      have r28 : A'.tmps[28]? = some (iv (un ((B1 && B2) && B3) 13)) := by
        obtain ⟨x, e, h⟩ := hW.tel 17 28 (by decide) (hnd 17 (by kernel_rfl)) rfl
        rw [e]; exact congrArg some h
      have r34 : A'.tmps[34]? = some (iv (un B4 10)) := by
        obtain ⟨x, e, h⟩ := hW.tel 23 34 (by decide) (hnd 23 (by kernel_rfl)) rfl
        rw [e]; exact congrArg some h
      have r42 : A'.tmps[42]? = some (iv (un B5 22)) := by
        obtain ⟨x, e, h⟩ := hW.tel 31 42 (by decide) (hnd 31 (by kernel_rfl)) rfl
        rw [e]; exact congrArg some h
      have r50 : A'.tmps[50]? = some (iv (un B6 22)) := by
        obtain ⟨x, e, h⟩ := hW.tel 39 50 (by decide) (hnd 39 (by kernel_rfl)) rfl
        rw [e]; exact congrArg some h
      have r58 : A'.tmps[58]? = some (iv (un B7 22)) := by
        obtain ⟨x, e, h⟩ := hW.tel 47 58 (by decide) (hnd 47 (by kernel_rfl)) rfl
        rw [e]; exact congrArg some h
      go_simp
      exact hK _ _ (show ESrc _ _ [E0, un (B1 && B2 && B3) 13, un B4 10, un B5 22, un B6 22, un B7 22] from esrc_new _ _ [E0, un (B1 && B2 && B3) 13, un B4 10, un B5 22, un B6 22, un B7 22] (by show 6 ≤ 1000; decide)) ((Only.refl _ _).alloc _) (hS.alloc _)
    · intro L vs A' u hW hL0 hnd K' hK
      have hS := hW.wi.s
      obtain ⟨x59, r59, p59⟩ := hW.tel 48 59 (by decide) (hnd 48 (by kernel_rfl)) rfl
      have HCL := Lib.hid (first_any x59 _ p59)
      go_simp
      refine (HCL.out).mono ?_
      rintro _ u' ⟨rfl, rfl⟩
      exact hK _ _ (congrArg iv HE.out.symm) (Only.refl _ _) hS
    · intro L vs A' u hW hL0 hnd K' hK
      have hS := hW.wi.s
      have r60 : A'.tmps[60]? = some (iv E) := by
        obtain ⟨x, e, h⟩ := hW.tel 49 60 (by decide) (hnd 49 (by kernel_rfl)) rfl
        rw [e]; exact congrArg some h
      go_simp
      exact hK _ _ (by first | rfl | (show _ = _; simp)) (Only.refl _ _) hS
  case doneR =>
    intro L vs u hS hP hall
    have e50 : vs 50 = iv E := hP 50 (by decide)
    have HS := Lib.hid (HO.out.trans hS)
    clear hS hP hall fr_R
    simp only [putV, List.foldl_cons, List.foldl_nil, List.setIfInBounds_toArray, List.set_cons_zero, List.set_cons_succ]
    rw [e50]
    go_wp2
    go_ret
    exact ⟨rfl, HS.out⟩
end Go.Proofs.YteahiigfclabfaaDoor.H
