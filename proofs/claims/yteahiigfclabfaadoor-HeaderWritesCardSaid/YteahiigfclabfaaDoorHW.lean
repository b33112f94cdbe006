/-
  Package header, Make.
-/
import Derived.Test.YteahiigfclabfaaDoorHV
import Derived.Laws.Tables
namespace Go.Proofs.YteahiigfclabfaaDoor.H
open Go.RowKit

/-- what is wrong with what a header is to be made of -/
def mkE (V : Bool) (num blk mo rate ch dep : Int) : Int :=
  fstE [un (decide (1 ≤ blk) && decide (blk ≤ 65535)) 10, un (decide (0 ≤ rate) && decide (rate ≤ 1048575)) 10, un (decide (4 ≤ dep) && decide (dep ≤ 32)) 10, chE mo, un (decide (ch = chN mo)) 22, un (decide (mayN V num)) 10]
/-- the header that is made -/
def mkH (V : Bool) (num blk mo rate dep : Int) : Hd :=
  ⟨V, (shF bT blk 16).1, (shF rT rate 16).1, mo, (shF dT dep 16).1, num, (shF bT blk 16).2.1, (shF rT rate 16).2.1, (shF dT dep 16).2.1⟩
def hd0 : Hd := ⟨false, 0, 0, 0, 0, 0, 0, 0, 0⟩
/-- what Make answers -/
def mkA (V : Bool) (num blk mo rate ch dep : Int) : Hd := if mkE V num blk mo rate ch dep = 0 then mkH V num blk mo rate dep else hd0

theorem box_setRow {w : World} {b : Nat} {t : TypeId} {cs : Array Value} (h : Box w b t cs) (cs' : Array Value) : Box (w.setRow b cs') b t cs' ∧ Only (Just b) w (w.setRow b cs') :=
  ⟨setRow_heap w b cs cs' t (0, 0) h, ⟨rfl, rfl, rfl, by simp, fun k _ hk => setRow_other w b k cs' hk⟩⟩
theorem wpList_store_row {P : Program} {w : World} {ops : Array Oper} {rest : List Oper} {o : Oper} {a : Act} {Q : Exit → Act → World → Prop} (hg : o.guard = none) (ty : TypeId) (p x : Operand) (hop : o.op = Op.store ty p x) (hd : o.dst = none)
    (b : Nat) (t : TypeId) (old cells : Array Value) (hp : a.eval p = .pointer (some ⟨b, 0, none⟩)) (hx : a.eval x = .agg cells) (hB : Box w b t old) (hi : (P.info? ty).map (·.size) = some cells.size) (ho : old.size = cells.size) (h1 : cells.all (·.oneCell') = true)
    (h : ∀ w', Box w' b t cells → Only (Just b) w w' → wpList P ops Q rest a w') : wpList P ops Q (o :: rest) a w := by
  refine wpList_plain hg fun K hK => ?_
  obtain ⟨h2, h3⟩ := box_setRow hB cells
  have hr := run_storeVar_row (P := P) w b t ty old cells hB hi ho h1
  unfold Oper.wp execOp
  simp only [hop, Instr.storeAt, Instr.sureAddr, Sem.run_bind, Sem.run_pure, Result.andThen_ok, hp, hx, hr]
  have := hK (a.put o.dst undef) (w.setRow b cells) (by rw [hd]; exact h _ h2 h3)
  exact this
theorem range_set {w : World} {b o : Nat} {cs : List Value} (h : w.rangeAt b o cs) {p : Addr} (hp : b ≠ p.block) (v : Value) : (w.setCell p v).rangeAt b o cs := fun j x hj => by
  rw [World.cell?_of_block (w := w) (Below.heap_setCell w p v b hp)]
  exact h j x hj
theorem hc_one (h : Hd) : (hc h).all (·.oneCell') = true := by simp [hc, Value.oneCell']
theorem Tryd.size_header : (Tryd.prog.info? 23).map (·.size) = some 9 := by kernel_rfl

set_option maxRecDepth 100000 in
set_option maxHeartbeats 8000000 in
theorem make_any {w : World} (hL : LaidH w) (V : Bool) (num blk mo rate ch dep : Int) (i1 : I64 blk) (i2 : I64 rate) (i3 : I64 dep) :
    Calls Tryd.prog 16 #[.bool V, iv num, iv blk, iv mo, .agg #[iv rate, iv ch, iv dep]] w fun x w' => x = .returned (.tuple #[hv (mkA V num blk mo rate ch dep), iv (mkE V num blk mo rate ch dep)]) ∧ Only Nix w w' := by
  have HA : Hid (mkA V num blk mo rate ch dep = if mkE V num blk mo rate ch dep = 0 then mkH V num blk mo rate dep else hd0) := Lib.hid rfl
  have HE : Hid (mkE V num blk mo rate ch dep = fstE [un (decide (1 ≤ blk) && decide (blk ≤ 65535)) 10, un (decide (0 ≤ rate) && decide (rate ≤ 1048575)) 10, un (decide (4 ≤ dep) && decide (dep ≤ 32)) 10, chE mo, un (decide (ch = chN mo)) 22, un (decide (mayN V num)) 10]) := Lib.hid rfl
  have HH : Hid (mkH V num blk mo rate dep = ⟨V, (shF bT blk 16).1, (shF rT rate 16).1, mo, (shF dT dep 16).1, num, (shF bT blk 16).2.1, (shF rT rate 16).2.1, (shF dT dep 16).2.1⟩) := Lib.hid rfl
  generalize mkA V num blk mo rate ch dep = A at *
  generalize mkE V num blk mo rate ch dep = E at *
  generalize mkH V num blk mo rate dep = HH0 at *
  have S1 : Hid (∀ u, Calls Tryd.prog 46 #[.agg (tc bT), iv blk] u fun x w' => x = .returned (.tuple #[iv (shF bT blk 16).1, iv (shF bT blk 16).2.1]) ∧ Only Nix u w') := Lib.hid (fun u => shortest_any bOk blk i1 u)
  have S2 : Hid (∀ u, Calls Tryd.prog 46 #[.agg (tc rT), iv rate] u fun x w' => x = .returned (.tuple #[iv (shF rT rate 16).1, iv (shF rT rate 16).2.1]) ∧ Only Nix u w') := Lib.hid (fun u => shortest_any rOk rate i2 u)
  have S3 : Hid (∀ u, Calls Tryd.prog 46 #[.agg (tc dT), iv dep] u fun x w' => x = .returned (.tuple #[iv (shF dT dep 16).1, iv (shF dT dep 16).2.1]) ∧ Only Nix u w') := Lib.hid (fun u => shortest_any dOk dep i3 u)
  generalize shF bT blk 16 = P1 at *
  generalize shF rT rate 16 = P2 at *
  generalize shF dT dep 16 = P3 at *
  obtain ⟨c1, t1, f1⟩ := P1
  obtain ⟨c2, t2, f2⟩ := P2
  obtain ⟨c3, t3, f3⟩ := P3
  simp only at HH S1 S2 S3
  obtain ⟨B1, hB1⟩ : ∃ B, decide (1 ≤ blk) = B := ⟨_, rfl⟩
  obtain ⟨B2, hB2⟩ : ∃ B, decide (blk ≤ 65535) = B := ⟨_, rfl⟩
  obtain ⟨B3, hB3⟩ : ∃ B, decide (0 ≤ rate) = B := ⟨_, rfl⟩
  obtain ⟨B4, hB4⟩ : ∃ B, decide (rate ≤ 1048575) = B := ⟨_, rfl⟩
  obtain ⟨B5, hB5⟩ : ∃ B, decide (4 ≤ dep) = B := ⟨_, rfl⟩
  obtain ⟨B6, hB6⟩ : ∃ B, decide (dep ≤ 32) = B := ⟨_, rfl⟩
  obtain ⟨B7, hB7⟩ : ∃ B, decide (ch = chN mo) = B := ⟨_, rfl⟩
  obtain ⟨B8, hB8⟩ : ∃ B, decide (mayN V num) = B := ⟨_, rfl⟩
  rw [hB1, hB2, hB3, hB4, hB5, hB6, hB7, hB8] at HE
  have C8 : Hid (∀ u, Calls Tryd.prog 36 #[.bool V, iv num] u fun x w' => x = .returned (.bool B8) ∧ u = w') := Lib.hid (fun u => by rw [← hB8]; exact mayBe_any V num u)
  have CH : Hid (∀ u, LaidH u → Calls Tryd.prog 18 #[iv mo] u fun x w' => x = .returned (.tuple #[iv (chN mo), iv (chE mo)]) ∧ u = w') := Lib.hid (fun u hu => channels_any hu mo)
  have HB1 := Lib.hid hB1
  have HB2 := Lib.hid hB2
  have HB3 := Lib.hid hB3
  have HB4 := Lib.hid hB4
  have HB5 := Lib.hid hB5
  have HB6 := Lib.hid hB6
  generalize chE mo = E0 at *
  generalize chN mo = N0 at *
  have HB7 : Hid ((ch == N0) = B7) := Lib.hid hB7
  clear hB1 hB2 hB3 hB4 hB5 hB6 hB7 hB8 i1 i2 i3
  have hP := Box.new w 42 #[iv rate, iv ch, iv dep]
  have hOa := (Only.refl Nix w).alloc (.cells #[iv rate, iv ch, iv dep] 42)
  have hsa : (w.alloc (.cells #[iv rate, iv ch, iv dep] 42)).heap.size = w.heap.size + 1 := by simp
  generalize hWa : w.alloc (.cells #[iv rate, iv ch, iv dep] 42) = Wa at *
  have hR := Box.new Wa 23 (hc hd0)
  have hOb := (Only.refl Nix Wa).alloc (.cells (hc hd0) 23)
  have hP0 := hP.alloc (.cells (hc hd0) 23)
  have hsb : (Wa.alloc (.cells (hc hd0) 23)).heap.size = w.heap.size + 2 := by simp [hsa]
  generalize hWb : Wa.alloc (.cells (hc hd0) 23) = W0 at *
  rw [hsa] at hR
  have HO := Lib.hid (hOa.trans hOb)
  have HL := Lib.hid (hL.nix HO.out)
  have q0 := hP0.cell 0
  have q1 := hP0.cell 1
  have q2 := hP0.cell 2
  have HP := Lib.hid hP0
  have HR := Lib.hid hR
  have HSB := Lib.hid hsb
  have HCL := Lib.hid (CH.out W0 HL.out)
  simp only [hc, hd0] at hWb
  simp only [List.getElem?_toArray, List.getElem?_cons_zero, List.getElem?_cons_succ] at q0 q1 q2
  clear hP hR hOa hOb hP0 hL hsb
  go_enter Tryd.func16, Tryd.ntmps16
  go_wp2_with fail
  refine (HCL.out).mono ?_
  rintro _ w1 ⟨rfl, rfl⟩
  go_wp2
  have fr_R : ∀ j s, j < 38 → (([some 20, some 21, some 22, some 23, some 24, some 25, some 26, some 27, some 28, some 29, some 30, some 31, some 32, some 33, some 34, some 35, some 36, some 37, some 38, some 39, some 40, some 41, some 42, some 43, some 44, some 45, some 46, some 47, some 48, some 49, some 50, some 51, some 52, some 53, some 54, some 55, some 56, some 13] : List (Option Nat)).all fun d => d != some s) = true → ([some 20, some 21, some 22, some 23, some 24, some 25, some 26, some 27, some 28, some 29, some 30, some 31, some 32, some 33, some 34, some 35, some 36, some 37, some 38, some 39, some 40, some 41, some 42, some 43, some 44, some 45, some 46, some 47, some 48, some 49, some 50, some 51, some 52, some 53, some 54, some 55, some 56, some 13] : List (Option Nat)).getD j none ≠ some s := by
    intro j s hj ha e
    rw [List.getD_eq_getElem?_getD, List.getElem?_eq_getElem (by exact hj), Option.getD_some] at e
    have := List.all_eq_true.1 ha _ (List.getElem_mem (by exact hj))
    rw [e] at this
    simp at this
  refine region_tel (by kernel_rfl) (fun k0 => ([some 20, some 21, some 22, some 23, some 24, some 25, some 26, some 27, some 28, some 29, some 30, some 31, some 32, some 33, some 34, some 35, some 36, some 37, some 38, some 39, some 40, some 41, some 42, some 43, some 44, some 45, some 46, some 47, some 48, some 49, some 50, some 51, some 52, some 53, some 54, some 55, some 56, some 13] : List (Option Nat)).getD k0 none) (PL [eqP (iv blk),
      eqP (.bool B1),
      eqP (.bool B1),
      eqP (if B1 = true then iv blk else undef),
      eqP (if B1 = true then .bool B2 else undef),
      eqP (.bool (B1 && B2)),
      eqP (iv (un (B1 && B2) 10)),
      eqP (.pointer (some ⟨w.heap.size, 0, none⟩)),
      eqP (iv rate),
      eqP (.bool B3),
      eqP (.bool B3),
      eqP (if B3 = true then .pointer (some ⟨w.heap.size, 0, none⟩) else undef),
      eqP (if B3 = true then iv rate else undef),
      eqP (if B3 = true then .bool B4 else undef),
      eqP (.bool (B3 && B4)),
      eqP (iv (un (B3 && B4) 10)),
      eqP (.pointer (some ⟨w.heap.size, 2, none⟩)),
      eqP (iv dep),
      eqP (.bool B5),
      eqP (.bool B5),
      eqP (if B5 = true then .pointer (some ⟨w.heap.size, 2, none⟩) else undef),
      eqP (if B5 = true then iv dep else undef),
      eqP (if B5 = true then .bool B6 else undef),
      eqP (.bool (B5 && B6)),
      eqP (iv (un (B5 && B6) 10)),
      eqP (iv E0),
      eqP (.pointer (some ⟨w.heap.size, 1, none⟩)),
      eqP (iv ch),
      eqP (iv N0),
      eqP (.bool B7),
      eqP (iv (un B7 22)),
      eqP (.bool V),
      eqP (iv num),
      eqP (.bool B8),
      eqP (iv (un B8 10)),
      (fun v u => ESrc u v [un (B1 && B2) 10, un (B3 && B4) 10, un (B5 && B6) 10, E0, un B7 22, un B8 10]),
      eqP (iv E),
      eqP (iv E)]) (fun u u' => Only Nix u u') (fun _ u => Only Nix (W0) u) 92 38 rfl (by kernel_rfl) (by kernel_rfl) rfl (by kernel_rfl) (by kernel_rfl) (stab_all ⟨fun _ _ _ h _ => h, fun _ _ _ h _ => h, fun _ _ _ h _ => h, fun _ _ _ h _ => h, fun _ _ _ h _ => h, fun _ _ _ h _ => h, fun _ _ _ h _ => h, fun _ _ _ h _ => h, fun _ _ _ h _ => h, fun _ _ _ h _ => h, fun _ _ _ h _ => h, fun _ _ _ h _ => h, fun _ _ _ h _ => h, fun _ _ _ h _ => h, fun _ _ _ h _ => h, fun _ _ _ h _ => h, fun _ _ _ h _ => h, fun _ _ _ h _ => h, fun _ _ _ h _ => h, fun _ _ _ h _ => h, fun _ _ _ h _ => h, fun _ _ _ h _ => h, fun _ _ _ h _ => h, fun _ _ _ h _ => h, fun _ _ _ h _ => h, fun _ _ _ h _ => h, fun _ _ _ h _ => h, fun _ _ _ h _ => h, fun _ _ _ h _ => h, fun _ _ _ h _ => h, fun _ _ _ h _ => h, fun _ _ _ h _ => h, fun _ _ _ h _ => h, fun _ _ _ h _ => h, fun _ _ _ h _ => h, fun _ _ _ h ho => h.nix ho, fun _ _ _ h _ => h, fun _ _ _ h _ => h, trivial⟩) ((Only.refl _ _).drew) ?stepsR (fun vs => [(20, vs 0), (21, vs 1), (22, vs 2), (23, vs 3), (24, vs 4), (25, vs 5), (26, vs 6), (27, vs 7), (28, vs 8), (29, vs 9), (30, vs 10), (31, vs 11), (32, vs 12), (33, vs 13), (34, vs 14), (35, vs 15), (36, vs 16), (37, vs 17), (38, vs 18), (39, vs 19), (40, vs 20), (41, vs 21), (42, vs 22), (43, vs 23), (44, vs 24), (45, vs 25), (46, vs 26), (47, vs 27), (48, vs 28), (49, vs 29), (50, vs 30), (51, vs 31), (52, vs 32), (53, vs 33), (54, vs 34), (55, vs 35), (56, vs 36), (13, vs 37)]) (fun vs => rfl) ?doneR
  case stepsR =>
    refine ⟨?_, ?_, ?_, ?_, ?_, ?_, ?_, ?_, ?_, ?_, ?_, ?_, ?_, ?_, ?_, ?_, ?_, ?_, ?_, ?_, ?_, ?_, ?_, ?_, ?_, ?_, ?_, ?_, ?_, ?_, ?_, ?_, ?_, ?_, ?_, ?_, ?_, ?_, trivial⟩
    · intro L vs A' u hW hL0 hnd K' hK
      have hS := hW.wi.s
      have r2 : A'.tmps[2]? = some (iv blk) := (hW.out 2 (fun j hj => fr_R j 2 hj (by kernel_rfl))).trans rfl
      go_simp
      exact hK _ _ (by first | rfl | (show _ = _; simp)) (Only.refl _ _) hS
    · intro L vs A' u hW hL0 hnd K' hK
      have hS := hW.wi.s
      have r20 : A'.tmps[20]? = some (iv blk) := by
        obtain ⟨x, e, h⟩ := hW.tel 0 20 (by decide) (hnd 0 (by kernel_rfl)) rfl
        rw [e]; exact congrArg some h
      go_simp
      exact hK _ _ (congrArg Value.bool HB1.out) (Only.refl _ _) hS
    · intro L vs A' u hW hL0 hnd K' hK
      have hS := hW.wi.s
      have r21 : A'.tmps[21]? = some (.bool B1) := by
        obtain ⟨x, e, h⟩ := hW.tel 1 21 (by decide) (hnd 1 (by kernel_rfl)) rfl
        rw [e]; exact congrArg some h
      go_simp
      exact hK _ _ (by first | rfl | (show _ = _; simp)) (Only.refl _ _) hS
    · intro L vs A' u hW hL0 hnd K' hK
      have hS := hW.wi.s
      have r2 : A'.tmps[2]? = some (iv blk) := (hW.out 2 (fun j hj => fr_R j 2 hj (by kernel_rfl))).trans rfl
      have r22 : A'.tmps[22]? = some (.bool B1) := by
        obtain ⟨x, e, h⟩ := hW.tel 2 22 (by decide) (hnd 2 (by kernel_rfl)) rfl
        rw [e]; exact congrArg some h
      by_cases hg : B1 = true
      · rw [if_pos (wanted_yes (j := 2) (s := 22) (b := true) rfl (by kernel_rfl) (by rw [r22, hg]))]
        go_simp
        exact hK _ _ ((if_pos hg).symm) (Only.refl _ _) hS
      · rw [if_neg (wanted_no (j := 2) (s := 22) (b := true) rfl (by kernel_rfl) (by rw [r22, show (B1) = !true from by simpa using hg]))]
        exact hK _ _ (if_neg hg).symm (Only.refl _ _) hS
    · intro L vs A' u hW hL0 hnd K' hK
      have hS := hW.wi.s
      have r23 : A'.tmps[23]? = some (if B1 = true then iv blk else undef) := by
        obtain ⟨x, e, h⟩ := hW.tel 3 23 (by decide) (hnd 3 (by kernel_rfl)) rfl
        rw [e]; exact congrArg some h
      have r22 : A'.tmps[22]? = some (.bool B1) := by
        obtain ⟨x, e, h⟩ := hW.tel 2 22 (by decide) (hnd 2 (by kernel_rfl)) rfl
        rw [e]; exact congrArg some h
      by_cases hg : B1 = true
      · rw [if_pos (wanted_yes (j := 2) (s := 22) (b := true) rfl (by kernel_rfl) (by rw [r22, hg]))]
        rw [if_pos hg] at r23
        go_simp
        exact hK _ _ ((by show _ = _; rw [if_pos hg]; exact congrArg Value.bool HB2.out)) (Only.refl _ _) hS
      · rw [if_neg (wanted_no (j := 2) (s := 22) (b := true) rfl (by kernel_rfl) (by rw [r22, show (B1) = !true from by simpa using hg]))]
        exact hK _ _ (if_neg hg).symm (Only.refl _ _) hS
    · intro L vs A' u hW hL0 hnd K' hK
      have hS := hW.wi.s
      have r22 : A'.tmps[22]? = some (.bool B1) := by
        obtain ⟨x, e, h⟩ := hW.tel 2 22 (by decide) (hnd 2 (by kernel_rfl)) rfl
        rw [e]; exact congrArg some h
      have r24 : A'.tmps[24]? = some (if B1 = true then .bool B2 else undef) := by
        obtain ⟨x, e, h⟩ := hW.tel 4 24 (by decide) (hnd 4 (by kernel_rfl)) rfl
        rw [e]; exact congrArg some h
      by_cases hg : B1 = true
      · rw [if_pos hg] at r24
        go_simp
        exact hK _ _ (show _ = _ by simp [hg]) (Only.refl _ _) hS
      · rw [if_neg hg] at r24
        go_simp
        exact hK _ _ (show _ = _ by simp [hg]) (Only.refl _ _) hS
    · intro L vs A' u hW hL0 hnd K' hK
      have hS := hW.wi.s
      have r25 : A'.tmps[25]? = some (.bool (B1 && B2)) := by
        obtain ⟨x, e, h⟩ := hW.tel 5 25 (by decide) (hnd 5 (by kernel_rfl)) rfl
        rw [e]; exact congrArg some h
      have HCL := Lib.hid (unless_any ((B1 && B2)) 10 u)
      go_simp
      refine (HCL.out).mono ?_
      rintro _ u' ⟨rfl, rfl⟩
      exact hK _ _ (rfl) (Only.refl _ _) hS
    · intro L vs A' u hW hL0 hnd K' hK
      have hS := hW.wi.s
      have r9 : A'.tmps[9]? = some (.pointer (some ⟨w.heap.size, 0, none⟩)) := (hW.out 9 (fun j hj => fr_R j 9 hj (by kernel_rfl))).trans rfl
      go_simp
      exact hK _ _ (by first | rfl | (show _ = _; simp)) (Only.refl _ _) hS
    · intro L vs A' u hW hL0 hnd K' hK
      have hS := hW.wi.s
      have r27 : A'.tmps[27]? = some (.pointer (some ⟨w.heap.size, 0, none⟩)) := by
        obtain ⟨x, e, h⟩ := hW.tel 7 27 (by decide) (hnd 7 (by kernel_rfl)) rfl
        rw [e]; exact congrArg some h
      have hc := U.cell_keep hS q0
      go_simp
      exact hK _ _ (rfl) (Only.refl _ _) hS
    · intro L vs A' u hW hL0 hnd K' hK
      have hS := hW.wi.s
      have r28 : A'.tmps[28]? = some (iv rate) := by
        obtain ⟨x, e, h⟩ := hW.tel 8 28 (by decide) (hnd 8 (by kernel_rfl)) rfl
        rw [e]; exact congrArg some h
      go_simp
      exact hK _ _ (congrArg Value.bool HB3.out) (Only.refl _ _) hS
    · intro L vs A' u hW hL0 hnd K' hK
      have hS := hW.wi.s
      have r29 : A'.tmps[29]? = some (.bool B3) := by
        obtain ⟨x, e, h⟩ := hW.tel 9 29 (by decide) (hnd 9 (by kernel_rfl)) rfl
        rw [e]; exact congrArg some h
      go_simp
      exact hK _ _ (by first | rfl | (show _ = _; simp)) (Only.refl _ _) hS
    · intro L vs A' u hW hL0 hnd K' hK
      have hS := hW.wi.s
      have r9 : A'.tmps[9]? = some (.pointer (some ⟨w.heap.size, 0, none⟩)) := (hW.out 9 (fun j hj => fr_R j 9 hj (by kernel_rfl))).trans rfl
      have r30 : A'.tmps[30]? = some (.bool B3) := by
        obtain ⟨x, e, h⟩ := hW.tel 10 30 (by decide) (hnd 10 (by kernel_rfl)) rfl
        rw [e]; exact congrArg some h
      by_cases hg : B3 = true
      · rw [if_pos (wanted_yes (j := 10) (s := 30) (b := true) rfl (by kernel_rfl) (by rw [r30, hg]))]
        go_simp
        exact hK _ _ ((if_pos hg).symm) (Only.refl _ _) hS
      · rw [if_neg (wanted_no (j := 10) (s := 30) (b := true) rfl (by kernel_rfl) (by rw [r30, show (B3) = !true from by simpa using hg]))]
        exact hK _ _ (if_neg hg).symm (Only.refl _ _) hS
    · intro L vs A' u hW hL0 hnd K' hK
      have hS := hW.wi.s
      have r31 : A'.tmps[31]? = some (if B3 = true then .pointer (some ⟨w.heap.size, 0, none⟩) else undef) := by
        obtain ⟨x, e, h⟩ := hW.tel 11 31 (by decide) (hnd 11 (by kernel_rfl)) rfl
        rw [e]; exact congrArg some h
      have r30 : A'.tmps[30]? = some (.bool B3) := by
        obtain ⟨x, e, h⟩ := hW.tel 10 30 (by decide) (hnd 10 (by kernel_rfl)) rfl
        rw [e]; exact congrArg some h
      by_cases hg : B3 = true
      · rw [if_pos (wanted_yes (j := 10) (s := 30) (b := true) rfl (by kernel_rfl) (by rw [r30, hg]))]
        rw [if_pos hg] at r31
        have hc := U.cell_keep hS q0
        go_simp
        exact hK _ _ ((if_pos hg).symm) (Only.refl _ _) hS
      · rw [if_neg (wanted_no (j := 10) (s := 30) (b := true) rfl (by kernel_rfl) (by rw [r30, show (B3) = !true from by simpa using hg]))]
        exact hK _ _ (if_neg hg).symm (Only.refl _ _) hS
    · intro L vs A' u hW hL0 hnd K' hK
      have hS := hW.wi.s
      have r32 : A'.tmps[32]? = some (if B3 = true then iv rate else undef) := by
        obtain ⟨x, e, h⟩ := hW.tel 12 32 (by decide) (hnd 12 (by kernel_rfl)) rfl
        rw [e]; exact congrArg some h
      have r30 : A'.tmps[30]? = some (.bool B3) := by
        obtain ⟨x, e, h⟩ := hW.tel 10 30 (by decide) (hnd 10 (by kernel_rfl)) rfl
        rw [e]; exact congrArg some h
      by_cases hg : B3 = true
      · rw [if_pos (wanted_yes (j := 10) (s := 30) (b := true) rfl (by kernel_rfl) (by rw [r30, hg]))]
        rw [if_pos hg] at r32
        go_simp
        exact hK _ _ ((by show _ = _; rw [if_pos hg]; exact congrArg Value.bool HB4.out)) (Only.refl _ _) hS
      · rw [if_neg (wanted_no (j := 10) (s := 30) (b := true) rfl (by kernel_rfl) (by rw [r30, show (B3) = !true from by simpa using hg]))]
        exact hK _ _ (if_neg hg).symm (Only.refl _ _) hS
    · intro L vs A' u hW hL0 hnd K' hK
      have hS := hW.wi.s
      have r30 : A'.tmps[30]? = some (.bool B3) := by
        obtain ⟨x, e, h⟩ := hW.tel 10 30 (by decide) (hnd 10 (by kernel_rfl)) rfl
        rw [e]; exact congrArg some h
      have r33 : A'.tmps[33]? = some (if B3 = true then .bool B4 else undef) := by
        obtain ⟨x, e, h⟩ := hW.tel 13 33 (by decide) (hnd 13 (by kernel_rfl)) rfl
        rw [e]; exact congrArg some h
      by_cases hg : B3 = true
      · rw [if_pos hg] at r33
        go_simp
        exact hK _ _ (show _ = _ by simp [hg]) (Only.refl _ _) hS
      · rw [if_neg hg] at r33
        go_simp
        exact hK _ _ (show _ = _ by simp [hg]) (Only.refl _ _) hS
    · intro L vs A' u hW hL0 hnd K' hK
      have hS := hW.wi.s
      have r34 : A'.tmps[34]? = some (.bool (B3 && B4)) := by
        obtain ⟨x, e, h⟩ := hW.tel 14 34 (by decide) (hnd 14 (by kernel_rfl)) rfl
        rw [e]; exact congrArg some h
      have HCL := Lib.hid (unless_any ((B3 && B4)) 10 u)
      go_simp
      refine (HCL.out).mono ?_
      rintro _ u' ⟨rfl, rfl⟩
      exact hK _ _ (rfl) (Only.refl _ _) hS
    · intro L vs A' u hW hL0 hnd K' hK
      have hS := hW.wi.s
      have r9 : A'.tmps[9]? = some (.pointer (some ⟨w.heap.size, 0, none⟩)) := (hW.out 9 (fun j hj => fr_R j 9 hj (by kernel_rfl))).trans rfl
      go_simp
      exact hK _ _ (by first | rfl | (show _ = _; simp)) (Only.refl _ _) hS
    · intro L vs A' u hW hL0 hnd K' hK
      have hS := hW.wi.s
      have r36 : A'.tmps[36]? = some (.pointer (some ⟨w.heap.size, 2, none⟩)) := by
        obtain ⟨x, e, h⟩ := hW.tel 16 36 (by decide) (hnd 16 (by kernel_rfl)) rfl
        rw [e]; exact congrArg some h
      have hc := U.cell_keep hS q2
      go_simp
      exact hK _ _ (rfl) (Only.refl _ _) hS
    · intro L vs A' u hW hL0 hnd K' hK
      have hS := hW.wi.s
      have r37 : A'.tmps[37]? = some (iv dep) := by
        obtain ⟨x, e, h⟩ := hW.tel 17 37 (by decide) (hnd 17 (by kernel_rfl)) rfl
        rw [e]; exact congrArg some h
      go_simp
      exact hK _ _ (congrArg Value.bool HB5.out) (Only.refl _ _) hS
    · intro L vs A' u hW hL0 hnd K' hK
      have hS := hW.wi.s
      have r38 : A'.tmps[38]? = some (.bool B5) := by
        obtain ⟨x, e, h⟩ := hW.tel 18 38 (by decide) (hnd 18 (by kernel_rfl)) rfl
        rw [e]; exact congrArg some h
      go_simp
      exact hK _ _ (by first | rfl | (show _ = _; simp)) (Only.refl _ _) hS
    · intro L vs A' u hW hL0 hnd K' hK
      have hS := hW.wi.s
      have r9 : A'.tmps[9]? = some (.pointer (some ⟨w.heap.size, 0, none⟩)) := (hW.out 9 (fun j hj => fr_R j 9 hj (by kernel_rfl))).trans rfl
      have r39 : A'.tmps[39]? = some (.bool B5) := by
        obtain ⟨x, e, h⟩ := hW.tel 19 39 (by decide) (hnd 19 (by kernel_rfl)) rfl
        rw [e]; exact congrArg some h
      by_cases hg : B5 = true
      · rw [if_pos (wanted_yes (j := 19) (s := 39) (b := true) rfl (by kernel_rfl) (by rw [r39, hg]))]
        go_simp
        exact hK _ _ ((if_pos hg).symm) (Only.refl _ _) hS
      · rw [if_neg (wanted_no (j := 19) (s := 39) (b := true) rfl (by kernel_rfl) (by rw [r39, show (B5) = !true from by simpa using hg]))]
        exact hK _ _ (if_neg hg).symm (Only.refl _ _) hS
    · intro L vs A' u hW hL0 hnd K' hK
      have hS := hW.wi.s
      have r40 : A'.tmps[40]? = some (if B5 = true then .pointer (some ⟨w.heap.size, 2, none⟩) else undef) := by
        obtain ⟨x, e, h⟩ := hW.tel 20 40 (by decide) (hnd 20 (by kernel_rfl)) rfl
        rw [e]; exact congrArg some h
      have r39 : A'.tmps[39]? = some (.bool B5) := by
        obtain ⟨x, e, h⟩ := hW.tel 19 39 (by decide) (hnd 19 (by kernel_rfl)) rfl
        rw [e]; exact congrArg some h
      by_cases hg : B5 = true
      · rw [if_pos (wanted_yes (j := 19) (s := 39) (b := true) rfl (by kernel_rfl) (by rw [r39, hg]))]
        rw [if_pos hg] at r40
        have hc := U.cell_keep hS q2
        go_simp
        exact hK _ _ ((if_pos hg).symm) (Only.refl _ _) hS
      · rw [if_neg (wanted_no (j := 19) (s := 39) (b := true) rfl (by kernel_rfl) (by rw [r39, show (B5) = !true from by simpa using hg]))]
        exact hK _ _ (if_neg hg).symm (Only.refl _ _) hS
    · intro L vs A' u hW hL0 hnd K' hK
      have hS := hW.wi.s
      have r41 : A'.tmps[41]? = some (if B5 = true then iv dep else undef) := by
        obtain ⟨x, e, h⟩ := hW.tel 21 41 (by decide) (hnd 21 (by kernel_rfl)) rfl
        rw [e]; exact congrArg some h
      have r39 : A'.tmps[39]? = some (.bool B5) := by
        obtain ⟨x, e, h⟩ := hW.tel 19 39 (by decide) (hnd 19 (by kernel_rfl)) rfl
        rw [e]; exact congrArg some h
      by_cases hg : B5 = true
      · rw [if_pos (wanted_yes (j := 19) (s := 39) (b := true) rfl (by kernel_rfl) (by rw [r39, hg]))]
        rw [if_pos hg] at r41
        go_simp
        exact hK _ _ ((by show _ = _; rw [if_pos hg]; exact congrArg Value.bool HB6.out)) (Only.refl _ _) hS
      · rw [if_neg (wanted_no (j := 19) (s := 39) (b := true) rfl (by kernel_rfl) (by rw [r39, show (B5) = !true from by simpa using hg]))]
        exact hK _ _ (if_neg hg).symm (Only.refl _ _) hS
    · intro L vs A' u hW hL0 hnd K' hK
      have hS := hW.wi.s
      have r39 : A'.tmps[39]? = some (.bool B5) := by
        obtain ⟨x, e, h⟩ := hW.tel 19 39 (by decide) (hnd 19 (by kernel_rfl)) rfl
        rw [e]; exact congrArg some h
      have r42 : A'.tmps[42]? = some (if B5 = true then .bool B6 else undef) := by
        obtain ⟨x, e, h⟩ := hW.tel 22 42 (by decide) (hnd 22 (by kernel_rfl)) rfl
        rw [e]; exact congrArg some h
      by_cases hg : B5 = true
      · rw [if_pos hg] at r42
        go_simp
        exact hK _ _ (show _ = _ by simp [hg]) (Only.refl _ _) hS
      · rw [if_neg hg] at r42
        go_simp
        exact hK _ _ (show _ = _ by simp [hg]) (Only.refl _ _) hS
    · intro L vs A' u hW hL0 hnd K' hK
      have hS := hW.wi.s
      have r43 : A'.tmps[43]? = some (.bool (B5 && B6)) := by
        obtain ⟨x, e, h⟩ := hW.tel 23 43 (by decide) (hnd 23 (by kernel_rfl)) rfl
        rw [e]; exact congrArg some h
      have HCL := Lib.hid (unless_any ((B5 && B6)) 10 u)
      go_simp
      refine (HCL.out).mono ?_
      rintro _ u' ⟨rfl, rfl⟩
      exact hK _ _ (rfl) (Only.refl _ _) hS
    · intro L vs A' u hW hL0 hnd K' hK
      have hS := hW.wi.s
      have ny35 : L 35 = false := notYet hW.closed (j := 35) (by rfl) (k := 25) (by kernel_rfl) hL0
      have ny36 : L 36 = false := notYet hW.closed (j := 36) (by rfl) (k := 35) (by kernel_rfl) ny35
      have ny37 : L 37 = false := notYet hW.closed (j := 37) (by rfl) (k := 36) (by kernel_rfl) ny36
      have r13 : A'.tmps[13]? = some (iv E0) := (hW.fresh 37 13 (by decide) ny37 rfl).trans rfl
      go_simp
      exact hK _ _ (by first | rfl | (show _ = _; simp)) (Only.refl _ _) hS
    · intro L vs A' u hW hL0 hnd K' hK
      have hS := hW.wi.s
      have r9 : A'.tmps[9]? = some (.pointer (some ⟨w.heap.size, 0, none⟩)) := (hW.out 9 (fun j hj => fr_R j 9 hj (by kernel_rfl))).trans rfl
      go_simp
      exact hK _ _ (by first | rfl | (show _ = _; simp)) (Only.refl _ _) hS
    · intro L vs A' u hW hL0 hnd K' hK
      have hS := hW.wi.s
      have r46 : A'.tmps[46]? = some (.pointer (some ⟨w.heap.size, 1, none⟩)) := by
        obtain ⟨x, e, h⟩ := hW.tel 26 46 (by decide) (hnd 26 (by kernel_rfl)) rfl
        rw [e]; exact congrArg some h
      have hc := U.cell_keep hS q1
      go_simp
      exact hK _ _ (rfl) (Only.refl _ _) hS
    · intro L vs A' u hW hL0 hnd K' hK
      have hS := hW.wi.s
      have r12 : A'.tmps[12]? = some (iv N0) := (hW.out 12 (fun j hj => fr_R j 12 hj (by kernel_rfl))).trans rfl
      go_simp
      exact hK _ _ (by first | rfl | (show _ = _; simp)) (Only.refl _ _) hS
    · intro L vs A' u hW hL0 hnd K' hK
      have hS := hW.wi.s
      have r47 : A'.tmps[47]? = some (iv ch) := by
        obtain ⟨x, e, h⟩ := hW.tel 27 47 (by decide) (hnd 27 (by kernel_rfl)) rfl
        rw [e]; exact congrArg some h
      have r48 : A'.tmps[48]? = some (iv N0) := by
        obtain ⟨x, e, h⟩ := hW.tel 28 48 (by decide) (hnd 28 (by kernel_rfl)) rfl
        rw [e]; exact congrArg some h
      go_simp
      exact hK _ _ (congrArg Value.bool HB7.out) (Only.refl _ _) hS
    · intro L vs A' u hW hL0 hnd K' hK
      have hS := hW.wi.s
      have r49 : A'.tmps[49]? = some (.bool B7) := by
        obtain ⟨x, e, h⟩ := hW.tel 29 49 (by decide) (hnd 29 (by kernel_rfl)) rfl
        rw [e]; exact congrArg some h
      have HCL := Lib.hid (unless_any (B7) 22 u)
      go_simp
      refine (HCL.out).mono ?_
      rintro _ u' ⟨rfl, rfl⟩
      exact hK _ _ (rfl) (Only.refl _ _) hS
    · intro L vs A' u hW hL0 hnd K' hK
      have hS := hW.wi.s
      have r0 : A'.tmps[0]? = some (.bool V) := (hW.out 0 (fun j hj => fr_R j 0 hj (by kernel_rfl))).trans rfl
      go_simp
      exact hK _ _ (by first | rfl | (show _ = _; simp)) (Only.refl _ _) hS
    · intro L vs A' u hW hL0 hnd K' hK
      have hS := hW.wi.s
      have r1 : A'.tmps[1]? = some (iv num) := (hW.out 1 (fun j hj => fr_R j 1 hj (by kernel_rfl))).trans rfl
      go_simp
      exact hK _ _ (by first | rfl | (show _ = _; simp)) (Only.refl _ _) hS
    · intro L vs A' u hW hL0 hnd K' hK
      have hS := hW.wi.s
      have r51 : A'.tmps[51]? = some (.bool V) := by
        obtain ⟨x, e, h⟩ := hW.tel 31 51 (by decide) (hnd 31 (by kernel_rfl)) rfl
        rw [e]; exact congrArg some h
      have r52 : A'.tmps[52]? = some (iv num) := by
        obtain ⟨x, e, h⟩ := hW.tel 32 52 (by decide) (hnd 32 (by kernel_rfl)) rfl
        rw [e]; exact congrArg some h
      have HCL := Lib.hid (C8.out u)
      go_simp
      refine (HCL.out).mono ?_
      rintro _ u' ⟨rfl, rfl⟩
      exact hK _ _ (rfl) (Only.refl _ _) hS
    · intro L vs A' u hW hL0 hnd K' hK
      have hS := hW.wi.s
      have r53 : A'.tmps[53]? = some (.bool B8) := by
        obtain ⟨x, e, h⟩ := hW.tel 33 53 (by decide) (hnd 33 (by kernel_rfl)) rfl
        rw [e]; exact congrArg some h
      have HCL := Lib.hid (unless_any (B8) 10 u)
      go_simp
      refine (HCL.out).mono ?_
      rintro _ u' ⟨rfl, rfl⟩
      exact hK _ _ (rfl) (Only.refl _ _) hS
    · intro L vs A' u hW hL0 hnd K' hK
      have hS := hW.wi.s
      have r26 : A'.tmps[26]? = some (iv (un (B1 && B2) 10)) := by
        obtain ⟨x, e, h⟩ := hW.tel 6 26 (by decide) (hnd 6 (by kernel_rfl)) rfl
        rw [e]; exact congrArg some h
      have r35 : A'.tmps[35]? = some (iv (un (B3 && B4) 10)) := by
        obtain ⟨x, e, h⟩ := hW.tel 15 35 (by decide) (hnd 15 (by kernel_rfl)) rfl
        rw [e]; exact congrArg some h
      have r44 : A'.tmps[44]? = some (iv (un (B5 && B6) 10)) := by
        obtain ⟨x, e, h⟩ := hW.tel 24 44 (by decide) (hnd 24 (by kernel_rfl)) rfl
        rw [e]; exact congrArg some h
      have r45 : A'.tmps[45]? = some (iv E0) := by
        obtain ⟨x, e, h⟩ := hW.tel 25 45 (by decide) (hnd 25 (by kernel_rfl)) rfl
        rw [e]; exact congrArg some h
      have r50 : A'.tmps[50]? = some (iv (un B7 22)) := by
        obtain ⟨x, e, h⟩ := hW.tel 30 50 (by decide) (hnd 30 (by kernel_rfl)) rfl
        rw [e]; exact congrArg some h
      have r54 : A'.tmps[54]? = some (iv (un B8 10)) := by
        obtain ⟨x, e, h⟩ := hW.tel 34 54 (by decide) (hnd 34 (by kernel_rfl)) rfl
        rw [e]; exact congrArg some h
      go_simp
      exact hK _ _ (show ESrc _ _ [un (B1 && B2) 10, un (B3 && B4) 10, un (B5 && B6) 10, E0, un B7 22, un B8 10] from esrc_new _ _ [un (B1 && B2) 10, un (B3 && B4) 10, un (B5 && B6) 10, E0, un B7 22, un B8 10] (by show 6 ≤ 1000; decide)) ((Only.refl _ _).alloc _) (hS.alloc _)
    · intro L vs A' u hW hL0 hnd K' hK
      have hS := hW.wi.s
      obtain ⟨x55, r55, p55⟩ := hW.tel 35 55 (by decide) (hnd 35 (by kernel_rfl)) rfl
      have HCL := Lib.hid (first_any x55 _ p55)
      go_simp
      refine (HCL.out).mono ?_
      rintro _ u' ⟨rfl, rfl⟩
      exact hK _ _ (congrArg iv HE.out.symm) (Only.refl _ _) hS
    · intro L vs A' u hW hL0 hnd K' hK
      have hS := hW.wi.s
      have r56 : A'.tmps[56]? = some (iv E) := by
        obtain ⟨x, e, h⟩ := hW.tel 36 56 (by decide) (hnd 36 (by kernel_rfl)) rfl
        rw [e]; exact congrArg some h
      go_simp
      exact hK _ _ (by first | rfl | (show _ = _; simp)) (Only.refl _ _) hS
  case doneR =>
    intro L vs u hS hP hall
    have e37 : vs 37 = iv E := hP 37 (by decide)
    clear hP hall fr_R
    simp only [putV, List.foldl_cons, List.foldl_nil, List.setIfInBounds_toArray, List.set_cons_zero, List.set_cons_succ]
    rw [e37]
    clear e37
    generalize vs 0 = y0, vs 1 = y1
    have hPu := HP.out.only hS (fun e => e)
    have hRu := HR.out.only hS (fun e => e)
    have HSU := Lib.hid hS.size
    have HLu := Lib.hid (HL.out.nix hS)
    have HOu := Lib.hid (HO.out.trans hS)
    clear hS q0 q1 q2
    have hM0 : 0 < u.heap.size := World.block_lt_of_cell? u _ (HLu.out.blocks 0 (iv 0) rfl)
    have hM1 : 1 < u.heap.size := World.block_lt_of_cell? u _ (HLu.out.rates 0 (iv 1) rfl)
    have hM2 : 2 < u.heap.size := World.block_lt_of_cell? u _ (HLu.out.depths 0 (iv 1) rfl)
    have hMn : w.heap.size + 2 ≤ u.heap.size := by have := HSU.out; have := HSB.out; omega
    by_cases hE0 : E = 0
    · subst hE0
      have hA : A = ⟨V, c1, c2, mo, c3, num, t1, t2, t3⟩ := by rw [HA.out, if_pos rfl, HH.out]
      subst hA
      go_wp2_with (refine wpList_load_mid rfl 61 (.global 0) rfl 0 0 rfl (tl bT) _ ?rg1 Tryd.under_table rfl Tryd.size_tl_bT ?_)
      case rg1 => exact range_nix HLu.out.blocks ((Only.refl _ _).alloc _)
      have bM := Box.new u 23 #[.bool V, iv 0, iv 0, iv mo, iv 0, iv num, iv 0, iv 0, iv 0]
      have hPm := hPu.alloc (.cells #[.bool V, iv 0, iv 0, iv mo, iv 0, iv num, iv 0, iv 0, iv 0] 23)
      have hRm := hRu.alloc (.cells #[.bool V, iv 0, iv 0, iv mo, iv 0, iv num, iv 0, iv 0, iv 0] 23)
      have HLm := Lib.hid (HLu.out.nix ((Only.refl Nix u).alloc (.cells #[.bool V, iv 0, iv 0, iv mo, iv 0, iv num, iv 0, iv 0, iv 0] 23)))
      have HOm := Lib.hid (HOu.out.alloc (.cells #[.bool V, iv 0, iv 0, iv mo, iv 0, iv num, iv 0, iv 0, iv 0] 23))
      generalize hWm : u.alloc (.cells #[.bool V, iv 0, iv 0, iv mo, iv 0, iv num, iv 0, iv 0, iv 0] 23) = Wm at *
      have BM := Lib.hid bM
      have BP := Lib.hid hPm
      have BR := Lib.hid hRm
      clear hPu hRu bM hPm hRm
      refine (S1.out _).mono ?_
      rintro _ u1 ⟨rfl, ho1⟩
      have b1 := BM.out.only ho1 (fun e => e)
      have p1 := BP.out.only ho1 (fun e => e)
      have r1 := BR.out.only ho1 (fun e => e)
      have HL1 := Lib.hid (HLm.out.nix ho1)
      have HO1 := Lib.hid (HOm.out.trans ho1)
      have x1 : u1.cell? ⟨u.heap.size, 1, none⟩ = some (iv 0) := b1.cell 1
      have x6 : u1.cell? ⟨u.heap.size, 6, none⟩ = some (iv 0) := b1.cell 6
      have y1' := b1.frozen 1
      have y6' := b1.frozen 6
      have z0 : u1.cell? ⟨w.heap.size, 0, none⟩ = some (iv rate) := p1.cell 0
      have hne : ¬ (w.heap.size = u.heap.size) := by omega
      have B1' := Lib.hid b1
      have P1' := Lib.hid p1
      have R1' := Lib.hid r1
      clear b1 p1 r1 ho1
      go_wp2_with (refine wpList_load_mid rfl 61 (.global 1) rfl 1 0 rfl (tl rT) _ ?rg2 Tryd.under_table rfl Tryd.size_tl_rT ?_)
      case rg2 => exact range_set (range_set HL1.out.rates (by show (1 : Nat) ≠ u.heap.size; omega) _) (by show (1 : Nat) ≠ u.heap.size; omega) _
      have b2 := (B1'.out.put 1 (iv c1)).put 6 (iv t1)
      have p2 := (P1'.out.off (p := ⟨u.heap.size, 1, none⟩) hne (iv c1)).off (p := ⟨u.heap.size, 6, none⟩) hne (iv t1)
      have r2 := (R1'.out.off (p := ⟨u.heap.size, 1, none⟩) (by show w.heap.size + 1 ≠ u.heap.size; omega) (iv c1)).off (p := ⟨u.heap.size, 6, none⟩) (by show w.heap.size + 1 ≠ u.heap.size; omega) (iv t1)
      have d2 : ((u1.setCell ⟨u.heap.size, 1, none⟩ (iv c1)).setCell ⟨u.heap.size, 6, none⟩ (iv t1)).rangeAt 2 0 (tl dT) := range_set (range_set HL1.out.depths (by show (2 : Nat) ≠ u.heap.size; omega) _) (by show (2 : Nat) ≠ u.heap.size; omega) _
      have o2 : Only Nix w ((u1.setCell ⟨u.heap.size, 1, none⟩ (iv c1)).setCell ⟨u.heap.size, 6, none⟩ (iv t1)) := (HO1.out.setCell (.inr (by show w.heap.size ≤ u.heap.size; omega)) _).setCell (.inr (by show w.heap.size ≤ u.heap.size; omega)) _
      refine (S2.out _).mono ?_
      generalize (u1.setCell ⟨u.heap.size, 1, none⟩ (iv c1)).setCell ⟨u.heap.size, 6, none⟩ (iv t1) = v1 at *
      clear B1' P1' R1' x1 x6 y1' y6' z0
      rintro _ u2 ⟨rfl, ho2⟩
      have b3 := b2.only ho2 (fun e => e)
      have p3 := p2.only ho2 (fun e => e)
      have r3 := r2.only ho2 (fun e => e)
      have D3 := Lib.hid (range_nix d2 ho2)
      have O3 := Lib.hid (o2.trans ho2)
      have x1 : u2.cell? ⟨u.heap.size, 2, none⟩ = some (iv 0) := b3.cell 2
      have x6 : u2.cell? ⟨u.heap.size, 7, none⟩ = some (iv 0) := b3.cell 7
      have y1' := b3.frozen 2
      have y6' := b3.frozen 7
      have z0 : u2.cell? ⟨w.heap.size, 2, none⟩ = some (iv dep) := p3.cell 2
      have B3' := Lib.hid b3
      have P3' := Lib.hid p3
      have R3' := Lib.hid r3
      clear b2 p2 r2 d2 o2 b3 p3 r3 ho2
      go_wp2_with (refine wpList_load_mid rfl 61 (.global 2) rfl 2 0 rfl (tl dT) _ ?rg3 Tryd.under_table rfl Tryd.size_tl_dT ?_)
      case rg3 => exact range_set (range_set D3.out (by show (2 : Nat) ≠ u.heap.size; omega) _) (by show (2 : Nat) ≠ u.heap.size; omega) _
      have b2 := (B3'.out.put 2 (iv c2)).put 7 (iv t2)
      have r2 := (R3'.out.off (p := ⟨u.heap.size, 2, none⟩) (by show w.heap.size + 1 ≠ u.heap.size; omega) (iv c2)).off (p := ⟨u.heap.size, 7, none⟩) (by show w.heap.size + 1 ≠ u.heap.size; omega) (iv t2)
      have o2 : Only Nix w ((u2.setCell ⟨u.heap.size, 2, none⟩ (iv c2)).setCell ⟨u.heap.size, 7, none⟩ (iv t2)) := (O3.out.setCell (.inr (by show w.heap.size ≤ u.heap.size; omega)) _).setCell (.inr (by show w.heap.size ≤ u.heap.size; omega)) _
      refine (S3.out _).mono ?_
      generalize (u2.setCell ⟨u.heap.size, 2, none⟩ (iv c2)).setCell ⟨u.heap.size, 7, none⟩ (iv t2) = v2 at *
      clear B3' P3' R3' x1 x6 y1' y6' z0
      rintro _ u3 ⟨rfl, ho2⟩
      have b3 := b2.only ho2 (fun e => e)
      have r3 := r2.only ho2 (fun e => e)
      have O4 := Lib.hid (o2.trans ho2)
      have x1 : u3.cell? ⟨u.heap.size, 4, none⟩ = some (iv 0) := b3.cell 4
      have x6 : u3.cell? ⟨u.heap.size, 8, none⟩ = some (iv 0) := b3.cell 8
      have y1' := b3.frozen 4
      have y6' := b3.frozen 8
      have BF := Lib.hid ((b3.put 4 (iv c3)).put 8 (iv t3))
      have RF := Lib.hid ((r3.off (p := ⟨u.heap.size, 4, none⟩) (by show w.heap.size + 1 ≠ u.heap.size; omega) (iv c3)).off (p := ⟨u.heap.size, 8, none⟩) (by show w.heap.size + 1 ≠ u.heap.size; omega) (iv t3))
      have OF := Lib.hid ((O4.out.setCell (p := ⟨u.heap.size, 4, none⟩) (.inr (by show w.heap.size ≤ u.heap.size; omega)) (iv c3)).setCell (p := ⟨u.heap.size, 8, none⟩) (.inr (by show w.heap.size ≤ u.heap.size; omega)) (iv t3))
      clear b2 r2 o2 b3 r3 ho2
      go_wp2_with (first
        | refine wpList_load_row rfl 23 (.tmp 14) rfl u.heap.size rfl 23 (hc ⟨V, c1, c2, mo, c3, num, t1, t2, t3⟩) (0, 0) _ BF.out Tryd.underlying23 rfl Tryd.size_header ?_
        | refine wpList_store_row rfl 23 (.tmp 10) (.tmp 91) rfl rfl (w.heap.size + 1) 23 (hc hd0) (hc ⟨V, c1, c2, mo, c3, num, t1, t2, t3⟩) rfl rfl RF.out Tryd.size_header rfl (hc_one _) ?st2)
      case st2 =>
        intro w2 hb2 ho2
        have OW := Lib.hid (Only.then OF.out ho2 (fun i e => .inr (by cases e; omega)))
        clear ho2
        have HLd := Lib.hid hb2
        clear hb2
        go_wp2
        refine bodyPost_ret (v := .tuple #[hv ⟨V, c1, c2, mo, c3, num, t1, t2, t3⟩, iv 0]) ?_ rfl ?_
        · have hb := HLd.out
          have k0 := hb.cell 0
          have k1 := hb.cell 1
          have k2 := hb.cell 2
          have k3 := hb.cell 3
          have k4 := hb.cell 4
          have k5 := hb.cell 5
          have k6 := hb.cell 6
          have k7 := hb.cell 7
          have k8 := hb.cell 8
          simp only [hc, List.getElem?_toArray, List.getElem?_cons_zero, List.getElem?_cons_succ] at k0 k1 k2 k3 k4 k5 k6 k7 k8
          simp [results, Tryd.f16, go_sem, k0, k1, k2, k3, k4, k5, k6, k7, k8, hv, hc]
        · exact ⟨rfl, OW.out⟩
    · have hA : A = hd0 := by rw [HA.out, if_neg hE0]
      subst hA
      have BR := Lib.hid hRu
      clear hRu
      go_wp2_with (refine wpList_store_row rfl 23 (.tmp 10) (.tmp 59) rfl rfl (w.heap.size + 1) 23 (hc hd0) (hc hd0) rfl rfl BR.out Tryd.size_header rfl (hc_one _) ?st)
      case st =>
      intro w2 hb2 ho2
      have OW := Lib.hid (Only.then HOu.out ho2 (fun i e => .inr (by cases e; omega)))
      clear ho2
      have HLd := Lib.hid hb2
      clear hb2
      go_wp2
      refine bodyPost_ret (v := .tuple #[hv hd0, iv E]) ?_ rfl ?_
      · have hb := HLd.out
        have k0 := hb.cell 0
        have k1 := hb.cell 1
        have k2 := hb.cell 2
        have k3 := hb.cell 3
        have k4 := hb.cell 4
        have k5 := hb.cell 5
        have k6 := hb.cell 6
        have k7 := hb.cell 7
        have k8 := hb.cell 8
        simp only [hc, hd0, List.getElem?_toArray, List.getElem?_cons_zero, List.getElem?_cons_succ] at k0 k1 k2 k3 k4 k5 k6 k7 k8
        simp [results, Tryd.f16, go_sem, k0, k1, k2, k3, k4, k5, k6, k7, k8, hv, hc, hd0]
      · exact ⟨rfl, OW.out⟩
end Go.Proofs.YteahiigfclabfaaDoor.H
