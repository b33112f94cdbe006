/-
  The document's answer: what is wrong with a plan by itself; are samples of a depth; Plain.
-/
import Derived.Test.YteklfkpeaadinaaGreatDoorPCS8
import Derived.Test.YteklfkpeaadinaaGreatDoorPCS16
import Derived.Test.YteklfkpeaadinaaGreatDoorPCG11
namespace Go.Proofs.YteklfkpeaadinaaGreatDoor.S
open Go.RowKit Go.Shelf
open K (linV notYet)
set_option maxRecDepth 100000 in
set_option maxHeartbeats 4000000 in
theorem shape_0 {w : World} (wd d : Int) (Ac Ap Ab : Option Addr) (cc cp cb : Nat) (hw0 : 0 ≤ wd) (hwd : wd < d) :
    Calls Tryz.prog 47 #[spV 0 0 wd 0 0 (.slice Ac 0 cc) 0 0 (.slice Ap 0 cp) (.slice Ab 0 cb), iv d] w fun e w' => e = .returned (iv 0) ∧ Only Nix w w' := by
  have e1 : ¬ wd < 0 := by omega
  have e2 : ¬ d ≤ wd := by omega
  have a0 := (Only.refl Nix w).alloc (.cells (spC 0 0 wd 0 0 (.slice Ac 0 cc) 0 0 (.slice Ap 0 cp) (.slice Ab 0 cb)) 56)
  have B0 := Box.new w 56 (spC 0 0 wd 0 0 (.slice Ac 0 cc) 0 0 (.slice Ap 0 cp) (.slice Ab 0 cb))
  obtain ⟨Wa, hWa⟩ : ∃ Wa, w.alloc (.cells (spC 0 0 wd 0 0 (.slice Ac 0 cc) 0 0 (.slice Ap 0 cp) (.slice Ab 0 cb)) 56) = Wa := ⟨_, rfl⟩
  rw [hWa] at a0 B0
  have d0 := B0.cell 0
  have d1 := B0.cell 1
  have d2 := B0.cell 2
  have d3 := B0.cell 3
  have d4 := B0.cell 4
  have d5 := B0.cell 5
  have d6 := B0.cell 6
  have d7 := B0.cell 7
  have d8 := B0.cell 8
  have d9 := B0.cell 9
  simp only [List.getElem?_toArray, List.getElem?_cons_zero, List.getElem?_cons_succ] at d0 d1 d2 d3 d4 d5 d6 d7 d8 d9
  have HA := Lib.hid a0
  clear a0 B0
  go_enter Tryz.func47, Tryz.ntmps47
  go_wp2
  go_ret
  exact ⟨rfl, HA.out⟩
def AllQ (w : World) (p : Int → Prop) (xs : List Int) (s : Value) (wr : World) : Prop := ∃ j : Nat, j ≤ xs.length ∧ s = iv j ∧ (∀ x ∈ xs.take j, p x) ∧ Only Nix w wr
set_option maxRecDepth 100000 in
set_option maxHeartbeats 2000000 in
theorem fitsRef_any {w : World} (d : Nat) (hd : 1 ≤ d) (hd2 : d ≤ 33) (A : Option Addr) (n c : Nat) (xs : List Int) (hx : ISrc w (.slice A n c) xs) :
    Calls Tryz.prog 24 #[iv d, .slice A n c] w fun e w' => e = .returned (.bool (decide (fitsD d xs))) ∧ Only Nix w w' := by
  have hl := hx.len
  have hsm := hx.small
  rw [← hl] at hsm
  obtain ⟨q, hq⟩ : ∃ q, d - 1 = q := ⟨_, rfl⟩
  have hqi : (d : Int) - 1 = (q : Int) := by omega
  have hK1 := pow_le_of (show 0 ≤ q by omega)
  have hK2 := pow_le_of (show q ≤ 32 by omega)
  have hpw : (2 : Int) ^ q = ((2 ^ q : Nat) : Int) := pow_cast q
  have HD : Hid (∀ x, (-((2 : Int) ^ (d - 1)) ≤ x ∧ x < (2 : Int) ^ (d - 1)) ↔ -((2 ^ q : Nat) : Int) ≤ x ∧ x < ((2 ^ q : Nat) : Int)) := Lib.hid (fun x => by rw [hq, hpw])
  generalize (2 : Nat) ^ q = H at *
  have hK3 : 1 ≤ H := hK1
  have hK4 : H ≤ 4294967296 := hK2
  have HX := Lib.hid hx
  have Hl := Lib.hid hl
  clear hx hl hK1 hK2 hq
  have hwq : IntKind.i64.wrap (q : Int) = (q : Int) := K.w64k _ (by omega) (by omega)
  have hwK : IntKind.i64.wrap (H : Int) = (H : Int) := K.w64k _ (by omega) (by omega)
  have hwN : IntKind.i64.wrap (-(H : Int)) = -(H : Int) := K.w64k _ (by omega) (by omega)
  go_enter Tryz.func24, Tryz.ntmps24
  go_wp2
  go_loopw [5] (fun s wr => AllQ w (fun x => -(H : Int) ≤ x ∧ x < (H : Int)) xs s wr) (fun s _ => n - (intOf s).toNat)
  case atStart => exact ⟨0, Nat.zero_le _, rfl, by simp, Only.refl _ _⟩
  case round =>
    obtain ⟨j, hj, rfl, hal, hO⟩ := hrel
    rw [← Hl.out] at hj
    have HAl := Lib.hid hal
    have HO := Lib.hid hO
    clear hal hO
    by_cases hlt : j < n
    · have hltx : j < xs.length := by rw [← Hl.out]; exact hlt
      obtain ⟨ad, rfl, hxj⟩ := (HX.out.nix HO.out).at_ hltx
      have hft := HX.out.fits _ (List.getElem_mem hltx)
      have hlt2 : (j : Int) < (n : Int) := by omega
      have HM := Lib.hid (List.getElem_mem hltx)
      have HE := Lib.hid (List.take_succ_eq_append_getElem hltx)
      generalize xs[j] = x at *
      clear hltx
      by_cases k1 : x < -(H : Int)
      · have hE : decide (fitsD d xs) = false := decide_eq_false (fun h => by have := (HD.out x).1 (h x HM.out); omega)
        have HF := Lib.hid hE
        clear hE
        go_wp2_with fail
        go_quiet (fail)
        go_wp2
        go_ret
        exact ⟨by rw [HF.out] <;> rfl, HO.out.drewN _⟩
      · by_cases k2 : (H : Int) ≤ x
        · have hE : decide (fitsD d xs) = false := decide_eq_false (fun h => by have := (HD.out x).1 (h x HM.out); omega)
          have HF := Lib.hid hE
          clear hE
          go_wp2_with fail
          go_quiet (fail)
          go_wp2
          go_ret
          exact ⟨by rw [HF.out] <;> rfl, HO.out.drewN _⟩
        · go_wp2_with fail
          go_quiet (fail)
          go_wp2
          go_roundw
          case rel => exact ⟨j + 1, by rw [← Hl.out]; omega, by go_num, fun y hy => by
                        rw [HE.out] at hy
                        rcases List.mem_append.1 hy with hy | hy
                        · exact HAl.out y hy
                        · simp at hy; subst hy; omega, HO.out.drewN _⟩
          case measure => simp [intOf]; omega
    · have hE : decide (fitsD d xs) = true := decide_eq_true (fun x hx => (HD.out x).2 (HAl.out x (by rw [List.take_of_length_le (by rw [← Hl.out]; omega)]; exact hx)))
      have HF := Lib.hid hE
      clear hE
      go_wp2
      go_ret
      exact ⟨by rw [HF.out] <;> rfl, HO.out⟩
theorem Tryz.size_plan7 : (Tryz.prog.info? 56).map (·.size) = some 10 := by kernel_rfl
/-- a store has been made, or not yet -/
structure StW (i : Nat) (R Q : World → Prop) (L : Nat → Bool) (u : World) : Prop where
  no : L i = false → R u
  yes : L i = true → Q u
theorem StW.same {i j : Nat} {R Q : World → Prop} {L : Nat → Bool} {u : World} (h : StW i R Q L u) (hj : i ≠ j) : StW i R Q (andOne L j) u :=
  ⟨fun e => h.no (by unfold andOne at e; rwa [if_neg hj] at e), fun e => h.yes (by unfold andOne at e; rwa [if_neg hj] at e)⟩
theorem StW.keep {i j : Nat} {R Q : World → Prop} {L : Nat → Bool} {u : World} (hj : i ≠ j) (h : R u) (hL : L i = false) : StW i R Q (andOne L j) u :=
  ⟨fun _ => h, fun e => by unfold andOne at e; rw [if_neg hj, hL] at e; cases e⟩
theorem StW.made {i : Nat} {R Q : World → Prop} {L : Nat → Bool} {u : World} (h : Q u) : StW i R Q (andOne L i) u :=
  ⟨(fun e => by unfold andOne at e; rw [if_pos rfl] at e; cases e), fun _ => h⟩
set_option maxRecDepth 100000 in
set_option maxHeartbeats 4000000 in
theorem plain7_any (w : World) (k o wd lp ls : Int) (Ac : Option Addr) (nc cc : Nat) (m ro : Int) (Ap Ab : Option Addr) (np cp nb cb : Nat) :
    Calls Tryz.prog 22 #[spV k o wd lp ls (.slice Ac nc cc) m ro (.slice Ap np cp) (.slice Ab nb cb)] w fun e w' => e = .returned (spV k o wd lp ls (.slice Ac nc cc) m ro (.slice Ap np cp) (.slice Ab nb cb)) ∧ Only Nix w w' := by
  obtain ⟨Wb, hWb⟩ : ∃ Wb, (w.alloc (.cells (spC k o wd lp ls (.slice Ac nc cc) m ro (.slice Ap np cp) (.slice Ab nb cb)) 28)).alloc (.cells zC 56) = Wb := ⟨_, rfl⟩
  have a0 := ((Only.refl Nix w).alloc (.cells (spC k o wd lp ls (.slice Ac nc cc) m ro (.slice Ap np cp) (.slice Ab nb cb)) 28)).alloc (.cells zC 56)
  have B0 := (Box.new w 28 (spC k o wd lp ls (.slice Ac nc cc) m ro (.slice Ap np cp) (.slice Ab nb cb))).alloc (.cells zC 56)
  have B1 := Box.new (w.alloc (.cells (spC k o wd lp ls (.slice Ac nc cc) m ro (.slice Ap np cp) (.slice Ab nb cb)) 28)) 56 zC
  rw [World.size_alloc] at B1
  rw [hWb] at a0 B0 B1
  have HB0 := Lib.hid B0
  have HB1 := Lib.hid B1
  have HA := Lib.hid a0
  have HW0 : Hid (w.heap.size ≤ w.heap.size + 1) := Lib.hid (Nat.le_succ _)
  clear a0 B0 B1
  go_enter Tryz.func22, Tryz.ntmps22
  go_wp2_with fail
  have noOutP : ∀ j s, j < 14 → (([some 3, some 4, some 5, some 6, some 7, some 8, some 9, some 10, some 11, some 12, some 13, some 14, some 15, none] : List (Option Nat)).all fun d => d != some s) = true → ([some 3, some 4, some 5, some 6, some 7, some 8, some 9, some 10, some 11, some 12, some 13, some 14, some 15, none] : List (Option Nat)).getD j none ≠ some s := by
    intro j s hj ha e
    rw [List.getD_eq_getElem?_getD, List.getElem?_eq_getElem (by exact hj), Option.getD_some] at e
    have := List.all_eq_true.1 ha _ (List.getElem_mem (by exact hj))
    rw [e] at this
    simp at this
  refine region_val (by kernel_rfl) (fun k0 => ([some 3, some 4, some 5, some 6, some 7, some 8, some 9, some 10, some 11, some 12, some 13, some 14, some 15, none] : List (Option Nat)).getD k0 none) (fun k0 => ([(.pointer (some ⟨w.heap.size, 0, none⟩)), (iv k), (.pointer (some ⟨w.heap.size, 1, none⟩)), (iv o), (.pointer (some ⟨w.heap.size, 2, none⟩)), (iv wd), (.pointer (some ⟨w.heap.size, 3, none⟩)), (linV lp ls (.slice Ac nc cc)), (linV lp ls (.slice Ac nc cc)), (.pointer (some ⟨w.heap.size, 6, none⟩)), (planV m ro (.slice Ap np cp) (.slice Ab nb cb)), (planV m ro (.slice Ap np cp) (.slice Ab nb cb)), (spV k o wd lp ls (.slice Ac nc cc) m ro (.slice Ap np cp) (.slice Ab nb cb)), (undef)] : List Value).getD k0 undef) (StW 13 (Only Nix Wb) (fun u => Box u (w.heap.size + 1) 56 (spC k o wd lp ls (.slice Ac nc cc) m ro (.slice Ap np cp) (.slice Ab nb cb)) ∧ Only Nix w u)) 16 14 rfl (by kernel_rfl) (by kernel_rfl) rfl (by kernel_rfl) (by kernel_rfl) ⟨fun _ => (Only.refl _ _).drew, fun e => by cases e⟩ ?stepsP [(3, .pointer (some ⟨w.heap.size, 0, none⟩)), (4, iv k), (5, .pointer (some ⟨w.heap.size, 1, none⟩)), (6, iv o), (7, .pointer (some ⟨w.heap.size, 2, none⟩)), (8, iv wd), (9, .pointer (some ⟨w.heap.size, 3, none⟩)), (10, linV lp ls (.slice Ac nc cc)), (11, linV lp ls (.slice Ac nc cc)), (12, .pointer (some ⟨w.heap.size, 6, none⟩)), (13, planV m ro (.slice Ap np cp) (.slice Ab nb cb)), (14, planV m ro (.slice Ap np cp) (.slice Ab nb cb)), (15, spV k o wd lp ls (.slice Ac nc cc) m ro (.slice Ap np cp) (.slice Ab nb cb))] rfl ?doneP
  case stepsP =>
    refine ⟨?_, ?_, ?_, ?_, ?_, ?_, ?_, ?_, ?_, ?_, ?_, ?_, ?_, ?_, trivial⟩
    · intro L A' u hW hL0 hnd K' hK
      have r1 : A'.tmps[1]? = some (.pointer (some ⟨w.heap.size, 0, none⟩)) := (hW.out 1 (fun j hj => noOutP j 1 hj (by kernel_rfl))).trans rfl
      go_simp
      exact hK _ (hW.wi.same (by decide))
    · intro L A' u hW hL0 hnd K' hK
      have r3 : A'.tmps[3]? = some (.pointer (some ⟨w.heap.size, 0, none⟩)) := hW.val 0 3 (by decide) (hnd 0 (by kernel_rfl)) rfl
      have n13 : L 13 = false := notYet hW.closed (j := 13) (by rfl) (k := 1) (by kernel_rfl) hL0
      have hO := hW.wi.no n13
      have HOu := Lib.hid hO
      have CB := HB0.out.only hO (fun e => e)
      have y0 := CB.cell 0
      have y1 := CB.cell 1
      have y2 := CB.cell 2
      have y3 := CB.cell 3
      have y4 := CB.cell 4
      have y5 := CB.cell 5
      have y6 := CB.cell 6
      have y7 := CB.cell 7
      have y8 := CB.cell 8
      have y9 := CB.cell 9
      simp only [List.getElem?_toArray, List.getElem?_cons_zero, List.getElem?_cons_succ] at y0 y1 y2 y3 y4 y5 y6 y7 y8 y9
      clear CB hO
      go_simp
      exact hK _ (hW.wi.same (by decide))
    · intro L A' u hW hL0 hnd K' hK
      have r1 : A'.tmps[1]? = some (.pointer (some ⟨w.heap.size, 0, none⟩)) := (hW.out 1 (fun j hj => noOutP j 1 hj (by kernel_rfl))).trans rfl
      go_simp
      exact hK _ (hW.wi.same (by decide))
    · intro L A' u hW hL0 hnd K' hK
      have r5 : A'.tmps[5]? = some (.pointer (some ⟨w.heap.size, 1, none⟩)) := hW.val 2 5 (by decide) (hnd 2 (by kernel_rfl)) rfl
      have n13 : L 13 = false := notYet hW.closed (j := 13) (by rfl) (k := 3) (by kernel_rfl) hL0
      have hO := hW.wi.no n13
      have HOu := Lib.hid hO
      have CB := HB0.out.only hO (fun e => e)
      have y0 := CB.cell 0
      have y1 := CB.cell 1
      have y2 := CB.cell 2
      have y3 := CB.cell 3
      have y4 := CB.cell 4
      have y5 := CB.cell 5
      have y6 := CB.cell 6
      have y7 := CB.cell 7
      have y8 := CB.cell 8
      have y9 := CB.cell 9
      simp only [List.getElem?_toArray, List.getElem?_cons_zero, List.getElem?_cons_succ] at y0 y1 y2 y3 y4 y5 y6 y7 y8 y9
      clear CB hO
      go_simp
      exact hK _ (hW.wi.same (by decide))
    · intro L A' u hW hL0 hnd K' hK
      have r1 : A'.tmps[1]? = some (.pointer (some ⟨w.heap.size, 0, none⟩)) := (hW.out 1 (fun j hj => noOutP j 1 hj (by kernel_rfl))).trans rfl
      go_simp
      exact hK _ (hW.wi.same (by decide))
    · intro L A' u hW hL0 hnd K' hK
      have r7 : A'.tmps[7]? = some (.pointer (some ⟨w.heap.size, 2, none⟩)) := hW.val 4 7 (by decide) (hnd 4 (by kernel_rfl)) rfl
      have n13 : L 13 = false := notYet hW.closed (j := 13) (by rfl) (k := 5) (by kernel_rfl) hL0
      have hO := hW.wi.no n13
      have HOu := Lib.hid hO
      have CB := HB0.out.only hO (fun e => e)
      have y0 := CB.cell 0
      have y1 := CB.cell 1
      have y2 := CB.cell 2
      have y3 := CB.cell 3
      have y4 := CB.cell 4
      have y5 := CB.cell 5
      have y6 := CB.cell 6
      have y7 := CB.cell 7
      have y8 := CB.cell 8
      have y9 := CB.cell 9
      simp only [List.getElem?_toArray, List.getElem?_cons_zero, List.getElem?_cons_succ] at y0 y1 y2 y3 y4 y5 y6 y7 y8 y9
      clear CB hO
      go_simp
      exact hK _ (hW.wi.same (by decide))
    · intro L A' u hW hL0 hnd K' hK
      have r1 : A'.tmps[1]? = some (.pointer (some ⟨w.heap.size, 0, none⟩)) := (hW.out 1 (fun j hj => noOutP j 1 hj (by kernel_rfl))).trans rfl
      go_simp
      exact hK _ (hW.wi.same (by decide))
    · intro L A' u hW hL0 hnd K' hK
      have r9 : A'.tmps[9]? = some (.pointer (some ⟨w.heap.size, 3, none⟩)) := hW.val 6 9 (by decide) (hnd 6 (by kernel_rfl)) rfl
      have n13 : L 13 = false := notYet hW.closed (j := 13) (by rfl) (k := 7) (by kernel_rfl) hL0
      have hO := hW.wi.no n13
      have HOu := Lib.hid hO
      have CB := HB0.out.only hO (fun e => e)
      have y0 := CB.cell 0
      have y1 := CB.cell 1
      have y2 := CB.cell 2
      have y3 := CB.cell 3
      have y4 := CB.cell 4
      have y5 := CB.cell 5
      have y6 := CB.cell 6
      have y7 := CB.cell 7
      have y8 := CB.cell 8
      have y9 := CB.cell 9
      simp only [List.getElem?_toArray, List.getElem?_cons_zero, List.getElem?_cons_succ] at y0 y1 y2 y3 y4 y5 y6 y7 y8 y9
      clear CB hO
      go_simp
      exact hK _ (hW.wi.same (by decide))
    · intro L A' u hW hL0 hnd K' hK
      have r10 : A'.tmps[10]? = some (linV lp ls (.slice Ac nc cc)) := hW.val 7 10 (by decide) (hnd 7 (by kernel_rfl)) rfl
      have n13 : L 13 = false := notYet hW.closed (j := 13) (by rfl) (k := 8) (by kernel_rfl) hL0
      have HOu := Lib.hid (hW.wi.no n13)
      have HCL := Lib.hid (K.plain_any (w := u) lp ls Ac nc cc)
      go_simp
      refine (HCL.out).mono ?_
      rintro e' u' ⟨rfl, ho'⟩
      exact hK _ (StW.keep (by decide) (HOu.out.trans ho') n13)
    · intro L A' u hW hL0 hnd K' hK
      have r1 : A'.tmps[1]? = some (.pointer (some ⟨w.heap.size, 0, none⟩)) := (hW.out 1 (fun j hj => noOutP j 1 hj (by kernel_rfl))).trans rfl
      go_simp
      exact hK _ (hW.wi.same (by decide))
    · intro L A' u hW hL0 hnd K' hK
      have r12 : A'.tmps[12]? = some (.pointer (some ⟨w.heap.size, 6, none⟩)) := hW.val 9 12 (by decide) (hnd 9 (by kernel_rfl)) rfl
      have n13 : L 13 = false := notYet hW.closed (j := 13) (by rfl) (k := 10) (by kernel_rfl) hL0
      have hO := hW.wi.no n13
      have HOu := Lib.hid hO
      have CB := HB0.out.only hO (fun e => e)
      have y0 := CB.cell 0
      have y1 := CB.cell 1
      have y2 := CB.cell 2
      have y3 := CB.cell 3
      have y4 := CB.cell 4
      have y5 := CB.cell 5
      have y6 := CB.cell 6
      have y7 := CB.cell 7
      have y8 := CB.cell 8
      have y9 := CB.cell 9
      simp only [List.getElem?_toArray, List.getElem?_cons_zero, List.getElem?_cons_succ] at y0 y1 y2 y3 y4 y5 y6 y7 y8 y9
      clear CB hO
      go_simp
      exact hK _ (hW.wi.same (by decide))
    · intro L A' u hW hL0 hnd K' hK
      have r13 : A'.tmps[13]? = some (planV m ro (.slice Ap np cp) (.slice Ab nb cb)) := hW.val 10 13 (by decide) (hnd 10 (by kernel_rfl)) rfl
      have n13 : L 13 = false := notYet hW.closed (j := 13) (by rfl) (k := 11) (by kernel_rfl) hL0
      have HOu := Lib.hid (hW.wi.no n13)
      have HCL := Lib.hid (plain_any u m ro Ap Ab np cp nb cb)
      go_simp
      refine (HCL.out).mono ?_
      rintro e' u' ⟨rfl, ho'⟩
      exact hK _ (StW.keep (by decide) (HOu.out.trans ho') n13)
    · intro L A' u hW hL0 hnd K' hK
      have r4 : A'.tmps[4]? = some (iv k) := hW.val 1 4 (by decide) (hnd 1 (by kernel_rfl)) rfl
      have r6 : A'.tmps[6]? = some (iv o) := hW.val 3 6 (by decide) (hnd 3 (by kernel_rfl)) rfl
      have r8 : A'.tmps[8]? = some (iv wd) := hW.val 5 8 (by decide) (hnd 5 (by kernel_rfl)) rfl
      have r11 : A'.tmps[11]? = some (linV lp ls (.slice Ac nc cc)) := hW.val 8 11 (by decide) (hnd 8 (by kernel_rfl)) rfl
      have r14 : A'.tmps[14]? = some (planV m ro (.slice Ap np cp) (.slice Ab nb cb)) := hW.val 11 14 (by decide) (hnd 11 (by kernel_rfl)) rfl
      go_simp
      exact hK _ (hW.wi.same (by decide))
    · intro L A' u hW hL0 hnd K' hK
      have r2 : A'.tmps[2]? = some (.pointer (some ⟨w.heap.size + 1, 0, none⟩)) := (hW.out 2 (fun j hj => noOutP j 2 hj (by kernel_rfl))).trans rfl
      have r15 : A'.tmps[15]? = some (spV k o wd lp ls (.slice Ac nc cc) m ro (.slice Ap np cp) (.slice Ab nb cb)) := hW.val 12 15 (by decide) (hnd 12 (by kernel_rfl)) rfl
      have HOu := Lib.hid (hW.wi.no hL0)
      refine step_store_row rfl 56 (.tmp 2) (.tmp 15) rfl rfl (w.heap.size + 1) 56 zC (spC k o wd lp ls (.slice Ac nc cc) m ro (.slice Ap np cp) (.slice Ab nb cb)) (by simp [Act.eval, r2]) (by simp [Act.eval, r15]) (HB1.out.only HOu.out (fun e => e)) Tryz.size_plan7 rfl (spC_one _ _ _ _ _ _ _ _ _ _ _ _ _ _ _ _) ?_
      intro u' hb' ho'
      exact hK _ (StW.made ⟨hb', (HA.out.trans HOu.out).then ho' (fun i e => .inr (by cases e; exact HW0.out))⟩)
  case doneP =>
    intro L u hWI hall
    obtain ⟨hB, ho⟩ := hWI.yes (hall 13 (by decide))
    clear hWI hall noOutP
    have y0 := hB.cell 0
    have y1 := hB.cell 1
    have y2 := hB.cell 2
    have y3 := hB.cell 3
    have y4 := hB.cell 4
    have y5 := hB.cell 5
    have y6 := hB.cell 6
    have y7 := hB.cell 7
    have y8 := hB.cell 8
    have y9 := hB.cell 9
    simp only [List.getElem?_toArray, List.getElem?_cons_zero, List.getElem?_cons_succ] at y0 y1 y2 y3 y4 y5 y6 y7 y8 y9
    clear hB
    simp only [putV, List.foldl_cons, List.foldl_nil, List.setIfInBounds_toArray, List.set_cons_zero, List.set_cons_succ]
    go_wp2
    refine bodyPost_ret (v := spV k o wd lp ls (.slice Ac nc cc) m ro (.slice Ap np cp) (.slice Ab nb cb)) ?_ rfl ⟨rfl, ho⟩
    simp [results, Tryz.f22, go_sem, y0, y1, y2, y3, y4, y5, y6, y7, y8, y9]
end Go.Proofs.YteklfkpeaadinaaGreatDoor.S
