/-
  The least, and the greatest, of pieces.
-/
import Derived.Test.YtpgcaijanmpanaaIB
import Derived.Test.YtpgcaijanmpanaaIR
import Derived.Shelf.Abstract
namespace Go.Proofs.Ytpgcaijanmpanaa
open Go.RowKit Go.Shelf

/-- a closure that compares two pieces by a number -/
def CmpC (k : FuncId) (g : Int × Int → Int) : Prop :=
  ∀ (w : World) (p q : Int × Int), Calls Try.prog k #[pv p, pv q] w fun e w' => e = .returned (iv (cmpV (g p) (g q))) ∧ Only Nix w w'
theorem cmp_block : CmpC 28 (·.1) := fun w p q => byBlock_any w p q
theorem cmp_bytes : CmpC 30 (·.2) := fun w p q => byBytes_any w p q
theorem cmp_less (a b : Int) : decide (cmpV a b < 0) = decide (a < b) := by
  unfold cmpV
  by_cases h : a < b
  · simp [h]
  · by_cases h2 : b < a
    · simp [h, h2]
    · simp [h, h2]
theorem cmp_more (a b : Int) : decide (cmpV a b > 0) = decide (a > b) := by
  unfold cmpV
  by_cases h : a < b
  · simp [h]; omega
  · by_cases h2 : b < a
    · simp [h, h2]
    · simp [h, h2]

def MnRel (w : World) (l : List (Int × Int)) (g : Int × Int → Int) (b0 b1 : Nat) (s6 : Value) (wr : World) : Prop :=
  ∃ (k : Nat) (m : Int × Int), 1 ≤ k ∧ k ≤ l.length ∧ s6 = iv k ∧ m ∈ l ∧ (∀ q ∈ l.take k, g m ≤ g q) ∧ Box wr b0 49 #[iv 0, iv 0] ∧ Box wr b1 49 #[iv m.1, iv m.2] ∧ Only Nix w wr
def MnR (w : World) (l : List (Int × Int)) (g : Int × Int → Int) (e : Ending) (w' : World) : Prop := (∃ m, e = .returned (.agg #[iv m.1, iv m.2]) ∧ m ∈ l ∧ ∀ q ∈ l, g m ≤ g q) ∧ Only Nix w w'
set_option maxRecDepth 100000 in
set_option maxHeartbeats 4000000 in
theorem minF_any {w : World} {k : FuncId} {g : Int × Int → Int} {v : Value} {l : List (Int × Int)} (hE : Enters Try.prog k) (hC : CmpC k g) (hv : PSrc w v l) (h1 : 1 ≤ l.length) :
    Calls Try.prog 31 #[v, .func (.func k) #[] #[]] w fun e w' => MnR w l g e w' := by
  obtain ⟨A, c, rfl⟩ := hv.slice
  have hsm := hv.small
  obtain ⟨ad0, rfl, hx0, hy0⟩ := hv.at_ (k := 0) h1
  have HV := Lib.hid hv
  have HC := Lib.hid hC
  have HM0 : Hid (l[0] ∈ l ∧ ∀ q ∈ l.take 1, g l[0] ≤ g q) := Lib.hid ⟨List.getElem_mem _, fun q hq => by
    have e : l.take 1 = [l[0]] := by cases l with
      | nil => simp at h1
      | cons x r => simp
    rw [e] at hq
    simp at hq
    subst hq
    omega⟩
  generalize l[0] = m0 at *
  have h1i : ¬ ((l.length : Int) < 1) := by omega
  have hO1 := (Only.refl Nix w).alloc (.cells #[iv 0, iv 0] 49)
  have hB0 := Box.new w 49 #[iv 0, iv 0]
  have hx1 := cell_keep hO1 hx0
  have hy1 := cell_keep hO1 hy0
  have e0 : ad0.add (0 * 2) = ad0 := rfl
  rw [e0] at hx1 hy1
  have HV1 := Lib.hid (HV.out.nix hO1)
  obtain ⟨W1, hW1⟩ : ∃ W1, w.alloc (.cells #[iv 0, iv 0] 49) = W1 := ⟨_, rfl⟩
  rw [hW1] at hO1 hB0 hx1 hy1 HV1
  have HO1 := Lib.hid hO1
  have HB0 := Lib.hid hB0
  have hen : ∀ args w, (callFunc k args).run Try.prog w = .ok (.enter k args) w := hE
  have hne : w.heap.size ≠ W1.heap.size := by have := hB0.lt; omega
  have hle : w.heap.size ≤ W1.heap.size := hO1.size
  clear hE hv hC hx0 hy0 HV1 hO1 hB0 e0
  go_enter Try.func31, Try.ntmps31
  go_wp2
  go_loopw [6] (fun s6 wr => MnRel w l g w.heap.size W1.heap.size s6 wr) (fun s6 _ => l.length - (intOf s6).toNat)
  case atStart => exact ⟨1, m0, by omega, h1, rfl, HM0.out.1, HM0.out.2, HB0.out.alloc _, Box.new W1 _ _, HO1.out.alloc _⟩
  case round =>
    obtain ⟨i, m, hi1, hi, rfl, hml, hmin, hb0, hb1, ho⟩ := hrel
    have HB1 := Lib.hid hb1
    have HBr := Lib.hid hb0
    have HMl := Lib.hid hml
    have HMin := Lib.hid hmin
    have HOr := Lib.hid ho
    by_cases hlt : i < l.length
    · obtain ⟨ad, e, hx, hy⟩ := (HV.out.nix ho).at_ hlt
      injection e with e
      subst e
      have hlti : (i : Int) < (l.length : Int) := by omega
      have HT := Lib.hid (List.take_succ_eq_append_getElem hlt)
      have HXm := Lib.hid (List.getElem_mem hlt)
      have HXi := hx
      have HYi := hy
      generalize l[i] = x at *
      have HX := Lib.hid hx
      have HY := Lib.hid hy
      have hcv := cmp_less (g x) (g m)
      clear hx hy hml hmin hb0 hb1 ho hx1 hy1 HXi HYi
      obtain ⟨Bc, hBc⟩ : ∃ Bc, decide (g x < g m) = Bc := ⟨_, rfl⟩
      rw [hBc] at hcv
      have HCv := Lib.hid hBc
      clear hBc
      have hw1k : wrap64 ((i : Int) + 1) = (i : Int) + 1 := w64 _ (by omega) (by omega)
      go_wp2_with fail
      have fr_R : ∀ j s, j < 8 → (([some 20, some 21, some 22, some 23, some 24, some 25, some 26, some 27] : List (Option Nat)).all fun d => d != some s) = true → ([some 20, some 21, some 22, some 23, some 24, some 25, some 26, some 27] : List (Option Nat)).getD j none ≠ some s := by
        intro j s hj ha e
        rw [List.getD_eq_getElem?_getD, List.getElem?_eq_getElem (by exact hj), Option.getD_some] at e
        have := List.all_eq_true.1 ha _ (List.getElem_mem (by exact hj))
        rw [e] at this
        simp at this
      refine region_tel (by kernel_rfl) (fun k0 => ([some 20, some 21, some 22, some 23, some 24, some 25, some 26, some 27] : List (Option Nat)).getD k0 none) (PL [eqP (.func (.func k) #[] #[]), eqP (.slice (some ad0) l.length c), eqP (iv i), eqP (.pointer (some (ad0.add (i * 2)))), eqP (pv x), eqP (pv m), eqP (iv (cmpV (g x) (g m))), eqP (.bool Bc)]) (fun _ _ => True) (fun _ u => Only Nix wr u) 33 8 rfl (by kernel_rfl) (by kernel_rfl) rfl (by kernel_rfl) (by kernel_rfl) (stab_all ⟨fun _ _ _ h _ => h, fun _ _ _ h _ => h, fun _ _ _ h _ => h, fun _ _ _ h _ => h, fun _ _ _ h _ => h, fun _ _ _ h _ => h, fun _ _ _ h _ => h, fun _ _ _ h _ => h, trivial⟩) ((Only.refl _ _).drew) ?stepsR (fun vs => [(20, vs 0), (21, vs 1), (22, vs 2), (23, vs 3), (24, vs 4), (25, vs 5), (26, vs 6), (27, vs 7)]) (fun vs => rfl) ?doneR
      case stepsR =>
        refine ⟨?_, ?_, ?_, ?_, ?_, ?_, ?_, ?_, trivial⟩
        · intro L vs A' u hW hL0 hnd K' hK
          have hS := hW.wi.s
          have r1 : A'.tmps[1]? = some (.func (.func k) #[] #[]) := (hW.out 1 (fun j hj => fr_R j 1 hj (by kernel_rfl))).trans rfl
          go_simp
          exact hK _ _ (by first | rfl | (show _ = _; simp)) trivial (hS)
        · intro L vs A' u hW hL0 hnd K' hK
          have hS := hW.wi.s
          have r0 : A'.tmps[0]? = some (.slice (some ad0) l.length c) := (hW.out 0 (fun j hj => fr_R j 0 hj (by kernel_rfl))).trans rfl
          go_simp
          exact hK _ _ (by first | rfl | (show _ = _; simp)) trivial (hS)
        · intro L vs A' u hW hL0 hnd K' hK
          have hS := hW.wi.s
          have r6 : A'.tmps[6]? = some (iv i) := (hW.out 6 (fun j hj => fr_R j 6 hj (by kernel_rfl))).trans rfl
          go_simp
          exact hK _ _ (by first | rfl | (show _ = _; simp)) trivial (hS)
        · intro L vs A' u hW hL0 hnd K' hK
          have hS := hW.wi.s
          have r21 : A'.tmps[21]? = some (.slice (some ad0) l.length c) := by
            obtain ⟨x, e, h⟩ := hW.tel 1 21 (by decide) (hnd 1 (by kernel_rfl)) rfl
            rw [e]; exact congrArg some h
          have r22 : A'.tmps[22]? = some (iv i) := by
            obtain ⟨x, e, h⟩ := hW.tel 2 22 (by decide) (hnd 2 (by kernel_rfl)) rfl
            rw [e]; exact congrArg some h
          go_simp
          exact hK _ _ (by first | rfl | (show _ = _; simp)) trivial (hS)
        · intro L vs A' u hW hL0 hnd K' hK
          have hS := hW.wi.s
          have r23 : A'.tmps[23]? = some (.pointer (some (ad0.add (i * 2)))) := by
            obtain ⟨x, e, h⟩ := hW.tel 3 23 (by decide) (hnd 3 (by kernel_rfl)) rfl
            rw [e]; exact congrArg some h
          have hc1 := cell_keep hS HX.out
          have hc2 := cell_keep hS HY.out
          go_simp
          exact hK _ _ (by first | rfl | (show _ = _; simp)) trivial (hS)
        · intro L vs A' u hW hL0 hnd K' hK
          have hS := hW.wi.s
          have r5 : A'.tmps[5]? = some (.pointer (some ⟨W1.heap.size, 0, none⟩)) := (hW.out 5 (fun j hj => fr_R j 5 hj (by kernel_rfl))).trans rfl
          have hB := HB1.out.only hS (fun e => e)
          have hc0 := hB.cell 0
          have hc1 := hB.cell 1
          simp only [List.getElem?_toArray, List.getElem?_cons_zero, List.getElem?_cons_succ] at hc0 hc1
          go_simp
          exact hK _ _ (by first | rfl | (show _ = _; simp)) trivial (hS)
        · intro L vs A' u hW hL0 hnd K' hK
          have hS := hW.wi.s
          have r20 : A'.tmps[20]? = some (.func (.func k) #[] #[]) := by
            obtain ⟨x, e, h⟩ := hW.tel 0 20 (by decide) (hnd 0 (by kernel_rfl)) rfl
            rw [e]; exact congrArg some h
          have r24 : A'.tmps[24]? = some (pv x) := by
            obtain ⟨x, e, h⟩ := hW.tel 4 24 (by decide) (hnd 4 (by kernel_rfl)) rfl
            rw [e]; exact congrArg some h
          have r25 : A'.tmps[25]? = some (pv m) := by
            obtain ⟨x, e, h⟩ := hW.tel 5 25 (by decide) (hnd 5 (by kernel_rfl)) rfl
            rw [e]; exact congrArg some h
          have HCL := Lib.hid (HC.out u x m)
          go_simp
          refine (HCL.out).mono ?_
          rintro _ u' ⟨rfl, ho2⟩
          exact hK _ _ rfl trivial (hS.trans ho2)
        · intro L vs A' u hW hL0 hnd K' hK
          have hS := hW.wi.s
          have r26 : A'.tmps[26]? = some (iv (cmpV (g x) (g m))) := by
            obtain ⟨x, e, h⟩ := hW.tel 6 26 (by decide) (hnd 6 (by kernel_rfl)) rfl
            rw [e]; exact congrArg some h
          go_simp
          exact hK _ _ (by first | rfl | exact congrArg _ hcv) trivial hS
      case doneR =>
        intro L vs u9 hS hP hall
        have e0 : vs 0 = .func (.func k) #[] #[] := hP 0 (by decide)
        have e1 : vs 1 = .slice (some ad0) l.length c := hP 1 (by decide)
        have e2 : vs 2 = iv i := hP 2 (by decide)
        have e3 : vs 3 = .pointer (some (ad0.add (i * 2))) := hP 3 (by decide)
        have e4 : vs 4 = pv x := hP 4 (by decide)
        have e5 : vs 5 = pv m := hP 5 (by decide)
        have e6 : vs 6 = iv (cmpV (g x) (g m)) := hP 6 (by decide)
        have e7 : vs 7 = .bool Bc := hP 7 (by decide)
        simp only [putV, List.foldl_cons, List.foldl_nil, List.setIfInBounds_toArray, List.set_cons_zero, List.set_cons_succ, e0, e1, e2, e3, e4, e5, e6, e7]
        have XS := Lib.hid hS
        clear hS e0 e1 e2 e3 e4 e5 e6 e7 hP hall fr_R
        cases Bc with
        | true =>
          have hlx : g x < g m := of_decide_eq_true HCv.out
          have hx2 := cell_keep XS.out HX.out
          have hy2 := cell_keep XS.out HY.out
          have hbb := HB1.out.only XS.out (fun e => e)
          have hc0 := hbb.cell 0
          have hc1 := hbb.cell 1
          have hf0 := hbb.frozen 0
          have hf1 := hbb.frozen 1
          simp only [List.getElem?_toArray, List.getElem?_cons_zero, List.getElem?_cons_succ] at hc0 hc1
          have HBB := Lib.hid hbb
          have HB2 := Lib.hid (HBr.out.only XS.out (fun e => e))
          have XO := Lib.hid (HOr.out.trans XS.out)
          clear hbb
          go_wp2
          go_roundw
          case rel => exact ⟨i + 1, x, by omega, hlt, by go_num, HXm.out, fun q hq => by
            rw [HT.out] at hq
            rcases List.mem_append.1 hq with hq | hq
            · have := HMin.out q hq
              omega
            · simp at hq; subst hq; omega, (HB2.out.off hne _).off hne _, (HBB.out.put 0 _).put 1 _, (XO.out.setCell (.inr hle) _).setCell (.inr hle) _⟩
          case measure => simp [intOf]; omega
        | false =>
          have hlx : ¬ g x < g m := of_decide_eq_false HCv.out
          go_wp2
          go_roundw
          case rel => exact ⟨i + 1, m, by omega, hlt, by go_num, HMl.out, fun q hq => by
            rw [HT.out] at hq
            rcases List.mem_append.1 hq with hq | hq
            · exact HMin.out q hq
            · simp at hq; subst hq; omega, HBr.out.only XS.out (fun e => e), HB1.out.only XS.out (fun e => e), HOr.out.trans XS.out⟩
          case measure => simp [intOf]; omega
    · have hlti : ¬ (i : Int) < (l.length : Int) := by omega
      have hd : decide (i < l.length) = false := by simp; omega
      have hc0 := hb1.cell 0
      have hc1 := hb1.cell 1
      have hr0 := hb0.cell 0
      have hr1 := hb0.cell 1
      have hf0 := hb0.frozen 0
      have hf1 := hb0.frozen 1
      simp only [List.getElem?_toArray, List.getElem?_cons_zero, List.getElem?_cons_succ] at hc0 hc1 hr0 hr1
      have HBp := Lib.hid ((hb0.put 0 (iv m.1)).put 1 (iv m.2))
      have HOf := Lib.hid ((ho.setCell (p := ⟨w.heap.size, 0, none⟩) (.inr (Nat.le_refl _)) (iv m.1)).setCell (p := ⟨w.heap.size, 1, none⟩) (.inr (Nat.le_refl _)) (iv m.2))
      have HFin : Hid (∀ q ∈ l, g m ≤ g q) := Lib.hid (fun q hq => HMin.out q (by rw [List.take_of_length_le (by omega)]; exact hq))
      clear hb0 hb1 hmin hml ho
      go_wp2
      refine bodyPost_ret (v := pv m) ?_ rfl ⟨⟨m, rfl, HMl.out, HFin.out⟩, HOf.out⟩
      exact results_cell_row rfl _ _ w.heap.size 49 #[iv m.1, iv m.2] (0, 0) _ rfl HBp.out Try.underlying49 rfl (by kernel_rfl)

def MxRel (w : World) (l : List (Int × Int)) (g : Int × Int → Int) (b0 b1 : Nat) (s6 : Value) (wr : World) : Prop :=
  ∃ (k : Nat) (m : Int × Int), 1 ≤ k ∧ k ≤ l.length ∧ s6 = iv k ∧ m ∈ l ∧ (∀ q ∈ l.take k, g q ≤ g m) ∧ Box wr b0 49 #[iv 0, iv 0] ∧ Box wr b1 49 #[iv m.1, iv m.2] ∧ Only Nix w wr
def MxR (w : World) (l : List (Int × Int)) (g : Int × Int → Int) (e : Ending) (w' : World) : Prop := (∃ m, e = .returned (.agg #[iv m.1, iv m.2]) ∧ m ∈ l ∧ ∀ q ∈ l, g q ≤ g m) ∧ Only Nix w w'
set_option maxRecDepth 100000 in
set_option maxHeartbeats 4000000 in
theorem maxF_any {w : World} {k : FuncId} {g : Int × Int → Int} {v : Value} {l : List (Int × Int)} (hE : Enters Try.prog k) (hC : CmpC k g) (hv : PSrc w v l) (h1 : 1 ≤ l.length) :
    Calls Try.prog 32 #[v, .func (.func k) #[] #[]] w fun e w' => MxR w l g e w' := by
  obtain ⟨A, c, rfl⟩ := hv.slice
  have hsm := hv.small
  obtain ⟨ad0, rfl, hx0, hy0⟩ := hv.at_ (k := 0) h1
  have HV := Lib.hid hv
  have HC := Lib.hid hC
  have HM0 : Hid (l[0] ∈ l ∧ ∀ q ∈ l.take 1, g q ≤ g l[0]) := Lib.hid ⟨List.getElem_mem _, fun q hq => by
    have e : l.take 1 = [l[0]] := by cases l with
      | nil => simp at h1
      | cons x r => simp
    rw [e] at hq
    simp at hq
    subst hq
    omega⟩
  generalize l[0] = m0 at *
  have h1i : ¬ ((l.length : Int) < 1) := by omega
  have hO1 := (Only.refl Nix w).alloc (.cells #[iv 0, iv 0] 49)
  have hB0 := Box.new w 49 #[iv 0, iv 0]
  have hx1 := cell_keep hO1 hx0
  have hy1 := cell_keep hO1 hy0
  have e0 : ad0.add (0 * 2) = ad0 := rfl
  rw [e0] at hx1 hy1
  have HV1 := Lib.hid (HV.out.nix hO1)
  obtain ⟨W1, hW1⟩ : ∃ W1, w.alloc (.cells #[iv 0, iv 0] 49) = W1 := ⟨_, rfl⟩
  rw [hW1] at hO1 hB0 hx1 hy1 HV1
  have HO1 := Lib.hid hO1
  have HB0 := Lib.hid hB0
  have hen : ∀ args w, (callFunc k args).run Try.prog w = .ok (.enter k args) w := hE
  have hne : w.heap.size ≠ W1.heap.size := by have := hB0.lt; omega
  have hle : w.heap.size ≤ W1.heap.size := hO1.size
  clear hE hv hC hx0 hy0 HV1 hO1 hB0 e0
  go_enter Try.func32, Try.ntmps32
  go_wp2
  go_loopw [6] (fun s6 wr => MxRel w l g w.heap.size W1.heap.size s6 wr) (fun s6 _ => l.length - (intOf s6).toNat)
  case atStart => exact ⟨1, m0, by omega, h1, rfl, HM0.out.1, HM0.out.2, HB0.out.alloc _, Box.new W1 _ _, HO1.out.alloc _⟩
  case round =>
    obtain ⟨i, m, hi1, hi, rfl, hml, hmin, hb0, hb1, ho⟩ := hrel
    have HB1 := Lib.hid hb1
    have HBr := Lib.hid hb0
    have HMl := Lib.hid hml
    have HMin := Lib.hid hmin
    have HOr := Lib.hid ho
    by_cases hlt : i < l.length
    · obtain ⟨ad, e, hx, hy⟩ := (HV.out.nix ho).at_ hlt
      injection e with e
      subst e
      have hlti : (i : Int) < (l.length : Int) := by omega
      have HT := Lib.hid (List.take_succ_eq_append_getElem hlt)
      have HXm := Lib.hid (List.getElem_mem hlt)
      have HXi := hx
      have HYi := hy
      generalize l[i] = x at *
      have HX := Lib.hid hx
      have HY := Lib.hid hy
      have hcv := cmp_more (g x) (g m)
      clear hx hy hml hmin hb0 hb1 ho hx1 hy1 HXi HYi
      obtain ⟨Bc, hBc⟩ : ∃ Bc, decide (g x > g m) = Bc := ⟨_, rfl⟩
      rw [hBc] at hcv
      have HCv := Lib.hid hBc
      clear hBc
      have hw1k : wrap64 ((i : Int) + 1) = (i : Int) + 1 := w64 _ (by omega) (by omega)
      go_wp2_with fail
      have fr_R : ∀ j s, j < 8 → (([some 20, some 21, some 22, some 23, some 24, some 25, some 26, some 27] : List (Option Nat)).all fun d => d != some s) = true → ([some 20, some 21, some 22, some 23, some 24, some 25, some 26, some 27] : List (Option Nat)).getD j none ≠ some s := by
        intro j s hj ha e
        rw [List.getD_eq_getElem?_getD, List.getElem?_eq_getElem (by exact hj), Option.getD_some] at e
        have := List.all_eq_true.1 ha _ (List.getElem_mem (by exact hj))
        rw [e] at this
        simp at this
      refine region_tel (by kernel_rfl) (fun k0 => ([some 20, some 21, some 22, some 23, some 24, some 25, some 26, some 27] : List (Option Nat)).getD k0 none) (PL [eqP (.func (.func k) #[] #[]), eqP (.slice (some ad0) l.length c), eqP (iv i), eqP (.pointer (some (ad0.add (i * 2)))), eqP (pv x), eqP (pv m), eqP (iv (cmpV (g x) (g m))), eqP (.bool Bc)]) (fun _ _ => True) (fun _ u => Only Nix wr u) 33 8 rfl (by kernel_rfl) (by kernel_rfl) rfl (by kernel_rfl) (by kernel_rfl) (stab_all ⟨fun _ _ _ h _ => h, fun _ _ _ h _ => h, fun _ _ _ h _ => h, fun _ _ _ h _ => h, fun _ _ _ h _ => h, fun _ _ _ h _ => h, fun _ _ _ h _ => h, fun _ _ _ h _ => h, trivial⟩) ((Only.refl _ _).drew) ?stepsR (fun vs => [(20, vs 0), (21, vs 1), (22, vs 2), (23, vs 3), (24, vs 4), (25, vs 5), (26, vs 6), (27, vs 7)]) (fun vs => rfl) ?doneR
      case stepsR =>
        refine ⟨?_, ?_, ?_, ?_, ?_, ?_, ?_, ?_, trivial⟩
        · intro L vs A' u hW hL0 hnd K' hK
          have hS := hW.wi.s
          have r1 : A'.tmps[1]? = some (.func (.func k) #[] #[]) := (hW.out 1 (fun j hj => fr_R j 1 hj (by kernel_rfl))).trans rfl
          go_simp
          exact hK _ _ (by first | rfl | (show _ = _; simp)) trivial (hS)
        · intro L vs A' u hW hL0 hnd K' hK
          have hS := hW.wi.s
          have r0 : A'.tmps[0]? = some (.slice (some ad0) l.length c) := (hW.out 0 (fun j hj => fr_R j 0 hj (by kernel_rfl))).trans rfl
          go_simp
          exact hK _ _ (by first | rfl | (show _ = _; simp)) trivial (hS)
        · intro L vs A' u hW hL0 hnd K' hK
          have hS := hW.wi.s
          have r6 : A'.tmps[6]? = some (iv i) := (hW.out 6 (fun j hj => fr_R j 6 hj (by kernel_rfl))).trans rfl
          go_simp
          exact hK _ _ (by first | rfl | (show _ = _; simp)) trivial (hS)
        · intro L vs A' u hW hL0 hnd K' hK
          have hS := hW.wi.s
          have r21 : A'.tmps[21]? = some (.slice (some ad0) l.length c) := by
            obtain ⟨x, e, h⟩ := hW.tel 1 21 (by decide) (hnd 1 (by kernel_rfl)) rfl
            rw [e]; exact congrArg some h
          have r22 : A'.tmps[22]? = some (iv i) := by
            obtain ⟨x, e, h⟩ := hW.tel 2 22 (by decide) (hnd 2 (by kernel_rfl)) rfl
            rw [e]; exact congrArg some h
          go_simp
          exact hK _ _ (by first | rfl | (show _ = _; simp)) trivial (hS)
        · intro L vs A' u hW hL0 hnd K' hK
          have hS := hW.wi.s
          have r23 : A'.tmps[23]? = some (.pointer (some (ad0.add (i * 2)))) := by
            obtain ⟨x, e, h⟩ := hW.tel 3 23 (by decide) (hnd 3 (by kernel_rfl)) rfl
            rw [e]; exact congrArg some h
          have hc1 := cell_keep hS HX.out
          have hc2 := cell_keep hS HY.out
          go_simp
          exact hK _ _ (by first | rfl | (show _ = _; simp)) trivial (hS)
        · intro L vs A' u hW hL0 hnd K' hK
          have hS := hW.wi.s
          have r5 : A'.tmps[5]? = some (.pointer (some ⟨W1.heap.size, 0, none⟩)) := (hW.out 5 (fun j hj => fr_R j 5 hj (by kernel_rfl))).trans rfl
          have hB := HB1.out.only hS (fun e => e)
          have hc0 := hB.cell 0
          have hc1 := hB.cell 1
          simp only [List.getElem?_toArray, List.getElem?_cons_zero, List.getElem?_cons_succ] at hc0 hc1
          go_simp
          exact hK _ _ (by first | rfl | (show _ = _; simp)) trivial (hS)
        · intro L vs A' u hW hL0 hnd K' hK
          have hS := hW.wi.s
          have r20 : A'.tmps[20]? = some (.func (.func k) #[] #[]) := by
            obtain ⟨x, e, h⟩ := hW.tel 0 20 (by decide) (hnd 0 (by kernel_rfl)) rfl
            rw [e]; exact congrArg some h
          have r24 : A'.tmps[24]? = some (pv x) := by
            obtain ⟨x, e, h⟩ := hW.tel 4 24 (by decide) (hnd 4 (by kernel_rfl)) rfl
            rw [e]; exact congrArg some h
          have r25 : A'.tmps[25]? = some (pv m) := by
            obtain ⟨x, e, h⟩ := hW.tel 5 25 (by decide) (hnd 5 (by kernel_rfl)) rfl
            rw [e]; exact congrArg some h
          have HCL := Lib.hid (HC.out u x m)
          go_simp
          refine (HCL.out).mono ?_
          rintro _ u' ⟨rfl, ho2⟩
          exact hK _ _ rfl trivial (hS.trans ho2)
        · intro L vs A' u hW hL0 hnd K' hK
          have hS := hW.wi.s
          have r26 : A'.tmps[26]? = some (iv (cmpV (g x) (g m))) := by
            obtain ⟨x, e, h⟩ := hW.tel 6 26 (by decide) (hnd 6 (by kernel_rfl)) rfl
            rw [e]; exact congrArg some h
          go_simp
          exact hK _ _ (by first | rfl | exact congrArg _ hcv) trivial hS
      case doneR =>
        intro L vs u9 hS hP hall
        have e0 : vs 0 = .func (.func k) #[] #[] := hP 0 (by decide)
        have e1 : vs 1 = .slice (some ad0) l.length c := hP 1 (by decide)
        have e2 : vs 2 = iv i := hP 2 (by decide)
        have e3 : vs 3 = .pointer (some (ad0.add (i * 2))) := hP 3 (by decide)
        have e4 : vs 4 = pv x := hP 4 (by decide)
        have e5 : vs 5 = pv m := hP 5 (by decide)
        have e6 : vs 6 = iv (cmpV (g x) (g m)) := hP 6 (by decide)
        have e7 : vs 7 = .bool Bc := hP 7 (by decide)
        simp only [putV, List.foldl_cons, List.foldl_nil, List.setIfInBounds_toArray, List.set_cons_zero, List.set_cons_succ, e0, e1, e2, e3, e4, e5, e6, e7]
        have XS := Lib.hid hS
        clear hS e0 e1 e2 e3 e4 e5 e6 e7 hP hall fr_R
        cases Bc with
        | true =>
          have hlx : g x > g m := of_decide_eq_true HCv.out
          have hx2 := cell_keep XS.out HX.out
          have hy2 := cell_keep XS.out HY.out
          have hbb := HB1.out.only XS.out (fun e => e)
          have hc0 := hbb.cell 0
          have hc1 := hbb.cell 1
          have hf0 := hbb.frozen 0
          have hf1 := hbb.frozen 1
          simp only [List.getElem?_toArray, List.getElem?_cons_zero, List.getElem?_cons_succ] at hc0 hc1
          have HBB := Lib.hid hbb
          have HB2 := Lib.hid (HBr.out.only XS.out (fun e => e))
          have XO := Lib.hid (HOr.out.trans XS.out)
          clear hbb
          go_wp2
          go_roundw
          case rel => exact ⟨i + 1, x, by omega, hlt, by go_num, HXm.out, fun q hq => by
            rw [HT.out] at hq
            rcases List.mem_append.1 hq with hq | hq
            · have := HMin.out q hq
              omega
            · simp at hq; subst hq; omega, (HB2.out.off hne _).off hne _, (HBB.out.put 0 _).put 1 _, (XO.out.setCell (.inr hle) _).setCell (.inr hle) _⟩
          case measure => simp [intOf]; omega
        | false =>
          have hlx : ¬ g x > g m := of_decide_eq_false HCv.out
          go_wp2
          go_roundw
          case rel => exact ⟨i + 1, m, by omega, hlt, by go_num, HMl.out, fun q hq => by
            rw [HT.out] at hq
            rcases List.mem_append.1 hq with hq | hq
            · exact HMin.out q hq
            · simp at hq; subst hq; omega, HBr.out.only XS.out (fun e => e), HB1.out.only XS.out (fun e => e), HOr.out.trans XS.out⟩
          case measure => simp [intOf]; omega
    · have hlti : ¬ (i : Int) < (l.length : Int) := by omega
      have hd : decide (i < l.length) = false := by simp; omega
      have hc0 := hb1.cell 0
      have hc1 := hb1.cell 1
      have hr0 := hb0.cell 0
      have hr1 := hb0.cell 1
      have hf0 := hb0.frozen 0
      have hf1 := hb0.frozen 1
      simp only [List.getElem?_toArray, List.getElem?_cons_zero, List.getElem?_cons_succ] at hc0 hc1 hr0 hr1
      have HBp := Lib.hid ((hb0.put 0 (iv m.1)).put 1 (iv m.2))
      have HOf := Lib.hid ((ho.setCell (p := ⟨w.heap.size, 0, none⟩) (.inr (Nat.le_refl _)) (iv m.1)).setCell (p := ⟨w.heap.size, 1, none⟩) (.inr (Nat.le_refl _)) (iv m.2))
      have HFin : Hid (∀ q ∈ l, g q ≤ g m) := Lib.hid (fun q hq => HMin.out q (by rw [List.take_of_length_le (by omega)]; exact hq))
      clear hb0 hb1 hmin hml ho
      go_wp2
      refine bodyPost_ret (v := pv m) ?_ rfl ⟨⟨m, rfl, HMl.out, HFin.out⟩, HOf.out⟩
      exact results_cell_row rfl _ _ w.heap.size 49 #[iv m.1, iv m.2] (0, 0) _ rfl HBp.out Try.underlying49 rfl (by kernel_rfl)
end Go.Proofs.Ytpgcaijanmpanaa
