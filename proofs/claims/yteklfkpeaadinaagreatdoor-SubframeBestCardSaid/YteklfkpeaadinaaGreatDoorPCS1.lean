/-
  Package subframe: a plan as a value; checkBlock, hasItsOwn, plainMany, prediction.
-/
import Derived.Test.YteklfkpeaadinaaGreatDoorPCG17
namespace Go.Proofs.YteklfkpeaadinaaGreatDoor.S
open Go.RowKit
open K (linV)
/-- a plan as a value -/
abbrev spV (k o wd lp ls : Int) (vc : Value) (m ro : Int) (vp vb : Value) : Value := .agg #[iv k, iv o, iv wd, iv lp, iv ls, vc, iv m, iv ro, vp, vb]
/-- its cells -/
abbrev spC (k o wd lp ls : Int) (vc : Value) (m ro : Int) (vp vb : Value) : Array Value := #[iv k, iv o, iv wd, iv lp, iv ls, vc, iv m, iv ro, vp, vb]
/-- what is wrong with a block -/
def ckBlk (b d : Int) : Int := if d < 4 ∨ 33 < d ∨ b < 1 ∨ 65535 < b then 1 else 0
set_option maxHeartbeats 400000 in
theorem checkBlock_any (w : World) (b d : Int) : Calls Tryz.prog 43 #[iv b, iv d] w fun e w' => e = .returned (iv (ckBlk b d)) ∧ w = w' := by
  by_cases h1 : d < 4
  · rw [show ckBlk b d = 1 from if_pos (by omega)]
    go_enter Tryz.func43, Tryz.ntmps43
    go_wp2
    go_ret
    exact ⟨rfl, rfl⟩
  · by_cases h2 : 33 < d
    · rw [show ckBlk b d = 1 from if_pos (by omega)]
      go_enter Tryz.func43, Tryz.ntmps43
      go_wp2
      go_ret
      exact ⟨rfl, rfl⟩
    · by_cases h3 : b < 1
      · rw [show ckBlk b d = 1 from if_pos (by omega)]
        go_enter Tryz.func43, Tryz.ntmps43
        go_wp2
        go_ret
        exact ⟨rfl, rfl⟩
      · by_cases h4 : 65535 < b
        · rw [show ckBlk b d = 1 from if_pos (by omega)]
          go_enter Tryz.func43, Tryz.ntmps43
          go_wp2
          go_ret
          exact ⟨rfl, rfl⟩
        · rw [show ckBlk b d = 0 from if_neg (by omega)]
          go_enter Tryz.func43, Tryz.ntmps43
          go_wp2
          go_ret
          exact ⟨rfl, rfl⟩
/-- has a plan nothing that its Kind does not have -/
def ownOk (k o lp ls m ro : Int) (nc np nb : Nat) : Prop := if k = 3 then (nc : Int) = o else (lp = 0 ∧ ls = 0 ∧ nc = 0) ∧ (k = 2 ∨ (m = 0 ∧ ro = 0 ∧ np = 0 ∧ nb = 0))
instance (k o lp ls m ro : Int) (nc np nb : Nat) : Decidable (ownOk k o lp ls m ro nc np nb) := by unfold ownOk; exact inferInstance
set_option maxHeartbeats 1000000 in
theorem isNoLinear_any (w : World) (lp ls : Int) (A : Option Addr) (n c : Nat) :
    Calls Tryz.prog 119 #[linV lp ls (.slice A n c)] w fun e w' => e = .returned (.bool (decide (lp = 0 ∧ ls = 0 ∧ n = 0))) ∧ Only Nix w w' := by
  have HA := Lib.hid ((Only.refl Nix w).alloc (.cells #[iv lp, iv ls, .slice A n c] 24))
  go_enter Tryz.func119, Tryz.ntmps119
  by_cases h1 : lp = 0
  · subst h1
    by_cases h2 : ls = 0
    · subst h2
      by_cases h3 : n = 0
      · subst h3
        go_wp2
        go_ret
        exact ⟨rfl, HA.out⟩
      · go_wp2
        go_ret
        exact ⟨by simp [h3], HA.out⟩
    · go_wp2
      go_ret
      exact ⟨by simp, HA.out⟩
  · go_wp2
    go_ret
    exact ⟨by simp [h1], HA.out⟩
set_option maxHeartbeats 1000000 in
theorem isNoRice_any (w : World) (m ro : Int) (A B : Option Addr) (n c n' c' : Nat) :
    Calls Tryz.prog 120 #[planV m ro (.slice A n c) (.slice B n' c')] w fun e w' => e = .returned (.bool (decide (m = 0 ∧ ro = 0 ∧ n = 0 ∧ n' = 0))) ∧ Only Nix w w' := by
  have HA := Lib.hid ((Only.refl Nix w).alloc (.cells #[iv m, iv ro, .slice A n c, .slice B n' c'] 26))
  go_enter Tryz.func120, Tryz.ntmps120
  by_cases h1 : m = 0
  · subst h1
    by_cases h2 : ro = 0
    · subst h2
      by_cases h3 : n = 0
      · subst h3
        by_cases h4 : n' = 0
        · subst h4
          go_wp2
          go_ret
          exact ⟨rfl, HA.out⟩
        · go_wp2
          go_ret
          exact ⟨by simp [h4], HA.out⟩
      · go_wp2
        go_ret
        exact ⟨by simp, HA.out⟩
    · go_wp2
      go_ret
      exact ⟨by simp, HA.out⟩
  · go_wp2
    go_ret
    exact ⟨by simp [h1], HA.out⟩
set_option maxHeartbeats 2000000 in
theorem hasItsOwn_any (w : World) (k o wd lp ls : Int) (Ac : Option Addr) (nc cc : Nat) (m ro : Int) (Ap Ab : Option Addr) (np cp nb cb : Nat) :
    Calls Tryz.prog 94 #[spV k o wd lp ls (.slice Ac nc cc) m ro (.slice Ap np cp) (.slice Ab nb cb)] w fun e w' => e = .returned (.bool (decide (ownOk k o lp ls m ro nc np nb))) ∧ Only Nix w w' := by
  have a0 := (Only.refl Nix w).alloc (.cells (spC k o wd lp ls (.slice Ac nc cc) m ro (.slice Ap np cp) (.slice Ab nb cb)) 28)
  have B0 := Box.new w 28 (spC k o wd lp ls (.slice Ac nc cc) m ro (.slice Ap np cp) (.slice Ab nb cb))
  have HL : ∀ u, Hid (Calls Tryz.prog 119 #[linV lp ls (.slice Ac nc cc)] u fun e w' => e = .returned (.bool (decide (lp = 0 ∧ ls = 0 ∧ nc = 0))) ∧ Only Nix u w') := fun u => Lib.hid (isNoLinear_any u lp ls Ac nc cc)
  have HR : ∀ u, Hid (Calls Tryz.prog 120 #[planV m ro (.slice Ap np cp) (.slice Ab nb cb)] u fun e w' => e = .returned (.bool (decide (m = 0 ∧ ro = 0 ∧ np = 0 ∧ nb = 0))) ∧ Only Nix u w') := fun u => Lib.hid (isNoRice_any u m ro Ap Ab np cp nb cb)
  obtain ⟨q1, hq1⟩ : ∃ q, Hid (decide (lp = 0 ∧ ls = 0 ∧ nc = 0) = q) := ⟨_, Lib.hid rfl⟩
  obtain ⟨q2, hq2⟩ : ∃ q, Hid (decide (m = 0 ∧ ro = 0 ∧ np = 0 ∧ nb = 0) = q) := ⟨_, Lib.hid rfl⟩
  have HV : Hid (decide (ownOk k o lp ls m ro nc np nb) = if k = 3 then decide ((nc : Int) = o) else (q1 && (decide (k = 2) || q2))) := Lib.hid (by
    rw [← hq1.out, ← hq2.out]; unfold ownOk; by_cases h : k = 3
    · simp only [if_pos h]
    · simp only [if_neg h, Bool.decide_and, Bool.decide_or])
  rw [HV.out]
  rw [hq1.out] at HL
  rw [hq2.out] at HR
  obtain ⟨Wa, hWa⟩ : ∃ Wa, w.alloc (.cells (spC k o wd lp ls (.slice Ac nc cc) m ro (.slice Ap np cp) (.slice Ab nb cb)) 28) = Wa := ⟨_, rfl⟩
  rw [hWa] at a0 B0
  have HB : ∀ u, Only Nix Wa u → Hid (Box u w.heap.size 28 (spC k o wd lp ls (.slice Ac nc cc) m ro (.slice Ap np cp) (.slice Ab nb cb))) := fun u h => Lib.hid (B0.only h (fun e => e))
  have d := B0.cell
  have d0 := d 0
  have d1 := d 1
  have d3 := d 3
  have d4 := d 4
  have d5 := d 5
  have d6 := d 6
  have d7 := d 7
  have d8 := d 8
  have d9 := d 9
  simp only [List.getElem?_toArray, List.getElem?_cons_zero, List.getElem?_cons_succ] at d0 d1 d3 d4 d5 d6 d7 d8 d9
  have HA := Lib.hid a0
  clear a0 B0 hq1 hq2 HV d
  go_enter Tryz.func94, Tryz.ntmps94
  by_cases h3 : k = 3
  · subst h3
    rw [if_pos rfl]
    go_wp2
    go_ret
    exact ⟨by congr 1, HA.out⟩
  · rw [if_neg h3]
    have h3b : (k == 3) = false := by simpa using h3
    go_wp2_with fail
    refine ((HL _).out).mono ?_
    rintro e w1 ⟨rfl, o1⟩
    have B1 := (HB _ o1).out
    have d := B1.cell
    have f0 := d 0
    have f6 := d 6
    have f7 := d 7
    have f8 := d 8
    have f9 := d 9
    simp only [List.getElem?_toArray, List.getElem?_cons_zero, List.getElem?_cons_succ] at f0 f6 f7 f8 f9
    have O1 := Lib.hid o1
    clear B1 d o1
    cases q1 with
    | false =>
      go_wp2
      go_ret
      exact ⟨by simp, HA.out.trans O1.out⟩
    | true =>
      by_cases h2 : k = 2
      · subst h2
        go_wp2
        go_ret
        exact ⟨by simp, HA.out.trans O1.out⟩
      · have h2b : (k == 2) = false := by simpa using h2
        go_wp2_with fail
        refine ((HR _).out).mono ?_
        rintro e w2 ⟨rfl, o2⟩
        go_wp2
        go_ret
        exact ⟨by simp [h2], (HA.out.trans O1.out).trans o2⟩
end Go.Proofs.YteklfkpeaadinaaGreatDoor.S
