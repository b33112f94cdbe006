/-
  Package subframe: the table of kinds; checkPlan, plainMany, prediction.
-/
import Derived.Test.YteklfkpeaadinaaGreatDoorPCS1
import Derived.Test.YteklfkpeaadinaaGreatDoorPCG18
namespace Go.Proofs.YteklfkpeaadinaaGreatDoor.S
open Go.RowKit
open K (linV)
def kC (k : Nat) : Int := [0, 1, 8, 31].getD k 0
def kL (k : Nat) : Int := [0, 0, 0, 1].getD k 0
def kM (k : Nat) : Int := [0, 0, 4, 32].getD k 0
/-- The table of kinds holds what start-up laid. -/
structure Laid (w : World) : Prop where
  code : ∀ k, k < 4 → w.cell? ⟨0, k * 3, none⟩ = some (iv (kC k))
  least : ∀ k, k < 4 → w.cell? ⟨0, k * 3 + 1, none⟩ = some (iv (kL k))
  most : ∀ k, k < 4 → w.cell? ⟨0, k * 3 + 2, none⟩ = some (iv (kM k))
theorem Laid.nix {w w' : World} (h : Laid w) (ho : Only Nix w w') : Laid w' :=
  ⟨fun k hk => cell_keep ho (h.code k hk), fun k hk => cell_keep ho (h.least k hk), fun k hk => cell_keep ho (h.most k hk)⟩
theorem Laid.only {F : Nat → Prop} {w w' : World} (h : Laid w) (ho : Only F w w') (hF : ¬ F 0) : Laid w' :=
  ⟨fun k hk => cell_only ho (h.code k hk) hF, fun k hk => cell_only ho (h.least k hk) hF, fun k hk => cell_only ho (h.most k hk) hF⟩
/-- what is wrong with a plan, whatever the samples -/
def ckPl (k o wd lp ls m ro : Int) (nc np nb : Nat) (d : Int) : Int :=
  if k < 0 ∨ 4 ≤ k ∨ wd < 0 ∨ d ≤ wd then 10 else if o < kL k.toNat ∨ kM k.toNat < o then 10 else if ownOk k o lp ls m ro nc np nb then 0 else 1
set_option maxHeartbeats 2000000 in
theorem checkPlan_none
    (w : World) (_hL : Laid w) (k o wd lp ls : Int) (Ac : Option Addr) (nc cc : Nat) (m ro : Int) (Ap Ab : Option Addr) (np cp nb cb : Nat) (d : Int) (h : k < 0 ∨ 4 ≤ k ∨ wd < 0 ∨ d ≤ wd) :
    Calls Tryz.prog 64 #[spV k o wd lp ls (.slice Ac nc cc) m ro (.slice Ap np cp) (.slice Ab nb cb), iv d] w fun e w' => e = .returned (iv (ckPl k o wd lp ls m ro nc np nb d)) ∧ Only Nix w w' := by
  rw [show ckPl k o wd lp ls m ro nc np nb d = 10 from if_pos h]
  have a0 := (Only.refl Nix w).alloc (.cells (spC k o wd lp ls (.slice Ac nc cc) m ro (.slice Ap np cp) (.slice Ab nb cb)) 28)
  have B0 := Box.new w 28 (spC k o wd lp ls (.slice Ac nc cc) m ro (.slice Ap np cp) (.slice Ab nb cb))
  obtain ⟨Wa, hWa⟩ : ∃ Wa, w.alloc (.cells (spC k o wd lp ls (.slice Ac nc cc) m ro (.slice Ap np cp) (.slice Ab nb cb)) 28) = Wa := ⟨_, rfl⟩
  rw [hWa] at a0 B0
  have _HH : ∀ n, Hid (Calls Tryz.prog 94 #[spV k o wd lp ls (.slice Ac nc cc) m ro (.slice Ap np cp) (.slice Ab nb cb)] (Wa.drewN n) fun e w' => e = .returned (.bool (decide (ownOk k o lp ls m ro nc np nb))) ∧ Only Nix (Wa.drewN n) w') := fun n => Lib.hid (hasItsOwn_any _ _ _ _ _ _ _ _ _ _ _ _ _ _ _ _ _)
  have d := B0.cell
  have d0 := d 0
  have d1 := d 1
  have d2 := d 2
  have d3 := d 3
  have d4 := d 4
  have d5 := d 5
  have d6 := d 6
  have d7 := d 7
  have d8 := d 8
  have d9 := d 9
  simp only [List.getElem?_toArray, List.getElem?_cons_zero, List.getElem?_cons_succ] at d0 d1 d2 d3 d4 d5 d6 d7 d8 d9
  have HA := Lib.hid a0
  clear a0 B0 d _HH _hL
  by_cases h1 : k < 0
  · go_enter Tryz.func64, Tryz.ntmps64
    go_wp2
    go_ret
    exact ⟨rfl, HA.out⟩
  · by_cases h2 : 4 ≤ k
    · go_enter Tryz.func64, Tryz.ntmps64
      go_wp2
      go_ret
      exact ⟨rfl, HA.out⟩
    · by_cases h3 : wd < 0
      · go_enter Tryz.func64, Tryz.ntmps64
        go_wp2
        go_ret
        exact ⟨rfl, HA.out⟩
      · have h4 : d ≤ wd := by omega
        go_enter Tryz.func64, Tryz.ntmps64
        go_wp2
        go_ret
        exact ⟨rfl, HA.out⟩
set_option maxHeartbeats 4000000 in
theorem checkPlan_0
    (w : World) (hL : Laid w) (o wd lp ls : Int) (Ac : Option Addr) (nc cc : Nat) (m ro : Int) (Ap Ab : Option Addr) (np cp nb cb : Nat) (d : Int) (hw0 : 0 ≤ wd) (hwd : ¬ d ≤ wd) :
    Calls Tryz.prog 64 #[spV 0 o wd lp ls (.slice Ac nc cc) m ro (.slice Ap np cp) (.slice Ab nb cb), iv d] w fun e w' => e = .returned (iv (ckPl 0 o wd lp ls m ro nc np nb d)) ∧ Only Nix w w' := by
  have hE : ckPl 0 o wd lp ls m ro nc np nb d = if o < 0 ∨ 0 < o then 10 else if ownOk 0 o lp ls m ro nc np nb then 0 else 1 := if_neg (by omega)
  rw [hE]
  clear hE
  have hw1 : ¬ wd < 0 := by omega
  have a0 := (Only.refl Nix w).alloc (.cells (spC 0 o wd lp ls (.slice Ac nc cc) m ro (.slice Ap np cp) (.slice Ab nb cb)) 28)
  have B0 := Box.new w 28 (spC 0 o wd lp ls (.slice Ac nc cc) m ro (.slice Ap np cp) (.slice Ab nb cb))
  obtain ⟨Wa, hWa⟩ : ∃ Wa, w.alloc (.cells (spC 0 o wd lp ls (.slice Ac nc cc) m ro (.slice Ap np cp) (.slice Ab nb cb)) 28) = Wa := ⟨_, rfl⟩
  rw [hWa] at a0 B0
  have HH : ∀ n, Hid (Calls Tryz.prog 94 #[spV 0 o wd lp ls (.slice Ac nc cc) m ro (.slice Ap np cp) (.slice Ab nb cb)] (Wa.drewN n) fun e w' => e = .returned (.bool (decide (ownOk 0 o lp ls m ro nc np nb))) ∧ Only Nix (Wa.drewN n) w') := fun n => Lib.hid (hasItsOwn_any _ _ _ _ _ _ _ _ _ _ _ _ _ _ _ _ _)
  have d := B0.cell
  have d0 := d 0
  have d1 := d 1
  have d2 := d 2
  have d3 := d 3
  have d4 := d 4
  have d5 := d 5
  have d6 := d 6
  have d7 := d 7
  have d8 := d 8
  have d9 := d 9
  simp only [List.getElem?_toArray, List.getElem?_cons_zero, List.getElem?_cons_succ] at d0 d1 d2 d3 d4 d5 d6 d7 d8 d9
  have hL2 := hL.nix a0
  have t1 := hL2.least 0 (by decide)
  have t2 := hL2.most 0 (by decide)
  simp only [kL, kM, List.getD_cons_zero, Nat.zero_mul, Nat.zero_add] at t1 t2
  have HA := Lib.hid a0
  clear a0 B0 d hL hL2
  by_cases h1 : o < 0
  · rw [if_pos (.inl h1)]
    go_enter Tryz.func64, Tryz.ntmps64
    go_wp2_with fail
    go_quiet (fail)
    go_wp2
    go_ret
    exact ⟨rfl, HA.out.drewN _⟩
  · by_cases h2 : 0 < o
    · rw [if_pos (.inr h2)]
      go_enter Tryz.func64, Tryz.ntmps64
      go_wp2_with fail
      go_quiet (fail)
      go_wp2
      go_ret
      exact ⟨rfl, HA.out.drewN _⟩
    · rw [if_neg (by omega)]
      obtain ⟨q, hq⟩ : ∃ q, Hid (decide (ownOk 0 o lp ls m ro nc np nb) = q) := ⟨_, Lib.hid rfl⟩
      have hE : (if ownOk 0 o lp ls m ro nc np nb then (0 : Int) else 1) = if q = true then 0 else 1 := by
        rw [← hq.out]
        simp
      rw [hE]
      rw [hq.out] at HH
      clear hE hq
      go_enter Tryz.func64, Tryz.ntmps64
      go_wp2_with fail
      go_quiet (fail)
      go_wp2_with fail
      refine ((HH _).out).mono ?_
      rintro e w1 ⟨rfl, o1⟩
      cases q with
      | true =>
        go_wp2
        go_ret
        exact ⟨rfl, (HA.out.drewN _).trans o1⟩
      | false =>
        go_wp2
        go_ret
        exact ⟨rfl, (HA.out.drewN _).trans o1⟩
set_option maxHeartbeats 4000000 in
theorem checkPlan_1
    (w : World) (hL : Laid w) (o wd lp ls : Int) (Ac : Option Addr) (nc cc : Nat) (m ro : Int) (Ap Ab : Option Addr) (np cp nb cb : Nat) (d : Int) (hw0 : 0 ≤ wd) (hwd : ¬ d ≤ wd) :
    Calls Tryz.prog 64 #[spV 1 o wd lp ls (.slice Ac nc cc) m ro (.slice Ap np cp) (.slice Ab nb cb), iv d] w fun e w' => e = .returned (iv (ckPl 1 o wd lp ls m ro nc np nb d)) ∧ Only Nix w w' := by
  have hE : ckPl 1 o wd lp ls m ro nc np nb d = if o < 0 ∨ 0 < o then 10 else if ownOk 1 o lp ls m ro nc np nb then 0 else 1 := if_neg (by omega)
  rw [hE]
  clear hE
  have hw1 : ¬ wd < 0 := by omega
  have a0 := (Only.refl Nix w).alloc (.cells (spC 1 o wd lp ls (.slice Ac nc cc) m ro (.slice Ap np cp) (.slice Ab nb cb)) 28)
  have B0 := Box.new w 28 (spC 1 o wd lp ls (.slice Ac nc cc) m ro (.slice Ap np cp) (.slice Ab nb cb))
  obtain ⟨Wa, hWa⟩ : ∃ Wa, w.alloc (.cells (spC 1 o wd lp ls (.slice Ac nc cc) m ro (.slice Ap np cp) (.slice Ab nb cb)) 28) = Wa := ⟨_, rfl⟩
  rw [hWa] at a0 B0
  have HH : ∀ n, Hid (Calls Tryz.prog 94 #[spV 1 o wd lp ls (.slice Ac nc cc) m ro (.slice Ap np cp) (.slice Ab nb cb)] (Wa.drewN n) fun e w' => e = .returned (.bool (decide (ownOk 1 o lp ls m ro nc np nb))) ∧ Only Nix (Wa.drewN n) w') := fun n => Lib.hid (hasItsOwn_any _ _ _ _ _ _ _ _ _ _ _ _ _ _ _ _ _)
  have d := B0.cell
  have d0 := d 0
  have d1 := d 1
  have d2 := d 2
  have d3 := d 3
  have d4 := d 4
  have d5 := d 5
  have d6 := d 6
  have d7 := d 7
  have d8 := d 8
  have d9 := d 9
  simp only [List.getElem?_toArray, List.getElem?_cons_zero, List.getElem?_cons_succ] at d0 d1 d2 d3 d4 d5 d6 d7 d8 d9
  have hL2 := hL.nix a0
  have t1 := hL2.least 1 (by decide)
  have t2 := hL2.most 1 (by decide)
  simp only [kL, kM, List.getD_cons_zero, List.getD_cons_succ, Nat.reduceAdd, Nat.one_mul] at t1 t2
  have HA := Lib.hid a0
  clear a0 B0 d hL hL2
  by_cases h1 : o < 0
  · rw [if_pos (.inl h1)]
    go_enter Tryz.func64, Tryz.ntmps64
    go_wp2_with fail
    go_quiet (fail)
    go_wp2
    go_ret
    exact ⟨rfl, HA.out.drewN _⟩
  · by_cases h2 : 0 < o
    · rw [if_pos (.inr h2)]
      go_enter Tryz.func64, Tryz.ntmps64
      go_wp2_with fail
      go_quiet (fail)
      go_wp2
      go_ret
      exact ⟨rfl, HA.out.drewN _⟩
    · rw [if_neg (by omega)]
      obtain ⟨q, hq⟩ : ∃ q, Hid (decide (ownOk 1 o lp ls m ro nc np nb) = q) := ⟨_, Lib.hid rfl⟩
      have hE : (if ownOk 1 o lp ls m ro nc np nb then (0 : Int) else 1) = if q = true then 0 else 1 := by
        rw [← hq.out]
        simp
      rw [hE]
      rw [hq.out] at HH
      clear hE hq
      go_enter Tryz.func64, Tryz.ntmps64
      go_wp2_with fail
      go_quiet (fail)
      go_wp2_with fail
      refine ((HH _).out).mono ?_
      rintro e w1 ⟨rfl, o1⟩
      cases q with
      | true =>
        go_wp2
        go_ret
        exact ⟨rfl, (HA.out.drewN _).trans o1⟩
      | false =>
        go_wp2
        go_ret
        exact ⟨rfl, (HA.out.drewN _).trans o1⟩
set_option maxHeartbeats 4000000 in
theorem checkPlan_2
    (w : World) (hL : Laid w) (o wd lp ls : Int) (Ac : Option Addr) (nc cc : Nat) (m ro : Int) (Ap Ab : Option Addr) (np cp nb cb : Nat) (d : Int) (hw0 : 0 ≤ wd) (hwd : ¬ d ≤ wd) :
    Calls Tryz.prog 64 #[spV 2 o wd lp ls (.slice Ac nc cc) m ro (.slice Ap np cp) (.slice Ab nb cb), iv d] w fun e w' => e = .returned (iv (ckPl 2 o wd lp ls m ro nc np nb d)) ∧ Only Nix w w' := by
  have hE : ckPl 2 o wd lp ls m ro nc np nb d = if o < 0 ∨ 4 < o then 10 else if ownOk 2 o lp ls m ro nc np nb then 0 else 1 := if_neg (by omega)
  rw [hE]
  clear hE
  have hw1 : ¬ wd < 0 := by omega
  have a0 := (Only.refl Nix w).alloc (.cells (spC 2 o wd lp ls (.slice Ac nc cc) m ro (.slice Ap np cp) (.slice Ab nb cb)) 28)
  have B0 := Box.new w 28 (spC 2 o wd lp ls (.slice Ac nc cc) m ro (.slice Ap np cp) (.slice Ab nb cb))
  obtain ⟨Wa, hWa⟩ : ∃ Wa, w.alloc (.cells (spC 2 o wd lp ls (.slice Ac nc cc) m ro (.slice Ap np cp) (.slice Ab nb cb)) 28) = Wa := ⟨_, rfl⟩
  rw [hWa] at a0 B0
  have HH : ∀ n, Hid (Calls Tryz.prog 94 #[spV 2 o wd lp ls (.slice Ac nc cc) m ro (.slice Ap np cp) (.slice Ab nb cb)] (Wa.drewN n) fun e w' => e = .returned (.bool (decide (ownOk 2 o lp ls m ro nc np nb))) ∧ Only Nix (Wa.drewN n) w') := fun n => Lib.hid (hasItsOwn_any _ _ _ _ _ _ _ _ _ _ _ _ _ _ _ _ _)
  have d := B0.cell
  have d0 := d 0
  have d1 := d 1
  have d2 := d 2
  have d3 := d 3
  have d4 := d 4
  have d5 := d 5
  have d6 := d 6
  have d7 := d 7
  have d8 := d 8
  have d9 := d 9
  simp only [List.getElem?_toArray, List.getElem?_cons_zero, List.getElem?_cons_succ] at d0 d1 d2 d3 d4 d5 d6 d7 d8 d9
  have hL2 := hL.nix a0
  have t1 := hL2.least 2 (by decide)
  have t2 := hL2.most 2 (by decide)
  simp only [kL, kM, List.getD_cons_zero, List.getD_cons_succ, Nat.reduceMul, Nat.reduceAdd] at t1 t2
  have HA := Lib.hid a0
  clear a0 B0 d hL hL2
  by_cases h1 : o < 0
  · rw [if_pos (.inl h1)]
    go_enter Tryz.func64, Tryz.ntmps64
    go_wp2_with fail
    go_quiet (fail)
    go_wp2
    go_ret
    exact ⟨rfl, HA.out.drewN _⟩
  · by_cases h2 : 4 < o
    · rw [if_pos (.inr h2)]
      go_enter Tryz.func64, Tryz.ntmps64
      go_wp2_with fail
      go_quiet (fail)
      go_wp2
      go_ret
      exact ⟨rfl, HA.out.drewN _⟩
    · rw [if_neg (by omega)]
      obtain ⟨q, hq⟩ : ∃ q, Hid (decide (ownOk 2 o lp ls m ro nc np nb) = q) := ⟨_, Lib.hid rfl⟩
      have hE : (if ownOk 2 o lp ls m ro nc np nb then (0 : Int) else 1) = if q = true then 0 else 1 := by
        rw [← hq.out]
        simp
      rw [hE]
      rw [hq.out] at HH
      clear hE hq
      go_enter Tryz.func64, Tryz.ntmps64
      go_wp2_with fail
      go_quiet (fail)
      go_wp2_with fail
      refine ((HH _).out).mono ?_
      rintro e w1 ⟨rfl, o1⟩
      cases q with
      | true =>
        go_wp2
        go_ret
        exact ⟨rfl, (HA.out.drewN _).trans o1⟩
      | false =>
        go_wp2
        go_ret
        exact ⟨rfl, (HA.out.drewN _).trans o1⟩
set_option maxHeartbeats 4000000 in
theorem checkPlan_3
    (w : World) (hL : Laid w) (o wd lp ls : Int) (Ac : Option Addr) (nc cc : Nat) (m ro : Int) (Ap Ab : Option Addr) (np cp nb cb : Nat) (d : Int) (hw0 : 0 ≤ wd) (hwd : ¬ d ≤ wd) :
    Calls Tryz.prog 64 #[spV 3 o wd lp ls (.slice Ac nc cc) m ro (.slice Ap np cp) (.slice Ab nb cb), iv d] w fun e w' => e = .returned (iv (ckPl 3 o wd lp ls m ro nc np nb d)) ∧ Only Nix w w' := by
  have hE : ckPl 3 o wd lp ls m ro nc np nb d = if o < 1 ∨ 32 < o then 10 else if ownOk 3 o lp ls m ro nc np nb then 0 else 1 := if_neg (by omega)
  rw [hE]
  clear hE
  have hw1 : ¬ wd < 0 := by omega
  have a0 := (Only.refl Nix w).alloc (.cells (spC 3 o wd lp ls (.slice Ac nc cc) m ro (.slice Ap np cp) (.slice Ab nb cb)) 28)
  have B0 := Box.new w 28 (spC 3 o wd lp ls (.slice Ac nc cc) m ro (.slice Ap np cp) (.slice Ab nb cb))
  obtain ⟨Wa, hWa⟩ : ∃ Wa, w.alloc (.cells (spC 3 o wd lp ls (.slice Ac nc cc) m ro (.slice Ap np cp) (.slice Ab nb cb)) 28) = Wa := ⟨_, rfl⟩
  rw [hWa] at a0 B0
  have HH : ∀ n, Hid (Calls Tryz.prog 94 #[spV 3 o wd lp ls (.slice Ac nc cc) m ro (.slice Ap np cp) (.slice Ab nb cb)] (Wa.drewN n) fun e w' => e = .returned (.bool (decide (ownOk 3 o lp ls m ro nc np nb))) ∧ Only Nix (Wa.drewN n) w') := fun n => Lib.hid (hasItsOwn_any _ _ _ _ _ _ _ _ _ _ _ _ _ _ _ _ _)
  have d := B0.cell
  have d0 := d 0
  have d1 := d 1
  have d2 := d 2
  have d3 := d 3
  have d4 := d 4
  have d5 := d 5
  have d6 := d 6
  have d7 := d 7
  have d8 := d 8
  have d9 := d 9
  simp only [List.getElem?_toArray, List.getElem?_cons_zero, List.getElem?_cons_succ] at d0 d1 d2 d3 d4 d5 d6 d7 d8 d9
  have hL2 := hL.nix a0
  have t1 := hL2.least 3 (by decide)
  have t2 := hL2.most 3 (by decide)
  simp only [kL, kM, List.getD_cons_zero, List.getD_cons_succ, Nat.reduceMul, Nat.reduceAdd] at t1 t2
  have HA := Lib.hid a0
  clear a0 B0 d hL hL2
  by_cases h1 : o < 1
  · rw [if_pos (.inl h1)]
    go_enter Tryz.func64, Tryz.ntmps64
    go_wp2_with fail
    go_quiet (fail)
    go_wp2
    go_ret
    exact ⟨rfl, HA.out.drewN _⟩
  · by_cases h2 : 32 < o
    · rw [if_pos (.inr h2)]
      go_enter Tryz.func64, Tryz.ntmps64
      go_wp2_with fail
      go_quiet (fail)
      go_wp2
      go_ret
      exact ⟨rfl, HA.out.drewN _⟩
    · rw [if_neg (by omega)]
      obtain ⟨q, hq⟩ : ∃ q, Hid (decide (ownOk 3 o lp ls m ro nc np nb) = q) := ⟨_, Lib.hid rfl⟩
      have hE : (if ownOk 3 o lp ls m ro nc np nb then (0 : Int) else 1) = if q = true then 0 else 1 := by
        rw [← hq.out]
        simp
      rw [hE]
      rw [hq.out] at HH
      clear hE hq
      go_enter Tryz.func64, Tryz.ntmps64
      go_wp2_with fail
      go_quiet (fail)
      go_wp2_with fail
      refine ((HH _).out).mono ?_
      rintro e w1 ⟨rfl, o1⟩
      cases q with
      | true =>
        go_wp2
        go_ret
        exact ⟨rfl, (HA.out.drewN _).trans o1⟩
      | false =>
        go_wp2
        go_ret
        exact ⟨rfl, (HA.out.drewN _).trans o1⟩
theorem checkPlan_any
    (w : World) (hL : Laid w) (k o wd lp ls : Int) (Ac : Option Addr) (nc cc : Nat) (m ro : Int) (Ap Ab : Option Addr) (np cp nb cb : Nat) (d : Int) :
    Calls Tryz.prog 64 #[spV k o wd lp ls (.slice Ac nc cc) m ro (.slice Ap np cp) (.slice Ab nb cb), iv d] w fun e w' => e = .returned (iv (ckPl k o wd lp ls m ro nc np nb d)) ∧ Only Nix w w' := by
  by_cases h : k < 0 ∨ 4 ≤ k ∨ wd < 0 ∨ d ≤ wd
  · exact checkPlan_none w hL k o wd lp ls Ac nc cc m ro Ap Ab np cp nb cb d h
  · obtain rfl | rfl | rfl | rfl : k = 0 ∨ k = 1 ∨ k = 2 ∨ k = 3 := by omega
    · exact checkPlan_0 w hL o wd lp ls Ac nc cc m ro Ap Ab np cp nb cb d (by omega) (by omega)
    · exact checkPlan_1 w hL o wd lp ls Ac nc cc m ro Ap Ab np cp nb cb d (by omega) (by omega)
    · exact checkPlan_2 w hL o wd lp ls Ac nc cc m ro Ap Ab np cp nb cb d (by omega) (by omega)
    · exact checkPlan_3 w hL o wd lp ls Ac nc cc m ro Ap Ab np cp nb cb d (by omega) (by omega)
/-- how many samples of a block are written as they are -/
def plM (k o b : Int) : Int := if k = 0 then 1 else if k = 1 then b else o
set_option maxHeartbeats 1000000 in
theorem plainMany_any (w : World) (k o wd lp ls : Int) (vc : Value) (m ro : Int) (vp vb : Value) (b : Int) :
    Calls Tryz.prog 67 #[spV k o wd lp ls vc m ro vp vb, iv b] w fun e w' => e = .returned (iv (plM k o b)) ∧ Only Nix w w' := by
  have a0 := (Only.refl Nix w).alloc (.cells (spC k o wd lp ls vc m ro vp vb) 28)
  have B0 := Box.new w 28 (spC k o wd lp ls vc m ro vp vb)
  obtain ⟨Wa, hWa⟩ : ∃ Wa, w.alloc (.cells (spC k o wd lp ls vc m ro vp vb) 28) = Wa := ⟨_, rfl⟩
  rw [hWa] at a0 B0
  have d0 := B0.cell 0
  have d1 := B0.cell 1
  simp only [List.getElem?_toArray, List.getElem?_cons_zero, List.getElem?_cons_succ] at d0 d1
  have HA := Lib.hid a0
  clear a0 B0
  unfold plM
  by_cases h0 : k = 0
  · subst h0
    rw [if_pos rfl]
    go_enter Tryz.func67, Tryz.ntmps67
    go_wp2
    go_ret
    exact ⟨rfl, HA.out⟩
  · rw [if_neg h0]
    have h0b : (k == 0) = false := by simpa using h0
    by_cases h1 : k = 1
    · subst h1
      rw [if_pos rfl]
      go_enter Tryz.func67, Tryz.ntmps67
      go_wp2
      go_ret
      exact ⟨rfl, HA.out⟩
    · rw [if_neg h1]
      have h1b : (k == 1) = false := by simpa using h1
      go_enter Tryz.func67, Tryz.ntmps67
      go_wp2
      go_ret
      exact ⟨rfl, HA.out⟩
end Go.Proofs.YteklfkpeaadinaaGreatDoor.S
