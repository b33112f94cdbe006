/-
  Seekable, of the statement's own function two.
-/
import Derived.Test.YtighdjbeddcckaaVJ
import Derived.Tactics2
import Derived.OwnWalk
import Derived.WalkMore
import Derived.Defers
import Derived.Recover
namespace Go.Proofs.Ytighdjbeddcckaa
open Go.RowKit Go.Shelf

theorem idle (w : World) : CallsD Try.prog 37 #[] .returning w fun e u' w' => e = .returned (.tuple #[]) ∧ u' = .returning ∧ w' = w := by
  refine callsD_of_wpS Try.func37 rfl fun c₀ cs hu => ?_
  apply wpS_region
  cases c₀
  simp_all [wpOpsS, go_sem, recoverD, Try.ntmps37, bodyPostS, results, Try.results37]
/-- where a sample's frame begins, and whether one does -/
def twO (s : Int) : Int := wrap64 (10 * s)
def twB (s : Int) : Bool := decide (0 ≤ s ∧ s ≤ 20 ∧ s % 2 = 0)
set_option maxHeartbeats 1000000 in
theorem two_any (s : Int) (hs : -9223372036854775808 ≤ s ∧ s ≤ 9223372036854775807) (w : World) : Calls Try.prog 23 #[iv s] w fun e w' => e = .returned (.tuple #[iv (twO s), iv 2, .bool (twB s)]) ∧ w' = w := by
  obtain ⟨h1, h2⟩ := hs
  have hO : wrap64 (10 * s) = twO s := rfl
  by_cases g1 : 0 ≤ s
  · by_cases g2 : s ≤ 20
    · by_cases g3 : s % 2 = 0
      · have g3b : (s % 2 == 0) = true := by simpa using g3
        have hB : twB s = true := decide_eq_true ⟨g1, g2, g3⟩
        rw [hB]
        have hO2 : twO s = 10 * s := by unfold twO; exact w64 _ (by omega) (by omega)
        rw [hO2]
        clear hO hO2 hB
        go_enter Try.func23, Try.ntmps23
        go_wp2
        refine bodyPost_ret (results_tmp3 rfl _ _ _) rfl ⟨rfl, rfl⟩
      · have g3b : (s % 2 == 0) = false := by simpa using g3
        have hB : twB s = false := decide_eq_false (fun h => g3 h.2.2)
        rw [hB]
        have hO2 : twO s = 10 * s := by unfold twO; exact w64 _ (by omega) (by omega)
        rw [hO2]
        clear hO hO2 hB
        go_enter Try.func23, Try.ntmps23
        go_wp2
        refine bodyPost_ret (results_tmp3 rfl _ _ _) rfl ⟨rfl, rfl⟩
    · have hB : twB s = false := decide_eq_false (fun h => g2 h.2.1)
      rw [hB]
      generalize twO s = O at *
      clear hB
      go_enter Try.func23, Try.ntmps23
      go_wp2
      refine bodyPost_ret (results_tmp3 rfl _ _ _) rfl ⟨rfl, rfl⟩
  · have hB : twB s = false := decide_eq_false (fun h => g1 h.1)
    rw [hB]
    generalize twO s = O at *
    clear hB
    go_enter Try.func23, Try.ntmps23
    go_wp2
    refine bodyPost_ret (results_tmp3 rfl _ _ _) rfl ⟨rfl, rfl⟩
/-- is a point's frame told so -/
def rtT (p : Pt) : Prop := twB p.1 = true ∧ twO p.1 = p.2.1 ∧ 2 = p.2.2
instance (p : Pt) : Decidable (rtT p) := by unfold rtT; infer_instance
/-- the closure's value -/
abbrev twV : Value := .func (.func 23) #[] #[]
set_option maxHeartbeats 4000000 in
theorem isRight_any {w : World} {g : Nat} (p : Pt) (hp : F3 p) (hB : Box w g 55 #[twV]) : Calls Try.prog 36 #[p3 p, .pointer (some ⟨g, 0, none⟩)] w fun e w' => e = .returned (.bool (decide (rtT p))) ∧ Only Nix w w' := by
  have hmf : ∀ (fn : Fn) (first cap : Array Value) (w : World), (Instr.makeFunc fn first cap).run Try.prog w = .ok (.func fn first cap) w := fun _ _ _ _ => rfl
  obtain ⟨s, o, c⟩ := p
  obtain ⟨h0, h1, h2⟩ := hp
  simp only at h0 h1 h2
  have HT := Lib.hid (fun u => two_any s h0 u)
  have c0 := hB.cell 0
  simp only [List.getElem?_toArray, List.getElem?_cons_zero] at c0
  have HO := Lib.hid ((Only.refl Nix w).alloc (.cells #[iv s, iv o, iv c] 53))
  have b1 := Box.new w 53 #[iv s, iv o, iv c]
  have c1 := (hB.alloc (.cells #[iv s, iv o, iv c] 53)).cell 0
  simp only [List.getElem?_toArray, List.getElem?_cons_zero] at c1
  obtain ⟨W, hW⟩ : ∃ W, w.alloc (.cells #[iv s, iv o, iv c] 53) = W := ⟨_, rfl⟩
  rw [hW] at HO b1 c1
  have p0 := b1.cell 0
  have p1 := b1.cell 1
  have p2 := b1.cell 2
  simp only [List.getElem?_toArray, List.getElem?_cons_zero, List.getElem?_cons_succ] at p0 p1 p2
  have HTw := Lib.hid (HT.out W)
  have HId := Lib.hid (idle W)
  have HD : Hid (decide (rtT (s, o, c)) = (twB s && (decide (twO s = o) && decide ((2 : Int) = c)))) := Lib.hid (by
    rw [Bool.eq_iff_iff]
    simp [rtT]
    exact decide_eq_true_iff)
  generalize twO s = O at *
  clear hB b1 HT
  cases hB : twB s
  · rw [hB] at HTw HD
    have HD2 : Hid (decide (rtT (s, o, c)) = false) := Lib.hid (by rw [HD.out]; rfl)
    clear HD hB
    go_enter_defers Try.func36, Try.ntmps36
    go_wp2_with fail
    refine (HTw.out).mono ?_
    rintro e w2 ⟨rfl, rfl⟩
    go_wp2
    refine leaves_cons (f := 37) (args := #[]) (by simp) (by simp [go_sem]) ?_
    refine (HId.out).mono ?_
    rintro e u' w3 ⟨rfl, rfl, rfl⟩
    exact ⟨_, results_tmp rfl _ _ _, by rw [HD2.out]; rfl, HO.out⟩
  · rw [hB] at HTw HD
    clear hB
    by_cases g1 : O = o
    · have HD2 : Hid (decide (rtT (s, o, c)) = decide ((2 : Int) = c)) := Lib.hid (by rw [HD.out, decide_eq_true g1]; rfl)
      have g1i : (O == o) = true := by simpa using g1
      clear HD g1
      go_enter_defers Try.func36, Try.ntmps36
      go_wp2_with fail
      refine (HTw.out).mono ?_
      rintro e w2 ⟨rfl, rfl⟩
      go_wp2
      refine leaves_cons (f := 37) (args := #[]) (by simp) (by simp [go_sem]) ?_
      refine (HId.out).mono ?_
      rintro e u' w3 ⟨rfl, rfl, rfl⟩
      exact ⟨_, results_tmp rfl _ _ _, by rw [HD2.out]; rfl, HO.out⟩
    · have HD2 : Hid (decide (rtT (s, o, c)) = false) := Lib.hid (by rw [HD.out, decide_eq_false g1]; rfl)
      have g1i : (O == o) = false := by simpa using g1
      clear HD g1
      go_enter_defers Try.func36, Try.ntmps36
      go_wp2_with fail
      refine (HTw.out).mono ?_
      rintro e w2 ⟨rfl, rfl⟩
      go_wp2
      refine leaves_cons (f := 37) (args := #[]) (by simp) (by simp [go_sem]) ?_
      refine (HId.out).mono ?_
      rintro e u' w3 ⟨rfl, rfl, rfl⟩
      exact ⟨_, results_tmp rfl _ _ _, by rw [HD2.out]; rfl, HO.out⟩
end Go.Proofs.Ytighdjbeddcckaa
