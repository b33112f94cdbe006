/-
  SubframeBack's own: Few, Same.
-/
import Derived.Test.YteklfkpeaadinaaDoorPDSH
import Derived.Test.YteklfkpeaadinaaDoorPDS3
import Derived.Test.YteklfkpeaadinaaDoorPDG09
namespace Go.Proofs.YteklfkpeaadinaaDoor.S
open Go.RowKit Go.Shelf

/-- what Few answers -/
def FewR (w : World) (nc np nb n : Nat) (e : Ending) (w' : World) : Prop := ∃ b : Bool, e = .returned (.bool b) ∧ Only Nix w w' ∧ (b = true → nc ≤ 40 ∧ np ≤ 100 ∧ nb ≤ 100 ∧ n ≤ 100)
set_option maxRecDepth 100000 in
set_option maxHeartbeats 4000000 in
theorem few_any {w : World} (k o wd lp ls : Int) (Ac : Option Addr) (nc cc : Nat) (m ro : Int) (Ap Ab : Option Addr) (np cp nb cb : Nat) (A : Option Addr) (n c : Nat) (xs : List Int) (hx : ISrc w (.slice A n c) xs) :
    Calls Tryd.prog 4 #[spV k o wd lp ls (.slice Ac nc cc) m ro (.slice Ap np cp) (.slice Ab nb cb), .slice A n c] w fun e w' => FewR w nc np nb n e w' := by
  have hl := hx.len
  have a0 := (Only.refl Nix w).alloc (.cells (spC k o wd lp ls (.slice Ac nc cc) m ro (.slice Ap np cp) (.slice Ab nb cb)) 29)
  have B0 := Box.new w 29 (spC k o wd lp ls (.slice Ac nc cc) m ro (.slice Ap np cp) (.slice Ab nb cb))
  obtain ⟨Wa, hWa⟩ : ∃ Wa, w.alloc (.cells (spC k o wd lp ls (.slice Ac nc cc) m ro (.slice Ap np cp) (.slice Ab nb cb)) 29) = Wa := ⟨_, rfl⟩
  rw [hWa] at a0 B0
  have d0 := B0.cell 0
  have d1 := B0.cell 1
  have d2 := B0.cell 2
  have d3 := B0.cell 3
  have d4 := B0.cell 4
  have d5 := B0.cell 5
  have d6 := B0.cell 6
  have d7 := B0.cell 7
  have d8 := B0.cell 8
  have d9 := B0.cell 9
  simp only [List.getElem?_toArray, List.getElem?_cons_zero, List.getElem?_cons_succ] at d0 d1 d2 d3 d4 d5 d6 d7 d8 d9
  have HX := Lib.hid (hx.nix a0)
  have HA := Lib.hid a0
  have Hl := Lib.hid hl
  clear a0 B0 hx hl
  by_cases h1 : 40 < nc
  · have h1i : (40 : Int) < (nc : Int) := by omega
    have HF : Hid (FewR w nc np nb n (.returned (.bool false)) Wa) := Lib.hid ⟨false, rfl, HA.out, by simp⟩
    clear h1
    go_enter Tryd.func4, Tryd.ntmps4
    go_wp2
    go_ret
    exact HF.out
  have h1i : ¬ (40 : Int) < (nc : Int) := by omega
  by_cases h2 : 100 < np
  · have h2i : (100 : Int) < (np : Int) := by omega
    have HF : Hid (FewR w nc np nb n (.returned (.bool false)) Wa) := Lib.hid ⟨false, rfl, HA.out, by simp⟩
    clear h1 h2
    go_enter Tryd.func4, Tryd.ntmps4
    go_wp2
    go_ret
    exact HF.out
  have h2i : ¬ (100 : Int) < (np : Int) := by omega
  by_cases h3 : 100 < nb
  · have h3i : (100 : Int) < (nb : Int) := by omega
    have HF : Hid (FewR w nc np nb n (.returned (.bool false)) Wa) := Lib.hid ⟨false, rfl, HA.out, by simp⟩
    clear h1 h2 h3
    go_enter Tryd.func4, Tryd.ntmps4
    go_wp2
    go_ret
    exact HF.out
  have h3i : ¬ (100 : Int) < (nb : Int) := by omega
  by_cases h4 : 100 < n
  · have h4i : (100 : Int) < (n : Int) := by omega
    have HF : Hid (FewR w nc np nb n (.returned (.bool false)) Wa) := Lib.hid ⟨false, rfl, HA.out, by simp⟩
    clear h1 h2 h3 h4
    go_enter Tryd.func4, Tryd.ntmps4
    go_wp2
    go_ret
    exact HF.out
  have h4i : ¬ (100 : Int) < (n : Int) := by omega
  have HF : Hid (∀ b, FewR w nc np nb n (.returned (.bool b)) Wa) := Lib.hid (fun b => ⟨b, rfl, HA.out, fun _ => ⟨by omega, by omega, by omega, by omega⟩⟩)
  clear h1 h2 h3 h4
  go_enter Tryd.func4, Tryd.ntmps4
  go_wp2
  go_loopw [5] (fun s wr => LoopP Wa n s wr) (fun s _ => n - (intOf s).toNat)
  case atStart => exact ⟨0, Nat.zero_le _, rfl, rfl⟩
  case round =>
    obtain ⟨j, hj, rfl, rfl⟩ := hrel
    by_cases hlt : j < n
    · have hltx : j < xs.length := by rw [← Hl.out]; exact hlt
      obtain ⟨ad, hA, hxj⟩ := HX.out.at_ hltx
      subst hA
      have hlt2 : (j : Int) < (n : Int) := by omega
      generalize xs[j] = x at *
      clear hltx
      by_cases hp : 0 < np
      · have hpi : (0 : Int) < (np : Int) := by omega
        by_cases g1 : 20000 < x
        · go_wp2
          go_ret
          exact HF.out false
        · by_cases g2 : x < -20000
          · go_wp2
            go_ret
            exact HF.out false
          · go_wp2
            go_roundw
            case rel => exact ⟨j + 1, by omega, by go_num, rfl⟩
            case measure => simp [intOf]; omega
      · have hpi : ¬ (0 : Int) < (np : Int) := by omega
        go_wp2
        go_roundw
        case rel => exact ⟨j + 1, by omega, by go_num, rfl⟩
        case measure => simp [intOf]; omega
    · have hlt2 : ¬ (j : Int) < (n : Int) := by omega
      go_wp2
      go_ret
      exact HF.out true
end Go.Proofs.YteklfkpeaadinaaDoor.S
