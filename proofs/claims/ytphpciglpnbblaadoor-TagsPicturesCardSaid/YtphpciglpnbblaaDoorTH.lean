/-
  first: the first error of two that are told.
-/
import Derived.Test.YtphpciglpnbblaaDoorTG
import Derived.Laws.EntriesVeiled
namespace Go.Proofs.YtphpciglpnbblaaDoor
open Go.RowKit Go.Shelf

/-- a function of an error that has its first argument -/
abbrev fv (k : Nat) (r : Value) : Value := .func (.func k) #[r] #[]
def FiRel (w : World) (E1 E2 : Int) (s8 : Value) (wr : World) : Prop := ∃ i : Nat, i ≤ 2 ∧ s8 = iv i ∧ (0 < i → E1 = 0) ∧ (1 < i → E2 = 0) ∧ Only Nix w wr
set_option maxHeartbeats 4000000 in
theorem first_any {w : World} {g k1 k2 : Nat} {r1 r2 : Value} {E1 E2 : Int} (h0 : w.cell? ⟨g, 0, none⟩ = some (fv k1 r1)) (h1 : w.cell? ⟨g, 1, none⟩ = some (fv k2 r2))
    (hen1 : ∀ args w, (callFunc k1 args).run Tryd.prog w = .ok (.enter k1 args) w) (hen2 : ∀ args w, (callFunc k2 args).run Tryd.prog w = .ok (.enter k2 args) w)
    (hc1 : ∀ u, Only Nix w u → Calls Tryd.prog k1 #[r1] u fun e w' => e = .returned (iv E1) ∧ Only Nix u w')
    (hc2 : ∀ u, Only Nix w u → Calls Tryd.prog k2 #[r2] u fun e w' => e = .returned (iv E2) ∧ Only Nix u w') :
    Calls Tryd.prog 33 #[.slice (some ⟨g, 0, none⟩) 2 2] w fun e w' => e = .returned (iv (if E1 = 0 then E2 else E1)) ∧ Only Nix w w' := by
  have H0 := Lib.hid h0
  have H1 := Lib.hid h1
  have HC1 := Lib.hid hc1
  have HC2 := Lib.hid hc2
  obtain ⟨E, hE⟩ : ∃ E, (if E1 = 0 then E2 else E1) = E := ⟨_, rfl⟩
  have HE := Lib.hid hE
  rw [hE]
  clear h0 h1 hc1 hc2 hE
  go_enter Tryd.func33, Tryd.ntmps33
  go_wp2
  go_loopw [8] (fun s8 wr => FiRel w E1 E2 s8 wr) (fun s8 _ => 2 - (intOf s8).toNat)
  case atStart => exact ⟨0, by decide, rfl, fun h => by omega, fun h => by omega, Only.refl _ _⟩
  case round =>
    obtain ⟨i, hi, rfl, e1, e2, ho⟩ := hrel
    have HO := Lib.hid ho
    match i, hi with
    | 0, _ =>
      have c0 := cell_keep ho H0.out
      have HCi := Lib.hid (HC1.out wr ho)
      rw [show ((0 : Nat) : Int) = 0 from rfl]
      clear e1 e2 ho
      go_wp2_with fail
      refine (HCi.out).mono ?_
      rintro e w2 ⟨rfl, o2⟩
      have HO2 := Lib.hid (HO.out.trans o2)
      clear o2
      by_cases hz : E1 = 0
      · subst hz
        go_wp2
        go_roundw
        case rel => exact ⟨1, by decide, rfl, fun _ => rfl, fun h => by omega, HO2.out⟩
        case measure => simp [intOf]
      · have HF : Hid (E = E1) := Lib.hid (by rw [← HE.out, if_neg hz])
        go_wp2
        go_ret
        exact ⟨by rw [HF.out]; rfl, HO2.out⟩
    | 1, _ =>
      obtain rfl := e1 (by decide)
      have c1 := cell_keep ho H1.out
      have HCi := Lib.hid (HC2.out wr ho)
      have HF : Hid (E = E2) := Lib.hid (by rw [← HE.out, if_pos rfl])
      rw [show ((1 : Nat) : Int) = 1 from rfl]
      clear e1 e2 ho
      go_wp2_with fail
      refine (HCi.out).mono ?_
      rintro e w2 ⟨rfl, o2⟩
      have HO2 := Lib.hid (HO.out.trans o2)
      clear o2
      by_cases hz : E2 = 0
      · subst hz
        go_wp2
        go_roundw
        case rel => exact ⟨2, by decide, rfl, fun _ => rfl, fun _ => rfl, HO2.out⟩
        case measure => simp [intOf]
      · go_wp2
        go_ret
        exact ⟨by rw [HF.out]; rfl, HO2.out⟩
    | 2, _ =>
      obtain rfl := e1 (by decide)
      obtain rfl := e2 (by decide)
      have HF : Hid (E = 0) := Lib.hid (by rw [← HE.out, if_pos rfl])
      rw [show ((2 : Nat) : Int) = 2 from rfl]
      clear e1 e2
      go_wp2
      go_ret
      exact ⟨by rw [HF.out]; rfl, ho⟩
end Go.Proofs.YtphpciglpnbblaaDoor
