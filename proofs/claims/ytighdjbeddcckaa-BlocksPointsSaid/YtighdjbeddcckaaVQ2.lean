/-
  The document's ordered and WritePoints: their walks.
-/
import Derived.Test.YtighdjbeddcckaaVQ1
namespace Go.Proofs.Ytighdjbeddcckaa
open Go.RowKit Go.Shelf

/-- does the i-th stand wrongly behind the one ahead of it -/
def badT (p q : Pt) : Prop := 0 ≤ p.1 ∧ (p.1 ≤ q.1 ∨ q.1 < 0)
instance (p q : Pt) : Decidable (badT p q) := by unfold badT; infer_instance
def orR (l : List Pt) (n : Nat) : Prop := ∀ i, i < n → 0 < i → ¬ badT (gt l i) (gt l (i - 1))
instance (l : List Pt) (n : Nat) : Decidable (orR l n) := by unfold orR; infer_instance
theorem orR_ordN {l : List Pt} {n : Nat} (hm : mayN l n) : orR l n ↔ ordN l n := by
  constructor
  · intro h i hi h0
    have h1 := h i hi h0
    have m1 := hm i hi
    have m2 := hm (i - 1) (by omega)
    unfold mayT at m1 m2
    unfold badT at h1
    unfold folT isK
    by_cases e : (gt l i).1 = -1
    · exact .inl e
    · exact .inr ⟨fun e2 => h1 ⟨by omega, .inr (by omega)⟩, by
        have : ¬ (gt l i).1 ≤ (gt l (i - 1)).1 := fun h2 => h1 ⟨by omega, .inl h2⟩
        omega⟩
  · intro h i hi h0 hb
    have h1 := h i hi h0
    have m2 := hm (i - 1) (by omega)
    unfold mayT at m2
    unfold badT at hb
    unfold folT isK at h1
    omega
def OdI (w : World) (l : List Pt) (s3 : Value) (wr : World) : Prop := ∃ j : Nat, 1 ≤ j ∧ (j ≤ l.length ∨ j = 1) ∧ s3 = iv j ∧ orR l j ∧ Only Nix w wr
set_option maxRecDepth 100000 in
set_option maxHeartbeats 8000000 in
theorem ordered_any {w : World} {v : Value} {l : List Pt} (hs : TSrc w v l) (hn : l.length ≤ 1000000) : Calls Try.prog 32 #[v] w fun e w' => e = .returned (.bool (decide (orR l l.length))) ∧ Only Nix w w' := by
  obtain ⟨A, c, rfl⟩ := hs.slice
  have HS := Lib.hid hs
  clear hs
  go_enter Try.func32, Try.ntmps32
  go_wp2
  go_loopw [3] (fun s3 wr => OdI w l s3 wr) (fun s3 _ => l.length + 1 - (intOf s3).toNat)
  case atStart => exact ⟨1, Nat.le_refl _, .inr rfl, rfl, (fun i hi h0 => absurd hi (by omega)), Only.refl _ _⟩
  case round =>
    obtain ⟨j, hj1, hj, rfl, hm, ho⟩ := hrel
    have HM := Lib.hid hm
    have HO := Lib.hid ho
    clear hm ho
    by_cases hlt : j < l.length
    · have hlp : j - 1 < l.length := by omega
      obtain ⟨ad, rfl, hx0, _, _⟩ := (HS.out.nix HO.out).at_ hlt
      obtain ⟨ad', e, hy0, _, _⟩ := (HS.out.nix HO.out).at_ hlp
      injection e with e
      subst e
      have hlti : (j : Int) < (l.length : Int) := by omega
      rw [← gt_eq hlt] at hx0
      rw [← gt_eq hlp] at hy0
      have HB : Hid (¬ badT (gt l j) (gt l (j - 1)) → orR l (j + 1)) := Lib.hid (fun h i hi h0 => by
        rcases Nat.lt_succ_iff_lt_or_eq.1 hi with h3 | rfl
        · exact HM.out i h3 h0
        · exact h)
      have HZ : Hid (badT (gt l j) (gt l (j - 1)) → decide (orR l l.length) = false) := Lib.hid (fun h => decide_eq_false (fun hh => hh j hlt (by omega) h))
      unfold badT at HB HZ
      generalize (gt l j).1 = p at *
      generalize (gt l (j - 1)).1 = q at *
      have hjj : (j : Int) - 1 = ((j - 1 : Nat) : Int) := by omega
      have hjl : ((j - 1 : Nat) : Int) < (l.length : Int) := by omega
      obtain ⟨k, hk⟩ : ∃ k, j - 1 = k := ⟨_, rfl⟩
      rw [hk] at hy0 hjj hjl
      clear hk
      by_cases h0 : 0 ≤ p
      · have d0 : decide (0 ≤ p) = true := decide_eq_true h0
        by_cases h1 : p ≤ q
        · have d1 : decide (p ≤ q) = true := decide_eq_true h1
          have HZ2 := Lib.hid (HZ.out ⟨h0, .inl h1⟩)
          clear HB
          go_wp2
          go_quiet (fail)
          go_wp2
          go_ret
          exact ⟨by rw [HZ2.out]; rfl, HO.out.drewN _⟩
        · have d1 : decide (p ≤ q) = false := decide_eq_false h1
          by_cases h2 : q < 0
          · have d2 : decide (q < 0) = true := decide_eq_true h2
            have HZ2 := Lib.hid (HZ.out ⟨h0, .inr h2⟩)
            clear HB
            go_wp2
            go_quiet (fail)
            go_wp2
            go_ret
            exact ⟨by rw [HZ2.out]; rfl, HO.out.drewN _⟩
          · have d2 : decide (q < 0) = false := decide_eq_false h2
            have HB2 := Lib.hid (HB.out (fun h => h.2.elim h1 h2))
            clear HB HZ
            go_wp2
            go_quiet (fail)
            go_wp2
            go_roundw
            case rel => exact ⟨j + 1, by omega, .inl hlt, by go_num, HB2.out, HO.out.drewN _⟩
            case measure => simp [intOf]; omega
      · have d0 : decide (0 ≤ p) = false := decide_eq_false h0
        have HB2 := Lib.hid (HB.out (fun h => h0 h.1))
        clear HB HZ
        go_wp2
        go_quiet (fail)
        go_wp2
        go_roundw
        case rel => exact ⟨j + 1, by omega, .inl hlt, by go_num, HB2.out, HO.out.drewN _⟩
        case measure => simp [intOf]; omega
    · have hlti : ¬ (j : Int) < (l.length : Int) := by omega
      have HZ : Hid (decide (orR l l.length) = true) := Lib.hid (decide_eq_true (fun i hi h0 => HM.out i (by omega) h0))
      go_wp2
      go_ret
      exact ⟨by rw [HZ.out]; rfl, HO.out⟩
end Go.Proofs.Ytighdjbeddcckaa
