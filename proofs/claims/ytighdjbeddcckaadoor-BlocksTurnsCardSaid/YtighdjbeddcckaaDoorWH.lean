/-
  Few and Same; BlocksBack: their walks.
-/
import Derived.Test.YtighdjbeddcckaaDoorVJ
import Derived.Test.YtighdjbeddcckaaDoorWG
import Derived.OwnWalk
namespace Go.Proofs.YtighdjbeddcckaaDoor
open Go.RowKit Go.Shelf

def fewN (l : List Bk) (n : Nat) : Prop := ∀ i, i < n → (gb l i).2.length ≤ 500
instance (l : List Bk) (n : Nat) : Decidable (fewN l n) := by unfold fewN; infer_instance
def fewB (l : List Bk) : Prop := fewN l l.length ∧ l.length ≤ 12
instance (l : List Bk) : Decidable (fewB l) := by unfold fewB; infer_instance
def FwI (w : World) (l : List Bk) (s3 : Value) (wr : World) : Prop := ∃ j : Nat, j ≤ l.length ∧ s3 = iv j ∧ fewN l j ∧ Only Nix w wr
set_option maxHeartbeats 4000000 in
theorem few_any {w : World} {v : Value} {l : List Bk} (hs : BSrc w v l) : Calls Tryd.prog 5 #[v] w fun e w' => e = .returned (.bool (decide (fewB l))) ∧ Only Nix w w' := by
  obtain ⟨A, c, rfl⟩ := hs.slice
  have hsm := hs.small
  have HS := Lib.hid hs
  clear hs
  go_enter Tryd.func5, Tryd.ntmps5
  go_wp2
  go_loopw [3] (fun s3 wr => FwI w l s3 wr) (fun s3 _ => l.length - (intOf s3).toNat)
  case atStart => exact ⟨0, Nat.zero_le _, rfl, (fun i hi => absurd hi (by omega)), Only.refl _ _⟩
  case round =>
    obtain ⟨j, hj, rfl, hm, ho⟩ := hrel
    have HM := Lib.hid hm
    have HO := Lib.hid ho
    clear hm ho
    by_cases hlt : j < l.length
    · obtain ⟨ad, B, d, rfl, hx0, hx1, hd, hcs⟩ := (HS.out.nix HO.out).at_ hlt
      have hlti : (j : Int) < (l.length : Int) := by omega
      have hg := gb_eq hlt
      rw [← hg] at hx1
      have HN1 : Hid ((gb l j).2.length ≤ 500 → fewN l (j + 1)) := Lib.hid (fun h i hi => by
        rcases Nat.lt_succ_iff_lt_or_eq.1 hi with h3 | rfl
        · exact HM.out i h3
        · exact h)
      have HZ : Hid (500 < (gb l j).2.length → decide (fewB l) = false) := Lib.hid (fun h => decide_eq_false (fun hh => by have := hh.1 j hlt; omega))
      generalize (gb l j).2.length = D at *
      clear hg hcs hd
      by_cases h5 : 500 < D
      · have h5i : (500 : Int) < (D : Int) := by omega
        have HZ2 := Lib.hid (HZ.out h5)
        go_wp2
        go_ret
        exact ⟨by rw [HZ2.out]; rfl, HO.out⟩
      · have h5i : ¬ (500 : Int) < (D : Int) := by omega
        have HN2 := Lib.hid (HN1.out (by omega))
        go_wp2
        go_roundw
        case rel => exact ⟨j + 1, hlt, by go_num, HN2.out, HO.out⟩
        case measure => simp [intOf]; omega
    · obtain rfl : j = l.length := by omega
      have hlti : ¬ ((l.length : Nat) : Int) < (l.length : Int) := by omega
      by_cases h12 : l.length ≤ 12
      · have h12i : (l.length : Int) ≤ 12 := by omega
        have HZ : Hid (decide (fewB l) = true) := Lib.hid (decide_eq_true ⟨HM.out, h12⟩)
        go_wp2
        go_ret
        exact ⟨by rw [HZ.out]; rfl, HO.out⟩
      · have h12i : ¬ (l.length : Int) ≤ 12 := by omega
        have h12d : decide ((l.length : Int) ≤ 12) = false := decide_eq_false h12i
        have h12e : decide (l.length ≤ 12) = false := decide_eq_false h12
        have HZ : Hid (decide (fewB l) = false) := Lib.hid (decide_eq_false (fun hh => h12 hh.2))
        go_wp2
        go_ret
        exact ⟨by rw [HZ.out]; rfl, HO.out⟩
end Go.Proofs.YtighdjbeddcckaaDoor
