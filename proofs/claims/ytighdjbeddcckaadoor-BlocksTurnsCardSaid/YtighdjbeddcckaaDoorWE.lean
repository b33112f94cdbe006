/-
  isTwice: does more than one block have that Type.
-/
import Derived.Test.YtighdjbeddcckaaDoorWD
namespace Go.Proofs.YtighdjbeddcckaaDoor
open Go.RowKit Go.Shelf

/-- how many blocks have that Type -/
def mT (l : List Bk) (k : Int) : Nat := l.countP fun p => p.1 == k
def TwR (W : World) (l : List Bk) (k : Int) (s4 s9 : Value) (wr : World) : Prop := ∃ i m : Nat, i ≤ l.length ∧ m = mT (l.take i) k ∧ m ≤ i ∧ s4 = iv m ∧ s9 = iv i ∧ Only Nix W wr
set_option maxRecDepth 100000 in
set_option maxHeartbeats 4000000 in
theorem twice_any {w : World} {b : Nat} {v : Value} {l : List Bk} (k : Int) (hb : Box w b 22 #[v]) (hv : BSrc w v l) :
    Calls Tryd.prog 17 #[iv k, .pointer (some ⟨b, 0, none⟩)] w fun e w' => e = .returned (.bool (decide (1 < mT l k))) ∧ Only Nix w w' := by
  obtain ⟨A, c, rfl⟩ := hv.slice
  have hsm := hv.small
  have hc := hb.cell 0
  simp only [List.getElem?_toArray, List.getElem?_cons_zero] at hc
  have HV := Lib.hid hv
  clear hb hv
  go_enter Tryd.func17, Tryd.ntmps17
  go_wp2
  go_loopw [4, 9] (fun s4 s9 wr => TwR w l k s4 s9 wr) (fun _ s9 _ => l.length - (intOf s9).toNat)
  case atStart => exact ⟨0, 0, Nat.zero_le _, rfl, Nat.le_refl _, rfl, rfl, Only.refl _ _⟩
  case round =>
    obtain ⟨i, m, hi, hm, hmi, rfl, rfl, ho⟩ := hrel
    have HO := Lib.hid ho
    by_cases hlt : i < l.length
    · obtain ⟨ad, B, d, rfl, hx, hy, _, _⟩ := (HV.out.nix ho).at_ hlt
      have hlti : (i : Int) < (l.length : Int) := by omega
      have HT : Hid (mT (l.take (i + 1)) k = m + (if l[i].1 = k then 1 else 0)) := Lib.hid (by
        rw [List.take_succ_eq_append_getElem hlt, mT, List.countP_append, hm]
        simp [mT, List.countP_cons])
      generalize l[i].2.length = q at *
      generalize l[i].1 = t at *
      have HOa := Lib.hid (ho.alloc (.cells #[iv t, .slice B q d] 38))
      clear hm ho
      by_cases hk : t = k
      · subst hk
        rw [if_pos rfl] at HT
        go_wp2
        go_roundw
        case rel => exact ⟨i + 1, m + 1, hlt, HT.out.symm, by omega, by go_num, by go_num, HOa.out⟩
        case measure => simp [intOf]; omega
      · rw [if_neg hk] at HT
        go_wp2
        go_roundw
        case rel => exact ⟨i + 1, m, hlt, HT.out.symm, by omega, by go_num, by go_num, HOa.out⟩
        case measure => simp [intOf]; omega
    · obtain rfl : i = l.length := by omega
      have HE : Hid (m = mT l k) := Lib.hid (by rw [hm, List.take_of_length_le (Nat.le_refl _)])
      have hni : ¬ (l.length : Int) < (l.length : Int) := by omega
      clear hm ho
      go_wp2
      go_ret
      refine ⟨?_, HO.out⟩
      rw [← HE.out]
      simp
      omega
end Go.Proofs.YtighdjbeddcckaaDoor
