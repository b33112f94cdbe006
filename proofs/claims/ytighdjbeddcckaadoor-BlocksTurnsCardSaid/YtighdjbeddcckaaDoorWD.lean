/-
  slices.IndexFunc, slices.ContainsFunc of blocks.
-/
import Derived.Test.YtighdjbeddcckaaDoorWC
namespace Go.Proofs.YtighdjbeddcckaaDoor
open Go.RowKit Go.Shelf

def IdxR (w : World) (l : List Bk) (q : Bk → Bool) (e : Ending) (w' : World) : Prop := (∃ n : Int, e = .returned (iv n) ∧ decide (0 ≤ n) = l.any q) ∧ Only Nix w w'
def IxRel (w : World) (l : List Bk) (q : Bk → Bool) (s8 : Value) (wr : World) : Prop := ∃ k : Nat, k ≤ l.length ∧ s8 = iv k ∧ (l.take k).any q = false ∧ Only Nix w wr
set_option maxHeartbeats 2000000 in
theorem index_any {w : World} {v : Value} {l : List Bk} (hv : BSrc w v l) :
    Calls Tryd.prog 23 #[v, .func (.func 19) #[] #[]] w fun e w' => IdxR w l (fun p => isM p.1 p.2) e w' := by
  obtain ⟨A, c, rfl⟩ := hv.slice
  have hsm := hv.small
  have HV := Lib.hid hv
  obtain ⟨q, hq⟩ : ∃ q : Bk → Bool, (fun p => isM p.1 p.2) = q := ⟨_, rfl⟩
  have HC : Hid (∀ (u : World) (p : Bk) (x : Value), CSrc u x p.2 → Calls Tryd.prog 19 #[.agg #[iv p.1, x]] u fun e w' => e = .returned (.bool (q p)) ∧ Only Nix u w') := Lib.hid (fun u p x h => by rw [← hq]; exact misshapen_any h)
  have hen : ∀ args w, (callFunc 19 args).run Tryd.prog w = .ok (.enter 19 args) w := enters_of Tryd.func19 (by kernel_rfl) rfl
  rw [hq]
  clear hv hq
  go_enter Tryd.func23, Tryd.ntmps23
  go_wp2
  go_loopw [8] (fun s8 wr => IxRel w l q s8 wr) (fun s8 _ => l.length - (intOf s8).toNat)
  case atStart => exact ⟨0, Nat.zero_le _, rfl, by simp, Only.refl _ _⟩
  case round =>
    obtain ⟨i, hi, rfl, hno, ho⟩ := hrel
    have HNo := Lib.hid hno
    have HO := Lib.hid ho
    by_cases hlt : i < l.length
    · obtain ⟨ad, B1, d1, rfl, hx, hy, _, hcs⟩ := (HV.out.nix ho).at_ hlt
      have hlti : (i : Int) < (l.length : Int) := by omega
      have HT := Lib.hid (List.take_succ_eq_append_getElem hlt)
      have HM := Lib.hid (List.getElem_mem hlt)
      generalize l[i] = p at *
      have HCp := Lib.hid (HC.out wr p _ hcs)
      obtain ⟨B, hB⟩ : ∃ B, q p = B := ⟨_, rfl⟩
      rw [hB] at HCp
      have HB := Lib.hid hB
      clear hno ho hB HC hcs
      go_wp2_with fail
      refine (HCp.out).mono ?_
      rintro e w2 ⟨rfl, o2⟩
      have HO2 := Lib.hid (HO.out.trans o2)
      clear o2
      cases B with
      | true =>
        have HFin : Hid (IdxR w l q (.returned (iv i)) w2) := Lib.hid ⟨⟨i, rfl, by
          rw [decide_eq_true (by omega)]
          exact (List.any_eq_true.2 ⟨p, HM.out, HB.out⟩).symm⟩, HO2.out⟩
        go_wp2
        go_ret
        exact HFin.out
      | false =>
        go_wp2
        go_roundw
        case rel => exact ⟨i + 1, hlt, by go_num, by rw [HT.out, List.any_append, HNo.out]; simp [HB.out], HO2.out⟩
        case measure => simp [intOf]; omega
    · have hlti : ¬ (i : Int) < (l.length : Int) := by omega
      have hd : decide (i < l.length) = false := by simp; omega
      have HFin : Hid (IdxR w l q (.returned (iv (-1))) wr) := Lib.hid ⟨⟨-1, rfl, by
        have := HNo.out
        rw [List.take_of_length_le (by omega)] at this
        rw [this]
        rfl⟩, HO.out⟩
      clear hno ho
      go_wp2
      go_ret
      exact HFin.out
theorem contains_any {w : World} {v : Value} {l : List Bk} (hv : BSrc w v l) :
    Calls Tryd.prog 18 #[v, .func (.func 19) #[] #[]] w fun e w' => e = .returned (.bool (l.any fun p => isM p.1 p.2)) ∧ Only Nix w w' := by
  have HI := Lib.hid (index_any hv)
  obtain ⟨A, c, rfl⟩ := hv.slice
  clear hv
  go_enter Tryd.func18, Tryd.ntmps18
  go_wp2_with fail
  refine (HI.out).mono ?_
  rintro e w2 ⟨⟨n, rfl, hn⟩, o2⟩
  have HO2 := Lib.hid o2
  have HN := Lib.hid hn
  clear o2 hn
  go_wp2
  go_ret
  exact ⟨by rw [← HN.out] <;> rfl, HO2.out⟩
end Go.Proofs.YtighdjbeddcckaaDoor
