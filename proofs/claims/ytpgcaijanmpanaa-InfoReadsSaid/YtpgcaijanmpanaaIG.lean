/-
  Which pieces an info covers.
-/
import Derived.Test.YtpgcaijanmpanaaIF
namespace Go.Proofs.Ytpgcaijanmpanaa
open Go.RowKit Go.Shelf

def ok1 (p : Int × Int) : Prop := 1 ≤ p.1 ∧ p.1 ≤ 65535 ∧ 1 ≤ p.2 ∧ p.2 ≤ 1073741824
instance (p : Int × Int) : Decidable (ok1 p) := by unfold ok1; infer_instance
def Few (l : List (Int × Int)) : Prop := (∀ p ∈ l, ok1 p) ∧ l.length ≤ 100
instance (l : List (Int × Int)) : Decidable (Few l) := by unfold Few; infer_instance
theorem Few.ok {l : List (Int × Int)} (h : Few l) : Ok l := ⟨by have := h.2; omega, fun p hp => by have := h.1 p hp; unfold ok1 at this; omega⟩
def FewRel (w : World) (l : List (Int × Int)) (s3 : Value) (wr : World) : Prop := ∃ k : Nat, k ≤ l.length ∧ s3 = iv k ∧ (∀ p ∈ l.take k, ok1 p) ∧ w = wr
set_option maxHeartbeats 2000000 in
theorem few_any {w : World} {v : Value} {l : List (Int × Int)} (hv : PSrc w v l) : Calls Try.prog 19 #[v] w fun e w' => e = .returned (.bool (decide (Few l))) ∧ w = w' := by
  obtain ⟨A, c, rfl⟩ := hv.slice
  have hsm := hv.small
  have HV := Lib.hid hv
  obtain ⟨B, hB⟩ : ∃ B, decide (Few l) = B := ⟨_, rfl⟩
  have HBad : Hid (∀ p ∈ l, ¬ ok1 p → B = false) := Lib.hid (fun p hp h => by rw [← hB]; exact decide_eq_false (fun hf => h (hf.1 p hp)))
  have HEnd : Hid ((∀ p ∈ l, ok1 p) → decide (l.length ≤ 100) = B) := Lib.hid (fun h => by
    rw [← hB]
    by_cases h2 : l.length ≤ 100
    · rw [decide_eq_true h2, decide_eq_true (show Few l from ⟨h, h2⟩)]
    · rw [decide_eq_false h2, decide_eq_false (show ¬ Few l from fun hf => h2 hf.2)])
  rw [hB]
  clear hv hB
  go_enter Try.func19, Try.ntmps19
  go_wp2
  go_loopw [3] (fun s3 wr => FewRel w l s3 wr) (fun s3 _ => l.length - (intOf s3).toNat)
  case atStart => exact ⟨0, Nat.zero_le _, rfl, by simp, rfl⟩
  case round =>
    obtain ⟨k, hk, rfl, hall, rfl⟩ := hrel
    have HAll := Lib.hid hall
    clear hall
    by_cases hlt : k < l.length
    · obtain ⟨ad, rfl, hx, hy⟩ := HV.out.at_ hlt
      have hlti : (k : Int) < (l.length : Int) := by omega
      have HT := Lib.hid (List.take_succ_eq_append_getElem hlt)
      have HM := Lib.hid (List.getElem_mem hlt)
      generalize l[k] = p at *
      rcases (show p.1 < 1 ∨ (1 ≤ p.1 ∧ 65535 < p.1) ∨ (1 ≤ p.1 ∧ p.1 ≤ 65535 ∧ p.2 < 1) ∨ (1 ≤ p.1 ∧ p.1 ≤ 65535 ∧ 1 ≤ p.2 ∧ 1073741824 < p.2) ∨ (1 ≤ p.1 ∧ p.1 ≤ 65535 ∧ 1 ≤ p.2 ∧ p.2 ≤ 1073741824) by omega) with h | ⟨h, h2⟩ | ⟨h, h2, h3⟩ | ⟨h, h2, h3, h4⟩ | ⟨h, h2, h3, h4⟩
      case inr.inr.inr.inr =>
        have HOk : Hid (ok1 p) := Lib.hid ⟨h, h2, h3, h4⟩
        go_wp2
        go_roundw
        case rel => exact ⟨k + 1, hlt, by go_num, fun q hq => by
          rw [HT.out] at hq
          rcases List.mem_append.1 hq with hq | hq
          · exact HAll.out q hq
          · simp at hq; subst hq; exact HOk.out, rfl⟩
        case measure => simp [intOf]; omega
      all_goals
        have HQ := Lib.hid (HBad.out p HM.out (fun hh => by unfold ok1 at hh; omega))
        clear HBad HEnd
        go_wp2
        go_ret
        exact ⟨by rw [HQ.out] <;> rfl, rfl⟩
    · have hlti : ¬ (k : Int) < (l.length : Int) := by omega
      have hd : decide (k < l.length) = false := by simp; omega
      have HQ := Lib.hid (HEnd.out (fun p hp => HAll.out p (by rw [List.take_of_length_le (by omega)]; exact hp)))
      clear HBad HEnd HAll
      by_cases h100 : l.length ≤ 100
      all_goals
        have HQ2 := Lib.hid (HQ.out)
        have h100i : (l.length : Int) ≤ 100 ↔ l.length ≤ 100 := by omega
        go_wp2
        go_ret
        exact ⟨by rw [← HQ.out] <;> simp [h100] <;> omega, rfl⟩
/-- a piece that no stream of such an info has -/
def exB (i : Nf) (p : Int × Int) : Bool := (decide (i.xb < p.1) || i.mf != 0 && decide (p.2 < i.mf)) || i.xf != 0 && decide (i.xf < p.2)
def shB (i : Nf) (p : Int × Int) : Bool := decide (p.1 < i.mb)
/-- a function that tells of a piece -/
def AskC (k : FuncId) (rv : Value) (q : Int × Int → Bool) : Prop := ∀ (w : World) (p : Int × Int), Calls Try.prog k #[rv, pv p] w fun e w' => e = .returned (.bool (q p)) ∧ Only Nix w w'
set_option maxHeartbeats 2000000 in
theorem excludes_any (i : Nf) : AskC 36 (.agg (nfc i)) (exB i) := by
  intro w p
  have a1 := (Only.refl Nix w).alloc (.cells (nfc i) 26)
  have b1 := Box.new w 26 (nfc i)
  obtain ⟨C, hC⟩ : ∃ C, nfc i = C := ⟨_, rfl⟩
  have g3 := nfc_3 i
  have g4 := nfc_4 i
  have g5 := nfc_5 i
  have g6 := nfc_6 i
  rw [hC] at a1 b1 g3 g4 g5 g6
  rw [hC]
  clear hC
  obtain ⟨W1, hW1⟩ : ∃ W1, w.alloc (.cells C 26) = W1 := ⟨_, rfl⟩
  rw [hW1] at a1 b1
  have a2 := a1.alloc (.cells #[iv p.1, iv p.2] 49)
  have b2 := b1.alloc (.cells #[iv p.1, iv p.2] 49)
  have b3 := Box.new W1 49 #[iv p.1, iv p.2]
  obtain ⟨W2, hW2⟩ : ∃ W2, W1.alloc (.cells #[iv p.1, iv p.2] 49) = W2 := ⟨_, rfl⟩
  rw [hW2] at a2 b2 b3
  have q3 := (b2.cell 3).trans g3
  have q4 := (b2.cell 4).trans g4
  have q5 := (b2.cell 5).trans g5
  have q6 := (b2.cell 6).trans g6
  have p0 := b3.cell 0
  have p1 := b3.cell 1
  simp only [List.getElem?_toArray, List.getElem?_cons_zero, List.getElem?_cons_succ] at p0 p1
  have HO := Lib.hid a2
  clear a1 a2 b1 b2 b3 g3 g4 g5 g6
  obtain ⟨r, c, d, mb, xb, mf, xf, t, s⟩ := i
  simp only at q3 q4 q5 q6
  go_enter Try.func36, Try.ntmps36
  go_wp2
  all_goals
    go_ret
    refine ⟨?_, HO.out⟩
    first | rfl | (show Ending.returned (Value.bool _) = Ending.returned (Value.bool _); congr 2; simp_all [exB]; done)
set_option maxHeartbeats 2000000 in
theorem isShort_any (i : Nf) : AskC 37 (.agg (nfc i)) (shB i) := by
  intro w p
  have a1 := (Only.refl Nix w).alloc (.cells (nfc i) 26)
  have b1 := Box.new w 26 (nfc i)
  obtain ⟨C, hC⟩ : ∃ C, nfc i = C := ⟨_, rfl⟩
  have g3 := nfc_3 i
  have g4 := nfc_4 i
  have g5 := nfc_5 i
  have g6 := nfc_6 i
  rw [hC] at a1 b1 g3 g4 g5 g6
  rw [hC]
  clear hC
  obtain ⟨W1, hW1⟩ : ∃ W1, w.alloc (.cells C 26) = W1 := ⟨_, rfl⟩
  rw [hW1] at a1 b1
  have a2 := a1.alloc (.cells #[iv p.1, iv p.2] 49)
  have b2 := b1.alloc (.cells #[iv p.1, iv p.2] 49)
  have b3 := Box.new W1 49 #[iv p.1, iv p.2]
  obtain ⟨W2, hW2⟩ : ∃ W2, W1.alloc (.cells #[iv p.1, iv p.2] 49) = W2 := ⟨_, rfl⟩
  rw [hW2] at a2 b2 b3
  have q3 := (b2.cell 3).trans g3
  have q4 := (b2.cell 4).trans g4
  have q5 := (b2.cell 5).trans g5
  have q6 := (b2.cell 6).trans g6
  have p0 := b3.cell 0
  have p1 := b3.cell 1
  simp only [List.getElem?_toArray, List.getElem?_cons_zero, List.getElem?_cons_succ] at p0 p1
  have HO := Lib.hid a2
  clear a1 a2 b1 b2 b3 g3 g4 g5 g6
  obtain ⟨r, c, d, mb, xb, mf, xf, t, s⟩ := i
  simp only at q3 q4 q5 q6
  go_enter Try.func37, Try.ntmps37
  go_wp2
  all_goals
    go_ret
    refine ⟨?_, HO.out⟩
    first | rfl | (show Ending.returned (Value.bool _) = Ending.returned (Value.bool _); congr 2; simp_all [exB]; done)
/-- in which place the first one stands -/
def IdxR (w : World) (l : List (Int × Int)) (q : Int × Int → Bool) (e : Ending) (w' : World) : Prop := (∃ n : Int, e = .returned (iv n) ∧ decide (0 ≤ n) = l.any q) ∧ Only Nix w w'
def IxRel (w : World) (l : List (Int × Int)) (q : Int × Int → Bool) (s8 : Value) (wr : World) : Prop := ∃ k : Nat, k ≤ l.length ∧ s8 = iv k ∧ (l.take k).any q = false ∧ Only Nix w wr
set_option maxHeartbeats 2000000 in
theorem index_any {w : World} {k : FuncId} {rv v : Value} {q : Int × Int → Bool} {l : List (Int × Int)} (hE : Enters Try.prog k) (hC : AskC k rv q) (hv : PSrc w v l) :
    Calls Try.prog 41 #[v, .func (.func k) #[rv] #[]] w fun e w' => IdxR w l q e w' := by
  obtain ⟨A, c, rfl⟩ := hv.slice
  have hsm := hv.small
  have HV := Lib.hid hv
  have HC := Lib.hid hC
  have hen : ∀ args w, (callFunc k args).run Try.prog w = .ok (.enter k args) w := hE
  clear hv hC hE
  go_enter Try.func41, Try.ntmps41
  go_wp2
  go_loopw [8] (fun s8 wr => IxRel w l q s8 wr) (fun s8 _ => l.length - (intOf s8).toNat)
  case atStart => exact ⟨0, Nat.zero_le _, rfl, by simp, Only.refl _ _⟩
  case round =>
    obtain ⟨i, hi, rfl, hno, ho⟩ := hrel
    have HNo := Lib.hid hno
    have HO := Lib.hid ho
    by_cases hlt : i < l.length
    · obtain ⟨ad, rfl, hx, hy⟩ := (HV.out.nix ho).at_ hlt
      have hlti : (i : Int) < (l.length : Int) := by omega
      have HT := Lib.hid (List.take_succ_eq_append_getElem hlt)
      have HM := Lib.hid (List.getElem_mem hlt)
      generalize l[i] = p at *
      have HCp := Lib.hid (HC.out wr p)
      obtain ⟨B, hB⟩ : ∃ B, q p = B := ⟨_, rfl⟩
      rw [hB] at HCp
      have HB := Lib.hid hB
      clear hno ho hB HC
      go_wp2_with fail
      refine (HCp.out).mono ?_
      rintro e w2 ⟨rfl, o2⟩
      have HO2 := Lib.hid (HO.out.trans o2)
      clear o2
      cases B with
      | true =>
        have HFin : Hid (IdxR w l q (.returned (iv i)) w2) := Lib.hid ⟨⟨i, rfl, by
          rw [decide_eq_true (by omega)]
          exact (List.any_eq_true.2 ⟨p, HM.out, HB.out⟩).symm⟩, HO2.out⟩
        go_wp2
        go_ret
        exact HFin.out
      | false =>
        go_wp2
        go_roundw
        case rel => exact ⟨i + 1, hlt, by go_num, by rw [HT.out, List.any_append, HNo.out]; simp [HB.out], HO2.out⟩
        case measure => simp [intOf]; omega
    · have hlti : ¬ (i : Int) < (l.length : Int) := by omega
      have hd : decide (i < l.length) = false := by simp; omega
      have HFin : Hid (IdxR w l q (.returned (iv (-1))) wr) := Lib.hid ⟨⟨-1, rfl, by
        have := HNo.out
        rw [List.take_of_length_le (by omega)] at this
        rw [this]
        rfl⟩, HO.out⟩
      clear hno ho
      go_wp2
      go_ret
      exact HFin.out
theorem contains_any {w : World} {k : FuncId} {rv v : Value} {q : Int × Int → Bool} {l : List (Int × Int)} (hE : Enters Try.prog k) (hC : AskC k rv q) (hv : PSrc w v l) :
    Calls Try.prog 35 #[v, .func (.func k) #[rv] #[]] w fun e w' => e = .returned (.bool (l.any q)) ∧ Only Nix w w' := by
  have HI := Lib.hid (index_any hE hC hv)
  clear hE hC hv
  go_enter Try.func35, Try.ntmps35
  go_wp2_with fail
  refine (HI.out).mono ?_
  rintro e w2 ⟨⟨n, rfl, hn⟩, o2⟩
  have HO2 := Lib.hid o2
  have HN := Lib.hid hn
  clear o2 hn
  go_wp2
  go_ret
  exact ⟨by rw [← HN.out] <;> rfl, HO2.out⟩
end Go.Proofs.Ytpgcaijanmpanaa
