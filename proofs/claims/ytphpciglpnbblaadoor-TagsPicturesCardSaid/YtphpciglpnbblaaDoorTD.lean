/-
  Comments: which may be written.
-/
import Derived.Test.YtphpciglpnbblaaDoorTC
namespace Go.Proofs.YtphpciglpnbblaaDoor
open Go.RowKit Go.Shelf

theorem isNone_any {w : World} (s : ByteArray) (hs : s.size ≤ 1000000) (hT : Tabs w) : Calls Tryd.prog 50 #[.string s] w fun e w' => e = .returned (.bool (!isC s)) ∧ Only Nix w w' := by
  have hI := Lib.hid (parts_any s hs hT)
  unfold PtR at hI
  generalize isC s = C at *
  generalize ptN s = N at *
  generalize ptV s = V at *
  clear hT
  go_enter Tryd.func50, Tryd.ntmps50
  go_wp2_with fail
  refine (hI.out).mono ?_
  rintro e w1 ⟨rfl, ho⟩
  go_wp2
  go_ret
  exact ⟨rfl, ho⟩
def IdxR (w : World) (l : List ByteArray) (q : ByteArray → Bool) (e : Ending) (w' : World) : Prop := (∃ n : Int, e = .returned (iv n) ∧ decide (0 ≤ n) = l.any q) ∧ Only Nix w w'
def IxRel (w : World) (l : List ByteArray) (q : ByteArray → Bool) (s8 : Value) (wr : World) : Prop := ∃ k : Nat, k ≤ l.length ∧ s8 = iv k ∧ (l.take k).any q = false ∧ Only Nix w wr
set_option maxHeartbeats 2000000 in
theorem index_any {w : World} {v : Value} {l : List ByteArray} (hv : SSrc w v l) (hl : ∀ s ∈ l, s.size ≤ 1000000) (hT : Tabs w) :
    Calls Tryd.prog 62 #[v, .func (.func 50) #[] #[]] w fun e w' => IdxR w l (fun s => !isC s) e w' := by
  obtain ⟨A, c, rfl, _⟩ := hv.slice
  have hsm := hv.small
  have HV := Lib.hid hv
  obtain ⟨q, hq⟩ : ∃ q : ByteArray → Bool, (fun s => !isC s) = q := ⟨_, rfl⟩
  have HC : Hid (∀ (u : World) (s : ByteArray), s ∈ l → Only Nix w u → Calls Tryd.prog 50 #[.string s] u fun e w' => e = .returned (.bool (q s)) ∧ Only Nix u w') := Lib.hid (fun u s h hu => by rw [← hq]; exact isNone_any s (hl s h) (hT.nix hu))
  have hen : ∀ args w, (callFunc 50 args).run Tryd.prog w = .ok (.enter 50 args) w := enters_of Tryd.func50 (by kernel_rfl) rfl
  rw [hq]
  clear hv hq hl hT
  go_enter Tryd.func62, Tryd.ntmps62
  go_wp2
  go_loopw [8] (fun s8 wr => IxRel w l q s8 wr) (fun s8 _ => l.length - (intOf s8).toNat)
  case atStart => exact ⟨0, Nat.zero_le _, rfl, by simp, Only.refl _ _⟩
  case round =>
    obtain ⟨i, hi, rfl, hno, ho⟩ := hrel
    have HNo := Lib.hid hno
    have HO := Lib.hid ho
    by_cases hlt : i < l.length
    · obtain ⟨ad, rfl, hx⟩ := (HV.out.nix ho).at_ hlt
      have hlti : (i : Int) < (l.length : Int) := by omega
      have HT := Lib.hid (List.take_succ_eq_append_getElem hlt)
      have HM := Lib.hid (List.getElem_mem hlt)
      have HCp := Lib.hid (HC.out wr l[i] HM.out ho)
      generalize l[i] = p at *
      obtain ⟨B, hB⟩ : ∃ B, q p = B := ⟨_, rfl⟩
      rw [hB] at HCp
      have HB := Lib.hid hB
      clear hno ho hB HC
      go_wp2_with fail
      refine (HCp.out).mono ?_
      rintro e w2 ⟨rfl, o2⟩
      have HO2 := Lib.hid (HO.out.trans o2)
      clear o2
      cases B with
      | true =>
        have HFin : Hid (IdxR w l q (.returned (iv i)) w2) := Lib.hid ⟨⟨i, rfl, by
          rw [decide_eq_true (by omega)]
          exact (List.any_eq_true.2 ⟨p, HM.out, HB.out⟩).symm⟩, HO2.out⟩
        go_wp2
        go_ret
        exact HFin.out
      | false =>
        go_wp2
        go_roundw
        case rel => exact ⟨i + 1, hlt, by go_num, by rw [HT.out, List.any_append, HNo.out]; simp [HB.out], HO2.out⟩
        case measure => simp [intOf]; omega
    · have hlti : ¬ (i : Int) < (l.length : Int) := by omega
      have hd : decide (i < l.length) = false := by simp; omega
      have HFin : Hid (IdxR w l q (.returned (iv (-1))) wr) := Lib.hid ⟨⟨-1, rfl, by
        have h := HNo.out
        rw [List.take_of_length_le (by omega)] at h
        rw [h]
        rfl⟩, HO.out⟩
      go_wp2
      go_ret
      exact HFin.out
theorem contains_any {w : World} {v : Value} {l : List ByteArray} (hv : SSrc w v l) (hl : ∀ s ∈ l, s.size ≤ 1000000) (hT : Tabs w) :
    Calls Tryd.prog 49 #[v, .func (.func 50) #[] #[]] w fun e w' => e = .returned (.bool (l.any fun s => !isC s)) ∧ Only Nix w w' := by
  have HI := Lib.hid (index_any hv hl hT)
  clear hv hl hT
  generalize (fun s => !isC s) = q at *
  go_enter Tryd.func49, Tryd.ntmps49
  go_wp2_with fail
  refine (HI.out).mono ?_
  rintro e w1 ⟨⟨n, rfl, hn⟩, ho⟩
  have HN := Lib.hid hn
  clear hn
  go_wp2
  go_ret
  exact ⟨by rw [← HN.out]; rfl, ho⟩
/-- which error comments have that are not too great -/
def ckE (V : ByteArray) (l : List ByteArray) : Int := if isT V = true ∧ l.any (fun s => !isC s) = false then 0 else 12
theorem ckE_cases (V : ByteArray) (l : List ByteArray) : ckE V l = 0 ∨ ckE V l = 12 := by unfold ckE; split <;> simp
set_option maxHeartbeats 2000000 in
theorem check_any {w : World} {V : ByteArray} {x : Value} {l : List ByteArray} (hs : SSrc w x l) (hV : V.size ≤ 1000000) (hl : szL l ≤ 1000000) (hT : Tabs w) :
    Calls Tryd.prog 24 #[cmV V x] w fun e w' => e = .returned (iv (ckE V l)) ∧ Only Nix w w' := by
  obtain ⟨A, c, rfl, hcap⟩ := hs.slice
  have hsm := hs.small
  have hla : ∀ s ∈ l, s.size ≤ 1000000 := fun s hs => by
    obtain ⟨a, b, rfl⟩ := List.append_of_mem hs
    have : szL (a ++ s :: b) = szL a + (4 + s.size + szL b) := by unfold szL; simp
    omega
  obtain ⟨W1, hW1⟩ : ∃ W1, w.alloc (.cells #[.string V, .slice A l.length c] 24) = W1 := ⟨_, rfl⟩
  have b1 := Box.new w 24 #[.string V, .slice A l.length c]
  have a1 := Lib.hid ((Only.refl Nix w).alloc (.cells #[.string V, .slice A l.length c] 24))
  have HS := Lib.hid (hs.nix a1.out)
  rw [hW1] at b1 a1 HS
  have c0 := b1.cell 0
  have c1 := b1.cell 1
  simp only [List.getElem?_toArray, List.getElem?_cons_zero, List.getElem?_cons_succ] at c0 c1
  have HB := Lib.hid b1
  have H1 := Lib.hid (isText_any (w := W1) V hV (hT.nix a1.out))
  have H2 : Hid (∀ u, Only Nix W1 u → Calls Tryd.prog 49 #[.slice A l.length c, .func (.func 50) #[] #[]] u fun e w' => e = .returned (.bool (l.any fun s => !isC s)) ∧ Only Nix u w') := Lib.hid (fun u hu => contains_any (HS.out.nix hu) hla (hT.nix (a1.out.trans hu)))
  have H3 : Hid (∀ u, Only Nix W1 u → Calls Tryd.prog 25 #[.agg #[.string V, .slice A l.length c]] u fun e w' => e = .returned (iv ((8 + V.size + szL l : Nat) : Int)) ∧ Only Nix u w') := Lib.hid (fun u hu => size_any (HS.out.nix hu) hV hl)
  have hE : Hid (ckE V l = if isT V = true ∧ l.any (fun s => !isC s) = false then 0 else 12) := Lib.hid rfl
  have hz : 8 + V.size + szL l ≤ 2000008 := by omega
  generalize 8 + V.size + szL l = Z at *
  generalize ckE V l = E at *
  generalize isT V = TV at *
  generalize (l.any fun s => !isC s) = AN at *
  clear b1 hs hl hla hcap hT
  cases TV with
  | false =>
    have hE2 : Hid (E = 12) := Lib.hid (by rw [hE.out]; rfl)
    go_enter Tryd.func24, Tryd.ntmps24
    go_wp2_with fail
    refine (H1.out).mono ?_
    rintro e w1 ⟨rfl, ho⟩
    go_wp2
    go_ret
    exact ⟨by rw [hE2.out]; rfl, a1.out.trans ho⟩
  | true =>
    go_enter Tryd.func24, Tryd.ntmps24
    go_wp2_with fail
    refine (H1.out).mono ?_
    rintro e w1 ⟨rfl, ho⟩
    have HO := Lib.hid ho
    have HN := Lib.hid (H2.out w1 ho)
    have c0' := cell_keep ho c0
    have c1' := cell_keep ho c1
    clear ho c0 c1
    go_wp2_with fail
    refine (HN.out).mono ?_
    rintro e w2 ⟨rfl, ho⟩
    have HO2 := Lib.hid (HO.out.trans ho)
    have HN3 := Lib.hid (H3.out w2 HO2.out)
    have c0 := cell_keep ho c0'
    have c1 := cell_keep ho c1'
    clear ho c0' c1'
    cases AN with
    | true =>
      have hE2 : Hid (E = 12) := Lib.hid (by rw [hE.out]; rfl)
      go_wp2
      go_ret
      exact ⟨by rw [hE2.out]; rfl, a1.out.trans HO2.out⟩
    | false =>
      have hE2 : Hid (E = 0) := Lib.hid (by rw [hE.out]; rfl)
      have hzi : ¬ (16777215 : Int) < (Z : Int) := by omega
      go_wp2_with fail
      refine (HN3.out).mono ?_
      rintro e w3 ⟨rfl, ho⟩
      have HO3 := Lib.hid (HO2.out.trans ho)
      clear ho
      go_wp2
      go_ret
      exact ⟨by rw [hE2.out]; rfl, a1.out.trans HO3.out⟩
end Go.Proofs.YtphpciglpnbblaaDoor
