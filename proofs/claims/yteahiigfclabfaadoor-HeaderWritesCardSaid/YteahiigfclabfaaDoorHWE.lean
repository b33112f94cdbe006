/-
  Write answers the document's bytes: the walk.
-/
import Derived.Test.YteahiigfclabfaaDoorHWD
import Derived.Test.YteahiigfclabfaaDoorHN
import Derived.Test.YteahiigfclabfaaDoorHU2
namespace Go.Proofs.YteahiigfclabfaaDoor.H
open Go.RowKit

set_option maxRecDepth 100000 in
set_option maxHeartbeats 8000000 in
theorem writes_walk {w : World} (hL : LaidH w) (h : Hd) (hi : HdI h) :
    Calls Tryd.prog 3 #[hv h] w fun x w' => x = .returned (.bool true) ∧ Only Nix w w' := by
  have HWk : Hid (∀ u, LaidH u → Calls Tryd.prog 10 #[.agg (hc h)] u fun x w' => ∃ A c, x = .returned (.tuple #[.slice A (wrB h).length c, iv (ckE h)]) ∧ (wrB h).length ≤ c ∧ U.Src w' (.slice A (wrB h).length c) (wrB h) ∧ Only Nix u w') := Lib.hid (fun u hu => write_any hu h hi)
  have HCk : Hid (∀ u, LaidH u → Calls Tryd.prog 11 #[.agg (hc h)] u fun x w' => x = .returned (iv (ckE h)) ∧ Only Nix u w') := Lib.hid (fun u hu => check_any hu h hi)
  have HRk : Hid (∀ u, Calls Tryd.prog 8 #[.agg (hc h)] u fun x w' => x = .returned (iv (ckE h)) ∧ Only Nix u w') := Lib.hid (fun u => by
    have := rcheck_raw h u
    rw [rck_ck] at this
    exact this)
  have HPl : Hid (∀ u, Calls Tryd.prog 9 #[.agg (hc h)] u fun e w' => e = .returned (.agg (hc h)) ∧ Only Nix u w') := Lib.hid (fun u => plain_any h u)
  have HRb : Hid (ckE h = 0 → ∀ u, Calls Tryd.prog 14 #[.agg (hc h)] u fun e w' => ∃ A c, e = .returned (.slice A (wrB h).length c) ∧ U.Src w' (.slice A (wrB h).length c) (wrB h) ∧ Only Nix u w') := Lib.hid (fun e u => rbytes_any ((ck_ok h).1 e) u)
  have HAw : Hid (∀ u, LaidH u → Calls Tryd.prog 12 #[] u fun e w' => e = .returned (.bool true) ∧ Only Nix u w') := Lib.hid (fun u hu => awake_any hu)
  have HEq : Hid (∀ u A B c d, U.Src u (.slice A (wrB h).length c) (wrB h) → U.Src u (.slice B (wrB h).length d) (wrB h) → Calls Tryd.prog 13 #[.slice A (wrB h).length c, .slice B (wrB h).length d] u fun e w' => e = .returned (.bool true) ∧ Only Nix u w') := Lib.hid (fun u A B c d h1 h2 => equal_any A B c d _ h1 h2)
  have HWn : Hid (ckE h ≠ 0 → (wrB h).length = 0) := Lib.hid (fun e => by unfold wrB; rw [if_neg e]; rfl)
  have HL1 := Lib.hid (hL.nix ((Only.refl Nix w).alloc (.cells (hc h) 23)))
  have HO1 := Lib.hid ((Only.refl Nix w).alloc (.cells (hc h) 23))
  have HB1 := Lib.hid (Box.new w 23 (hc h))
  have HZ := Lib.hid (szC h)
  generalize hW1 : w.alloc (.cells (hc h) 23) = W1 at *
  have hx : hv h = .agg (hc h) := rfl
  clear hL
  generalize wrB h = WB at *
  generalize WB.length = n at *
  generalize ckE h = E at *
  go_enter Tryd.func3, Tryd.ntmps3
  rw [hx]
  generalize hc h = C at *
  clear hx
  go_wp2_with (refine wpList_load_row rfl 23 (.tmp 1) rfl w.heap.size rfl 23 C (0, 0) _ HB1.out Tryd.underlying23 rfl HZ.out ?_)
  refine (HPl.out W1).mono ?_
  rintro _ u1 ⟨rfl, ho⟩
  have O1 := Lib.hid ho
  have R1 := Lib.hid (HRk.out u1)
  clear ho
  go_wp2_with fail
  refine (R1.out).mono ?_
  rintro _ u2 ⟨rfl, ho⟩
  have O2 := Lib.hid (O1.out.trans ho)
  have B2 := Lib.hid (HB1.out.only O2.out (fun e => e))
  have R2 := Lib.hid (HWk.out u2 (HL1.out.nix O2.out))
  clear ho R1
  go_wp2_with (refine wpList_load_row rfl 23 (.tmp 1) rfl w.heap.size rfl 23 C (0, 0) _ B2.out Tryd.underlying23 rfl HZ.out ?_)
  refine (R2.out).mono ?_
  rintro _ u3 ⟨A, c, rfl, _, hsrc, ho⟩
  have O3 := Lib.hid (O2.out.trans ho)
  have S3 := Lib.hid hsrc
  have B3 := Lib.hid (HB1.out.only O3.out (fun e => e))
  have R3 := Lib.hid (HCk.out u3 (HL1.out.nix O3.out))
  clear ho hsrc R2 B2
  go_wp2_with (refine wpList_load_row rfl 23 (.tmp 1) rfl w.heap.size rfl 23 C (0, 0) _ B3.out Tryd.underlying23 rfl HZ.out ?_)
  refine (R3.out).mono ?_
  rintro _ u4 ⟨rfl, ho⟩
  have O4 := Lib.hid (O3.out.trans ho)
  have S4 := Lib.hid (S3.out.nix ho)
  have B4 := Lib.hid (HB1.out.only O4.out (fun e => e))
  have LH4 := Lib.hid (HL1.out.nix O4.out)
  clear ho R3 B3 S3
  have hEE : (E != E) = false := by simp
  by_cases hE : E = 0
  · subst hE
    have hE0 : ((0 : Int) != 0) = false := rfl
    have HRc := Lib.hid (HRb.out rfl)
    clear HRb
    have R5 := Lib.hid (HPl.out u4)
    go_wp2_with (refine wpList_load_row rfl 23 (.tmp 1) rfl w.heap.size rfl 23 C (0, 0) _ B4.out Tryd.underlying23 rfl HZ.out ?_)
    refine (R5.out).mono ?_
    rintro _ u5 ⟨rfl, ho⟩
    have O5 := Lib.hid (O4.out.trans ho)
    have S5 := Lib.hid (S4.out.nix ho)
    have R6 := Lib.hid (HRc.out u5)
    clear ho R5
    go_wp2_with fail
    refine (R6.out).mono ?_
    rintro _ u6 ⟨A2, c2, rfl, hs2, ho⟩
    have O6 := Lib.hid (O5.out.trans ho)
    have R7 := Lib.hid (HEq.out u6 A A2 c c2 (S5.out.nix ho) hs2)
    clear ho hs2 R6
    go_wp2_with fail
    refine (R7.out).mono ?_
    rintro _ u7 ⟨rfl, ho⟩
    have O7 := Lib.hid (O6.out.trans ho)
    have R8 := Lib.hid (HAw.out u7 (HL1.out.nix O7.out))
    clear ho R7
    go_wp2_with fail
    refine (R8.out).mono ?_
    rintro _ u8 ⟨rfl, ho⟩
    have O8 := Lib.hid (HO1.out.trans (O7.out.trans ho))
    clear ho R8
    go_wp2
    go_ret
    exact ⟨rfl, O8.out⟩
  · have hE0 : (E != 0) = true := by simpa using hE
    have hn := HWn.out hE
    subst hn
    have R8 := Lib.hid (HAw.out u4 LH4.out)
    go_wp2_with fail
    refine (R8.out).mono ?_
    rintro _ u8 ⟨rfl, ho⟩
    have O8 := Lib.hid (HO1.out.trans (O4.out.trans ho))
    clear ho R8
    go_wp2
    go_ret
    exact ⟨rfl, O8.out⟩
end Go.Proofs.YteahiigfclabfaaDoor.H
