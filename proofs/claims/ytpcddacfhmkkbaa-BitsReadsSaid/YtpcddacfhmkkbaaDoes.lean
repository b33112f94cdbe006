/-
  BitsReads: each call of both Readers.
-/
import Derived.Test.YtpcddacfhmkkbaaRefTake
namespace Go.Proofs.Ytpcddacfhmkkbaa
open Go.RowKit

/-- Both Readers stand at the same place, of the same bytes. -/
structure Pair (w : World) (r x : Nat) (rv xv : Value) (bs : List Nat) (a : Nat) : Prop where
  one : Rd w r rv bs a
  ref : Rf w x xv bs a
/-- their blocks -/
def PF (r x k : Nat) : Prop := k = r ∨ k = x

section
variable {w w1 w2 : World} {r x a a' : Nat} {rv xv : Value} {bs : List Nat}
theorem keep_ref (hR : Rd w r rv bs a) (hX : Rf w x xv bs a') (ho : Only (Just r) w w1) : Rf w1 x xv bs a' :=
  hX.keep ho (hX.box.type_ne hR.box (by decide)) (fun g hg e => owns_box hX.own hR.box (by decide) (by rw [hg]; exact congrArg some e))
theorem keep_one (hR : Rd w r rv bs a) (hX : Rf w x xv bs a') (ho : Only (Just x) w w1) : Rd w1 r rv bs a :=
  hR.keep ho (hR.box.type_ne hX.box (by decide)) (fun g hg e => owns_box hR.own hX.box (by decide) (by rw [hg]; exact congrArg some e))
theorem both_only {o : Obj} (h1 : Only (Just r) (w.alloc o) w1) (h2 : Only (Just x) w1 w2) : Only (PF r x) w w2 :=
  (((Only.refl (PF r x) w).alloc o).trans (h1.mono (fun _ e => Or.inl e))).trans (h2.mono (fun _ e => Or.inr e))

set_option maxHeartbeats 2000000 in
set_option maxRecDepth 100000 in
theorem does_any (hR : Rd w r rv bs a) (hX : Rf w x xv bs a) (k n z : Int) :
    Calls Try.prog 14 #[.pointer (some ⟨r, 0, none⟩), .pointer (some ⟨x, 0, none⟩), .agg #[iv k, iv n, iv z]] w fun e w' => e = .returned (.bool true) ∧ ∃ a', Pair w' r x rv xv bs a' ∧ Only (PF r x) w w' := by
  have hrl := hR.mem
  have hxl := hX.box.lt
  have hsm := hR.small
  have hsm2 := hX.small
  by_cases hk0 : k = 0
  · subst hk0
    have H1 := Lib.hid (take_any (hR.alloc (.cells #[iv 0, iv n, iv z] 35)) n)
    have hX0 := hX.alloc (.cells #[iv 0, iv n, iv z] 35)
    have hbox := Box.new w 35 #[iv 0, iv n, iv z]
    have HX0 := Lib.hid hX0
    have Hbox := Lib.hid hbox
    have HR0 := Lib.hid (hR.alloc (.cells #[iv 0, iv n, iv z] 35))
    clear hX0 hbox hR hX
    go_enter Try.func14, Try.ntmps14
    go_wp2_with fail
    refine (H1.out).mono ?_
    rintro e w1 ⟨rfl, hR1, ho1⟩
    have hX1 := keep_ref HR0.out HX0.out ho1
    have hb1 := Hbox.out.only ho1 (by show ¬ (w.heap.size = r); omega)
    have hk1 := hb1.cell 1
    simp only [List.getElem?_toArray, List.getElem?_cons_zero, List.getElem?_cons_succ] at hk1
    have H2 := Lib.hid (takeRef_any false hX1 n)
    rw [show refR false bs a n = takeR bs a n from rfl] at H2
    go_wp2_with fail
    refine (H2.out).mono ?_
    rintro e w2 ⟨rfl, hX2, ho2⟩
    have hR2 := keep_one hR1 hX1 ho2
    have hoB := both_only ho1 ho2
    have hee1 : (takeR bs a n == takeR bs a n) = true := by simp
    have hee2 : (takeE bs a n == takeE bs a n) = true := by simp
    clear H1 H2 HX0 HR0 Hbox hX1 hR1 hb1 hk1 ho1 ho2
    generalize takeR bs a n = R at *
    generalize takeE bs a n = E at *
    generalize takeA bs a n = q at *
    obtain ⟨A0, c0, hv0⟩ := hX2.slice
    have hc0 := hX2.cell0
    rw [hv0] at hc0
    have hc1 := hX2.cell1
    have hd0 := hR2.cell0
    have hql := hR2.le
    have hqq : ((q : Int) == (q : Int)) = true := by simp
    have hll : (8 * (bs.length : Int) - (q : Int) == 8 * (bs.length : Int) - (q : Int)) = true := by simp
    have Hv0 := Lib.hid hv0
    have HR2 := Lib.hid hR2
    have HX2 := Lib.hid hX2
    clear hv0 hR2 hX2
    go_wp2_with fail
    go_quiet ((first | (go_at_call 12; exact still_at (at_any _ _ _ hd0)) | (go_at_call 13; exact Calls.quiet_of (left_any (HR2.out.drewN _)))))
    go_wp2
    go_ret
    exact ⟨rfl, q, ⟨HR2.out.drewN _, HX2.out.drewN _⟩, hoB.drewN _⟩
  · have hb0 : (k == 0) = false := by simpa using hk0
    by_cases hk1 : k = 1
    · subst hk1
      have H1 := Lib.hid (signed_any (hR.alloc (.cells #[iv 1, iv n, iv z] 35)) n)
      have hX0 := hX.alloc (.cells #[iv 1, iv n, iv z] 35)
      have hbox := Box.new w 35 #[iv 1, iv n, iv z]
      have HX0 := Lib.hid hX0
      have Hbox := Lib.hid hbox
      have HR0 := Lib.hid (hR.alloc (.cells #[iv 1, iv n, iv z] 35))
      clear hX0 hbox hR hX
      go_enter Try.func14, Try.ntmps14
      go_wp2_with fail
      refine (H1.out).mono ?_
      rintro e w1 ⟨rfl, hR1, ho1⟩
      have hX1 := keep_ref HR0.out HX0.out ho1
      have hb1 := Hbox.out.only ho1 (by show ¬ (w.heap.size = r); omega)
      have hk1 := hb1.cell 1
      simp only [List.getElem?_toArray, List.getElem?_cons_zero, List.getElem?_cons_succ] at hk1
      have H2 := Lib.hid (takeRef_any true hX1 n)
      rw [show refR true bs a n = signR bs a n from rfl] at H2
      go_wp2_with fail
      refine (H2.out).mono ?_
      rintro e w2 ⟨rfl, hX2, ho2⟩
      have hR2 := keep_one hR1 hX1 ho2
      have hoB := both_only ho1 ho2
      have hee1 : (signR bs a n == signR bs a n) = true := by simp
      have hee2 : (takeE bs a n == takeE bs a n) = true := by simp
      clear H1 H2 HX0 HR0 Hbox hX1 hR1 hb1 hk1 ho1 ho2
      generalize signR bs a n = R at *
      generalize takeE bs a n = E at *
      generalize takeA bs a n = q at *
      obtain ⟨A0, c0, hv0⟩ := hX2.slice
      have hc0 := hX2.cell0
      rw [hv0] at hc0
      have hc1 := hX2.cell1
      have hd0 := hR2.cell0
      have hql := hR2.le
      have hqq : ((q : Int) == (q : Int)) = true := by simp
      have hll : (8 * (bs.length : Int) - (q : Int) == 8 * (bs.length : Int) - (q : Int)) = true := by simp
      have Hv0 := Lib.hid hv0
      have HR2 := Lib.hid hR2
      have HX2 := Lib.hid hX2
      clear hv0 hR2 hX2
      go_wp2_with fail
      go_quiet ((first | (go_at_call 12; exact still_at (at_any _ _ _ hd0)) | (go_at_call 13; exact Calls.quiet_of (left_any (HR2.out.drewN _)))))
      go_wp2
      go_ret
      exact ⟨rfl, q, ⟨HR2.out.drewN _, HX2.out.drewN _⟩, hoB.drewN _⟩
    · have hb1' : (k == 1) = false := by simpa using hk1
      by_cases hk2 : k = 2
      · subst hk2
        have H1 := Lib.hid (runary_any (hR.alloc (.cells #[iv 2, iv n, iv z] 35)))
        have hX0 := hX.alloc (.cells #[iv 2, iv n, iv z] 35)
        have hbox := Box.new w 35 #[iv 2, iv n, iv z]
        have HX0 := Lib.hid hX0
        have Hbox := Lib.hid hbox
        have HR0 := Lib.hid (hR.alloc (.cells #[iv 2, iv n, iv z] 35))
        clear hX0 hbox hR hX
        go_enter Try.func14, Try.ntmps14
        go_wp2_with fail
        refine (H1.out).mono ?_
        rintro e w1 ⟨rfl, hR1, ho1⟩
        have hX1 := keep_ref HR0.out HX0.out ho1
        have hb1 := Hbox.out.only ho1 (by show ¬ (w.heap.size = r); omega)
        have hk1 := hb1.cell 1
        simp only [List.getElem?_toArray, List.getElem?_cons_zero, List.getElem?_cons_succ] at hk1
        have H2 := Lib.hid (unaryRef_any hX1)
        go_wp2_with fail
        refine (H2.out).mono ?_
        rintro e w2 ⟨rfl, hX2, ho2⟩
        have hR2 := keep_one hR1 hX1 ho2
        have hoB := both_only ho1 ho2
        have hee1 : (unaryR bs a == unaryR bs a) = true := by simp
        have hee2 : (unaryE bs a == unaryE bs a) = true := by simp
        clear H1 H2 HX0 HR0 Hbox hX1 hR1 hb1 hk1 ho1 ho2
        generalize unaryR bs a = R at *
        generalize unaryE bs a = E at *
        generalize unaryA bs a = q at *
        obtain ⟨A0, c0, hv0⟩ := hX2.slice
        have hc0 := hX2.cell0
        rw [hv0] at hc0
        have hc1 := hX2.cell1
        have hd0 := hR2.cell0
        have hql := hR2.le
        have hqq : ((q : Int) == (q : Int)) = true := by simp
        have hll : (8 * (bs.length : Int) - (q : Int) == 8 * (bs.length : Int) - (q : Int)) = true := by simp
        have Hv0 := Lib.hid hv0
        have HR2 := Lib.hid hR2
        have HX2 := Lib.hid hX2
        clear hv0 hR2 hX2
        go_wp2_with fail
        go_quiet ((first | (go_at_call 12; exact still_at (at_any _ _ _ hd0)) | (go_at_call 13; exact Calls.quiet_of (left_any (HR2.out.drewN _)))))
        go_wp2
        go_ret
        exact ⟨rfl, q, ⟨HR2.out.drewN _, HX2.out.drewN _⟩, hoB.drewN _⟩
      · have hb2 : (k == 2) = false := by simpa using hk2
        by_cases hk3 : k = 3
        · subst hk3
          have H1 := Lib.hid (ralign_any (hR.alloc (.cells #[iv 3, iv n, iv z] 35)))
          have hX0 := hX.alloc (.cells #[iv 3, iv n, iv z] 35)
          have hbox := Box.new w 35 #[iv 3, iv n, iv z]
          have HX0 := Lib.hid hX0
          have Hbox := Lib.hid hbox
          have HR0 := Lib.hid (hR.alloc (.cells #[iv 3, iv n, iv z] 35))
          clear hX0 hbox hR hX
          go_enter Try.func14, Try.ntmps14
          go_wp2_with fail
          refine (H1.out).mono ?_
          rintro e w1 ⟨rfl, hR1, ho1⟩
          have hX1 := keep_ref HR0.out HX0.out ho1
          have hb1 := Hbox.out.only ho1 (by show ¬ (w.heap.size = r); omega)
          have hk1 := hb1.cell 1
          simp only [List.getElem?_toArray, List.getElem?_cons_zero, List.getElem?_cons_succ] at hk1
          have H2 := Lib.hid (alignRef_any hX1)
          go_wp2_with fail
          refine (H2.out).mono ?_
          rintro e w2 ⟨rfl, hX2, ho2⟩
          have hR2 := keep_one hR1 hX1 ho2
          have hoB := both_only ho1 ho2
          have hee1 : (alignR bs a == alignR bs a) = true := by simp
          have hee2 : (alignE bs a == alignE bs a) = true := by simp
          clear H1 H2 HX0 HR0 Hbox hX1 hR1 hb1 hk1 ho1 ho2
          generalize alignR bs a = R at *
          generalize alignE bs a = E at *
          generalize alignA bs a = q at *
          obtain ⟨A0, c0, hv0⟩ := hX2.slice
          have hc0 := hX2.cell0
          rw [hv0] at hc0
          have hc1 := hX2.cell1
          have hd0 := hR2.cell0
          have hql := hR2.le
          have hqq : ((q : Int) == (q : Int)) = true := by simp
          have hll : (8 * (bs.length : Int) - (q : Int) == 8 * (bs.length : Int) - (q : Int)) = true := by simp
          have Hv0 := Lib.hid hv0
          have HR2 := Lib.hid hR2
          have HX2 := Lib.hid hX2
          clear hv0 hR2 hX2
          go_wp2_with fail
          go_quiet ((first | (go_at_call 12; exact still_at (at_any _ _ _ hd0)) | (go_at_call 13; exact Calls.quiet_of (left_any (HR2.out.drewN _)))))
          go_wp2
          go_ret
          exact ⟨rfl, q, ⟨HR2.out.drewN _, HX2.out.drewN _⟩, hoB.drewN _⟩
        · have hb3 : (k == 3) = false := by simpa using hk3
          have H1 := Lib.hid (seek_any (hR.alloc (.cells #[iv k, iv n, iv z] 35)) n)
          have hX0 := hX.alloc (.cells #[iv k, iv n, iv z] 35)
          have hbox := Box.new w 35 #[iv k, iv n, iv z]
          have HX0 := Lib.hid hX0
          have Hbox := Lib.hid hbox
          have HR0 := Lib.hid (hR.alloc (.cells #[iv k, iv n, iv z] 35))
          clear hX0 hbox hR hX
          go_enter Try.func14, Try.ntmps14
          go_wp2_with fail
          refine (H1.out).mono ?_
          rintro e w1 ⟨rfl, hR1, ho1⟩
          have hX1 := keep_ref HR0.out HX0.out ho1
          have hb1 := Hbox.out.only ho1 (by show ¬ (w.heap.size = r); omega)
          have hk1 := hb1.cell 1
          simp only [List.getElem?_toArray, List.getElem?_cons_zero, List.getElem?_cons_succ] at hk1
          have H2 := Lib.hid (seekRef_any hX1 n)
          go_wp2_with fail
          refine (H2.out).mono ?_
          rintro e w2 ⟨rfl, hX2, ho2⟩
          have hR2 := keep_one hR1 hX1 ho2
          have hoB := both_only ho1 ho2
          have hee2 : (seekE bs n == seekE bs n) = true := by simp
          clear H1 H2 HX0 HR0 Hbox hX1 hR1 hb1 hk1 ho1 ho2
          generalize seekE bs n = E at *
          generalize seekA bs a n = q at *
          obtain ⟨A0, c0, hv0⟩ := hX2.slice
          have hc0 := hX2.cell0
          rw [hv0] at hc0
          have hc1 := hX2.cell1
          have hd0 := hR2.cell0
          have hql := hR2.le
          have hqq : ((q : Int) == (q : Int)) = true := by simp
          have hll : (8 * (bs.length : Int) - (q : Int) == 8 * (bs.length : Int) - (q : Int)) = true := by simp
          have Hv0 := Lib.hid hv0
          have HR2 := Lib.hid hR2
          have HX2 := Lib.hid hX2
          clear hv0 hR2 hX2
          go_wp2_with fail
          go_quiet ((first | (go_at_call 12; exact still_at (at_any _ _ _ hd0)) | (go_at_call 13; exact Calls.quiet_of (left_any (HR2.out.drewN _)))))
          go_wp2
          go_ret
          exact ⟨rfl, q, ⟨HR2.out.drewN _, HX2.out.drewN _⟩, hoB.drewN _⟩
end
end Go.Proofs.Ytpcddacfhmkkbaa
