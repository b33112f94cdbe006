/-
  BitsParts, walked.
-/
import Derived.Test.YtpcddacfhmkkbaaIn
import Derived.Test.YtpcddacfhmkkbaaRegion
import Derived.SizedLaws
namespace Go.Proofs.Ytpcddacfhmkkbaa
open Go.ChangeShapes Go.WideShapes Go.ChangeAt Go.RowKit Go.Joins

/-- two Readers of the same bytes, at the same place -/
structure Both (w0 w : World) (r x : Nat) (rv xv : Value) (bs : List Nat) (a q : Nat) : Prop where
  one : Rd w r rv bs a
  other : Rd w x xv bs q
  r0 : w0.heap.size ≤ r
  ne : r < x
  frame : Only Nix w0 w
section
variable {w0 w w' : World} {r x a q a' q' : Nat} {rv xv : Value} {bs : List Nat}
theorem Both.first (h : Both w0 w r x rv xv bs a q) (hR : Rd w' r rv bs a') (ho : Only (Just r) w w') : Both w0 w' r x rv xv bs a' q :=
  ⟨hR, h.other.keep ho (by have := h.ne; show ¬ (x = r); omega) (fun g hg e => owns_box h.other.own h.one.box (by decide) (by rw [hg]; exact congrArg some e)), h.r0, h.ne, h.frame.then ho (fun k e => .inr (by have := h.r0; have h : k = r := e; omega))⟩
theorem Both.second (h : Both w0 w r x rv xv bs a q) (hR : Rd w' x xv bs q') (ho : Only (Just x) w w') : Both w0 w' r x rv xv bs a q' :=
  ⟨h.one.keep ho (by have := h.ne; show ¬ (r = x); omega) (fun g hg e => owns_box h.one.own h.other.box (by decide) (by rw [hg]; exact congrArg some e)), hR, h.r0, h.ne, h.frame.then ho (fun k e => .inr (by have := h.r0; have := h.ne; have h : k = x := e; omega))⟩
theorem Both.drewN (h : Both w0 w r x rv xv bs a q) (n : Nat) : Both w0 (w.drewN n) r x rv xv bs a q := ⟨h.one.drewN n, h.other.drewN n, h.r0, h.ne, h.frame.drewN n⟩
end

section
variable {W0 : World} {r z a c : Nat} {rv zv : Value} {bs : List Nat}
/-- the class of worlds in which both Readers stand where they stand -/
abbrev BothIn (W0 : World) (r z : Nat) (rv zv : Value) (bs : List Nat) (a c : Nat) : Type := In (fun u => Both W0 u r z rv zv bs a c)
theorem atB (q : BothIn W0 r z rv zv bs a c) : Calls Try.prog 12 #[.pointer (some ⟨r, 0, none⟩)] q.val fun e w' => e = .returned (.int .i64 (a : Int)) ∧ ∃ u : BothIn W0 r z rv zv bs a c, w' = u.val :=
  class_call (G := fun u => Both W0 u r z rv zv bs a c) ((at_any _ _ _ q.prop.one.cell0).mono fun _ _ hh => ⟨hh.1, hh.2 ▸ q.prop⟩)
theorem leftB (q : BothIn W0 r z rv zv bs a c) : Calls Try.prog 13 #[.pointer (some ⟨z, 0, none⟩)] q.val fun e w' => e = .returned (.int .i64 (8 * (bs.length : Int) - (c : Int))) ∧ ∃ u : BothIn W0 r z rv zv bs a c, w' = u.val :=
  class_call (G := fun u => Both W0 u r z rv zv bs a c) ((left_any q.prop.other).mono fun _ _ hh => ⟨hh.1, by obtain ⟨k, hk⟩ := hh.2; subst hk; exact q.prop.drewN k⟩)
theorem awakeB (q : BothIn W0 r z rv zv bs a c) : Calls Try.prog 9 #[] q.val fun e w' => e = .returned (.bool true) ∧ ∃ u : BothIn W0 r z rv zv bs a c, w' = u.val :=
  class_call (G := fun u => Both W0 u r z rv zv bs a c) ((awake_any _).mono fun _ _ hh => ⟨hh.1, q.prop.one.nix hh.2, q.prop.other.nix hh.2, q.prop.r0, q.prop.ne, q.prop.frame.trans hh.2⟩)
end

set_option maxHeartbeats 2000000 in
set_option maxRecDepth 100000 in
theorem bitsParts_walk (v0 : Value) (bs : List Nat) (t x y : Int) (w : World) (h0 : BytesIn w v0 bs) (hs0 : bs.length ≤ 140737488355328) (hlt : ∀ x ∈ bs, x < 256) (hfx : Fits x) (hfy : Fits y) :
    Calls Try.prog 8 #[v0, .int .i64 t, .agg #[iv x, iv y]] w fun e w' => e = .returned (.bool true) ∧ Only Nix w w' := by
  obtain ⟨A0, c0, hv0⟩ := h0.slice
  subst hv0
  have hS : Src w (.slice A0 bs.length c0) bs := ⟨h0, hs0⟩
  have HS := Lib.hid hS
  clear h0 hS
  go_enter Try.func8, Try.ntmps8
  go_wp2_with fail
  have o0 := (Only.refl Nix w).alloc (.cells #[iv x, iv y] 55)
  have hk0 : (w.alloc (.cells #[iv x, iv y] 55)).cell? ⟨w.heap.size, 0, none⟩ = some (iv x) := by simp
  have hk1 : (w.alloc (.cells #[iv x, iv y] 55)).cell? ⟨w.heap.size, 1, none⟩ = some (iv y) := by simp
  generalize w.alloc (.cells #[iv x, iv y] 55) = W0 at *
  generalize w.heap.size = B at *
  have Hk := Lib.hid (And.intro hk0 hk1)
  clear hk0 hk1
  refine (newReader_any (HS.out.nix o0) hlt).mono ?_
  rintro e w1 ⟨r, rv, rfl, hR1, hN1, ho1⟩
  go_wp2_with fail
  refine (newReader_any (HS.out.nix (o0.trans ho1)) hlt).mono ?_
  rintro e w2 ⟨z, zv, rfl, hX2, hN2, ho2⟩
  have hB : Both W0 w2 r z rv zv bs 0 0 := ⟨hR1.nix ho2, hX2, hN1.1, by have := hN2.1; have := hR1.mem; omega, ho1.trans ho2⟩
  clear hR1 hN1 ho1 hX2 hN2 ho2
  by_cases hlen : 300 < bs.length
  · have hd : decide ((300 : Int) < (bs.length : Int)) = true := by simp; omega
    go_wp2_with fail
    refine (awake_any _).mono ?_
    rintro e w3 ⟨rfl, ho3⟩
    go_wp2
    go_ret
    exact ⟨rfl, o0.trans (hB.frame.trans ho3)⟩
  · have hd : decide ((300 : Int) < (bs.length : Int)) = false := by simp; omega
    have H1 := Lib.hid (seek_any hB.one t)
    go_wp2_with fail
    refine (H1.out).mono ?_
    rintro e w3 ⟨rfl, hR3, ho3⟩
    have hB3 := hB.first hR3 ho3
    have H2 := Lib.hid (seek_any hB3.other t)
    clear hB hR3 ho3 H1
    go_wp2_with fail
    refine (H2.out).mono ?_
    rintro e w4 ⟨rfl, hX4, ho4⟩
    have hB4 := hB3.second hX4 ho4
    clear hB3 hX4 ho4 H2
    have hse : (seekE bs t != seekE bs t) = false := by simp
    generalize seekE bs t = SE at *
    generalize seekA bs 0 t = a at *
    have hc := hB4.one.cell0
    have hal := hB4.one.le
    go_wp2_with fail
    refine (at_any _ _ _ hc).mono ?_
    rintro e w5 ⟨rfl, rfl⟩
    go_wp2_with fail
    refine (left_any hB4.one).mono ?_
    rintro e w5 ⟨rfl, m5, rfl⟩
    have hB5 := hB4.drewN m5
    generalize w4.drewN m5 = w5 at *
    clear hB4 hc
    have hsum : ((a : Int) + (8 * (bs.length : Int) - (a : Int)) != 8 * (bs.length : Int)) = false := by
      rw [bne_eq_false_iff_eq]; omega
    have hc := hB5.one.cell0
    go_wp2_with fail
    refine (at_any _ _ _ hc).mono ?_
    rintro e w6 ⟨rfl, rfl⟩
    obtain ⟨hk0, hk1⟩ := Hk.out
    have k0 := cell_keep hB5.frame hk0
    have k1 := cell_keep hB5.frame hk1
    clear hk0 hk1
    by_cases hx0 : x < 0
    · have hx0' := hx0
      have g1 : decide (x < 0) = true := by simpa using hx0
      have g2 : decide (0 ≤ x) = false := by simpa using hx0
      have c1 := take_any hB5.one x
      have e1 : takeE bs a x = 1 := takeE_arg (by omega)
      rw [show takeR bs a x = 0 from by unfold takeR; rw [e1]; rfl, show takeA bs a x = a from by unfold takeA; rw [e1]; rfl, e1] at c1
      have C1 := Lib.hid c1
      clear c1 e1
      go_wp2_with fail
      refine (C1.out).mono ?_
      rintro e w6 ⟨rfl, hR6, ho6⟩
      have hB6 := hB5.first hR6 ho6
      have haa : ((a : Int) == (a : Int)) = true := by simp
      have HB6 := Lib.hid hB6
      clear hB5 hB6 hR6 ho6 hc k0 k1
      go_wp2_with fail
      refine region_class (fun u => Both W0 u r z rv zv bs a a) (by kernel_rfl) (by kernel_rfl) (HB6.out.drewN 1) ?_
      haveI hne : Nonempty (In (fun u => Both W0 u r z rv zv bs a a)) := ⟨⟨_, HB6.out⟩⟩
      have hcl : ∀ u : In (fun u => Both W0 u r z rv zv bs a a), u.val.cell? ⟨B, 0, none⟩ = some (iv x) := fun u => cell_keep u.prop.frame Hk.out.1
      repeat (first | go_big_quiet_step ((first | (go_at_call 12; exact atB _) | (go_at_call 13; exact leftB _) | (go_at_call 9; exact awakeB _))) | quiet_step ((first | (go_at_call 12; exact atB _) | (go_at_call 13; exact leftB _) | (go_at_call 9; exact awakeB _))))
      refine wpQuiet_nil ?_
      intro w7 hw7
      obtain ⟨q7, rfl⟩ := hw7
      have o7 := q7.prop.frame
      generalize q7.val = w7 at *
      clear hcl hne
      go_wp2
      go_ret
      exact ⟨rfl, o0.trans o7⟩
    · by_cases hy0 : y < 0
      · have hy0' := hy0
        have g1 : decide (x < 0) = false := by simpa using hx0
        have g3 : decide (y < 0) = true := by simpa using hy0
        have g2 : decide (0 ≤ x) = true := by simp; omega
        by_cases hx48 : 48 < x
        · have g4 : decide (x ≤ 48) = false := by simp; omega
          have c1 := take_any hB5.one x
          have e1 : takeE bs a x = 1 := takeE_arg (by omega)
          rw [show takeR bs a x = 0 from by unfold takeR; rw [e1]; rfl, show takeA bs a x = a from by unfold takeA; rw [e1]; rfl, e1] at c1
          have C1 := Lib.hid c1
          clear c1 e1
          go_wp2_with fail
          refine (C1.out).mono ?_
          rintro e w6 ⟨rfl, hR6, ho6⟩
          have hB6 := hB5.first hR6 ho6
          have haa : ((a : Int) == (a : Int)) = true := by simp
          have HB6 := Lib.hid hB6
          clear hB5 hB6 hR6 ho6 hc k0 k1
          go_wp2_with fail
          refine region_class (fun u => Both W0 u r z rv zv bs a a) (by kernel_rfl) (by kernel_rfl) (HB6.out.drewN 1) ?_
          haveI hne : Nonempty (In (fun u => Both W0 u r z rv zv bs a a)) := ⟨⟨_, HB6.out⟩⟩
          have hcl : ∀ u : In (fun u => Both W0 u r z rv zv bs a a), u.val.cell? ⟨B, 0, none⟩ = some (iv x) := fun u => cell_keep u.prop.frame Hk.out.1
          repeat (first | go_big_quiet_step ((first | (go_at_call 12; exact atB _) | (go_at_call 13; exact leftB _) | (go_at_call 9; exact awakeB _))) | quiet_step ((first | (go_at_call 12; exact atB _) | (go_at_call 13; exact leftB _) | (go_at_call 9; exact awakeB _))))
          refine wpQuiet_nil ?_
          intro w7 hw7
          obtain ⟨q7, rfl⟩ := hw7
          have o7 := q7.prop.frame
          generalize q7.val = w7 at *
          clear hcl hne
          go_wp2
          go_ret
          exact ⟨rfl, o0.trans o7⟩
        · have g4 : decide (x ≤ 48) = true := by simp; omega
          by_cases hE : 8 * (bs.length : Int) - a < x
          · have c1 := take_any hB5.one x
            have e1 : takeE bs a x = 11 := takeE_end (by omega) (by omega)
            rw [show takeR bs a x = 0 from by unfold takeR; rw [e1]; rfl, show takeA bs a x = a from by unfold takeA; rw [e1]; rfl, e1] at c1
            have C1 := Lib.hid c1
            clear c1 e1
            have hle : decide (x ≤ 8 * (bs.length : Int) - (a : Int)) = false := by simp; omega
            go_wp2_with fail
            refine (C1.out).mono ?_
            rintro e w6 ⟨rfl, hR6, ho6⟩
            have hB6 := hB5.first hR6 ho6
            have haa : ((a : Int) == (a : Int)) = true := by simp
            have HB6 := Lib.hid hB6
            clear hB5 hB6 hR6 ho6 hc k0 k1
            go_wp2_with fail
            refine region_class (fun u => Both W0 u r z rv zv bs a a) (by kernel_rfl) (by kernel_rfl) (HB6.out.drewN 1) ?_
            haveI hne : Nonempty (In (fun u => Both W0 u r z rv zv bs a a)) := ⟨⟨_, HB6.out⟩⟩
            have hcl : ∀ u : In (fun u => Both W0 u r z rv zv bs a a), u.val.cell? ⟨B, 0, none⟩ = some (iv x) := fun u => cell_keep u.prop.frame Hk.out.1
            repeat (first | go_big_quiet_step ((first | (go_at_call 12; exact atB _) | (go_at_call 13; exact leftB _) | (go_at_call 9; exact awakeB _))) | quiet_step ((first | (go_at_call 12; exact atB _) | (go_at_call 13; exact leftB _) | (go_at_call 9; exact awakeB _))))
            refine wpQuiet_nil ?_
            intro w7 hw7
            obtain ⟨q7, rfl⟩ := hw7
            have o7 := q7.prop.frame
            generalize q7.val = w7 at *
            clear hcl hne
            go_wp2
            go_ret
            exact ⟨rfl, o0.trans o7⟩
          · obtain ⟨m, rfl⟩ := Int.eq_ofNat_of_zero_le (show 0 ≤ x by omega)
            have hle : decide ((m : Int) ≤ 8 * (bs.length : Int) - (a : Int)) = true := by simp; omega
            go_wp2_with fail
            refine (take_ok hB5.one m (by omega) (by omega)).mono ?_
            rintro e w6 ⟨rfl, hR6, ho6⟩
            have hB6 := hB5.first hR6 ho6
            have HB6 := Lib.hid hB6
            clear hB5 hB6 hR6 ho6 hc k0 k1
            go_wp2_with fail
            refine region_class (fun u => Both W0 u r z rv zv bs (a + m) a) (by kernel_rfl) (by kernel_rfl) (HB6.out.drewN 1) ?_
            haveI hne : Nonempty (In (fun u => Both W0 u r z rv zv bs (a + m) a)) := ⟨⟨_, HB6.out⟩⟩
            have hcl : ∀ u : In (fun u => Both W0 u r z rv zv bs (a + m) a), u.val.cell? ⟨B, 0, none⟩ = some (iv (m : Int)) := fun u => cell_keep u.prop.frame Hk.out.1
            repeat (first | go_big_quiet_step ((first | (go_at_call 12; exact atB _) | (go_at_call 13; exact leftB _) | (go_at_call 9; exact awakeB _))) | quiet_step ((first | (go_at_call 12; exact atB _) | (go_at_call 13; exact leftB _) | (go_at_call 9; exact awakeB _))))
            refine wpQuiet_nil ?_
            intro w7 hw7
            obtain ⟨q7, rfl⟩ := hw7
            have o7 := q7.prop.frame
            generalize q7.val = w7 at *
            clear hcl hne
            go_wp2
            go_ret
            exact ⟨rfl, o0.trans o7⟩
      · by_cases hx48 : 48 < x
        · have hx48' := hx48
          have g1 : decide (x < 0) = false := by simpa using hx0
          have g3 : decide (y < 0) = false := by simpa using hy0
          have g2 : decide (0 ≤ x) = true := by simp; omega
          have g4 : decide (x ≤ 48) = false := by simp; omega
          have g5 : decide (48 < x) = true := by simpa using hx48
          have c1 := take_any hB5.one x
          have e1 : takeE bs a x = 1 := takeE_arg (by omega)
          rw [show takeR bs a x = 0 from by unfold takeR; rw [e1]; rfl, show takeA bs a x = a from by unfold takeA; rw [e1]; rfl, e1] at c1
          have C1 := Lib.hid c1
          clear c1 e1
          go_wp2_with fail
          refine (C1.out).mono ?_
          rintro e w6 ⟨rfl, hR6, ho6⟩
          have hB6 := hB5.first hR6 ho6
          have haa : ((a : Int) == (a : Int)) = true := by simp
          have HB6 := Lib.hid hB6
          clear hB5 hB6 hR6 ho6 hc k0 k1
          go_wp2_with fail
          refine region_class (fun u => Both W0 u r z rv zv bs a a) (by kernel_rfl) (by kernel_rfl) (HB6.out.drewN 1) ?_
          haveI hne : Nonempty (In (fun u => Both W0 u r z rv zv bs a a)) := ⟨⟨_, HB6.out⟩⟩
          have hcl : ∀ u : In (fun u => Both W0 u r z rv zv bs a a), u.val.cell? ⟨B, 0, none⟩ = some (iv x) := fun u => cell_keep u.prop.frame Hk.out.1
          repeat (first | go_big_quiet_step ((first | (go_at_call 12; exact atB _) | (go_at_call 13; exact leftB _) | (go_at_call 9; exact awakeB _))) | quiet_step ((first | (go_at_call 12; exact atB _) | (go_at_call 13; exact leftB _) | (go_at_call 9; exact awakeB _))))
          refine wpQuiet_nil ?_
          intro w7 hw7
          obtain ⟨q7, rfl⟩ := hw7
          have o7 := q7.prop.frame
          generalize q7.val = w7 at *
          clear hcl hne
          go_wp2
          go_ret
          exact ⟨rfl, o0.trans o7⟩
        · by_cases hxy : 48 - x < y
          · have hxy' := hxy
            have g1 : decide (x < 0) = false := by simpa using hx0
            have g3 : decide (y < 0) = false := by simpa using hy0
            have g2 : decide (0 ≤ x) = true := by simp; omega
            have g4 : decide (x ≤ 48) = true := by simp; omega
            have g5 : decide (48 < x) = false := by simpa using hx48
            have g6 : decide (48 - x < y) = true := by simpa using hxy
            by_cases hE : 8 * (bs.length : Int) - a < x
            · have c1 := take_any hB5.one x
              have e1 : takeE bs a x = 11 := takeE_end (by omega) (by omega)
              rw [show takeR bs a x = 0 from by unfold takeR; rw [e1]; rfl, show takeA bs a x = a from by unfold takeA; rw [e1]; rfl, e1] at c1
              have C1 := Lib.hid c1
              clear c1 e1
              have hle : decide (x ≤ 8 * (bs.length : Int) - (a : Int)) = false := by simp; omega
              go_wp2_with fail
              refine (C1.out).mono ?_
              rintro e w6 ⟨rfl, hR6, ho6⟩
              have hB6 := hB5.first hR6 ho6
              have haa : ((a : Int) == (a : Int)) = true := by simp
              have HB6 := Lib.hid hB6
              clear hB5 hB6 hR6 ho6 hc k0 k1
              go_wp2_with fail
              refine region_class (fun u => Both W0 u r z rv zv bs a a) (by kernel_rfl) (by kernel_rfl) (HB6.out.drewN 1) ?_
              haveI hne : Nonempty (In (fun u => Both W0 u r z rv zv bs a a)) := ⟨⟨_, HB6.out⟩⟩
              have hcl : ∀ u : In (fun u => Both W0 u r z rv zv bs a a), u.val.cell? ⟨B, 0, none⟩ = some (iv x) := fun u => cell_keep u.prop.frame Hk.out.1
              repeat (first | go_big_quiet_step ((first | (go_at_call 12; exact atB _) | (go_at_call 13; exact leftB _) | (go_at_call 9; exact awakeB _))) | quiet_step ((first | (go_at_call 12; exact atB _) | (go_at_call 13; exact leftB _) | (go_at_call 9; exact awakeB _))))
              refine wpQuiet_nil ?_
              intro w7 hw7
              obtain ⟨q7, rfl⟩ := hw7
              have o7 := q7.prop.frame
              generalize q7.val = w7 at *
              clear hcl hne
              go_wp2
              go_ret
              exact ⟨rfl, o0.trans o7⟩
            · obtain ⟨m, rfl⟩ := Int.eq_ofNat_of_zero_le (show 0 ≤ x by omega)
              have hle : decide ((m : Int) ≤ 8 * (bs.length : Int) - (a : Int)) = true := by simp; omega
              go_wp2_with fail
              refine (take_ok hB5.one m (by omega) (by omega)).mono ?_
              rintro e w6 ⟨rfl, hR6, ho6⟩
              have hB6 := hB5.first hR6 ho6
              have HB6 := Lib.hid hB6
              clear hB5 hB6 hR6 ho6 hc k0 k1
              go_wp2_with fail
              refine region_class (fun u => Both W0 u r z rv zv bs (a + m) a) (by kernel_rfl) (by kernel_rfl) (HB6.out.drewN 1) ?_
              haveI hne : Nonempty (In (fun u => Both W0 u r z rv zv bs (a + m) a)) := ⟨⟨_, HB6.out⟩⟩
              have hcl : ∀ u : In (fun u => Both W0 u r z rv zv bs (a + m) a), u.val.cell? ⟨B, 0, none⟩ = some (iv (m : Int)) := fun u => cell_keep u.prop.frame Hk.out.1
              repeat (first | go_big_quiet_step ((first | (go_at_call 12; exact atB _) | (go_at_call 13; exact leftB _) | (go_at_call 9; exact awakeB _))) | quiet_step ((first | (go_at_call 12; exact atB _) | (go_at_call 13; exact leftB _) | (go_at_call 9; exact awakeB _))))
              refine wpQuiet_nil ?_
              intro w7 hw7
              obtain ⟨q7, rfl⟩ := hw7
              have o7 := q7.prop.frame
              generalize q7.val = w7 at *
              clear hcl hne
              go_wp2
              go_ret
              exact ⟨rfl, o0.trans o7⟩
          · obtain ⟨m, rfl⟩ := Int.eq_ofNat_of_zero_le (show 0 ≤ x by omega)
            obtain ⟨n, rfl⟩ := Int.eq_ofNat_of_zero_le (show 0 ≤ y by omega)
            have g1 : decide ((m : Int) < 0) = false := by simp
            have g2 : decide ((n : Int) < 0) = false := by simp
            have g3 : decide ((48 : Int) < (m : Int)) = false := by simp; omega
            have g4 : decide ((48 : Int) - (m : Int) < (n : Int)) = false := by simp; omega
            have hmn : m + n ≤ 48 := by omega
            by_cases hE : 8 * bs.length < a + m + n
            · have hE' := hE
              have e1 : takeE bs a ((m : Int) + (n : Int)) = 11 := takeE_end (by omega) (by omega)
              have c1 := take_any hB5.one ((m : Int) + (n : Int))
              rw [show takeR bs a ((m : Int) + (n : Int)) = 0 from by unfold takeR; rw [e1]; rfl, show takeA bs a ((m : Int) + (n : Int)) = a from by unfold takeA; rw [e1]; rfl, e1] at c1
              have C1 := Lib.hid c1
              clear c1 e1
              go_wp2_with fail
              refine (C1.out).mono ?_
              rintro e w6 ⟨rfl, hR6, ho6⟩
              have hB6 := hB5.first hR6 ho6
              have k0 := cell_keep hB6.frame Hk.out.1
              have k1 := cell_keep hB6.frame Hk.out.2
              have haa : ((a : Int) == (a : Int)) = true := by simp
              by_cases hE2 : 8 * bs.length < a + m
              · have e2 : takeE bs a (m : Int) = 11 := takeE_end (by omega) (by omega)
                have c2 := take_any hB6.other (m : Int)
                rw [e2, show takeA bs a (m : Int) = a from by unfold takeA; rw [e2]; rfl] at c2
                have C2 := Lib.hid c2
                clear c2 e2
                go_wp2_with fail
                refine (C2.out).mono ?_
                rintro e w7 ⟨rfl, hX7, ho7⟩
                have hB7 := hB6.second hX7 ho7
                have k0 := cell_keep hB7.frame Hk.out.1
                have k1 := cell_keep hB7.frame Hk.out.2
                go_wp2_with fail
                refine (take_any hB7.other (n : Int)).mono ?_
                rintro e w8 ⟨rfl, hX8, ho8⟩
                have hB8 := hB7.second hX8 ho8
                have hc8 := hB8.one.cell0
                go_wp2_with fail
                refine (at_any _ _ _ hc8).mono ?_
                rintro e w9 ⟨rfl, rfl⟩
                go_wp2_with fail
                refine (awake_any _).mono ?_
                rintro e w9 ⟨rfl, ho9⟩
                go_wp2
                go_ret
                exact ⟨rfl, o0.trans (hB8.frame.trans ho9)⟩
              · have e2 : takeE bs a (m : Int) = 0 := takeE_ok (by omega) (by omega)
                have c2 := take_ok hB6.other m (by omega) (by omega)
                have C2 := Lib.hid c2
                clear c2 e2
                go_wp2_with fail
                refine (C2.out).mono ?_
                rintro e w7 ⟨rfl, hX7, ho7⟩
                have hB7 := hB6.second hX7 ho7
                have k0 := cell_keep hB7.frame Hk.out.1
                have k1 := cell_keep hB7.frame Hk.out.2
                have e3 : takeE bs (a + m) (n : Int) = 11 := takeE_end (by omega) (by omega)
                have c3 := take_any hB7.other (n : Int)
                rw [e3] at c3
                have C3 := Lib.hid c3
                clear c3 e3
                go_wp2_with fail
                refine (C3.out).mono ?_
                rintro e w8 ⟨rfl, hX8, ho8⟩
                have hB8 := hB7.second hX8 ho8
                have hc8 := hB8.one.cell0
                go_wp2_with fail
                refine (at_any _ _ _ hc8).mono ?_
                rintro e w9 ⟨rfl, rfl⟩
                go_wp2_with fail
                refine (awake_any _).mono ?_
                rintro e w9 ⟨rfl, ho9⟩
                go_wp2
                go_ret
                exact ⟨rfl, o0.trans (hB8.frame.trans ho9)⟩
            · have e1 : takeE bs a ((m : Int) + (n : Int)) = 0 := takeE_ok (by omega) (by omega)
              have e2 : takeE bs a (m : Int) = 0 := takeE_ok (by omega) (by omega)
              have e3 : takeE bs (a + m) (n : Int) = 0 := takeE_ok (by omega) (by omega)
              have c1 := take_ok hB5.one (m + n) (by omega) (by omega)
              rw [show ((m + n : Nat) : Int) = (m : Int) + (n : Int) from by omega] at c1
              have C1 := Lib.hid c1
              clear c1
              go_wp2_with fail
              refine (C1.out).mono ?_
              rintro e w6 ⟨rfl, hR6, ho6⟩
              have hB6 := hB5.first hR6 ho6
              have k0 := cell_keep hB6.frame Hk.out.1
              have k1 := cell_keep hB6.frame Hk.out.2
              go_wp2_with fail
              refine (take_ok hB6.other m (by omega) (by omega)).mono ?_
              rintro e w7 ⟨rfl, hX7, ho7⟩
              have hB7 := hB6.second hX7 ho7
              have k0 := cell_keep hB7.frame Hk.out.1
              have k1 := cell_keep hB7.frame Hk.out.2
              go_wp2_with fail
              refine (take_ok hB7.other n (by omega) (by omega)).mono ?_
              rintro e w8 ⟨rfl, hX8, ho8⟩
              have hB8 := hB7.second hX8 ho8
              have k1 := cell_keep hB8.frame Hk.out.2
              have hc8 := hB8.one.cell0
              have hd8 := hB8.other.cell0
              have hp := val_more (bitsOf bs) a m n (by rw [bitsOf_len]; omega)
              have hl1 := numAt_lt bs a m
              have hl2 := numAt_lt bs (a + m) n
              have hval : ((numAt bs a (m + n) : Int) == wrap64 (wrap64 ((numAt bs a m : Int) * wrap64 (2 ^ n)) + (numAt bs (a + m) n : Int))) = true := by
                have hq : numAt bs a (m + n) = numAt bs a m * 2 ^ n + numAt bs (a + m) n := hp
                have hl3 := numAt_lt48 bs a (m + n) (by omega)
                rw [w64_pow n (by omega), ← Int.natCast_mul, beq_iff_eq, hq]
                generalize numAt bs a m * 2 ^ n = P at *
                rw [w64 (P : Int) (by omega) (by omega), w64 _ (by omega) (by omega)]
                omega
              have hpos : (((a + (m + n) : Nat) : Int) == ((a + m + n : Nat) : Int)) = true := by rw [beq_iff_eq]; omega
              clear hp hl1 hl2 e1 e2 e3
              go_wp2_with fail
              refine (at_any _ _ _ hc8).mono ?_
              rintro e w9 ⟨rfl, rfl⟩
              go_wp2_with fail
              refine (at_any _ _ _ hd8).mono ?_
              rintro e w9 ⟨rfl, rfl⟩
              go_wp2_with fail
              refine (awake_any _).mono ?_
              rintro e w9 ⟨rfl, ho9⟩
              go_wp2
              go_ret
              exact ⟨rfl, o0.trans (hB8.frame.trans ho9)⟩
end Go.Proofs.Ytpcddacfhmkkbaa
