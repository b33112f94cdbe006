/-
  The document's Reader: Take.
-/
import Derived.Test.YtpcddacfhmkkbaaRefMore
namespace Go.Proofs.Ytpcddacfhmkkbaa
open Go.RowKit

section
variable {w w' : World} {x : Nat} {v : Value} {bs : List Nat} {a : Nat}

set_option maxHeartbeats 400000 in
theorem takeRef_any (s : Bool) (h : Rf w x v bs a) (n : Int) :
    Calls Try.prog 34 #[.pointer (some ⟨x, 0, none⟩), .int .i64 n, .bool s] w fun e w' => e = two (refR s bs a n) (takeE bs a n) ∧ Rf w' x v bs (takeA bs a n) ∧ Only (Just x) w w' := by
  have hsm := h.small
  have hle := h.le
  obtain ⟨A, c, hv⟩ := h.slice
  have hc0 := h.cell0
  rw [hv] at hc0
  have hc1 := h.cell1
  have hf := h.box.frozen 1
  by_cases hn : n < 0 ∨ 48 < n
  · have e1 : takeE bs a n = 1 := takeE_arg hn
    have e2 : refR s bs a n = 0 := by unfold refR signR takeR; rw [e1]; cases s <;> rfl
    have e3 : takeA bs a n = a := by unfold takeA; rw [e1]; rfl
    rw [e1, e2, e3]
    clear e1 e2 e3 hv
    by_cases h0 : n < 0
    · have hd : decide (n < 0) = true := by simpa using h0
      go_enter Try.func34, Try.ntmps34
      go_wp2
      go_ret2
      exact ⟨rfl, h, Only.refl _ _⟩
    · have hd : decide (n < 0) = false := by simpa using h0
      have hd2 : decide (48 < n) = true := by simp; omega
      go_enter Try.func34, Try.ntmps34
      go_wp2
      go_ret2
      exact ⟨rfl, h, Only.refl _ _⟩
  · have hd : decide (n < 0) = false := by simp; omega
    have hd2 : decide (48 < n) = false := by simp; omega
    obtain ⟨m, rfl⟩ := Int.eq_ofNat_of_zero_le (show 0 ≤ n by omega)
    have hm48 : m ≤ 48 := by omega
    by_cases hE : 8 * (bs.length : Int) - a < (m : Int)
    · have e1 : takeE bs a (m : Int) = 11 := takeE_end hn hE
      have e2 : refR s bs a (m : Int) = 0 := by unfold refR signR takeR; rw [e1]; cases s <;> rfl
      have e3 : takeA bs a (m : Int) = a := by unfold takeA; rw [e1]; rfl
      rw [e1, e2, e3]
      clear e1 e2 e3 hv hn
      go_enter Try.func34, Try.ntmps34
      go_wp2_with fail
      go_quiet (fail)
      go_wp2
      go_ret2
      exact ⟨rfl, h.drewN _, (Only.refl _ _).drewN _⟩
    · have e1 : takeE bs a (m : Int) = 0 := takeE_ok hn hE
      have e3 : takeA bs a (m : Int) = a + m := by unfold takeA; rw [e1, if_pos rfl, Int.toNat_natCast]
      have e2 := refNum_ok s bs a m e1 (by omega)
      rw [e1, ← e2, e3]
      have hbd1 : ∀ b ∈ ((bitsOf bs).drop a).take m, b ≤ 1 := fun x hx => bitsOf_le bs x (List.mem_of_mem_drop (List.mem_of_mem_take hx))
      have hll : (((bitsOf bs).drop a).take m).length = m := by rw [List.length_take, List.length_drop, bitsOf_len]; omega
      have hE' : ¬ (8 * (bs.length : Int) - (a : Int) < (m : Int)) := hE
      have hto : ∀ k, Rf ((w.drewN k).setCell ⟨x, 1, none⟩ (.int .i64 ((a + m : Nat) : Int))) x v bs (a + m) := fun k => (h.drewN k).to (a + m) (by omega)
      have Hto := Lib.hid hto
      have hframe : ∀ k, Only (Just x) w ((w.drewN k).setCell ⟨x, 1, none⟩ (.int .i64 ((a + m : Nat) : Int))) := fun k => ((Only.refl (Just x) w).drewN k).setCell (p := ⟨x, 1, none⟩) (.inl rfl) _
      have Hframe := Lib.hid hframe
      have Hbd := Lib.hid (And.intro hbd1 hll)
      have Hv := Lib.hid hv
      clear e1 e2 e3 hv hn hto hframe hbd1 hll
      generalize hLe : ((bitsOf bs).drop a).take m = l at *
      have HLe := Lib.hid hLe
      clear hLe
      rcases Nat.eq_zero_or_pos m with rfl | hp
      · have hm0 := hm48
        have hl0 : l = [] := List.eq_nil_of_length_eq_zero Hbd.out.2
        subst hl0
        have hform : (A = none ∧ c = 0 ∧ bs.length = 0) ∨ ∃ g, A = some ⟨g, 0, none⟩ ∧ 8 * bs.length ≤ c := by
          rcases h.own.2 with ⟨h1, h2⟩ | ⟨g, cap, cur, h1, _, _, h2, _⟩
          · rw [Hv.out] at h1; injection h1 with h1 _ h3; exact .inl ⟨h1, h3, by omega⟩
          · rw [Hv.out] at h1; injection h1 with h1 _ h3; exact .inr ⟨g, h1, by omega⟩
        have hac : a ≤ c := by rcases hform with ⟨_, h1, h2⟩ | ⟨_, _, h2⟩ <;> omega
        have Hform := Lib.hid hform
        clear hform
        have Hnum := Lib.hid (fun (W : World) (A : Option Addr) (c : Nat) => numberRef_any (w := W) (v0 := .slice A 0 c) (l := []) s (.inl ⟨A, c, rfl, rfl⟩) (by simp) (by simp))
        have hcap3 : (a : Int) ≤ (c : Int) := by omega
        by_cases hca : c = a
        · subst hca
          go_enter Try.func34, Try.ntmps34
          go_wp2_with fail
          go_quiet (fail)
          go_wp2_with fail
          have hR2 := Hto.out nq
          have hF2 := Hframe.out nq
          simp only [Nat.add_zero] at hR2 hF2
          generalize (w.drewN nq).setCell ⟨x, 1, none⟩ (.int .i64 (c : Int)) = w2 at *
          have hd0 := hR2.cell0
          rw [Hv.out] at hd0
          have hd1 := hR2.cell1
          clear hc0 hc1
          go_quiet ((go_at_call 40; exact still_at (Hnum.out _ _ _)))
          go_wp2
          go_ret2
          exact ⟨rfl, hR2.drewN _, hF2.drewN _⟩
        · have hca' : ¬ c = a := hca
          obtain ⟨g, rfl, _⟩ : ∃ g, A = some ⟨g, 0, none⟩ ∧ True := by
            rcases Hform.out with ⟨_, h1, h2⟩ | ⟨g, h1, _⟩
            · omega
            · exact ⟨g, h1, trivial⟩
          go_enter Try.func34, Try.ntmps34
          go_wp2_with fail
          go_quiet (fail)
          go_wp2_with fail
          have hR2 := Hto.out nq
          have hF2 := Hframe.out nq
          simp only [Nat.add_zero] at hR2 hF2
          generalize (w.drewN nq).setCell ⟨x, 1, none⟩ (.int .i64 (a : Int)) = w2 at *
          have hd0 := hR2.cell0
          rw [Hv.out] at hd0
          have hd1 := hR2.cell1
          clear hc0 hc1
          go_quiet ((go_at_call 40; exact still_at (Hnum.out _ _ _)))
          go_wp2
          go_ret2
          exact ⟨rfl, hR2.drewN _, hF2.drewN _⟩
      · obtain ⟨g, c', ev, hcap, hcell⟩ := h.at_ (show a < 8 * bs.length by omega)
        rw [Hv.out] at ev
        injection ev with ev _ ev2
        subst ev ev2
        go_enter Try.func34, Try.ntmps34
        go_wp2_with fail
        go_quiet (fail)
        go_wp2_with fail
        have hR2 := Hto.out nq
        have hF2 := Hframe.out nq
        rw [show ((a + m : Nat) : Int) = (a : Int) + (m : Int) from by omega] at hR2 hF2
        generalize (w.drewN nq).setCell ⟨x, 1, none⟩ (.int .i64 ((a : Int) + (m : Int))) = w2 at *
        have hd0 := hR2.cell0
        rw [Hv.out] at hd0
        have hd1 := hR2.cell1
        have hcell2 := (hR2.at_ (show a < 8 * bs.length by omega))
        obtain ⟨g2, c2, ev, hcap2, hcell2⟩ := hcell2
        rw [Hv.out] at ev
        injection ev with ev _ ev2
        injection ev with ev
        injection ev with ev _ _
        subst ev ev2
        have hBI : BitsIn w2 (.slice (some ⟨g, a, none⟩) m (c - a)) l := by
          have hll := Hbd.out.2
          refine .inr ⟨g, a, c - a, by rw [hll], fun j hj => ?_⟩
          rw [hcell2 (a + j) (by omega)]
          have e9 : l[j] = (bitsOf bs).getD (a + j) 0 := by
            have hj2 : a + j < (bitsOf bs).length := by rw [bitsOf_len]; omega
            have h9 : l[j]? = some ((bitsOf bs).getD (a + j) 0) := by
              rw [← HLe.out, List.getElem?_take_of_lt (by omega), List.getElem?_drop, List.getD_eq_getElem?_getD, List.getElem?_eq_getElem hj2]; rfl
            exact (List.getElem?_eq_some_iff.1 h9).2
          rw [e9]
        have Hnum := Lib.hid (fun (k : Nat) => numberRef_any (w := w2.drewN k) s hBI Hbd.out.1 (by rw [Hbd.out.2]; exact hm48))
        have hca : ¬ c = a := by omega
        have hcap3 : (a : Int) + (m : Int) ≤ (c : Int) := by omega
        clear hcell hcell2 hBI hc0 hc1
        go_quiet ((go_at_call 40; exact still_at (Hnum.out _)))
        go_wp2
        go_ret2
        exact ⟨rfl, hR2.drewN _, hF2.drewN _⟩
end
end Go.Proofs.Ytpcddacfhmkkbaa
