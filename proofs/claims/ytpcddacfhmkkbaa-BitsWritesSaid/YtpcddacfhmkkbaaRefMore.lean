/-
  The document's Reader: Align, Take.
-/
import Derived.Test.YtpcddacfhmkkbaaRefRead
namespace Go.Proofs.Ytpcddacfhmkkbaa
open Go.RowKit

theorem val_pos (l : List Nat) (j : Nat) (h : l[j]? = some 1) : 0 < val l := by
  induction l generalizing j with
  | nil => simp at h
  | cons b l ih =>
    rw [val_cons]
    have hp : 0 < 2 ^ l.length := Nat.two_pow_pos _
    cases j with
    | zero =>
      simp at h
      subst h
      omega
    | succ j =>
      simp at h
      have := ih j h
      omega
theorem numAt_pos {bs : List Nat} {a p i : Nat} (hi : a ≤ i) (hi2 : i < a + p) (h : (bitsOf bs)[i]? = some 1) : numAt bs a p ≠ 0 := by
  have : 0 < numAt bs a p := val_pos _ (i - a) (by rw [List.getElem?_take_of_lt (by omega), List.getElem?_drop, show a + (i - a) = i from by omega]; exact h)
  omega
theorem numAt_zero {bs : List Nat} {a p : Nat} (h : Zs bs a (a + p)) : numAt bs a p = 0 := by
  have e : ((bitsOf bs).drop a).take p = List.replicate p 0 := by
    refine List.ext_getElem? fun j => ?_
    by_cases hj : j < p
    · rw [List.getElem?_take_of_lt hj, List.getElem?_drop, h (a + j) (by omega) (by omega), List.getElem?_replicate, if_pos hj]
    · rw [List.getElem?_eq_none (by have := List.length_take_le p ((bitsOf bs).drop a); omega), List.getElem?_eq_none (by simp; omega)]
  unfold numAt
  rw [e, val_zeros]

def AlRel (bs : List Nat) (a : Nat) (s4 : Value) : Prop := ∃ i : Nat, a ≤ i ∧ i ≤ a + padN a ∧ s4 = iv i ∧ Zs bs a i
theorem pad_facts (a i : Nat) (h1 : a ≤ i) (h2 : i ≤ a + padN a) : (i % 8 = 0 → i = a + padN a) ∧ (i % 8 ≠ 0 → i < a + padN a) := by
  unfold padN at *
  omega

section
variable {w w' : World} {x : Nat} {v : Value} {bs : List Nat} {a : Nat}
set_option maxHeartbeats 400000 in
theorem alignRef_any (h : Rf w x v bs a) :
    Calls Try.prog 36 #[.pointer (some ⟨x, 0, none⟩)] w fun e w' => e = two (alignR bs a) (alignE bs a) ∧ Rf w' x v bs (alignA bs a) ∧ Only (Just x) w w' := by
  have hsm := h.small
  have hle := h.le
  have hbl := bitsOf_len bs
  have hpl : a + padN a ≤ 8 * bs.length := by unfold padN; omega
  obtain ⟨A, c, hv⟩ := h.slice
  have hc0 := h.cell0
  rw [hv] at hc0
  have hc1 := h.cell1
  have hf := h.box.frozen 1
  have Hv := Lib.hid hv
  have Hbl := Lib.hid hbl
  clear hv hbl
  go_enter Try.func36, Try.ntmps36
  go_wp2
  go_loop [4] (fun s4 => AlRel bs a s4) (fun s4 => 8 * bs.length - (intOf s4).toNat)
  case atStart => exact ⟨a, Nat.le_refl _, by omega, rfl, fun j h1 h2 => absurd h1 (by omega)⟩
  case round =>
    obtain ⟨i, hai, hi, rfl, hz⟩ := hrel
    have HZ := Lib.hid hz
    obtain ⟨pf1, pf2⟩ := pad_facts a i hai hi
    clear hz
    by_cases hm : i % 8 = 0
    · have hie := pf1 hm
      have e := numAt_zero (p := padN a) (hie ▸ HZ.out)
      have e1 : alignE bs a = 0 := by unfold alignE; rw [if_pos e]
      have e2 : alignR bs a = (padN a : Int) := by unfold alignR; rw [if_pos e]
      have e3 : alignA bs a = a + padN a := by unfold alignA; rw [if_pos e]
      have H := Lib.hid (And.intro e1 (And.intro e2 (And.intro e3 hie)))
      have hmb : ((i : Int) % 8 != 0) = false := by rw [bne_eq_false_iff_eq]; omega
      clear e e1 e2 e3 hie pf1 pf2 hm
      go_wp2
      go_ret2
      obtain ⟨e1, e2, e3, hie⟩ := H.out
      rw [e1, e2, e3]
      refine ⟨ret2 (by omega) rfl, ?_, (Only.refl (Just x) w).setCell (p := ⟨x, 1, none⟩) (.inl rfl) _⟩
      have h2 := h.to (a + padN a) hpl
      rw [← hie] at h2 ⊢
      exact h2
    · have hil := pf2 hm
      have hlt : i < 8 * bs.length := by omega
      obtain ⟨g, c', e1, hcap, hcell⟩ := h.at_ hlt
      rw [Hv.out] at e1
      injection e1 with e1 _ e2
      subst e1 e2
      have hb := hcell i hlt
      have hle1 := bitsOf_le bs ((bitsOf bs).getD i 0) (by rw [List.getD_eq_getElem?_getD, List.getElem?_eq_getElem (show i < (bitsOf bs).length by have := Hbl.out; omega)]; exact List.getElem_mem _)
      have hget : Hid ((bitsOf bs)[i]? = some ((bitsOf bs).getD i 0)) := by
        show _ = _
        rw [List.getD_eq_getElem?_getD, List.getElem?_eq_getElem (show i < (bitsOf bs).length by have := Hbl.out; omega)]; rfl
      generalize (bitsOf bs).getD i 0 = y at *
      have hlt2 : (i : Int) < 8 * (bs.length : Int) := by omega
      have hmb : ((i : Int) % 8 != 0) = true := by rw [bne_iff_ne]; omega
      clear hcell pf1 pf2
      by_cases hy : y = 1
      · subst hy
        have e := numAt_pos hai hil hget.out
        have e1 : alignE bs a = 12 := by unfold alignE; rw [if_neg e]
        have e2 : alignR bs a = 0 := by unfold alignR; rw [if_neg e]
        have e3 : alignA bs a = a := by unfold alignA; rw [if_neg e]
        have H := Lib.hid (And.intro e1 (And.intro e2 e3))
        clear e e1 e2 e3
        go_wp2
        go_ret2
        rw [H.out.1, H.out.2.1, H.out.2.2]
        exact ⟨rfl, h, Only.refl _ _⟩
      · obtain rfl : y = 0 := by omega
        have HZ1 := Lib.hid (HZ.out.one hget.out)
        go_wp2
        go_round
        case rel => exact ⟨i + 1, by omega, by omega, by go_num, HZ1.out⟩
        case measure => simp [intOf]; omega

/-- what the document's Take answers -/
def refR (s : Bool) (bs : List Nat) (a : Nat) (n : Int) : Int := if s = true then signR bs a n else takeR bs a n
theorem refNum_ok (s : Bool) (bs : List Nat) (a m : Nat) (hE : takeE bs a (m : Int) = 0) (hm : a + m ≤ 8 * bs.length) : refNum s (((bitsOf bs).drop a).take m) = refR s bs a (m : Int) := by
  have hl : (((bitsOf bs).drop a).take m).length = m := by rw [List.length_take, List.length_drop, bitsOf_len]; omega
  have h1 : ∀ b ∈ ((bitsOf bs).drop a).take m, b ≤ 1 := fun x hx => bitsOf_le bs x (List.mem_of_mem_drop (List.mem_of_mem_take hx))
  unfold refR refNum signR takeR numAt
  rw [hE, if_pos rfl, if_pos rfl, Int.toNat_natCast, hl]
  generalize ((bitsOf bs).drop a).take m = l at *
  cases s
  · rfl
  · simp only [if_true]
    cases l with
    | nil => simp at hl; subst hl; rfl
    | cons b t =>
      simp at hl
      subst hl
      have hb := h1 b (List.mem_cons_self ..)
      have ht := val_lt t (fun y hy => h1 y (List.mem_cons_of_mem _ hy))
      rw [val_cons, Nat.add_sub_cancel, List.headD_cons, pow_cast, Nat.pow_succ]
      generalize 2 ^ t.length = P at *
      rcases Nat.eq_zero_or_pos b with rfl | hbp
      · rw [if_neg (by simp; omega)]; simp
      · obtain rfl : b = 1 := by omega
        rw [if_pos ⟨by omega, by omega⟩]; simp
end
end Go.Proofs.Ytpcddacfhmkkbaa
