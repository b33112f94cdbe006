/-
  The document's answer: its Reader.
-/
import Derived.Test.YtpcddacfhmkkbaaRefBits
namespace Go.Proofs.Ytpcddacfhmkkbaa
open Go.RowKit

/-- At block x lies the document's Reader of the bits of bs (in the slice v), a of which are behind. -/
structure Rf (w : World) (x : Nat) (v : Value) (bs : List Nat) (a : Nat) : Prop where
  box : Box w x 31 #[v, .int .i64 (a : Int)]
  own : w.ownsRow 0 3 1 v (8 * bs.length) (bv (bitsOf bs))
  le : a ≤ 8 * bs.length
  small : bs.length ≤ 300

section
variable {w w' : World} {x : Nat} {v : Value} {bs : List Nat} {a : Nat}
theorem Rf.cell0 (h : Rf w x v bs a) : w.cell? ⟨x, 0, none⟩ = some v := by rw [h.box.cell]; rfl
theorem Rf.cell1 (h : Rf w x v bs a) : w.cell? ⟨x, 1, none⟩ = some (.int .i64 (a : Int)) := by rw [h.box.cell]; rfl
theorem Rf.ne (h : Rf w x v bs a) : v.ownBlock ≠ some x := owns_box h.own h.box (by decide)
theorem Rf.keep {F : Nat → Prop} (h : Rf w x v bs a) (ho : Only F w w') (hr : ¬ F x) (hv : ∀ g, v.ownBlock = some g → ¬ F g) : Rf w' x v bs a :=
  ⟨h.box.only ho hr, owns_only h.own ho hv, h.le, h.small⟩
theorem Rf.nix (h : Rf w x v bs a) (ho : Only Nix w w') : Rf w' x v bs a := h.keep ho (fun e => e) (fun _ _ e => e)
theorem Rf.drewN (h : Rf w x v bs a) (n : Nat) : Rf (w.drewN n) x v bs a := h.nix ((Only.refl _ _).drewN n)
theorem Rf.alloc (h : Rf w x v bs a) (o : Obj) : Rf (w.alloc o) x v bs a := h.nix ((Only.refl _ _).alloc o)
theorem Rf.to (h : Rf w x v bs a) (a' : Nat) (ha : a' ≤ 8 * bs.length) : Rf (w.setCell ⟨x, 1, none⟩ (.int .i64 (a' : Int))) x v bs a' := by
  have ho : Only (Just x) w (w.setCell ⟨x, 1, none⟩ (.int .i64 (a' : Int))) := (Only.refl (Just x) w).setCell (p := ⟨x, 1, none⟩) (.inl rfl) _
  refine ⟨?_, owns_only h.own ho (fun g hg e => h.ne (by rw [hg]; exact congrArg some e)), ha, h.small⟩
  simpa using h.box.put 1 (.int .i64 (a' : Int))
theorem Rf.slice (h : Rf w x v bs a) : ∃ A c, v = .slice A (8 * bs.length) c := owns_slice h.own
theorem Rf.at_ (h : Rf w x v bs a) {j : Nat} (hj : j < 8 * bs.length) : ∃ g c, v = .slice (some ⟨g, 0, none⟩) (8 * bs.length) c ∧ 8 * bs.length ≤ c ∧ ∀ i, i < 8 * bs.length → w.cell? ⟨g, i, none⟩ = some (iv ((bitsOf bs).getD i 0 : Int)) := by
  rcases h.own.2 with ⟨_, hn⟩ | ⟨g, cap, cur, hv, _, _, hc, _⟩
  · omega
  · refine ⟨g, cap, hv, hc, fun i hi => ?_⟩
    have h1 := h.own
    rw [hv] at h1
    rw [h1.cellAt i (by omega)]
    have hl := bitsOf_len bs
    simp [bv, List.getD_eq_getElem?_getD, List.getElem?_eq_getElem (show i < (bitsOf bs).length by omega)]
theorem Rf.only (ho : Only (Just x) w w') : Only (Just x) w w' := ho

set_option maxHeartbeats 400000 in
theorem seekRef_any (h : Rf w x v bs a) (t : Int) :
    Calls Try.prog 37 #[.pointer (some ⟨x, 0, none⟩), .int .i64 t] w fun e w' => e = .returned (.int .i64 (seekE bs t)) ∧ Rf w' x v bs (seekA bs a t) ∧ Only (Just x) w w' := by
  have hsm := h.small
  obtain ⟨A, c, hv⟩ := h.slice
  have hc0 := h.cell0
  rw [hv] at hc0
  have Hv := Lib.hid hv
  clear hv
  by_cases h0 : t < 0
  · have hd : decide (t < 0) = true := by simpa using h0
    have e1 : seekE bs t = 10 := by unfold seekE; rw [if_pos (.inl h0)]
    have e2 : seekA bs a t = a := by unfold seekA; rw [if_pos (.inl h0)]
    rw [e1, e2]
    clear e1 e2
    go_enter Try.func37, Try.ntmps37
    go_wp2
    go_ret
    exact ⟨rfl, h, Only.refl _ _⟩
  · have hd : decide (t < 0) = false := by simpa using h0
    by_cases h1 : 8 * (bs.length : Int) < t
    · have e1 : seekE bs t = 10 := by unfold seekE; rw [if_pos (.inr h1)]
      have e2 : seekA bs a t = a := by unfold seekA; rw [if_pos (.inr h1)]
      rw [e1, e2]
      clear e1 e2
      have hd2 : ((8 * bs.length : Nat) : Int) < t := by omega
      go_enter Try.func37, Try.ntmps37
      go_wp2
      go_ret
      exact ⟨rfl, h, Only.refl _ _⟩
    · obtain ⟨m, rfl⟩ := Int.eq_ofNat_of_zero_le (show 0 ≤ t by omega)
      have e1 : seekE bs (m : Int) = 0 := by unfold seekE; rw [if_neg (by omega)]
      have e2 : seekA bs a (m : Int) = m := by unfold seekA; rw [if_neg (by omega), Int.toNat_natCast]
      rw [e1, e2]
      clear e1 e2
      have hf := h.box.frozen 1
      have hc1 := h.cell1
      have hd2 : decide (8 * bs.length < m) = false := by simp; omega
      have hd3 : ¬ (8 * bs.length < m) := by omega
      have hd4 : decide (8 * (bs.length : Int) < (m : Int)) = false := by simp; omega
      go_enter Try.func37, Try.ntmps37
      go_wp2
      go_ret
      exact ⟨rfl, h.to m (by omega), (Only.refl (Just x) w).setCell (p := ⟨x, 1, none⟩) (.inl rfl) _⟩

def UnRel (bs : List Nat) (a : Nat) (s4 : Value) : Prop := ∃ i : Nat, a ≤ i ∧ i ≤ 8 * bs.length ∧ s4 = iv i ∧ Zs bs a i

set_option maxHeartbeats 400000 in
theorem unaryRef_any (h : Rf w x v bs a) :
    Calls Try.prog 35 #[.pointer (some ⟨x, 0, none⟩)] w fun e w' => e = two (unaryR bs a) (unaryE bs a) ∧ Rf w' x v bs (unaryA bs a) ∧ Only (Just x) w w' := by
  have hsm := h.small
  have hle := h.le
  have hbl := bitsOf_len bs
  obtain ⟨A, c, hv⟩ := h.slice
  have hc0 := h.cell0
  rw [hv] at hc0
  have hc1 := h.cell1
  have hf := h.box.frozen 1
  have Hv := Lib.hid hv
  have Hbl := Lib.hid hbl
  clear hv hbl
  go_enter Try.func35, Try.ntmps35
  go_wp2
  go_loop [4] (fun s4 => UnRel bs a s4) (fun s4 => 8 * bs.length - (intOf s4).toNat)
  case atStart => exact ⟨a, Nat.le_refl _, hle, rfl, fun j h1 h2 => absurd h1 (by omega)⟩
  case round =>
    obtain ⟨i, hai, hi, rfl, hz⟩ := hrel
    have HZ := Lib.hid hz
    clear hz
    by_cases hlt : i < 8 * bs.length
    · obtain ⟨g, c', e1, hcap, hcell⟩ := h.at_ hlt
      rw [Hv.out] at e1
      injection e1 with e1 _ e2
      subst e1 e2
      have hb := hcell i hlt
      have hle1 := bitsOf_le bs ((bitsOf bs).getD i 0) (by rw [List.getD_eq_getElem?_getD, List.getElem?_eq_getElem (show i < (bitsOf bs).length by have := Hbl.out; omega)]; exact List.getElem_mem _)
      have hget : Hid ((bitsOf bs)[i]? = some ((bitsOf bs).getD i 0)) := by
        show _ = _
        rw [List.getD_eq_getElem?_getD, List.getElem?_eq_getElem (show i < (bitsOf bs).length by have := Hbl.out; omega)]; rfl
      generalize (bitsOf bs).getD i 0 = y at *
      have hlt2 : (i : Int) < 8 * (bs.length : Int) := by omega
      have hlt3 : (i : Int) < ((8 * bs.length : Nat) : Int) := by omega
      clear hcell
      by_cases hy : y = 1
      · subst hy
        have H1 := Lib.hid (one_found hai HZ.out hget.out)
        go_wp2
        go_ret2
        have e := H1.out
        have hne : ¬ oneAt bs a = 8 * bs.length := by omega
        have e1 : unaryE bs a = 0 := by unfold unaryE; rw [if_neg hne]
        have e2 : unaryR bs a = ((i - a : Nat) : Int) := by unfold unaryR; rw [if_neg hne, e]
        have e3 : unaryA bs a = i + 1 := by unfold unaryA; rw [if_neg hne, e]
        rw [e1, e2, e3]
        refine ⟨ret2 (by omega) rfl, ?_, (Only.refl (Just x) w).setCell (p := ⟨x, 1, none⟩) (.inl rfl) _⟩
        have h2 := h.to (i + 1) (by omega)
        simpa using h2
      · obtain rfl : y = 0 := by omega
        have HZ1 := Lib.hid (HZ.out.one hget.out)
        go_wp2
        go_round
        case rel => exact ⟨i + 1, by omega, by omega, by go_num, HZ1.out⟩
        case measure => simp [intOf]; omega
    · obtain rfl : i = 8 * bs.length := by omega
      have e := one_none hle HZ.out
      have e1 : unaryE bs a = 11 := by unfold unaryE; rw [if_pos e]
      have e2 : unaryR bs a = 0 := by unfold unaryR; rw [if_pos e]
      have e3 : unaryA bs a = a := by unfold unaryA; rw [if_pos e]
      have H := Lib.hid (And.intro e1 (And.intro e2 e3))
      clear e e1 e2 e3
      have hnl : ¬ (((8 * bs.length : Nat) : Int) < ((8 * bs.length : Nat) : Int)) := by omega
      go_wp2
      go_ret2
      rw [H.out.1, H.out.2.1, H.out.2.2]
      exact ⟨rfl, h, Only.refl _ _⟩
end
end Go.Proofs.Ytpcddacfhmkkbaa
