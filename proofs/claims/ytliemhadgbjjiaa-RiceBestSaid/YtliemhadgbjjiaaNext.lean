/-
  The Reader's nextOne, and Unary.
-/
import Derived.Test.YtliemhadgbjjiaaTake
import Derived.Deep.LoopGhost
namespace Go.Proofs.Ytliemhadgbjjiaa
open Go.RowKit

/-- where the next one stands, from bit a on; the end, if there is none -/
def oneAt (bs : List Nat) (a : Nat) : Nat := a + ((bitsOf bs).drop a).findIdx (· == 1)
/-- all bits from a up to p are noughts -/
def Zs (bs : List Nat) (a p : Nat) : Prop := ∀ j, a ≤ j → j < p → (bitsOf bs)[j]? = some 0

theorem oneAt_le (bs : List Nat) (a : Nat) (h : a ≤ 8 * bs.length) : a ≤ oneAt bs a ∧ oneAt bs a ≤ 8 * bs.length := by
  have h1 : ((bitsOf bs).drop a).findIdx (· == 1) ≤ ((bitsOf bs).drop a).length := List.findIdx_le_length
  rw [List.length_drop, bitsOf_len] at h1
  unfold oneAt
  omega
theorem one_found {bs : List Nat} {a p : Nat} (h : a ≤ p) (hz : Zs bs a p) (h1 : (bitsOf bs)[p]? = some 1) : oneAt bs a = p := by
  have hp : p < (bitsOf bs).length := (List.getElem?_eq_some_iff.1 h1).1
  have e : ((bitsOf bs).drop a).findIdx (· == 1) = p - a := by
    rw [List.findIdx_eq (by rw [List.length_drop]; omega)]
    refine ⟨?_, fun j hj => ?_⟩
    · have h2 : ((bitsOf bs).drop a)[p - a]? = some 1 := by rw [List.getElem?_drop, show a + (p - a) = p from by omega]; exact h1
      have h3 := (List.getElem?_eq_some_iff.1 h2).2
      rw [h3]; rfl
    · have h2 : ((bitsOf bs).drop a)[j]? = some 0 := by rw [List.getElem?_drop]; exact hz (a + j) (by omega) (by omega)
      have h3 := (List.getElem?_eq_some_iff.1 h2).2
      rw [h3]; rfl
  unfold oneAt
  omega
theorem one_none {bs : List Nat} {a : Nat} (h : a ≤ 8 * bs.length) (hz : Zs bs a (8 * bs.length)) : oneAt bs a = 8 * bs.length := by
  have hl := bitsOf_len bs
  have e : ((bitsOf bs).drop a).findIdx (· == 1) = ((bitsOf bs).drop a).length := by
    refine List.findIdx_eq_length_of_false fun x hx => ?_
    obtain ⟨j, hj, rfl⟩ := List.getElem_of_mem hx
    rw [List.length_drop] at hj
    have h2 : ((bitsOf bs).drop a)[j]? = some 0 := by rw [List.getElem?_drop]; exact hz (a + j) (by omega) (by omega)
    rw [(List.getElem?_eq_some_iff.1 h2).2]; rfl
  unfold oneAt
  rw [e, List.length_drop, hl]
  omega

/-- the bit at p -/
theorem bit_at (bs : List Nat) (p : Nat) (h : p / 8 < bs.length) : (bitsOf bs)[p]? = some (bs[p / 8] / 2 ^ (7 - p % 8) % 2) := by
  have h1 := bitsOf_piece bs p 1 h (by omega)
  have hl := bitsOf_len bs
  have hp : p < (bitsOf bs).length := by omega
  have h2 : ((bitsOf bs).drop p).take 1 = [(bitsOf bs)[p]] := by
    rw [List.drop_eq_getElem_cons hp]; rfl
  rw [h2] at h1
  rw [List.getElem?_eq_getElem hp]
  simp only [bitsN] at h1
  have h3 := (List.cons.inj h1).1
  rw [h3, show 8 - p % 8 - 1 = 7 - p % 8 from by omega]; simp
theorem top_bit (x j : Nat) (hj : j < 8) : (128 ≤ x * 2 ^ j % 256 → x / 2 ^ (7 - j) % 2 = 1) ∧ (x * 2 ^ j % 256 < 128 → x / 2 ^ (7 - j) % 2 = 0) ∧ (x * 2 ^ j % 256 < 128 → x * 2 ^ j % 256 ≠ 0 → x * 2 ^ j % 256 * 2 % 256 = x * 2 ^ (j + 1) % 256 ∧ j + 1 < 8) := by
  have h : j = 0 ∨ j = 1 ∨ j = 2 ∨ j = 3 ∨ j = 4 ∨ j = 5 ∨ j = 6 ∨ j = 7 := by omega
  rcases h with rfl | rfl | rfl | rfl | rfl | rfl | rfl | rfl <;> simp <;> omega
/-- the rest of a byte is nought -/
theorem rest_zero (x j i : Nat) (hj : j ≤ i) (hi : i < 8) (h : x * 2 ^ j % 256 = 0) : x / 2 ^ (7 - i) % 2 = 0 := by
  have hj' : j = 0 ∨ j = 1 ∨ j = 2 ∨ j = 3 ∨ j = 4 ∨ j = 5 ∨ j = 6 ∨ j = 7 := by omega
  have hi' : i = 0 ∨ i = 1 ∨ i = 2 ∨ i = 3 ∨ i = 4 ∨ i = 5 ∨ i = 6 ∨ i = 7 := by omega
  rcases hj' with rfl | rfl | rfl | rfl | rfl | rfl | rfl | rfl <;> rcases hi' with rfl | rfl | rfl | rfl | rfl | rfl | rfl | rfl <;> simp at * <;> omega

theorem Zs.skip {bs : List Nat} {a p : Nat} (hz : Zs bs a p) (h : p / 8 < bs.length) (h0 : bs[p / 8] * 2 ^ (p % 8) % 256 = 0) : Zs bs a (p + (8 - p % 8)) := by
  intro j hj hjp
  by_cases hlt' : j < p
  · exact hz j hj hlt'
  · have hd : j / 8 = p / 8 := by omega
    rw [bit_at bs j (by omega)]
    simp only [hd]
    rw [rest_zero _ (p % 8) (j % 8) (by omega) (by omega) h0]
theorem Zs.one {bs : List Nat} {a p : Nat} (hz : Zs bs a p) (h : (bitsOf bs)[p]? = some 0) : Zs bs a (p + 1) := by
  intro j hj hjp
  by_cases hlt' : j < p
  · exact hz j hj hlt'
  · rw [show j = p from by omega]; exact h

theorem cast_rest (x j : Nat) : (x : Int) * 2 ^ j % 256 = ((x * 2 ^ j % 256 : Nat) : Int) := by
  rw [pow_cast, ← Int.natCast_mul]; rfl
theorem u8_top (R : Nat) (h : R < 256) : bits .and .u8 (R : Int) 128 = if 128 ≤ R then 128 else 0 := by
  have h1 := u8_and_nat R 128 h (by decide)
  have h2 : R &&& 128 = R / 2 ^ 7 % 2 * 2 ^ 7 := nat_bit 7 R
  rw [show (128 : Int) = ((128 : Nat) : Int) from rfl, h1, h2]
  split <;> omega

/-- at the head of the outer loop -/
def OutRel (w : World) (bs : List Nat) (a : Nat) (gk : Nat) (wr : World) : Prop :=
  ∃ p : Nat, a ≤ p ∧ p ≤ 8 * bs.length ∧ Zs bs a p ∧ gk = 8 * bs.length - p ∧ Box wr w.heap.size 66 #[.int .i64 (p : Int)] ∧ Only Nix w wr
/-- at the head of the inner loop -/
def InRel (w : World) (bs : List Nat) (a p0 : Nat) (gk : Nat) (s4 : Value) (wr : World) : Prop :=
  ∃ p : Nat, ∃ h : p / 8 < bs.length, a ≤ p ∧ p0 ≤ p ∧ Zs bs a p ∧ gk = 8 - p % 8 ∧ s4 = .int .u8 ((bs[p / 8] * 2 ^ (p % 8) % 256 : Nat) : Int) ∧ Box wr w.heap.size 66 #[.int .i64 (p : Int)] ∧ Only Nix w wr

set_option maxHeartbeats 1000000 in
theorem next_any {w : World} {r : Nat} {v : Value} {bs : List Nat} {a : Nat} (h : Rd w r v bs a) :
    Calls Try.prog 86 #[.pointer (some ⟨r, 0, none⟩)] w fun e w' => e = .returned (.int .i64 (oneAt bs a : Int)) ∧ Only Nix w w' := by
  have hc0 := h.cell0
  have hr := h.mem
  have hsm := h.small
  have hle := h.le
  go_enter Try.func86, Try.ntmps86
  go_wp2
  go_step3
  go_wp2
  go_step3
  go_wp2
  go_loopg [] (8 * bs.length - a) (fun gk wr => OutRel w bs a gk wr)
  case atStart => exact ⟨a, Nat.le_refl _, hle, fun j h1 h2 => absurd h1 (by omega), rfl, Box.new w _ _, (Only.refl _ _).alloc _⟩
  case round =>
    obtain ⟨p, hap, hpl, hz, hgk, hb, ho⟩ := hrel
    have Hgk := Lib.hid hgk
    have HZ := Lib.hid hz
    clear hgk hz
    have hR := h.nix ho
    have hpc := hb.cell 0
    have hpf := hb.frozen 0
    simp only [List.getElem?_toArray, List.getElem?_cons_zero] at hpc
    obtain ⟨A, c, hv⟩ := hR.slice
    have hc1 := hR.cell1
    rw [hv] at hc1
    have Hv := Lib.hid hv
    clear hv hc0
    by_cases hlt : p < 8 * bs.length
    · have hlt2 : (p : Int) < 8 * (bs.length : Int) := by omega
      go_wp2_with fail
      go_quiet ((go_at_call 49; exact still_at (size_any _ _ _ _ _ hc1 hsm)))
      obtain ⟨g, c', hv2, hg, hcell⟩ := hR.slice_pos (by omega)
      have hix : p / 8 < bs.length := by omega
      have hx := hcell (p / 8) hix
      have hx2 := h.lt _ (List.getElem_mem hix)
      unfold byt at hx
      rw [hv2] at Hv
      obtain ⟨rfl, rfl⟩ : A = some ⟨g, 0, none⟩ ∧ c = c' := by
        have := Hv.out
        injection this with e1 e2 e3
        exact ⟨e1.symm, e3.symm⟩
      clear hcell hv2 Hv
      generalize hxe : bs[p / 8] = x at *
      have Hxe := Lib.hid hxe
      clear hxe
      have hix2 : (p : Int) / 8 < (bs.length : Int) := by omega
      go_wp2_with fail
      go_quiet (fail)
      go_wp2
      go_loopg [4] (8 - p % 8) (fun gi s4 wi => InRel w bs a p gi s4 wi)
      case atStart => exact ⟨p, hix, hap, Nat.le_refl _, HZ.out, rfl, by rw [cast_rest, Hxe.out], (hb.drewN _).drewN _, (ho.drewN _).drewN _⟩
      case round =>
        clear hb ho hR hpc hpf hc1 hx hx2 Hxe hix2 hlt hlt2 hix
        obtain ⟨q, hqx, haq, hpq, hzq, hgi, rfl, hb, ho⟩ := hrel
        have Hgi := Lib.hid hgi
        have HZq := Lib.hid hzq
        have hpc := hb.cell 0
        have hpf := hb.frozen 0
        simp only [List.getElem?_toArray, List.getElem?_cons_zero] at hpc
        have htop := top_bit bs[q / 8] (q % 8) (by omega)
        have Hskip := Lib.hid (fun h0 => Zs.skip hzq hqx h0)
        have Hbit := Lib.hid (bit_at bs q hqx)
        have hRl : bs[q / 8] * 2 ^ (q % 8) % 256 < 256 := Nat.mod_lt _ (by decide)
        have hq2 : q ≤ 1125899906842624 := by omega
        clear hzq hgi
        generalize hRe : bs[q / 8] * 2 ^ (q % 8) % 256 = R at *
        have HRe := Lib.hid hRe
        clear hRe
        by_cases hR0 : R = 0
        · subst hR0
          clear htop
          go_wp2_with fail
          refine (room_any _ q _ hpc).mono ?_
          rintro e w1 ⟨rfl, rfl⟩
          go_wp2_with fail
          refine (forth_any _ q _ _ hpc hpf (by omega) (by omega)).mono ?_
          rintro e w2 ⟨rfl, rfl⟩
          go_wp2
          go_roundg (8 * bs.length - (q + (8 - q % 8)))
          case measure => have := Hgk.out; omega
          case rel =>
            refine ⟨q + (8 - q % 8), by omega, by omega, Hskip.out trivial, rfl, ?_, ho.setCell (.inr (Nat.le_refl _)) _⟩
            have h1 := hb.put 0 (.int .i64 ((q + (8 - q % 8) : Nat) : Int))
            rw [show ((q + (8 - q % 8) : Nat) : Int) = (q : Int) + (8 - (q : Int) % 8) from by omega] at h1 ⊢
            simpa using h1
        · have hb0 : ((R : Int) != 0) = true := by rw [bne_iff_ne]; omega
          have htp := u8_top R hRl
          by_cases h128 : 128 ≤ R
          · rw [if_pos h128] at htp
            have hbt : (bitsOf bs)[q]? = some 1 := by rw [Hbit.out, htop.1 h128]
            have HF := Lib.hid (one_found haq HZq.out hbt)
            clear hbt htop
            go_wp2
            rw [Exit.noGoto_ret]
            go_ret
            exact ⟨ret1 (by rw [HF.out]), ho⟩
          · rw [if_neg h128] at htp
            obtain ⟨t1, t2⟩ := htop.2.2 (by omega) hR0
            have hbt : (bitsOf bs)[q]? = some 0 := by rw [Hbit.out, htop.2.1 (by omega)]
            have HZ1 := Lib.hid (HZq.out.one hbt)
            have T1 := Lib.hid t1
            clear hbt htop t1
            go_wp2_with fail
            refine (forth_any _ q _ _ hpc hpf (by omega) (by omega)).mono ?_
            rintro e w2 ⟨rfl, rfl⟩
            go_wp2
            go_roundg (8 - (q + 1) % 8)
            case measure => have := Hgi.out; omega
            case rel =>
              have hd : (q + 1) / 8 = q / 8 := by omega
              have hm : (q + 1) % 8 = q % 8 + 1 := by omega
              refine ⟨q + 1, by omega, by omega, by omega, HZ1.out, rfl, ?_, ?_, ho.setCell (.inr (Nat.le_refl _)) _⟩
              · simp only [hd, hm]
                rw [← T1.out]
                rw [show ((R * 2 % 256 : Nat) : Int) = (R : Int) * 2 from by omega]
              · have h1 := hb.put 0 (.int .i64 ((q + 1 : Nat) : Int))
                simpa using h1
    · go_wp2_with fail
      go_quiet ((go_at_call 49; exact still_at (size_any _ _ _ _ _ hc1 hsm)))
      go_wp2
      rw [Exit.noGoto_ret]
      go_ret
      have hpe : p = 8 * bs.length := by omega
      have hz := HZ.out
      rw [hpe] at hz
      exact ⟨ret1 (by rw [one_none hle hz, hpe]), ho.drewN _⟩

/-- Unary's answers -/
def unaryE (bs : List Nat) (a : Nat) : Int := if oneAt bs a = 8 * bs.length then 11 else 0
def unaryR (bs : List Nat) (a : Nat) : Int := if oneAt bs a = 8 * bs.length then 0 else ((oneAt bs a - a : Nat) : Int)
def unaryA (bs : List Nat) (a : Nat) : Nat := if oneAt bs a = 8 * bs.length then a else oneAt bs a + 1

set_option maxHeartbeats 400000 in
theorem runary_any {w : World} {r : Nat} {v : Value} {bs : List Nat} {a : Nat} (h : Rd w r v bs a) :
    Calls Try.prog 82 #[.pointer (some ⟨r, 0, none⟩)] w fun e w' => e = two (unaryR bs a) (unaryE bs a) ∧ Rd w' r v bs (unaryA bs a) ∧ Only (Just r) w w' := by
  have hsm := h.small
  obtain ⟨hl1, hl2⟩ := oneAt_le bs a h.le
  have Hn := Lib.hid (next_any h)
  obtain ⟨A, c, hv⟩ := h.slice
  have Hv := Lib.hid hv
  clear hv
  by_cases hE : oneAt bs a = 8 * bs.length
  · have e1 : unaryE bs a = 11 := by unfold unaryE; rw [if_pos hE]
    have e2 : unaryR bs a = 0 := by unfold unaryR; rw [if_pos hE]
    have e3 : unaryA bs a = a := by unfold unaryA; rw [if_pos hE]
    rw [e1, e2, e3]
    rw [hE] at Hn
    clear e1 e2 e3 hE hl1 hl2
    go_enter Try.func82, Try.ntmps82
    go_wp2_with fail
    refine (Hn.out).mono ?_
    rintro e w1 ⟨rfl, ho⟩
    have h1 := h.nix ho
    have hc1 := h1.cell1
    rw [Hv.out] at hc1
    have hbb : (((8 * bs.length : Nat) : Int) == 8 * (bs.length : Int)) = true := by rw [beq_iff_eq]; omega
    go_wp2_with fail
    refine (size_any _ _ _ _ _ hc1 hsm).mono ?_
    rintro e w2 ⟨rfl, rfl⟩
    go_wp2
    go_ret2
    exact ⟨rfl, h1, ho.nix⟩
  · have e1 : unaryE bs a = 0 := by unfold unaryE; rw [if_neg hE]
    have e2 : unaryR bs a = ((oneAt bs a - a : Nat) : Int) := by unfold unaryR; rw [if_neg hE]
    have e3 : unaryA bs a = oneAt bs a + 1 := by unfold unaryA; rw [if_neg hE]
    rw [e1, e2, e3]
    clear e1 e2 e3
    generalize oneAt bs a = O at *
    have hbb : ((O : Int) == 8 * (bs.length : Int)) = false := by rw [beq_eq_false_iff_ne]; omega
    go_enter Try.func82, Try.ntmps82
    go_wp2_with fail
    refine (Hn.out).mono ?_
    rintro e w1 ⟨rfl, ho⟩
    have h1 := h.nix ho
    have hc0 := h1.cell0
    have hf := h1.box.frozen 0
    have hc1 := h1.cell1
    rw [Hv.out] at hc1
    go_wp2_with fail
    refine (size_any _ _ _ _ _ hc1 hsm).mono ?_
    rintro e w2 ⟨rfl, rfl⟩
    go_wp2_with fail
    refine (forth_any _ a _ _ hc0 hf (by omega) (by omega)).mono ?_
    rintro e w2 ⟨rfl, rfl⟩
    go_wp2
    go_ret2
    refine ⟨ret2 (by omega) rfl, ?_, (Only.nix (F := Just r) ho).setCell (p := ⟨r, 0, none⟩) (.inl rfl) _⟩
    have h2 := h1.to (O + 1) (by omega)
    rw [show (a : Int) + ((O : Int) - (a : Int) + 1) = ((O + 1 : Nat) : Int) from by omega]
    exact h2
end Go.Proofs.Ytliemhadgbjjiaa
