/-
  The Reader's 'ahead': the number that the next n bits are.
-/
import Derived.Test.YtliemhadgbjjiaaRead
import Derived.Test.YtliemhadgbjjiaaInts
namespace Go.Proofs.Ytliemhadgbjjiaa
open Go.RowKit

/-- a round's head: k bits are read, q are left -/
def AheadRel (w : World) (bs : List Nat) (a n : Nat) (s1 s5 : Value) (wr : World) : Prop :=
  ∃ k q p : Nat, k + q = n ∧ p = a + k ∧ s1 = .int .i64 (q : Int) ∧ s5 = .int .i64 (val (((bitsOf bs).drop a).take k) : Int) ∧ Box wr w.heap.size 66 #[.int .i64 (p : Int)] ∧ Only Nix w wr

set_option maxHeartbeats 1000000 in
theorem ahead_any {w : World} {r : Nat} {v : Value} {bs : List Nat} {a : Nat} (h : Rd w r v bs a) (n : Nat) (hn : n ≤ 48) (ha : a + n ≤ 8 * bs.length) :
    Calls Try.prog 81 #[.pointer (some ⟨r, 0, none⟩), .int .i64 (n : Int)] w fun e w' => e = .returned (.int .i64 (val (((bitsOf bs).drop a).take n) : Int)) ∧ Only Nix w w' := by
  have hc0 := h.cell0
  have hr := h.mem
  have hsm := h.small
  go_enter Try.func81, Try.ntmps81
  go_wp2
  go_region
  go_wp2
  go_loopw [1, 5] (fun s1 s5 wr => AheadRel w bs a n s1 s5 wr) (fun s1 _ _ => (intOf s1).toNat)
  case atStart => exact ⟨0, n, a, by omega, by omega, rfl, rfl, (Box.new w _ _).drew, ((Only.refl _ _).alloc _).drew⟩
  case round =>
    obtain ⟨k, q, p, hkq, hp, rfl, rfl, hb, ho⟩ := hrel
    have hpc := hb.cell 0
    have hpf := hb.frozen 0
    simp only [List.getElem?_toArray, List.getElem?_cons_zero] at hpc
    have hvl := val_lt (((bitsOf bs).drop a).take k) (fun x hx => bitsOf_le bs x (List.mem_of_mem_drop (List.mem_of_mem_take hx)))
    by_cases hq : 0 < q
    · have hR := h.nix ho
      obtain ⟨g, c, hv, hg, hcell⟩ := hR.slice_pos (by omega)
      have hc1 := hR.cell1
      rw [hv] at hc1
      have hix : p / 8 < bs.length := by omega
      have hx := hcell (p / 8) hix
      have hx2 := h.lt _ (List.getElem_mem hix)
      unfold byt at hx
      clear hcell hv hc0
      go_wp2_with fail
      refine (share_nat _ _ _ _ hpc).mono ?_
      rintro e w1 ⟨m, b, ⟨hm1, hm2, hm3⟩, rfl, rfl⟩
      have hV : val (((bitsOf bs).drop a).take k) < 281474976710656 := by
        have h2 : 2 ^ (((bitsOf bs).drop a).take k).length ≤ 2 ^ 48 := Nat.pow_le_pow_right (by omega) (by have := List.length_take_le k ((bitsOf bs).drop a); omega)
        omega
      generalize hVe : val (((bitsOf bs).drop a).take k) = V at *
      generalize hxe : bs[p / 8] = x at *
      have hm8 : m ≤ 8 := by omega
      have hb8 : b ≤ 8 := by omega
      have Hp := Lib.hid hp
      have Hkq := Lib.hid hkq
      have Hm2 := Lib.hid hm2
      have Hm3 := Lib.hid hm3
      have HVe := Lib.hid hVe
      have Hxe := Lib.hid hxe
      have hp2 : p ≤ 1125899906842624 := by omega
      have hix2 : (p : Int) / 8 < (bs.length : Int) := by omega
      clear hp hkq hm2 hm3 hVe hxe
      go_wp2_with fail
      go_quiet (fail)
      go_wp2_with fail
      refine (forth_any _ p (m : Int) _ ?_ ?_ (by omega) (by omega)).mono ?_
      · exact hpc
      · exact hpf
      rintro e w2 ⟨rfl, rfl⟩
      go_wp2
      have hkq := Hkq.out
      have hp := Hp.out
      have hm2 := Hm2.out
      have hm3 := Hm3.out
      have hw : wrap64 ((q : Int) - (m : Int)) = ((q - m : Nat) : Int) := by rw [w64 _ (by omega) (by omega)]; omega
      have hlen := bitsOf_len bs
      have hstep : V * 2 ^ m + x / 2 ^ b % 2 ^ m = val (((bitsOf bs).drop a).take (k + m)) := by
        rw [val_more _ _ _ _ (by omega), HVe.out, ← hp, chunk bs p m hix (by omega), Hxe.out, show 8 - p % 8 - m = b from by omega]
      refine ⟨⟨k + m, q - m, p + m, by omega, by omega, by rw [hw], by rw [read_step V x m b hV hx2 hm8, hstep], ?_, ?_⟩, ?_⟩
      · have h1 := (hb.drewN nq).put 0 (.int .i64 ((p + m : Nat) : Int))
        simpa using h1
      · exact (ho.drewN nq).setCell (.inr (Nat.le_refl _)) _
      · rw [hw]; simp [intOf]; omega
    · go_wp2
      go_ret
      refine ⟨ret1 ?_, ho⟩
      rw [show k = n from by omega]
end Go.Proofs.Ytliemhadgbjjiaa
