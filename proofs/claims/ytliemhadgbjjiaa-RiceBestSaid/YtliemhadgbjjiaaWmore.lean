/-
  The Writer's Signed, Unary, Align, Len, Bytes.
-/
import Derived.Test.YtliemhadgbjjiaaWcalls
namespace Go.Proofs.Ytliemhadgbjjiaa
open Go.RowKit

section
variable {w : World} {b : Nat} {v : Value} {bs l : List Nat}

set_option maxHeartbeats 400000 in
theorem signedW_any (h : Wr w b v bs l) (hl : l.length ≤ 281474976710656) (n x : Int) :
    Calls Try.prog 62 #[.pointer (some ⟨b, 0, none⟩), .int .i64 n, .int .i64 x] w fun e w' => e = .returned (.int .i64 (sgnE n x)) ∧ WrTo w b v (sgnL l n x) w' := by
  by_cases hn : n < 0 ∨ 48 < n
  · have e1 : sgnE n x = 1 := by unfold sgnE; rw [if_pos hn]
    have e2 : sgnL l n x = l := by unfold sgnL; rw [e1]; rfl
    rw [e1, e2]
    clear e1 e2
    go_enter Try.func62, Try.ntmps62
    go_wp2_with fail
    refine (maybe_no _ _ hn).mono ?_
    rintro e w1 ⟨rfl, rfl⟩
    go_wp2
    go_ret
    exact ⟨rfl, WrTo.same h rfl⟩
  · obtain ⟨m, rfl⟩ := Int.eq_ofNat_of_zero_le (show 0 ≤ n by omega)
    have hm : m ≤ 48 := by omega
    have Hs := Lib.hid (isSigned_any w m x hm)
    by_cases hx : isS m x
    · have e1 : sgnE (m : Int) x = 0 := by unfold sgnE; rw [if_neg hn, Int.toNat_natCast, if_pos hx]
      have e2 : sgnL l (m : Int) x = l ++ bitsN m (x % 2 ^ m).toNat := by unfold sgnL; rw [e1, if_pos rfl, Int.toNat_natCast]
      rw [e1, e2]
      rw [decide_eq_true hx] at Hs
      have Hn := Lib.hid (number_any h m x hm (by omega))
      clear e1 e2 hx hn
      go_enter Try.func62, Try.ntmps62
      go_wp2_with fail
      refine (maybe_yes _ _ (by omega) (by omega)).mono ?_
      rintro e w1 ⟨rfl, rfl⟩
      go_wp2_with fail
      refine (Hs.out).mono ?_
      rintro e w1 ⟨rfl, rfl⟩
      go_wp2_with fail
      refine (Hn.out).mono ?_
      rintro e w1 ⟨v', bs', rfl, hw⟩
      go_wp2
      go_ret
      exact ⟨rfl, v', bs', hw⟩
    · have e1 : sgnE (m : Int) x = 10 := by unfold sgnE; rw [if_neg hn, Int.toNat_natCast, if_neg hx]
      have e2 : sgnL l (m : Int) x = l := by unfold sgnL; rw [e1]; rfl
      rw [e1, e2]
      rw [decide_eq_false hx] at Hs
      clear e1 e2 hx hn
      go_enter Try.func62, Try.ntmps62
      go_wp2_with fail
      refine (maybe_yes _ _ (by omega) (by omega)).mono ?_
      rintro e w1 ⟨rfl, rfl⟩
      go_wp2_with fail
      refine (Hs.out).mono ?_
      rintro e w1 ⟨rfl, rfl⟩
      go_wp2
      go_ret
      exact ⟨rfl, WrTo.same h rfl⟩

set_option maxHeartbeats 400000 in
theorem unaryW_any (h : Wr w b v bs l) (hl : l.length ≤ 281474976710656) (x : Int) :
    Calls Try.prog 63 #[.pointer (some ⟨b, 0, none⟩), .int .i64 x] w fun e w' => e = .returned (.int .i64 (unE x)) ∧ WrTo w b v (unL l x) w' := by
  by_cases h0 : x < 0
  · have e1 : unE x = 10 := by unfold unE; rw [if_pos (.inl h0)]
    have e2 : unL l x = l := by unfold unL; rw [e1]; rfl
    rw [e1, e2]
    clear e1 e2
    have hd : decide (x < 0) = true := by simpa using h0
    go_enter Try.func63, Try.ntmps63
    go_wp2
    go_ret
    exact ⟨rfl, WrTo.same h rfl⟩
  · have hd : decide (x < 0) = false := by simpa using h0
    by_cases h1 : 65536 < x
    · have e1 : unE x = 10 := by unfold unE; rw [if_pos (.inr h1)]
      have e2 : unL l x = l := by unfold unL; rw [e1]; rfl
      rw [e1, e2]
      clear e1 e2
      go_enter Try.func63, Try.ntmps63
      go_wp2
      go_ret
      exact ⟨rfl, WrTo.same h rfl⟩
    · obtain ⟨m, rfl⟩ := Int.eq_ofNat_of_zero_le (show 0 ≤ x by omega)
      have e1 : unE (m : Int) = 0 := by unfold unE; rw [if_neg (by omega)]
      have e2 : unL l (m : Int) = (l ++ List.replicate m 0) ++ [1] := by unfold unL; rw [e1, if_pos rfl, Int.toNat_natCast]
      rw [e1, e2]
      clear e1 e2
      have Hn := Lib.hid (noughts_any h m (by omega))
      go_enter Try.func63, Try.ntmps63
      go_wp2_with fail
      refine (Hn.out).mono ?_
      rintro e w1 ⟨v1, bs1, rfl, hw1, ho1, hm1⟩
      have hnum := number_any hw1 1 1 (by omega) (by rw [List.length_append, List.length_replicate]; omega)
      have e3 : bitsN 1 ((1 : Int) % 2 ^ 1).toNat = [1] := rfl
      rw [e3] at hnum
      have Hm := Lib.hid hnum
      clear hnum e3
      go_wp2_with fail
      refine (Hm.out).mono ?_
      rintro e w2 ⟨v2, bs2, rfl, hw2⟩
      go_wp2
      go_ret
      exact ⟨rfl, WrTo.of ho1 hm1 ⟨v2, bs2, hw2⟩⟩

set_option maxHeartbeats 400000 in
theorem len_any (h : Wr w b v bs l) :
    Calls Try.prog 17 #[.pointer (some ⟨b, 0, none⟩)] w fun e w' => e = .returned (.int .i64 (l.length : Int)) ∧ w = w' := by
  have hc := h.cell0
  go_enter Try.func17, Try.ntmps17
  go_wp2
  go_ret
  exact ⟨rfl, rfl⟩

set_option maxHeartbeats 400000 in
theorem bytes_any (h : Wr w b v bs l) :
    Calls Try.prog 19 #[.pointer (some ⟨b, 0, none⟩)] w fun e w' => ∃ v', e = .returned v' ∧ w'.ownsRow w.heap.size 5 1 v' bs.length (bs.map byt) ∧ Only Nix w w' := by
  have hc := h.cell1
  have hlen := h.len
  have Hc := Lib.hid (clone_any (Src.of_owns h.own (by omega)))
  obtain ⟨A, c, hv⟩ := owns_slice h.own
  rw [hv] at hc Hc
  clear hv
  go_enter Try.func19, Try.ntmps19
  go_wp2_with fail
  refine (Hc.out).mono ?_
  rintro e w1 ⟨v', rfl, hw⟩
  go_wp2
  go_ret
  exact ⟨v', rfl, hw⟩
end
end Go.Proofs.Ytliemhadgbjjiaa
