/-
  The Writer's Put, Signed, Unary, Align, Len, Bytes, and NewWriter: for every argument, what is answered, and which bits there are then.
-/
import Derived.Test.YtliemhadgbjjiaaNumber
namespace Go.Proofs.Ytliemhadgbjjiaa
open Go.RowKit

/-- the Writer has these bits then; nothing else has turned but its own blocks -/
def WrTo (w : World) (b : Nat) (v : Value) (l' : List Nat) (w' : World) : Prop := ∃ v' bs', Wr w' b v' bs' l' ∧ Only (WF b v) w w' ∧ Moves w.heap.size v v'
theorem WrTo.same {w w' : World} {b : Nat} {v : Value} {bs l : List Nat} (h : Wr w b v bs l) (he : w = w') : WrTo w b v l w' := by
  subst he
  exact ⟨v, bs, h, Only.refl _ _, Moves.refl _ _⟩
theorem WrTo.of {a b c : World} {k : Nat} {v v1 : Value} {l' : List Nat} (h2 : Only (WF k v) a b) (h3 : Moves a.heap.size v v1) (h : WrTo b k v1 l' c) : WrTo a k v l' c := by
  obtain ⟨v2, bs2, k1, k2, k3⟩ := h
  refine ⟨v2, bs2, k1, h2.then k2 ?_, h3.trans k3 h2.size⟩
  rintro i (e | e)
  · exact .inl (.inl e)
  · exact (h3 i e).imp .inr id

/-- Put's error, and the bits then -/
def putE (n x : Int) : Int := if n < 0 ∨ 48 < n then 1 else if x < 0 ∨ (2 : Int) ^ n.toNat ≤ x then 10 else 0
def putL (l : List Nat) (n x : Int) : List Nat := if putE n x = 0 then l ++ bitsN n.toNat x.toNat else l
/-- Signed's -/
def isS (n : Nat) (x : Int) : Prop := if n = 0 then x = 0 else -((2 : Int) ^ (n - 1)) ≤ x ∧ x < (2 : Int) ^ (n - 1)
instance (n : Nat) (x : Int) : Decidable (isS n x) := by unfold isS; exact inferInstance
def sgnE (n x : Int) : Int := if n < 0 ∨ 48 < n then 1 else if isS n.toNat x then 0 else 10
def sgnL (l : List Nat) (n x : Int) : List Nat := if sgnE n x = 0 then l ++ bitsN n.toNat (x % 2 ^ n.toNat).toNat else l
/-- Unary's -/
def unE (x : Int) : Int := if x < 0 ∨ 65536 < x then 10 else 0
def unL (l : List Nat) (x : Int) : List Nat := if unE x = 0 then (l ++ List.replicate x.toNat 0) ++ [1] else l

section
variable {w : World} {b : Nat} {v : Value} {bs l : List Nat}

set_option maxHeartbeats 400000 in
theorem newWriter_any (w : World) :
    Calls Try.prog 10 #[] w fun e w' => e = .returned (.pointer (some ⟨w.heap.size, 0, none⟩)) ∧ Wr w' w.heap.size (.slice none 0 0) [] [] ∧ Only Nix w w' := by
  go_enter Try.func10, Try.ntmps10
  go_wp2
  go_ret
  exact ⟨rfl, ⟨Box.new _ _ _, World.ownsRow_nil _ _ _ _, ⟨by simp, rfl, by simp, by simp⟩, by simp⟩, (Only.refl _ _).alloc _⟩

set_option maxHeartbeats 400000 in
theorem put_arg (b : Nat) (w : World) (n x : Int) (hn : n < 0 ∨ 48 < n) :
    Calls Try.prog 38 #[.pointer (some ⟨b, 0, none⟩), .int .i64 n, .int .i64 x] w fun e w' => e = .returned (.int .i64 1) ∧ w = w' := by
  go_enter Try.func38, Try.ntmps38
  go_wp2_with fail
  refine (maybe_no _ _ hn).mono ?_
  rintro e w1 ⟨rfl, rfl⟩
  go_wp2
  go_ret
  exact ⟨rfl, rfl⟩

set_option maxHeartbeats 400000 in
theorem put_range (b : Nat) (w : World) (n : Nat) (x : Int) (hn : n ≤ 48) (hx : x < 0 ∨ ((2 ^ n : Nat) : Int) ≤ x) :
    Calls Try.prog 38 #[.pointer (some ⟨b, 0, none⟩), .int .i64 (n : Int), .int .i64 x] w fun e w' => e = .returned (.int .i64 10) ∧ w = w' := by
  have hp := w64_pow n (by omega)
  by_cases h0 : x < 0
  · have hd : decide (x < 0) = true := by simpa using h0
    go_enter Try.func38, Try.ntmps38
    go_wp2_with fail
    refine (maybe_yes _ _ (by omega) (by omega)).mono ?_
    rintro e w1 ⟨rfl, rfl⟩
    go_wp2
    go_ret
    exact ⟨rfl, rfl⟩
  · have hd : decide (x < 0) = false := by simpa using h0
    have h1 : wrap64 ((2 : Int) ^ n) ≤ x := by rw [hp]; omega
    clear hp
    go_enter Try.func38, Try.ntmps38
    go_wp2_with fail
    refine (maybe_yes _ _ (by omega) (by omega)).mono ?_
    rintro e w1 ⟨rfl, rfl⟩
    go_wp2
    go_ret
    exact ⟨rfl, rfl⟩

set_option maxHeartbeats 400000 in
theorem put_ok (h : Wr w b v bs l) (hl : l.length ≤ 281474976710656) (n : Nat) (x : Int) (hn : n ≤ 48) (hx0 : 0 ≤ x) (hx : x < ((2 ^ n : Nat) : Int)) :
    Calls Try.prog 38 #[.pointer (some ⟨b, 0, none⟩), .int .i64 (n : Int), .int .i64 x] w fun e w' => e = .returned (.int .i64 0) ∧ WrTo w b v (l ++ bitsN n (x % 2 ^ n).toNat) w' := by
  have hp := w64_pow n (by omega)
  have hd : decide (x < 0) = false := by simp; omega
  have h1 : ¬ wrap64 ((2 : Int) ^ n) ≤ x := by rw [hp]; omega
  have hd2 : decide (wrap64 ((2 : Int) ^ n) ≤ x) = false := by simpa using h1
  have Hn := Lib.hid (number_any h n x hn (by omega))
  clear hp h1
  go_enter Try.func38, Try.ntmps38
  go_wp2_with fail
  refine (maybe_yes _ _ (by omega) (by omega)).mono ?_
  rintro e w1 ⟨rfl, rfl⟩
  go_wp2_with fail
  refine (Hn.out).mono ?_
  rintro e w1 ⟨v', bs', rfl, hw⟩
  go_wp2
  go_ret
  exact ⟨rfl, v', bs', hw⟩

theorem put_any (h : Wr w b v bs l) (hl : l.length ≤ 281474976710656) (n x : Int) :
    Calls Try.prog 38 #[.pointer (some ⟨b, 0, none⟩), .int .i64 n, .int .i64 x] w fun e w' => e = .returned (.int .i64 (putE n x)) ∧ WrTo w b v (putL l n x) w' := by
  by_cases hn : n < 0 ∨ 48 < n
  · have e1 : putE n x = 1 := by unfold putE; rw [if_pos hn]
    have e2 : putL l n x = l := by unfold putL; rw [e1]; rfl
    rw [e1, e2]
    exact (put_arg b w n x hn).mono fun e w' hh => ⟨hh.1, WrTo.same h hh.2⟩
  · obtain ⟨m, rfl⟩ := Int.eq_ofNat_of_zero_le (show 0 ≤ n by omega)
    by_cases hx : x < 0 ∨ ((2 ^ m : Nat) : Int) ≤ x
    · have e1 : putE (m : Int) x = 10 := by unfold putE; rw [if_neg hn, Int.toNat_natCast, pow_cast, if_pos hx]
      have e2 : putL l (m : Int) x = l := by unfold putL; rw [e1]; rfl
      rw [e1, e2]
      exact (put_range b w m x (by omega) hx).mono fun e w' hh => ⟨hh.1, WrTo.same h hh.2⟩
    · have e1 : putE (m : Int) x = 0 := by unfold putE; rw [if_neg hn, Int.toNat_natCast, pow_cast, if_neg hx]
      have e2 : putL l (m : Int) x = l ++ bitsN m (x % 2 ^ m).toNat := by
        unfold putL
        rw [e1, if_pos rfl, Int.toNat_natCast, pow_cast, Int.emod_eq_of_lt (by omega) (by omega)]
      rw [e1, e2]
      exact put_ok h hl m x (by omega) (by omega) (by omega)

set_option maxHeartbeats 400000 in
theorem isSigned_any (w : World) (n : Nat) (x : Int) (hn : n ≤ 48) :
    Calls Try.prog 71 #[.int .i64 (n : Int), .int .i64 x] w fun e w' => e = .returned (.bool (decide (isS n x))) ∧ w = w' := by
  rcases Nat.eq_zero_or_pos n with rfl | hp
  · by_cases hx : x = 0
    · subst hx
      have e1 : decide (isS 0 0) = true := by simp [isS]
      rw [e1]
      clear e1
      go_enter Try.func71, Try.ntmps71
      go_wp2
      go_ret
      exact ⟨rfl, rfl⟩
    · have e1 : decide (isS 0 x) = false := by simp [isS, hx]
      rw [e1]
      clear e1
      have hb : (x == 0) = false := by simpa using hx
      go_enter Try.func71, Try.ntmps71
      go_wp2
      go_ret
      exact ⟨rfl, rfl⟩
  · obtain ⟨m, rfl⟩ : ∃ m, n = m + 1 := ⟨n - 1, by omega⟩
    have hw := w64_pow m (by omega)
    have hpl := pow_le_of (show m ≤ 48 by omega)
    have hwn : wrap64 (-wrap64 ((2 : Int) ^ m)) = -((2 : Int) ^ m) := by
      rw [hw, pow_cast]
      generalize 2 ^ m = P at *
      exact w64 _ (by omega) (by omega)
    have hw2 : wrap64 ((2 : Int) ^ m) = (2 : Int) ^ m := by rw [hw, pow_cast]
    by_cases h1 : -((2 : Int) ^ m) ≤ x
    · by_cases h2 : x < (2 : Int) ^ m
      · have e1 : decide (isS (m + 1) x) = true := by simp [isS, h1, h2]
        have f1 : decide (wrap64 (-wrap64 ((2 : Int) ^ m)) ≤ x) = true := by rw [hwn]; simpa using h1
        have f2 : decide (x < wrap64 ((2 : Int) ^ m)) = true := by rw [hw2]; simpa using h2
        rw [e1]
        clear e1 h1 h2 hw hwn hw2
        go_enter Try.func71, Try.ntmps71
        go_wp2
        go_ret
        exact ⟨rfl, rfl⟩
      · have e1 : decide (isS (m + 1) x) = false := by simp [isS, h2]
        have f1 : decide (wrap64 (-wrap64 ((2 : Int) ^ m)) ≤ x) = true := by rw [hwn]; simpa using h1
        have f2 : decide (x < wrap64 ((2 : Int) ^ m)) = false := by rw [hw2]; simpa using h2
        rw [e1]
        clear e1 h1 h2 hw hwn hw2
        go_enter Try.func71, Try.ntmps71
        go_wp2
        go_ret
        exact ⟨rfl, rfl⟩
    · have e1 : decide (isS (m + 1) x) = false := by simp [isS, h1]
      have f1 : decide (wrap64 (-wrap64 ((2 : Int) ^ m)) ≤ x) = false := by rw [hwn]; simpa using h1
      rw [e1]
      clear e1 h1 hw hwn hw2
      go_enter Try.func71, Try.ntmps71
      go_wp2
      go_ret
      exact ⟨rfl, rfl⟩
end
end Go.Proofs.Ytliemhadgbjjiaa
