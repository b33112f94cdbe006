/-
  math/bits.Len of numbers of no more than 32 bits.
-/
import Derived.Test.YtliemhadgbjjiaaRSmall
import Derived.Lib.BitFns
namespace Go.Proofs.Ytliemhadgbjjiaa
open Go.RowKit

theorem bl_upper (x : Nat) (hx : x < 18446744073709551616) : x < 2 ^ Lib.bitLen x := by
  have h : ∀ f x, x < 2 ^ f → x < 2 ^ Lib.bitLenAux f x := by
    intro f
    induction f with
    | zero => intro x h; simpa [Lib.bitLenAux] using h
    | succ f ih =>
      intro x h
      rw [Lib.bitLenAux]
      split
      · rename_i h0; subst h0; simp
      · have h2 := ih (x / 2) (by rw [Nat.pow_succ] at h; omega)
        rw [Nat.add_comm, Nat.pow_succ]
        omega
  exact h 64 x hx
theorem bl_lower (x k : Nat) (hx : x < 2 ^ k) : Lib.bitLen x ≤ k := by
  have h : ∀ f x k, x < 2 ^ k → Lib.bitLenAux f x ≤ k := by
    intro f
    induction f with
    | zero => intro x k _; simp [Lib.bitLenAux]
    | succ f ih =>
      intro x k h
      rw [Lib.bitLenAux]
      split
      · omega
      · rename_i h0
        cases k with
        | zero => simp at h; exact absurd h h0
        | succ k =>
          have h2 := ih (x / 2) k (by rw [Nat.pow_succ] at h; omega)
          omega
  exact h 64 x k hx

theorem len_last (a : Nat) (ha : a ≤ 8) (k : Nat) (hk : k ≤ 24) : wrap64 ((k : Int) + wrap64 (a : Int)) = ((k + a : Nat) : Int) := by
  unfold wrap64
  omega
theorem len_last0 (a : Nat) (ha : a ≤ 8) : wrap64 (wrap64 (a : Int)) = (a : Int) := by
  unfold wrap64
  omega
theorem len_get (x : Nat) (h : x < Lib.len8tab.size) (h2 : x < 256) : ((Lib.len8tab[x]'h).toNat : Nat) = Lib.bitLen x ∧ Lib.bitLen x ≤ 8 := by
  have h1 := Lib.len8_of (x : Int) (by omega) (by omega)
  unfold Lib.len8 at h1
  rw [Int.toNat_natCast, getElem?_pos Lib.len8tab x h] at h1
  refine ⟨?_, bl_lower x 8 (by omega)⟩
  have h3 : (((Lib.len8tab[x]'h).toNat : Nat) : Int) = (Lib.bitLen x : Int) := h1
  omega
set_option maxRecDepth 100000 in
set_option maxHeartbeats 2000000 in
theorem len64_any (w : World) (x : Nat) (hx : x < 4294967296) :
    Calls Try.prog 85 #[.int .u64 (x : Int)] w fun e w' => e = .returned (iv (Lib.bitLen x : Nat)) ∧ w' = w := by
  have c1 : decide ((4294967296 : Int) ≤ (x : Int)) = false := by simp; omega
  rcases Nat.lt_or_ge x 65536 with h1 | h1
  · have c2 : decide ((65536 : Int) ≤ (x : Int)) = false := by simp; omega
    rcases Nat.lt_or_ge x 256 with h2 | h2
    · have c3 : decide ((256 : Int) ≤ (x : Int)) = false := by simp; omega
      go_enter Try.func85, Try.ntmps85
      go_wp2
      go_ret
      obtain ⟨e1, e2⟩ := len_get x (by assumption) h2
      rw [e1, len_last0 _ e2]
      exact ⟨rfl, rfl⟩
    · have c3 : decide ((256 : Int) ≤ (x : Int)) = true := by simp; omega
      have hs := Lib.bitLen_shift8 x h2 (by omega)
      have hd : (x : Int) / 256 = ((x / 256 : Nat) : Int) := by omega
      have hl : x / 256 < 256 := by omega
      have Hs := Lib.hid hs
      clear hs
      generalize x / 256 = y at *
      go_enter Try.func85, Try.ntmps85
      go_wp2
      go_ret
      obtain ⟨e1, e2⟩ := len_get y (by assumption) hl
      rw [e1]
      refine ⟨?_, rfl⟩
      rw [Hs.out]
      have := len_last _ e2 8 (by omega)
      simpa using this
  · have c2 : decide ((65536 : Int) ≤ (x : Int)) = true := by simp; omega
    have hd : (x : Int) / 65536 = ((x / 65536 : Nat) : Int) := by omega
    rcases Nat.lt_or_ge (x / 65536) 256 with h2 | h2
    · have c3 : decide ((256 : Int) ≤ ((x / 65536 : Nat) : Int)) = false := by simp; omega
      have Hs := Lib.hid (Lib.bitLen_shift16 x h1 (by omega))
      generalize x / 65536 = y at *
      go_enter Try.func85, Try.ntmps85
      go_wp2
      go_ret
      obtain ⟨e1, e2⟩ := len_get y (by assumption) h2
      rw [e1]
      refine ⟨?_, rfl⟩
      rw [Hs.out]
      have := len_last _ e2 16 (by omega)
      simpa using this
    · have c3 : decide ((256 : Int) ≤ ((x / 65536 : Nat) : Int)) = true := by simp; omega
      have Hs := Lib.hid (Lib.bitLen_shift24 x (by omega) (by omega))
      have hd2 : ((x / 65536 : Nat) : Int) / 256 = ((x / 16777216 : Nat) : Int) := by omega
      have hl : x / 16777216 < 256 := by omega
      generalize x / 16777216 = z at *
      generalize x / 65536 = y at *
      go_enter Try.func85, Try.ntmps85
      go_wp2
      go_ret
      obtain ⟨e1, e2⟩ := len_get z (by assumption) hl
      rw [e1]
      refine ⟨?_, rfl⟩
      rw [Hs.out]
      have := len_last _ e2 24 (by omega)
      simpa using this
theorem len_any64 (w : World) (x : Nat) (hx : x < 4294967296) :
    Calls Try.prog 79 #[.int .u64 (x : Int)] w fun e w' => e = .returned (iv (Lib.bitLen x : Nat)) ∧ w' = w := by
  have HL := Lib.hid (len64_any w x hx)
  go_enter Try.func79, Try.ntmps79
  go_wp2_with fail
  refine (HL.out).mono ?_
  rintro e w1 ⟨rfl, rfl⟩
  go_wp2
  go_ret
  exact ⟨rfl, rfl⟩
end Go.Proofs.Ytliemhadgbjjiaa
