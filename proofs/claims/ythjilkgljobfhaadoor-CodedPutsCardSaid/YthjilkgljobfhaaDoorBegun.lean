/-
  begun, walked.
-/
import Derived.Test.YthjilkgljobfhaaDoorLen
namespace Go.Proofs.YthjilkgljobfhaaDoor
open Go.RowKit

theorem begun_at : ∀ x, x < 256 → ∀ i, i < 7 → (begunOf x = 0 ∨ i < begunOf x) → ((x / 2 ^ bts.getD i 0 = mrk.getD i 0 / 2 ^ bts.getD i 0) ↔ begunOf x = i + 1) := by decide +kernel
def BegunP (w : World) (x : Nat) (s4 : Value) (wr : World) : Prop := ∃ i : Nat, i ≤ 7 ∧ (begunOf x = 0 ∨ i < begunOf x) ∧ s4 = iv i ∧ Only Nix w wr
theorem begun_le (x : Nat) : begunOf x ≤ 7 := by unfold begunOf; (repeat' split) <;> omega

set_option maxHeartbeats 1000000 in
theorem begun_any {w : World} (hL : Laid w) (x : Nat) (hx : x < 256) :
    Calls Tryd.prog 16 #[iv (x : Int)] w fun e w' => e = .returned (iv (begunOf x : Nat)) ∧ Only Nix w w' := by
  have HL := Lib.hid hL
  clear hL
  go_enter Tryd.func16, Tryd.ntmps16
  go_wp2
  go_loopw [4] (fun s4 wr => BegunP w x s4 wr) (fun s4 _ => 7 - (intOf s4).toNat)
  case atStart => exact ⟨0, by omega, by omega, rfl, Only.refl _ _⟩
  case round =>
    obtain ⟨i, h1, h2, rfl, ho⟩ := hrel
    have hb7 := begun_le x
    by_cases hlt : i < 7
    · have HL2 := HL.out.nix ho
      have hm := HL2.mark i hlt
      have hbt := HL2.bits i hlt
      have hat := begun_at x hx i hlt h2
      clear HL2
      by_cases hq : begunOf x = i + 1
      · obtain rfl | rfl | rfl | rfl | rfl | rfl | rfl : i = 0 ∨ i = 1 ∨ i = 2 ∨ i = 3 ∨ i = 4 ∨ i = 5 ∨ i = 6 := by omega
        all_goals
          simp [mrk, bts] at hm hbt hat
        all_goals
          have hq2 := hat.2 hq
          clear hat
        · have hd : (((x : Int) / 128 : Int) == 0) = true := by simp; omega
          have Hq := Lib.hid hq
          clear hq2 hq
          go_wp2
          go_quiet (fail)
          go_wp2
          go_ret
          exact ⟨ret1 (by have := Hq.out; omega), ho.drewN _⟩
        · have hd : (((x : Int) / 32 : Int) == 6) = true := by simp; omega
          have Hq := Lib.hid hq
          clear hq2 hq
          go_wp2
          go_quiet (fail)
          go_wp2
          go_ret
          exact ⟨ret1 (by have := Hq.out; omega), ho.drewN _⟩
        · have hd : (((x : Int) / 16 : Int) == 14) = true := by simp; omega
          have Hq := Lib.hid hq
          clear hq2 hq
          go_wp2
          go_quiet (fail)
          go_wp2
          go_ret
          exact ⟨ret1 (by have := Hq.out; omega), ho.drewN _⟩
        · have hd : (((x : Int) / 8 : Int) == 30) = true := by simp; omega
          have Hq := Lib.hid hq
          clear hq2 hq
          go_wp2
          go_quiet (fail)
          go_wp2
          go_ret
          exact ⟨ret1 (by have := Hq.out; omega), ho.drewN _⟩
        · have hd : (((x : Int) / 4 : Int) == 62) = true := by simp; omega
          have Hq := Lib.hid hq
          clear hq2 hq
          go_wp2
          go_quiet (fail)
          go_wp2
          go_ret
          exact ⟨ret1 (by have := Hq.out; omega), ho.drewN _⟩
        · have hd : (((x : Int) / 2 : Int) == 126) = true := by simp; omega
          have Hq := Lib.hid hq
          clear hq2 hq
          go_wp2
          go_quiet (fail)
          go_wp2
          go_ret
          exact ⟨ret1 (by have := Hq.out; omega), ho.drewN _⟩
        · have hd : (((x : Int) : Int) == 254) = true := by simp; omega
          have Hq := Lib.hid hq
          clear hq2 hq
          go_wp2
          go_quiet (fail)
          go_wp2
          go_ret
          exact ⟨ret1 (by have := Hq.out; omega), ho.drewN _⟩
      · obtain rfl | rfl | rfl | rfl | rfl | rfl | rfl : i = 0 ∨ i = 1 ∨ i = 2 ∨ i = 3 ∨ i = 4 ∨ i = 5 ∨ i = 6 := by omega
        all_goals
          simp [mrk, bts] at hm hbt hat
        all_goals
          have hq2 : ¬ _ := fun h => hq (hat.1 h)
          clear hat
        · have hd : (((x : Int) / 128 : Int) == 0) = false := by simp; omega
          have Hq := Lib.hid hq
          clear hq2 hq
          go_wp2
          go_quiet (fail)
          go_wp2
          go_roundw
          case rel => exact ⟨1, by omega, by have := Hq.out; omega, by go_num, ho.drewN _⟩
          case measure => simp [intOf]
        · have hd : (((x : Int) / 32 : Int) == 6) = false := by simp; omega
          have Hq := Lib.hid hq
          clear hq2 hq
          go_wp2
          go_quiet (fail)
          go_wp2
          go_roundw
          case rel => exact ⟨2, by omega, by have := Hq.out; omega, by go_num, ho.drewN _⟩
          case measure => simp [intOf]
        · have hd : (((x : Int) / 16 : Int) == 14) = false := by simp; omega
          have Hq := Lib.hid hq
          clear hq2 hq
          go_wp2
          go_quiet (fail)
          go_wp2
          go_roundw
          case rel => exact ⟨3, by omega, by have := Hq.out; omega, by go_num, ho.drewN _⟩
          case measure => simp [intOf]
        · have hd : (((x : Int) / 8 : Int) == 30) = false := by simp; omega
          have Hq := Lib.hid hq
          clear hq2 hq
          go_wp2
          go_quiet (fail)
          go_wp2
          go_roundw
          case rel => exact ⟨4, by omega, by have := Hq.out; omega, by go_num, ho.drewN _⟩
          case measure => simp [intOf]
        · have hd : (((x : Int) / 4 : Int) == 62) = false := by simp; omega
          have Hq := Lib.hid hq
          clear hq2 hq
          go_wp2
          go_quiet (fail)
          go_wp2
          go_roundw
          case rel => exact ⟨5, by omega, by have := Hq.out; omega, by go_num, ho.drewN _⟩
          case measure => simp [intOf]
        · have hd : (((x : Int) / 2 : Int) == 126) = false := by simp; omega
          have Hq := Lib.hid hq
          clear hq2 hq
          go_wp2
          go_quiet (fail)
          go_wp2
          go_roundw
          case rel => exact ⟨6, by omega, by have := Hq.out; omega, by go_num, ho.drewN _⟩
          case measure => simp [intOf]
        · have hd : (((x : Int) : Int) == 254) = false := by simp; omega
          have Hq := Lib.hid hq
          clear hq2 hq
          go_wp2
          go_quiet (fail)
          go_wp2
          go_roundw
          case rel => exact ⟨7, by omega, by have := Hq.out; omega, by go_num, ho.drewN _⟩
          case measure => simp [intOf]
    · obtain rfl : i = 7 := by omega
      have h0 : Hid (begunOf x = 0) := (show begunOf x = 0 by omega)
      clear h2
      go_wp2
      go_ret
      exact ⟨ret1 (by rw [h0.out]; rfl), ho⟩
end Go.Proofs.YthjilkgljobfhaaDoor
