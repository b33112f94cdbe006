/-
  The statements' Bytes: two slices hold the same bytes.
-/
import Derived.Test.YtekmebbioalpdaaDoorDBytes
import Derived.Test.YtekmebbioalpdaaDoorDSum
namespace Go.Proofs.YtekmebbioalpdaaDoor
open Go.RowKit

def EqP (w : World) (m : Nat) (s5 : Value) (wr : World) : Prop := ∃ j : Nat, j ≤ m ∧ s5 = iv j ∧ Only Nix w wr
set_option maxHeartbeats 400000 in
theorem equal_any {w : World} (A B : Option Addr) (c d : Nat) (bs : List Nat) (ha : Src w (.slice A bs.length c) bs) (hb : Src w (.slice B bs.length d) bs) :
    Calls Tryd.prog 17 #[.slice A bs.length c, .slice B bs.length d] w fun e w' => e = .returned (.bool true) ∧ Only Nix w w' := by
  have Ha := Lib.hid ha
  have Hb := Lib.hid hb
  have hsm := ha.small
  clear ha hb
  go_enter Tryd.func17, Tryd.ntmps17
  go_wp2
  go_loopw [5] (fun s5 wr => EqP w bs.length s5 wr) (fun s5 _ => bs.length - (intOf s5).toNat)
  case atStart => exact ⟨0, Nat.zero_le _, rfl, Only.refl _ _⟩
  case round =>
    obtain ⟨j, hj, rfl, ho⟩ := hrel
    by_cases hlt : j < bs.length
    · obtain ⟨ad, rfl, hx⟩ := (Ha.out.nix ho).at_ hlt
      obtain ⟨bd, rfl, hy⟩ := (Hb.out.nix ho).at_ hlt
      have hx256 := Ha.out.lt _ (List.getElem_mem hlt)
      generalize bs[j] = x at *
      unfold byt at hx hy
      have hlt2 : (j : Int) < (bs.length : Int) := by omega
      go_wp2
      go_quiet (fail)
      go_wp2
      go_roundw
      case rel => exact ⟨j + 1, by omega, by go_num, ho.drewN _⟩
      case measure => simp [intOf]; omega
    · have hlt2 : decide (j < bs.length) = false := by simp; omega
      go_wp2
      go_ret
      exact ⟨rfl, ho⟩
/-- .. in a world that has gone on -/
theorem equal_at {w u : World} (hw : Only Nix w u) (A B : Option Addr) (m k c d : Nat) (bs : List Nat) (ha : Src u (.slice A m c) bs) (hb : Src u (.slice B k d) bs) :
    Calls Tryd.prog 17 #[.slice A m c, .slice B k d] u fun e w' => e = .returned (.bool true) ∧ Only Nix w w' := by
  obtain rfl := ha.len
  obtain rfl := hb.len
  exact (equal_any A B c d bs ha hb).mono fun _ _ hh => ⟨hh.1, hw.trans hh.2⟩
end Go.Proofs.YtekmebbioalpdaaDoor
