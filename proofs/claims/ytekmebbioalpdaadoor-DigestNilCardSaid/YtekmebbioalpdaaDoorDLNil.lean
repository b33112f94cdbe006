/-
  DigestNil, walked.
-/
import Derived.Test.YtekmebbioalpdaaDoorDAwake
namespace Go.Proofs.YtekmebbioalpdaaDoor
open Go.RowKit

set_option maxHeartbeats 2000000 in
theorem digestNil_walk (A : Option Addr) (c : Nat) (bs : List Nat) (w : World) (hL : Laid w) (hS : Src w (.slice A bs.length c) bs) :
    Calls Tryd.prog 7 #[.slice A bs.length c] w fun e w' => e = .returned (.bool true) ∧ Only Nix w w' := by
  have HL : Hid (∀ u, Only Nix w u → Laid u) := fun u o => hL.nix o
  have hsm := hS.small
  clear hS hL
  by_cases hb : bs.length ≤ 100
  · have hb2 : ¬ (100 : Int) < (bs.length : Int) := by omega
    have heq := run_eql_16 (md []) (md_len [])
    have a1 := (Only.refl Nix w).alloc (.cells #[.slice A bs.length c] 22)
    have HN : Hid (∀ u, Only Nix w u → _) := Lib.hid (fun u (o : Only Nix w u) => dsum_nil (HL.out u o))
    have HS : Hid (∀ u, Only Nix w u → _) := Lib.hid (fun u (o : Only Nix w u) => sum_any (HL.out u o) none 0 0 [] (Lists.nil u) (by decide))
    rw [List.flatten_nil] at HS
    obtain ⟨MB, hMB⟩ : ∃ MB, Hid ((md []).map byt = MB) := ⟨_, Lib.hid rfl⟩
    rw [hMB.out] at HN HS heq
    go_enter Tryd.func7, Tryd.ntmps7
    go_wp2_with fail
    refine (add_nil _ _).mono ?_
    rintro e w1 ⟨rfl, rfl⟩
    go_wp2_with fail
    refine (HN.out _ a1).mono ?_
    rintro e w2 ⟨rfl, o2⟩
    go_wp2_with fail
    refine (HS.out _ (a1.trans o2)).mono ?_
    rintro e w3 ⟨rfl, o3⟩
    go_wp2_with fail
    refine (dlen_nil _).mono ?_
    rintro e w4 ⟨rfl, rfl⟩
    go_wp2_with fail
    refine (aw (w := w) ((a1.trans o2).trans o3) (HL.out _ ((a1.trans o2).trans o3))).mono ?_
    rintro e w5 ⟨rfl, o5⟩
    go_wp2
    go_ret
    exact ⟨rfl, o5⟩
  · have hb2 : (100 : Int) < (bs.length : Int) := by omega
    go_enter Tryd.func7, Tryd.ntmps7
    go_wp2_with fail
    refine (aw (Only.refl _ _) (HL.out _ (Only.refl _ _))).mono ?_
    rintro e w5 ⟨rfl, o5⟩
    go_wp2
    go_ret
    exact ⟨rfl, o5⟩
end Go.Proofs.YtekmebbioalpdaaDoor
