/-
  DigestTells, walked.
-/
import Derived.Test.YtekmebbioalpdaaDoorDRefSum
namespace Go.Proofs.YtekmebbioalpdaaDoor
open Go.RowKit

set_option maxHeartbeats 2000000 in
theorem digestTells_walk (A : Option Addr) (c : Nat) (bs : List Nat) (w : World) (hL : Laid w) (hS : Src w (.slice A bs.length c) bs) (hcap : bs.length ≤ c) :
    Calls Tryd.prog 3 #[.slice A bs.length c] w fun e w' => e = .returned (.bool true) ∧ Only Nix w w' := by
  have HL : Hid (∀ u, Only Nix w u → Laid u) := fun u o => hL.nix o
  have hsm := hS.small
  clear hL
  by_cases hb : bs.length ≤ 600
  · have hb2 : ¬ (600 : Int) < (bs.length : Int) := by omega
    have heq := run_eql_16 (md bs) (md_len bs)
    have a1 := (Only.refl Nix w).alloc (.cells #[.slice A bs.length c] 22)
    have HS1 := Lib.hid (sum_any (HL.out _ a1) (some ⟨w.heap.size, 0, none⟩) 1 1 [bs] (lists1 hS hcap 22) (by simp; omega))
    rw [show [bs].flatten = bs from by simp] at HS1
    have HS2 : Hid (∀ u, Only Nix w u → _) := Lib.hid (fun u (o : Only Nix w u) => refSum_any A c bs (hS.nix o) hb)
    clear hS
    obtain ⟨MB, hMB⟩ : ∃ MB, Hid ((md bs).map byt = MB) := ⟨_, Lib.hid rfl⟩
    rw [hMB.out] at HS1 HS2 heq
    go_enter Tryd.func3, Tryd.ntmps3
    go_wp2_with fail
    refine (HS1.out).mono ?_
    rintro e w1 ⟨rfl, o1⟩
    go_wp2_with fail
    refine (HS2.out _ (a1.trans o1)).mono ?_
    rintro e w2 ⟨rfl, o2⟩
    go_wp2_with fail
    refine (aw (w := w) ((a1.trans o1).trans o2) (HL.out _ ((a1.trans o1).trans o2))).mono ?_
    rintro e w5 ⟨rfl, o5⟩
    go_wp2
    go_ret
    exact ⟨rfl, o5⟩
  · have hb2 : (600 : Int) < (bs.length : Int) := by omega
    go_enter Tryd.func3, Tryd.ntmps3
    go_wp2_with fail
    refine (aw (Only.refl _ _) (HL.out _ (Only.refl _ _))).mono ?_
    rintro e w5 ⟨rfl, o5⟩
    go_wp2
    go_ret
    exact ⟨rfl, o5⟩
end Go.Proofs.YtekmebbioalpdaaDoor
