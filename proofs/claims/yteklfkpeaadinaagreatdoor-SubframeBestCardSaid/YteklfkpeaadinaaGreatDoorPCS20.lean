/-
  How many noughts a number ends with; Best of samples that are all the same.
-/
import Derived.Test.YteklfkpeaadinaaGreatDoorPCSH
import Derived.Test.YteklfkpeaadinaaGreatDoorPCS7
import Derived.Test.YteklfkpeaadinaaGreatDoorPCS2
import Derived.Shelf.Spec.TrailingZeros
namespace Go.Proofs.YteklfkpeaadinaaGreatDoor.S
open Go.RowKit Go.Shelf

/-- The table of math/bits holds what start-up laid. -/
def Tab (w : World) : Prop := ∀ j, j < 64 → w.cell? ⟨2, j, none⟩ = some (.int .u8 ((Lib.deBruijn64tab.getD j 0 : Nat) : Int))
theorem Tab.nix {w w' : World} (h : Tab w) (ho : Only Nix w w') : Tab w' := fun j hj => cell_keep ho (h j hj)
set_option maxHeartbeats 1000000 in
theorem tz64_core {w : World} (x k idx : Nat) (hx0 : ((x : Int) == 0) = false)
    (key : IntKind.u64.wrap (bits BinOp.and IntKind.u64 (x : Int) (IntKind.u64.wrap (-(x : Int))) * 285870213051353865) / 288230376151711744 = (idx : Int))
    (hi : idx < 64) (hk : k < 64) (hcell : w.cell? ⟨2, idx, none⟩ = some (.int .u8 (k : Int))) :
    Calls Tryz.prog 112 #[.int .u64 x] w fun e w' => e = .returned (iv k) ∧ w' = w := by
  go_enter Tryz.func112, Tryz.ntmps112
  go_wp2_with (simp only [key])
  go_ret
  exact ⟨rfl, rfl⟩
theorem tz64_zero (w : World) : Calls Tryz.prog 112 #[.int .u64 0] w fun e w' => e = .returned (iv 64) ∧ w' = w := by
  go_enter Tryz.func112, Tryz.ntmps112
  go_wp2
  go_ret
  exact ⟨rfl, rfl⟩
theorem tz64_any {w : World} (x : Nat) (hx : x < 18446744073709551616) (hT : Tab w) :
    Calls Tryz.prog 112 #[.int .u64 x] w fun e w' => e = .returned (iv (Lib.ctz 64 x)) ∧ w' = w := by
  by_cases hx0 : x = 0
  · subst hx0
    exact tz64_zero w
  · obtain ⟨hlow, hk⟩ := Lib.lowest_bit 64 x hx0 hx
    obtain ⟨hi, htab⟩ := Lib.deBruijn64_at _ hk
    have hcell := hT _ hi
    rw [htab] at hcell
    exact tz64_core x _ _ (by simp; omega) (tz64_key x _ hx hx0 hlow) hi hk hcell
theorem tz_any {w : World} (x : Nat) (hx : x < 18446744073709551616) (hT : Tab w) :
    Calls Tryz.prog 88 #[.int .u64 x] w fun e w' => e = .returned (iv (Lib.ctz 64 x)) ∧ w' = w := by
  have H := Lib.hid (tz64_any x hx hT)
  generalize Lib.ctz 64 x = k at *
  go_enter Tryz.func88, Tryz.ntmps88
  go_wp2_with fail
  refine (H.out).mono ?_
  rintro e w1 ⟨rfl, rfl⟩
  go_wp2
  go_ret
  exact ⟨rfl, rfl⟩
/-- how many noughts all numbers end with -/
def nou (xs : List Int) : Nat := if uni xs = 0 then 0 else Lib.ctz 64 (b64 (uni xs)).toNat
theorem noughts_any {w : World} (A : Option Addr) (n c : Nat) (xs : List Int) (hx : ISrc w (.slice A n c) xs) (hT : Tab w) :
    Calls Tryz.prog 55 #[.slice A n c] w fun e w' => e = .returned (iv (nou xs)) ∧ w' = w := by
  have HU := Lib.hid (union_any A n c xs hx)
  have hb : IntKind.u64.wrap (uni xs) = (((b64 (uni xs)).toNat : Nat) : Int) := by
    rw [b64_toNat, IntKind.wrap_u64]
    rfl
  have HZ := Lib.hid (tz_any (b64 (uni xs)).toNat (b64 (uni xs)).isLt hT)
  by_cases h0 : uni xs = 0
  · have e : nou xs = 0 := if_pos h0
    rw [e]
    rw [h0] at HU
    clear HZ hb h0 e hx
    go_enter Tryz.func55, Tryz.ntmps55
    go_wp2_with fail
    refine (HU.out).mono ?_
    rintro e w1 ⟨rfl, rfl⟩
    go_wp2
    go_ret
    exact ⟨rfl, rfl⟩
  · have e : nou xs = Lib.ctz 64 (b64 (uni xs)).toNat := if_neg h0
    rw [e]
    have h1 : (uni xs == 0) = false := by simpa using h0
    generalize Lib.ctz 64 (b64 (uni xs)).toNat = k at *
    generalize (b64 (uni xs)).toNat = y at *
    generalize uni xs = u at *
    clear h0 e hx
    go_enter Tryz.func55, Tryz.ntmps55
    go_wp2_with fail
    refine (HU.out).mono ?_
    rintro e w1 ⟨rfl, rfl⟩
    go_wp2_with (simp only [])
    refine (HZ.out).mono ?_
    rintro e w1 ⟨rfl, rfl⟩
    go_wp2
    go_ret
    exact ⟨rfl, rfl⟩
end Go.Proofs.YteklfkpeaadinaaGreatDoor.S
