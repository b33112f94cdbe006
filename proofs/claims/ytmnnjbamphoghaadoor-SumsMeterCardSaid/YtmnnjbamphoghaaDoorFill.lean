/-
  A Meter: fill.
-/
import Derived.Test.YtmnnjbamphoghaaDoorMeterParts
namespace Go.Proofs.YtmnnjbamphoghaaDoor
open Go.RowKit

theorem Laid.only {w w' : World} {b : Nat} (h : Laid w) (ho : Only (Just b) w w') (hb : 5 < b) : Laid w' :=
  h.keep fun a _ ha hc => cell_only ho hc (fun e => by have e' : a.block = b := e; omega)
theorem lit16 {w : World} (hL : Laid w) (x : Nat) (hx : x < 256) : Calls Tryd.prog 12 #[.slice (some ⟨w.heap.size + 1, 0, none⟩) 1 1] ((w.alloc (.cells #[.int .u8 (x : Int)] 5)).alloc (.cells #[.slice (some ⟨w.heap.size, 0, none⟩) 1 1] 22)).drew fun e w' => e = .returned (iv (nous 16 32773 16 x : Nat)) ∧ Only Nix w w' := by
  have o1 := (((Only.refl Nix w).alloc (.cells #[.int .u8 (x : Int)] 5)).alloc (.cells #[.slice (some ⟨w.heap.size, 0, none⟩) 1 1] 22)).drew
  have l1 := (lists1 (src1 w x hx 5) 22).nix (Only.refl Nix _).drew
  have c1 := Sum16_any (hL.nix o1) l1
  rw [show sm 16 32773 [[x]].flatten = nous 16 32773 16 x from by rw [show [[x]].flatten = [x] from rfl, sm_cons, sm_nil]; simp, World.size_alloc] at c1
  exact c1.mono fun _ _ hh => ⟨hh.1, o1.trans hh.2⟩

/-- the table, filled up to i; all else as it was -/
def FillRel (w : World) (b : Nat) (cs0 : Array Value) (s3 : Value) (wr : World) : Prop :=
  ∃ (i : Nat) (cs : Array Value), i ≤ 256 ∧ s3 = iv i ∧ Box wr b 68 cs ∧ cs.size = 261 ∧ (∀ j, j < 3 ∨ 259 ≤ j → cs[j]? = cs0[j]?) ∧ (∀ k, k < i → cs[3 + k]? = some (iv (nous 16 32773 16 k : Nat))) ∧ Only (Just b) w wr

set_option maxHeartbeats 1000000 in
set_option maxRecDepth 100000 in
theorem fill_any {w : World} {b : Nat} {cs0 : Array Value} (hL : Laid w) (h5 : 5 < b) (hB0 : Box w b 68 cs0) (hs0 : cs0.size = 261) :
    Calls Tryd.prog 27 #[.pointer (some ⟨b, 0, none⟩)] w fun e w' => e = .returned (.tuple #[]) ∧ ∃ cs, Box w' b 68 cs ∧ cs.size = 261 ∧ (∀ j, j < 3 ∨ 259 ≤ j → cs[j]? = cs0[j]?) ∧ (∀ k, k < 256 → cs[3 + k]? = some (iv (nous 16 32773 16 k : Nat))) ∧ Only (Just b) w w' := by
  go_enter Tryd.func27, Tryd.ntmps27
  go_wp2
  go_loopw [3] (fun s3 wr => FillRel w b cs0 s3 wr) (fun s3 _ => 256 - (intOf s3).toNat)
  case atStart => exact ⟨0, cs0, by omega, rfl, hB0, hs0, fun _ _ => rfl, (fun k hk => by omega), Only.refl _ _⟩
  case round =>
    obtain ⟨i, cs, hi, rfl, hB, hs, hk, ht, ho⟩ := hrel
    have HK := Lib.hid hk
    have HT := Lib.hid ht
    have HS := Lib.hid hs
    clear hk ht hs
    by_cases hlt : i < 256
    · have hlt2 : (i : Int) < 256 := by omega
      have H16 := Lib.hid (lit16 (hL.only ho h5) i hlt)
      have HB := Lib.hid hB
      clear hB
      obtain ⟨x0, hx0⟩ : ∃ x0, cs[3 + i]? = some x0 := ⟨_, Array.getElem?_eq_getElem (by have := HS.out; omega)⟩
      have HX0 := Lib.hid hx0
      clear hx0
      have hwr : IntKind.u8.wrap (i : Int) = (i : Int) := by rw [IntKind.wrap_u8]; omega
      go_wp2_with fail
      go_region_held3 (fun u => Only (Just b) wr u) (first | assumption | exact (Only.refl _ _).drew | exact ((Only.refl _ _).alloc _).drew | exact (((Only.refl _ _).alloc _).alloc _).drew | (refine Only.alloc ?_ _; assumption) | exact (Only.nix (F := Just b) ho1).setCell (p := ⟨b, 3 + i, none⟩) (.inl rfl) _ | exact Only.nix ho1) (first
        | (go_at_call 12; ((with_reducible refine (H16.out).mono ?_)); rintro e w1 ⟨rfl, ho1⟩; have hc1 := ((HB.out.only ho1 (fun e => e)).cell (3 + i)).trans HX0.out; have hf1 := (HB.out.only ho1 (fun e => e)).frozen (3 + i)))
      go_wp2
      go_roundw
      case rel =>
        have hB1 := HB.out.only ho1 (fun e => e)
        have hs := HS.out
        refine ⟨i + 1, _, by omega, by go_num, hB1.set2 (3 + i) _, by simp [hs], fun j hj => ?_, fun k hk => ?_, ho.trans ((Only.nix (F := Just b) ho1).setCell (p := ⟨b, 3 + i, none⟩) (.inl rfl) _)⟩
        · rw [Array.getElem?_setIfInBounds_ne (by omega)]
          exact HK.out j hj
        · by_cases hki : k = i
          · subst hki
            rw [Array.getElem?_setIfInBounds_self_of_lt (by omega)]
          · rw [Array.getElem?_setIfInBounds_ne (by omega)]
            exact HT.out k (by omega)
      case measure => simp [intOf]; omega
    · obtain rfl : i = 256 := by omega
      have hge : ¬ ((256 : Nat) : Int) < 256 := by omega
      go_wp2
      go_end0
      exact ⟨rfl, cs, hB, HS.out, HK.out, HT.out, ho⟩
end Go.Proofs.YtmnnjbamphoghaaDoor
