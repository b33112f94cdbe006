/-
  A Meter: its table is made once.
-/
import Derived.Test.YtmnnjbamphoghaaDoorFill
namespace Go.Proofs.YtmnnjbamphoghaaDoor
open Go.RowKit

theorem loadB0 (a : Addr) (w : World) (hc : w.cell? a = some (.int .u32 0)) :
    Calls Tryd.prog 32 #[.pointer (some a)] w fun e w' => e = .returned (.bool false) ∧ w = w' := by
  have hl := run_call_load (P := Tryd.prog) Tryd.func37 (by kernel_rfl) (by kernel_rfl) (by kernel_rfl) .u32 (by kernel_rfl) hc
  go_enter Tryd.func32, Tryd.ntmps32
  go_wp2
  go_ret
  exact ⟨rfl, rfl⟩
theorem loadB1 (a : Addr) (w : World) (hc : w.cell? a = some (.int .u32 1)) :
    Calls Tryd.prog 32 #[.pointer (some a)] w fun e w' => e = .returned (.bool true) ∧ w = w' := by
  have hl := run_call_load (P := Tryd.prog) Tryd.func37 (by kernel_rfl) (by kernel_rfl) (by kernel_rfl) .u32 (by kernel_rfl) hc
  go_enter Tryd.func32, Tryd.ntmps32
  go_wp2
  go_ret
  exact ⟨rfl, rfl⟩

/-- the Meter's own function -/
abbrev fillF (b : Nat) : Value := .func (.func 27) #[.pointer (some ⟨b, 0, none⟩)] #[]

set_option maxRecDepth 100000 in
set_option maxHeartbeats 1600000 in
theorem slow_any {w : World} {b : Nat} {cs : Array Value} {y t : Nat} (hL : Laid w) (h5 : 5 < b) (h : Mt w b cs 0 y t) :
    Calls Tryd.prog 33 #[.pointer (some ⟨b, 0, none⟩), fillF b] w fun e w' => e = .returned (.tuple #[]) ∧ ∃ cs', Mt w' b cs' 1 y t ∧ Only (Just b) w w' := by
  have hs := h.size
  have c1 := (h.box.cell 1).trans h.c1
  have f1 := h.box.frozen 1
  have hB1 := h.box.set2 1 (.int .i32 1)
  have o1 := (Only.refl (Just b) w).setCell (p := ⟨b, 1, none⟩) (.inl rfl) (.int .i32 1)
  have c0 : (w.setCell ⟨b, 1, none⟩ (.int .i32 1)).cell? ⟨b, 0, none⟩ = some (.int .u32 0) := by rw [hB1.cell]; simp [h.c0]
  have HF := Lib.hid (fill_any (hL.only o1 h5) h5 hB1 (by simp [hs]))
  have hnot : ∀ (x : Bool) (w : World), (Op.unary .not (.bool x)).run Tryd.prog w = .ok (.bool (!x)) w := fun _ _ => rfl
  have H := Lib.hid h
  have HB1 := Lib.hid hB1
  clear h hB1
  go_enter_defers Tryd.func33, Tryd.ntmps33
  go_wp2_with (go_at_call 38; refine (lock_free ⟨b, 1, none⟩ _ c1 f1).mono ?_; rintro e w' ⟨rfl, rfl⟩)
  refine (loadB0 ⟨b, 0, none⟩ _ c0).mono ?_
  rintro e w1 ⟨rfl, rfl⟩
  go_wp2_with fail
  refine (HF.out).mono ?_
  rintro e w2 ⟨rfl, cs2, hB2, hs2, hk2, ht2, o2⟩
  have e0 : cs2[0]? = some (.int .u32 0) := by rw [hk2 0 (by omega)]; simp [H.out.c0]
  have e1 : cs2[1]? = some (.int .i32 1) := by rw [hk2 1 (by omega)]; exact Array.getElem?_setIfInBounds_self_of_lt (by omega)
  have hB3 := (hB2.drew).set2 0 (.int .u32 1)
  have c1' : (w2.drew.setCell ⟨b, 0, none⟩ (.int .u32 1)).cell? ⟨b, 1, none⟩ = some (.int .i32 1) := by rw [hB3.cell]; simp [e1]
  have hB4 := hB3.set2 1 (.int .i32 0)
  go_wp2
  refine leaves_cons (f := 40) (args := #[.pointer (some ⟨b, 0, none⟩), .bool true]) (by simp) (by simp [go_sem]) ?_
  refine (store_deferred ⟨b, 0, none⟩ (.int .u32 0) .returning _ ((hB2.cell 0).trans e0) (hB2.frozen 0)).mono ?_
  rintro e u' w'' ⟨rfl, rfl, rfl⟩
  refine leaves_cons (f := 39) (args := #[.pointer (some ⟨b, 1, none⟩)]) (by simp [settle]) (by simp [go_sem]) ?_
  refine (unlock_deferred ⟨b, 1, none⟩ _ _ c1' (hB3.frozen 1)).mono ?_
  rintro e u' w'' ⟨rfl, rfl, rfl⟩
  have fin : ∃ cs', Mt ((w2.drew.setCell ⟨b, 0, none⟩ (.int .u32 1)).setCell ⟨b, 1, none⟩ (.int .i32 0)) b cs' 1 y t ∧ Only (Just b) w ((w2.drew.setCell ⟨b, 0, none⟩ (.int .u32 1)).setCell ⟨b, 1, none⟩ (.int .i32 0)) := by
    refine ⟨_, ⟨hB4, by simp [hs2], ?_, ?_, fun _ k hk => ?_, ?_, ?_⟩, ((o1.trans o2).drew.setCell (p := ⟨b, 0, none⟩) (.inl rfl) _).setCell (p := ⟨b, 1, none⟩) (.inl rfl) _⟩
    · rw [Array.getElem?_setIfInBounds_ne (by omega), Array.getElem?_setIfInBounds_self_of_lt (by omega)]
    · rw [Array.getElem?_setIfInBounds_self_of_lt (by simp; omega)]
    · rw [Array.getElem?_setIfInBounds_ne (by omega), Array.getElem?_setIfInBounds_ne (by omega)]
      exact ht2 k hk
    · rw [Array.getElem?_setIfInBounds_ne (by omega), Array.getElem?_setIfInBounds_ne (by omega), hk2 259 (by omega), Array.getElem?_setIfInBounds_ne (by omega)]
      exact H.out.cb
    · rw [Array.getElem?_setIfInBounds_ne (by omega), Array.getElem?_setIfInBounds_ne (by omega), hk2 260 (by omega), Array.getElem?_setIfInBounds_ne (by omega)]
      exact H.out.ct
  have Fin := Lib.hid fin
  clear fin
  simp [Leaves, settle, results, Tryd.results33]
  obtain ⟨cs', a1, a2⟩ := Fin.out
  exact ⟨⟨cs', a1⟩, a2⟩

set_option maxRecDepth 100000 in
set_option maxHeartbeats 800000 in
theorem do_first {w : World} {b : Nat} {cs : Array Value} {y t : Nat} (hL : Laid w) (h5 : 5 < b) (h : Mt w b cs 0 y t) :
    Calls Tryd.prog 26 #[.pointer (some ⟨b, 0, none⟩), fillF b] w fun e w' => e = .returned (.tuple #[]) ∧ ∃ cs', Mt w' b cs' 1 y t ∧ Only (Just b) w w' := by
  have c0 := (h.box.cell 0).trans h.c0
  have hnot : ∀ (x : Bool) (w : World), (Op.unary .not (.bool x)).run Tryd.prog w = .ok (.bool (!x)) w := fun _ _ => rfl
  have H := Lib.hid (slow_any hL h5 h)
  clear h
  go_enter Tryd.func26, Tryd.ntmps26
  go_wp2_with fail
  refine (loadB0 _ _ c0).mono ?_
  rintro e w1 ⟨rfl, rfl⟩
  go_wp2_with fail
  refine (H.out).mono ?_
  rintro e w2 ⟨rfl, hh⟩
  have HH := Lib.hid hh
  clear hh
  go_wp2
  go_end0
  exact ⟨rfl, HH.out⟩
set_option maxRecDepth 100000 in
set_option maxHeartbeats 800000 in
theorem do_again {w : World} {b : Nat} {cs : Array Value} {y t : Nat} (h : Mt w b cs 1 y t) :
    Calls Tryd.prog 26 #[.pointer (some ⟨b, 0, none⟩), fillF b] w fun e w' => e = .returned (.tuple #[]) ∧ w = w' := by
  have c0 := (h.box.cell 0).trans h.c0
  have hnot : ∀ (x : Bool) (w : World), (Op.unary .not (.bool x)).run Tryd.prog w = .ok (.bool (!x)) w := fun _ _ => rfl
  clear h
  go_enter Tryd.func26, Tryd.ntmps26
  go_wp2_with fail
  refine (loadB1 _ _ c0).mono ?_
  rintro e w1 ⟨rfl, rfl⟩
  go_wp2
  go_end0
  exact ⟨rfl, rfl⟩
/-- done or not: behind Do it is -/
theorem do_any {w : World} {b : Nat} {cs : Array Value} {dn : Int} {y t : Nat} (hL : Laid w) (h5 : 5 < b) (hd : dn = 0 ∨ dn = 1) (h : Mt w b cs dn y t) :
    Calls Tryd.prog 26 #[.pointer (some ⟨b, 0, none⟩), fillF b] w fun e w' => e = .returned (.tuple #[]) ∧ ∃ cs', Mt w' b cs' 1 y t ∧ Only (Just b) w w' := by
  rcases hd with rfl | rfl
  · exact do_first hL h5 h
  · exact (do_again h).mono fun _ _ hh => ⟨hh.1, cs, hh.2 ▸ h, hh.2 ▸ Only.refl _ _⟩
end Go.Proofs.YtmnnjbamphoghaaDoor
