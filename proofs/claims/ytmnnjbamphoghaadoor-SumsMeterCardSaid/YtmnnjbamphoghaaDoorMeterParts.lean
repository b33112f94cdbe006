/-
  A Meter: NewMeter, Many, count, fill.
-/
import Derived.Test.YtmnnjbamphoghaaDoorMeter
namespace Go.Proofs.YtmnnjbamphoghaaDoor
open Go.RowKit

/-- the cells of a new Meter -/
def mz : Array Value := #[.int .u32 0, .int .i32 0, .int .u32 0] ++ Array.replicate 256 (.int .i64 0) ++ #[.int .i64 0, .int .i64 0]
/-- A Meter lies at block b: done or not, so many bytes, so often. -/
structure Mt (w : World) (b : Nat) (cs : Array Value) (dn : Int) (y t : Nat) : Prop where
  box : Box w b 68 cs
  size : cs.size = 261
  c0 : cs[0]? = some (.int .u32 dn)
  c1 : cs[1]? = some (.int .i32 0)
  tab : dn = 1 → ∀ k, k < 256 → cs[3 + k]? = some (iv (nous 16 32773 16 k : Nat))
  cb : cs[259]? = some (iv (y : Int))
  ct : cs[260]? = some (iv (t : Int))
theorem Mt.only {F : Nat → Prop} {w w' : World} {b : Nat} {cs : Array Value} {dn : Int} {y t : Nat} (h : Mt w b cs dn y t) (ho : Only F w w') (hb : ¬ F b) : Mt w' b cs dn y t :=
  ⟨h.box.only ho hb, h.size, h.c0, h.c1, h.tab, h.cb, h.ct⟩

theorem mz_is : Tryd.zeroCells68 = mz := by kernel_rfl

set_option maxHeartbeats 400000 in
theorem newMeter_any (w : World) : Calls Tryd.prog 17 #[] w fun e w' => e = .returned (.pointer (some ⟨w.heap.size, 0, none⟩)) ∧ Mt w' w.heap.size mz 0 0 0 ∧ Only Nix w w' := by
  go_enter Tryd.func17, Tryd.ntmps17
  go_wp2
  go_ret
  rw [mz_is]
  exact ⟨rfl, ⟨Box.new _ _ _, by kernel_rfl, by kernel_rfl, by kernel_rfl, (fun h => by cases h), by kernel_rfl, by kernel_rfl⟩, (Only.refl _ _).alloc _⟩

set_option maxHeartbeats 400000 in
theorem many_nil (w : World) : Calls Tryd.prog 19 #[.pointer none] w fun e w' => e = .returned (.tuple #[iv 0, iv 0]) ∧ w = w' := by
  go_enter Tryd.func19, Tryd.ntmps19
  go_wp2
  go_ret2
  exact ⟨rfl, rfl⟩
set_option maxHeartbeats 400000 in
theorem many_any {w : World} {b : Nat} {cs : Array Value} {dn : Int} {y t : Nat} (h : Mt w b cs dn y t) : Calls Tryd.prog 19 #[.pointer (some ⟨b, 0, none⟩)] w fun e w' => e = .returned (.tuple #[iv (y : Int), iv (t : Int)]) ∧ w = w' := by
  have h1 := (h.box.cell 259).trans h.cb
  have h2 := (h.box.cell 260).trans h.ct
  go_enter Tryd.func19, Tryd.ntmps19
  go_wp2_with fail
  refine (load64 _ _ _ h2).mono ?_
  rintro e w1 ⟨rfl, rfl⟩
  go_wp2_with fail
  refine (load64 _ _ _ h1).mono ?_
  rintro e w2 ⟨rfl, rfl⟩
  go_wp2
  go_ret2
  exact ⟨rfl, rfl⟩

/-- how many bytes lists have -/
def total (bss : List (List Nat)) : Nat := (bss.map List.length).sum
def CountRel (bss : List (List Nat)) (s4 s9 : Value) : Prop := ∃ i : Nat, i ≤ bss.length ∧ s9 = iv i ∧ s4 = iv (total (bss.take i) : Nat)
theorem total_take (bss : List (List Nat)) (i : Nat) (h : i < bss.length) : total (bss.take (i + 1)) = total (bss.take i) + bss[i].length := by
  rw [List.take_succ_eq_append_getElem h]
  unfold total
  rw [List.map_append, List.sum_append]
  simp
theorem total_le (bss : List (List Nat)) (i : Nat) (h : ∀ bs ∈ bss, bs.length ≤ 200) : total (bss.take i) ≤ 200 * i := by
  induction i with
  | zero => simp [total]
  | succ i ih =>
    by_cases hi : i < bss.length
    · rw [total_take bss i hi]
      have := h _ (List.getElem_mem hi)
      omega
    · rw [List.take_of_length_le (by omega)] at *
      omega
theorem Box.set2 {w : World} {b : Nat} {t : TypeId} {cs : Array Value} (h : Box w b t cs) (i : Nat) (u : Value) : Box (w.setCell ⟨b, i, none⟩ u) b t (cs.setIfInBounds i u) := h.put i u

set_option maxHeartbeats 400000 in
theorem count_any {w : World} {b : Nat} {cs : Array Value} {dn : Int} {y t : Nat} {v0 : Value} {bss : List (List Nat)} (h : Mt w b cs dn y t) (hl : Lists w v0 bss) (h20 : bss.length ≤ 20) (h200 : ∀ bs ∈ bss, bs.length ≤ 200) (hy : y ≤ 100000) (ht : t ≤ 100000) :
    Calls Tryd.prog 28 #[.pointer (some ⟨b, 0, none⟩), v0] w fun e w' => e = .returned (.tuple #[]) ∧ ∃ cs', Mt w' b cs' dn (y + total bss) (t + 1) ∧ Only (Just b) w w' := by
  obtain ⟨A, c, hv⟩ := hl.slice
  subst hv
  go_enter Tryd.func28, Tryd.ntmps28
  go_wp2
  go_loop [4, 9] (fun s4 s9 => CountRel bss s4 s9) (fun _ s9 => bss.length - (intOf s9).toNat)
  case atStart => exact ⟨0, Nat.zero_le _, rfl, rfl⟩
  case round =>
    obtain ⟨i, hi, rfl, rfl⟩ := hrel
    have hb := total_le bss i h200
    by_cases hlt : i < bss.length
    · obtain ⟨ad, A', c', e1, hx, _⟩ := hl.at_ hlt
      subst e1
      have hlt2 : (i : Int) < (bss.length : Int) := by omega
      have hst : Hid (total (bss.take (i + 1)) = total (bss.take i) + bss[i].length) := total_take bss i hlt
      have h2 := h200 _ (List.getElem_mem hlt)
      generalize bss[i] = bs at *
      generalize total (bss.take i) = T at *
      go_wp2
      go_round
      case rel => exact ⟨i + 1, by omega, by go_num, by rw [hst.out]; go_num⟩
      case measure => simp [intOf]; omega
    · obtain rfl : i = bss.length := by omega
      rw [List.take_length] at *
      have h1 := (h.box.cell 259).trans h.cb
      have f1 := h.box.frozen 259
      have hB := h.box.set2 259 (iv ((y : Int) + (total bss : Int)))
      have h2 : (w.setCell ⟨b, 259, none⟩ (iv ((y : Int) + (total bss : Int)))).cell? ⟨b, 260, none⟩ = some (iv (t : Int)) := by
        rw [hB.cell]
        simp [h.ct]
      have f2 := hB.frozen 260
      have hB2 := hB.set2 260 (iv ((t : Int) + 1))
      have HB := Lib.hid hB
      have HB2 := Lib.hid hB2
      clear hB hB2
      have hty : Hid (((y : Int) + (total bss : Int)) = ((y + total bss : Nat) : Int)) := by show _ = _; omega
      go_wp2_with fail
      refine (add64 _ _ _ _ h1 f1 (by omega) (by omega)).mono ?_
      rintro e w1 ⟨rfl, rfl⟩
      go_wp2_with fail
      refine (add64 _ _ _ _ h2 f2 (by omega) (by omega)).mono ?_
      rintro e w2 ⟨rfl, rfl⟩
      go_wp2
      go_end0
      have hs := h.size
      refine ⟨rfl, _, ⟨HB2.out, ?_, ?_, ?_, ?_, ?_, ?_⟩, ((Only.refl (Just b) w).setCell (p := ⟨b, 259, none⟩) (.inl rfl) _).setCell (p := ⟨b, 260, none⟩) (.inl rfl) _⟩
      · simp [hs]
      · simp [h.c0]
      · simp [h.c1]
      · intro hd k hk
        have := h.tab hd k hk
        rw [Array.getElem?_setIfInBounds_ne (by omega), Array.getElem?_setIfInBounds_ne (by omega)]
        exact this
      · rw [Array.getElem?_setIfInBounds_ne (by omega), Array.getElem?_setIfInBounds_self_of_lt (by omega), hty.out]
      · rw [Array.getElem?_setIfInBounds_self_of_lt (by simp; omega)]; rfl
end Go.Proofs.YtmnnjbamphoghaaDoor
