/-
  The statements' Bytes, and the chapter's example.
-/
import Derived.Test.YteahiigfclabfaaDoorHZ
namespace Go.Proofs.YteahiigfclabfaaDoor.H
open Go.RowKit

def EqP (w : World) (m : Nat) (s5 : Value) (wr : World) : Prop := ∃ j : Nat, j ≤ m ∧ s5 = iv j ∧ Only Nix w wr
set_option maxHeartbeats 400000 in
theorem equal_any {w : World} (A B : Option Addr) (c d : Nat) (bs : List Nat) (ha : U.Src w (.slice A bs.length c) bs) (hb : U.Src w (.slice B bs.length d) bs) :
    Calls Tryd.prog 13 #[.slice A bs.length c, .slice B bs.length d] w fun e w' => e = .returned (.bool true) ∧ Only Nix w w' := by
  have Ha := Lib.hid ha
  have Hb := Lib.hid hb
  have hsm := ha.small
  clear ha hb
  go_enter Tryd.func13, Tryd.ntmps13
  go_wp2
  go_loopw [5] (fun s5 wr => EqP w bs.length s5 wr) (fun s5 _ => bs.length - (intOf s5).toNat)
  case atStart => exact ⟨0, Nat.zero_le _, rfl, Only.refl _ _⟩
  case round =>
    obtain ⟨j, hj, rfl, ho⟩ := hrel
    by_cases hlt : j < bs.length
    · obtain ⟨ad, rfl, hx⟩ := (Ha.out.nix ho).at_ hlt
      obtain ⟨bd, rfl, hy⟩ := (Hb.out.nix ho).at_ hlt
      have hx256 := Ha.out.lt _ (List.getElem_mem hlt)
      generalize bs[j] = x at *
      unfold byt at hx hy
      have hlt2 : (j : Int) < (bs.length : Int) := by omega
      go_wp2
      go_quiet (fail)
      go_wp2
      go_roundw
      case rel => exact ⟨j + 1, by omega, by go_num, ho.drewN _⟩
      case measure => simp [intOf]; omega
    · have hlt2 : decide (j < bs.length) = false := by simp; omega
      go_wp2
      go_ret
      exact ⟨rfl, ho⟩
/-- .. in a world that has gone on -/
theorem equal_at {u : World} (A B : Option Addr) (m k c d : Nat) (bs : List Nat) (ha : U.Src u (.slice A m c) bs) (hb : U.Src u (.slice B k d) bs) :
    Calls Tryd.prog 13 #[.slice A m c, .slice B k d] u fun e w' => e = .returned (.bool true) ∧ Only Nix u w' := by
  obtain rfl := ha.len
  obtain rfl := hb.len
  exact equal_any A B c d bs ha hb
theorem src_takeA {w : World} {A : Option Addr} {n c m d : Nat} {bs : List Nat} (h : U.Src w (.slice A n c) bs) (hm : m ≤ n) : U.Src w (.slice A m d) (bs.take m) := by
  have hn := h.len
  have hl : (bs.take m).length = m := by rw [List.length_take]; omega
  obtain ⟨A', c', hv, hc⟩ := h.form
  injection hv with e1 _ _
  subst e1
  refine ⟨⟨A, d, by rw [hl], fun j hj => ?_⟩, by have := h.small; omega, fun x hx => h.lt x (List.mem_of_mem_take hx)⟩
  obtain ⟨ad, hA, hx⟩ := hc j (by omega)
  exact ⟨ad, hA, by rw [hx, List.getElem_take]⟩
theorem src5 (w : World) (t : TypeId) : U.Src (w.alloc (.cells #[.int .u8 255, .int .u8 248, .int .u8 201, .int .u8 168, .int .u8 0] t)) (.slice (some ⟨w.heap.size, 0, none⟩) 5 5) [255, 248, 201, 168, 0] := by
  refine U.Src.of_cells rfl (fun j hj => ?_) (by simp) (by simp)
  match j, hj with
  | 0, _ => simp [byt]
  | 1, _ => simp [byt]
  | 2, _ => simp [byt]
  | 3, _ => simp [byt]
  | 4, _ => simp [byt]
def exH : Hd := ⟨false, 12, 9, 10, 4, 0, 4096, 44100, 16⟩
theorem ex_mk : mkE false 0 4096 10 44100 2 16 = 0 := by decide +kernel
theorem ex_made : mkA false 0 4096 10 44100 2 16 = exH := by decide +kernel
theorem ex_ok : ckE exH = 0 := by decide +kernel
theorem ex_bytes : wrB exH = [255, 248, 201, 168, 0, 141] := by decide +kernel
theorem ex_int : HdI exH := by constructor <;> decide
set_option maxRecDepth 100000 in
set_option maxHeartbeats 4000000 in
theorem awake_any {w : World} (hL : LaidH w) : Calls Tryd.prog 12 #[] w fun e w' => e = .returned (.bool true) ∧ Only Nix w w' := by
  have HMk := make_any hL false 0 4096 10 44100 2 16 (by decide) (by decide) (by decide)
  rw [ex_mk, ex_made] at HMk
  have HM := Lib.hid HMk
  clear HMk
  go_enter Tryd.func12, Tryd.ntmps12
  go_wp2_with fail
  refine (HM.out).mono ?_
  rintro _ w1 ⟨rfl, ho1⟩
  have HO1 := Lib.hid ho1
  have hL1 := hL.nix (ho1.alloc (.cells (hc exH) 23))
  have HB := Lib.hid (Box.new w1 23 (hc exH))
  have HWk := write_any hL1 exH ex_int
  rw [ex_ok, ex_bytes] at HWk
  have HW := Lib.hid HWk
  clear hL1 HWk ho1 hL
  simp only [hv, hc, exH] at *
  go_wp2_with (refine wpList_load_row rfl 23 (.tmp 1) rfl w1.heap.size rfl 23 _ (0, 0) _ HB.out Tryd.underlying23 rfl Tryd.size_header ?_)
  refine (HW.out).mono ?_
  rintro _ w2 ⟨A, c, rfl, hcap, hsrc, ho2⟩
  have HO2 := Lib.hid (((HO1.out.alloc _)).trans ho2)
  have hs5 := src_takeA (m := 5) (d := c) hsrc (by decide)
  have HS5 := Lib.hid hs5
  simp only [List.length_cons, List.length_nil, Nat.zero_add, Nat.reduceAdd] at hcap
  have HE := Lib.hid (equal_at A _ 5 5 c 5 [255, 248, 201, 168, 0] (HS5.out.nix ((Only.refl Nix w2).alloc (.cells #[.int .u8 255, .int .u8 248, .int .u8 201, .int .u8 168, .int .u8 0] 5))) (src5 w2 5))
  have hc5 : (5 : Nat) ≤ c := by omega
  clear hsrc ho2 hs5
  go_wp2_with fail
  refine (HE.out).mono ?_
  rintro _ w3 ⟨rfl, ho3⟩
  have HO3 := Lib.hid (HO2.out.trans (((Only.refl Nix w2).alloc _).trans ho3))
  clear ho3
  go_wp2
  go_ret
  exact ⟨rfl, HO3.out⟩
end Go.Proofs.YteahiigfclabfaaDoor.H
