/-
  BitsReads, walked.
-/
import Derived.Test.YtpcddacfhmkkbaaDoes
namespace Go.Proofs.Ytpcddacfhmkkbaa
open Go.RowKit

def ReadsRel (w : World) (os : List Op3) (r x : Nat) (rv xv : Value) (bs : List Nat) (s7 : Value) (wr : World) : Prop :=
  ∃ i a : Nat, i ≤ os.length ∧ s7 = iv i ∧ Pair wr r x rv xv bs a ∧ Only Nix w wr

set_option maxHeartbeats 2000000 in
set_option maxRecDepth 100000 in
theorem bitsReads_walk (v0 v1 : Value) (bs : List Nat) (os : List Op3) (w : World) (h0 : BytesIn w v0 bs) (h1 : OpsIn w v1 os) (hs0 : bs.length ≤ maxLen) (hs1 : os.length ≤ maxLen) (hlt : ∀ x ∈ bs, x < 256) :
    Calls Try.prog 3 #[v0, v1] w fun e w' => e = .returned (.bool true) ∧ Only Nix w w' := by
  obtain ⟨A0, c0, hv0⟩ := h0.slice
  obtain ⟨A1, c1, hv1⟩ := h1.slice
  subst hv0
  subst hv1
  unfold maxLen at hs0 hs1
  by_cases hlen : 300 < bs.length
  · have hd : decide ((300 : Int) < (bs.length : Int)) = true := by simp; omega
    go_enter Try.func3, Try.ntmps3
    go_wp2_with fail
    refine (awake_any _).mono ?_
    rintro e w2 ⟨rfl, ho2⟩
    go_wp2
    go_ret
    exact ⟨rfl, ho2⟩
  · have hd : decide ((300 : Int) < (bs.length : Int)) = false := by simp; omega
    by_cases hlen1 : 80 < os.length
    · have hd1 : (80 : Int) < (os.length : Int) := by omega
      go_enter Try.func3, Try.ntmps3
      go_wp2_with fail
      refine (awake_any _).mono ?_
      rintro e w2 ⟨rfl, ho2⟩
      go_wp2
      go_ret
      exact ⟨rfl, ho2⟩
    · have hd1 : decide ((80 : Int) < (os.length : Int)) = false := by simp; omega
      have hS : Src w (.slice A0 bs.length c0) bs := ⟨h0, by omega⟩
      have HS := Lib.hid hS
      clear h0
      have Hnr := Lib.hid (newReader_any hS hlt)
      clear hS
      go_enter Try.func3, Try.ntmps3
      go_wp2_with fail
      refine (Hnr.out).mono ?_
      rintro e w1 ⟨r, rv, rfl, hR1, hN1, ho1⟩
      have Hb := Lib.hid (bitsRef_any (HS.out.nix ho1) (by omega) hlt)
      go_wp2_with fail
      refine (Hb.out).mono ?_
      rintro e w2 ⟨xv, rfl, hown2, ho2⟩
      have hR2 := hR1.nix ho2
      have o2 := ho1.trans ho2
      have hr0 := hN1.1
      obtain ⟨A2, c2, hv2⟩ := owns_slice hown2
      subst hv2
      have hX3 : Rf (w2.alloc (.cells #[.slice A2 (8 * bs.length) c2, .int .i64 0] 31)) w2.heap.size (.slice A2 (8 * bs.length) c2) bs 0 :=
        ⟨Box.new _ _ _, owns_base (hown2.alloc _), by omega, by omega⟩
      have hR3 := hR2.alloc (.cells #[.slice A2 (8 * bs.length) c2, .int .i64 0] 31)
      have o3 := o2.alloc (.cells #[.slice A2 (8 * bs.length) c2, .int .i64 0] 31)
      have hx0 : w.heap.size ≤ w2.heap.size := o2.size
      have hc3 := hR3.cell0
      clear hR1 hR2 hown2 ho1 ho2 hN1 Hb Hnr o2
      go_wp2_with fail
      generalize w2.alloc (.cells #[.slice A2 (8 * bs.length) c2, .int .i64 0] 31) = w3 at *
      generalize w2.heap.size = x at *
      refine (at_any _ _ _ hc3).mono ?_
      rintro e w4 ⟨rfl, rfl⟩
      go_wp2_with fail
      refine (left_any hR3).mono ?_
      rintro e w4 ⟨rfl, m4, rfl⟩
      have hn1 : (8 * (bs.length : Int) - ((0 : Nat) : Int) != 8 * (bs.length : Int)) = false := by simp
      have hP : Pair (w3.drewN m4) r x rv (.slice A2 (8 * bs.length) c2) bs 0 := ⟨hR3.drewN m4, hX3.drewN m4⟩
      have o4 := o3.drewN m4
      clear hR3 hX3 o3 hc3
      go_wp2
      go_loopw [7] (fun s7 wr => ReadsRel w os r x rv (.slice A2 (8 * bs.length) c2) bs s7 wr) (fun s7 _ => os.length - (intOf s7).toNat)
      case atStart => exact ⟨0, 0, Nat.zero_le _, rfl, hP, o4⟩
      case round =>
        clear hP o4
        obtain ⟨i, a, hi, rfl, hP, ho⟩ := hrel
        by_cases hlt1 : i < os.length
        · obtain ⟨b, off, rfl, hb, x0, x1, x2⟩ := (h1.keep ho).at_ hlt1
          generalize os[i] = o at *
          obtain ⟨k, n, z⟩ := o
          simp only at x0 x1 x2
          have hlt2 : (i : Int) < (os.length : Int) := by omega
          have Hd := Lib.hid (does_any hP.one hP.ref k n z)
          clear hP
          go_wp2_with fail
          refine (Hd.out).mono ?_
          rintro e w5 ⟨rfl, a', hP5, ho5⟩
          have o5 : Only Nix w w5 := ho.then ho5 (by rintro k (e | e) <;> exact .inr (by omega))
          go_wp2
          go_roundw
          case rel => exact ⟨i + 1, a', by omega, by go_num, hP5, o5⟩
          case measure => simp [intOf]; omega
        · have hlt2 : decide ((i : Int) < (os.length : Int)) = false := by simp; omega
          go_wp2_with fail
          refine (awake_any _).mono ?_
          rintro e w5 ⟨rfl, ho5⟩
          go_wp2
          go_ret
          exact ⟨rfl, ho.trans ho5⟩
end Go.Proofs.Ytpcddacfhmkkbaa
