/-
  The statements' own comparison of bytes, and the chapter's example.
-/
import Derived.Test.YtpcddacfhmkkbaaNil
namespace Go.Proofs.Ytpcddacfhmkkbaa
open Go.RowKit

theorem Src.at_ {w : World} {v : Value} {bs : List Nat} (h : Src w v bs) {k : Nat} (hk : k < bs.length) : ∃ ad c, v = .slice (some ad) bs.length c ∧ w.cell? (ad.add k) = some (byt bs[k]) := by
  rcases h.form with ⟨_, rfl⟩ | ⟨ad, c, hv, hc⟩
  · simp at hk
  · exact ⟨ad, c, hv, hc k _ (by simp [hk])⟩
theorem Src.drewN {w : World} {v : Value} {bs : List Nat} (h : Src w v bs) (n : Nat) : Src (w.drewN n) v bs := ⟨h.form, h.small⟩
theorem Src.slice {w : World} {v : Value} {bs : List Nat} (h : Src w v bs) : ∃ A c, v = .slice A bs.length c := by
  rcases h.form with ⟨rfl, rfl⟩ | ⟨ad, c, hv, hc⟩
  · exact ⟨none, 0, rfl⟩
  · exact ⟨_, _, hv⟩
theorem Src.only {F : Nat → Prop} {w w' : World} {v : Value} {bs : List Nat} (h : Src w v bs) (ho : Only F w w') (hF : ∀ i, F i → ∀ ad n c, v = .slice (some ad) n c → ad.block ≠ i) : Src w' v bs := by
  refine ⟨?_, h.small⟩
  rcases h.form with hn | ⟨ad, c, hv, hc⟩
  · exact .inl hn
  · refine .inr ⟨ad, c, hv, fun j u hu => ?_⟩
    have h1 := hc j u hu
    have hb : (ad.add j).block = ad.block := by unfold Addr.add; split <;> rfl
    have hl := World.block_lt_of_cell? w _ h1
    rw [World.cell?_of_block (w := w) (ho.block (ad.add j).block hl (fun e => hF _ e ad _ c hv hb.symm))]
    exact h1
theorem Src.nix {w w' : World} {v : Value} {bs : List Nat} (h : Src w v bs) (ho : Only Nix w w') : Src w' v bs := h.only ho (fun _ e => e.elim)

def SameRel (w : World) (n : Nat) (s5 : Value) (wr : World) : Prop := ∃ k m : Nat, k ≤ n ∧ s5 = .int .i64 (k : Int) ∧ wr = w.drewN m

set_option maxHeartbeats 400000 in
theorem same_yes {w : World} {v1 v2 : Value} {bs : List Nat} (h1 : Src w v1 bs) (h2 : Src w v2 bs) :
    Calls Try.prog 24 #[v1, v2] w fun e w' => e = .returned (.bool true) ∧ ∃ m, w' = w.drewN m := by
  have hsm := h1.small
  obtain ⟨A1, c1, hv1⟩ := h1.slice
  obtain ⟨A2, c2, hv2⟩ := h2.slice
  subst hv1
  subst hv2
  go_enter Try.func24, Try.ntmps24
  go_wp2
  go_loopw [5] (fun s5 wr => SameRel w bs.length s5 wr) (fun s5 _ => bs.length - (intOf s5).toNat)
  case atStart => exact ⟨0, 0, Nat.zero_le _, rfl, rfl⟩
  case round =>
    obtain ⟨k, m, hk, rfl, hwr⟩ := hrel
    have g1 := h1.drewN m
    have g2 := h2.drewN m
    rw [← hwr] at g1 g2
    have Hw := Lib.hid hwr
    clear hwr
    by_cases hlt : k < bs.length
    · obtain ⟨ad1, d1, e1, hx1⟩ := g1.at_ hlt
      obtain ⟨ad2, d2, e2, hx2⟩ := g2.at_ hlt
      injection e1 with e1 _ e1'
      injection e2 with e2 _ e2'
      subst e1 e2 e1' e2'
      unfold byt at hx1 hx2
      have hlt2 : (k : Int) < (bs.length : Int) := by omega
      generalize bs[k] = y at *
      go_wp2_with fail
      go_quiet (fail)
      go_wp2
      go_roundw
      case rel => exact ⟨k + 1, m + nq, by omega, by go_num, by rw [Hw.out, World.drewN_drewN]⟩
      case measure => simp [intOf]; omega
    · go_wp2
      go_ret
      exact ⟨rfl, m, Hw.out⟩

theorem src_lit (w : World) (x : Nat) : Src (w.alloc (.cells #[.int .u8 (x : Int)] 5)) (.slice (some ⟨w.heap.size, 0, none⟩) 1 1) [x] :=
  Src.of_owns (World.ownsRow_lit (base := 0) (size := 1) w #[.int .u8 (x : Int)] 1 (Nat.zero_le _) (by unfold maxLen; omega) rfl) (by simp)

set_option maxHeartbeats 1000000 in
theorem awake_any (w : World) : Calls Try.prog 9 #[] w fun e w' => e = .returned (.bool true) ∧ Only Nix w w' := by
  have s0 := newReader_any (src_lit w 165) (by simp)
  have S0 := Lib.hid s0
  clear s0
  go_enter Try.func9, Try.ntmps9
  go_wp2_with fail
  refine (S0.out).mono ?_
  rintro e w1 ⟨r, v, rfl, hR, hN, ho1⟩
  have o1 : Only Nix w w1 := ((Only.refl Nix w).alloc _).trans ho1
  obtain ⟨hN1, hN2⟩ : w.heap.size ≤ r ∧ ∀ g, v.ownBlock = some g → w.heap.size ≤ g := ⟨by have := hN.1; simp at this; omega, fun g hg => by have := hN.2 g hg; simp at this; omega⟩
  have hrl := hR.mem
  have hvl : ∀ g, v.ownBlock = some g → g < w1.heap.size := fun g hg => owns_lt hR.own hg
  clear hN ho1 S0
  go_wp2_with fail
  refine (newWriter_any w1).mono ?_
  rintro e w2 ⟨rfl, hW, ho2⟩
  have o2 : Only Nix w w2 := o1.trans ho2
  have hR2 := hR.nix ho2
  generalize hwb : w1.heap.size = wb at *
  have hwbl : w.heap.size ≤ wb := by have := o1.size; omega
  clear hR o1 ho2
  have t1 := take_any hR2 3
  rw [show takeR [165] 0 3 = 5 from by decide, show takeE [165] 0 3 = 0 from by decide, show takeA [165] 0 3 = 3 from by decide] at t1
  have T1 := Lib.hid t1
  have Hwb := Lib.hid hwb
  clear t1 hwb
  go_wp2_with fail
  refine (T1.out).mono ?_
  rintro e w3 ⟨rfl, hR3, ho3⟩
  have o3 : Only Nix w w3 := o2.then ho3 (fun i e => .inr (by cases e; exact hN1))
  have hW3 := hW.keep ho3 (by show ¬ (wb = r); omega) (fun g hg => by simp [Value.ownBlock] at hg)
  have t1 := signed_any hR3 2
  rw [show signR [165] 3 2 = 0 from by decide, show takeE [165] 3 2 = 0 from by decide, show takeA [165] 3 2 = 5 from by decide] at t1
  have T1 := Lib.hid t1
  clear t1
  go_wp2_with fail
  refine (T1.out).mono ?_
  rintro e w4 ⟨rfl, hR4, ho4⟩
  have o4 : Only Nix w w4 := o3.then ho4 (fun i e => .inr (by cases e; exact hN1))
  have hW4 := hW3.keep ho4 (by show ¬ (wb = r); omega) (fun g hg => by simp [Value.ownBlock] at hg)
  have t1 := runary_any hR4
  rw [show unaryR [165] 5 = 0 from by decide, show unaryE [165] 5 = 0 from by decide, show unaryA [165] 5 = 6 from by decide] at t1
  have T1 := Lib.hid t1
  clear t1
  go_wp2_with fail
  refine (T1.out).mono ?_
  rintro e w5 ⟨rfl, hR5, ho5⟩
  have o5 : Only Nix w w5 := o4.then ho5 (fun i e => .inr (by cases e; exact hN1))
  have hW5 := hW4.keep ho5 (by show ¬ (wb = r); omega) (fun g hg => by simp [Value.ownBlock] at hg)
  have t1 := take_any hR5 2
  rw [show takeR [165] 6 2 = 1 from by decide, show takeE [165] 6 2 = 0 from by decide, show takeA [165] 6 2 = 8 from by decide] at t1
  have T1 := Lib.hid t1
  clear t1
  go_wp2_with fail
  refine (T1.out).mono ?_
  rintro e w6 ⟨rfl, hR6, ho6⟩
  have o6 : Only Nix w w6 := o5.then ho6 (fun i e => .inr (by cases e; exact hN1))
  have hW6 := hW5.keep ho6 (by show ¬ (wb = r); omega) (fun g hg => by simp [Value.ownBlock] at hg)
  have t1 := put_any hW6 (by simp) 3 5
  rw [show putE 3 5 = 0 from by decide, show putL [] 3 5 = [1, 0, 1] from by decide] at t1
  have T1 := Lib.hid t1
  clear t1 hW hW3 hW4 hW5 hR2 hR3 hR4 hR5 ho3 ho4 ho5 ho6 o2 o3 o4 o5
  go_wp2_with fail
  refine (T1.out).mono ?_
  rintro e w7 ⟨rfl, v7, bs7, hW7, ho7, hm7⟩
  have hs6 := o6.size
  have hw7 : ∀ g, v7.ownBlock = some g → w6.heap.size ≤ g := fun g hg => by
    rcases hm7 g hg with h1 | h1
    · simp [Value.ownBlock] at h1
    · exact h1
  have o7 : Only Nix w w7 := o6.then ho7 (fun i e => .inr (by
    rcases e with e | e
    · omega
    · simp [Value.ownBlock] at e))
  have hR7 := hR6.keep ho7 (by rintro (e | e); · omega
                               · simp [Value.ownBlock] at e) (by
    rintro g hg (e | e)
    · have := hvl g hg; omega
    · simp [Value.ownBlock] at e)
  have t1 := unaryW_any hW7 (by simp) 2
  rw [show unE 2 = 0 from by decide, show unL [1, 0, 1] 2 = [1, 0, 1, 0, 0, 1] from by decide] at t1
  have T1 := Lib.hid t1
  clear t1
  have hR6l := hR6.mem
  have hv6l : ∀ g, v.ownBlock = some g → g < w6.heap.size := fun g hg => owns_lt hR6.own hg
  go_wp2_with fail
  refine (T1.out).mono ?_
  rintro e w8 ⟨rfl, v8, bs8, hW8, ho8, hm8⟩
  have o8 : Only Nix w w8 := o7.then ho8 (fun i e => .inr (by
    rcases e with e | e
    · omega
    · have := hw7 i e; omega))
  have hR8 := hR7.keep ho8 (by rintro (e | e); · omega
                               · have := hw7 _ e; omega) (by
    rintro g hg (e | e)
    · have := hvl g hg; omega
    · have := hw7 _ e; have := hv6l g hg; omega)
  have hbs8 : bs8 = [164] := hW8.packs.inj ⟨by simp, by decide, by simp, by simp⟩
  subst hbs8
  clear hW7 hm7 hw7 ho7 hR6 hR7 hW6 o6 o7 ho8 hm8 T1 hvl hv6l
  go_wp2_with fail
  refine (left_any hR8).mono ?_
  rintro e w9 ⟨rfl, m9, rfl⟩
  have hW9 := hW8.drewN m9
  have hbn : (8 * ((List.length [165] : Nat) : Int) - ((8 : Nat) : Int) == 0) = true := by decide
  go_wp2_with fail
  refine (len_any hW9).mono ?_
  rintro e w10 ⟨rfl, rfl⟩
  go_wp2_with fail
  refine (bytes_any hW9).mono ?_
  rintro e w10 ⟨v10, rfl, hown, ho10⟩
  have hs := (Src.of_owns hown (by simp)).nix ((Only.refl Nix w10).alloc (.cells #[.int .u8 164] 5))
  have hS := Lib.hid (same_yes hs (src_lit w10 164))
  have o10 : Only Nix w w10 := (o8.drewN m9).trans ho10
  obtain ⟨A10, c10, hv10⟩ := owns_slice hown
  subst hv10
  clear hown hs
  go_wp2_with fail
  refine (hS.out).mono ?_
  rintro e w11 ⟨rfl, m11, rfl⟩
  go_wp2
  go_ret
  exact ⟨rfl, (o10.alloc _).drewN _⟩
end Go.Proofs.Ytpcddacfhmkkbaa
