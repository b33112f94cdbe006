/-
  BitsAll, walked.
-/
import Derived.Test.YtpcddacfhmkkbaaIn
namespace Go.Proofs.Ytpcddacfhmkkbaa
open Go.ChangeShapes Go.WideShapes Go.ChangeAt Go.RowKit Go.Joins

/-- what is read is written so -/
theorem put_read (bs : List Nat) (a m : Nat) (hm : m ≤ 48) (ha : a + m ≤ 8 * bs.length) : putE (m : Int) (numAt bs a m : Int) = 0 ∧ putL ((bitsOf bs).take a) (m : Int) (numAt bs a m : Int) = (bitsOf bs).take (a + m) := by
  have hlt := numAt_lt bs a m
  have h1 : putE (m : Int) (numAt bs a m : Int) = 0 := by
    unfold putE
    rw [if_neg (by omega), Int.toNat_natCast, pow_cast, if_neg (by omega)]
  refine ⟨h1, ?_⟩
  unfold putL
  rw [if_pos h1, Int.toNat_natCast, Int.toNat_natCast]
  have hl := bitsOf_len bs
  have h2 := bitsN_val (((bitsOf bs).drop a).take m) (fun x hx => bitsOf_le bs x (List.mem_of_mem_drop (List.mem_of_mem_take hx)))
  rw [List.length_take, List.length_drop, Nat.min_eq_left (by omega)] at h2
  unfold numAt
  rw [h2, ← List.take_add]
theorem packs_self (bs : List Nat) (h : ∀ x ∈ bs, x < 256) : Packs bs ((bitsOf bs).take (8 * bs.length)) := by
  have hl := bitsOf_len bs
  rw [List.take_of_length_le (by omega)]
  exact ⟨h, by rw [hl, Nat.sub_self]; simp, by omega, by omega⟩

/-- at the head of the first loop -/
def AllRel (w : World) (zs : List Int) (r b : Nat) (rv : Value) (bs : List Nat) (s7 : Value) (wr : World) : Prop :=
  ∃ (i a : Nat) (v : Value) (bw : List Nat), i ≤ 3000 ∧ s7 = iv i ∧ Rd wr r rv bs a ∧ Wr wr b v bw ((bitsOf bs).take a) ∧ Apart w wr r b rv v ∧ Only Nix w wr ∧ i ≤ zs.length + a
/-- at the head of the second one -/
def TwoRel (w : World) (zs : List Int) (r x : Nat) (rv xv : Value) (bs : List Nat) (s12 : Value) (wr : World) : Prop :=
  ∃ (i a : Nat), i ≤ zs.length ∧ s12 = iv i ∧ Rd wr r rv bs a ∧ Rd wr x xv bs a ∧ Only Nix w wr

set_option maxHeartbeats 2000000 in
set_option maxRecDepth 100000 in
theorem bitsAll_walk (v0 v1 : Value) (bs : List Nat) (zs : List Int) (w : World) (h0 : BytesIn w v0 bs) (h1 : IntsIn w v1 zs) (hs0 : bs.length ≤ maxLen) (hs1 : zs.length ≤ maxLen) (hlt : ∀ x ∈ bs, x < 256) :
    Calls Try.prog 6 #[v0, v1] w fun e w' => e = .returned (.bool true) ∧ Only Nix w w' := by
  obtain ⟨A0, c0, hv0⟩ := h0.slice
  obtain ⟨A1, c1, hv1⟩ := h1.slice
  subst hv0
  subst hv1
  unfold maxLen at hs0 hs1
  by_cases hlen : 300 < bs.length
  · have hd : decide ((300 : Int) < (bs.length : Int)) = true := by simp; omega
    go_enter Try.func6, Try.ntmps6
    go_wp2_with fail
    refine (awake_any _).mono ?_
    rintro e w2 ⟨rfl, ho2⟩
    go_wp2
    go_ret
    exact ⟨rfl, ho2⟩
  · have hd : decide ((300 : Int) < (bs.length : Int)) = false := by simp; omega
    by_cases hlen1 : 80 < zs.length
    · have hd1 : (80 : Int) < (zs.length : Int) := by omega
      go_enter Try.func6, Try.ntmps6
      go_wp2_with fail
      refine (awake_any _).mono ?_
      rintro e w2 ⟨rfl, ho2⟩
      go_wp2
      go_ret
      exact ⟨rfl, ho2⟩
    · have hd1 : decide ((80 : Int) < (zs.length : Int)) = false := by simp; omega
      have hS : Src w (.slice A0 bs.length c0) bs := ⟨h0, by omega⟩
      have HS := Lib.hid hS
      clear h0
      have Hnr := Lib.hid (newReader_any hS hlt)
      clear hS
      go_enter Try.func6, Try.ntmps6
      go_wp2_with fail
      refine (Hnr.out).mono ?_
      rintro e w1 ⟨r, rv, rfl, hR1, hN1, ho1⟩
      go_wp2_with fail
      refine (newWriter_any w1).mono ?_
      rintro e w2 ⟨rfl, hW2, ho2⟩
      have hR2 := hR1.nix ho2
      have o2 := ho1.trans ho2
      have hs1 := ho1.size
      have hAp : Apart w w2 r w1.heap.size rv (.slice none 0 0) := ⟨hN1.1, hs1, fun g hg => by simp [Value.ownBlock] at hg, fun g _ => by simp [Value.ownBlock], fun g hg => owns_lt hR2.own hg⟩
      have hrl := hR1.mem
      generalize w1.heap.size = b at *
      clear hR1 ho1 ho2 hN1 Hnr
      go_wp2
      go_loopw [7] (fun s7 wr => AllRel w zs r b rv bs s7 wr) (fun s7 _ => 3000 - (intOf s7).toNat)
      case atStart => exact ⟨0, 0, _, [], by omega, rfl, hR2, by simpa using hW2, hAp, o2, by omega⟩
      case round =>
        clear hR2 hW2 hAp o2
        obtain ⟨i, a, v, bw, hi, rfl, hR, hW, hA, ho, hia⟩ := hrel
        have hal := hR.le
        go_wp2_with fail
        refine (left_any hR).mono ?_
        rintro e w3 ⟨rfl, m3, rfl⟩
        have hR3 := hR.drewN m3
        have hW3 := hW.drewN m3
        have hA3 : Apart w (wr.drewN m3) r b rv v := ⟨hA.r0, hA.b0, hA.v0, hA.ne, hA.lt⟩
        have ho3 := ho.drewN m3
        generalize wr.drewN m3 = w3 at *
        clear hR hW hA ho
        by_cases hleft : a < 8 * bs.length
        · have hg1 : decide ((0 : Int) < 8 * (bs.length : Int) - (a : Int)) = true := by simp; omega
          have hg1' : (0 : Int) < 8 * (bs.length : Int) - (a : Int) := by omega
          by_cases hi3 : i < 3000
          · have hg2 : decide ((i : Int) < 3000) = true := by simp; omega
            by_cases hiz : i < zs.length
            · have hg3 : (i : Int) < (zs.length : Int) := by omega
              obtain ⟨ad, rfl, hz⟩ := (h1.keep ho3).at_ hiz
              generalize zs[i] = n at *
              by_cases hE : takeE bs a n = 0
              · obtain ⟨m, rfl, hm48, hma, e2, e3⟩ := takeR_pos hE
                obtain ⟨p1, p2⟩ := put_read bs a m hm48 hma
                have hct := take_any hR3 (m : Int)
                rw [hE, e2, e3] at hct
                have Hct := Lib.hid hct
                have Hp := Lib.hid (And.intro p1 p2)
                clear hct hE e2 e3 p1 p2
                go_wp2_with fail
                refine (Hct.out).mono ?_
                rintro e w4 ⟨rfl, hR4, ho4⟩
                obtain ⟨hW4, hA4, o4⟩ := beside_read hR3 hW3 hA3 ho3 ho4
                have hpt := put_any hW4 (by rw [List.length_take]; omega) (m : Int) (numAt bs a m : Int)
                rw [Hp.out.1, Hp.out.2] at hpt
                have Hpt := Lib.hid hpt
                clear hpt Hp
                go_wp2_with fail
                refine (Hpt.out).mono ?_
                rintro e w5 ⟨rfl, v5, bw5, hW5, ho5, hm5⟩
                obtain ⟨hR5, hA5, o5⟩ := beside_write hR4 hW4 hA4 o4 ho5 hm5
                go_wp2
                go_roundw
                case rel => exact ⟨i + 1, a + m, v5, bw5, by omega, by go_num, hR5, hW5, hA5, o5, by omega⟩
                case measure => simp [intOf]; omega
              · have hct := take_any hR3 n
                have e2 : takeR bs a n = 0 := by unfold takeR; rw [if_neg hE]
                have e3 : takeA bs a n = a := by unfold takeA; rw [if_neg hE]
                rw [e2, e3] at hct
                have hb : (takeE bs a n != 0) = true := by simpa using hE
                generalize takeE bs a n = E at *
                have Hct := Lib.hid hct
                clear hct hE e2 e3
                go_wp2_with fail
                refine (Hct.out).mono ?_
                rintro e w4 ⟨rfl, hR4, ho4⟩
                obtain ⟨hW4, hA4, o4⟩ := beside_read hR3 hW3 hA3 ho3 ho4
                go_wp2
                go_roundw
                case rel => exact ⟨i + 1, a, v, bw, by omega, by go_num, hR4, hW4, hA4, o4, by omega⟩
                case measure => simp [intOf]; omega
            · have hg3 : decide ((i : Int) < (zs.length : Int)) = false := by simp; omega
              have hE : takeE bs a ((1 : Nat) : Int) = 0 := takeE_ok (by omega) (by omega)
              obtain ⟨m, hm1, hm48, hma, e2, e3⟩ := takeR_pos hE
              obtain rfl : m = 1 := by omega
              clear hm1
              obtain ⟨p1, p2⟩ := put_read bs a 1 hm48 hma
              have hct := take_any hR3 ((1 : Nat) : Int)
              rw [hE, e2, e3] at hct
              rw [show ((1 : Nat) : Int) = 1 from rfl] at hct p1 p2
              have Hct := Lib.hid hct
              have Hp := Lib.hid (And.intro p1 p2)
              clear hct hE e2 e3 p1 p2
              go_wp2_with fail
              refine (Hct.out).mono ?_
              rintro e w4 ⟨rfl, hR4, ho4⟩
              obtain ⟨hW4, hA4, o4⟩ := beside_read hR3 hW3 hA3 ho3 ho4
              have hpt := put_any hW4 (by rw [List.length_take]; omega) 1 (numAt bs a 1 : Int)
              rw [Hp.out.1, Hp.out.2] at hpt
              have Hpt := Lib.hid hpt
              clear hpt Hp
              go_wp2_with fail
              refine (Hpt.out).mono ?_
              rintro e w5 ⟨rfl, v5, bw5, hW5, ho5, hm5⟩
              obtain ⟨hR5, hA5, o5⟩ := beside_write hR4 hW4 hA4 o4 ho5 hm5
              go_wp2
              go_roundw
              case rel => exact ⟨i + 1, a + 1, v5, bw5, by omega, by go_num, hR5, hW5, hA5, o5, by omega⟩
              case measure => simp [intOf]; omega
          · exfalso; omega
        · have hg1 : decide ((0 : Int) < 8 * (bs.length : Int) - (a : Int)) = false := by simp; omega
          have hg1'' : ¬ ((0 : Int) < 8 * (bs.length : Int) - (a : Int)) := by omega
          have hae : a = 8 * bs.length := by omega
          have hpk : bw = bs := hW3.packs.inj (hae ▸ packs_self bs hlt)
          rw [hpk] at hW3
          have hLl : ((bitsOf bs).take a).length = 8 * bs.length := by rw [List.length_take, bitsOf_len, hae, Nat.min_self]
          have Hae := Lib.hid hae
          have HLl := Lib.hid hLl
          have hz1 : (8 * (bs.length : Int) - (a : Int) != 0) = false := by rw [hae]; simp
          clear hae hpk hLl
          go_wp2_with fail
          refine (left_any hR3).mono ?_
          rintro e w4 ⟨rfl, m4, rfl⟩
          have hlc := len_any (hW3.drewN m4)
          rw [HLl.out] at hlc
          have Hlc := Lib.hid hlc
          clear hlc
          go_wp2_with fail
          refine (Hlc.out).mono ?_
          rintro e w4 ⟨rfl, rfl⟩
          go_wp2_with fail
          refine (bytes_any (hW3.drewN m4)).mono ?_
          rintro e w5 ⟨v5, rfl, hown5, ho5⟩
          have o5 : Only Nix w w5 := (ho3.drewN m4).trans ho5
          have HSm := Lib.hid (same_yes (Src.of_owns hown5 (by omega)) (HS.out.nix o5))
          have hR5 := (hR3.drewN m4).nix ho5
          obtain ⟨A5, c5, hv5⟩ := owns_slice hown5
          subst hv5
          clear hown5
          go_wp2_with fail
          refine (HSm.out).mono ?_
          rintro e w6 ⟨rfl, m6, rfl⟩
          have hR6 := hR5.drewN m6
          have o6 := o5.drewN m6
          have hsk := seek_any hR6 0
          rw [show seekE bs 0 = 0 from by unfold seekE; rw [if_neg (by omega)], show seekA bs a 0 = 0 from by unfold seekA; rw [if_neg (by omega)]; rfl] at hsk
          have Hsk := Lib.hid hsk
          clear hsk
          go_wp2_with fail
          refine (Hsk.out).mono ?_
          rintro e w7 ⟨rfl, hR7, ho7⟩
          have o7 : Only Nix w w7 := o6.then ho7 (fun k e => .inr (by have := hA3.r0; have h : k = r := e; omega))
          have hc7 := hR7.cell0
          go_wp2_with fail
          refine (at_any _ _ _ hc7).mono ?_
          rintro e w8 ⟨rfl, rfl⟩
          have Hnr := Lib.hid (newReader_any (HS.out.nix o7) hlt)
          go_wp2_with fail
          refine (Hnr.out).mono ?_
          rintro e w8 ⟨x, xv, rfl, hX8, hN8, ho8⟩
          have hR8 := hR7.nix ho8
          have o8 := o7.trans ho8
          have hxr : r < x := by have := hN8.1; have := hR7.mem; omega
          have hr0 := hA3.r0
          clear hR7 ho8 hN8 hR6 hR5 hR3 hW3 hA3 ho3 o5 o6 o7 hc7 ho7 ho5 Hnr Hsk HSm Hlc
          go_wp2
          go_loopw [12] (fun s12 wr => TwoRel w zs r x rv xv bs s12 wr) (fun s12 _ => zs.length - (intOf s12).toNat)
          case atStart => exact ⟨0, 0, Nat.zero_le _, rfl, hR8, hX8, o8⟩
          case round =>
            clear hR8 hX8 o8
            obtain ⟨k, q, hk, rfl, hR9, hX9, o9⟩ := hrel
            by_cases hkz : k < zs.length
            · have hg3 : (k : Int) < (zs.length : Int) := by omega
              obtain ⟨ad, rfl, hz⟩ := (h1.keep o9).at_ hkz
              have hzk : ∀ u, Only Nix w u → u.cell? (ad.add k) = some (iv zs[k]) := fun u hu => by
                obtain ⟨ad', e, hc⟩ := (h1.keep hu).at_ hkz
                injection e with e
                subst e
                exact hc
              have Hzk := Lib.hid hzk
              clear hzk
              generalize zs[k] = n at *
              have H1 := Lib.hid (signed_any hR9 n)
              go_wp2_with fail
              refine (H1.out).mono ?_
              rintro e w10 ⟨rfl, hR10, ho10⟩
              have hX10 := hX9.keep ho10 (by show ¬ (x = r); omega) (fun g hg e => owns_box hX9.own hR9.box (by decide) (by rw [hg]; exact congrArg some e))
              have o10 : Only Nix w w10 := o9.then ho10 (fun k e => .inr (by have h : k = r := e; omega))
              have hz10 := Hzk.out w10 o10
              have H2 := Lib.hid (signed_any hX10 n)
              go_wp2_with fail
              refine (H2.out).mono ?_
              rintro e w11 ⟨rfl, hX11, ho11⟩
              have hR11 := hR10.keep ho11 (by show ¬ (r = x); omega) (fun g hg e => owns_box hR10.own hX10.box (by decide) (by rw [hg]; exact congrArg some e))
              have o11 : Only Nix w w11 := o10.then ho11 (fun k e => .inr (by have h : k = x := e; omega))
              have hs1 : (signR bs q n != signR bs q n) = false := by simp
              have hs2 : (takeE bs q n != takeE bs q n) = false := by simp
              go_wp2
              go_roundw
              case rel => exact ⟨k + 1, _, by omega, by go_num, hR11, hX11, o11⟩
              case measure => simp [intOf]; omega
            · have hg3 : decide ((k : Int) < (zs.length : Int)) = false := by simp; omega
              go_wp2_with fail
              refine (awake_any _).mono ?_
              rintro e w12 ⟨rfl, ho12⟩
              go_wp2
              go_ret
              exact ⟨rfl, o9.trans ho12⟩
end Go.Proofs.Ytpcddacfhmkkbaa
