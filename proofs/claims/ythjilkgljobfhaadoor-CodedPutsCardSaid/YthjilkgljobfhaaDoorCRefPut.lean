/-
  The document's answer: Put.
-/
import Derived.Test.YthjilkgljobfhaaDoorCRef
namespace Go.Proofs.YthjilkgljobfhaaDoor
open Go.RowKit

/-- i ones -/
def OnesP (w : World) (S : Nat) (s4 s5 : Value) (wr : World) : Prop :=
  ∃ (i : Nat) (L : List Nat), i ≤ S ∧ L = List.replicate i 1 ∧ s5 = iv i ∧ Bitrow wr w.heap.size s4 L ∧ Only Nix w wr
/-- i bits of the number -/
def MoreP (w : World) (n S : Nat) (s4 s7 : Value) (wr : World) : Prop :=
  ∃ (i : Nat) (L : List Nat), i ≤ 5 * S + 1 ∧ L = (bitsOf (cd n)).take (pos S i) ∧ s7 = iv i ∧ Bitrow wr w.heap.size s4 L ∧ Only Nix w wr
theorem bit_box (w : World) {cs : Array Value} {M : List Nat} (h : cs = (bv M).toArray) : Box (w.alloc (.cells cs 3)) w.heap.size 3 (bv M).toArray := by subst h; exact Box.new _ _ _
theorem bitrow_alloc {w : World} {base : Nat} {v : Value} {l : List Nat} (h : Bitrow w base v l) (o : Obj) : Bitrow (w.alloc o) base v l := World.ownsRow.alloc h o
theorem bit_grown {w w1 w2 : World} {v : Value} {l : List Nat} (o : Only Nix w w1) (hown : Bitrow w1 w.heap.size v l) (ob : Obj) (hg : (w1.alloc ob).grownBy w2 v.ownBlock) : Only Nix w w2 :=
  (o.alloc ob).grown hg (fun q e => .inr (World.ownsRow.lt hown q e).1)

set_option maxHeartbeats 1000000 in
theorem putRef_any {w : World} (n : Nat) (hn : n < 68719476736) :
    Calls Tryd.prog 11 #[iv n] w fun e w' => ∃ v, e = .returned v ∧ Src w' v (cd n) ∧ Only Nix w w' := by
  have hbd := szOf_bd n
  by_cases h1 : n < 128
  · have e : szOf n = 1 := by unfold szOf; rw [if_pos h1]
    have hcd : cd n = [n] := by simp [cd, fb, e, tl, mrk]
    have hm : (n : Int) % 256 = (n : Int) := by omega
    go_enter Tryd.func11, Tryd.ntmps11
    go_wp2_with fail
    refine (sizeRef_any n hn).mono ?_
    rintro e w1 ⟨rfl, rfl⟩
    rw [e]
    go_wp2
    go_ret
    exact ⟨_, rfl, by rw [hcd]; exact src1 w n (by omega) _, (Only.refl _ _).alloc _⟩
  · have hS2 : 2 ≤ szOf n := by rcases szOf_cases n with h | h | h | h | h | h | h <;> omega
    have Hhead := Lib.hid (bits_head n hn (by omega))
    have Hmore := Lib.hid (fun i h => bits_more n i hn (by omega) h)
    have Hend := Lib.hid (pos_end n (by omega))
    have Hzero := Lib.hid (pos_zero n)
    have Hlen := Lib.hid (cd_len n)
    go_enter Tryd.func11, Tryd.ntmps11
    go_wp2_with fail
    refine (sizeRef_any n hn).mono ?_
    rintro e w1 ⟨rfl, rfl⟩
    generalize szOf n = S at *
    have hT : 7 - S + 6 * (S - 1) = 5 * S + 1 := by omega
    rw [hT] at Hmore Hend
    have d0 : ((S : Int) == 1) = false := by simp; omega
    go_wp2
    go_loopw [4, 5] (fun s4 s5 wr => OnesP w S s4 s5 wr) (fun _ s5 _ => S - (intOf s5).toNat)
    case atStart => exact ⟨0, [], Nat.zero_le _, rfl, rfl, World.ownsRow_nil _ _ _ _, Only.refl _ _⟩
    case round =>
      obtain ⟨i, L, hi, hL, rfl, hown, ho⟩ := hrel
      obtain ⟨A4, c4, hv4⟩ := owns_slice hown
      subst hv4
      have hlen : L.length ≤ i := by rw [hL]; simp
      have HL := Lib.hid hL
      have Hown := Lib.hid hown
      have hsz := ho.size
      clear hown hL
      by_cases hlt : i < S
      · have d1 : (i : Int) < (S : Int) := by omega
        go_wp2_with (at_builtin; refine wpList_append_bits rfl (.tmp 20) (.tmp 21) rfl w.heap.size (.slice A4 L.length c4) L rfl (bitrow_alloc Hown.out _) wr.heap.size 1 1 [1] rfl rfl (bit_box _ rfl) ?h63 ?hbase ?rest)
        case h63 => simp; omega
        case hbase => simp; omega
        case rest =>
          intro v2 w2 hown2 hgr
          have o2 := bit_grown ho Hown.out _ hgr
          obtain ⟨A5, c5, hv5⟩ := owns_slice hown2
          subst hv5
          have H2 := Lib.hid hown2
          clear hown2 hgr
          go_wp2
          go_roundw
          case rel => exact ⟨i + 1, L ++ [1], by omega, by rw [HL.out, List.replicate_succ'], by go_num, H2.out, o2⟩
          case measure => simp [intOf]; omega
      · obtain rfl : i = S := by omega
        have d1 : decide (i < i) = false := by simp
        go_wp2_with (at_builtin; refine wpList_append_bits rfl (.tmp 23) (.tmp 24) rfl w.heap.size (.slice A4 L.length c4) L rfl (bitrow_alloc Hown.out _) wr.heap.size 1 1 [0] rfl rfl (bit_box _ rfl) ?h63b ?hbaseb ?restb)
        case h63b => simp; omega
        case hbaseb => simp; omega
        case restb =>
          intro v2 w2 hown2 hgr
          have o2 := bit_grown ho Hown.out _ hgr
          have hst : L ++ [0] = (bitsOf (cd n)).take (pos i 0) := by rw [Hzero.out, Hhead.out, HL.out]
          generalize L ++ [0] = K0 at hown2 hst
          obtain ⟨A5, c5, hv5⟩ := owns_slice hown2
          subst hv5
          have Hst := Lib.hid hst
          have H2 := Lib.hid hown2
          clear hown2 hgr hst Hown
          generalize wr = wr0 at *
          go_wp2
          go_loopw [4, 7] (fun s4 s7 wr => MoreP w n i s4 s7 wr) (fun _ s7 _ => 5 * i + 1 - (intOf s7).toNat)
          case atStart => exact ⟨0, K0, Nat.zero_le _, Hst.out, rfl, H2.out, o2⟩
          case round =>
            clear H2 o2 ho Hst HL
            obtain ⟨k, K, hk, hK, rfl, hown, ho⟩ := hrel
            obtain ⟨A6, c6, hv6⟩ := owns_slice hown
            subst hv6
            have HK := Lib.hid hK
            have Hown := Lib.hid hown
            have hsz := ho.size
            have hKl : K.length ≤ 100 := by rw [hK, List.length_take]; unfold pos; omega
            clear hown hK
            by_cases hlt : k < 5 * i + 1
            · have hmore := Hmore.out k hlt
              rw [← HK.out] at hmore
              have d3 : (k : Int) < 7 - (i : Int) + 6 * ((i : Int) - 1) := by omega
              obtain ⟨Q, hQ, hQ2⟩ : ∃ Q : Nat, 7 - (i : Int) + 6 * ((i : Int) - 1) - 1 - (k : Int) = (Q : Int) ∧ 5 * i + 1 - 1 - k = Q := ⟨5 * i - k, by omega, by omega⟩
              have hbit : bits .and .i64 ((n : Int) / 2 ^ Q) 1 = ((n / 2 ^ Q % 2 : Nat) : Int) := by
                have hle : n / 2 ^ Q ≤ n := Nat.div_le_self _ _
                rw [pow_cast, ← Int.natCast_ediv, i64_and1 _ (by omega)]
              rw [hQ2] at hmore
              clear hQ2
              generalize n / 2 ^ Q % 2 = b at *
              by_cases hf : k < 7 - i
              · rw [if_neg (by omega), List.nil_append] at hmore
                have HM := Lib.hid hmore
                clear hmore
                have d4 : decide (7 - (i : Int) ≤ (k : Int)) = false := by simp; omega
                go_wp2_with (at_builtin; refine wpList_append_bits rfl (.tmp 50) (.tmp 62) rfl w.heap.size (.slice A6 K.length c6) K rfl (bitrow_alloc Hown.out _) wr.heap.size 1 1 [b] rfl rfl (bit_box _ rfl) ?a63 ?abase ?arest)
                case a63 => simp; omega
                case abase => have := ho.size; simp; omega
                case arest =>
                  intro v8 w8 hown8 hgr8
                  have o8 := bit_grown ho Hown.out _ hgr8
                  obtain ⟨A8, c8, hv8⟩ := owns_slice hown8
                  subst hv8
                  have H8 := Lib.hid hown8
                  clear hown8 hgr8
                  go_wp2
                  go_roundw
                  case rel => exact ⟨k + 1, K ++ [b], by omega, HM.out.symm, by go_num, H8.out, o8⟩
                  case measure => simp [intOf]; omega
              · have d4 : 7 - (i : Int) ≤ (k : Int) := by omega
                by_cases hr : (k - (7 - i)) % 6 = 0
                · rw [if_pos (by omega)] at hmore
                  have HM := Lib.hid hmore
                  clear hmore
                  have d5 : (((k : Int) - (7 - (i : Int))) % 6 == 0) = true := by simp; omega
                  go_wp2_with (at_builtin; refine wpList_append_bits rfl (.tmp 47) (.tmp 48) rfl w.heap.size (.slice A6 K.length c6) K rfl (bitrow_alloc Hown.out _) wr.heap.size 2 2 [1, 0] rfl rfl (bit_box _ rfl) ?c63 ?cbase ?crest)
                  case c63 => simp; omega
                  case cbase => simp; omega
                  case crest =>
                    intro v7 w7 hown7 hgr7
                    have o7 := bit_grown ho Hown.out _ hgr7
                    generalize hKK : K ++ [1, 0] = K7 at hown7
                    have hKl7 : K7.length ≤ 102 := by rw [← hKK, List.length_append]; simp; omega
                    have HKK := Lib.hid hKK
                    obtain ⟨A7, c7, hv7⟩ := owns_slice hown7
                    subst hv7
                    have H7 := Lib.hid hown7
                    clear hown7 hgr7 hKK ho Hown
                    go_wp2_with (at_builtin; refine wpList_append_bits rfl (.tmp 50) (.tmp 62) rfl w.heap.size (.slice A7 K7.length c7) K7 rfl (bitrow_alloc H7.out _) w7.heap.size 1 1 [b] rfl rfl (bit_box _ rfl) ?d63 ?dbase ?drest)
                    case d63 => simp; omega
                    case dbase => have := o7.size; simp; omega
                    case drest =>
                      intro v8 w8 hown8 hgr8
                      have o8 := bit_grown o7 H7.out _ hgr8
                      obtain ⟨A8, c8, hv8⟩ := owns_slice hown8
                      subst hv8
                      have H8 := Lib.hid hown8
                      clear hown8 hgr8
                      go_wp2
                      go_roundw
                      case rel => exact ⟨k + 1, K7 ++ [b], by omega, by rw [HM.out, ← HKK.out, List.append_assoc], by go_num, H8.out, o8⟩
                      case measure => simp [intOf]; omega
                · rw [if_neg (by omega), List.nil_append] at hmore
                  have HM := Lib.hid hmore
                  clear hmore
                  have d5 : (((k : Int) - (7 - (i : Int))) % 6 == 0) = false := by simp; omega
                  go_wp2_with (at_builtin; refine wpList_append_bits rfl (.tmp 50) (.tmp 62) rfl w.heap.size (.slice A6 K.length c6) K rfl (bitrow_alloc Hown.out _) wr.heap.size 1 1 [b] rfl rfl (bit_box _ rfl) ?e63 ?ebase ?erest)
                  case e63 => simp; omega
                  case ebase => have := ho.size; simp; omega
                  case erest =>
                    intro v8 w8 hown8 hgr8
                    have o8 := bit_grown ho Hown.out _ hgr8
                    obtain ⟨A8, c8, hv8⟩ := owns_slice hown8
                    subst hv8
                    have H8 := Lib.hid hown8
                    clear hown8 hgr8
                    go_wp2
                    go_roundw
                    case rel => exact ⟨k + 1, K ++ [b], by omega, HM.out.symm, by go_num, H8.out, o8⟩
                    case measure => simp [intOf]; omega
            · obtain rfl : k = 5 * i + 1 := by omega
              have d3 : decide (((5 * i + 1 : Nat) : Int) < 7 - (i : Int) + 6 * ((i : Int) - 1)) = false := by simp; omega
              have d6 : decide (5 * (i : Int) + 1 < 7 - (i : Int) + 6 * ((i : Int) - 1)) = false := by simp; omega
              have hK2 := HK.out
              rw [Hend.out] at hK2
              subst hK2
              have HB := Lib.hid (bytesRef_any Hown.out (cd_lt n hn) (by rw [Hlen.out]; omega))
              go_wp2_with fail
              refine (HB.out).mono ?_
              rintro e w9 ⟨v9, rfl, hown9, o9⟩
              have hsrc := owns_src hown9 (by rw [Hlen.out]; omega) (cd_lt n hn)
              go_wp2
              go_ret
              exact ⟨_, rfl, hsrc, ho.trans o9⟩
end Go.Proofs.YthjilkgljobfhaaDoor
