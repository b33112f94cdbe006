/-
  The document's answer: a number's code.
-/
import Derived.Test.YteahiigfclabfaaDoorHWB
namespace Go.Proofs.YteahiigfclabfaaDoor.U
open Go.RowKit

theorem packs_bytes (bs : List Nat) (h : ∀ x ∈ bs, x < 256) : Packs bs (bitsOf bs) :=
  ⟨h, by rw [bitsOf_len, Nat.sub_self]; simp, by rw [bitsOf_len]; exact Nat.le_refl _, by rw [bitsOf_len]; omega⟩
/-- one bit more -/
theorem bits_step (bs : List Nat) (p : Nat) (h : p / 8 < bs.length) : (bitsOf bs).take (p + 1) = (bitsOf bs).take p ++ [bs[p / 8] / 2 ^ (7 - p % 8) % 2] := by
  rw [List.take_add, bitsOf_piece bs p 1 h (by omega), show 8 - p % 8 - 1 = 7 - p % 8 from by omega]
  simp [bitsN]
/-- how many bits there are ahead of the number's bit i -/
def pos (S i : Nat) : Nat := S + 1 + i + 2 * ((i - (7 - S) + 5) / 6)
theorem cd_len' (n : Nat) : (cd n).length = szOf n := cd_len n
theorem cd_get (n q : Nat) (h : q < (cd n).length) (h0 : 1 ≤ q) : (cd n)[q] = 128 + n / 64 ^ (szOf n - 1 - q) % 64 := by
  have h1 := cd_at n q h0 (by rw [← cd_len]; exact h)
  rw [List.getElem?_eq_getElem h] at h1
  exact Option.some.inj h1
theorem cd_get0 (n : Nat) (h : 0 < (cd n).length) : (cd n)[0] = fb n := rfl
/-- the code's beginning -/
theorem bits_head (n : Nat) (hn : n < 68719476736) (h2 : 128 ≤ n) : (bitsOf (cd n)).take (szOf n + 1) = List.replicate (szOf n) 1 ++ [0] := by
  have hb : (bitsOf (cd n)).take 8 = bitsN 8 (fb n) := by
    rw [cd, bitsOf_cons]; exact List.take_left' (bitsN_len _ _)
  have e : (bitsOf (cd n)).take (szOf n + 1) = (bitsN 8 (fb n)).take (szOf n + 1) := by
    have := szOf_bd n
    rw [← hb, List.take_take, Nat.min_eq_left (by omega)]
  rw [e]
  rcases fb_cases n hn with h | h | h | h | h | h | h
  · omega
  all_goals
    obtain ⟨_, h⟩ := h
    first
    | (obtain ⟨h3, h4, h5⟩ := h
       rw [h4]
       have hlo : 128 ≤ n := h2
       generalize fb n = y at *
       simp [bitsN, List.replicate]
       omega)
    | (obtain ⟨h4, h5⟩ := h
       rw [h4]
       generalize fb n = y at *
       subst h5
       simp [bitsN, List.replicate])
theorem mod2 (a : Nat) : (128 + a % 64) / 32 % 2 = a / 32 % 2 ∧ (128 + a % 64) / 16 % 2 = a / 16 % 2 ∧ (128 + a % 64) / 8 % 2 = a / 8 % 2 ∧ (128 + a % 64) / 4 % 2 = a / 4 % 2 ∧ (128 + a % 64) / 2 % 2 = a / 2 % 2 ∧ (128 + a % 64) / 1 % 2 = a / 1 % 2 := by omega
theorem mod2s (a s : Nat) (hs : s < 6) : (128 + a % 64) / 2 ^ (5 - s) % 2 = a / 2 ^ (5 - s) % 2 := by
  have h := mod2 a
  obtain rfl | rfl | rfl | rfl | rfl | rfl : s = 0 ∨ s = 1 ∨ s = 2 ∨ s = 3 ∨ s = 4 ∨ s = 5 := by omega
  · exact h.1
  · exact h.2.1
  · exact h.2.2.1
  · exact h.2.2.2.1
  · exact h.2.2.2.2.1
  · exact h.2.2.2.2.2
/-- a bit of the first byte -/
theorem bits_first (n i : Nat) (hn : n < 68719476736) (h2 : 128 ≤ n) (hi : i < 7 - szOf n) : fb n / 2 ^ (6 - szOf n - i) % 2 = n / 2 ^ (7 - szOf n + 6 * (szOf n - 1) - 1 - i) % 2 := by
  rcases fb_cases n hn with h | h | h | h | h | h | h
  · omega
  all_goals
    obtain ⟨_, h⟩ := h
    first
    | (obtain ⟨h3, h4, h5⟩ := h
       rw [h4] at hi ⊢
       rw [h5]
       obtain rfl | rfl | rfl | rfl | rfl : i = 0 ∨ i = 1 ∨ i = 2 ∨ i = 3 ∨ i = 4 := by omega
       all_goals (first | (exfalso; omega) | (simp; omega)))
    | (obtain ⟨h4, h5⟩ := h
       exfalso; omega)
/-- one bit of the number more -/
theorem bits_more (n i : Nat) (hn : n < 68719476736) (h2 : 128 ≤ n) (hi : i < 7 - szOf n + 6 * (szOf n - 1)) :
    (bitsOf (cd n)).take (pos (szOf n) (i + 1)) = (bitsOf (cd n)).take (pos (szOf n) i) ++ ((if 7 - szOf n ≤ i ∧ (i - (7 - szOf n)) % 6 = 0 then [1, 0] else []) ++ [n / 2 ^ (7 - szOf n + 6 * (szOf n - 1) - 1 - i) % 2]) := by
  have hz := szOf_bd n
  have hl := cd_len n
  have hS2 : 2 ≤ szOf n := by rcases szOf_cases n with h | h | h | h | h | h | h <;> omega
  by_cases hf : i < 7 - szOf n
  · have hb := bits_first n i hn h2 hf
    have e1 : pos (szOf n) (i + 1) = pos (szOf n) i + 1 := by unfold pos; omega
    have e2 : pos (szOf n) i = szOf n + 1 + i := by unfold pos; omega
    have e3 : (szOf n + 1 + i) / 8 = 0 := by omega
    rw [if_neg (by omega), List.nil_append, e1, e2, bits_step (cd n) _ (by omega)]
    simp only [e3, cd_get0]
    rw [show 7 - (szOf n + 1 + i) % 8 = 6 - szOf n - i from by omega, hb]
  · obtain ⟨u, hu⟩ : ∃ u, i = 7 - szOf n + u := ⟨i - (7 - szOf n), by omega⟩
    obtain ⟨j, s, hjs, hs⟩ : ∃ j s, u = 6 * j + s ∧ s < 6 := ⟨u / 6, u % 6, by omega, by omega⟩
    have hj : j + 2 ≤ szOf n := by omega
    have hq : 1 + j < (cd n).length := by omega
    have hg := cd_get n (1 + j) hq (by omega)
    have hbit : ∀ p, p = 8 * (1 + j) + (2 + s) → (bitsOf (cd n)).take (p + 1) = (bitsOf (cd n)).take p ++ [n / 2 ^ (7 - szOf n + 6 * (szOf n - 1) - 1 - i) % 2] := by
      rintro p rfl
      have e3 : (8 * (1 + j) + (2 + s)) / 8 = 1 + j := by omega
      rw [bits_step (cd n) _ (by omega)]
      simp only [e3, hg]
      rw [show 7 - (8 * (1 + j) + (2 + s)) % 8 = 5 - s from by omega, mod2s _ _ hs, Nat.div_div_eq_div_mul, show (64 : Nat) = 2 ^ 6 from rfl, ← Nat.pow_mul, ← Nat.pow_add,
        show 6 * (szOf n - 1 - (1 + j)) + (5 - s) = 7 - szOf n + 6 * (szOf n - 1) - 1 - i from by omega]
    have e1 : pos (szOf n) (i + 1) = 8 * (1 + j) + (2 + s) + 1 := by unfold pos; omega
    rw [e1, hbit _ rfl]
    by_cases h0 : s = 0
    · subst h0
      have e2 : pos (szOf n) i = 8 * (1 + j) := by unfold pos; omega
      have e3 : (8 * (1 + j)) / 8 = 1 + j := by omega
      have e4 : (8 * (1 + j) + 1) / 8 = 1 + j := by omega
      rw [if_pos (by omega), e2, show 8 * (1 + j) + (2 + 0) = 8 * (1 + j) + 1 + 1 from rfl, bits_step (cd n) (8 * (1 + j) + 1) (by omega), bits_step (cd n) (8 * (1 + j)) (by omega)]
      simp only [e3, e4, hg]
      rw [show 7 - (8 * (1 + j) + 1) % 8 = 6 from by omega, show 7 - (8 * (1 + j)) % 8 = 7 from by omega]
      have := Nat.mod_lt (n / 64 ^ (szOf n - 1 - (1 + j))) (show 0 < 64 by decide)
      generalize n / 64 ^ (szOf n - 1 - (1 + j)) % 64 = y at *
      rw [show (128 + y) / 2 ^ 7 % 2 = 1 from by omega, show (128 + y) / 2 ^ 6 % 2 = 0 from by omega]
      simp
    · have e2 : pos (szOf n) i = 8 * (1 + j) + (2 + s) := by unfold pos; omega
      rw [if_neg (by omega), List.nil_append, e2]
theorem pos_end (n : Nat) (h2 : 128 ≤ n) : (bitsOf (cd n)).take (pos (szOf n) (7 - szOf n + 6 * (szOf n - 1))) = bitsOf (cd n) := by
  have hz := szOf_bd n
  have hl := cd_len n
  have hS2 : 2 ≤ szOf n := by rcases szOf_cases n with h | h | h | h | h | h | h <;> omega
  exact List.take_of_length_le (by rw [bitsOf_len, hl]; unfold pos; omega)
theorem pos_zero (n : Nat) : pos (szOf n) 0 = szOf n + 1 := by
  unfold pos; omega
def SizeP (n : Nat) (s3 s4 : Value) : Prop := ∃ s : Nat, 2 ≤ s ∧ s ≤ szOf n ∧ s3 = iv s ∧ s4 = iv (bel.getD (s - 1) 0 : Nat)
theorem bel_next (s : Nat) (h : 2 ≤ s) (h7 : s < 7) : bel.getD (s - 1) 0 * 32 = bel.getD (s + 1 - 1) 0 ∧ bel.getD (s - 1) 0 ≤ 68719476736 := by
  obtain rfl | rfl | rfl | rfl | rfl : s = 2 ∨ s = 3 ∨ s = 4 ∨ s = 5 ∨ s = 6 := by omega
  all_goals simp [bel]
set_option maxRecDepth 100000 in
set_option maxHeartbeats 2000000 in
theorem sizeRef_any {w : World} (n : Nat) (hn : n < 68719476736) :
    Calls Tryd.prog 57 #[iv n] w fun e w' => e = .returned (iv (szOf n : Nat)) ∧ w = w' := by
  by_cases h1 : n < 128
  · have d1 : (n : Int) < 128 := by omega
    have e : szOf n = 1 := by unfold szOf; rw [if_pos h1]
    rw [e]
    go_enter Tryd.func57, Tryd.ntmps57
    go_wp2
    go_ret
    exact ⟨rfl, rfl⟩
  · have d1 : ¬ (n : Int) < 128 := by omega
    have hS2 : 2 ≤ szOf n := by rcases szOf_cases n with h | h | h | h | h | h | h <;> omega
    go_enter Tryd.func57, Tryd.ntmps57
    go_wp2
    go_loop [3, 4] (fun s3 s4 => SizeP n s3 s4) (fun s3 _ => szOf n - (intOf s3).toNat)
    case atStart => exact ⟨2, by omega, hS2, rfl, rfl⟩
    case round =>
      obtain ⟨s, h2, hle, rfl, rfl⟩ := hrel
      obtain ⟨hb, h7⟩ := bel_at n s hn (by omega) hle
      by_cases hlt : s < szOf n
      · obtain ⟨hnx, hbig⟩ := bel_next s h2 (by have := (szOf_bd n).2; omega)
        have Hnx := Lib.hid hnx
        have hge := hb.1 hlt
        have HS := Lib.hid hlt
        clear hnx hb hlt
        generalize bel.getD (s - 1) 0 = B at *
        have d2 : (B : Int) ≤ (n : Int) := by omega
        go_wp2
        go_round
        case rel => exact ⟨s + 1, by omega, HS.out, by go_num, by rw [← Hnx.out]; go_num⟩
        case measure => have := HS.out; simp [intOf]; omega
      · have hge : ¬ bel.getD (s - 1) 0 ≤ n := fun h => hlt (hb.2 h)
        have hs : s = szOf n := by omega
        have HS := Lib.hid hs
        clear hb hlt hs
        generalize bel.getD (s - 1) 0 = B at *
        have d2 : decide (B ≤ n) = false := by simp; omega
        go_wp2
        go_ret
        exact ⟨by rw [← HS.out]; rfl, rfl⟩

/-- i ones -/
def OnesP (w : World) (S : Nat) (s4 s5 : Value) (wr : World) : Prop :=
  ∃ (i : Nat) (L : List Nat), i ≤ S ∧ L = List.replicate i 1 ∧ s5 = iv i ∧ Bitrow wr w.heap.size s4 L ∧ Only Nix w wr
/-- i bits of the number -/
def MoreP (w : World) (n S : Nat) (s4 s7 : Value) (wr : World) : Prop :=
  ∃ (i : Nat) (L : List Nat), i ≤ 5 * S + 1 ∧ L = (bitsOf (cd n)).take (pos S i) ∧ s7 = iv i ∧ Bitrow wr w.heap.size s4 L ∧ Only Nix w wr
theorem bit_box (w : World) {cs : Array Value} {M : List Nat} (h : cs = (bv M).toArray) : Box (w.alloc (.cells cs 3)) w.heap.size 3 (bv M).toArray := by subst h; exact Box.new _ _ _
theorem bitrow_alloc {w : World} {base : Nat} {v : Value} {l : List Nat} (h : Bitrow w base v l) (o : Obj) : Bitrow (w.alloc o) base v l := World.ownsRow.alloc h o
theorem bit_grown {w w1 w2 : World} {v : Value} {l : List Nat} (o : Only Nix w w1) (hown : Bitrow w1 w.heap.size v l) (ob : Obj) (hg : (w1.alloc ob).grownBy w2 v.ownBlock) : Only Nix w w2 :=
  (o.alloc ob).grown hg (fun q e => .inr (World.ownsRow.lt hown q e).1)

set_option maxRecDepth 100000 in
set_option maxHeartbeats 2000000 in
theorem putRef_any {w : World} (n : Nat) (hn : n < 68719476736) :
    Calls Tryd.prog 40 #[iv n] w fun e w' => ∃ v, e = .returned v ∧ Src w' v (cd n) ∧ Only Nix w w' := by
  have hbd := szOf_bd n
  by_cases h1 : n < 128
  · have e : szOf n = 1 := by unfold szOf; rw [if_pos h1]
    have hcd : cd n = [n] := by simp [cd, fb, e, tl, mrk]
    have hm : (n : Int) % 256 = (n : Int) := by omega
    go_enter Tryd.func40, Tryd.ntmps40
    go_wp2_with fail
    refine (sizeRef_any n hn).mono ?_
    rintro e w1 ⟨rfl, rfl⟩
    rw [e]
    go_wp2
    go_ret
    exact ⟨_, rfl, by rw [hcd]; exact src1 w n (by omega) _, (Only.refl _ _).alloc _⟩
  · have hS2 : 2 ≤ szOf n := by rcases szOf_cases n with h | h | h | h | h | h | h <;> omega
    have Hhead := Lib.hid (bits_head n hn (by omega))
    have Hmore := Lib.hid (fun i h => bits_more n i hn (by omega) h)
    have Hend := Lib.hid (pos_end n (by omega))
    have Hzero := Lib.hid (pos_zero n)
    have Hlen := Lib.hid (cd_len n)
    go_enter Tryd.func40, Tryd.ntmps40
    go_wp2_with fail
    refine (sizeRef_any n hn).mono ?_
    rintro e w1 ⟨rfl, rfl⟩
    generalize szOf n = S at *
    have hT : 7 - S + 6 * (S - 1) = 5 * S + 1 := by omega
    rw [hT] at Hmore Hend
    have d0 : ((S : Int) == 1) = false := by simp; omega
    go_wp2
    go_loopw [4, 5] (fun s4 s5 wr => OnesP w S s4 s5 wr) (fun _ s5 _ => S - (intOf s5).toNat)
    case atStart => exact ⟨0, [], Nat.zero_le _, rfl, rfl, World.ownsRow_nil _ _ _ _, Only.refl _ _⟩
    case round =>
      obtain ⟨i, L, hi, hL, rfl, hown, ho⟩ := hrel
      obtain ⟨A4, c4, hv4⟩ := owns_slice hown
      subst hv4
      have hlen : L.length ≤ i := by rw [hL]; simp
      have HL := Lib.hid hL
      have Hown := Lib.hid hown
      have hsz := ho.size
      clear hown hL
      by_cases hlt : i < S
      · have d1 : (i : Int) < (S : Int) := by omega
        go_wp2_with (at_builtin; refine wpList_append_bits rfl (.tmp 20) (.tmp 21) rfl w.heap.size (.slice A4 L.length c4) L rfl (bitrow_alloc Hown.out _) wr.heap.size 1 1 [1] rfl rfl (bit_box _ rfl) ?h63 ?hbase ?rest)
        case h63 => simp; omega
        case hbase => simp; omega
        case rest =>
          intro v2 w2 hown2 hgr
          have o2 := bit_grown ho Hown.out _ hgr
          obtain ⟨A5, c5, hv5⟩ := owns_slice hown2
          subst hv5
          have H2 := Lib.hid hown2
          clear hown2 hgr
          go_wp2
          go_roundw
          case rel => exact ⟨i + 1, L ++ [1], by omega, by rw [HL.out, List.replicate_succ'], by go_num, H2.out, o2⟩
          case measure => simp [intOf]; omega
      · obtain rfl : i = S := by omega
        have d1 : decide (i < i) = false := by simp
        go_wp2_with (at_builtin; refine wpList_append_bits rfl (.tmp 23) (.tmp 24) rfl w.heap.size (.slice A4 L.length c4) L rfl (bitrow_alloc Hown.out _) wr.heap.size 1 1 [0] rfl rfl (bit_box _ rfl) ?h63b ?hbaseb ?restb)
        case h63b => simp; omega
        case hbaseb => simp; omega
        case restb =>
          intro v2 w2 hown2 hgr
          have o2 := bit_grown ho Hown.out _ hgr
          have hst : L ++ [0] = (bitsOf (cd n)).take (pos i 0) := by rw [Hzero.out, Hhead.out, HL.out]
          generalize L ++ [0] = K0 at hown2 hst
          obtain ⟨A5, c5, hv5⟩ := owns_slice hown2
          subst hv5
          have Hst := Lib.hid hst
          have H2 := Lib.hid hown2
          clear hown2 hgr hst Hown
          generalize wr = wr0 at *
          go_wp2
          go_loopw [4, 7] (fun s4 s7 wr => MoreP w n i s4 s7 wr) (fun _ s7 _ => 5 * i + 1 - (intOf s7).toNat)
          case atStart => exact ⟨0, K0, Nat.zero_le _, Hst.out, rfl, H2.out, o2⟩
          case round =>
            clear H2 o2 ho Hst HL
            obtain ⟨k, K, hk, hK, rfl, hown, ho⟩ := hrel
            obtain ⟨A6, c6, hv6⟩ := owns_slice hown
            subst hv6
            have HK := Lib.hid hK
            have Hown := Lib.hid hown
            have hsz := ho.size
            have hKl : K.length ≤ 100 := by rw [hK, List.length_take]; unfold pos; omega
            clear hown hK
            by_cases hlt : k < 5 * i + 1
            · have hmore := Hmore.out k hlt
              rw [← HK.out] at hmore
              have d3 : (k : Int) < 7 - (i : Int) + 6 * ((i : Int) - 1) := by omega
              obtain ⟨Q, hQ, hQ2⟩ : ∃ Q : Nat, 7 - (i : Int) + 6 * ((i : Int) - 1) - 1 - (k : Int) = (Q : Int) ∧ 5 * i + 1 - 1 - k = Q := ⟨5 * i - k, by omega, by omega⟩
              have hbit : bits .and .i64 ((n : Int) / 2 ^ Q) 1 = ((n / 2 ^ Q % 2 : Nat) : Int) := by
                have hle : n / 2 ^ Q ≤ n := Nat.div_le_self _ _
                rw [pow_cast, ← Int.natCast_ediv, i64_and1 _ (by omega)]
              rw [hQ2] at hmore
              clear hQ2
              generalize n / 2 ^ Q % 2 = b at *
              by_cases hf : k < 7 - i
              · rw [if_neg (by omega), List.nil_append] at hmore
                have HM := Lib.hid hmore
                clear hmore
                have d4 : decide (7 - (i : Int) ≤ (k : Int)) = false := by simp; omega
                go_wp2_with (at_builtin; refine wpList_append_bits rfl (.tmp 50) (.tmp 62) rfl w.heap.size (.slice A6 K.length c6) K rfl (bitrow_alloc Hown.out _) wr.heap.size 1 1 [b] rfl rfl (bit_box _ rfl) ?a63 ?abase ?arest)
                case a63 => simp; omega
                case abase => have := ho.size; simp; omega
                case arest =>
                  intro v8 w8 hown8 hgr8
                  have o8 := bit_grown ho Hown.out _ hgr8
                  obtain ⟨A8, c8, hv8⟩ := owns_slice hown8
                  subst hv8
                  have H8 := Lib.hid hown8
                  clear hown8 hgr8
                  go_wp2
                  go_roundw
                  case rel => exact ⟨k + 1, K ++ [b], by omega, HM.out.symm, by go_num, H8.out, o8⟩
                  case measure => simp [intOf]; omega
              · have d4 : 7 - (i : Int) ≤ (k : Int) := by omega
                by_cases hr : (k - (7 - i)) % 6 = 0
                · rw [if_pos (by omega)] at hmore
                  have HM := Lib.hid hmore
                  clear hmore
                  have d5 : (((k : Int) - (7 - (i : Int))) % 6 == 0) = true := by simp; omega
                  go_wp2_with (at_builtin; refine wpList_append_bits rfl (.tmp 47) (.tmp 48) rfl w.heap.size (.slice A6 K.length c6) K rfl (bitrow_alloc Hown.out _) wr.heap.size 2 2 [1, 0] rfl rfl (bit_box _ rfl) ?c63 ?cbase ?crest)
                  case c63 => simp; omega
                  case cbase => simp; omega
                  case crest =>
                    intro v7 w7 hown7 hgr7
                    have o7 := bit_grown ho Hown.out _ hgr7
                    generalize hKK : K ++ [1, 0] = K7 at hown7
                    have hKl7 : K7.length ≤ 102 := by rw [← hKK, List.length_append]; simp; omega
                    have HKK := Lib.hid hKK
                    obtain ⟨A7, c7, hv7⟩ := owns_slice hown7
                    subst hv7
                    have H7 := Lib.hid hown7
                    clear hown7 hgr7 hKK ho Hown
                    go_wp2_with (at_builtin; refine wpList_append_bits rfl (.tmp 50) (.tmp 62) rfl w.heap.size (.slice A7 K7.length c7) K7 rfl (bitrow_alloc H7.out _) w7.heap.size 1 1 [b] rfl rfl (bit_box _ rfl) ?d63 ?dbase ?drest)
                    case d63 => simp; omega
                    case dbase => have := o7.size; simp; omega
                    case drest =>
                      intro v8 w8 hown8 hgr8
                      have o8 := bit_grown o7 H7.out _ hgr8
                      obtain ⟨A8, c8, hv8⟩ := owns_slice hown8
                      subst hv8
                      have H8 := Lib.hid hown8
                      clear hown8 hgr8
                      go_wp2
                      go_roundw
                      case rel => exact ⟨k + 1, K7 ++ [b], by omega, by rw [HM.out, ← HKK.out, List.append_assoc], by go_num, H8.out, o8⟩
                      case measure => simp [intOf]; omega
                · rw [if_neg (by omega), List.nil_append] at hmore
                  have HM := Lib.hid hmore
                  clear hmore
                  have d5 : (((k : Int) - (7 - (i : Int))) % 6 == 0) = false := by simp; omega
                  go_wp2_with (at_builtin; refine wpList_append_bits rfl (.tmp 50) (.tmp 62) rfl w.heap.size (.slice A6 K.length c6) K rfl (bitrow_alloc Hown.out _) wr.heap.size 1 1 [b] rfl rfl (bit_box _ rfl) ?e63 ?ebase ?erest)
                  case e63 => simp; omega
                  case ebase => have := ho.size; simp; omega
                  case erest =>
                    intro v8 w8 hown8 hgr8
                    have o8 := bit_grown ho Hown.out _ hgr8
                    obtain ⟨A8, c8, hv8⟩ := owns_slice hown8
                    subst hv8
                    have H8 := Lib.hid hown8
                    clear hown8 hgr8
                    go_wp2
                    go_roundw
                    case rel => exact ⟨k + 1, K ++ [b], by omega, HM.out.symm, by go_num, H8.out, o8⟩
                    case measure => simp [intOf]; omega
            · obtain rfl : k = 5 * i + 1 := by omega
              have d3 : decide (((5 * i + 1 : Nat) : Int) < 7 - (i : Int) + 6 * ((i : Int) - 1)) = false := by simp; omega
              have d6 : decide (5 * (i : Int) + 1 < 7 - (i : Int) + 6 * ((i : Int) - 1)) = false := by simp; omega
              have hK2 := HK.out
              rw [Hend.out] at hK2
              subst hK2
              have HB := Lib.hid (bytesRef_any Hown.out (packs_bytes _ (cd_lt n hn)) (by rw [bitsOf_len, Hlen.out]; omega))
              go_wp2_with fail
              refine (HB.out).mono ?_
              rintro e w9 ⟨v9, rfl, hown9, o9⟩
              have hsrc := owns_src hown9 (by rw [Hlen.out]; omega) (cd_lt n hn)
              go_wp2
              go_ret
              exact ⟨_, rfl, hsrc, ho.trans o9⟩
end Go.Proofs.YteahiigfclabfaaDoor.U
