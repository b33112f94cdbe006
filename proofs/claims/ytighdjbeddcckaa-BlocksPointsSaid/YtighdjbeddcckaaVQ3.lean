/-
  The document's WritePoints: its walk.
-/
import Derived.Test.YtighdjbeddcckaaVQ2
import Derived.Test.YtighdjbeddcckaaVD
namespace Go.Proofs.Ytighdjbeddcckaa
open Go.RowKit Go.Shelf

def RwI (w : World) (l : List Pt) (s4 s5 : Value) (wr : World) : Prop := ∃ j : Nat, j ≤ l.length ∧ s5 = iv j ∧ mayN l j ∧ Owns wr w.heap.size 5 byt s4 (pts (l.take j)) ∧ Only Nix w wr
def RwK (w : World) (P : List Nat) (s4 s6 : Value) (wr : World) : Prop := ∃ k : Nat, k ≤ 8 ∧ s6 = iv k ∧ Owns wr w.heap.size 5 byt s4 (P ++ List.replicate k 255) ∧ Only Nix w wr
def RwZ (w : World) (u s4 s6 : Value) (wr : World) : Prop := u = s4 ∧ s6 = iv 0 ∧ w = wr
theorem be8_top : be 8 (u64n (-1)) = List.replicate 8 255 := by decide
theorem u64n_pos {x : Int} (h0 : 0 ≤ x) (h1 : x ≤ 9223372036854775807) : u64n x = x.toNat := by unfold u64n; omega
theorem rep_snoc (k : Nat) : List.replicate k 255 ++ [255] = List.replicate (k + 1) 255 := by rw [List.replicate_succ']
set_option maxRecDepth 100000 in
set_option maxHeartbeats 16000000 in
theorem writeRef_any {w : World} {v : Value} {l : List Pt} (hs : TSrc w v l) (hn : l.length ≤ 1000) : Calls Try.prog 18 #[v] w fun e w' => WpR w l e w' := by
  obtain ⟨A, c, rfl⟩ := hs.slice
  have HS := Lib.hid hs
  have HBg : Hid (∀ u (m n : Nat), m ≤ 8 → n < 9223372036854775808 → Calls Try.prog 31 #[iv n, iv m] u fun e w' => ∃ v, e = .returned v ∧ Owns w' u.heap.size 5 byt v (be m n) ∧ Only Nix u w') := Lib.hid (fun u m n hm hn => big_any m n hm hn)
  have HOd : Hid (∀ u, Only Nix w u → Calls Try.prog 32 #[.slice A l.length c] u fun e w' => e = .returned (.bool (decide (orR l l.length))) ∧ Only Nix u w') := Lib.hid (fun u hu => ordered_any (HS.out.nix hu) (by omega))
  have HRb : Hid (∀ j w', j < l.length → ¬ mayT (gt l j) → Only Nix w w' → WpR w l (.returned (.tuple #[.slice none 0 0, iv 10])) w') := Lib.hid (fun j w' hj hb ho => by
    have he : orE l = 10 := if_neg (fun h => hb (h j hj))
    exact ⟨⟨_, by rw [he], by rw [he, if_neg (by decide)]; exact Owns.nil _ _ _ _⟩, ho⟩)
  clear hs
  go_enter Try.func18, Try.ntmps18
  go_wp2
  go_loopw [4, 5] (fun s4 s5 wr => RwI w l s4 s5 wr) (fun _ s5 _ => l.length - (intOf s5).toNat)
  case atStart => exact ⟨0, Nat.zero_le _, rfl, (fun i hi => absurd hi (by omega)), Owns.nil _ _ _ _, Only.refl _ _⟩
  case round =>
    obtain ⟨j, hj, rfl, hm, hown, ho⟩ := hrel
    have HM := Lib.hid hm
    have HW := Lib.hid hown
    have HO := Lib.hid ho
    clear hm hown ho
    by_cases hlt : j < l.length
    · obtain ⟨ad, rfl, hx0, hx1, hx2⟩ := HS.out.at_ hlt
      replace hx0 := cell_keep HO.out hx0
      replace hx1 := cell_keep HO.out hx1
      replace hx2 := cell_keep HO.out hx2
      have hlti : (j : Int) < (l.length : Int) := by omega
      have HF := Lib.hid (HS.out.fits _ (List.getElem_mem hlt))
      have HT := Lib.hid (pts_take hlt)
      rw [← gt_eq hlt] at hx0 hx1 hx2 HF HT
      have HMj := Lib.hid (fun h => mayN_one HM.out (show mayT (gt l j) from h))
      have HRj := Lib.hid (fun w' => HRb.out j w' hlt)
      have HPL : Hid ((pts (l.take j)).length ≤ 18000) := Lib.hid (by rw [pts_len, List.length_take]; omega)
      have HX1 := Lib.hid hx1
      have HX2 := Lib.hid hx2
      have HX0 := Lib.hid hx0
      obtain ⟨P, hP⟩ : ∃ z, gt l j = z := ⟨_, rfl⟩
      have HPq := Lib.hid hP
      rw [hP] at hx0 hx1 hx2 HF HT HMj HRj HX0 HX1 HX2
      clear hP
      obtain ⟨p, q, r⟩ := P
      simp only at hx0 hx1 hx2 HX0 HX1 HX2
      obtain ⟨⟨f1, f2⟩, ⟨f3, f4⟩, f5, f6⟩ := HF.out
      simp only at f1 f2 f3 f4 f5 f6
      by_cases b1 : p < -1
      · have HZ := Lib.hid (HRj.out wr (fun h => by have := h.1; simp only at this; omega) HO.out)
        clear HMj HT
        go_wp2
        go_ret2
        exact HZ.out
      by_cases b2 : q < 0
      · have HZ := Lib.hid (HRj.out wr (fun h => by have := h.2.1; simp only at this; omega) HO.out)
        clear HMj HT
        go_wp2
        go_ret2
        exact HZ.out
      by_cases b3 : r < 0
      · have HZ := Lib.hid (HRj.out wr (fun h => by have := h.2.2.1; simp only at this; omega) HO.out)
        clear HMj HT
        go_wp2
        go_ret2
        exact HZ.out
      by_cases b4 : 65535 < r
      · have HZ := Lib.hid (HRj.out wr (fun h => by have := h.2.2.2; simp only at this; omega) HO.out)
        clear HMj HT
        go_wp2
        go_ret2
        exact HZ.out
      have HMk := Lib.hid (HMj.out ⟨by simp only; omega, by simp only; omega, by simp only; omega, by simp only; omega⟩)
      unfold ptB at HT
      simp only at HT
      obtain ⟨Q, rfl⟩ := Int.eq_ofNat_of_zero_le (show 0 ≤ q by omega)
      obtain ⟨R, rfl⟩ := Int.eq_ofNat_of_zero_le (show 0 ≤ r by omega)
      have eQ : u64n (Q : Int) = Q := by rw [u64n_pos (by omega) f4, Int.toNat_natCast]
      have eR : u64n (R : Int) = R := by rw [u64n_pos (by omega) f6, Int.toNat_natCast]
      rw [eQ, eR] at HT
      have hQ : Q < 9223372036854775808 := by omega
      have hR : R < 9223372036854775808 := by omega
      obtain ⟨Pj, hPj⟩ : ∃ z, pts (l.take j) = z := ⟨_, rfl⟩
      rw [hPj] at HW HT HPL
      clear eQ eR hPj HMj HRj
      by_cases hp : p < 0
      · obtain rfl : p = -1 := by omega
        rw [be8_top] at HT
        have HW0 : Hid (Owns wr w.heap.size 5 byt u4 (Pj ++ List.replicate 0 255)) := Lib.hid (by simpa using HW.out)
        go_wp2
        go_loopw [4, 6] (fun s4 s6 wr => RwK w Pj s4 s6 wr) (fun _ s6 _ => 8 - (intOf s6).toNat)
        case atStart => exact ⟨0, by decide, rfl, HW0.out, HO.out⟩
        case round =>
          obtain ⟨k, hk, rfl, hown, ho⟩ := hrel
          have HWk := Lib.hid hown
          have HOk := Lib.hid ho
          have hsz := ho.size
          have Hsz := Lib.hid hsz
          clear hown ho hsz
          obtain ⟨_, e0, y0, y1, y2⟩ := (HS.out.nix HOk.out).at_ hlt
          injection e0 with e0
          subst e0
          clear y1 y2
          rw [← gt_eq hlt] at y0
          rw [HPq.out] at y0
          simp only at y0
          by_cases hk8 : k < 8
          · have hk8i : (k : Int) < 8 := by omega
            have HC : Hid ((wr.alloc (.cells #[.int .u8 255] 5)).cell? ⟨wr.heap.size, 0, none⟩ = some (byt 255)) := Lib.hid ((Box.new wr 5 #[.int .u8 255]).cell 0)
            have HL1 : Hid ((Pj ++ List.replicate k 255).length ≤ 100000) := Lib.hid (by have := HPL.out; simp; omega)
            go_wp2_with (at_builtin; refine app_byte rfl (.tmp 55) (.tmp 56) rfl w.heap.size u4 (Pj ++ List.replicate k 255) rfl ?own1 wr.heap.size 255 rfl HC.out HL1.out ?base1 ?rest1)
            case own1 => exact HWk.out.nix ((Only.refl Nix wr).alloc _)
            case base1 => have := Hsz.out; simp; omega
            case rest1 =>
              intro v1 w1 r1 g1 m1
              have HR1 : Hid (Owns w1 w.heap.size 5 byt v1 (Pj ++ List.replicate (k + 1) 255)) := Lib.hid (by rw [← rep_snoc]; exact r1)
              have HO1 := Lib.hid ((HOk.out.alloc (.cells #[.int .u8 255] 5)).grown g1 (fun k hk => .inr (HWk.out.lt hk).1))
              clear r1 g1 m1
              go_wp2
              go_roundw
              case rel => exact ⟨k + 1, by omega, by go_num, HR1.out, HO1.out⟩
              case measure => simp [intOf]; omega
          · obtain rfl : k = 8 := by omega
            rw [show ((8 : Nat) : Int) = 8 from rfl]
            have HWq := Lib.hid HWk.out
            have HOq := Lib.hid HOk.out
            have HLq : Hid ((Pj ++ List.replicate 8 255).length ≤ 20000) := Lib.hid (by have := HPL.out; simp; omega)
            obtain ⟨PP, hPP⟩ : ∃ z, Pj ++ List.replicate 8 255 = z := ⟨_, rfl⟩
            have HTq : Hid (pts (l.take (j + 1)) = PP ++ (be 8 Q ++ be 2 R)) := Lib.hid (by rw [← hPP, HT.out, List.append_assoc])
            rw [hPP] at HWq HLq
            clear hPP HWk HOk HT HW0
            obtain ⟨_, e9, n0, n1, n2⟩ := (HS.out.nix HOq.out).at_ hlt
            injection e9 with e9
            subst e9
            rw [← gt_eq hlt] at n0 n1 n2
            rw [HPq.out] at n0 n1 n2
            simp only at n0 n1 n2
            have HN2 := Lib.hid n2
            have HB2 := Lib.hid (HBg.out wr 8 Q (by decide) hQ)
            go_wp2_with fail
            refine (HB2.out).mono ?_
            rintro e w3 ⟨v3, rfl, r3, o3⟩
            have HV3 := Lib.hid (r3.bytes (by rw [be_len]; decide) (be_lt 8 Q))
            have HO3 := Lib.hid (HOq.out.trans o3)
            have HW3 := Lib.hid (HWq.out.nix o3)
            have HN3 := Lib.hid (cell_keep o3 HN2.out)
            obtain ⟨A3, c3, rfl⟩ := HV3.out.slice
            have HL3 : Hid (PP.length + (be 8 Q).length ≤ 1000000) := Lib.hid (by have := HLq.out; rw [be_len]; omega)
            clear r3 o3 HB2
            go_wp2_with (at_builtin; refine wpList_append_bytes rfl (.tmp 72) (.tmp 78) rfl w.heap.size u4 PP.length (PP.map byt) rfl HW3.out A3 (be 8 Q).length c3 (be 8 Q) rfl HV3.out HL3.out HO3.out.size ?rest3)
            case rest3 =>
              intro v4 w4 r4 g4 m4
              have HO4 := Lib.hid (HO3.out.grown g4 (fun k hk => .inr (HW3.out.lt hk).1))
              have hO4 : Owns w4 w.heap.size 5 byt v4 (PP ++ be 8 Q) := by
                unfold Owns
                rw [List.length_append, List.map_append]
                exact r4
              have HW4 := Lib.hid hO4
              obtain ⟨_, e9, _, _, n4⟩ := (HS.out.nix HO4.out).at_ hlt
              injection e9 with e9
              subst e9
              rw [← gt_eq hlt] at n4
              rw [HPq.out] at n4
              simp only at n4
              have HB4 := Lib.hid (HBg.out w4 2 R (by decide) hR)
              clear r4 g4 m4 hO4
              go_wp2_with fail
              refine (HB4.out).mono ?_
              rintro e w5 ⟨v5, rfl, r5, o5⟩
              have HV5 := Lib.hid (r5.bytes (by rw [be_len]; decide) (be_lt 2 R))
              have HO5 := Lib.hid (HO4.out.trans o5)
              have HW5 := Lib.hid (HW4.out.nix o5)
              obtain ⟨A5, c5, rfl⟩ := HV5.out.slice
              have HL5 : Hid ((PP ++ be 8 Q).length + (be 2 R).length ≤ 1000000) := Lib.hid (by have := HLq.out; rw [List.length_append, be_len, be_len]; omega)
              clear r5 o5 HB4
              go_wp2_with (at_builtin; refine wpList_append_bytes rfl (.tmp 80) (.tmp 86) rfl w.heap.size v4 (PP ++ be 8 Q).length ((PP ++ be 8 Q).map byt) rfl HW5.out A5 (be 2 R).length c5 (be 2 R) rfl HV5.out HL5.out HO5.out.size ?rest5)
              case rest5 =>
                intro v6 w6 r6 g6 m6
                have HO6 := Lib.hid (HO5.out.grown g6 (fun k hk => .inr (HW5.out.lt hk).1))
                have HW6 : Hid (Owns w6 w.heap.size 5 byt v6 (pts (l.take (j + 1)))) := Lib.hid (by
                  rw [HTq.out, ← List.append_assoc]
                  unfold Owns
                  have h := r6
                  simp only [List.map_append, List.length_append, List.append_assoc, Nat.add_assoc] at h ⊢
                  exact h)
                clear r6 g6 m6
                go_wp2
                go_roundw
                case rel => exact ⟨j + 1, hlt, by go_num, HMk.out, HW6.out, HO6.out⟩
                case measure => simp [intOf]; omega
      · obtain ⟨N, rfl⟩ := Int.eq_ofNat_of_zero_le (show 0 ≤ p by omega)
        have eN : u64n (N : Int) = N := by rw [u64n_pos (by omega) f2, Int.toNat_natCast]
        rw [eN] at HT
        have hN : N < 9223372036854775808 := by omega
        have HB1 := Lib.hid (HBg.out wr 8 N (by decide) hN)
        clear eN
        go_wp2
        go_loopw [4, 6] (fun s4 s6 wz => RwZ wr u4 s4 s6 wz) (fun _ _ _ => 0)
        case atStart => exact ⟨rfl, rfl, rfl⟩
        case round =>
        obtain ⟨rfl, rfl, rfl⟩ := hrel
        go_wp2_with fail
        refine (HB1.out).mono ?_
        rintro e w1 ⟨v1, rfl, r1, o1⟩
        have HV1 := Lib.hid (r1.bytes (by rw [be_len]; decide) (be_lt 8 N))
        have HO1 := Lib.hid (HO.out.trans o1)
        have HW1 := Lib.hid (HW.out.nix o1)
        obtain ⟨A1, c1, rfl⟩ := HV1.out.slice
        have HL1 : Hid (Pj.length + (be 8 N).length ≤ 1000000) := Lib.hid (by have := HPL.out; rw [be_len]; omega)
        clear r1 o1 HB1
        go_wp2_with (at_builtin; refine wpList_append_bytes rfl (.tmp 64) (.tmp 70) rfl w.heap.size u4 Pj.length (Pj.map byt) rfl HW1.out A1 (be 8 N).length c1 (be 8 N) rfl HV1.out HL1.out HO1.out.size ?rest1)
        case rest1 =>
          intro v2 wr r2 g2 m2
          have HOq := Lib.hid (HO1.out.grown g2 (fun k hk => .inr (HW1.out.lt hk).1))
          have hO2 : Owns wr w.heap.size 5 byt v2 (Pj ++ be 8 N) := by
            unfold Owns
            rw [List.length_append, List.map_append]
            exact r2
          have HWq := Lib.hid hO2
          have HLq : Hid ((Pj ++ be 8 N).length ≤ 20000) := Lib.hid (by have := HPL.out; simp [be_len]; omega)
          obtain ⟨PP, hPP⟩ : ∃ z, Pj ++ be 8 N = z := ⟨_, rfl⟩
          have HTq : Hid (pts (l.take (j + 1)) = PP ++ (be 8 Q ++ be 2 R)) := Lib.hid (by rw [← hPP, HT.out, List.append_assoc])
          rw [hPP] at HWq HLq
          clear hPP HT r2 g2 m2 hO2
          obtain ⟨_, e9, n0, n1, n2⟩ := (HS.out.nix HOq.out).at_ hlt
          injection e9 with e9
          subst e9
          rw [← gt_eq hlt] at n0 n1 n2
          rw [HPq.out] at n0 n1 n2
          simp only at n0 n1 n2
          have HN2 := Lib.hid n2
          have HB2 := Lib.hid (HBg.out wr 8 Q (by decide) hQ)
          go_wp2_with fail
          refine (HB2.out).mono ?_
          rintro e w3 ⟨v3, rfl, r3, o3⟩
          have HV3 := Lib.hid (r3.bytes (by rw [be_len]; decide) (be_lt 8 Q))
          have HO3 := Lib.hid (HOq.out.trans o3)
          have HW3 := Lib.hid (HWq.out.nix o3)
          have HN3 := Lib.hid (cell_keep o3 HN2.out)
          obtain ⟨A3, c3, rfl⟩ := HV3.out.slice
          have HL3 : Hid (PP.length + (be 8 Q).length ≤ 1000000) := Lib.hid (by have := HLq.out; rw [be_len]; omega)
          clear r3 o3 HB2
          go_wp2_with (at_builtin; refine wpList_append_bytes rfl (.tmp 72) (.tmp 78) rfl w.heap.size v2 PP.length (PP.map byt) rfl HW3.out A3 (be 8 Q).length c3 (be 8 Q) rfl HV3.out HL3.out HO3.out.size ?rest3)
          case rest3 =>
            intro v4 w4 r4 g4 m4
            have HO4 := Lib.hid (HO3.out.grown g4 (fun k hk => .inr (HW3.out.lt hk).1))
            have hO4 : Owns w4 w.heap.size 5 byt v4 (PP ++ be 8 Q) := by
              unfold Owns
              rw [List.length_append, List.map_append]
              exact r4
            have HW4 := Lib.hid hO4
            obtain ⟨_, e9, _, _, n4⟩ := (HS.out.nix HO4.out).at_ hlt
            injection e9 with e9
            subst e9
            rw [← gt_eq hlt] at n4
            rw [HPq.out] at n4
            simp only at n4
            have HB4 := Lib.hid (HBg.out w4 2 R (by decide) hR)
            clear r4 g4 m4 hO4
            go_wp2_with fail
            refine (HB4.out).mono ?_
            rintro e w5 ⟨v5, rfl, r5, o5⟩
            have HV5 := Lib.hid (r5.bytes (by rw [be_len]; decide) (be_lt 2 R))
            have HO5 := Lib.hid (HO4.out.trans o5)
            have HW5 := Lib.hid (HW4.out.nix o5)
            obtain ⟨A5, c5, rfl⟩ := HV5.out.slice
            have HL5 : Hid ((PP ++ be 8 Q).length + (be 2 R).length ≤ 1000000) := Lib.hid (by have := HLq.out; rw [List.length_append, be_len, be_len]; omega)
            clear r5 o5 HB4
            go_wp2_with (at_builtin; refine wpList_append_bytes rfl (.tmp 80) (.tmp 86) rfl w.heap.size v4 (PP ++ be 8 Q).length ((PP ++ be 8 Q).map byt) rfl HW5.out A5 (be 2 R).length c5 (be 2 R) rfl HV5.out HL5.out HO5.out.size ?rest5)
            case rest5 =>
              intro v6 w6 r6 g6 m6
              have HO6 := Lib.hid (HO5.out.grown g6 (fun k hk => .inr (HW5.out.lt hk).1))
              have HW6 : Hid (Owns w6 w.heap.size 5 byt v6 (pts (l.take (j + 1)))) := Lib.hid (by
                rw [HTq.out, ← List.append_assoc]
                unfold Owns
                have h := r6
                simp only [List.map_append, List.length_append, List.append_assoc, Nat.add_assoc] at h ⊢
                exact h)
              clear r6 g6 m6
              go_wp2
              go_roundw
              case rel => exact ⟨j + 1, hlt, by go_num, HMk.out, HW6.out, HO6.out⟩
              case measure => simp [intOf]; omega
    · obtain rfl : j = l.length := by omega
      have hlti : ¬ ((l.length : Nat) : Int) < (l.length : Int) := by omega
      have HTk : Hid (l.take l.length = l) := Lib.hid (List.take_of_length_le (Nat.le_refl _))
      have HWn : Hid (Owns wr w.heap.size 5 byt u4 (pts l)) := Lib.hid (by have := HW.out; rwa [HTk.out] at this)
      have HOr := Lib.hid (HOd.out wr HO.out)
      have hiff := orR_ordN HM.out
      clear HW HOd
      by_cases hr : orR l l.length
      · have he : orE l = 0 := by unfold orE; rw [if_pos HM.out, if_pos (hiff.1 hr)]
        have HZ : Hid (∀ w', Only Nix wr w' → WpR w l (.returned (.tuple #[u4, iv 0])) w') := Lib.hid (fun w' ho => ⟨⟨u4, by rw [he], by rw [he, if_pos rfl]; exact HWn.out.nix ho⟩, HO.out.trans ho⟩)
        rw [decide_eq_true hr] at HOr
        clear hiff hr he
        go_wp2_with fail
        refine (HOr.out).mono ?_
        rintro e w9 ⟨rfl, o9⟩
        have HZ9 := Lib.hid (HZ.out w9 o9)
        clear o9
        go_wp2
        go_ret2
        exact HZ9.out
      · have he : orE l = 18 := by unfold orE; rw [if_pos HM.out, if_neg (fun h => hr (hiff.2 h))]
        have HZ : Hid (∀ w', Only Nix wr w' → WpR w l (.returned (.tuple #[.slice none 0 0, iv 18])) w') := Lib.hid (fun w' ho => ⟨⟨_, by rw [he], by rw [he, if_neg (by decide)]; exact Owns.nil _ _ _ _⟩, HO.out.trans ho⟩)
        rw [decide_eq_false hr] at HOr
        clear hiff hr he
        go_wp2_with fail
        refine (HOr.out).mono ?_
        rintro e w9 ⟨rfl, o9⟩
        have HZ9 := Lib.hid (HZ.out w9 o9)
        clear o9
        go_wp2
        go_ret2
        exact HZ9.out
end Go.Proofs.Ytighdjbeddcckaa
