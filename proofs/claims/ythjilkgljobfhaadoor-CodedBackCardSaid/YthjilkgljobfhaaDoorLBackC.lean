/-
  CodedBack, walked.
-/
import Derived.Test.YthjilkgljobfhaaDoorLInside
namespace Go.Proofs.YthjilkgljobfhaaDoor
open Go.RowKit

theorem src_takeA {w : World} {A : Option Addr} {n c m d : Nat} {bs : List Nat} (h : Src w (.slice A n c) bs) (hm : m ≤ n) : Src w (.slice A m d) (bs.take m) := by
  have hl := h.len
  refine ⟨⟨A, d, by rw [List.length_take, Nat.min_eq_left (by omega)], fun j hj => ?_⟩, by have := h.small; rw [List.length_take]; omega, fun x hx => h.lt x (List.mem_of_mem_take hx)⟩
  rw [List.length_take] at hj
  obtain ⟨ad, e, hc⟩ := h.at_ (k := j) (by omega)
  exact ⟨ad, e, by rw [hc, List.getElem_take]⟩
theorem grown_nix {w w1 w2 : World} {base n : Nat} {v : Value} {xs : List Value} (o : Only Nix w w1) (hown : w1.ownsRow base 5 1 v n xs) (hb : w.heap.size ≤ base) (hg : w1.grownBy w2 v.ownBlock) : Only Nix w w2 :=
  o.grown hg (fun k hk => .inr (Nat.le_trans hb (hown.lt k hk).1))
def PartP (w : World) (S : Nat) (s11 : Value) (wr : World) : Prop := ∃ j : Nat, j ≤ S ∧ s11 = iv j ∧ Only Nix w wr

set_option maxHeartbeats 1000000 in
theorem back_in {w : World} (hL : Laid w) (n : Nat) (hn : n < 68719476736) (A : Option Addr) (c : Nat) (bs : List Nat) (hS : Src w (.slice A bs.length c) bs) (hc : bs.length ≤ c) (hb : bs.length ≤ 40) :
    Calls Tryd.prog 4 #[iv n, .slice A bs.length c] w fun e w' => e = .returned (.bool true) ∧ Only Nix w w' := by
  have HL : Hid (∀ u, Only Nix w u → Laid u) := fun u o => hL.nix o
  have Hs := Lib.hid hS
  have hsz := cd_len n
  have hbd := szOf_bd n
  have hput := Lib.hid (get_put n hn bs)
  have hpart := Lib.hid (fun i a => get_part n hn i a)
  have hlt := Lib.hid (cd_lt n hn)
  clear hL hS
  have hb2 : ¬ (40 : Int) < (bs.length : Int) := by omega
  go_enter Tryd.func4, Tryd.ntmps4
  go_wp2_with fail
  refine (put_src (HL.out _ (Only.refl _ _)) n hn).mono ?_
  rintro e w1 ⟨g, rfl, s1, o1⟩
  rw [hsz] at s1 ⊢
  have S1 := Lib.hid s1
  have B1 := Lib.hid (Hs.out.nix o1)
  clear s1
  generalize hZ : szOf n = S at *
  clear hZ
  go_wp2_with (at_builtin; refine wpList_append_bytes rfl (.tmp 31) (.tmp 32) rfl w1.heap.size (.slice none 0 0) 0 [] rfl (World.ownsRow_nil _ _ _ _) (some ⟨g, 0, none⟩) S S (cd n) rfl S1.out (by omega) (Nat.le_refl _) ?rest)
  case rest =>
    intro v2 w2 hown2 hgr2 _
    have o2 : Only Nix w1 w2 := grown_nix (Only.refl _ _) (World.ownsRow_nil _ _ _ _) (Nat.le_refl _) hgr2
    obtain ⟨A2, c2, hv2⟩ := owns_slice hown2
    subst hv2
    have B2 := Lib.hid (B1.out.nix o2)
    have O2 := Lib.hid hown2
    have hsize2 := o2.size
    clear hown2 hgr2
    go_wp2_with (at_builtin; refine wpList_append_bytes rfl (.tmp 34) (.tmp 35) rfl w1.heap.size (.slice A2 S c2) S ((cd n).map byt) rfl O2.out A bs.length c bs rfl B2.out (by omega) hsize2 ?rest2)
    case rest2 =>
      intro v3 w3 hown3 hgr3 _
      have o3 : Only Nix w1 w3 := grown_nix o2 O2.out (Nat.le_refl _) hgr3
      rw [← List.map_append] at hown3
      have hsrc := owns_src hown3 (by rw [List.length_append]; omega) (fun x hx => by
        rcases List.mem_append.1 hx with h3 | h3
        · exact hlt.out x h3
        · exact B1.out.lt x h3)
      obtain ⟨A3, c3, hv3⟩ := owns_slice hown3
      subst hv3
      have Hsrc := Lib.hid hsrc
      clear hown3 hgr3 hsrc O2 B2
      have p3 := o1.trans o3
      go_wp2_with fail
      refine (get_at (HL.out _ p3) A3 (S + bs.length) c3 (cd n ++ bs) n S 0 Hsrc.out hput.out).mono ?_
      rintro e w4 ⟨rfl, o4⟩
      have q4 := o3.trans o4
      have p4 := p3.trans o4
      clear o4 p3 o3 o2 Hsrc
      go_wp2
      go_loopw [11] (fun s11 wr => PartP w4 S s11 wr) (fun s11 _ => S - (intOf s11).toNat)
      case atStart => exact ⟨0, by omega, rfl, Only.refl _ _⟩
      case round =>
        obtain ⟨j, hj2, rfl, ho⟩ := hrel
        have pp := p4.trans ho
        by_cases hlt : j < S
        · have d1 : (j : Int) < (S : Int) := by omega
          have HG := Lib.hid (get_at (HL.out _ pp) (some ⟨g, 0, none⟩) j S _ 0 0 11 (src_take (S1.out.nix (q4.trans ho)) (Nat.le_of_lt hlt)) (hpart.out j hlt))
          go_wp2_with fail
          refine (HG.out).mono ?_
          rintro e w5 ⟨rfl, o5⟩
          go_wp2
          go_roundw
          case rel => exact ⟨j + 1, by omega, by go_num, ho.trans o5⟩
          case measure => simp [intOf]; omega
        · have d1 : decide (j < S) = false := by simp; omega
          clear ho q4 p4 hlt S1 B1
          rcases get_back bs with ⟨hE0, hgE, hE13⟩ | ⟨m, hm, hgm, hml, hmt⟩
          · have Hg := Lib.hid hgE
            clear hgE
            generalize (getOf bs).2.2 = E at *
            have hE2 : ((E : Int) != 0) = true := by simp; omega
            go_wp2_with fail
            refine (get_at (HL.out _ pp) A bs.length c bs 0 0 E (Hs.out.nix pp) Hg.out).mono ?_
            rintro e w7 ⟨rfl, o7⟩
            have p7 := pp.trans o7
            clear o7
            go_wp2_with fail
            refine (aw (w := w) p7 (HL.out _ p7)).mono ?_
            rintro e w8 ⟨rfl, o8⟩
            go_wp2
            go_ret
            exact ⟨rfl, o8⟩
          · have Hg := Lib.hid hgm
            have Hmt := Lib.hid hmt
            have hm1 := (szOf_bd m).1
            have hm7 := (szOf_bd m).2
            have Hm := Lib.hid (cd_len m)
            clear hgm hmt
            obtain ⟨ad, rfl, hjunk⟩ := Hs.out.at_ (k := 0) (by omega)
            clear hjunk
            go_wp2_with fail
            refine (get_at (HL.out _ pp) (some ad) bs.length c bs m (szOf m) 0 (Hs.out.nix pp) Hg.out).mono ?_
            rintro e w7 ⟨rfl, o7⟩
            have p7 := pp.trans o7
            clear o7
            go_wp2_with fail
            refine (put_at (HL.out _ p7) m (szOf m) _ (cd m) rfl hm rfl rfl).mono ?_
            rintro e w8 ⟨g8, rfl, s8, o8⟩
            have p8 := p7.trans o8
            have S8 := Lib.hid s8
            have T8 : Hid (Src w8 (.slice (some ad) (szOf m) c) (cd m)) := by
              have := src_takeA (d := c) (Hs.out.nix p8) hml
              rw [Hmt.out] at this
              exact this
            clear s8 o8
            generalize szOf m = Z at *
            have hz1 : (1 : Int) ≤ (Z : Int) := by omega
            have hz2 : (Z : Int) ≤ (bs.length : Int) := by omega
            have hz3 : (Z : Int) ≤ (c : Int) := by omega
            have hz4 : Z ≤ c := by omega
            go_wp2_with fail
            refine (equal_at (Only.refl Nix _) (some ⟨g8, 0, none⟩) (some ad) Z Z Z c (cd m) S8.out T8.out).mono ?_
            rintro e w9 ⟨rfl, o9⟩
            have p9 := p8.trans o9
            clear o9
            go_wp2_with fail
            refine (aw (w := w) p9 (HL.out _ p9)).mono ?_
            rintro e w10 ⟨rfl, o10⟩
            go_wp2
            go_ret
            exact ⟨rfl, o10⟩

set_option maxHeartbeats 1000000 in
theorem codedBack_walk (z : Int) (A : Option Addr) (c : Nat) (bs : List Nat) (w : World) (hL : Laid w) (hS : Src w (.slice A bs.length c) bs) (hc : bs.length ≤ c) :
    Calls Tryd.prog 4 #[iv z, .slice A bs.length c] w fun e w' => e = .returned (.bool true) ∧ Only Nix w w' := by
  have HL : Hid (∀ u, Only Nix w u → Laid u) := fun u o => hL.nix o
  have hsm := hS.small
  by_cases hb : bs.length ≤ 40
  · rcases out_or z with hz | ⟨n, rfl, hn⟩
    · have Hs := Lib.hid hS
      have Hz := Lib.hid hz
      clear hL hS hz
      have hb2 : ¬ (40 : Int) < (bs.length : Int) := by omega
      have pp : Only Nix w w := Only.refl _ _
      go_enter Tryd.func4, Tryd.ntmps4
      go_wp2_with fail
      refine (put_no z Hz.out).mono ?_
      rintro e w1 ⟨rfl, rfl⟩
      clear Hz
      rcases get_back bs with ⟨hE0, hgE, hE13⟩ | ⟨m, hm, hgm, hml, hmt⟩
      · have Hg := Lib.hid hgE
        clear hgE
        generalize (getOf bs).2.2 = E at *
        have hE2 : ((E : Int) != 0) = true := by simp; omega
        go_wp2_with fail
        refine (get_at (HL.out _ pp) A bs.length c bs 0 0 E (Hs.out.nix pp) Hg.out).mono ?_
        rintro e w7 ⟨rfl, o7⟩
        have p7 := pp.trans o7
        clear o7
        go_wp2_with fail
        refine (aw (w := w) p7 (HL.out _ p7)).mono ?_
        rintro e w8 ⟨rfl, o8⟩
        go_wp2
        go_ret
        exact ⟨rfl, o8⟩
      · have Hg := Lib.hid hgm
        have Hmt := Lib.hid hmt
        have hm1 := (szOf_bd m).1
        have hm7 := (szOf_bd m).2
        have Hm := Lib.hid (cd_len m)
        clear hgm hmt
        obtain ⟨ad, rfl, hjunk⟩ := Hs.out.at_ (k := 0) (by omega)
        clear hjunk
        go_wp2_with fail
        refine (get_at (HL.out _ pp) (some ad) bs.length c bs m (szOf m) 0 (Hs.out.nix pp) Hg.out).mono ?_
        rintro e w7 ⟨rfl, o7⟩
        have p7 := pp.trans o7
        clear o7
        go_wp2_with fail
        refine (put_at (HL.out _ p7) m (szOf m) _ (cd m) rfl hm rfl rfl).mono ?_
        rintro e w8 ⟨g8, rfl, s8, o8⟩
        have p8 := p7.trans o8
        have S8 := Lib.hid s8
        have T8 : Hid (Src w8 (.slice (some ad) (szOf m) c) (cd m)) := by
          have := src_takeA (d := c) (Hs.out.nix p8) hml
          rw [Hmt.out] at this
          exact this
        clear s8 o8
        generalize szOf m = Z at *
        have hz1 : (1 : Int) ≤ (Z : Int) := by omega
        have hz2 : (Z : Int) ≤ (bs.length : Int) := by omega
        have hz3 : (Z : Int) ≤ (c : Int) := by omega
        have hz4 : Z ≤ c := by omega
        go_wp2_with fail
        refine (equal_at (Only.refl Nix _) (some ⟨g8, 0, none⟩) (some ad) Z Z Z c (cd m) S8.out T8.out).mono ?_
        rintro e w9 ⟨rfl, o9⟩
        have p9 := p8.trans o9
        clear o9
        go_wp2_with fail
        refine (aw (w := w) p9 (HL.out _ p9)).mono ?_
        rintro e w10 ⟨rfl, o10⟩
        go_wp2
        go_ret
        exact ⟨rfl, o10⟩
    · exact back_in hL n hn A c bs hS hc hb
  · have hb2 : (40 : Int) < (bs.length : Int) := by omega
    clear hL hS
    go_enter Tryd.func4, Tryd.ntmps4
    go_wp2_with fail
    refine (aw (Only.refl _ _) (HL.out _ (Only.refl _ _))).mono ?_
    rintro e w5 ⟨rfl, o5⟩
    go_wp2
    go_ret
    exact ⟨rfl, o5⟩
end Go.Proofs.YthjilkgljobfhaaDoor
