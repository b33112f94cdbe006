/-
  Points: its walk.
-/
import Derived.Test.YtighdjbeddcckaaDoorVI
namespace Go.Proofs.YtighdjbeddcckaaDoor
open Go.RowKit Go.Shelf

theorem addr_add_add (a : Addr) (i j : Nat) : (a.add i).add j = a.add (i + j) := add_add a i j
/-- one number taken of what is left -/
theorem take_left {w u : World} {g c p m : Nat} {A : Option Addr} {v : Value} {bs : List Nat} (hs : Src w (.slice A bs.length c) bs) (ho : Only Nix w u) (hB : Box u g 29 #[v]) (hL : Left bs A c p v) (hp : p + m ≤ bs.length) (hc : bs.length ≤ c) (h0 : 0 < m) (hm : m ≤ 8) :
    Calls Tryd.prog 20 #[iv m, .pointer (some ⟨g, 0, none⟩)] u fun e w' => ∃ v', e = .returned (iv (sg (vl ((bs.drop p).take m)))) ∧ Box w' g 29 #[v'] ∧ Left bs A c (p + m) v' ∧ Only (Just g) u w' := by
  obtain ⟨A', rfl, hA⟩ := hL
  have hsu := hs.nix ho
  obtain ⟨ad, rfl, _⟩ := hsu.at_ (k := 0) (by omega)
  obtain rfl := hA ad rfl (by omega)
  have hd := hsu.drop p (by omega)
  refine (take_any m hB hd hm h0 (by omega) (by omega)).mono ?_
  rintro e w' ⟨A2, rfl, hB2, hA2, ho2⟩
  refine ⟨_, rfl, hB2, ⟨A2, by rw [Nat.sub_sub, Nat.sub_sub], fun ad' e hlt => ?_⟩, ho2⟩
  injection e with e
  subst e
  rw [hA2 (by omega), add_add]
set_option maxRecDepth 100000 in
set_option maxHeartbeats 8000000 in
theorem points_any {w : World} {A : Option Addr} {c : Nat} {bs : List Nat} (hs : Src w (.slice A bs.length c) bs) (hc : bs.length ≤ c) (hn : bs.length ≤ 100000) : Calls Tryd.prog 14 #[.slice A bs.length c] w fun e w' => PsR w bs e w' := by
  have HS := Lib.hid hs
  have a1 := (Only.refl Nix w).alloc (.cells #[.slice A bs.length c] 29)
  have b1 := Box.new w 29 #[.slice A bs.length c]
  obtain ⟨W1, hW1⟩ : ∃ W1, w.alloc (.cells #[.slice A bs.length c] 29) = W1 := ⟨_, rfl⟩
  rw [hW1] at a1 b1
  have q0 := b1.cell 0
  simp only [List.getElem?_toArray, List.getElem?_cons_zero] at q0
  have hlt1 := b1.lt
  have HA1 := Lib.hid a1
  have HB1 := Lib.hid b1
  have Hlt1 := Lib.hid hlt1
  clear a1 b1 hs hlt1
  by_cases h18 : bs.length % 18 = 0
  · obtain ⟨N, hN⟩ : ∃ N : Nat, bs.length / 18 = N := ⟨_, rfl⟩
    have hNn : bs.length = 18 * N := by omega
    have hps : psE bs = orE (rdT bs) := if_pos h18
    have HRno : Hid (∀ w', orE (rdT bs) ≠ 0 → Only Nix w w' → PsR w bs (.returned (.tuple #[.slice none 0 0, iv (orE (rdT bs))])) w') := Lib.hid (fun w' hne h => ⟨_, by rw [hps], by unfold psL; rw [hps, if_neg hne]; exact TSrc.nil _, h⟩)
    have HRyes : Hid (∀ w' v, orE (rdT bs) = 0 → TSrc w' v (rdT bs) → Only Nix w w' → PsR w bs (.returned (.tuple #[v, iv 0])) w') := Lib.hid (fun w' v he ht h => ⟨v, by rw [hps, he], by unfold psL; rw [hps, if_pos he]; exact ht, h⟩)
    have HRd : Hid (∀ u g f, Box u g 46 (mkA (bs.length / 18 * 3) f) → PtF bs (bs.length / 18) f → TSrc u (.slice (some ⟨g, 0, none⟩) (bs.length / 18) (bs.length / 18)) (rdT bs)) := Lib.hid (fun u g f hb hf => rdT_src hb hf hn)
    have HoC := Lib.hid (orE_cases (rdT bs))
    have HrL : Hid ((rdT bs).length = bs.length / 18) := Lib.hid (rdT_len bs)
    have hmk := make_points W1 N (by omega)
    have hO3 := Lib.hid (HA1.out.alloc (.cells (mkA (N * 3) (fun _ => 0)) 46))
    have hB3 := Lib.hid (Box.new W1 46 (mkA (N * 3) (fun _ => 0)))
    have hB0 := Lib.hid (HB1.out.alloc (.cells (mkA (N * 3) (fun _ => 0)) 46))
    obtain ⟨W3, hW3⟩ : ∃ W3, W1.alloc (.cells (mkA (N * 3) (fun _ => 0)) 46) = W3 := ⟨_, rfl⟩
    rw [hW3] at hmk hO3 hB3 hB0
    have HcS : Hid (∀ u v p m, Only Nix w u → Box u w.heap.size 29 #[v] → Left bs A c p v → p + m ≤ bs.length → 0 < m → m ≤ 8 → Calls Tryd.prog 20 #[iv m, .pointer (some ⟨w.heap.size, 0, none⟩)] u fun e w' => ∃ v', e = .returned (iv (sg (vl ((bs.drop p).take m)))) ∧ Box w' w.heap.size 29 #[v'] ∧ Left bs A c (p + m) v' ∧ Only (Just w.heap.size) u w') :=
      Lib.hid (fun u v p m ho hB hL hp h0 hm => take_left HS.out ho hB hL hp hc h0 hm)
    have HL0 : Hid (Left bs A c (18 * 0) (.slice A bs.length c)) := Lib.hid ⟨A, rfl, fun ad e _ => by subst e; simp [Addr.add]⟩
    obtain ⟨g2, hg2⟩ : ∃ g, W1.heap.size = g := ⟨_, rfl⟩
    obtain ⟨g0, hg0⟩ : ∃ g, w.heap.size = g := ⟨_, rfl⟩
    rw [hg2] at hmk hB3
    rw [hg0] at HB1 hB0 HcS q0
    have Hne : Hid (g0 ≠ g2) := Lib.hid (by have := Hlt1.out; omega)
    have Hge0 : Hid (w.heap.size ≤ g0) := Lib.hid (by omega)
    have Hge2 : Hid (w.heap.size ≤ g2) := Lib.hid (by have := HA1.out.size; omega)
    have hw1 : W1.heap.size = g2 := hg2
    have HNn := Lib.hid hNn
    have hmod : ((bs.length : Int) % 18 != 0) = false := by simp; omega
    have hquo : (bs.length : Int) / 18 = (N : Int) := by omega
    rw [hN] at HRd HrL
    clear hps hN h18 hNn
    have HN : Hid (bs.length / 18 = N) := Lib.hid (by have := HNn.out; omega)
    go_enter Tryd.func14, Tryd.ntmps14
    go_wp2
    go_loopw [19] (fun s19 wr => PsI w W3 g0 g2 bs A c s19 wr) (fun s19 _ => N - (intOf s19).toNat)
    case atStart => exact ⟨0, fun _ => 0, _, Nat.zero_le _, rfl, hB0.out, HL0.out, by rw [HN.out]; exact hB3.out, fun k hk => absurd hk (by omega), hO3.out⟩
    case round =>
      obtain ⟨j, f, v, hj, rfl, hB, hL, hC, hF, ho⟩ := hrel
      rw [HN.out] at hj hC
      have HBj := Lib.hid hB
      have HLj := Lib.hid hL
      have HCj := Lib.hid hC
      have HFj := Lib.hid hF.one
      have HF := Lib.hid hF
      have HO := Lib.hid ho
      clear hB hL hC hF ho
      by_cases hlt : j < N
      · have hlti : (j : Int) < (N : Int) := by omega
        have HT0 := Lib.hid (HcS.out wr v (18 * j) 8 HO.out HBj.out HLj.out (by have := HNn.out; omega) (by decide) (by decide))
        have HPj : Hid (ptOf bs j = (sg (vl ((bs.drop (18 * j)).take 8)), sg (vl ((bs.drop (18 * j + 8)).take 8)), sg (vl ((bs.drop (18 * j + 16)).take 2)))) := Lib.hid rfl
        go_wp2_with fail
        refine (HT0.out).mono ?_
        rintro e y0 ⟨v0, rfl, hb0, hl0, k0⟩
        have HY0 := Lib.hid (HO.out.then k0 (fun i hi => .inr (by rw [show i = g0 from hi]; exact Hge0.out)))
        have hc0 := HCj.out.only k0 (fun e => Hne.out (show g2 = g0 from e).symm)
        have c0 := hc0.cell (j * 3)
        rw [mkA_get (by omega)] at c0
        have z0 := hc0.frozen (j * 3)
        have hB1 := hb0.off (p := ⟨g2, j * 3, none⟩) Hne.out (iv (sg (vl ((bs.drop (18 * j)).take 8))))
        have hC1 := hc0.put (j * 3) (iv (sg (vl ((bs.drop (18 * j)).take 8))))
        rw [mkA_put] at hC1
        have hO1 := HY0.out.setCell (p := ⟨g2, j * 3, none⟩) (.inr Hge2.out) (iv (sg (vl ((bs.drop (18 * j)).take 8))))
        have HL1 := Lib.hid hl0
        have HT1 := HcS.out _ v0 (18 * j + 8) 8 hO1 hB1 hl0 (by have := HNn.out; omega) (by decide) (by decide)
        obtain ⟨X0, hX0⟩ : ∃ x, sg (vl ((bs.drop (18 * j)).take 8)) = x := ⟨_, rfl⟩
        rw [hX0] at hB1 hC1 hO1 HT1 HPj ⊢
        obtain ⟨U1, hU1⟩ : ∃ U1, y0.setCell ⟨g2, j * 3, none⟩ (iv X0) = U1 := ⟨_, rfl⟩
        rw [hU1] at hB1 hC1 hO1 HT1
        have HB1' := Lib.hid hB1
        have HC1' := Lib.hid hC1
        have HO1' := Lib.hid hO1
        have HT1' := Lib.hid HT1
        clear hb0 hl0 k0 hc0 hB1 hC1 hO1 HT1 HT0 hX0
        go_wp2_with fail
        refine (HT1'.out).mono ?_
        rintro e y1 ⟨v1, rfl, hb0, hl0, k0⟩
        have HY1 := Lib.hid (HO1'.out.then k0 (fun i hi => .inr (by rw [show i = g0 from hi]; exact Hge0.out)))
        have hc0 := HC1'.out.only k0 (fun e => Hne.out (show g2 = g0 from e).symm)
        have c1 := hc0.cell (j * 3 + 1)
        rw [mkA_get (by omega)] at c1
        have z1 := hc0.frozen (j * 3 + 1)
        have hB1 := hb0.off (p := ⟨g2, j * 3 + 1, none⟩) Hne.out (iv (sg (vl ((bs.drop (18 * j + 8)).take 8))))
        have hC1 := hc0.put (j * 3 + 1) (iv (sg (vl ((bs.drop (18 * j + 8)).take 8))))
        rw [mkA_put] at hC1
        have hO1 := HY1.out.setCell (p := ⟨g2, j * 3 + 1, none⟩) (.inr Hge2.out) (iv (sg (vl ((bs.drop (18 * j + 8)).take 8))))
        have HL2 := Lib.hid hl0
        have HT1 := HcS.out _ v1 (18 * j + 8 + 8) 2 hO1 hB1 hl0 (by have := HNn.out; omega) (by decide) (by decide)
        obtain ⟨X1, hX1⟩ : ∃ x, sg (vl ((bs.drop (18 * j + 8)).take 8)) = x := ⟨_, rfl⟩
        rw [hX1] at hB1 hC1 hO1 HT1 HPj ⊢
        obtain ⟨U2, hU2⟩ : ∃ U2, y1.setCell ⟨g2, j * 3 + 1, none⟩ (iv X1) = U2 := ⟨_, rfl⟩
        rw [hU2] at hB1 hC1 hO1 HT1
        have HB2' := Lib.hid hB1
        have HC2' := Lib.hid hC1
        have HO2' := Lib.hid hO1
        have HT2' := Lib.hid HT1
        clear hb0 hl0 k0 hc0 hB1 hC1 hO1 HT1 hX1
        go_wp2_with fail
        refine (HT2'.out).mono ?_
        rintro e y2 ⟨v2, rfl, hb0, hl0, k0⟩
        have HY2 := Lib.hid (HO2'.out.then k0 (fun i hi => .inr (by rw [show i = g0 from hi]; exact Hge0.out)))
        have hc0 := HC2'.out.only k0 (fun e => Hne.out (show g2 = g0 from e).symm)
        have c2 := hc0.cell (j * 3 + 2)
        rw [mkA_get (by omega)] at c2
        have z2 := hc0.frozen (j * 3 + 2)
        rw [show 18 * j + 8 + 8 = 18 * j + 16 by omega] at *
        have hB1 := hb0.off (p := ⟨g2, j * 3 + 2, none⟩) Hne.out (iv (sg (vl ((bs.drop (18 * j + 16)).take 2))))
        have hC1 := hc0.put (j * 3 + 2) (iv (sg (vl ((bs.drop (18 * j + 16)).take 2))))
        rw [mkA_put] at hC1
        have hO1 := HY2.out.setCell (p := ⟨g2, j * 3 + 2, none⟩) (.inr Hge2.out) (iv (sg (vl ((bs.drop (18 * j + 16)).take 2))))
        have HL3 := Lib.hid hl0
        obtain ⟨X2, hX2⟩ : ∃ x, sg (vl ((bs.drop (18 * j + 16)).take 2)) = x := ⟨_, rfl⟩
        rw [hX2] at hB1 hC1 hO1 HPj ⊢
        obtain ⟨U3, hU3⟩ : ∃ U3, y2.setCell ⟨g2, j * 3 + 2, none⟩ (iv X2) = U3 := ⟨_, rfl⟩
        rw [hU3] at hB1 hC1 hO1
        have HB3' := Lib.hid hB1
        have HC3' := Lib.hid hC1
        have HO3' := Lib.hid hO1
        clear hb0 hl0 k0 hc0 hB1 hC1 hO1 hX2
        rw [HPj.out] at HFj
        go_wp2
        go_roundw
        case rel => exact ⟨j + 1, _, v2, by rw [HN.out]; exact hlt, by go_num, HB3'.out, by rw [show 18 * (j + 1) = 18 * j + 16 + 2 by omega]; exact HL3.out, by rw [HN.out]; exact HC3'.out, HFj.out, HO3'.out⟩
        case measure => simp [intOf]; omega
      · obtain rfl : j = N := by omega
        have HTs := HRd.out wr g2 f HCj.out HF.out
        have HTh := Lib.hid HTs
        have HI := inOrder_any HTs
        have HIh := Lib.hid HI
        have HoC2 := HoC.out
        clear HTs HI HRd HoC
        generalize orE (rdT bs) = E at *
        have hlti : ¬ ((j : Nat) : Int) < (j : Int) := by omega
        rcases HoC2 with rfl | rfl | rfl
        · go_wp2_with fail
          refine (HIh.out).mono ?_
          rintro e y2 ⟨rfl, k0⟩
          have HZ := Lib.hid (HRyes.out _ _ (by first | rfl | trivial) (HTh.out.nix k0) (HO.out.trans k0))
          clear k0
          go_wp2
          go_ret2
          exact HZ.out
        · go_wp2_with fail
          refine (HIh.out).mono ?_
          rintro e y2 ⟨rfl, k0⟩
          have HZ := Lib.hid (HRno.out _ (by first | decide | trivial) (HO.out.trans k0))
          clear k0
          go_wp2
          go_ret2
          exact HZ.out
        · go_wp2_with fail
          refine (HIh.out).mono ?_
          rintro e y2 ⟨rfl, k0⟩
          have HZ := Lib.hid (HRno.out _ (by first | decide | trivial) (HO.out.trans k0))
          clear k0
          go_wp2
          go_ret2
          exact HZ.out
  · have hps : psE bs = 12 := if_neg h18
    have HR : Hid (PsR w bs (.returned (.tuple #[.slice none 0 0, iv 12])) W1) := Lib.hid ⟨_, by rw [hps], by unfold psL; rw [hps, if_neg (by decide)]; exact TSrc.nil _, HA1.out⟩
    have hmod : ((bs.length : Int) % 18 != 0) = true := by simp; omega
    clear hps h18
    go_enter Tryd.func14, Tryd.ntmps14
    go_wp2
    go_ret2
    exact HR.out
end Go.Proofs.YtighdjbeddcckaaDoor
