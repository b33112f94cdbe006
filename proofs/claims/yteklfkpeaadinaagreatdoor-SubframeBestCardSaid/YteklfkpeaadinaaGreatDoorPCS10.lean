/-
  Package subframe: Write.
-/
import Derived.Test.YteklfkpeaadinaaGreatDoorPCS9
namespace Go.Proofs.YteklfkpeaadinaaGreatDoor.S
open Go.RowKit
open K (linV resV fx)
/-- what a channel is written as -/
noncomputable def chB (k o wd lp ls m ro : Int) (cs ps bs : List Int) (d : Int) (xs : List Int) : List Nat :=
  headB (kC k.toNat + o).toNat wd.toNat ++ (((xs.map (dvd wd.toNat)).take (plM k o xs.length).toNat).flatMap (numB (d - wd).toNat) ++ ((if k = 3 then linB lp.toNat ls cs else []) ++
    (if 2 ≤ k then blockB (xs.length / 2 ^ ro.toNat) o.toNat (2 ^ ro.toNat) m.toNat ro.toNat ps bs (splV k o wd lp ls cs xs) else [])))
theorem isS_dvd {d W : Nat} {x : Int} (hW : W < d) (h : -((2 : Int) ^ (d - 1)) ≤ x ∧ x < (2 : Int) ^ (d - 1)) : isS (d - W) (dvd W x) := by
  unfold isS dvd
  rw [if_neg (by omega)]
  have hp : (0 : Int) < 2 ^ W := Int.pow_pos (by decide)
  have he : (2 : Int) ^ (d - 1) = 2 ^ (d - W - 1) * 2 ^ W := by rw [← Int.pow_add]; congr 1; omega
  rw [he] at h
  constructor
  · rw [Int.le_ediv_iff_mul_le hp, Int.neg_mul]
    exact h.1
  · exact (Int.ediv_lt_iff_lt_mul hp).2 h.2
theorem apart_above {w : World} {b : Nat} {v : Value} {bs L : List Nat} (h : Wr w b v bs L) {A : Option Addr} {n c B : Nat} (hB : w.heap.size ≤ B) (hA : ∀ ad, A = some ad → 0 < n → B ≤ ad.block) : Apart (.slice A n c) b v := fun ad n' c' e hn => by
  injection e with e1 e2 _
  have h1 := hA ad e1 (by omega)
  refine ⟨?_, fun e3 => ?_⟩
  · have := h.box.lt; omega
  · have := owns_lt h.own e3; omega
theorem Apart.moved {w : World} {b : Nat} {v v1 : Value} {A : Option Addr} {n c : Nat} {xs : List Int} (h : Apart (.slice A n c) b v) (hx : ISrc w (.slice A n c) xs) (hm : Moves w.heap.size v v1) : Apart (.slice A n c) b v1 := fun ad n' c' e hn => by
  obtain ⟨h1, h2⟩ := h ad n' c' e hn
  refine ⟨h1, fun e3 => ?_⟩
  rcases hm _ e3 with h4 | h4
  · exact h2 h4
  · have := hx.blk ad n' c' e hn; omega
theorem rice_to {w u : World} {b : Nat} {v : Value} {L : List Nat} (h : WrTo w b v L u) (m o s P S c n : Nat) (l : List Int) (A Ap Ab : Option Addr) (np nb cp cb : Nat) (ps bs : List Int) (hF : Fine m o s P S ps bs l)
    (hl : ISrc w (.slice A n c) l) (hps : ISrc w (.slice Ap np cp) ps) (hbs : ISrc w (.slice Ab nb cb) bs) (al : Apart (.slice A n c) b v) (ap : Apart (.slice Ap np cp) b v) (ab : Apart (.slice Ab nb cb) b v)
    (hlen : L.length ≤ 4000000000) :
    Calls Tryz.prog 38 #[.pointer (some ⟨b, 0, none⟩), planV m o (.slice Ap np cp) (.slice Ab nb cb), iv s, .slice A n c] u fun e u' => e = .returned (iv 0) ∧ WrTo w b v (L ++ blockB S s P m o ps bs l) u' ∧ KeepB u u' := by
  obtain ⟨v1, bs1, h1, o1, m1⟩ := h
  refine (write_ok h1 m o s P S c n l A Ap Ab np nb cp cb ps bs hF (hl.wr o1 al) (hps.wr o1 ap) (hbs.wr o1 ab) (Apart.moved al hl m1) (Apart.moved ap hps m1) (Apart.moved ab hbs m1) hlen).mono fun e u' ⟨he, hw⟩ => ⟨he, WrTo.of o1 m1 hw, ?_⟩
  obtain ⟨_, _, _, o2, _⟩ := hw
  exact Wr.keepB h1 o2
/-- what is so where a plan with residuals may be -/
theorem splE_fine {k o wd lp ls m ro : Int} {cs ps bs : List Int} {d : Int} {xs : List Int} (h : splE k o wd lp ls m ro cs ps bs d xs = 0) (hk : 2 ≤ k) :
    ∃ m' ro' O : Nat, m = (m' : Int) ∧ ro = (ro' : Int) ∧ o = (O : Int) ∧ Fine m' ro' O (2 ^ ro') (xs.length / 2 ^ ro') ps bs (splV k o wd lp ls cs xs) ∧ (splV k o wd lp ls cs xs).length + O = xs.length ∧ K.okL (tP k lp) (tS k ls) (tC k o cs) ∧ (tC k o cs).length = O ∧ K.resE (tP k lp) (tS k ls) (tC k o cs) (xs.map (dvd wd.toNat)) = 0 := by
  unfold splE at h
  split at h
  · cases h
  · split at h
    · rename_i h1; exact absurd h h1
    · rename_i h2
      split at h
      · cases h
      · split at h
        · cases h
        · have hpl := ckPl_zero (Classical.not_not.1 h2)
          have hlt := rof_lt h
          unfold rofE at h
          split at h
          · rename_i h3; exact absurd h h3
          · rename_i h3
            split at h
            · rename_i h4; exact absurd h h4
            · split at h
              · rename_i h5; exact absurd h h5
              · rename_i h5
                have hE : K.resE (tP k lp) (tS k ls) (tC k o cs) (xs.map (dvd wd.toNat)) = 0 := Classical.not_not.1 h5
                obtain ⟨m', ro', O, e1, e2, e3, hF⟩ := sizeE_zero h
                have hok : K.okL (tP k lp) (tS k ls) (tC k o cs) := by
                  have := Classical.not_not.1 h3
                  unfold K.ckL at this
                  split at this
                  · assumption
                  · cases this
                have hcl : (tC k o cs).length = O := by
                  obtain ⟨_, hk4, _, _, hl, hm, hown⟩ := hpl
                  have : k = 2 ∨ k = 3 := by omega
                  rcases this with rfl | rfl
                  · have e5 : kM (2 : Int).toNat = 4 := rfl
                    rw [e5] at hm
                    show (fx o.toNat).length = O
                    rw [K.fx_len _ (by omega)]
                    omega
                  · have : ((cs.length : Nat) : Int) = o := hown
                    show cs.length = O
                    omega
                have hv : splV k o wd lp ls cs xs = resV (tP k lp) (tS k ls) (tC k o cs) (xs.map (dvd wd.toNat)) := if_pos hk
                have hvl : (resV (tP k lp) (tS k ls) (tC k o cs) (xs.map (dvd wd.toNat))).length + O = xs.length := by
                  unfold K.resV
                  rw [if_pos hE, K.resT_len, List.length_map, hcl]
                  rw [List.length_map] at hlt
                  omega
                rw [hvl] at hF
                refine ⟨m', ro', O, e1, e2, e3, ?_, ?_, hok, hcl, hE⟩
                · rw [hv]; exact hF
                · rw [hv]; exact hvl
theorem splE_zero {k o wd lp ls m ro : Int} {cs ps bs : List Int} {d : Int} {xs : List Int} (h : splE k o wd lp ls m ro cs ps bs d xs = 0) :
    ckBlk xs.length d = 0 ∧ ckPl k o wd lp ls m ro cs.length ps.length bs.length d = 0 ∧ fitsD d.toNat xs ∧ dvA wd.toNat xs ∧ (k = 0 → sameA xs) := by
  unfold splE at h
  split at h
  · cases h
  · rename_i h1
    split at h
    · rename_i h1; exact absurd h h1
    · rename_i h2
      split at h
      · cases h
      · rename_i h3
        split at h
        · cases h
        · rename_i h4
          have h3' := Classical.not_not.1 h3
          exact ⟨Classical.not_not.1 h1, Classical.not_not.1 h2, h3'.1, h3'.2, fun hk => Classical.byContradiction fun hn => h4 ⟨hk, hn⟩⟩
def PlP (w u : World) (b : Nat) (v : Value) (L : List Nat) (n : Nat) (xs : List Int) (s : Value) (wr : World) : Prop := ∃ j : Nat, j ≤ xs.length ∧ s = iv j ∧ WrTo w b v (L ++ (xs.take j).flatMap (numB n)) wr ∧ KeepB u wr
/-- what Write answers -/
structure WrtR (b : Nat) (v : Value) (L : List Nat) (E : Int) (X : List Nat) (w : World) (e : Ending) (w' : World) : Prop where
  ans : e = .returned (iv E)
  bad : E ≠ 0 → Only Nix w w'
  good : E = 0 → WrTo w b v (L ++ X) w'
set_option maxHeartbeats 4000000 in
theorem write_any {w : World} {b : Nat} {v : Value} {bs0 L : List Nat} (hW : Wr w b v bs0 L) (hLd : ∀ u, Only (WF b v) w u → Laid u) (k o wd lp ls : Int) (Ac : Option Addr) (nc cc : Nat) (m ro : Int) (Ap Ab : Option Addr) (np cp nb cb : Nat) (cs ps bs : List Int) (d : Int) (A : Option Addr) (n c : Nat) (xs : List Int)
    (hcs : ISrc w (.slice Ac nc cc) cs) (hps : ISrc w (.slice Ap np cp) ps) (hbs : ISrc w (.slice Ab nb cb) bs) (hxs : ISrc w (.slice A n c) xs) (hn : n ≤ 1000)
    (hac : Apart (.slice Ac nc cc) b v) (hap : Apart (.slice Ap np cp) b v) (hab : Apart (.slice Ab nb cb) b v) (hlen : L.length ≤ 1000000) :
    Calls Tryz.prog 10 #[.pointer (some ⟨b, 0, none⟩), spV k o wd lp ls (.slice Ac nc cc) m ro (.slice Ap np cp) (.slice Ab nb cb), iv d, .slice A n c] w fun e w' => WrtR b v L (splE k o wd lp ls m ro cs ps bs d xs) (chB k o wd lp ls m ro cs ps bs d xs) w e w' := by
  have hxl := hxs.len
  have a0 := (Only.refl Nix w).alloc (.cells (spC k o wd lp ls (.slice Ac nc cc) m ro (.slice Ap np cp) (.slice Ab nb cb)) 28)
  have B0 := Box.new w 28 (spC k o wd lp ls (.slice Ac nc cc) m ro (.slice Ap np cp) (.slice Ab nb cb))
  obtain ⟨Wa, hWa⟩ : ∃ Wa, w.alloc (.cells (spC k o wd lp ls (.slice Ac nc cc) m ro (.slice Ap np cp) (.slice Ab nb cb)) 28) = Wa := ⟨_, rfl⟩
  rw [hWa] at a0 B0
  have HSp := Lib.hid (split_any (w := Wa) (hLd Wa a0.nix) k o wd lp ls Ac nc cc m ro Ap Ab np cp nb cb cs ps bs d A n c xs (hcs.nix a0) (hps.nix a0) (hbs.nix a0) (hxs.nix a0) hn)
  have HA := Lib.hid a0
  have HB := Lib.hid B0
  have HWr := Lib.hid hW
  have HLd := Lib.hid hLd
  have HCs := Lib.hid hcs
  have HPs := Lib.hid hps
  have HBs := Lib.hid hbs
  have Hxl := Lib.hid hxl
  have HAc := Lib.hid hac
  have HAp := Lib.hid hap
  have HAb := Lib.hid hab
  have HL0 := Lib.hid hlen
  have d0 := (B0).cell 0
  have d1 := (B0).cell 1
  have d2 := (B0).cell 2
  have d3 := (B0).cell 3
  have d4 := (B0).cell 4
  have d5 := (B0).cell 5
  have d6 := (B0).cell 6
  have d7 := (B0).cell 7
  have d8 := (B0).cell 8
  have d9 := (B0).cell 9
  simp only [List.getElem?_toArray, List.getElem?_cons_zero, List.getElem?_cons_succ] at d0 d1 d2 d3 d4 d5 d6 d7 d8 d9
  clear hW hLd hcs hps hbs hxs hxl hac hap hab hlen a0 B0
  go_enter Tryz.func10, Tryz.ntmps10
  go_wp2_with fail
  refine (HSp.out).mono ?_
  rintro e w1 hr
  obtain ⟨E, hE⟩ : ∃ E, splE k o wd lp ls m ro cs ps bs d xs = E := ⟨_, rfl⟩
  by_cases h0 : E = 0
  · subst h0
    obtain ⟨A1, n1, c1, A2, n2, c2, rfl, hp1, hp2, hf1, hf2⟩ := hr.good hE
    obtain ⟨hz1, hz2, hz3, _, _⟩ := splE_zero hE
    obtain ⟨hk0, hk4, hw0, hwd, hol, hom, _⟩ := ckPl_zero hz2
    have hd : 4 ≤ d ∧ d ≤ 33 := by
      unfold ckBlk at hz1
      split at hz1
      · cases hz1
      · omega
    have hko : 0 ≤ o ∧ kC k.toNat + o < 64 := by
      obtain rfl | rfl | rfl | rfl : k = 0 ∨ k = 1 ∨ k = 2 ∨ k = 3 := by omega
      · have e1 : kL (0 : Int).toNat = 0 := rfl
        have e2 : kM (0 : Int).toNat = 0 := rfl
        have e3 : kC (0 : Int).toNat = 0 := rfl
        omega
      · have e1 : kL (1 : Int).toNat = 0 := rfl
        have e2 : kM (1 : Int).toNat = 0 := rfl
        have e3 : kC (1 : Int).toNat = 1 := rfl
        omega
      · have e1 : kL (2 : Int).toNat = 0 := rfl
        have e2 : kM (2 : Int).toNat = 4 := rfl
        have e3 : kC (2 : Int).toNat = 8 := rfl
        omega
      · have e1 : kL (3 : Int).toNat = 1 := rfl
        have e2 : kM (3 : Int).toNat = 32 := rfl
        have e3 : kC (3 : Int).toNat = 31 := rfl
        omega
    obtain ⟨hoo, hko⟩ := hko
    obtain ⟨D, rfl⟩ := Int.eq_ofNat_of_zero_le (show 0 ≤ d by omega)
    obtain ⟨W, rfl⟩ := Int.eq_ofNat_of_zero_le hw0
    obtain ⟨O, rfl⟩ := Int.eq_ofNat_of_zero_le hoo
    have HO1 := Lib.hid (HA.out.trans hr.only)
    have HB1 := Lib.hid (HB.out.only hr.only (fun e => e))
    have hW1 := HWr.out.nix HO1.out
    have H1 := Lib.hid hW1.to
    have HLd1 := Lib.hid (fun u (hu : Only (WF b v) w1 u) => HLd.out u (HO1.out.nix.trans hu))
    have HC1 := Lib.hid (HCs.out.nix HO1.out)
    have HP1 := Lib.hid (HPs.out.nix HO1.out)
    have HS1 := Lib.hid (HBs.out.nix HO1.out)
    have hsz : w.heap.size ≤ Wa.heap.size := HA.out.size
    have HX1 := Lib.hid hp1
    have HX2 := Lib.hid hp2
    have HA1 : Hid (Apart (.slice A1 n1 c1) b v) := Lib.hid (apart_above HWr.out hsz hf1)
    have HA2 : Hid (Apart (.slice A2 n2 c2) b v) := Lib.hid (apart_above HWr.out hsz hf2)
    have HFin : Hid (∀ w', WrTo w1 b v (L ++ chB k O W lp ls m ro cs ps bs D xs) w' → WrtR b v L (splE k O W lp ls m ro cs ps bs D xs) (chB k O W lp ls m ro cs ps bs D xs) w (.returned (iv 0)) w') := Lib.hid (fun w' h => ⟨by rw [hE], fun h => absurd hE h, fun _ => WrTo.of HO1.out.nix (Moves.refl _ _) h⟩)
    have HFine := Lib.hid (fun (h : 2 ≤ k) => splE_fine hE h)
    have hwD : W < D := by omega
    have hD33 : D ≤ 33 := by omega
    have HQ : Hid (∀ x ∈ (xs.map (dvd W)).take (plM k O xs.length).toNat, isS (D - W) x) := Lib.hid (fun x hx => by
      obtain ⟨y, hy, rfl⟩ := List.mem_map.1 (List.mem_of_mem_take hx)
      exact isS_dvd hwD (hz3 y hy))
    simp only [Int.toNat_natCast] at HX1 HFine
    have HPl : Hid (∀ PL, (xs.map (dvd W)).take (plM k O xs.length).toNat = PL → chB k O W lp ls m ro cs ps bs D xs = headB (kC k.toNat + O).toNat W ++ (PL.flatMap (numB (D - W)) ++ ((if k = 3 then linB lp.toNat ls cs else []) ++
    (if 2 ≤ k then blockB (xs.length / 2 ^ ro.toNat) O (2 ^ ro.toNat) m.toNat ro.toNat ps bs (splV k O W lp ls cs xs) else [])))) := Lib.hid (fun PL h => by unfold chB; rw [Int.toNat_natCast, Int.toNat_natCast, h, show ((D : Int) - (W : Int)).toNat = D - W by omega])
    obtain ⟨PL, hPL⟩ : ∃ PL, (xs.map (dvd W)).take (plM k O xs.length).toNat = PL := ⟨_, rfl⟩
    rw [hPL] at HX1 HQ
    have HPLl : Hid (PL.length ≤ 1000) := Lib.hid (by rw [← hPL, List.length_take, List.length_map, ← Hxl.out]; omega)
    have HCh := Lib.hid (HPl.out PL hPL)
    have HHd := Lib.hid (writeHead_any H1.out (by have := HL0.out; omega) HLd1.out k O W lp ls (.slice Ac nc cc) m ro (.slice Ap np cp) (.slice Ab nb cb) hk0 hk4 hko (by omega) rfl rfl rfl)
    have hHl : ∀ C, (headB C W).length ≤ 60 := fun C => by
      unfold headB wasB
      split <;> simp [bitsN_len] <;> omega
    have HHl := Lib.hid (hHl (kC k.toNat + O).toNat)
    generalize headB (kC k.toNat + O).toNat W = HH at *
    have hdw : (D : Int) - (W : Int) = ((D - W : Nat) : Int) := by omega
    obtain ⟨N, hN⟩ : ∃ N, D - W = N := ⟨_, rfl⟩
    have hN33 : N ≤ 33 := by omega
    rw [hN] at hdw HQ HCh
    have Hk4 : Hid (k < 4) := Lib.hid hk4
    have p0 := (HB1.out).cell 0
    have p1 := (HB1.out).cell 1
    have p2 := (HB1.out).cell 2
    have p3 := (HB1.out).cell 3
    have p4 := (HB1.out).cell 4
    have p5 := (HB1.out).cell 5
    have p6 := (HB1.out).cell 6
    have p7 := (HB1.out).cell 7
    have p8 := (HB1.out).cell 8
    have p9 := (HB1.out).cell 9
    simp only [List.getElem?_toArray, List.getElem?_cons_zero, List.getElem?_cons_succ] at p0 p1 p2 p3 p4 p5 p6 p7 p8 p9
    clear hr hE hz1 hz2 hz3 hk0 hk4 hw0 hwd hol hom hd hko hoo hp1 hp2 hf1 hf2 hW1 hsz hPL HPl hHl hN hwD hD33 HSp d0 d1 d2 d3 d4 d5 d6 d7 d8 d9
    go_wp2_with fail
    refine (HHd.out).mono ?_
    rintro e w2 ⟨rfl, h2, k2⟩
    have HB2 := Lib.hid (k2 _ _ _ (by decide) HB1.out)
    have HBk := Lib.hid (fun u (hk : KeepB w2 u) => hk _ _ _ (by decide) HB2.out)
    have H2 := Lib.hid h2
    have HLl : Hid (∀ j, (L ++ HH ++ (PL.take j).flatMap (numB N)).length ≤ 2000000) := Lib.hid (fun j => by
      have h3 := numsB_take N PL j
      have h4 : N * PL.length ≤ 33 * 1000 := Nat.mul_le_mul hN33 HPLl.out
      have h5 := HL0.out
      have h6 := HHl.out
      rw [List.length_append, List.length_append]
      omega)
    clear h2 k2 HHd p0 p1 p2 p3 p4 p5 p6 p7 p8 p9
    have hn1 := HX1.out.len
    have Hn1 := Lib.hid hn1
    clear hn1
    have hn1s : n1 ≤ 1000 := by rw [Hn1.out]; exact HPLl.out
    go_wp2
    go_loopw [32] (fun s wr => PlP w1 w2 b v (L ++ HH) N PL s wr) (fun s _ => n1 - (intOf s).toNat)
    case atStart => exact ⟨0, Nat.zero_le _, rfl, by simpa using H2.out, KeepB.refl _⟩
    case round =>
      obtain ⟨j, hj, rfl, hw, hk⟩ := hrel
      rw [← Hn1.out] at hj
      have hB := HBk.out wr hk
      have q0 := (hB).cell 0
      have q1 := (hB).cell 1
      have q2 := (hB).cell 2
      have q3 := (hB).cell 3
      have q4 := (hB).cell 4
      have q5 := (hB).cell 5
      have q6 := (hB).cell 6
      have q7 := (hB).cell 7
      have q8 := (hB).cell 8
      have q9 := (hB).cell 9
      simp only [List.getElem?_toArray, List.getElem?_cons_zero, List.getElem?_cons_succ] at q0 q1 q2 q3 q4 q5 q6 q7 q8 q9
      have HKr := Lib.hid hk
      have HWr2 := Lib.hid hw
      clear hB hk hw
      by_cases hlt : j < n1
      · have hltx : j < PL.length := by rw [← Hn1.out]; exact hlt
        obtain ⟨ad, rfl, hxj⟩ := (HX1.out.wr HWr2.out.only HA1.out).at_ hltx
        have hlt2 : (j : Int) < (n1 : Int) := by omega
        have hfit := HX1.out.fits _ (List.getElem_mem hltx)
        have HE := Lib.hid (List.take_succ_eq_append_getElem hltx)
        have HS := Lib.hid (sgn_to HWr2.out (by have := HLl.out j; omega) N PL[j] (by omega) (HQ.out _ (List.getElem_mem hltx)))
        generalize PL[j] = x at *
        clear hltx
        go_wp2_with fail
        refine (HS.out).mono ?_
        rintro e w4 ⟨rfl, h4, k4⟩
        have H4 := Lib.hid h4
        have K4 := Lib.hid k4
        clear h4 k4
        go_wp2
        go_roundw
        case rel =>
          refine ⟨j + 1, by rw [← Hn1.out]; omega, by go_num, ?_, HKr.out.trans K4.out⟩
          have := H4.out
          rw [List.append_assoc] at this
          rw [HE.out, List.flatMap_append, List.flatMap_singleton]
          exact this
        case measure => simp [intOf]; omega
      · have ht : PL.take j = PL := List.take_of_length_le (by rw [← Hn1.out]; omega)
        rw [ht] at HWr2
        have HLe := HLl.out PL.length
        rw [List.take_length] at HLe
        have HLe := Lib.hid HLe
        clear ht
        by_cases hk3 : k = 3
        · subst hk3
          obtain ⟨m', ro', O', rfl, rfl, eO, hF, hvl, hok, hcl, _⟩ := HFine.out (by decide)
          obtain rfl : O = O' := by omega
          have HFn := Lib.hid hF
          have HLn := Lib.hid (writeLinear_any HWr2.out (by have := HLe.out; omega) lp ls Ac nc cc cs HC1.out HAc.out hok)
          have hlp : (linB lp.toNat ls cs).length ≤ 600 := by
            have h1 := hok.1
            have h2 : lp.toNat ≤ 15 := by
              have : (tP 3 lp) = lp := rfl
              omega
            have h3 : cs.length ≤ 32 := h1.1
            have h4 : lp.toNat * cs.length ≤ 15 * 32 := Nat.mul_le_mul h2 h3
            unfold linB
            rw [List.length_append, List.length_append, bitsN_len, numB_len, numsB_len]
            omega
          have HLp := Lib.hid hlp
          clear hF hvl hok hcl eO HFine hlp
          go_wp2_with fail
          refine (HLn.out).mono ?_
          rintro e w4 ⟨rfl, h4, k4⟩
          have hB4 := HBk.out w4 (HKr.out.trans k4)
          have r0 := (hB4).cell 0
          have r1 := (hB4).cell 1
          have r2 := (hB4).cell 2
          have r3 := (hB4).cell 3
          have r4 := (hB4).cell 4
          have r5 := (hB4).cell 5
          have r6 := (hB4).cell 6
          have r7 := (hB4).cell 7
          have r8 := (hB4).cell 8
          have r9 := (hB4).cell 9
          simp only [List.getElem?_toArray, List.getElem?_cons_zero, List.getElem?_cons_succ] at r0 r1 r2 r3 r4 r5 r6 r7 r8 r9
          have HRi := Lib.hid (rice_to h4 m' ro' O (2 ^ ro') (xs.length / 2 ^ ro') c2 n2 (splV 3 O W lp ls cs xs) A2 Ap Ab np nb cp cb ps bs HFn.out HX2.out HP1.out HS1.out HA2.out HAp.out HAb.out (by have := HLe.out; have := HLp.out; rw [List.length_append]; omega))
          clear hB4 h4 k4 HLn
          go_wp2_with fail
          refine (HRi.out).mono ?_
          rintro e w5 ⟨rfl, h5, _⟩
          have HF := Lib.hid (HFin.out w5 (by
            rw [HCh.out]
            simpa [List.append_assoc] using h5))
          clear h5 HRi
          go_wp2
          go_ret
          exact HF.out
        · have hk3b : (k == 3) = false := by simpa using hk3
          by_cases hk2 : k = 2
          · subst hk2
            obtain ⟨m', ro', O', rfl, rfl, eO, hF, hvl, hok, hcl, _⟩ := HFine.out (by decide)
            obtain rfl : O = O' := by omega
            have HRi := Lib.hid (rice_to HWr2.out m' ro' O (2 ^ ro') (xs.length / 2 ^ ro') c2 n2 (splV 2 O W lp ls cs xs) A2 Ap Ab np nb cp cb ps bs hF HX2.out HP1.out HS1.out HA2.out HAp.out HAb.out (by have := HLe.out; omega))
            clear hF hvl hok hcl eO HFine
            go_wp2_with fail
            refine (HRi.out).mono ?_
            rintro e w5 ⟨rfl, h5, _⟩
            have HF := Lib.hid (HFin.out w5 (by
              rw [HCh.out]
              simpa [List.append_assoc] using h5))
            clear h5 HRi
            go_wp2
            go_ret
            exact HF.out
          · have hk2b : (k == 2) = false := by simpa using hk2
            have hlt2 : ¬ 2 ≤ k := by have := Hk4.out; omega
            have HF := Lib.hid (HFin.out wr (by
              rw [HCh.out, if_neg hk3, if_neg hlt2]
              simpa [List.append_assoc] using HWr2.out))
            clear hlt2 hk2 hk3
            go_wp2
            go_ret
            exact HF.out
  · have hb := hr.bad (fun h => h0 (hE.symm.trans h))
    rw [hE] at hb
    subst hb
    have HO := Lib.hid (HA.out.trans hr.only)
    have h0b : (E != 0) = true := by simpa using h0
    have HF : Hid (WrtR b v L (splE k o wd lp ls m ro cs ps bs d xs) (chB k o wd lp ls m ro cs ps bs d xs) w (.returned (iv E)) w1) := Lib.hid ⟨by rw [hE], fun _ => HO.out, fun h => absurd (hE.symm.trans h) h0⟩
    clear hr hE h0
    go_wp2
    go_ret
    exact HF.out
end Go.Proofs.YteklfkpeaadinaaGreatDoor.S
