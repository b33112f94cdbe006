/-
  readParting.
-/
import Derived.Test.YteklfkpeaadinaaGreatDoorPBG07
namespace Go.Proofs.YteklfkpeaadinaaGreatDoor
open Go.RowKit

/-- what stands ahead of the parts is right -/
def HdOk (bs : List Nat) (a b s m o : Nat) : Prop :=
  takeE bs a 2 = 0 ∧ m = numAt bs a 2 ∧ m < 2 ∧ takeE bs (a + 2) 4 = 0 ∧ o = numAt bs (a + 2) 4 ∧ ckP o b s = 0
abbrev plan0 : Value := .agg #[iv 0, iv 0, .slice none 0 0, .slice none 0 0]
/-- what readParting leaves -/
def HPost (w : World) (r : Nat) (v : Value) (bs : List Nat) (a b s : Nat) (e : Ending) (w' : World) : Prop :=
  (∃ (E : Int) (a' : Nat), e = .returned (.tuple #[plan0, iv E]) ∧ (E = 11 ∨ E = 12 ∨ E = 13) ∧ Rd w' r v bs a' ∧ Only (Just r) w w' ∧ ∀ m o, ¬ HdOk bs a b s m o) ∨
  (∃ (m o gp gb : Nat), e = .returned (.tuple #[planV m o (.slice (some ⟨gp, 0, none⟩) (2 ^ o) (2 ^ o)) (.slice (some ⟨gb, 0, none⟩) (2 ^ o) (2 ^ o)), iv 0]) ∧ HdOk bs a b s m o ∧ gp ≠ gb ∧ w.heap.size ≤ gp ∧ w.heap.size ≤ gb ∧
    Box w' gp 3 (List.replicate (2 ^ o) (iv 0)).toArray ∧ Box w' gb 3 (List.replicate (2 ^ o) (iv 0)).toArray ∧ Rd w' r v bs (a + 6) ∧ Only (Just r) w w')
theorem takeR_ok {bs : List Nat} {a n : Nat} (h : takeE bs a (n : Int) = 0) : takeR bs a (n : Int) = (numAt bs a n : Int) ∧ takeA bs a (n : Int) = a + n := by
  obtain ⟨q, e1, _, _, e2, e3⟩ := takeR_pos h
  obtain rfl : n = q := by omega
  exact ⟨e2, e3⟩
theorem plan_put {u : World} {N : Nat} {x0 x1 x2 x3 : Value} (b : Box u N 26 #[x0, x1, x2, x3]) (y0 y1 y2 y3 : Value) :
    Box ((((u.setCell ⟨N, 0, none⟩ y0).setCell ⟨N, 1, none⟩ y1).setCell ⟨N, 2, none⟩ y2).setCell ⟨N, 3, none⟩ y3) N 26 #[y0, y1, y2, y3] :=
  (((b.put 0 y0).put 1 y1).put 2 y2).put 3 y3
theorem plan_only {F : Nat → Prop} {w u : World} {N : Nat} (ho : Only F w u) (hN : F N ∨ w.heap.size ≤ N) (y0 y1 y2 y3 : Value) :
    Only F w ((((u.setCell ⟨N, 0, none⟩ y0).setCell ⟨N, 1, none⟩ y1).setCell ⟨N, 2, none⟩ y2).setCell ⟨N, 3, none⟩ y3) :=
  (((ho.setCell (p := ⟨N, 0, none⟩) hN y0).setCell (p := ⟨N, 1, none⟩) hN y1).setCell (p := ⟨N, 2, none⟩) hN y2).setCell (p := ⟨N, 3, none⟩) hN y3
theorem plan_rd {u : World} {N r : Nat} {v : Value} {bs : List Nat} {a' : Nat} {x0 x1 x2 x3 : Value} (b : Box u N 26 #[x0, x1, x2, x3]) (hR : Rd u r v bs a') (hr : N ≠ r) (y0 y1 y2 y3 : Value) :
    Rd ((((u.setCell ⟨N, 0, none⟩ y0).setCell ⟨N, 1, none⟩ y1).setCell ⟨N, 2, none⟩ y2).setCell ⟨N, 3, none⟩ y3) r v bs a' :=
  hR.keep (plan_only (Only.refl (Just N) u) (.inl rfl) y0 y1 y2 y3) (fun e => hr e.symm) (fun q hq e => owns_box hR.own b (by decide) (by rw [hq]; exact congrArg some e))
theorem plan_off {u : World} {N k : Nat} {t : TypeId} {cs : Array Value} (h : Box u k t cs) (hk : k ≠ N) (y0 y1 y2 y3 : Value) :
    Box ((((u.setCell ⟨N, 0, none⟩ y0).setCell ⟨N, 1, none⟩ y1).setCell ⟨N, 2, none⟩ y2).setCell ⟨N, 3, none⟩ y3) k t cs :=
  (((h.off (p := ⟨N, 0, none⟩) hk y0).off (p := ⟨N, 1, none⟩) hk y1).off (p := ⟨N, 2, none⟩) hk y2).off (p := ⟨N, 3, none⟩) hk y3
set_option maxRecDepth 100000 in
set_option maxHeartbeats 2000000 in
theorem readParting_any {w : World} {r : Nat} {v : Value} {bs : List Nat} {a : Nat} (hR : Rd w r v bs a) (b s : Nat) (hb : b ≤ 65535) :
    Calls Tryz.prog 127 #[.pointer (some ⟨r, 0, none⟩), iv b, iv s] w fun e w' => HPost w r v bs a b s e w' := by
  have hrw := hR.mem
  obtain ⟨Wa, hWa⟩ : ∃ Wa, w.alloc (.cells #[iv 0, iv 0, .slice none 0 0, .slice none 0 0] 26) = Wa := ⟨_, rfl⟩
  have a0 := (Only.refl Nix w).alloc (.cells #[iv 0, iv 0, .slice none 0 0, .slice none 0 0] 26)
  have B0 := Lib.hid (Box.new w 26 #[iv 0, iv 0, .slice none 0 0, .slice none 0 0])
  rw [hWa] at a0 B0
  have hnr : w.heap.size ≠ r := by omega
  have HT2 := Lib.hid (take_any (hR.nix a0) (2 : Int))
  have H2c := Lib.hid (takeE_cases bs a 2 (by omega))
  have H2p : Hid (takeE bs a 2 = 0 → takeR bs a 2 = (numAt bs a 2 : Int) ∧ takeA bs a 2 = a + 2) := Lib.hid (takeR_ok (n := 2))
  obtain ⟨E2, hE2⟩ : ∃ x, takeE bs a 2 = x := ⟨_, rfl⟩
  obtain ⟨R2, hR2⟩ : ∃ x, takeR bs a 2 = x := ⟨_, rfl⟩
  obtain ⟨A2, hA2⟩ : ∃ x, takeA bs a 2 = x := ⟨_, rfl⟩
  rw [hE2, hR2, hA2] at HT2
  rw [show ((2 : Nat) : Int) = 2 from rfl, hE2] at H2c
  rw [hE2, hR2, hA2] at H2p
  have HE2 := Lib.hid hE2
  have HA0 := Lib.hid a0
  clear hE2 hR2 hA2 a0 hR
  by_cases h2 : E2 = 0
  · subst h2
    obtain ⟨e1, e2⟩ := H2p.out rfl
    obtain ⟨mN, hmN⟩ : ∃ x, numAt bs a 2 = x := ⟨_, rfl⟩
    rw [hmN] at e1
    subst e1
    obtain ⟨a2, ha2⟩ : ∃ x, a + 2 = x := ⟨_, rfl⟩
    rw [ha2] at e2
    have e2' := e2.symm
    clear e2
    subst e2'
    have HmN := Lib.hid hmN
    have Ha2 := Lib.hid ha2
    clear hmN ha2 H2p H2c
    by_cases hm2 : 2 ≤ mN
    · have hm3 : (2 : Int) ≤ (mN : Int) := by omega
      go_enter Tryz.func127, Tryz.ntmps127
      go_wp2_with fail
      refine (HT2.out).mono ?_
      rintro e w1 ⟨rfl, hR1, ho1⟩
      have B1 := Lib.hid (B0.out.only ho1 (fun e => hnr e))
      have HR1 := Lib.hid hR1
      have HO1 := Lib.hid ((HA0.out.nix (F := Just r)).trans ho1)
      clear hR1 ho1
      have d0 := B1.out.cell 0
      have d1 := B1.out.cell 1
      have d2 := B1.out.cell 2
      have d3 := B1.out.cell 3
      simp only [List.getElem?_toArray, List.getElem?_cons_zero, List.getElem?_cons_succ] at d0 d1 d2 d3
      have f0 := B1.out.frozen 0
      have f1 := B1.out.frozen 1
      have f2 := B1.out.frozen 2
      have f3 := B1.out.frozen 3
      have y := plan_put B1.out (iv 0) (iv 0) (.slice none 0 0) (.slice none 0 0)
      have y0 := y.cell 0
      have y1 := y.cell 1
      have y2 := y.cell 2
      have y3 := y.cell 3
      simp only [List.getElem?_toArray, List.getElem?_cons_zero, List.getElem?_cons_succ] at y0 y1 y2 y3
      have Z1 := Lib.hid (plan_rd B1.out HR1.out hnr (iv 0) (iv 0) (.slice none 0 0) (.slice none 0 0))
      have Z2 := Lib.hid (plan_only HO1.out (.inr (Nat.le_refl _)) (iv 0) (iv 0) (.slice none 0 0) (.slice none 0 0))
      clear y
      go_wp2
      refine bodyPost_ret (v := .tuple #[plan0, iv 13]) ?_ rfl ?_
      · simp [results, Tryz.f127, go_sem, y0, y1, y2, y3]
      refine .inl ⟨13, _, rfl, by decide, Z1.out, Z2.out, ?_⟩
      rintro m' o' ⟨h1, h2, h3, h4, h5, h6⟩
      rw [HmN.out] at h2
      omega
    · have hm3 : ¬ ((2 : Int) ≤ (mN : Int)) := by omega
      have HT4 : Hid (∀ u, Rd u r v bs a2 → Calls Tryz.prog 103 #[.pointer (some ⟨r, 0, none⟩), iv 4] u fun e w' => e = two (takeR bs a2 4) (takeE bs a2 4) ∧ Rd w' r v bs (takeA bs a2 4) ∧ Only (Just r) u w') := Lib.hid (fun u hu => take_any hu 4)
      have H4c := Lib.hid (takeE_cases bs a2 4 (by omega))
      have H4p : Hid (takeE bs a2 4 = 0 → takeR bs a2 4 = (numAt bs a2 4 : Int) ∧ takeA bs a2 4 = a2 + 4) := Lib.hid (takeR_ok (n := 4))
      obtain ⟨E4, hE4⟩ : ∃ x, takeE bs a2 4 = x := ⟨_, rfl⟩
      obtain ⟨R4, hR4⟩ : ∃ x, takeR bs a2 4 = x := ⟨_, rfl⟩
      obtain ⟨A4, hA4⟩ : ∃ x, takeA bs a2 4 = x := ⟨_, rfl⟩
      rw [hE4, hR4, hA4] at HT4
      rw [show ((4 : Nat) : Int) = 4 from rfl, hE4] at H4c
      rw [hE4, hR4, hA4] at H4p
      have HE4 := Lib.hid hE4
      clear hE4 hR4 hA4
      by_cases h4 : E4 = 0
      · subst h4
        obtain ⟨e1, e2⟩ := H4p.out rfl
        obtain ⟨oN, hoN⟩ : ∃ x, numAt bs a2 4 = x := ⟨_, rfl⟩
        rw [hoN] at e1
        subst e1
        obtain ⟨a6, ha6⟩ : ∃ x, a2 + 4 = x := ⟨_, rfl⟩
        rw [ha6] at e2
        have e2' := e2.symm
        clear e2
        subst e2'
        have hol := numAt_lt bs a2 4
        rw [hoN] at hol
        have ho15 : oN ≤ 15 := by
          have : (2 : Nat) ^ 4 = 16 := by decide
          omega
        have HoN := Lib.hid hoN
        have Ha6 := Lib.hid ha6
        clear hoN ha6 H4p H4c hol
        have HCp : ∀ u, Hid (Calls Tryz.prog 117 #[iv oN, iv b, iv s] u fun e w' => e = .returned (iv (ckP oN b s)) ∧ u = w') := fun u => Lib.hid (checkParting_any u oN b s ho15 hb)
        by_cases hck : ckP oN b s = 0
        · rw [hck] at HCp
          have Hck := Lib.hid hck
          clear hck
          go_enter Tryz.func127, Tryz.ntmps127
          go_wp2_with fail
          refine (HT2.out).mono ?_
          rintro e w1 ⟨rfl, hR1, ho1⟩
          have B1 := Lib.hid (B0.out.only ho1 (fun e => hnr e))
          have HR1 := Lib.hid hR1
          have HO1 := Lib.hid ((HA0.out.nix (F := Just r)).trans ho1)
          have HT4b := Lib.hid (HT4.out w1 hR1)
          clear hR1 ho1
          go_wp2_with fail
          refine (HT4b.out).mono ?_
          rintro e w2 ⟨rfl, hR2, ho2⟩
          have B2 := Lib.hid (B1.out.only ho2 (fun e => hnr e))
          have HR2 := Lib.hid hR2
          have HO2 := Lib.hid (HO1.out.trans ho2)
          have HC2 := HCp w2
          clear hR2 ho2 HCp
          go_wp2_with fail
          refine (HC2.out).mono ?_
          rintro e w3 ⟨rfl, rfl⟩
          obtain ⟨P, hP⟩ : ∃ P : Nat, Hid (2 ^ oN = P) := ⟨_, Lib.hid rfl⟩
          have hP2 : P ≤ 32768 := by rw [← hP.out]; exact Nat.pow_le_pow_right (by decide) ho15
          have hpw : (2 : Int) ^ oN = (P : Int) := by rw [pow_cast, hP.out]
          have hmk := fun (u : World) => run_make_row' (P := Tryz.prog) 22 3 (.int .i64 0) 8 Tryz.underlying22 Tryz.info_int rfl .i64 .i64 P (by omega) (by omega) u
          simp only [made_ints] at hmk
          have d0 := B2.out.cell 0
          have d1 := B2.out.cell 1
          have d2 := B2.out.cell 2
          have d3 := B2.out.cell 3
          simp only [List.getElem?_toArray, List.getElem?_cons_zero, List.getElem?_cons_succ] at d0 d1 d2 d3
          have f0 := B2.out.frozen 0
          have f1 := B2.out.frozen 1
          have f2 := B2.out.frozen 2
          have f3 := B2.out.frozen 3
          have hlt2 := B2.out.lt
          generalize hCS : (List.replicate P (iv 0)).toArray = CS at *
          go_wp2
          go_region
          · have y := ((((plan_put B2.out (iv mN) (iv oN) (.slice (some ⟨w2.heap.size, 0, none⟩) P P) (.slice (some ⟨w2.heap.size + 1, 0, none⟩) P P)).alloc (.cells CS 3)).alloc (.cells CS 3)).drew)
            have y0 := y.cell 0
            have y1 := y.cell 1
            have y2 := y.cell 2
            have y3 := y.cell 3
            simp only [List.getElem?_toArray, List.getElem?_cons_zero, List.getElem?_cons_succ] at y0 y1 y2 y3
            have Z1 := Lib.hid ((((plan_rd B2.out HR2.out hnr (iv mN) (iv oN) (.slice (some ⟨w2.heap.size, 0, none⟩) P P) (.slice (some ⟨w2.heap.size + 1, 0, none⟩) P P)).alloc (.cells CS 3)).alloc (.cells CS 3)).nix (Only.refl Nix _ |>.drew))
            have Z2 := Lib.hid ((((plan_only HO2.out (.inr (Nat.le_refl _)) (iv mN) (iv oN) (.slice (some ⟨w2.heap.size, 0, none⟩) P P) (.slice (some ⟨w2.heap.size + 1, 0, none⟩) P P)).alloc (.cells CS 3)).alloc (.cells CS 3)).drew)
            have n1 := ((Box.new ((((w2.setCell ⟨w.heap.size, 0, none⟩ (iv mN)).setCell ⟨w.heap.size, 1, none⟩ (iv oN)).setCell ⟨w.heap.size, 2, none⟩ (.slice (some ⟨w2.heap.size, 0, none⟩) P P)).setCell ⟨w.heap.size, 3, none⟩ (.slice (some ⟨w2.heap.size + 1, 0, none⟩) P P)) 3 CS).alloc (.cells CS 3)).drew
            have n2 := (Box.new (((((w2.setCell ⟨w.heap.size, 0, none⟩ (iv mN)).setCell ⟨w.heap.size, 1, none⟩ (iv oN)).setCell ⟨w.heap.size, 2, none⟩ (.slice (some ⟨w2.heap.size, 0, none⟩) P P)).setCell ⟨w.heap.size, 3, none⟩ (.slice (some ⟨w2.heap.size + 1, 0, none⟩) P P)).alloc (.cells CS 3)) 3 CS).drew
            rw [World.size_alloc] at n2
            rw [show ((((w2.setCell ⟨w.heap.size, 0, none⟩ (iv mN)).setCell ⟨w.heap.size, 1, none⟩ (iv oN)).setCell ⟨w.heap.size, 2, none⟩ (.slice (some ⟨w2.heap.size, 0, none⟩) P P)).setCell ⟨w.heap.size, 3, none⟩ (.slice (some ⟨w2.heap.size + 1, 0, none⟩) P P)).heap.size = w2.heap.size from by simp [World.setCell]] at n1 n2
            have N1 := Lib.hid n1
            have N2 := Lib.hid n2
            clear y n1 n2
            go_wp2
            refine bodyPost_ret (v := .tuple #[planV mN oN (.slice (some ⟨w2.heap.size, 0, none⟩) P P) (.slice (some ⟨w2.heap.size + 1, 0, none⟩) P P), iv 0]) ?_ rfl ?_
            · simp [results, Tryz.f127, go_sem, y0, y1, y2, y3]
            refine .inr ⟨mN, oN, w2.heap.size, w2.heap.size + 1, by rw [hP.out], ⟨HE2.out, HmN.out.symm, by omega, by rw [Ha2.out]; exact HE4.out, by rw [Ha2.out]; exact HoN.out.symm, Hck.out⟩, by omega, by omega, by omega, ?_, ?_, ?_, Z2.out⟩
            · rw [hP.out, hCS]; exact N1.out
            · rw [hP.out, hCS]; exact N2.out
            · rw [show a + 6 = a6 from by rw [← Ha6.out, ← Ha2.out]]; exact Z1.out
          · have y := ((((plan_put B2.out (iv mN) (iv oN) (.slice (some ⟨w2.heap.size + 1, 0, none⟩) P P) (.slice (some ⟨w2.heap.size, 0, none⟩) P P)).alloc (.cells CS 3)).alloc (.cells CS 3)).drew)
            have y0 := y.cell 0
            have y1 := y.cell 1
            have y2 := y.cell 2
            have y3 := y.cell 3
            simp only [List.getElem?_toArray, List.getElem?_cons_zero, List.getElem?_cons_succ] at y0 y1 y2 y3
            have Z1 := Lib.hid ((((plan_rd B2.out HR2.out hnr (iv mN) (iv oN) (.slice (some ⟨w2.heap.size + 1, 0, none⟩) P P) (.slice (some ⟨w2.heap.size, 0, none⟩) P P)).alloc (.cells CS 3)).alloc (.cells CS 3)).nix (Only.refl Nix _ |>.drew))
            have Z2 := Lib.hid ((((plan_only HO2.out (.inr (Nat.le_refl _)) (iv mN) (iv oN) (.slice (some ⟨w2.heap.size + 1, 0, none⟩) P P) (.slice (some ⟨w2.heap.size, 0, none⟩) P P)).alloc (.cells CS 3)).alloc (.cells CS 3)).drew)
            have n1 := ((Box.new ((((w2.setCell ⟨w.heap.size, 0, none⟩ (iv mN)).setCell ⟨w.heap.size, 1, none⟩ (iv oN)).setCell ⟨w.heap.size, 2, none⟩ (.slice (some ⟨w2.heap.size + 1, 0, none⟩) P P)).setCell ⟨w.heap.size, 3, none⟩ (.slice (some ⟨w2.heap.size, 0, none⟩) P P)) 3 CS).alloc (.cells CS 3)).drew
            have n2 := (Box.new (((((w2.setCell ⟨w.heap.size, 0, none⟩ (iv mN)).setCell ⟨w.heap.size, 1, none⟩ (iv oN)).setCell ⟨w.heap.size, 2, none⟩ (.slice (some ⟨w2.heap.size + 1, 0, none⟩) P P)).setCell ⟨w.heap.size, 3, none⟩ (.slice (some ⟨w2.heap.size, 0, none⟩) P P)).alloc (.cells CS 3)) 3 CS).drew
            rw [World.size_alloc] at n2
            rw [show ((((w2.setCell ⟨w.heap.size, 0, none⟩ (iv mN)).setCell ⟨w.heap.size, 1, none⟩ (iv oN)).setCell ⟨w.heap.size, 2, none⟩ (.slice (some ⟨w2.heap.size + 1, 0, none⟩) P P)).setCell ⟨w.heap.size, 3, none⟩ (.slice (some ⟨w2.heap.size, 0, none⟩) P P)).heap.size = w2.heap.size from by simp [World.setCell]] at n1 n2
            have N1 := Lib.hid n1
            have N2 := Lib.hid n2
            clear y n1 n2
            go_wp2
            refine bodyPost_ret (v := .tuple #[planV mN oN (.slice (some ⟨w2.heap.size + 1, 0, none⟩) P P) (.slice (some ⟨w2.heap.size, 0, none⟩) P P), iv 0]) ?_ rfl ?_
            · simp [results, Tryz.f127, go_sem, y0, y1, y2, y3]
            refine .inr ⟨mN, oN, w2.heap.size + 1, w2.heap.size, by rw [hP.out], ⟨HE2.out, HmN.out.symm, by omega, by rw [Ha2.out]; exact HE4.out, by rw [Ha2.out]; exact HoN.out.symm, Hck.out⟩, by omega, by omega, by omega, ?_, ?_, ?_, Z2.out⟩
            · rw [hP.out, hCS]; exact N2.out
            · rw [hP.out, hCS]; exact N1.out
            · rw [show a + 6 = a6 from by rw [← Ha6.out, ← Ha2.out]]; exact Z1.out
        · have h12 : ckP oN b s = 12 := by
            unfold ckP at hck ⊢
            split
            · rfl
            · rename_i hh; rw [if_neg hh] at hck; exact absurd rfl hck
          have Hck := Lib.hid hck
          rw [h12] at HCp
          clear hck h12
          go_enter Tryz.func127, Tryz.ntmps127
          go_wp2_with fail
          refine (HT2.out).mono ?_
          rintro e w1 ⟨rfl, hR1, ho1⟩
          have B1 := Lib.hid (B0.out.only ho1 (fun e => hnr e))
          have HR1 := Lib.hid hR1
          have HO1 := Lib.hid ((HA0.out.nix (F := Just r)).trans ho1)
          have HT4b := Lib.hid (HT4.out w1 hR1)
          clear hR1 ho1
          go_wp2_with fail
          refine (HT4b.out).mono ?_
          rintro e w2 ⟨rfl, hR2, ho2⟩
          have B2 := Lib.hid (B1.out.only ho2 (fun e => hnr e))
          have HR2 := Lib.hid hR2
          have HO2 := Lib.hid (HO1.out.trans ho2)
          have HC2 := HCp w2
          clear hR2 ho2 HCp
          go_wp2_with fail
          refine (HC2.out).mono ?_
          rintro e w3 ⟨rfl, rfl⟩
          have d0 := B2.out.cell 0
          have d1 := B2.out.cell 1
          have d2 := B2.out.cell 2
          have d3 := B2.out.cell 3
          simp only [List.getElem?_toArray, List.getElem?_cons_zero, List.getElem?_cons_succ] at d0 d1 d2 d3
          have f0 := B2.out.frozen 0
          have f1 := B2.out.frozen 1
          have f2 := B2.out.frozen 2
          have f3 := B2.out.frozen 3
          have y := plan_put B2.out (iv 0) (iv 0) (.slice none 0 0) (.slice none 0 0)
          have y0 := y.cell 0
          have y1 := y.cell 1
          have y2 := y.cell 2
          have y3 := y.cell 3
          simp only [List.getElem?_toArray, List.getElem?_cons_zero, List.getElem?_cons_succ] at y0 y1 y2 y3
          have Z1 := Lib.hid (plan_rd B2.out HR2.out hnr (iv 0) (iv 0) (.slice none 0 0) (.slice none 0 0))
          have Z2 := Lib.hid (plan_only HO2.out (.inr (Nat.le_refl _)) (iv 0) (iv 0) (.slice none 0 0) (.slice none 0 0))
          clear y
          go_wp2
          refine bodyPost_ret (v := .tuple #[plan0, iv 12]) ?_ rfl ?_
          · simp [results, Tryz.f127, go_sem, y0, y1, y2, y3]
          refine .inl ⟨12, _, rfl, by decide, Z1.out, Z2.out, ?_⟩
          rintro m' o' ⟨h1, h2, h3, h4, h5, h6⟩
          rw [Ha2.out, HoN.out] at h5
          rw [h5] at h6
          exact Hck.out h6
      · have hb4 : (E4 != 0) = true := by simpa using h4
        have e11 : E4 = 11 := by
          rcases H4c.out with h | h
          · exact absurd h h4
          · exact h
        subst e11
        go_enter Tryz.func127, Tryz.ntmps127
        go_wp2_with fail
        refine (HT2.out).mono ?_
        rintro e w1 ⟨rfl, hR1, ho1⟩
        have B1 := Lib.hid (B0.out.only ho1 (fun e => hnr e))
        have HR1 := Lib.hid hR1
        have HO1 := Lib.hid ((HA0.out.nix (F := Just r)).trans ho1)
        have HT4b := Lib.hid (HT4.out w1 hR1)
        clear hR1 ho1
        go_wp2_with fail
        refine (HT4b.out).mono ?_
        rintro e w2 ⟨rfl, hR2, ho2⟩
        have B2 := Lib.hid (B1.out.only ho2 (fun e => hnr e))
        have HR2 := Lib.hid hR2
        have HO2 := Lib.hid (HO1.out.trans ho2)
        clear hR2 ho2
        have d0 := B2.out.cell 0
        have d1 := B2.out.cell 1
        have d2 := B2.out.cell 2
        have d3 := B2.out.cell 3
        simp only [List.getElem?_toArray, List.getElem?_cons_zero, List.getElem?_cons_succ] at d0 d1 d2 d3
        have f0 := B2.out.frozen 0
        have f1 := B2.out.frozen 1
        have f2 := B2.out.frozen 2
        have f3 := B2.out.frozen 3
        have y := plan_put B2.out (iv 0) (iv 0) (.slice none 0 0) (.slice none 0 0)
        have y0 := y.cell 0
        have y1 := y.cell 1
        have y2 := y.cell 2
        have y3 := y.cell 3
        simp only [List.getElem?_toArray, List.getElem?_cons_zero, List.getElem?_cons_succ] at y0 y1 y2 y3
        have Z1 := Lib.hid (plan_rd B2.out HR2.out hnr (iv 0) (iv 0) (.slice none 0 0) (.slice none 0 0))
        have Z2 := Lib.hid (plan_only HO2.out (.inr (Nat.le_refl _)) (iv 0) (iv 0) (.slice none 0 0) (.slice none 0 0))
        clear y
        go_wp2
        refine bodyPost_ret (v := .tuple #[plan0, iv 11]) ?_ rfl ?_
        · simp [results, Tryz.f127, go_sem, y0, y1, y2, y3]
        refine .inl ⟨11, _, rfl, by decide, Z1.out, Z2.out, ?_⟩
        rintro m' o' ⟨h1, h2, h3, h4, h5, h6⟩
        rw [Ha2.out, HE4.out] at h4
        omega
  · have hb2 : (E2 != 0) = true := by simpa using h2
    have e11 : E2 = 11 := by
      rcases H2c.out with h | h
      · exact absurd h h2
      · exact h
    subst e11
    go_enter Tryz.func127, Tryz.ntmps127
    go_wp2_with fail
    refine (HT2.out).mono ?_
    rintro e w1 ⟨rfl, hR1, ho1⟩
    have B1 := Lib.hid (B0.out.only ho1 (fun e => hnr e))
    have HR1 := Lib.hid hR1
    have HO1 := Lib.hid ((HA0.out.nix (F := Just r)).trans ho1)
    clear hR1 ho1
    have d0 := B1.out.cell 0
    have d1 := B1.out.cell 1
    have d2 := B1.out.cell 2
    have d3 := B1.out.cell 3
    simp only [List.getElem?_toArray, List.getElem?_cons_zero, List.getElem?_cons_succ] at d0 d1 d2 d3
    have f0 := B1.out.frozen 0
    have f1 := B1.out.frozen 1
    have f2 := B1.out.frozen 2
    have f3 := B1.out.frozen 3
    have y := plan_put B1.out (iv 0) (iv 0) (.slice none 0 0) (.slice none 0 0)
    have y0 := y.cell 0
    have y1 := y.cell 1
    have y2 := y.cell 2
    have y3 := y.cell 3
    simp only [List.getElem?_toArray, List.getElem?_cons_zero, List.getElem?_cons_succ] at y0 y1 y2 y3
    have Z1 := Lib.hid (plan_rd B1.out HR1.out hnr (iv 0) (iv 0) (.slice none 0 0) (.slice none 0 0))
    have Z2 := Lib.hid (plan_only HO1.out (.inr (Nat.le_refl _)) (iv 0) (iv 0) (.slice none 0 0) (.slice none 0 0))
    clear y
    go_wp2
    refine bodyPost_ret (v := .tuple #[plan0, iv 11]) ?_ rfl ?_
    · simp [results, Tryz.f127, go_sem, y0, y1, y2, y3]
    refine .inl ⟨11, _, rfl, by decide, Z1.out, Z2.out, ?_⟩
    rintro m' o' ⟨h1, h2, h3, h4, h5, h6⟩
    rw [HE2.out] at h1
    omega
end Go.Proofs.YteklfkpeaadinaaGreatDoor
namespace Go.Proofs.YteklfkpeaadinaaGreatDoor
open Go.RowKit Go.Shelf
attribute [local go_sem] Oper.semAt_some
/-- parts read one behind the other -/
def RBk (bs : List Nat) (m : Nat) (nk : Nat → Nat) : List Nat → Nat → List (Int × Int × List Int) → Nat → Prop
  | [], a, [], a' => a = a'
  | k :: ks, a, t :: rs, a' => ∃ a1, RPok bs m (nk k) a t.1 t.2.1 t.2.2 a1 ∧ RBk bs m nk ks a1 rs a'
  | _, _, _, _ => False
theorem RBk.snoc {bs : List Nat} {m : Nat} {nk : Nat → Nat} : ∀ {ks : List Nat} {a : Nat} {rs : List (Int × Int × List Int)} {a1 : Nat} {k : Nat} {t : Int × Int × List Int} {a' : Nat}, RBk bs m nk ks a rs a1 → RPok bs m (nk k) a1 t.1 t.2.1 t.2.2 a' → RBk bs m nk (ks ++ [k]) a (rs ++ [t]) a'
  | [], a, [], a1, k, t, a', h, h2 => by
    obtain rfl : a = a1 := h
    exact ⟨a', h2, rfl⟩
  | k0 :: ks, a, t0 :: rs, a1, k, t, a', h, h2 => by
    obtain ⟨q, h3, h4⟩ := h
    exact ⟨q, h3, h4.snoc h2⟩
  | [], _, _ :: _, _, _, _, _, h, _ => h.elim
  | _ :: _, _, [], _, _, _, _, h, _ => h.elim
theorem RBk.len {bs : List Nat} {m : Nat} {nk : Nat → Nat} : ∀ {ks : List Nat} {a : Nat} {rs : List (Int × Int × List Int)} {a' : Nat}, RBk bs m nk ks a rs a' → rs.length = ks.length
  | [], _, [], _, _ => rfl
  | _ :: _, _, _ :: _, _, h => by
    obtain ⟨q, _, h4⟩ := h
    rw [List.length_cons, List.length_cons, h4.len]
  | [], _, _ :: _, _, h => h.elim
  | _ :: _, _, [], _, h => h.elim
theorem RPok.det {bs : List Nat} {m n a : Nat} {p wd p' wd' : Int} {ys ys' : List Int} {a1 a2 : Nat} (h : RPok bs m n a p wd ys a1) (k : RPok bs m n a p' wd' ys' a2) : p = p' ∧ wd = wd' ∧ ys = ys' ∧ a1 = a2 := by
  obtain ⟨_, ⟨h1, h2, h3, _, h5, h6⟩ | ⟨h1, _, h2, h3, _, h5, h6⟩⟩ := h
  · obtain ⟨_, ⟨k1, k2, k3, _, k5, k6⟩ | ⟨k1, _⟩⟩ := k
    · exact ⟨h2.trans k2.symm, h3.trans k3.symm, h5.trans k5.symm, h6.trans k6.symm⟩
    · exact absurd k1 h1
  · obtain ⟨_, ⟨k1, _⟩ | ⟨_, _, k2, k3, _, k5, k6⟩⟩ := k
    · exact absurd h1 k1
    · exact ⟨h2.trans k2.symm, h3.trans k3.symm, h5.trans k5.symm, h6.trans k6.symm⟩
/-- if parts can be read, so can the first ones -/
theorem RBk.cut {bs : List Nat} {m : Nat} {nk : Nat → Nat} : ∀ {ks ks2 : List Nat} {a : Nat} {rs : List (Int × Int × List Int)} {a' : Nat}, RBk bs m nk (ks ++ ks2) a rs a' → ∃ rs1 a1, RBk bs m nk ks a rs1 a1 ∧ ∃ rs2, RBk bs m nk ks2 a1 rs2 a' ∧ rs = rs1 ++ rs2
  | [], _, a, rs, _, h => ⟨[], a, rfl, rs, h, rfl⟩
  | k :: ks, ks2, a, t :: rs, a', h => by
    obtain ⟨q, h3, h4⟩ := h
    obtain ⟨rs1, a1, h5, rs2, h6, rfl⟩ := h4.cut
    exact ⟨t :: rs1, a1, ⟨q, h3, h5⟩, rs2, h6, rfl⟩
  | _ :: _, _, _, [], _, h => h.elim
theorem RBk.det {bs : List Nat} {m : Nat} {nk : Nat → Nat} : ∀ {ks : List Nat} {a : Nat} {rs rs' : List (Int × Int × List Int)} {a1 a2 : Nat}, RBk bs m nk ks a rs a1 → RBk bs m nk ks a rs' a2 → rs = rs' ∧ a1 = a2
  | [], _, [], [], _, _, h, k => ⟨rfl, h.symm.trans k⟩
  | _ :: _, _, t :: rs, t' :: rs', _, _, h, k => by
    obtain ⟨q, h3, h4⟩ := h
    obtain ⟨q', k3, k4⟩ := k
    obtain ⟨e1, e2, e3, rfl⟩ := h3.det k3
    obtain ⟨rfl, e5⟩ := h4.det k4
    refine ⟨?_, e5⟩
    obtain ⟨x, y, z⟩ := t
    obtain ⟨x', y', z'⟩ := t'
    cases e1; cases e2; cases e3
    rfl
  | [], _, _ :: _, _, _, _, h, _ => h.elim
  | [], _, [], _ :: _, _, _, _, k => k.elim
  | _ :: _, _, [], _, _, _, h, _ => h.elim
  | _ :: _, _, _ :: _, [], _, _, _, k => k.elim
/-- numbers set one behind the other -/
def setAll (xs : List Int) (ks : List Nat) (vs : List Int) : List Int := (ks.zip vs).foldl (fun xs kv => xs.set kv.1 kv.2) xs
def layAll (S s : Nat) (xs : List Int) (ks : List Nat) (yss : List (List Int)) : List Int := (ks.zip yss).foldl (fun xs ky => putAt xs (frm S s ky.1) ky.2) xs
theorem setAll_snoc (xs : List Int) (ks : List Nat) (vs : List Int) (k : Nat) (v : Int) (h : ks.length = vs.length) : setAll xs (ks ++ [k]) (vs ++ [v]) = (setAll xs ks vs).set k v := by
  unfold setAll
  rw [List.zip_append h, List.foldl_append]
  rfl
theorem layAll_snoc (S s : Nat) (xs : List Int) (ks : List Nat) (vs : List (List Int)) (k : Nat) (v : List Int) (h : ks.length = vs.length) : layAll S s xs (ks ++ [k]) (vs ++ [v]) = putAt (layAll S s xs ks vs) (frm S s k) v := by
  unfold layAll
  rw [List.zip_append h, List.foldl_append]
  rfl
theorem setAll_len (ks : List Nat) : ∀ (xs vs : List Int), (setAll xs ks vs).length = xs.length := by
  induction ks with
  | nil => intro xs vs; rfl
  | cons k ks ih =>
    intro xs vs
    cases vs with
    | nil => rfl
    | cons v vs =>
      have := ih (xs.set k v) vs
      unfold setAll at this ⊢
      rw [List.zip_cons_cons, List.foldl_cons, this]
      simp
/-- four things behind one another -/
structure St4 (i j k x : Nat) (Q0 Q1 Q2 Q3 Q4 : World → Prop) (L : Nat → Bool) (u : World) : Prop where
  q0 : L i = false → Q0 u
  q1 : L i = true → L j = false → Q1 u
  q2 : L j = true → L k = false → Q2 u
  q3 : L k = true → L x = false → Q3 u
  q4 : L x = true → Q4 u
section
variable {i j k x y : Nat} {Q0 Q1 Q2 Q3 Q4 : World → Prop} {L : Nat → Bool} {u u' : World}
theorem St4.same (h : St4 i j k x Q0 Q1 Q2 Q3 Q4 L u) (hi : i ≠ y) (hj : j ≠ y) (hk : k ≠ y) (hx : x ≠ y) : St4 i j k x Q0 Q1 Q2 Q3 Q4 (andOne L y) u :=
  ⟨fun e => h.q0 (by rwa [andOne_other hi] at e), fun e1 e2 => h.q1 (by rwa [andOne_other hi] at e1) (by rwa [andOne_other hj] at e2),
   fun e1 e2 => h.q2 (by rwa [andOne_other hj] at e1) (by rwa [andOne_other hk] at e2), fun e1 e2 => h.q3 (by rwa [andOne_other hk] at e1) (by rwa [andOne_other hx] at e2), fun e => h.q4 (by rwa [andOne_other hx] at e)⟩
theorem St4.one (hj : L j = false) (hk : L k = false) (hx : L x = false) (n1 : j ≠ i) (n2 : k ≠ i) (n3 : x ≠ i) (h : Q1 u') : St4 i j k x Q0 Q1 Q2 Q3 Q4 (andOne L i) u' :=
  ⟨(fun e => by rw [andOne_self] at e; cases e), fun _ _ => h, (fun e => by rw [andOne_other n1, hj] at e; cases e), (fun e => by rw [andOne_other n2, hk] at e; cases e), (fun e => by rw [andOne_other n3, hx] at e; cases e)⟩
theorem St4.two (hi : L i = true) (hk : L k = false) (hx : L x = false) (n1 : i ≠ j) (n2 : k ≠ j) (n3 : x ≠ j) (h : Q2 u') : St4 i j k x Q0 Q1 Q2 Q3 Q4 (andOne L j) u' :=
  ⟨(fun e => by rw [andOne_other n1, hi] at e; cases e), (fun _ e => by rw [andOne_self] at e; cases e), fun _ _ => h, (fun e => by rw [andOne_other n2, hk] at e; cases e), (fun e => by rw [andOne_other n3, hx] at e; cases e)⟩
theorem St4.three (hi : L i = true) (hj : L j = true) (hx : L x = false) (n1 : i ≠ k) (n2 : j ≠ k) (n3 : x ≠ k) (h : Q3 u') : St4 i j k x Q0 Q1 Q2 Q3 Q4 (andOne L k) u' :=
  ⟨(fun e => by rw [andOne_other n1, hi] at e; cases e), (fun _ e => by rw [andOne_other n2, hj] at e; cases e), (fun _ e => by rw [andOne_self] at e; cases e), fun _ _ => h, (fun e => by rw [andOne_other n3, hx] at e; cases e)⟩
theorem St4.four (hi : L i = true) (hj : L j = true) (hk : L k = true) (n1 : i ≠ x) (n2 : j ≠ x) (n3 : k ≠ x) (h : Q4 u') : St4 i j k x Q0 Q1 Q2 Q3 Q4 (andOne L x) u' :=
  ⟨(fun e => by rw [andOne_other n1, hi] at e; cases e), (fun _ e => by rw [andOne_other n2, hj] at e; cases e), (fun _ e => by rw [andOne_other n3, hk] at e; cases e), (fun _ e => by rw [andOne_self] at e; cases e), fun _ => h⟩
end
/-- what readPart leaves, its answer known -/
def RPd (W : World) (r : Nat) (v : Value) (bs : List Nat) (m n a g off : Nat) (xs : List Int) (p wd E : Int) (u : World) : Prop :=
  ∃ (a' : Nat) (xs' : List Int), xs'.length = xs.length ∧ Rd u r v bs a' ∧ Box u g 3 (xs'.map iv).toArray ∧ Only (RG r g) W u ∧
    ((E = 0 ∧ ∃ ys, RPok bs m n a p wd ys a' ∧ xs' = putAt xs off ys) ∨ ((E = 10 ∨ E = 11) ∧ ∀ p wd ys a', ¬ RPok bs m n a p wd ys a'))
/-- readBlock between two rounds -/
structure RbI (w : World) (r : Nat) (v : Value) (bs : List Nat) (m o s S P n a0 gp gb K g : Nat) (ks : List Nat) (W : World) : Prop where
  st : ∃ rs a', RBk bs m (fun k => frm S s (k + 1) - frm S s k) ks a0 rs a' ∧ Rd W r v bs a' ∧ Box W gp 3 ((setAll (List.replicate P 0) ks (rs.map (·.1))).map iv).toArray ∧ Box W gb 3 ((setAll (List.replicate P 0) ks (rs.map (·.2.1))).map iv).toArray ∧
    Box W g 3 ((layAll S s (List.replicate n 0) ks (rs.map (·.2.2))).map iv).toArray ∧ (layAll S s (List.replicate n 0) ks (rs.map (·.2.2))).length = n
  b3 : Box W w.heap.size 40 #[.pointer (some ⟨r, 0, none⟩)]
  b6 : Box W (w.heap.size + 1) 22 #[.slice none 0 0]
  b7 : Box W (w.heap.size + 1 + 1) 26 #[iv 0, iv 0, .slice none 0 0, .slice none 0 0]
  b8 : Box W (w.heap.size + 1 + 1 + 1) 35 #[iv 0]
  b9 : Box W K 26 #[iv m, iv o, .slice (some ⟨gp, 0, none⟩) P P, .slice (some ⟨gb, 0, none⟩) P P]
  b10 : Box W (K + 1) 35 #[iv 0]
  its : Its W (g + 1) o s (.slice (some ⟨g, 0, none⟩) n n)
  only : Only (Just r) w W
  big : g + 4 ≤ W.heap.size
theorem Rd.abide {X Y : World} {r B : Nat} {v : Value} {bs : List Nat} {a : Nat} {row : Option Nat} (h : Rd X r v bs a) (hg : X.grownBy Y row) (hr : ∀ q, row = some q → B ≤ q ∧ ∃ o : Obj, X.heap[q]? = some o ∧ o.isCells = false) : Rd Y r v bs a := by
  have ho : Only (fun k => row = some k) X Y := ⟨hg.os, hg.tape, hg.output, hg.size, fun k hk hn => hg.block k hk (fun e => hn e.symm)⟩
  have hne : ∀ k t cs, Box X k t cs → ¬ row = some k := fun k t cs hb e => by
    obtain ⟨_, o, ho, hc⟩ := hr k e
    rw [show X.heap[k]? = _ from hb] at ho
    cases ho
    cases hc
  refine h.keep ho (hne r _ _ h.box) (fun q hq => ?_)
  rcases h.own.2 with ⟨rfl, _⟩ | ⟨q', cap, cur, rfl, _, hgg, _⟩
  · simp [Value.ownBlock] at hq
  · have hgb : q' = q := by simpa [Value.ownBlock] using hq
    subst hgb
    exact hne _ _ _ hgg
theorem RbI.own {w : World} {r : Nat} {v : Value} {bs : List Nat} {m o s S P n a0 gp gb K g P' B : Nat} (hB : w.heap.size ≤ B) : OwnFrom B (fun (pre : List (Fin P')) W => RbI w r v bs m o s S P n a0 gp gb K g (pre.map Fin.val) W) :=
  fun _ _ _ _ hs hg hr => by
    obtain ⟨⟨rs, a', k1, k2, k3, k4, k5, k6⟩, b3, b6, b7, b8, b9, b10, hi, ho, hb⟩ := hs
    exact ⟨⟨rs, a', k1, k2.abide hg hr, box_abide k3 hg hr, box_abide k4 hg hr, box_abide k5 hg hr, k6⟩, box_abide b3 hg hr, box_abide b6 hg hr, box_abide b7 hg hr, box_abide b8 hg hr, box_abide b9 hg hr, box_abide b10 hg hr, ⟨box_abide hi.b0 hg hr, box_abide hi.b1 hg hr, box_abide hi.b2 hg hr⟩, own_only (β := Unit) hB () _ _ _ ho hg hr, Nat.le_trans hb hg.size⟩
/-- readBlock left within a round -/
structure RbX (w : World) (r : Nat) (v : Value) (bs : List Nat) (m o P gp gb : Nat) (bad : Prop) (cd : Code) (W : World) : Prop where
  ret : cd = .ret
  bad : bad
  ex : ∃ (E : Int) (a' : Nat), (E = 10 ∨ E = 11) ∧ Rd W r v bs a' ∧ Box W (w.heap.size + 1 + 1 + 1) 35 #[iv E]
  b6 : Box W (w.heap.size + 1) 22 #[.slice none 0 0]
  b7 : Box W (w.heap.size + 1 + 1) 26 #[iv m, iv o, .slice (some ⟨gp, 0, none⟩) P P, .slice (some ⟨gb, 0, none⟩) P P]
  only : Only (Just r) w W
theorem RbX.own {w : World} {r : Nat} {v : Value} {bs : List Nat} {m o P gp gb P' B : Nat} {bad : List (Fin P') → Prop} (hB : w.heap.size ≤ B) (cd : Code) : OwnFrom B (fun (pre : List (Fin P')) W => RbX w r v bs m o P gp gb (bad pre) cd W) :=
  fun _ _ _ _ hs hg hr => by
    obtain ⟨h1, h2, ⟨E, a', e1, e2, e3⟩, b6, b7, ho⟩ := hs
    exact ⟨h1, h2, ⟨E, a', e1, e2.abide hg hr, box_abide e3 hg hr⟩, box_abide b6 hg hr, box_abide b7 hg hr, own_only (β := Unit) hB () _ _ _ ho hg hr⟩
/-- what readBlock leaves -/
def BPost (w : World) (r : Nat) (v : Value) (bs : List Nat) (a b s : Nat) (e : Ending) (w' : World) : Prop :=
  (∃ (m o : Int) (A A' : Option Addr) (n n' c c' : Nat) (E : Int) (a' : Nat), e = .returned (.tuple #[.slice none 0 0, planV m o (.slice A n c) (.slice A' n' c'), iv E]) ∧ (E = 10 ∨ E = 11 ∨ E = 12 ∨ E = 13) ∧ Rd w' r v bs a' ∧ Only (Just r) w w' ∧
    ∀ m o rs a', HdOk bs a b s m o → ¬ RBk bs m (fun k => frm (b / 2 ^ o) s (k + 1) - frm (b / 2 ^ o) s k) (List.range (2 ^ o)) (a + 6) rs a') ∨
  (∃ (m o gp gb g : Nat) (rs : List (Int × Int × List Int)) (a' : Nat), e = .returned (.tuple #[.slice (some ⟨g, 0, none⟩) (b - s) (b - s), planV m o (.slice (some ⟨gp, 0, none⟩) (2 ^ o) (2 ^ o)) (.slice (some ⟨gb, 0, none⟩) (2 ^ o) (2 ^ o)), iv 0]) ∧
    HdOk bs a b s m o ∧ RBk bs m (fun k => frm (b / 2 ^ o) s (k + 1) - frm (b / 2 ^ o) s k) (List.range (2 ^ o)) (a + 6) rs a' ∧
    Box w' gp 3 ((setAll (List.replicate (2 ^ o) 0) (List.range (2 ^ o)) (rs.map (·.1))).map iv).toArray ∧ Box w' gb 3 ((setAll (List.replicate (2 ^ o) 0) (List.range (2 ^ o)) (rs.map (·.2.1))).map iv).toArray ∧
    Box w' g 3 ((layAll (b / 2 ^ o) s (List.replicate (b - s) 0) (List.range (2 ^ o)) (rs.map (·.2.2))).map iv).toArray ∧ Rd w' r v bs a' ∧ Only (Just r) w w')
/-- the stages of a round's first statement -/
def RQ2 (Q : World → Prop) (gp k : Nat) (pv : Int) (u : World) : Prop := ∃ u1, Q u1 ∧ u = u1.setCell ⟨gp, k, none⟩ (iv pv)
def RQ3 (Q : World → Prop) (gp gb k : Nat) (pv wv : Int) (u : World) : Prop := ∃ u1, Q u1 ∧ u = (u1.setCell ⟨gp, k, none⟩ (iv pv)).setCell ⟨gb, k, none⟩ (iv wv)
def RQ4 (Q : World → Prop) (gp gb k K1 : Nat) (pv wv Ev : Int) (u : World) : Prop := ∃ u1, Q u1 ∧ u = ((u1.setCell ⟨gp, k, none⟩ (iv pv)).setCell ⟨gb, k, none⟩ (iv wv)).setCell ⟨K1, 0, none⟩ (iv Ev)
theorem kbox {Wd : World} {Q : World → Prop} {gp gb k K1 r g : Nat} {pv wv Ev : Int} (hQ : ∀ u, Q u → Only (RG r g) Wd u) {L : Nat → Bool} {u : World} (h : St4 10 16 18 19 (fun u => u = Wd) Q (RQ2 Q gp k pv) (RQ3 Q gp gb k pv wv) (RQ4 Q gp gb k K1 pv wv Ev) L u) (hL : L 18 = false)
    {q : Nat} {t : TypeId} {cs : Array Value} (hb : Box Wd q t cs) (hr : q ≠ r) (hg : q ≠ g) (hp : q ≠ gp) : Box u q t cs := by
  cases h10 : L 10 with
  | false => have := h.q0 h10; subst this; exact hb
  | true =>
    cases h16 : L 16 with
    | false => exact hb.only (hQ u (h.q1 h10 h16)) (by rintro (e | e); exact hr e; exact hg e)
    | true =>
      obtain ⟨u1, h1, rfl⟩ := h.q2 h16 hL
      exact (hb.only (hQ u1 h1) (by rintro (e | e); exact hr e; exact hg e)).off (p := ⟨gp, k, none⟩) hp _
theorem kbox3 {V0 : World} {N : Nat} {Q1 Q2 Q3 : World → Prop} {z y0 y1 y2 y3 : Value} (hQ1 : ∀ u, Q1 u → u = V0.setCell ⟨N + 1, 0, none⟩ z)
    (hQ2 : ∀ u, Q2 u → u = ((((V0.setCell ⟨N + 1, 0, none⟩ z).setCell ⟨N + 1 + 1, 0, none⟩ y0).setCell ⟨N + 1 + 1, 1, none⟩ y1).setCell ⟨N + 1 + 1, 2, none⟩ y2).setCell ⟨N + 1 + 1, 3, none⟩ y3)
    {L : Nat → Bool} {u : World} (h : St3 2 3 4 (fun u => u = V0) Q1 Q2 Q3 L u) (hL : L 4 = false) {q : Nat} {t : TypeId} {cs : Array Value} (hb : Box V0 q t cs) (h1 : q ≠ N + 1) (h2 : q ≠ N + 1 + 1) : Box u q t cs := by
  cases h2' : L 2 with
  | false => have := h.q0 h2'; subst this; exact hb
  | true =>
    cases h3' : L 3 with
    | false => rw [hQ1 u (h.q1 h2' h3')]; exact hb.off (p := ⟨N + 1, 0, none⟩) h1 _
    | true => rw [hQ2 u (h.q2 h3' hL)]; exact plan_off (hb.off (p := ⟨N + 1, 0, none⟩) h1 _) h2 _ _ _ _
set_option maxRecDepth 100000 in
set_option maxHeartbeats 4000000 in
theorem readBlock_any {w : World} {r : Nat} {v : Value} {bs : List Nat} {a : Nat} (hR : Rd w r v bs a) (b s : Nat) (hb : b ≤ 65535) (hs : s ≤ 32) :
    Calls Tryz.prog 108 #[.pointer (some ⟨r, 0, none⟩), iv b, iv s] w fun e w' => BPost w r v bs a b s e w' := by
  have hrw := hR.mem
  obtain ⟨Wa, hWa⟩ : ∃ Wa, (((w.alloc (.cells #[.pointer (some ⟨r, 0, none⟩)] 40)).alloc (.cells #[Value.slice none 0 0] 22)).alloc (.cells #[Value.int .i64 0, Value.int .i64 0, .slice none 0 0, .slice none 0 0] 26)).alloc (.cells #[Value.int .i64 0] 35) = Wa := ⟨_, rfl⟩
  have a0 := ((((Only.refl Nix w).alloc (.cells #[.pointer (some ⟨r, 0, none⟩)] 40)).alloc (.cells #[Value.slice none 0 0] 22)).alloc (.cells #[Value.int .i64 0, Value.int .i64 0, .slice none 0 0, .slice none 0 0] 26)).alloc (.cells #[Value.int .i64 0] 35)
  have B3 := Lib.hid ((((Box.new w 40 #[.pointer (some ⟨r, 0, none⟩)]).alloc (.cells #[Value.slice none 0 0] 22)).alloc (.cells #[Value.int .i64 0, Value.int .i64 0, .slice none 0 0, .slice none 0 0] 26)).alloc (.cells #[Value.int .i64 0] 35))
  have B6 := Lib.hid (((Box.new (w.alloc (.cells #[.pointer (some ⟨r, 0, none⟩)] 40)) 22 #[Value.slice none 0 0]).alloc (.cells #[Value.int .i64 0, Value.int .i64 0, .slice none 0 0, .slice none 0 0] 26)).alloc (.cells #[Value.int .i64 0] 35))
  have B7 := Lib.hid ((Box.new ((w.alloc (.cells #[.pointer (some ⟨r, 0, none⟩)] 40)).alloc (.cells #[Value.slice none 0 0] 22)) 26 #[Value.int .i64 0, Value.int .i64 0, .slice none 0 0, .slice none 0 0]).alloc (.cells #[Value.int .i64 0] 35))
  have B8 := Lib.hid (Box.new (((w.alloc (.cells #[.pointer (some ⟨r, 0, none⟩)] 40)).alloc (.cells #[Value.slice none 0 0] 22)).alloc (.cells #[Value.int .i64 0, Value.int .i64 0, .slice none 0 0, .slice none 0 0] 26)) 35 #[Value.int .i64 0])
  rw [World.size_alloc] at B6
  rw [World.size_alloc, World.size_alloc] at B7
  rw [World.size_alloc, World.size_alloc, World.size_alloc] at B8
  have hszA : Wa.heap.size = w.heap.size + 4 := by rw [← hWa]; simp
  rw [hWa] at a0 B3 B6 B7 B8
  have HH := Lib.hid (readParting_any (hR.nix a0) b s hb)
  have HA0 := Lib.hid a0
  clear a0 hR
  have d3 := B3.out.cell 0
  simp only [List.getElem?_toArray, List.getElem?_cons_zero] at d3
  refine (callsIn_wide (n := 4)).1 ?_
  refine callsIn_of_wp_marks Tryz.func108 rfl trivial ?_ rfl
  simp only [Tryz.ntmps108, List.size_toArray, List.length_cons, List.length_nil, Nat.reduceAdd, Nat.reduceSub, Array.replicate_succ, Array.replicate_zero, List.push_toArray, List.append_toArray, List.nil_append, List.cons_append]
  gi_wp2_with fail
  refine ⟨trivial, (callsIn_wide.2 HH.out).mono ?_⟩
  rintro e w1 (⟨E, a', rfl, hE, hR1, ho1, hno⟩ | ⟨m, o, gp, gb, rfl, hok, hgg, hgp, hgb, bgp, bgb, hR1, ho1⟩)
  · have nr : ∀ k, w.heap.size ≤ k → ¬ Just r k := fun k hk e => by have : k = r := e; omega
    have C6 := Lib.hid (B6.out.only ho1 (nr _ (by omega)))
    have C7 := Lib.hid (B7.out.only ho1 (nr _ (by omega)))
    have C8 := Lib.hid (B8.out.only ho1 (nr _ (by omega)))
    have HO1 := Lib.hid ((HA0.out.nix (F := Just r)).trans ho1)
    have hsz1 := ho1.size
    have x9 := (Box.new w1 26 #[iv 0, iv 0, .slice none 0 0, .slice none 0 0]).alloc (.cells #[iv E] 35)
    have x10 := Box.new (w1.alloc (.cells #[iv 0, iv 0, .slice none 0 0, .slice none 0 0] 26)) 35 #[iv E]
    rw [World.size_alloc] at x10
    have o2 := ((Only.refl Nix w1).alloc (.cells #[iv 0, iv 0, .slice none 0 0, .slice none 0 0] 26)).alloc (.cells #[iv E] 35)
    obtain ⟨V, hV⟩ : ∃ V, (w1.alloc (.cells #[iv 0, iv 0, .slice none 0 0, .slice none 0 0] 26)).alloc (.cells #[iv E] 35) = V := ⟨_, rfl⟩
    rw [hV] at x9 x10 o2
    have V6 := Lib.hid (C6.out.only o2 (fun e => e))
    have V7 := Lib.hid (C7.out.only o2 (fun e => e))
    have V8 := Lib.hid (C8.out.only o2 (fun e => e))
    have VR := Lib.hid (hR1.nix o2)
    have A6 := Lib.hid V6.out.drew
    have A7 := Lib.hid V7.out.drew
    have A8 := Lib.hid V8.out.drew
    have A9 := Lib.hid x9.drew
    have A10 := Lib.hid x10.drew
    have oWd := Lib.hid ((HO1.out.trans o2.nix).drew)
    have oVV := Lib.hid ((Only.refl (fun q => q = w.heap.size + 1 ∨ q = w.heap.size + 1 + 1 ∨ q = w.heap.size + 1 + 1 + 1) V).drew)
    obtain ⟨Vd, hVd⟩ : ∃ Vd, V.drew = Vd := ⟨_, rfl⟩
    rw [hVd] at A6 A7 A8 A9 A10 oWd oVV
    have HVd := Lib.hid hVd
    have Hno := Lib.hid hno
    have HE := Lib.hid hE
    have hE0 : E ≠ 0 := by omega
    have hEb : (E != 0) = true := by simpa using hE0
    have cE := x10.cell 0
    rw [List.getElem?_toArray, List.getElem?_cons_zero] at cE
    clear hVd x9 x10 o2 hno hR1 ho1 hE C6 C7 C8 B3 B6 B7 B8 HH
    gi_wp2_with fail
    refine wpIn_wide.2 ?_
    have noOutE : ∀ j s, j < 5 → (([some 23, some 24, none, none, none] : List (Option Nat)).all fun d => d != some s) = true → ([some 23, some 24, none, none, none] : List (Option Nat)).getD j none ≠ some s := by
      intro j s hj ha e
      rw [List.getD_eq_getElem?_getD, List.getElem?_eq_getElem (by exact hj), Option.getD_some] at e
      have := List.all_eq_true.1 ha _ (List.getElem_mem (by exact hj))
      rw [e] at this
      simp at this
    refine region_val (by kernel_rfl) (fun k0 => ([some 23, some 24, none, none, none] : List (Option Nat)).getD k0 none) (fun k0 => ([(.agg #[iv 0, iv 0, .slice none 0 0, .slice none 0 0]), (iv E), (undef), (undef), (undef)] : List Value).getD k0 undef) (St3 2 3 4 (fun u => u = Vd) (fun u => u = (Vd.setCell ⟨w.heap.size + 1, 0, none⟩ (.slice none 0 0))) (fun u => u = (((((Vd.setCell ⟨w.heap.size + 1, 0, none⟩ (.slice none 0 0)).setCell ⟨w.heap.size + 1 + 1, 0, none⟩ (iv 0)).setCell ⟨w.heap.size + 1 + 1, 1, none⟩ (iv 0)).setCell ⟨w.heap.size + 1 + 1, 2, none⟩ (.slice none 0 0)).setCell ⟨w.heap.size + 1 + 1, 3, none⟩ (.slice none 0 0))) (fun u => u = ((((((Vd.setCell ⟨w.heap.size + 1, 0, none⟩ (.slice none 0 0)).setCell ⟨w.heap.size + 1 + 1, 0, none⟩ (iv 0)).setCell ⟨w.heap.size + 1 + 1, 1, none⟩ (iv 0)).setCell ⟨w.heap.size + 1 + 1, 2, none⟩ (.slice none 0 0)).setCell ⟨w.heap.size + 1 + 1, 3, none⟩ (.slice none 0 0)).setCell ⟨w.heap.size + 1 + 1 + 1, 0, none⟩ (iv E)))) 59 5 rfl (by kernel_rfl) (by kernel_rfl) rfl (by kernel_rfl) (by kernel_rfl) ⟨fun _ => HVd.out, (fun e => by cases e), (fun e => by cases e), (fun e => by cases e)⟩ ?stepsE [(23, .agg #[iv 0, iv 0, .slice none 0 0, .slice none 0 0]), (24, iv E)] rfl ?doneE
    case stepsE =>
      refine ⟨?_, ?_, ?_, ?_, ?_, trivial⟩
      · intro L A' u hW hL0 hnd K' hK
        have r9 : A'.tmps[9]? = some (.pointer (some ⟨w1.heap.size, 0, none⟩)) := (hW.out 9 (fun j hj => noOutE j 9 hj (by kernel_rfl))).trans rfl
        have bK := kbox3 (N := w.heap.size) (fun _ h => h) (fun _ h => h) hW.wi (notYet hW.closed (j := 4) (by rfl) (k := 0) (by kernel_rfl) hL0) A9.out (by omega) (by omega)
        have g0 := bK.cell 0
        have g1 := bK.cell 1
        have g2 := bK.cell 2
        have g3 := bK.cell 3
        simp only [List.getElem?_toArray, List.getElem?_cons_zero, List.getElem?_cons_succ] at g0 g1 g2 g3
        go_simp
        exact hK _ (hW.wi.same (by decide) (by decide) (by decide))
      · intro L A' u hW hL0 hnd K' hK
        have r10 : A'.tmps[10]? = some (.pointer (some ⟨w1.heap.size + 1, 0, none⟩)) := (hW.out 10 (fun j hj => noOutE j 10 hj (by kernel_rfl))).trans rfl
        have bK := kbox3 (N := w.heap.size) (fun _ h => h) (fun _ h => h) hW.wi (notYet hW.closed (j := 4) (by rfl) (k := 1) (by kernel_rfl) hL0) A10.out (by omega) (by omega)
        have g0 := bK.cell 0
        simp only [List.getElem?_toArray, List.getElem?_cons_zero] at g0
        go_simp
        exact hK _ (hW.wi.same (by decide) (by decide) (by decide))
      · intro L A' u hW hL0 hnd K' hK
        have r6 : A'.tmps[6]? = some (.pointer (some ⟨w.heap.size + 1, 0, none⟩)) := (hW.out 6 (fun j hj => noOutE j 6 hj (by kernel_rfl))).trans rfl
        have hu := hW.wi.q0 hL0
        subst hu
        have l3 : L 3 = false := notYet hW.closed (j := 3) (by rfl) (k := 2) (by kernel_rfl) hL0
        have l4 : L 4 = false := notYet hW.closed (j := 4) (by rfl) (k := 2) (by kernel_rfl) hL0
        have g0 := A6.out.cell 0
        simp only [List.getElem?_toArray, List.getElem?_cons_zero] at g0
        have e0 := A6.out.frozen 0
        go_simp
        exact hK _ (St3.one l3 l4 (by decide) (by decide) rfl)
      · intro L A' u hW hL0 hnd K' hK
        have r7 : A'.tmps[7]? = some (.pointer (some ⟨w.heap.size + 1 + 1, 0, none⟩)) := (hW.out 7 (fun j hj => noOutE j 7 hj (by kernel_rfl))).trans rfl
        have r23 : A'.tmps[23]? = some (.agg #[iv 0, iv 0, .slice none 0 0, .slice none 0 0]) := hW.val 0 23 (by decide) (hnd 0 (by kernel_rfl)) rfl
        have l2 : L 2 = true := hnd 2 (by kernel_rfl)
        have l4 : L 4 = false := notYet hW.closed (j := 4) (by rfl) (k := 3) (by kernel_rfl) hL0
        have hu := hW.wi.q1 l2 hL0
        subst hu
        have b7' := A7.out.off (p := ⟨w.heap.size + 1, 0, none⟩) (by show w.heap.size + 1 + 1 ≠ w.heap.size + 1; omega) (.slice none 0 0)
        have g0 := b7'.cell 0
        have g1 := b7'.cell 1
        have g2 := b7'.cell 2
        have g3 := b7'.cell 3
        simp only [List.getElem?_toArray, List.getElem?_cons_zero, List.getElem?_cons_succ] at g0 g1 g2 g3
        have e0 := b7'.frozen 0
        have e1 := b7'.frozen 1
        have e2 := b7'.frozen 2
        have e3 := b7'.frozen 3
        go_simp
        exact hK _ (St3.two l2 l4 (by decide) (by decide) rfl)
      · intro L A' u hW hL0 hnd K' hK
        have r8 : A'.tmps[8]? = some (.pointer (some ⟨w.heap.size + 1 + 1 + 1, 0, none⟩)) := (hW.out 8 (fun j hj => noOutE j 8 hj (by kernel_rfl))).trans rfl
        have r24 : A'.tmps[24]? = some (iv E) := hW.val 1 24 (by decide) (hnd 1 (by kernel_rfl)) rfl
        have l3 : L 3 = true := hnd 3 (by kernel_rfl)
        have l2 : L 2 = true := hnd 2 (by kernel_rfl)
        have hu := hW.wi.q2 l3 hL0
        subst hu
        have b8' := plan_off (A8.out.off (p := ⟨w.heap.size + 1, 0, none⟩) (by show w.heap.size + 1 + 1 + 1 ≠ w.heap.size + 1; omega) (.slice none 0 0)) (show w.heap.size + 1 + 1 + 1 ≠ w.heap.size + 1 + 1 by omega) (iv 0) (iv 0) (.slice none 0 0) (.slice none 0 0)
        have g0 := b8'.cell 0
        simp only [List.getElem?_toArray, List.getElem?_cons_zero] at g0
        have e0 := b8'.frozen 0
        go_simp
        exact hK _ (St3.three l2 l3 (by decide) (by decide) rfl)
    case doneE =>
      intro L u hWI hall
      have hu := hWI.q3 (hall 4 (by decide))
      clear hWI hall noOutE
      subst hu
      simp only [putV, List.foldl_cons, List.foldl_nil]
      have z6 : Box ((((((Vd.setCell ⟨w.heap.size + 1, 0, none⟩ (.slice none 0 0)).setCell ⟨w.heap.size + 1 + 1, 0, none⟩ (iv 0)).setCell ⟨w.heap.size + 1 + 1, 1, none⟩ (iv 0)).setCell ⟨w.heap.size + 1 + 1, 2, none⟩ (.slice none 0 0)).setCell ⟨w.heap.size + 1 + 1, 3, none⟩ (.slice none 0 0)).setCell ⟨w.heap.size + 1 + 1 + 1, 0, none⟩ (iv E)) (w.heap.size + 1) 22 #[.slice none 0 0] := (plan_off (A6.out.put 0 (.slice none 0 0)) (by omega) _ _ _ _).off (p := ⟨w.heap.size + 1 + 1 + 1, 0, none⟩) (by show w.heap.size + 1 ≠ w.heap.size + 1 + 1 + 1; omega) _
      have z7 : Box ((((((Vd.setCell ⟨w.heap.size + 1, 0, none⟩ (.slice none 0 0)).setCell ⟨w.heap.size + 1 + 1, 0, none⟩ (iv 0)).setCell ⟨w.heap.size + 1 + 1, 1, none⟩ (iv 0)).setCell ⟨w.heap.size + 1 + 1, 2, none⟩ (.slice none 0 0)).setCell ⟨w.heap.size + 1 + 1, 3, none⟩ (.slice none 0 0)).setCell ⟨w.heap.size + 1 + 1 + 1, 0, none⟩ (iv E)) (w.heap.size + 1 + 1) 26 #[iv 0, iv 0, .slice none 0 0, .slice none 0 0] := (plan_put (A7.out.off (p := ⟨w.heap.size + 1, 0, none⟩) (by show w.heap.size + 1 + 1 ≠ w.heap.size + 1; omega) _) _ _ _ _).off (p := ⟨w.heap.size + 1 + 1 + 1, 0, none⟩) (by show w.heap.size + 1 + 1 ≠ w.heap.size + 1 + 1 + 1; omega) _
      have z8 : Box ((((((Vd.setCell ⟨w.heap.size + 1, 0, none⟩ (.slice none 0 0)).setCell ⟨w.heap.size + 1 + 1, 0, none⟩ (iv 0)).setCell ⟨w.heap.size + 1 + 1, 1, none⟩ (iv 0)).setCell ⟨w.heap.size + 1 + 1, 2, none⟩ (.slice none 0 0)).setCell ⟨w.heap.size + 1 + 1, 3, none⟩ (.slice none 0 0)).setCell ⟨w.heap.size + 1 + 1 + 1, 0, none⟩ (iv E)) (w.heap.size + 1 + 1 + 1) 35 #[iv E] := (plan_off (A8.out.off (p := ⟨w.heap.size + 1, 0, none⟩) (by show w.heap.size + 1 + 1 + 1 ≠ w.heap.size + 1; omega) _) (by omega) _ _ _ _).put 0 (iv E)
      have zO : Only (Just r) w ((((((Vd.setCell ⟨w.heap.size + 1, 0, none⟩ (.slice none 0 0)).setCell ⟨w.heap.size + 1 + 1, 0, none⟩ (iv 0)).setCell ⟨w.heap.size + 1 + 1, 1, none⟩ (iv 0)).setCell ⟨w.heap.size + 1 + 1, 2, none⟩ (.slice none 0 0)).setCell ⟨w.heap.size + 1 + 1, 3, none⟩ (.slice none 0 0)).setCell ⟨w.heap.size + 1 + 1 + 1, 0, none⟩ (iv E)) := (plan_only ((oWd.out).setCell (p := ⟨w.heap.size + 1, 0, none⟩) (.inr (by show w.heap.size ≤ w.heap.size + 1; omega)) _) (.inr (by omega)) _ _ _ _).setCell (p := ⟨w.heap.size + 1 + 1 + 1, 0, none⟩) (.inr (by show w.heap.size ≤ w.heap.size + 1 + 1 + 1; omega)) _
      have oo : Only (fun q => q = w.heap.size + 1 ∨ q = w.heap.size + 1 + 1 ∨ q = w.heap.size + 1 + 1 + 1) V ((((((Vd.setCell ⟨w.heap.size + 1, 0, none⟩ (.slice none 0 0)).setCell ⟨w.heap.size + 1 + 1, 0, none⟩ (iv 0)).setCell ⟨w.heap.size + 1 + 1, 1, none⟩ (iv 0)).setCell ⟨w.heap.size + 1 + 1, 2, none⟩ (.slice none 0 0)).setCell ⟨w.heap.size + 1 + 1, 3, none⟩ (.slice none 0 0)).setCell ⟨w.heap.size + 1 + 1 + 1, 0, none⟩ (iv E)) := (plan_only ((oVV.out).setCell (p := ⟨w.heap.size + 1, 0, none⟩) (.inl (.inl rfl)) _) (.inl (.inr (.inl rfl))) _ _ _ _).setCell (p := ⟨w.heap.size + 1 + 1 + 1, 0, none⟩) (.inl (.inr (.inr rfl))) _
      have zR : Rd ((((((Vd.setCell ⟨w.heap.size + 1, 0, none⟩ (.slice none 0 0)).setCell ⟨w.heap.size + 1 + 1, 0, none⟩ (iv 0)).setCell ⟨w.heap.size + 1 + 1, 1, none⟩ (iv 0)).setCell ⟨w.heap.size + 1 + 1, 2, none⟩ (.slice none 0 0)).setCell ⟨w.heap.size + 1 + 1, 3, none⟩ (.slice none 0 0)).setCell ⟨w.heap.size + 1 + 1 + 1, 0, none⟩ (iv E)) r v bs a' := by
        refine VR.out.keep oo (by rintro (e | e | e) <;> omega) ?_
        rintro q hq (e | e | e)
        · exact owns_box VR.out.own V6.out (by decide) (by rw [hq, e])
        · exact owns_box VR.out.own V7.out (by decide) (by rw [hq, e])
        · exact owns_box VR.out.own V8.out (by decide) (by rw [hq, e])
      have y6 := z6.cell 0
      have y70 := z7.cell 0
      have y71 := z7.cell 1
      have y72 := z7.cell 2
      have y73 := z7.cell 3
      have y8 := z8.cell 0
      simp only [List.getElem?_toArray, List.getElem?_cons_zero, List.getElem?_cons_succ] at y6 y70 y71 y72 y73 y8
      have Z1 := Lib.hid zR
      have Z2 := Lib.hid zO
      clear z6 z7 z8 zO oo zR
      gi_wp2
      refine ⟨.tuple #[.slice none 0 0, planV 0 0 (.slice none 0 0) (.slice none 0 0), iv E], ?_, .inl ⟨0, 0, none, none, 0, 0, 0, 0, E, a', rfl, by have := HE.out; omega, Z1.out, Z2.out, fun m' o' rs' a2 hok' _ => Hno.out m' o' hok'⟩⟩
      simp [results, Tryz.f108, go_sem, y6, y70, y71, y72, y73, y8]
  · have nr : ∀ k, w.heap.size ≤ k → ¬ Just r k := fun k hk e => by have : k = r := e; omega
    have Hgg := Lib.hid hgg
    have C3 := Lib.hid (B3.out.only ho1 (nr _ (by omega)))
    have C6 := Lib.hid (B6.out.only ho1 (nr _ (by omega)))
    have C7 := Lib.hid (B7.out.only ho1 (nr _ (by omega)))
    have C8 := Lib.hid (B8.out.only ho1 (nr _ (by omega)))
    have HO1 := Lib.hid ((HA0.out.nix (F := Just r)).trans ho1)
    have hgp1 := bgp.lt
    have hgb1 := bgb.lt
    have hsz1 := ho1.size
    have hok' := hok
    obtain ⟨_, hmN, hm2, _, hoN, hck⟩ := hok'
    clear hmN
    have ho15 : o ≤ 15 := by
      have h1 := numAt_lt bs (a + 2) 4
      rw [← hoN] at h1
      have : (2 : Nat) ^ 4 = 16 := by decide
      omega
    obtain ⟨hPS, hS⟩ := ckP_zero hck
    have Hok := Lib.hid hok
    clear hoN hck hok
    obtain ⟨P, hP⟩ : ∃ P, 2 ^ o = P := ⟨_, rfl⟩
    obtain ⟨S, hSe⟩ : ∃ S, b / 2 ^ o = S := ⟨_, rfl⟩
    rw [hSe] at hPS hS
    rw [hP] at hPS bgp bgb
    have hP2 : P ≤ 32768 := by rw [← hP]; exact Nat.pow_le_pow_right (by decide) ho15
    have hP0 : 0 < P := by rw [← hP]; exact Nat.two_pow_pos o
    have hsb : s < b := by
      have := Nat.le_mul_of_pos_left S hP0
      omega
    obtain ⟨n, hn⟩ : ∃ n, b - s = n := ⟨_, rfl⟩
    have hbn : b = n + s := by omega
    have hni : (b : Int) - (s : Int) = (n : Int) := by omega
    rw [hbn] at hPS
    have Hbn := Lib.hid hbn
    have HSe := Lib.hid hSe
    have HP := Lib.hid hP
    have Hn := Lib.hid hn
    have HR1 := Lib.hid hR1
    have BP := Lib.hid bgp
    have BB := Lib.hid bgb
    have hmk := fun (u : World) => run_make_row' (P := Tryz.prog) 22 3 (.int .i64 0) 8 Tryz.underlying22 Tryz.info_int rfl .i64 .i64 n (by omega) (by omega) u
    simp only [made_ints] at hmk
    have hns6 : n + s ≤ 65535 := by omega
    clear hSe hn hR1 bgp bgb ho1 B3 B6 B7 B8 HH hbn
    rw [hP]
    generalize hCS : (List.replicate n (iv 0)).toArray = CS at *
    have HPa := Lib.hid (parts_any (w := ((w1.alloc (.cells #[iv m, iv o, .slice (some ⟨gp, 0, none⟩) P P, .slice (some ⟨gb, 0, none⟩) P P] 26)).alloc (.cells #[Value.int .i64 0] 35)).alloc (.cells CS 3)) (o : Int) (s : Int) (some ⟨w1.heap.size + 1 + 1, 0, none⟩) n n)
    rw [World.size_alloc, World.size_alloc, World.size_alloc] at HPa
    have HhP := Lib.hid hP
    clear hP hgg
    gi_wp2_with fail
    refine ⟨trivial, (callsIn_wide.2 HPa.out).mono ?_⟩
    rintro e w4 ⟨rfl, rfl⟩
    clear HPa
    gi_wp2_with fail
    have hIts := its_new (((w1.alloc (.cells #[iv m, iv o, .slice (some ⟨gp, 0, none⟩) P P, .slice (some ⟨gb, 0, none⟩) P P] 26)).alloc (.cells #[Value.int .i64 0] 35)).alloc (.cells CS 3)) o s (.slice (some ⟨w1.heap.size + 1 + 1, 0, none⟩) n n)
    rw [World.size_alloc, World.size_alloc, World.size_alloc] at hIts
    have x9 := (((((Box.new w1 26 #[iv m, iv o, .slice (some ⟨gp, 0, none⟩) P P, .slice (some ⟨gb, 0, none⟩) P P]).alloc (.cells #[Value.int .i64 0] 35)).alloc (.cells CS 3)).alloc (.cells #[iv o] 3)).alloc (.cells #[iv s] 3)).alloc (.cells #[.slice (some ⟨w1.heap.size + 1 + 1, 0, none⟩) n n] 22)
    have x10 := ((((Box.new (w1.alloc (.cells #[iv m, iv o, .slice (some ⟨gp, 0, none⟩) P P, .slice (some ⟨gb, 0, none⟩) P P] 26)) 35 #[Value.int .i64 0]).alloc (.cells CS 3)).alloc (.cells #[iv o] 3)).alloc (.cells #[iv s] 3)).alloc (.cells #[.slice (some ⟨w1.heap.size + 1 + 1, 0, none⟩) n n] 22)
    have xg := (((Box.new ((w1.alloc (.cells #[iv m, iv o, .slice (some ⟨gp, 0, none⟩) P P, .slice (some ⟨gb, 0, none⟩) P P] 26)).alloc (.cells #[Value.int .i64 0] 35)) 3 CS).alloc (.cells #[iv o] 3)).alloc (.cells #[iv s] 3)).alloc (.cells #[.slice (some ⟨w1.heap.size + 1 + 1, 0, none⟩) n n] 22)
    rw [World.size_alloc] at x10
    rw [World.size_alloc, World.size_alloc] at xg
    have o4 := ((((((Only.refl Nix w1).alloc (.cells #[iv m, iv o, .slice (some ⟨gp, 0, none⟩) P P, .slice (some ⟨gb, 0, none⟩) P P] 26)).alloc (.cells #[Value.int .i64 0] 35)).alloc (.cells CS 3)).alloc (.cells #[iv o] 3)).alloc (.cells #[iv s] 3)).alloc (.cells #[.slice (some ⟨w1.heap.size + 1 + 1, 0, none⟩) n n] 22)
    have hsz4 : ((((((w1.alloc (.cells #[iv m, iv o, .slice (some ⟨gp, 0, none⟩) P P, .slice (some ⟨gb, 0, none⟩) P P] 26)).alloc (.cells #[Value.int .i64 0] 35)).alloc (.cells CS 3)).alloc (.cells #[iv o] 3)).alloc (.cells #[iv s] 3)).alloc (.cells #[.slice (some ⟨w1.heap.size + 1 + 1, 0, none⟩) n n] 22)).heap.size = w1.heap.size + 6 := by simp
    generalize ((((((w1.alloc (.cells #[iv m, iv o, .slice (some ⟨gp, 0, none⟩) P P, .slice (some ⟨gb, 0, none⟩) P P] 26)).alloc (.cells #[Value.int .i64 0] 35)).alloc (.cells CS 3)).alloc (.cells #[iv o] 3)).alloc (.cells #[iv s] 3)).alloc (.cells #[.slice (some ⟨w1.heap.size + 1 + 1, 0, none⟩) n n] 22)) = w4 at *
    have HIt := Lib.hid hIts
    have X9 := Lib.hid x9
    have X10 := Lib.hid x10
    have XG := Lib.hid xg
    have HO4 := Lib.hid o4
    clear hIts x9 x10 xg o4 d3
    refine wpIn_rangeFunc_ownG rfl (by decide) (gf := 99) (lb := itsV (w1.heap.size + 1 + 1 + 1)) rfl trivial (enters_of Tryz.func99 (by kernel_rfl) rfl)
      (parts_stops ho15 HhP.out hPS hS hns6 (Nat.le_refl n) (by omega) HIt.out) KeepB.t (KeepB.b (by omega)) (Below.refl _ _) (fun _ => rfl)
      (fun pre W => RbI w r v bs m o s S P n (a + 6) gp gb w1.heap.size (w1.heap.size + 1 + 1) (pre.map Fin.val) W)
      (fun cd pre W => RbX w r v bs m o P gp gb (∀ rs a', ¬ RBk bs m (fun k => frm S s (k + 1) - frm S s k) (pre.map Fin.val) (a + 6) rs a') cd W)
      (RbI.own (by omega))
      (fun cd => RbX.own (bad := fun pre => ∀ rs a', ¬ RBk bs m (fun k => frm S s (k + 1) - frm S s k) (pre.map Fin.val) (a + 6) rs a') (by omega) cd)
      ⟨⟨[], a + 6, rfl, HR1.out.nix HO4.out, by rw [show ((setAll (List.replicate P 0) (List.map Fin.val ([] : List (Fin P))) (List.map (·.1) ([] : List (Int × Int × List Int)))).map iv) = List.replicate P (iv 0) from by simp [setAll]]; exact BP.out.only HO4.out (fun e => e), by rw [show ((setAll (List.replicate P 0) (List.map Fin.val ([] : List (Fin P))) (List.map (·.2.1) ([] : List (Int × Int × List Int)))).map iv) = List.replicate P (iv 0) from by simp [setAll]]; exact BB.out.only HO4.out (fun e => e), by rw [show ((layAll S s (List.replicate n 0) (List.map Fin.val ([] : List (Fin P))) (List.map (·.2.2) ([] : List (Int × Int × List Int)))).map iv) = List.replicate n (iv 0) from by simp [layAll], hCS]; exact XG.out, by simp [layAll]⟩, C3.out.only HO4.out (fun e => e), C6.out.only HO4.out (fun e => e), C7.out.only HO4.out (fun e => e), C8.out.only HO4.out (fun e => e), X9.out, X10.out, HIt.out, HO1.out.trans HO4.out.nix, by omega⟩
      (fun x => { tmps := #[.pointer (some ⟨r, 0, none⟩), iv b, iv s, .pointer (some ⟨w.heap.size, 0, none⟩), undef, undef, .pointer (some ⟨w.heap.size + 1, 0, none⟩), .pointer (some ⟨w.heap.size + 1 + 1, 0, none⟩), .pointer (some ⟨w.heap.size + 1 + 1 + 1, 0, none⟩), .pointer (some ⟨w1.heap.size, 0, none⟩), .pointer (some ⟨w1.heap.size + 1, 0, none⟩), .slice (some ⟨w1.heap.size + 1 + 1, 0, none⟩) n n, iv (x.val : Int), (.slice (some ⟨w1.heap.size + 1 + 1, frm S s x.val, none⟩) (frm S s (x.val + 1) - frm S s x.val) (n - frm S s x.val)), .tuple #[planV m o (.slice (some ⟨gp, 0, none⟩) P P) (.slice (some ⟨gb, 0, none⟩) P P), iv 0], .pointer (some ⟨r, 0, none⟩), iv b, iv s, .tuple #[planV m o (.slice (some ⟨gp, 0, none⟩) P P) (.slice (some ⟨gb, 0, none⟩) P P), iv 0], planV m o (.slice (some ⟨gp, 0, none⟩) P P) (.slice (some ⟨gb, 0, none⟩) P P), iv 0, .int .i64 0, .bool false, undef, undef, iv b, iv s, .int .i64 (n : Int), .slice (some ⟨w1.heap.size + 1 + 1, 0, none⟩) n n, .pointer (some ⟨w1.heap.size, 1, none⟩), .int .i64 (o : Int), iv s, .slice (some ⟨w1.heap.size + 1 + 1, 0, none⟩) n n, .func (.func 99) #[] (itsV (w1.heap.size + 1 + 1 + 1)), iv (x.val : Int), (.slice (some ⟨w1.heap.size + 1 + 1, frm S s x.val, none⟩) (frm S s (x.val + 1) - frm S s x.val) (n - frm S s x.val)), undef, undef, undef, undef, undef, undef, undef, undef, undef, undef, undef, undef, undef, undef, undef, undef, undef, undef, undef, undef, undef, undef, undef], defers := [] }) ?assign ?body ?done ?stop
    case assign =>
      intro l x W K hK
      unfold partE
      gi_wp2
      exact hK
    case body =>
      rintro lp pre x W ⟨⟨rs, aC, hrb, hRd, bgp, bgb, bg, hlay⟩, b3, b6, b7, b8, b9, b10, hit, hO, hbig⟩ hpl
      have hkP := x.isLt
      have hst := (frm_step S s x.val hS).1
      have hfl := frm_le S s (x.val + 1) P n hkP hPS
      obtain ⟨XS, hXS⟩ : ∃ XS, layAll S s (List.replicate n 0) (pre.map Fin.val) (rs.map (·.2.2)) = XS := ⟨_, rfl⟩
      rw [hXS] at bg hlay
      have HXS := Lib.hid hXS
      clear hXS
      obtain ⟨pv, wv, Ev, hT⟩ : ∃ pv wv Ev, (pv, wv, Ev) = rpT bs m (frm S s (x.val + 1) - frm S s x.val) aC := ⟨_, _, _, rfl⟩
      have HCall0 := readPart_any (hRd.nix (Only.refl Nix W |>.drew)) m (w1.heap.size + 1 + 1) (frm S s x.val) (frm S s (x.val + 1) - frm S s x.val) (n - frm S s x.val) (by omega) XS bg.drew (by omega) (by omega)
      have HCall := Lib.hid (HCall0.mono (R' := fun e u => e = .returned (.tuple #[iv pv, iv wv, iv Ev]) ∧ (RPd W.drew r v bs m (frm S s (x.val + 1) - frm S s x.val) aC (w1.heap.size + 1 + 1) (frm S s x.val) XS pv wv Ev) u) fun e u h => by
        obtain ⟨p', wd', E', a', xs', e1, e2, e3, e4, e5, e6, e7⟩ := h
        rw [← hT] at e7
        cases e7
        exact ⟨e1, a', xs', e2, e3, e4, e5, e6⟩)
      have HQ : Hid (∀ u, (RPd W.drew r v bs m (frm S s (x.val + 1) - frm S s x.val) aC (w1.heap.size + 1 + 1) (frm S s x.val) XS pv wv Ev) u → Only (RG r (w1.heap.size + 1 + 1)) W.drew u) := Lib.hid (fun u h => by
        obtain ⟨a', xs', _, _, _, h5, _⟩ := h
        exact h5)
      have BK := Lib.hid b9.drew
      have BK1 := Lib.hid b10.drew
      have BGP := Lib.hid bgp.drew
      have BGB := Lib.hid bgb.drew
      have lenP : (setAll (List.replicate P 0) (pre.map Fin.val) (rs.map (·.1))).length = P := by rw [setAll_len, List.length_replicate]
      have lenB : (setAll (List.replicate P 0) (pre.map Fin.val) (rs.map (·.2.1))).length = P := by rw [setAll_len, List.length_replicate]
      have HCP : Hid (((setAll (List.replicate P 0) (pre.map Fin.val) (rs.map (·.1))).map iv).toArray[x.val]? = some (iv ((setAll (List.replicate P 0) (pre.map Fin.val) (rs.map (·.1)))[x.val]'(by rw [lenP]; exact hkP)))) := Lib.hid (by
        rw [List.getElem?_toArray, List.getElem?_map, List.getElem?_eq_getElem (by rw [lenP]; exact hkP)]; rfl)
      have HCB : Hid (((setAll (List.replicate P 0) (pre.map Fin.val) (rs.map (·.2.1))).map iv).toArray[x.val]? = some (iv ((setAll (List.replicate P 0) (pre.map Fin.val) (rs.map (·.2.1)))[x.val]'(by rw [lenB]; exact hkP)))) := Lib.hid (by
        rw [List.getElem?_toArray, List.getElem?_map, List.getElem?_eq_getElem (by rw [lenB]; exact hkP)]; rfl)
      have k3 := b3.cell 0
      have k9 := b9.cell 0
      simp only [List.getElem?_toArray, List.getElem?_cons_zero] at k3 k9
      have hkP2 : (x.val : Int) < (P : Int) := by omega
      have Hrb := Lib.hid hrb
      have Hit := Lib.hid hit
      have V3 := Lib.hid b3
      have V6 := Lib.hid b6
      have V7 := Lib.hid b7
      have V8 := Lib.hid b8
      have V9 := Lib.hid b9
      have V10 := Lib.hid b10
      have VG := Lib.hid bg
      have VP := Lib.hid bgp
      have VB := Lib.hid bgb
      have VR := Lib.hid hRd
      have HOW := Lib.hid hO
      have HlayX := Lib.hid hlay
      clear hrb hit b3 b6 b7 b8 b9 b10 bg bgp bgb hRd hO HCall0 hT hlay
      obtain ⟨QQ, hQQ⟩ : ∃ QQ : World → Prop, (RPd W.drew r v bs m (frm S s (x.val + 1) - frm S s x.val) aC (w1.heap.size + 1 + 1) (frm S s x.val) XS pv wv Ev) = QQ := ⟨_, rfl⟩
      rw [hQQ] at HCall HQ
      have HQQ := Lib.hid hQQ
      clear hQQ
      generalize ((Value.slice (some ⟨w1.heap.size + 1 + 1, frm S s x.val, none⟩) (frm S s (x.val + 1) - frm S s x.val) (n - frm S s x.val)) : Value) = PV at *
      refine wpIn_block (wpIn_seq ?_)
      have noOut : ∀ j s, j < 20 → (([some 37, some 38, some 39, some 40, some 41, some 42, some 43, some 44, some 45, some 46, some 47, some 36, some 48, some 49, some 50, some 51, none, some 52, none, none] : List (Option Nat)).all fun d => d != some s) = true → ([some 37, some 38, some 39, some 40, some 41, some 42, some 43, some 44, some 45, some 46, some 47, some 36, some 48, some 49, some 50, some 51, none, some 52, none, none] : List (Option Nat)).getD j none ≠ some s := by
        intro j s hj ha e
        rw [List.getD_eq_getElem?_getD, List.getElem?_eq_getElem (by exact hj), Option.getD_some] at e
        have := List.all_eq_true.1 ha _ (List.getElem_mem (by exact hj))
        rw [e] at this
        simp at this
      refine region_val_in _ _ (by kernel_rfl) (fun k0 => ([some 37, some 38, some 39, some 40, some 41, some 42, some 43, some 44, some 45, some 46, some 47, some 36, some 48, some 49, some 50, some 51, none, some 52, none, none] : List (Option Nat)).getD k0 none) (fun k0 => ([(.pointer (some ⟨w1.heap.size, 2, none⟩)), (.slice (some ⟨gp, 0, none⟩) P P), (iv (x.val : Int)), (.pointer (some ⟨w1.heap.size, 3, none⟩)), (.slice (some ⟨gb, 0, none⟩) P P), (iv (x.val : Int)), (.pointer (some ⟨r, 0, none⟩)), (.pointer (some ⟨w1.heap.size, 0, none⟩)), (iv m), (PV), (.tuple #[iv pv, iv wv, iv Ev]), (.tuple #[iv pv, iv wv, iv Ev]), (iv pv), (iv wv), (iv Ev), (.pointer (some ⟨gp, x.val, none⟩)), (undef), (.pointer (some ⟨gb, x.val, none⟩)), (undef), (undef)] : List Value).getD k0 undef) (St4 10 16 18 19 (fun u => u = W.drew) QQ (RQ2 QQ gp x.val pv) (RQ3 QQ gp gb x.val pv wv) (RQ4 QQ gp gb x.val (w1.heap.size + 1) pv wv Ev)) 59 20 rfl (by kernel_rfl) (by kernel_rfl) rfl (by kernel_rfl) (by kernel_rfl) (by kernel_rfl) ⟨fun _ => rfl, (fun e => by cases e), (fun e => by cases e), (fun e => by cases e), (fun e => by cases e)⟩ ?stepsR [(37, .pointer (some ⟨w1.heap.size, 2, none⟩)), (38, .slice (some ⟨gp, 0, none⟩) P P), (39, iv (x.val : Int)), (40, .pointer (some ⟨w1.heap.size, 3, none⟩)), (41, .slice (some ⟨gb, 0, none⟩) P P), (42, iv (x.val : Int)), (43, .pointer (some ⟨r, 0, none⟩)), (44, .pointer (some ⟨w1.heap.size, 0, none⟩)), (45, iv m), (46, PV), (47, .tuple #[iv pv, iv wv, iv Ev]), (36, .tuple #[iv pv, iv wv, iv Ev]), (48, iv pv), (49, iv wv), (50, iv Ev), (51, .pointer (some ⟨gp, x.val, none⟩)), (52, .pointer (some ⟨gb, x.val, none⟩))] rfl ?doneR
      case stepsR =>
        refine ⟨?_, ?_, ?_, ?_, ?_, ?_, ?_, ?_, ?_, ?_, ?_, ?_, ?_, ?_, ?_, ?_, ?_, ?_, ?_, ?_, trivial⟩
        · intro L A' u hW hL0 hnd K' hK
          have r9 : A'.tmps[9]? = some (.pointer (some ⟨w1.heap.size, 0, none⟩)) := (hW.out 9 (fun j hj => noOut j 9 hj (by kernel_rfl))).trans rfl
          go_simp
          exact hK _ (hW.wi.same (by decide) (by decide) (by decide) (by decide))
        · intro L A' u hW hL0 hnd K' hK
          have r37 : A'.tmps[37]? = some (.pointer (some ⟨w1.heap.size, 2, none⟩)) := hW.val 0 37 (by decide) (hnd 0 (by kernel_rfl)) rfl
          have bK := kbox HQ.out hW.wi (notYet hW.closed (j := 18) (by rfl) (k := 1) (by kernel_rfl) hL0) BK.out (by omega) (by omega) (by omega)
          have hc := bK.cell 2
          simp only [List.getElem?_toArray, List.getElem?_cons_zero, List.getElem?_cons_succ] at hc
          go_simp
          exact hK _ (hW.wi.same (by decide) (by decide) (by decide) (by decide))
        · intro L A' u hW hL0 hnd K' hK
          have r12 : A'.tmps[12]? = some (iv (x.val : Int)) := (hW.out 12 (fun j hj => noOut j 12 hj (by kernel_rfl))).trans rfl
          go_simp
          exact hK _ (hW.wi.same (by decide) (by decide) (by decide) (by decide))
        · intro L A' u hW hL0 hnd K' hK
          have r9 : A'.tmps[9]? = some (.pointer (some ⟨w1.heap.size, 0, none⟩)) := (hW.out 9 (fun j hj => noOut j 9 hj (by kernel_rfl))).trans rfl
          go_simp
          exact hK _ (hW.wi.same (by decide) (by decide) (by decide) (by decide))
        · intro L A' u hW hL0 hnd K' hK
          have r40 : A'.tmps[40]? = some (.pointer (some ⟨w1.heap.size, 3, none⟩)) := hW.val 3 40 (by decide) (hnd 3 (by kernel_rfl)) rfl
          have bK := kbox HQ.out hW.wi (notYet hW.closed (j := 18) (by rfl) (k := 4) (by kernel_rfl) hL0) BK.out (by omega) (by omega) (by omega)
          have hc := bK.cell 3
          simp only [List.getElem?_toArray, List.getElem?_cons_zero, List.getElem?_cons_succ] at hc
          go_simp
          exact hK _ (hW.wi.same (by decide) (by decide) (by decide) (by decide))
        · intro L A' u hW hL0 hnd K' hK
          have r12 : A'.tmps[12]? = some (iv (x.val : Int)) := (hW.out 12 (fun j hj => noOut j 12 hj (by kernel_rfl))).trans rfl
          go_simp
          exact hK _ (hW.wi.same (by decide) (by decide) (by decide) (by decide))
        · intro L A' u hW hL0 hnd K' hK
          have r3 : A'.tmps[3]? = some (.pointer (some ⟨w.heap.size, 0, none⟩)) := (hW.out 3 (fun j hj => noOut j 3 hj (by kernel_rfl))).trans rfl
          obtain rfl := hW.wi.q0 (notYet hW.closed (j := 10) (by rfl) (k := 6) (by kernel_rfl) hL0)
          go_simp
          exact hK _ (hW.wi.same (by decide) (by decide) (by decide) (by decide))
        · intro L A' u hW hL0 hnd K' hK
          have r9 : A'.tmps[9]? = some (.pointer (some ⟨w1.heap.size, 0, none⟩)) := (hW.out 9 (fun j hj => noOut j 9 hj (by kernel_rfl))).trans rfl
          go_simp
          exact hK _ (hW.wi.same (by decide) (by decide) (by decide) (by decide))
        · intro L A' u hW hL0 hnd K' hK
          have r44 : A'.tmps[44]? = some (.pointer (some ⟨w1.heap.size, 0, none⟩)) := hW.val 7 44 (by decide) (hnd 7 (by kernel_rfl)) rfl
          obtain rfl := hW.wi.q0 (notYet hW.closed (j := 10) (by rfl) (k := 8) (by kernel_rfl) hL0)
          go_simp
          exact hK _ (hW.wi.same (by decide) (by decide) (by decide) (by decide))
        · intro L A' u hW hL0 hnd K' hK
          have r13 : A'.tmps[13]? = some (PV) := (hW.out 13 (fun j hj => noOut j 13 hj (by kernel_rfl))).trans rfl
          go_simp
          exact hK _ (hW.wi.same (by decide) (by decide) (by decide) (by decide))
        · intro L A' u hW hL0 hnd K' hK
          have r43 : A'.tmps[43]? = some (.pointer (some ⟨r, 0, none⟩)) := hW.val 6 43 (by decide) (hnd 6 (by kernel_rfl)) rfl
          have r45 : A'.tmps[45]? = some (iv m) := hW.val 8 45 (by decide) (hnd 8 (by kernel_rfl)) rfl
          have r46 : A'.tmps[46]? = some (PV) := hW.val 9 46 (by decide) (hnd 9 (by kernel_rfl)) rfl
          obtain rfl := hW.wi.q0 hL0
          have l16 : L 16 = false := notYet hW.closed (j := 16) (by rfl) (k := 10) (by kernel_rfl) hL0
          have l18 : L 18 = false := notYet hW.closed (j := 18) (by rfl) (k := 10) (by kernel_rfl) hL0
          have l19 : L 19 = false := notYet hW.closed (j := 19) (by rfl) (k := 10) (by kernel_rfl) hL0
          go_simp
          refine (HCall.out).mono ?_
          rintro e' u' ⟨rfl, hq'⟩
          exact hK _ (St4.one l16 l18 l19 (by decide) (by decide) (by decide) hq')
        · intro L A' u hW hL0 hnd K' hK
          have r47 : A'.tmps[47]? = some (.tuple #[iv pv, iv wv, iv Ev]) := hW.val 10 47 (by decide) (hnd 10 (by kernel_rfl)) rfl
          go_simp
          exact hK _ (hW.wi.same (by decide) (by decide) (by decide) (by decide))
        · intro L A' u hW hL0 hnd K' hK
          have r36 : A'.tmps[36]? = some (.tuple #[iv pv, iv wv, iv Ev]) := hW.val 11 36 (by decide) (hnd 11 (by kernel_rfl)) rfl
          go_simp
          exact hK _ (hW.wi.same (by decide) (by decide) (by decide) (by decide))
        · intro L A' u hW hL0 hnd K' hK
          have r36 : A'.tmps[36]? = some (.tuple #[iv pv, iv wv, iv Ev]) := hW.val 11 36 (by decide) (hnd 11 (by kernel_rfl)) rfl
          go_simp
          exact hK _ (hW.wi.same (by decide) (by decide) (by decide) (by decide))
        · intro L A' u hW hL0 hnd K' hK
          have r36 : A'.tmps[36]? = some (.tuple #[iv pv, iv wv, iv Ev]) := hW.val 11 36 (by decide) (hnd 11 (by kernel_rfl)) rfl
          go_simp
          exact hK _ (hW.wi.same (by decide) (by decide) (by decide) (by decide))
        · intro L A' u hW hL0 hnd K' hK
          have r38 : A'.tmps[38]? = some (.slice (some ⟨gp, 0, none⟩) P P) := hW.val 1 38 (by decide) (hnd 1 (by kernel_rfl)) rfl
          have r39 : A'.tmps[39]? = some (iv (x.val : Int)) := hW.val 2 39 (by decide) (hnd 2 (by kernel_rfl)) rfl
          go_simp
          exact hK _ (hW.wi.same (by decide) (by decide) (by decide) (by decide))
        · intro L A' u hW hL0 hnd K' hK
          have r51 : A'.tmps[51]? = some (.pointer (some ⟨gp, x.val, none⟩)) := hW.val 15 51 (by decide) (hnd 15 (by kernel_rfl)) rfl
          have r48 : A'.tmps[48]? = some (iv pv) := hW.val 12 48 (by decide) (hnd 12 (by kernel_rfl)) rfl
          have l10 : L 10 = true := hnd 10 (by kernel_rfl)
          have l18 : L 18 = false := notYet hW.closed (j := 18) (by rfl) (k := 16) (by kernel_rfl) hL0
          have l19 : L 19 = false := notYet hW.closed (j := 19) (by rfl) (k := 16) (by kernel_rfl) hL0
          have hq := hW.wi.q1 l10 hL0
          have bP := BGP.out.only (HQ.out u hq) (by rintro (e | e) <;> omega)
          have hc := bP.cell x.val
          rw [HCP.out] at hc
          have hf := bP.frozen x.val
          go_simp
          exact hK _ (St4.two l10 l18 l19 (by decide) (by decide) (by decide) ⟨_, hq, rfl⟩)
        · intro L A' u hW hL0 hnd K' hK
          have r41 : A'.tmps[41]? = some (.slice (some ⟨gb, 0, none⟩) P P) := hW.val 4 41 (by decide) (hnd 4 (by kernel_rfl)) rfl
          have r42 : A'.tmps[42]? = some (iv (x.val : Int)) := hW.val 5 42 (by decide) (hnd 5 (by kernel_rfl)) rfl
          go_simp
          exact hK _ (hW.wi.same (by decide) (by decide) (by decide) (by decide))
        · intro L A' u hW hL0 hnd K' hK
          have r52 : A'.tmps[52]? = some (.pointer (some ⟨gb, x.val, none⟩)) := hW.val 17 52 (by decide) (hnd 17 (by kernel_rfl)) rfl
          have r49 : A'.tmps[49]? = some (iv wv) := hW.val 13 49 (by decide) (hnd 13 (by kernel_rfl)) rfl
          have l16 : L 16 = true := hnd 16 (by kernel_rfl)
          have l10 : L 10 = true := hnd 10 (by kernel_rfl)
          have l19 : L 19 = false := notYet hW.closed (j := 19) (by rfl) (k := 18) (by kernel_rfl) hL0
          obtain ⟨u1, hq, rfl⟩ := hW.wi.q2 l16 hL0
          have bP := (BGB.out.only (HQ.out u1 hq) (by rintro (e | e) <;> omega)).off (p := ⟨gp, x.val, none⟩) (fun e => Hgg.out e.symm) (iv pv)
          have hc := bP.cell x.val
          rw [HCB.out] at hc
          have hf := bP.frozen x.val
          go_simp
          exact hK _ (St4.three l10 l16 l19 (by decide) (by decide) (by decide) ⟨_, hq, rfl⟩)
        · intro L A' u hW hL0 hnd K' hK
          have r10 : A'.tmps[10]? = some (.pointer (some ⟨w1.heap.size + 1, 0, none⟩)) := (hW.out 10 (fun j hj => noOut j 10 hj (by kernel_rfl))).trans rfl
          have r50 : A'.tmps[50]? = some (iv Ev) := hW.val 14 50 (by decide) (hnd 14 (by kernel_rfl)) rfl
          have l18 : L 18 = true := hnd 18 (by kernel_rfl)
          have l16 : L 16 = true := hnd 16 (by kernel_rfl)
          have l10 : L 10 = true := hnd 10 (by kernel_rfl)
          obtain ⟨u1, hq, rfl⟩ := hW.wi.q3 l18 hL0
          have bP := ((BK1.out.only (HQ.out u1 hq) (by rintro (e | e) <;> omega)).off (p := ⟨gp, x.val, none⟩) (by show w1.heap.size + 1 ≠ gp; omega) (iv pv)).off (p := ⟨gb, x.val, none⟩) (by show w1.heap.size + 1 ≠ gb; omega) (iv wv)
          have hc := bP.cell 0
          rw [List.getElem?_toArray, List.getElem?_cons_zero] at hc
          have hf := bP.frozen 0
          go_simp
          exact hK _ (St4.four l10 l16 l18 (by decide) (by decide) (by decide) ⟨_, hq, rfl⟩)
      case doneR =>
        intro L u hWI hall
        obtain ⟨u1, hq, rfl⟩ := hWI.q4 (hall 19 (by decide))
        clear hWI hall noOut HCall HCP HCB
        simp only [putV, List.foldl_cons, List.foldl_nil]
        rw [← HQQ.out] at hq
        obtain ⟨a', xs', hl', hR', hG', ho', hcase⟩ := hq
        have dW : Only Nix W W.drew := (Only.refl Nix W).drew
        have oW1 : Only (RG r (w1.heap.size + 1 + 1)) W u1 := (dW.nix).trans ho'
        have bx1 : ∀ q t cs, Box W q t cs → q ≠ r → q ≠ w1.heap.size + 1 + 1 → Box u1 q t cs := fun q t cs hb h1 h2 => hb.only oW1 (by rintro (e | e); exact h1 e; exact h2 e)
        have c1P := bx1 _ _ _ VP.out (by omega) (by omega)
        have c1B := bx1 _ _ _ VB.out (by omega) (by omega)
        have c110 := bx1 _ _ _ V10.out (by omega) (by omega)
        obtain ⟨V, hV⟩ : ∃ V, ((u1.setCell ⟨gp, x.val, none⟩ (iv pv)).setCell ⟨gb, x.val, none⟩ (iv wv)).setCell ⟨w1.heap.size + 1, 0, none⟩ (iv Ev) = V := ⟨_, rfl⟩
        have oV : Only (fun q => q = r ∨ q = w1.heap.size + 1 + 1 ∨ q = gp ∨ q = gb ∨ q = w1.heap.size + 1) W V := by
          rw [← hV]
          exact (((oW1.mono (fun q e => by rcases e with e | e; exact .inl e; exact .inr (.inl e))).setCell (p := ⟨gp, x.val, none⟩) (.inl (.inr (.inr (.inl rfl)))) (iv pv)).setCell (p := ⟨gb, x.val, none⟩) (.inl (.inr (.inr (.inr (.inl rfl))))) (iv wv)).setCell (p := ⟨w1.heap.size + 1, 0, none⟩) (.inl (.inr (.inr (.inr (.inr rfl))))) (iv Ev)
        have bxV : ∀ q t cs, Box W q t cs → q ≠ r → q ≠ w1.heap.size + 1 + 1 → q ≠ gp → q ≠ gb → q ≠ w1.heap.size + 1 → Box V q t cs := fun q t cs hb h1 h2 h3 h4 h5 => hb.only oV (by rintro (e | e | e | e | e); exact h1 e; exact h2 e; exact h3 e; exact h4 e; exact h5 e)
        have rV : Rd V r v bs a' := by
          rw [← hV]
          refine hR'.keep (F := fun q => q = gp ∨ q = gb ∨ q = w1.heap.size + 1) ((((Only.refl (fun q => q = gp ∨ q = gb ∨ q = w1.heap.size + 1) u1).setCell (p := ⟨gp, x.val, none⟩) (.inl (.inl rfl)) (iv pv)).setCell (p := ⟨gb, x.val, none⟩) (.inl (.inr (.inl rfl))) (iv wv)).setCell (p := ⟨w1.heap.size + 1, 0, none⟩) (.inl (.inr (.inr rfl))) (iv Ev)) (by rintro (e | e | e) <;> omega) ?_
          rintro q hq (e | e | e)
          · exact owns_box hR'.own c1P (by decide) (by rw [hq, e])
          · exact owns_box hR'.own c1B (by decide) (by rw [hq, e])
          · exact owns_box hR'.own c110 (by decide) (by rw [hq, e])
        have gV : Box V (w1.heap.size + 1 + 1) 3 (xs'.map iv).toArray := by
          rw [← hV]
          exact ((hG'.off (p := ⟨gp, x.val, none⟩) (by show w1.heap.size + 1 + 1 ≠ gp; omega) (iv pv)).off (p := ⟨gb, x.val, none⟩) (by show w1.heap.size + 1 + 1 ≠ gb; omega) (iv wv)).off (p := ⟨w1.heap.size + 1, 0, none⟩) (by show w1.heap.size + 1 + 1 ≠ w1.heap.size + 1; omega) (iv Ev)
        have pV : Box V gp 3 (((setAll (List.replicate P 0) (pre.map Fin.val) (rs.map (·.1))).set x.val pv).map iv).toArray := by
          rw [← hV, List.map_set, ← List.setIfInBounds_toArray]
          exact ((c1P.put x.val (iv pv)).off (p := ⟨gb, x.val, none⟩) Hgg.out (iv wv)).off (p := ⟨w1.heap.size + 1, 0, none⟩) (by show gp ≠ w1.heap.size + 1; omega) (iv Ev)
        have bV : Box V gb 3 (((setAll (List.replicate P 0) (pre.map Fin.val) (rs.map (·.2.1))).set x.val wv).map iv).toArray := by
          rw [← hV, List.map_set, ← List.setIfInBounds_toArray]
          exact ((c1B.off (p := ⟨gp, x.val, none⟩) (fun e => Hgg.out e.symm) (iv pv)).put x.val (iv wv)).off (p := ⟨w1.heap.size + 1, 0, none⟩) (by show gb ≠ w1.heap.size + 1; omega) (iv Ev)
        have eV : Box V (w1.heap.size + 1) 35 #[iv Ev] := by
          rw [← hV]
          exact ((c110.off (p := ⟨gp, x.val, none⟩) (by show w1.heap.size + 1 ≠ gp; omega) (iv pv)).off (p := ⟨gb, x.val, none⟩) (by show w1.heap.size + 1 ≠ gb; omega) (iv wv)).put 0 (iv Ev)
        have owV : Only (Just r) w V := HOW.out.then oV (by rintro q (e | e | e | e | e); exact .inl e; all_goals exact .inr (by omega))
        have lks : pre.length = rs.length := by have := Hrb.out.len; rw [List.length_map] at this; exact this.symm
        have mapx : (pre ++ [x]).map Fin.val = pre.map Fin.val ++ [x.val] := by rw [List.map_append]; rfl
        have kF : ∀ u, Only (fun q => q = r ∨ q = w1.heap.size + 1 + 1 ∨ q = gp ∨ q = gb ∨ q = w1.heap.size + 1 ∨ q = w.heap.size + 1 ∨ q = w.heap.size + 1 + 1 ∨ q = w.heap.size + 1 + 1 + 1) W u → KeepsFrom (w1.heap.size + 6) W u := fun u hu => keeps_of hu (by
          rintro k (e | e | e | e | e | e | e | e) _ _
          · subst e; exact ⟨_, _, VR.out.box⟩
          · subst e; exact ⟨_, _, VG.out⟩
          · subst e; exact ⟨_, _, VP.out⟩
          · subst e; exact ⟨_, _, VB.out⟩
          · subst e; exact ⟨_, _, V10.out⟩
          · subst e; exact ⟨_, _, V6.out⟩
          · subst e; exact ⟨_, _, V7.out⟩
          · subst e; exact ⟨_, _, V8.out⟩)
        rw [hV]
        have HoV := Lib.hid oV
        have HrV := Lib.hid rV
        have HgV := Lib.hid gV
        have HpV := Lib.hid pV
        have HbV := Lib.hid bV
        have HeV := Lib.hid eV
        have HoW := Lib.hid owV
        have HkF := Lib.hid kF
        have HbxV := Lib.hid bxV
        have Hcase := Lib.hid hcase
        have Hmapx := Lib.hid mapx
        have Hlks := Lib.hid lks
        have Hl' := Lib.hid hl'
        clear oV rV gV pV bV eV owV kF bxV hcase mapx lks hl' hR' hG' ho' oW1 bx1 c1P c1B c110 dW k3 k9 HQQ HQ BK BK1 BGP BGB
        have cE := HeV.out.cell 0
        rw [List.getElem?_toArray, List.getElem?_cons_zero] at cE
        have hE3 : Ev = 0 ∨ Ev ≠ 0 := Classical.em _
        rcases hE3 with hE0 | hE0
        · subst hE0
          gi_wp2
          rcases Hcase.out with ⟨_, ys, hok, hxs⟩ | ⟨h10 | h10, _⟩
          · refine ⟨HkF.out V (HoV.out.mono (by rintro q (e | e | e | e | e) <;> simp [e])), KeepB.of HoV.out (by omega) (fun k h1 h2 => by rintro (e | e | e | e | e) <;> omega), ⟨rs ++ [(pv, wv, ys)], a', ?_, HrV.out, ?_, ?_, ?_, ?_⟩, HbxV.out _ _ _ V3.out (by omega) (by omega) (by omega) (by omega) (by omega), HbxV.out _ _ _ V6.out (by omega) (by omega) (by omega) (by omega) (by omega), HbxV.out _ _ _ V7.out (by omega) (by omega) (by omega) (by omega) (by omega), HbxV.out _ _ _ V8.out (by omega) (by omega) (by omega) (by omega) (by omega), HbxV.out _ _ _ V9.out (by omega) (by omega) (by omega) (by omega) (by omega), HeV.out, ⟨HbxV.out _ _ _ Hit.out.b0 (by omega) (by omega) (by omega) (by omega) (by omega), HbxV.out _ _ _ Hit.out.b1 (by omega) (by omega) (by omega) (by omega) (by omega), HbxV.out _ _ _ Hit.out.b2 (by omega) (by omega) (by omega) (by omega) (by omega)⟩, HoW.out, Nat.le_trans hbig HoV.out.size⟩
            · rw [Hmapx.out]
              exact Hrb.out.snoc (t := (pv, wv, ys)) hok
            · rw [Hmapx.out, List.map_append, List.map_singleton, setAll_snoc _ _ _ _ _ (by simp only [List.length_map]; exact Hlks.out)]
              exact HpV.out
            · rw [Hmapx.out, List.map_append, List.map_singleton, setAll_snoc _ _ _ _ _ (by simp only [List.length_map]; exact Hlks.out)]
              exact HbV.out
            · rw [Hmapx.out, List.map_append, List.map_singleton, layAll_snoc _ _ _ _ _ _ _ (by simp only [List.length_map]; exact Hlks.out), HXS.out, ← hxs]
              exact HgV.out
            · rw [Hmapx.out, List.map_append, List.map_singleton, layAll_snoc _ _ _ _ _ _ _ (by simp only [List.length_map]; exact Hlks.out), HXS.out, ← hxs, Hl'.out]
              exact HlayX.out
          · cases h10
          · cases h10
        · have hEb : (Ev != 0) = true := by simpa using hE0
          have A9 := Lib.hid ((HbxV.out _ _ _ V9.out (by omega) (by omega) (by omega) (by omega) (by omega)).drew)
          have A10 := Lib.hid HeV.out.drew
          have A6 := Lib.hid ((HbxV.out _ _ _ V6.out (by omega) (by omega) (by omega) (by omega) (by omega)).drew)
          have A7 := Lib.hid ((HbxV.out _ _ _ V7.out (by omega) (by omega) (by omega) (by omega) (by omega)).drew)
          have A8 := Lib.hid ((HbxV.out _ _ _ V8.out (by omega) (by omega) (by omega) (by omega) (by omega)).drew)
          have oVd := Lib.hid HoV.out.drew
          have oWd := Lib.hid HoW.out.drew
          have oVV := Lib.hid ((Only.refl (fun q => q = w.heap.size + 1 ∨ q = w.heap.size + 1 + 1 ∨ q = w.heap.size + 1 + 1 + 1) V).drew)
          obtain ⟨Vd, hVd⟩ : ∃ Vd, V.drew = Vd := ⟨_, rfl⟩
          rw [hVd] at A6 A7 A8 A9 A10 oVd oWd oVV
          have HVd := Lib.hid hVd
          clear hVd
          gi_wp2_with fail
          have noOutX : ∀ j s, j < 5 → (([some 55, some 56, none, none, none] : List (Option Nat)).all fun d => d != some s) = true → ([some 55, some 56, none, none, none] : List (Option Nat)).getD j none ≠ some s := by
            intro j s hj ha e
            rw [List.getD_eq_getElem?_getD, List.getElem?_eq_getElem (by exact hj), Option.getD_some] at e
            have := List.all_eq_true.1 ha _ (List.getElem_mem (by exact hj))
            rw [e] at this
            simp at this
          refine region_val_in _ _ (by kernel_rfl) (fun k0 => ([some 55, some 56, none, none, none] : List (Option Nat)).getD k0 none) (fun k0 => ([(.agg #[iv m, iv o, .slice (some ⟨gp, 0, none⟩) P P, .slice (some ⟨gb, 0, none⟩) P P]), (iv Ev), (undef), (undef), (undef)] : List Value).getD k0 undef) (St3 2 3 4 (fun u => u = Vd) (fun u => u = (Vd.setCell ⟨w.heap.size + 1, 0, none⟩ (.slice none 0 0))) (fun u => u = (((((Vd.setCell ⟨w.heap.size + 1, 0, none⟩ (.slice none 0 0)).setCell ⟨w.heap.size + 1 + 1, 0, none⟩ (iv m)).setCell ⟨w.heap.size + 1 + 1, 1, none⟩ (iv o)).setCell ⟨w.heap.size + 1 + 1, 2, none⟩ (.slice (some ⟨gp, 0, none⟩) P P)).setCell ⟨w.heap.size + 1 + 1, 3, none⟩ (.slice (some ⟨gb, 0, none⟩) P P))) (fun u => u = ((((((Vd.setCell ⟨w.heap.size + 1, 0, none⟩ (.slice none 0 0)).setCell ⟨w.heap.size + 1 + 1, 0, none⟩ (iv m)).setCell ⟨w.heap.size + 1 + 1, 1, none⟩ (iv o)).setCell ⟨w.heap.size + 1 + 1, 2, none⟩ (.slice (some ⟨gp, 0, none⟩) P P)).setCell ⟨w.heap.size + 1 + 1, 3, none⟩ (.slice (some ⟨gb, 0, none⟩) P P)).setCell ⟨w.heap.size + 1 + 1 + 1, 0, none⟩ (iv Ev)))) 59 5 rfl (by kernel_rfl) (by kernel_rfl) rfl (by kernel_rfl) (by kernel_rfl) (by kernel_rfl) ⟨fun _ => HVd.out, (fun e => by cases e), (fun e => by cases e), (fun e => by cases e)⟩ ?stepsX [(55, .agg #[iv m, iv o, .slice (some ⟨gp, 0, none⟩) P P, .slice (some ⟨gb, 0, none⟩) P P]), (56, iv Ev)] rfl ?doneX
          case stepsX =>
            refine ⟨?_, ?_, ?_, ?_, ?_, trivial⟩
            · intro L A' u hW hL0 hnd K' hK
              have r9 : A'.tmps[9]? = some (.pointer (some ⟨w1.heap.size, 0, none⟩)) := (hW.out 9 (fun j hj => noOutX j 9 hj (by kernel_rfl))).trans rfl
              have bK := kbox3 (N := w.heap.size) (fun _ h => h) (fun _ h => h) hW.wi (notYet hW.closed (j := 4) (by rfl) (k := 0) (by kernel_rfl) hL0) A9.out (by omega) (by omega)
              have g0 := bK.cell 0
              have g1 := bK.cell 1
              have g2 := bK.cell 2
              have g3 := bK.cell 3
              simp only [List.getElem?_toArray, List.getElem?_cons_zero, List.getElem?_cons_succ] at g0 g1 g2 g3
              go_simp
              exact hK _ (hW.wi.same (by decide) (by decide) (by decide))
            · intro L A' u hW hL0 hnd K' hK
              have r10 : A'.tmps[10]? = some (.pointer (some ⟨w1.heap.size + 1, 0, none⟩)) := (hW.out 10 (fun j hj => noOutX j 10 hj (by kernel_rfl))).trans rfl
              have bK := kbox3 (N := w.heap.size) (fun _ h => h) (fun _ h => h) hW.wi (notYet hW.closed (j := 4) (by rfl) (k := 1) (by kernel_rfl) hL0) A10.out (by omega) (by omega)
              have g0 := bK.cell 0
              simp only [List.getElem?_toArray, List.getElem?_cons_zero] at g0
              go_simp
              exact hK _ (hW.wi.same (by decide) (by decide) (by decide))
            · intro L A' u hW hL0 hnd K' hK
              have r6 : A'.tmps[6]? = some (.pointer (some ⟨w.heap.size + 1, 0, none⟩)) := (hW.out 6 (fun j hj => noOutX j 6 hj (by kernel_rfl))).trans rfl
              have hu := hW.wi.q0 hL0
              subst hu
              have l3 : L 3 = false := notYet hW.closed (j := 3) (by rfl) (k := 2) (by kernel_rfl) hL0
              have l4 : L 4 = false := notYet hW.closed (j := 4) (by rfl) (k := 2) (by kernel_rfl) hL0
              have g0 := A6.out.cell 0
              simp only [List.getElem?_toArray, List.getElem?_cons_zero] at g0
              have e0 := A6.out.frozen 0
              go_simp
              exact hK _ (St3.one l3 l4 (by decide) (by decide) rfl)
            · intro L A' u hW hL0 hnd K' hK
              have r7 : A'.tmps[7]? = some (.pointer (some ⟨w.heap.size + 1 + 1, 0, none⟩)) := (hW.out 7 (fun j hj => noOutX j 7 hj (by kernel_rfl))).trans rfl
              have r55 : A'.tmps[55]? = some (.agg #[iv m, iv o, .slice (some ⟨gp, 0, none⟩) P P, .slice (some ⟨gb, 0, none⟩) P P]) := hW.val 0 55 (by decide) (hnd 0 (by kernel_rfl)) rfl
              have l2 : L 2 = true := hnd 2 (by kernel_rfl)
              have l4 : L 4 = false := notYet hW.closed (j := 4) (by rfl) (k := 3) (by kernel_rfl) hL0
              have hu := hW.wi.q1 l2 hL0
              subst hu
              have b7' := A7.out.off (p := ⟨w.heap.size + 1, 0, none⟩) (by show w.heap.size + 1 + 1 ≠ w.heap.size + 1; omega) (.slice none 0 0)
              have g0 := b7'.cell 0
              have g1 := b7'.cell 1
              have g2 := b7'.cell 2
              have g3 := b7'.cell 3
              simp only [List.getElem?_toArray, List.getElem?_cons_zero, List.getElem?_cons_succ] at g0 g1 g2 g3
              have e0 := b7'.frozen 0
              have e1 := b7'.frozen 1
              have e2 := b7'.frozen 2
              have e3 := b7'.frozen 3
              go_simp
              exact hK _ (St3.two l2 l4 (by decide) (by decide) rfl)
            · intro L A' u hW hL0 hnd K' hK
              have r8 : A'.tmps[8]? = some (.pointer (some ⟨w.heap.size + 1 + 1 + 1, 0, none⟩)) := (hW.out 8 (fun j hj => noOutX j 8 hj (by kernel_rfl))).trans rfl
              have r56 : A'.tmps[56]? = some (iv Ev) := hW.val 1 56 (by decide) (hnd 1 (by kernel_rfl)) rfl
              have l3 : L 3 = true := hnd 3 (by kernel_rfl)
              have l2 : L 2 = true := hnd 2 (by kernel_rfl)
              have hu := hW.wi.q2 l3 hL0
              subst hu
              have b8' := plan_off (A8.out.off (p := ⟨w.heap.size + 1, 0, none⟩) (by show w.heap.size + 1 + 1 + 1 ≠ w.heap.size + 1; omega) (.slice none 0 0)) (show w.heap.size + 1 + 1 + 1 ≠ w.heap.size + 1 + 1 by omega) (iv m) (iv o) (.slice (some ⟨gp, 0, none⟩) P P) (.slice (some ⟨gb, 0, none⟩) P P)
              have g0 := b8'.cell 0
              simp only [List.getElem?_toArray, List.getElem?_cons_zero] at g0
              have e0 := b8'.frozen 0
              go_simp
              exact hK _ (St3.three l2 l3 (by decide) (by decide) rfl)
          case doneX =>
            intro L u hWI hall
            have hu := hWI.q3 (hall 4 (by decide))
            clear hWI hall noOutX
            subst hu
            simp only [putV, List.foldl_cons, List.foldl_nil]
            have oX : Only (fun q => q = r ∨ q = w1.heap.size + 1 + 1 ∨ q = gp ∨ q = gb ∨ q = w1.heap.size + 1 ∨ q = w.heap.size + 1 ∨ q = w.heap.size + 1 + 1 ∨ q = w.heap.size + 1 + 1 + 1) W ((((((Vd.setCell ⟨w.heap.size + 1, 0, none⟩ (.slice none 0 0)).setCell ⟨w.heap.size + 1 + 1, 0, none⟩ (iv m)).setCell ⟨w.heap.size + 1 + 1, 1, none⟩ (iv o)).setCell ⟨w.heap.size + 1 + 1, 2, none⟩ (.slice (some ⟨gp, 0, none⟩) P P)).setCell ⟨w.heap.size + 1 + 1, 3, none⟩ (.slice (some ⟨gb, 0, none⟩) P P)).setCell ⟨w.heap.size + 1 + 1 + 1, 0, none⟩ (iv Ev)) :=
              (plan_only (((oVd.out.mono (F' := fun q => q = r ∨ q = w1.heap.size + 1 + 1 ∨ q = gp ∨ q = gb ∨ q = w1.heap.size + 1 ∨ q = w.heap.size + 1 ∨ q = w.heap.size + 1 + 1 ∨ q = w.heap.size + 1 + 1 + 1) (by rintro q (e | e | e | e | e) <;> simp [e]))).setCell (p := ⟨w.heap.size + 1, 0, none⟩) (.inl (by simp)) _) (.inl (by simp)) _ _ _ _).setCell (p := ⟨w.heap.size + 1 + 1 + 1, 0, none⟩) (.inl (by simp)) _
            have z6 : Box ((((((Vd.setCell ⟨w.heap.size + 1, 0, none⟩ (.slice none 0 0)).setCell ⟨w.heap.size + 1 + 1, 0, none⟩ (iv m)).setCell ⟨w.heap.size + 1 + 1, 1, none⟩ (iv o)).setCell ⟨w.heap.size + 1 + 1, 2, none⟩ (.slice (some ⟨gp, 0, none⟩) P P)).setCell ⟨w.heap.size + 1 + 1, 3, none⟩ (.slice (some ⟨gb, 0, none⟩) P P)).setCell ⟨w.heap.size + 1 + 1 + 1, 0, none⟩ (iv Ev)) (w.heap.size + 1) 22 #[.slice none 0 0] := (plan_off (A6.out.put 0 (.slice none 0 0)) (by omega) _ _ _ _).off (p := ⟨w.heap.size + 1 + 1 + 1, 0, none⟩) (by show w.heap.size + 1 ≠ w.heap.size + 1 + 1 + 1; omega) _
            have z7 : Box ((((((Vd.setCell ⟨w.heap.size + 1, 0, none⟩ (.slice none 0 0)).setCell ⟨w.heap.size + 1 + 1, 0, none⟩ (iv m)).setCell ⟨w.heap.size + 1 + 1, 1, none⟩ (iv o)).setCell ⟨w.heap.size + 1 + 1, 2, none⟩ (.slice (some ⟨gp, 0, none⟩) P P)).setCell ⟨w.heap.size + 1 + 1, 3, none⟩ (.slice (some ⟨gb, 0, none⟩) P P)).setCell ⟨w.heap.size + 1 + 1 + 1, 0, none⟩ (iv Ev)) (w.heap.size + 1 + 1) 26 #[iv m, iv o, .slice (some ⟨gp, 0, none⟩) P P, .slice (some ⟨gb, 0, none⟩) P P] := (plan_put (A7.out.off (p := ⟨w.heap.size + 1, 0, none⟩) (by show w.heap.size + 1 + 1 ≠ w.heap.size + 1; omega) _) _ _ _ _).off (p := ⟨w.heap.size + 1 + 1 + 1, 0, none⟩) (by show w.heap.size + 1 + 1 ≠ w.heap.size + 1 + 1 + 1; omega) _
            have z8 : Box ((((((Vd.setCell ⟨w.heap.size + 1, 0, none⟩ (.slice none 0 0)).setCell ⟨w.heap.size + 1 + 1, 0, none⟩ (iv m)).setCell ⟨w.heap.size + 1 + 1, 1, none⟩ (iv o)).setCell ⟨w.heap.size + 1 + 1, 2, none⟩ (.slice (some ⟨gp, 0, none⟩) P P)).setCell ⟨w.heap.size + 1 + 1, 3, none⟩ (.slice (some ⟨gb, 0, none⟩) P P)).setCell ⟨w.heap.size + 1 + 1 + 1, 0, none⟩ (iv Ev)) (w.heap.size + 1 + 1 + 1) 35 #[iv Ev] := (plan_off (A8.out.off (p := ⟨w.heap.size + 1, 0, none⟩) (by show w.heap.size + 1 + 1 + 1 ≠ w.heap.size + 1; omega) _) (by omega) _ _ _ _).put 0 (iv Ev)
            have zO : Only (Just r) w ((((((Vd.setCell ⟨w.heap.size + 1, 0, none⟩ (.slice none 0 0)).setCell ⟨w.heap.size + 1 + 1, 0, none⟩ (iv m)).setCell ⟨w.heap.size + 1 + 1, 1, none⟩ (iv o)).setCell ⟨w.heap.size + 1 + 1, 2, none⟩ (.slice (some ⟨gp, 0, none⟩) P P)).setCell ⟨w.heap.size + 1 + 1, 3, none⟩ (.slice (some ⟨gb, 0, none⟩) P P)).setCell ⟨w.heap.size + 1 + 1 + 1, 0, none⟩ (iv Ev)) := (plan_only ((oWd.out).setCell (p := ⟨w.heap.size + 1, 0, none⟩) (.inr (by show w.heap.size ≤ w.heap.size + 1; omega)) _) (.inr (by omega)) _ _ _ _).setCell (p := ⟨w.heap.size + 1 + 1 + 1, 0, none⟩) (.inr (by show w.heap.size ≤ w.heap.size + 1 + 1 + 1; omega)) _
            have zR : Rd ((((((Vd.setCell ⟨w.heap.size + 1, 0, none⟩ (.slice none 0 0)).setCell ⟨w.heap.size + 1 + 1, 0, none⟩ (iv m)).setCell ⟨w.heap.size + 1 + 1, 1, none⟩ (iv o)).setCell ⟨w.heap.size + 1 + 1, 2, none⟩ (.slice (some ⟨gp, 0, none⟩) P P)).setCell ⟨w.heap.size + 1 + 1, 3, none⟩ (.slice (some ⟨gb, 0, none⟩) P P)).setCell ⟨w.heap.size + 1 + 1 + 1, 0, none⟩ (iv Ev)) r v bs a' := by
              have oo : Only (fun q => q = w.heap.size + 1 ∨ q = w.heap.size + 1 + 1 ∨ q = w.heap.size + 1 + 1 + 1) V ((((((Vd.setCell ⟨w.heap.size + 1, 0, none⟩ (.slice none 0 0)).setCell ⟨w.heap.size + 1 + 1, 0, none⟩ (iv m)).setCell ⟨w.heap.size + 1 + 1, 1, none⟩ (iv o)).setCell ⟨w.heap.size + 1 + 1, 2, none⟩ (.slice (some ⟨gp, 0, none⟩) P P)).setCell ⟨w.heap.size + 1 + 1, 3, none⟩ (.slice (some ⟨gb, 0, none⟩) P P)).setCell ⟨w.heap.size + 1 + 1 + 1, 0, none⟩ (iv Ev)) := (plan_only ((oVV.out).setCell (p := ⟨w.heap.size + 1, 0, none⟩) (.inl (.inl rfl)) _) (.inl (.inr (.inl rfl))) _ _ _ _).setCell (p := ⟨w.heap.size + 1 + 1 + 1, 0, none⟩) (.inl (.inr (.inr rfl))) _
              refine HrV.out.keep oo (by rintro (e | e | e) <;> omega) ?_
              rintro q hq (e | e | e)
              · exact owns_box HrV.out.own (HbxV.out _ _ _ V6.out (by omega) (by omega) (by omega) (by omega) (by omega)) (by decide) (by rw [hq, e])
              · exact owns_box HrV.out.own (HbxV.out _ _ _ V7.out (by omega) (by omega) (by omega) (by omega) (by omega)) (by decide) (by rw [hq, e])
              · exact owns_box HrV.out.own (HbxV.out _ _ _ V8.out (by omega) (by omega) (by omega) (by omega) (by omega)) (by decide) (by rw [hq, e])
            have hbad : (Ev = 10 ∨ Ev = 11) ∧ ∀ rs' a2, ¬ RBk bs m (fun k => frm S s (k + 1) - frm S s k) ((pre ++ [x]).map Fin.val) (a + 6) rs' a2 := by
              rcases Hcase.out with ⟨h0, _⟩ | ⟨h10, hno⟩
              · exact absurd h0 hE0
              · refine ⟨h10, fun rs' a2 h => ?_⟩
                rw [Hmapx.out] at h
                obtain ⟨rs1, a1, h1, rs2, h2, _⟩ := h.cut
                obtain ⟨_, rfl⟩ := h1.det Hrb.out
                cases rs2 with
                | nil => exact h2
                | cons t rs2 =>
                  obtain ⟨q, h3, _⟩ := h2
                  exact hno _ _ _ _ h3
            have Hbad := Lib.hid hbad
            have HZ := Lib.hid (HkF.out _ oX)
            have HZ2 : Hid (RbX w r v bs m o P gp gb (∀ rs a', ¬ RBk bs m (fun k => frm S s (k + 1) - frm S s k) ((pre ++ [x]).map Fin.val) (a + 6) rs a') .ret ((((((Vd.setCell ⟨w.heap.size + 1, 0, none⟩ (.slice none 0 0)).setCell ⟨w.heap.size + 1 + 1, 0, none⟩ (iv m)).setCell ⟨w.heap.size + 1 + 1, 1, none⟩ (iv o)).setCell ⟨w.heap.size + 1 + 1, 2, none⟩ (.slice (some ⟨gp, 0, none⟩) P P)).setCell ⟨w.heap.size + 1 + 1, 3, none⟩ (.slice (some ⟨gb, 0, none⟩) P P)).setCell ⟨w.heap.size + 1 + 1 + 1, 0, none⟩ (iv Ev))) := Lib.hid ⟨rfl, Hbad.out.2, ⟨Ev, a', Hbad.out.1, zR, z8⟩, z6, z7, zO⟩
            clear oX z6 z7 z8 zO zR hbad
            gi_wp2
            exact ⟨by first | exact HZ.out | (rw [hsz4]; exact HZ.out), HZ2.out⟩
    case done =>
      rintro D ys W hD hys hI hK
      rw [hys] at hI
      obtain ⟨⟨rs, aC, hrb, hRd, bgp, bgb, bg, hlay⟩, b3, b6, b7, b8, b9, b10, hit, hO, hbig⟩ := hI
      have A6 := Lib.hid b6.drew
      have A7 := Lib.hid b7.drew
      have A8 := Lib.hid b8.drew
      have A9 := Lib.hid b9.drew
      have oWd := Lib.hid hO.drew
      have oVV := Lib.hid ((Only.refl (fun q => q = w.heap.size + 1 ∨ q = w.heap.size + 1 + 1 ∨ q = w.heap.size + 1 + 1 + 1) W).drew)
      obtain ⟨Vd, hVd⟩ : ∃ Vd, W.drew = Vd := ⟨_, rfl⟩
      have KD : Hid (Vd.heap[D]? = some (.deferred (some []))) := Lib.hid (by rw [← hVd]; exact hK)
      rw [hVd] at A6 A7 A8 A9 oWd oVV
      have HVd := Lib.hid hVd
      have Hrb := Lib.hid hrb
      have V6 := Lib.hid b6
      have V7 := Lib.hid b7
      have V8 := Lib.hid b8
      have VR := Lib.hid hRd
      have VG := Lib.hid bg
      have VP := Lib.hid bgp
      have VB := Lib.hid bgb
      clear hVd hrb b3 b6 b7 b8 b9 b10 bg bgp bgb hRd hO hit hlay hys hK
      gi_wp2_with fail
      refine wpIn_wide.2 ?_
      have noOutD : ∀ j s, j < 5 → (([some 57, some 58, none, none, none] : List (Option Nat)).all fun d => d != some s) = true → ([some 57, some 58, none, none, none] : List (Option Nat)).getD j none ≠ some s := by
        intro j s hj ha e
        rw [List.getD_eq_getElem?_getD, List.getElem?_eq_getElem (by exact hj), Option.getD_some] at e
        have := List.all_eq_true.1 ha _ (List.getElem_mem (by exact hj))
        rw [e] at this
        simp at this
      refine region_val (by kernel_rfl) (fun k0 => ([some 57, some 58, none, none, none] : List (Option Nat)).getD k0 none) (fun k0 => ([(.slice (some ⟨w1.heap.size + 1 + 1, 0, none⟩) n n), (.agg #[iv m, iv o, .slice (some ⟨gp, 0, none⟩) P P, .slice (some ⟨gb, 0, none⟩) P P]), (undef), (undef), (undef)] : List Value).getD k0 undef) (St3 2 3 4 (fun u => u = Vd) (fun u => u = (Vd.setCell ⟨w.heap.size + 1, 0, none⟩ (.slice (some ⟨w1.heap.size + 1 + 1, 0, none⟩) n n))) (fun u => u = (((((Vd.setCell ⟨w.heap.size + 1, 0, none⟩ (.slice (some ⟨w1.heap.size + 1 + 1, 0, none⟩) n n)).setCell ⟨w.heap.size + 1 + 1, 0, none⟩ (iv m)).setCell ⟨w.heap.size + 1 + 1, 1, none⟩ (iv o)).setCell ⟨w.heap.size + 1 + 1, 2, none⟩ (.slice (some ⟨gp, 0, none⟩) P P)).setCell ⟨w.heap.size + 1 + 1, 3, none⟩ (.slice (some ⟨gb, 0, none⟩) P P))) (fun u => u = ((((((Vd.setCell ⟨w.heap.size + 1, 0, none⟩ (.slice (some ⟨w1.heap.size + 1 + 1, 0, none⟩) n n)).setCell ⟨w.heap.size + 1 + 1, 0, none⟩ (iv m)).setCell ⟨w.heap.size + 1 + 1, 1, none⟩ (iv o)).setCell ⟨w.heap.size + 1 + 1, 2, none⟩ (.slice (some ⟨gp, 0, none⟩) P P)).setCell ⟨w.heap.size + 1 + 1, 3, none⟩ (.slice (some ⟨gb, 0, none⟩) P P)).setCell ⟨w.heap.size + 1 + 1 + 1, 0, none⟩ (iv 0)))) 59 5 rfl (by kernel_rfl) (by kernel_rfl) rfl (by kernel_rfl) (by kernel_rfl) ⟨fun _ => HVd.out, (fun e => by cases e), (fun e => by cases e), (fun e => by cases e)⟩ ?stepsD [(57, .slice (some ⟨w1.heap.size + 1 + 1, 0, none⟩) n n), (58, .agg #[iv m, iv o, .slice (some ⟨gp, 0, none⟩) P P, .slice (some ⟨gb, 0, none⟩) P P])] rfl ?doneD
      case stepsD =>
        refine ⟨?_, ?_, ?_, ?_, ?_, trivial⟩
        · intro L A' u hW hL0 hnd K' hK
          have r11 : A'.tmps[11]? = some (.slice (some ⟨w1.heap.size + 1 + 1, 0, none⟩) n n) := (hW.out 11 (fun j hj => noOutD j 11 hj (by kernel_rfl))).trans rfl
          go_simp
          exact hK _ (hW.wi.same (by decide) (by decide) (by decide))
        · intro L A' u hW hL0 hnd K' hK
          have r9 : A'.tmps[9]? = some (.pointer (some ⟨w1.heap.size, 0, none⟩)) := (hW.out 9 (fun j hj => noOutD j 9 hj (by kernel_rfl))).trans rfl
          have bK := kbox3 (N := w.heap.size) (fun _ h => h) (fun _ h => h) hW.wi (notYet hW.closed (j := 4) (by rfl) (k := 1) (by kernel_rfl) hL0) A9.out (by omega) (by omega)
          have g0 := bK.cell 0
          have g1 := bK.cell 1
          have g2 := bK.cell 2
          have g3 := bK.cell 3
          simp only [List.getElem?_toArray, List.getElem?_cons_zero, List.getElem?_cons_succ] at g0 g1 g2 g3
          go_simp
          exact hK _ (hW.wi.same (by decide) (by decide) (by decide))
        · intro L A' u hW hL0 hnd K' hK
          have r6 : A'.tmps[6]? = some (.pointer (some ⟨w.heap.size + 1, 0, none⟩)) := (hW.out 6 (fun j hj => noOutD j 6 hj (by kernel_rfl))).trans rfl
          have r57 : A'.tmps[57]? = some (.slice (some ⟨w1.heap.size + 1 + 1, 0, none⟩) n n) := hW.val 0 57 (by decide) (hnd 0 (by kernel_rfl)) rfl
          have hu := hW.wi.q0 hL0
          subst hu
          have l3 : L 3 = false := notYet hW.closed (j := 3) (by rfl) (k := 2) (by kernel_rfl) hL0
          have l4 : L 4 = false := notYet hW.closed (j := 4) (by rfl) (k := 2) (by kernel_rfl) hL0
          have g0 := A6.out.cell 0
          simp only [List.getElem?_toArray, List.getElem?_cons_zero] at g0
          have e0 := A6.out.frozen 0
          go_simp
          exact hK _ (St3.one l3 l4 (by decide) (by decide) rfl)
        · intro L A' u hW hL0 hnd K' hK
          have r7 : A'.tmps[7]? = some (.pointer (some ⟨w.heap.size + 1 + 1, 0, none⟩)) := (hW.out 7 (fun j hj => noOutD j 7 hj (by kernel_rfl))).trans rfl
          have r58 : A'.tmps[58]? = some (.agg #[iv m, iv o, .slice (some ⟨gp, 0, none⟩) P P, .slice (some ⟨gb, 0, none⟩) P P]) := hW.val 1 58 (by decide) (hnd 1 (by kernel_rfl)) rfl
          have l2 : L 2 = true := hnd 2 (by kernel_rfl)
          have l4 : L 4 = false := notYet hW.closed (j := 4) (by rfl) (k := 3) (by kernel_rfl) hL0
          have hu := hW.wi.q1 l2 hL0
          subst hu
          have b7' := A7.out.off (p := ⟨w.heap.size + 1, 0, none⟩) (by show w.heap.size + 1 + 1 ≠ w.heap.size + 1; omega) (.slice (some ⟨w1.heap.size + 1 + 1, 0, none⟩) n n)
          have g0 := b7'.cell 0
          have g1 := b7'.cell 1
          have g2 := b7'.cell 2
          have g3 := b7'.cell 3
          simp only [List.getElem?_toArray, List.getElem?_cons_zero, List.getElem?_cons_succ] at g0 g1 g2 g3
          have e0 := b7'.frozen 0
          have e1 := b7'.frozen 1
          have e2 := b7'.frozen 2
          have e3 := b7'.frozen 3
          go_simp
          exact hK _ (St3.two l2 l4 (by decide) (by decide) rfl)
        · intro L A' u hW hL0 hnd K' hK
          have r8 : A'.tmps[8]? = some (.pointer (some ⟨w.heap.size + 1 + 1 + 1, 0, none⟩)) := (hW.out 8 (fun j hj => noOutD j 8 hj (by kernel_rfl))).trans rfl
          have l3 : L 3 = true := hnd 3 (by kernel_rfl)
          have l2 : L 2 = true := hnd 2 (by kernel_rfl)
          have hu := hW.wi.q2 l3 hL0
          subst hu
          have b8' := plan_off (A8.out.off (p := ⟨w.heap.size + 1, 0, none⟩) (by show w.heap.size + 1 + 1 + 1 ≠ w.heap.size + 1; omega) (.slice (some ⟨w1.heap.size + 1 + 1, 0, none⟩) n n)) (show w.heap.size + 1 + 1 + 1 ≠ w.heap.size + 1 + 1 by omega) (iv m) (iv o) (.slice (some ⟨gp, 0, none⟩) P P) (.slice (some ⟨gb, 0, none⟩) P P)
          have g0 := b8'.cell 0
          simp only [List.getElem?_toArray, List.getElem?_cons_zero] at g0
          have e0 := b8'.frozen 0
          go_simp
          exact hK _ (St3.three l2 l3 (by decide) (by decide) rfl)
      case doneD =>
        intro L u hWI hall
        have hu := hWI.q3 (hall 4 (by decide))
        clear hWI hall noOutD
        subst hu
        simp only [putV, List.foldl_cons, List.foldl_nil]
        have z6 : Box ((((((Vd.setCell ⟨w.heap.size + 1, 0, none⟩ (.slice (some ⟨w1.heap.size + 1 + 1, 0, none⟩) n n)).setCell ⟨w.heap.size + 1 + 1, 0, none⟩ (iv m)).setCell ⟨w.heap.size + 1 + 1, 1, none⟩ (iv o)).setCell ⟨w.heap.size + 1 + 1, 2, none⟩ (.slice (some ⟨gp, 0, none⟩) P P)).setCell ⟨w.heap.size + 1 + 1, 3, none⟩ (.slice (some ⟨gb, 0, none⟩) P P)).setCell ⟨w.heap.size + 1 + 1 + 1, 0, none⟩ (iv 0)) (w.heap.size + 1) 22 #[.slice (some ⟨w1.heap.size + 1 + 1, 0, none⟩) n n] := (plan_off (A6.out.put 0 (.slice (some ⟨w1.heap.size + 1 + 1, 0, none⟩) n n)) (by omega) _ _ _ _).off (p := ⟨w.heap.size + 1 + 1 + 1, 0, none⟩) (by show w.heap.size + 1 ≠ w.heap.size + 1 + 1 + 1; omega) _
        have z7 : Box ((((((Vd.setCell ⟨w.heap.size + 1, 0, none⟩ (.slice (some ⟨w1.heap.size + 1 + 1, 0, none⟩) n n)).setCell ⟨w.heap.size + 1 + 1, 0, none⟩ (iv m)).setCell ⟨w.heap.size + 1 + 1, 1, none⟩ (iv o)).setCell ⟨w.heap.size + 1 + 1, 2, none⟩ (.slice (some ⟨gp, 0, none⟩) P P)).setCell ⟨w.heap.size + 1 + 1, 3, none⟩ (.slice (some ⟨gb, 0, none⟩) P P)).setCell ⟨w.heap.size + 1 + 1 + 1, 0, none⟩ (iv 0)) (w.heap.size + 1 + 1) 26 #[iv m, iv o, .slice (some ⟨gp, 0, none⟩) P P, .slice (some ⟨gb, 0, none⟩) P P] := (plan_put (A7.out.off (p := ⟨w.heap.size + 1, 0, none⟩) (by show w.heap.size + 1 + 1 ≠ w.heap.size + 1; omega) _) _ _ _ _).off (p := ⟨w.heap.size + 1 + 1 + 1, 0, none⟩) (by show w.heap.size + 1 + 1 ≠ w.heap.size + 1 + 1 + 1; omega) _
        have z8 : Box ((((((Vd.setCell ⟨w.heap.size + 1, 0, none⟩ (.slice (some ⟨w1.heap.size + 1 + 1, 0, none⟩) n n)).setCell ⟨w.heap.size + 1 + 1, 0, none⟩ (iv m)).setCell ⟨w.heap.size + 1 + 1, 1, none⟩ (iv o)).setCell ⟨w.heap.size + 1 + 1, 2, none⟩ (.slice (some ⟨gp, 0, none⟩) P P)).setCell ⟨w.heap.size + 1 + 1, 3, none⟩ (.slice (some ⟨gb, 0, none⟩) P P)).setCell ⟨w.heap.size + 1 + 1 + 1, 0, none⟩ (iv 0)) (w.heap.size + 1 + 1 + 1) 35 #[iv 0] := (plan_off (A8.out.off (p := ⟨w.heap.size + 1, 0, none⟩) (by show w.heap.size + 1 + 1 + 1 ≠ w.heap.size + 1; omega) _) (by omega) _ _ _ _).put 0 (iv 0)
        have zO : Only (Just r) w ((((((Vd.setCell ⟨w.heap.size + 1, 0, none⟩ (.slice (some ⟨w1.heap.size + 1 + 1, 0, none⟩) n n)).setCell ⟨w.heap.size + 1 + 1, 0, none⟩ (iv m)).setCell ⟨w.heap.size + 1 + 1, 1, none⟩ (iv o)).setCell ⟨w.heap.size + 1 + 1, 2, none⟩ (.slice (some ⟨gp, 0, none⟩) P P)).setCell ⟨w.heap.size + 1 + 1, 3, none⟩ (.slice (some ⟨gb, 0, none⟩) P P)).setCell ⟨w.heap.size + 1 + 1 + 1, 0, none⟩ (iv 0)) := (plan_only ((oWd.out).setCell (p := ⟨w.heap.size + 1, 0, none⟩) (.inr (by show w.heap.size ≤ w.heap.size + 1; omega)) _) (.inr (by omega)) _ _ _ _).setCell (p := ⟨w.heap.size + 1 + 1 + 1, 0, none⟩) (.inr (by show w.heap.size ≤ w.heap.size + 1 + 1 + 1; omega)) _
        have oo : Only (fun q => q = w.heap.size + 1 ∨ q = w.heap.size + 1 + 1 ∨ q = w.heap.size + 1 + 1 + 1) W ((((((Vd.setCell ⟨w.heap.size + 1, 0, none⟩ (.slice (some ⟨w1.heap.size + 1 + 1, 0, none⟩) n n)).setCell ⟨w.heap.size + 1 + 1, 0, none⟩ (iv m)).setCell ⟨w.heap.size + 1 + 1, 1, none⟩ (iv o)).setCell ⟨w.heap.size + 1 + 1, 2, none⟩ (.slice (some ⟨gp, 0, none⟩) P P)).setCell ⟨w.heap.size + 1 + 1, 3, none⟩ (.slice (some ⟨gb, 0, none⟩) P P)).setCell ⟨w.heap.size + 1 + 1 + 1, 0, none⟩ (iv 0)) := (plan_only ((oVV.out).setCell (p := ⟨w.heap.size + 1, 0, none⟩) (.inl (.inl rfl)) _) (.inl (.inr (.inl rfl))) _ _ _ _).setCell (p := ⟨w.heap.size + 1 + 1 + 1, 0, none⟩) (.inl (.inr (.inr rfl))) _
        have zR : Rd ((((((Vd.setCell ⟨w.heap.size + 1, 0, none⟩ (.slice (some ⟨w1.heap.size + 1 + 1, 0, none⟩) n n)).setCell ⟨w.heap.size + 1 + 1, 0, none⟩ (iv m)).setCell ⟨w.heap.size + 1 + 1, 1, none⟩ (iv o)).setCell ⟨w.heap.size + 1 + 1, 2, none⟩ (.slice (some ⟨gp, 0, none⟩) P P)).setCell ⟨w.heap.size + 1 + 1, 3, none⟩ (.slice (some ⟨gb, 0, none⟩) P P)).setCell ⟨w.heap.size + 1 + 1 + 1, 0, none⟩ (iv 0)) r v bs aC := by
          refine VR.out.keep oo (by rintro (e | e | e) <;> omega) ?_
          rintro q hq (e | e | e)
          · exact owns_box VR.out.own V6.out (by decide) (by rw [hq, e])
          · exact owns_box VR.out.own V7.out (by decide) (by rw [hq, e])
          · exact owns_box VR.out.own V8.out (by decide) (by rw [hq, e])
        have zg := VG.out.only oo (by rintro (e | e | e) <;> omega)
        have zp := VP.out.only oo (by rintro (e | e | e) <;> omega)
        have zb := VB.out.only oo (by rintro (e | e | e) <;> omega)
        have zK : ((((((Vd.setCell ⟨w.heap.size + 1, 0, none⟩ (.slice (some ⟨w1.heap.size + 1 + 1, 0, none⟩) n n)).setCell ⟨w.heap.size + 1 + 1, 0, none⟩ (iv m)).setCell ⟨w.heap.size + 1 + 1, 1, none⟩ (iv o)).setCell ⟨w.heap.size + 1 + 1, 2, none⟩ (.slice (some ⟨gp, 0, none⟩) P P)).setCell ⟨w.heap.size + 1 + 1, 3, none⟩ (.slice (some ⟨gb, 0, none⟩) P P)).setCell ⟨w.heap.size + 1 + 1 + 1, 0, none⟩ (iv 0)).heap[D]? = some (.deferred (some [])) := by
          have hD1 : ∀ q t cs, Box Vd q t cs → q ≠ D := fun q t cs hb e => by
            subst e
            have h1 := KD.out
            rw [show Vd.heap[q]? = _ from hb] at h1
            cases h1
          have h6 := hD1 _ _ _ A6.out
          have h7 := hD1 _ _ _ A7.out
          have h8 := hD1 _ _ _ A8.out
          have oD := (plan_only ((Only.refl (fun q => q = w.heap.size + 1 ∨ q = w.heap.size + 1 + 1 ∨ q = w.heap.size + 1 + 1 + 1) Vd).setCell (p := ⟨w.heap.size + 1, 0, none⟩) (.inl (.inl rfl)) (.slice (some ⟨w1.heap.size + 1 + 1, 0, none⟩) n n)) (.inl (.inr (.inl rfl))) (iv m) (iv o) (.slice (some ⟨gp, 0, none⟩) P P) (.slice (some ⟨gb, 0, none⟩) P P)).setCell (p := ⟨w.heap.size + 1 + 1 + 1, 0, none⟩) (.inl (.inr (.inr rfl))) (iv 0)
          exact (oD.block D (Array.getElem?_eq_some_iff.1 KD.out).1 (by rintro (e | e | e); exact h6 e.symm; exact h7 e.symm; exact h8 e.symm)).trans KD.out
        have y6 := (box_put z6 zK rfl (.deferred none)).cell 0
        have y70 := (box_put z7 zK rfl (.deferred none)).cell 0
        have y71 := (box_put z7 zK rfl (.deferred none)).cell 1
        have y72 := (box_put z7 zK rfl (.deferred none)).cell 2
        have y73 := (box_put z7 zK rfl (.deferred none)).cell 3
        have y8 := (box_put z8 zK rfl (.deferred none)).cell 0
        simp only [List.getElem?_toArray, List.getElem?_cons_zero, List.getElem?_cons_succ] at y6 y70 y71 y72 y73 y8
        have Z1 := Lib.hid (zR.abide (B := 0) (grownBy_putObj' _ D (.deferred none)) (fun q e => by cases e; exact ⟨Nat.zero_le _, _, zK, rfl⟩))
        have Z2 := Lib.hid (only_put zO (D := D) (by omega) (.deferred none))
        have Z3 := Lib.hid (box_put zg zK rfl (.deferred none))
        have Z4 := Lib.hid (box_put zp zK rfl (.deferred none))
        have Z5 := Lib.hid (box_put zb zK rfl (.deferred none))
        have ZK := Lib.hid zK
        clear z6 z7 z8 zO oo zR zg zp zb zK
        gi_wp2
        refine ⟨by simp, .inl ⟨_, _, rfl, run_takeDeferred ZK.out, ?_⟩⟩
        refine ⟨.tuple #[.slice (some ⟨w1.heap.size + 1 + 1, 0, none⟩) n n, planV m o (.slice (some ⟨gp, 0, none⟩) P P) (.slice (some ⟨gb, 0, none⟩) P P), iv 0], ?_, .inr ⟨m, o, gp, gb, w1.heap.size + 1 + 1, rs, aC, ?_, Hok.out, ?_, ?_, ?_, ?_, Z1.out, Z2.out⟩⟩
        · simp [results, Tryz.f108, go_sem, y6, y70, y71, y72, y73, y8]
        · rw [Hn.out, HhP.out]
        · rw [HSe.out, HhP.out]; exact Hrb.out
        · rw [HhP.out]; exact Z4.out
        · rw [HhP.out]; exact Z5.out
        · rw [HSe.out, Hn.out, HhP.out]; exact Z3.out
    case stop =>
      rintro D cd pre W hD ⟨k, hk, hpre⟩ ⟨rfl, hbad, ⟨E, a', hE, hRd, b8⟩, b6, b7, hO⟩ hK
      have y6 := (box_put b6 hK rfl (.deferred none)).cell 0
      have y70 := (box_put b7 hK rfl (.deferred none)).cell 0
      have y71 := (box_put b7 hK rfl (.deferred none)).cell 1
      have y72 := (box_put b7 hK rfl (.deferred none)).cell 2
      have y73 := (box_put b7 hK rfl (.deferred none)).cell 3
      have y8 := (box_put b8 hK rfl (.deferred none)).cell 0
      simp only [List.getElem?_toArray, List.getElem?_cons_zero, List.getElem?_cons_succ] at y6 y70 y71 y72 y73 y8
      have Z1 := Lib.hid (hRd.abide (B := 0) (grownBy_putObj' _ D (.deferred none)) (fun q e => by cases e; exact ⟨Nat.zero_le _, _, hK, rfl⟩))
      have Z2 := Lib.hid (only_put hO (D := D) (by omega) (.deferred none))
      have ZK := Lib.hid hK
      have Hbad := Lib.hid hbad
      have Hpre := Lib.hid hpre
      clear hRd hO hK hbad hpre b6 b7 b8
      gi_wp2
      refine ⟨by simp, .inl ⟨_, _, rfl, run_takeDeferred ZK.out, ?_⟩⟩
      refine ⟨.tuple #[.slice none 0 0, planV m o (.slice (some ⟨gp, 0, none⟩) P P) (.slice (some ⟨gb, 0, none⟩) P P), iv E], ?_, .inl ⟨m, o, some ⟨gp, 0, none⟩, some ⟨gb, 0, none⟩, P, P, P, P, E, a', rfl, by omega, Z1.out, Z2.out, ?_⟩⟩
      · simp [results, Tryz.f108, go_sem, y6, y70, y71, y72, y73, y8]
      · intro m' o' rs' a2 hok' hrb'
        obtain ⟨_, e1, _, _, e2, _⟩ := Hok.out
        obtain ⟨_, e3, _, _, e4, _⟩ := hok'
        obtain rfl : m' = m := by rw [e1, e3]
        obtain rfl : o' = o := by rw [e2, e4]
        rw [HSe.out, HhP.out] at hrb'
        have er : List.range P = List.range k ++ (List.range (P - k)).map (k + ·) := by
          rw [← List.range_add, Nat.add_sub_cancel' hk]
        rw [er, ← Hpre.out] at hrb'
        obtain ⟨rs1, a1, h1, _⟩ := hrb'.cut
        exact Hbad.out _ _ h1
end Go.Proofs.YteklfkpeaadinaaGreatDoor
