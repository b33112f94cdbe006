/-
  readParting.
-/
import Derived.Test.YtliemhadgbjjiaaRPart
namespace Go.Proofs.Ytliemhadgbjjiaa
open Go.RowKit

/-- what stands ahead of the parts is right -/
def HdOk (bs : List Nat) (a b s m o : Nat) : Prop :=
  takeE bs a 2 = 0 ∧ m = numAt bs a 2 ∧ m < 2 ∧ takeE bs (a + 2) 4 = 0 ∧ o = numAt bs (a + 2) 4 ∧ ckP o b s = 0
abbrev plan0 : Value := .agg #[iv 0, iv 0, .slice none 0 0, .slice none 0 0]
/-- what readParting leaves -/
def HPost (w : World) (r : Nat) (v : Value) (bs : List Nat) (a b s : Nat) (e : Ending) (w' : World) : Prop :=
  (∃ (E : Int) (a' : Nat), e = .returned (.tuple #[plan0, iv E]) ∧ (E = 11 ∨ E = 12 ∨ E = 13) ∧ Rd w' r v bs a' ∧ Only (Just r) w w' ∧ ∀ m o, ¬ HdOk bs a b s m o) ∨
  (∃ (m o gp gb : Nat), e = .returned (.tuple #[planV m o (.slice (some ⟨gp, 0, none⟩) (2 ^ o) (2 ^ o)) (.slice (some ⟨gb, 0, none⟩) (2 ^ o) (2 ^ o)), iv 0]) ∧ HdOk bs a b s m o ∧ gp ≠ gb ∧ w.heap.size ≤ gp ∧ w.heap.size ≤ gb ∧
    Box w' gp 3 (List.replicate (2 ^ o) (iv 0)).toArray ∧ Box w' gb 3 (List.replicate (2 ^ o) (iv 0)).toArray ∧ Rd w' r v bs (a + 6) ∧ Only (Just r) w w')
theorem takeR_ok {bs : List Nat} {a n : Nat} (h : takeE bs a (n : Int) = 0) : takeR bs a (n : Int) = (numAt bs a n : Int) ∧ takeA bs a (n : Int) = a + n := by
  obtain ⟨q, e1, _, _, e2, e3⟩ := takeR_pos h
  obtain rfl : n = q := by omega
  exact ⟨e2, e3⟩

theorem plan_put {u : World} {N : Nat} {x0 x1 x2 x3 : Value} (b : Box u N 24 #[x0, x1, x2, x3]) (y0 y1 y2 y3 : Value) :
    Box ((((u.setCell ⟨N, 0, none⟩ y0).setCell ⟨N, 1, none⟩ y1).setCell ⟨N, 2, none⟩ y2).setCell ⟨N, 3, none⟩ y3) N 24 #[y0, y1, y2, y3] :=
  (((b.put 0 y0).put 1 y1).put 2 y2).put 3 y3
theorem plan_only {F : Nat → Prop} {w u : World} {N : Nat} (ho : Only F w u) (hN : F N ∨ w.heap.size ≤ N) (y0 y1 y2 y3 : Value) :
    Only F w ((((u.setCell ⟨N, 0, none⟩ y0).setCell ⟨N, 1, none⟩ y1).setCell ⟨N, 2, none⟩ y2).setCell ⟨N, 3, none⟩ y3) :=
  (((ho.setCell (p := ⟨N, 0, none⟩) hN y0).setCell (p := ⟨N, 1, none⟩) hN y1).setCell (p := ⟨N, 2, none⟩) hN y2).setCell (p := ⟨N, 3, none⟩) hN y3
theorem plan_rd {u : World} {N r : Nat} {v : Value} {bs : List Nat} {a' : Nat} {x0 x1 x2 x3 : Value} (b : Box u N 24 #[x0, x1, x2, x3]) (hR : Rd u r v bs a') (hr : N ≠ r) (y0 y1 y2 y3 : Value) :
    Rd ((((u.setCell ⟨N, 0, none⟩ y0).setCell ⟨N, 1, none⟩ y1).setCell ⟨N, 2, none⟩ y2).setCell ⟨N, 3, none⟩ y3) r v bs a' :=
  hR.keep (plan_only (Only.refl (Just N) u) (.inl rfl) y0 y1 y2 y3) (fun e => hr e.symm) (fun q hq e => owns_box hR.own b (by decide) (by rw [hq]; exact congrArg some e))
theorem plan_off {u : World} {N k : Nat} {t : TypeId} {cs : Array Value} (h : Box u k t cs) (hk : k ≠ N) (y0 y1 y2 y3 : Value) :
    Box ((((u.setCell ⟨N, 0, none⟩ y0).setCell ⟨N, 1, none⟩ y1).setCell ⟨N, 2, none⟩ y2).setCell ⟨N, 3, none⟩ y3) k t cs :=
  (((h.off (p := ⟨N, 0, none⟩) hk y0).off (p := ⟨N, 1, none⟩) hk y1).off (p := ⟨N, 2, none⟩) hk y2).off (p := ⟨N, 3, none⟩) hk y3

set_option maxRecDepth 100000 in
set_option maxHeartbeats 2000000 in
theorem readParting_any {w : World} {r : Nat} {v : Value} {bs : List Nat} {a : Nat} (hR : Rd w r v bs a) (b s : Nat) (hb : b ≤ 65535) :
    Calls Try.prog 68 #[.pointer (some ⟨r, 0, none⟩), iv b, iv s] w fun e w' => HPost w r v bs a b s e w' := by
  have hrw := hR.mem
  obtain ⟨Wa, hWa⟩ : ∃ Wa, w.alloc (.cells #[iv 0, iv 0, .slice none 0 0, .slice none 0 0] 24) = Wa := ⟨_, rfl⟩
  have a0 := (Only.refl Nix w).alloc (.cells #[iv 0, iv 0, .slice none 0 0, .slice none 0 0] 24)
  have B0 := Lib.hid (Box.new w 24 #[iv 0, iv 0, .slice none 0 0, .slice none 0 0])
  rw [hWa] at a0 B0
  have hnr : w.heap.size ≠ r := by omega
  have HT2 := Lib.hid (take_any (hR.nix a0) (2 : Int))
  have H2c := Lib.hid (takeE_cases bs a 2 (by omega))
  have H2p : Hid (takeE bs a 2 = 0 → takeR bs a 2 = (numAt bs a 2 : Int) ∧ takeA bs a 2 = a + 2) := Lib.hid (takeR_ok (n := 2))
  obtain ⟨E2, hE2⟩ : ∃ x, takeE bs a 2 = x := ⟨_, rfl⟩
  obtain ⟨R2, hR2⟩ : ∃ x, takeR bs a 2 = x := ⟨_, rfl⟩
  obtain ⟨A2, hA2⟩ : ∃ x, takeA bs a 2 = x := ⟨_, rfl⟩
  rw [hE2, hR2, hA2] at HT2
  rw [show ((2 : Nat) : Int) = 2 from rfl, hE2] at H2c
  rw [hE2, hR2, hA2] at H2p
  have HE2 := Lib.hid hE2
  have HA0 := Lib.hid a0
  clear hE2 hR2 hA2 a0 hR
  by_cases h2 : E2 = 0
  · subst h2
    obtain ⟨e1, e2⟩ := H2p.out rfl
    obtain ⟨mN, hmN⟩ : ∃ x, numAt bs a 2 = x := ⟨_, rfl⟩
    rw [hmN] at e1
    subst e1
    obtain ⟨a2, ha2⟩ : ∃ x, a + 2 = x := ⟨_, rfl⟩
    rw [ha2] at e2
    have e2' := e2.symm
    clear e2
    subst e2'
    have HmN := Lib.hid hmN
    have Ha2 := Lib.hid ha2
    clear hmN ha2 H2p H2c
    by_cases hm2 : 2 ≤ mN
    · have hm3 : (2 : Int) ≤ (mN : Int) := by omega
      go_enter Try.func68, Try.ntmps68
      go_wp2_with fail
      refine (HT2.out).mono ?_
      rintro e w1 ⟨rfl, hR1, ho1⟩
      have B1 := Lib.hid (B0.out.only ho1 (fun e => hnr e))
      have HR1 := Lib.hid hR1
      have HO1 := Lib.hid ((HA0.out.nix (F := Just r)).trans ho1)
      clear hR1 ho1
      have d0 := B1.out.cell 0
      have d1 := B1.out.cell 1
      have d2 := B1.out.cell 2
      have d3 := B1.out.cell 3
      simp only [List.getElem?_toArray, List.getElem?_cons_zero, List.getElem?_cons_succ] at d0 d1 d2 d3
      have f0 := B1.out.frozen 0
      have f1 := B1.out.frozen 1
      have f2 := B1.out.frozen 2
      have f3 := B1.out.frozen 3
      have y := plan_put B1.out (iv 0) (iv 0) (.slice none 0 0) (.slice none 0 0)
      have y0 := y.cell 0
      have y1 := y.cell 1
      have y2 := y.cell 2
      have y3 := y.cell 3
      simp only [List.getElem?_toArray, List.getElem?_cons_zero, List.getElem?_cons_succ] at y0 y1 y2 y3
      have Z1 := Lib.hid (plan_rd B1.out HR1.out hnr (iv 0) (iv 0) (.slice none 0 0) (.slice none 0 0))
      have Z2 := Lib.hid (plan_only HO1.out (.inr (Nat.le_refl _)) (iv 0) (iv 0) (.slice none 0 0) (.slice none 0 0))
      clear y
      go_wp2
      refine bodyPost_ret (v := .tuple #[plan0, iv 13]) ?_ rfl ?_
      · simp [results, Try.f68, go_sem, y0, y1, y2, y3]
      refine .inl ⟨13, _, rfl, by decide, Z1.out, Z2.out, ?_⟩
      rintro m' o' ⟨h1, h2, h3, h4, h5, h6⟩
      rw [HmN.out] at h2
      omega
    · have hm3 : ¬ ((2 : Int) ≤ (mN : Int)) := by omega
      have HT4 : Hid (∀ u, Rd u r v bs a2 → Calls Try.prog 72 #[.pointer (some ⟨r, 0, none⟩), iv 4] u fun e w' => e = two (takeR bs a2 4) (takeE bs a2 4) ∧ Rd w' r v bs (takeA bs a2 4) ∧ Only (Just r) u w') := Lib.hid (fun u hu => take_any hu 4)
      have H4c := Lib.hid (takeE_cases bs a2 4 (by omega))
      have H4p : Hid (takeE bs a2 4 = 0 → takeR bs a2 4 = (numAt bs a2 4 : Int) ∧ takeA bs a2 4 = a2 + 4) := Lib.hid (takeR_ok (n := 4))
      obtain ⟨E4, hE4⟩ : ∃ x, takeE bs a2 4 = x := ⟨_, rfl⟩
      obtain ⟨R4, hR4⟩ : ∃ x, takeR bs a2 4 = x := ⟨_, rfl⟩
      obtain ⟨A4, hA4⟩ : ∃ x, takeA bs a2 4 = x := ⟨_, rfl⟩
      rw [hE4, hR4, hA4] at HT4
      rw [show ((4 : Nat) : Int) = 4 from rfl, hE4] at H4c
      rw [hE4, hR4, hA4] at H4p
      have HE4 := Lib.hid hE4
      clear hE4 hR4 hA4
      by_cases h4 : E4 = 0
      · subst h4
        obtain ⟨e1, e2⟩ := H4p.out rfl
        obtain ⟨oN, hoN⟩ : ∃ x, numAt bs a2 4 = x := ⟨_, rfl⟩
        rw [hoN] at e1
        subst e1
        obtain ⟨a6, ha6⟩ : ∃ x, a2 + 4 = x := ⟨_, rfl⟩
        rw [ha6] at e2
        have e2' := e2.symm
        clear e2
        subst e2'
        have hol := numAt_lt bs a2 4
        rw [hoN] at hol
        have ho15 : oN ≤ 15 := by
          have : (2 : Nat) ^ 4 = 16 := by decide
          omega
        have HoN := Lib.hid hoN
        have Ha6 := Lib.hid ha6
        clear hoN ha6 H4p H4c hol
        have HCp : ∀ u, Hid (Calls Try.prog 42 #[iv oN, iv b, iv s] u fun e w' => e = .returned (iv (ckP oN b s)) ∧ u = w') := fun u => Lib.hid (checkParting_any u oN b s ho15 hb)
        by_cases hck : ckP oN b s = 0
        · rw [hck] at HCp
          have Hck := Lib.hid hck
          clear hck
          go_enter Try.func68, Try.ntmps68
          go_wp2_with fail
          refine (HT2.out).mono ?_
          rintro e w1 ⟨rfl, hR1, ho1⟩
          have B1 := Lib.hid (B0.out.only ho1 (fun e => hnr e))
          have HR1 := Lib.hid hR1
          have HO1 := Lib.hid ((HA0.out.nix (F := Just r)).trans ho1)
          have HT4b := Lib.hid (HT4.out w1 hR1)
          clear hR1 ho1
          go_wp2_with fail
          refine (HT4b.out).mono ?_
          rintro e w2 ⟨rfl, hR2, ho2⟩
          have B2 := Lib.hid (B1.out.only ho2 (fun e => hnr e))
          have HR2 := Lib.hid hR2
          have HO2 := Lib.hid (HO1.out.trans ho2)
          have HC2 := HCp w2
          clear hR2 ho2 HCp
          go_wp2_with fail
          refine (HC2.out).mono ?_
          rintro e w3 ⟨rfl, rfl⟩
          obtain ⟨P, hP⟩ : ∃ P : Nat, Hid (2 ^ oN = P) := ⟨_, Lib.hid rfl⟩
          have hP2 : P ≤ 32768 := by rw [← hP.out]; exact Nat.pow_le_pow_right (by decide) ho15
          have hpw : (2 : Int) ^ oN = (P : Int) := by rw [pow_cast, hP.out]
          have hmk := fun (u : World) => run_make_row' (P := Try.prog) 22 3 (.int .i64 0) 8 Try.underlying22 Try.info_int rfl .i64 .i64 P (by omega) (by omega) u
          simp only [made_ints] at hmk
          have d0 := B2.out.cell 0
          have d1 := B2.out.cell 1
          have d2 := B2.out.cell 2
          have d3 := B2.out.cell 3
          simp only [List.getElem?_toArray, List.getElem?_cons_zero, List.getElem?_cons_succ] at d0 d1 d2 d3
          have f0 := B2.out.frozen 0
          have f1 := B2.out.frozen 1
          have f2 := B2.out.frozen 2
          have f3 := B2.out.frozen 3
          have hlt2 := B2.out.lt
          generalize hCS : (List.replicate P (iv 0)).toArray = CS at *
          go_wp2
          go_region
          · have y := ((((plan_put B2.out (iv mN) (iv oN) (.slice (some ⟨w2.heap.size, 0, none⟩) P P) (.slice (some ⟨w2.heap.size + 1, 0, none⟩) P P)).alloc (.cells CS 3)).alloc (.cells CS 3)).drew)
            have y0 := y.cell 0
            have y1 := y.cell 1
            have y2 := y.cell 2
            have y3 := y.cell 3
            simp only [List.getElem?_toArray, List.getElem?_cons_zero, List.getElem?_cons_succ] at y0 y1 y2 y3
            have Z1 := Lib.hid ((((plan_rd B2.out HR2.out hnr (iv mN) (iv oN) (.slice (some ⟨w2.heap.size, 0, none⟩) P P) (.slice (some ⟨w2.heap.size + 1, 0, none⟩) P P)).alloc (.cells CS 3)).alloc (.cells CS 3)).nix (Only.refl Nix _ |>.drew))
            have Z2 := Lib.hid ((((plan_only HO2.out (.inr (Nat.le_refl _)) (iv mN) (iv oN) (.slice (some ⟨w2.heap.size, 0, none⟩) P P) (.slice (some ⟨w2.heap.size + 1, 0, none⟩) P P)).alloc (.cells CS 3)).alloc (.cells CS 3)).drew)
            have n1 := ((Box.new ((((w2.setCell ⟨w.heap.size, 0, none⟩ (iv mN)).setCell ⟨w.heap.size, 1, none⟩ (iv oN)).setCell ⟨w.heap.size, 2, none⟩ (.slice (some ⟨w2.heap.size, 0, none⟩) P P)).setCell ⟨w.heap.size, 3, none⟩ (.slice (some ⟨w2.heap.size + 1, 0, none⟩) P P)) 3 CS).alloc (.cells CS 3)).drew
            have n2 := (Box.new (((((w2.setCell ⟨w.heap.size, 0, none⟩ (iv mN)).setCell ⟨w.heap.size, 1, none⟩ (iv oN)).setCell ⟨w.heap.size, 2, none⟩ (.slice (some ⟨w2.heap.size, 0, none⟩) P P)).setCell ⟨w.heap.size, 3, none⟩ (.slice (some ⟨w2.heap.size + 1, 0, none⟩) P P)).alloc (.cells CS 3)) 3 CS).drew
            rw [World.size_alloc] at n2
            rw [show ((((w2.setCell ⟨w.heap.size, 0, none⟩ (iv mN)).setCell ⟨w.heap.size, 1, none⟩ (iv oN)).setCell ⟨w.heap.size, 2, none⟩ (.slice (some ⟨w2.heap.size, 0, none⟩) P P)).setCell ⟨w.heap.size, 3, none⟩ (.slice (some ⟨w2.heap.size + 1, 0, none⟩) P P)).heap.size = w2.heap.size from by simp [World.setCell]] at n1 n2
            have N1 := Lib.hid n1
            have N2 := Lib.hid n2
            clear y n1 n2
            go_wp2
            refine bodyPost_ret (v := .tuple #[planV mN oN (.slice (some ⟨w2.heap.size, 0, none⟩) P P) (.slice (some ⟨w2.heap.size + 1, 0, none⟩) P P), iv 0]) ?_ rfl ?_
            · simp [results, Try.f68, go_sem, y0, y1, y2, y3]
            refine .inr ⟨mN, oN, w2.heap.size, w2.heap.size + 1, by rw [hP.out], ⟨HE2.out, HmN.out.symm, by omega, by rw [Ha2.out]; exact HE4.out, by rw [Ha2.out]; exact HoN.out.symm, Hck.out⟩, by omega, by omega, by omega, ?_, ?_, ?_, Z2.out⟩
            · rw [hP.out, hCS]; exact N1.out
            · rw [hP.out, hCS]; exact N2.out
            · rw [show a + 6 = a6 from by rw [← Ha6.out, ← Ha2.out]]; exact Z1.out
          · have y := ((((plan_put B2.out (iv mN) (iv oN) (.slice (some ⟨w2.heap.size + 1, 0, none⟩) P P) (.slice (some ⟨w2.heap.size, 0, none⟩) P P)).alloc (.cells CS 3)).alloc (.cells CS 3)).drew)
            have y0 := y.cell 0
            have y1 := y.cell 1
            have y2 := y.cell 2
            have y3 := y.cell 3
            simp only [List.getElem?_toArray, List.getElem?_cons_zero, List.getElem?_cons_succ] at y0 y1 y2 y3
            have Z1 := Lib.hid ((((plan_rd B2.out HR2.out hnr (iv mN) (iv oN) (.slice (some ⟨w2.heap.size + 1, 0, none⟩) P P) (.slice (some ⟨w2.heap.size, 0, none⟩) P P)).alloc (.cells CS 3)).alloc (.cells CS 3)).nix (Only.refl Nix _ |>.drew))
            have Z2 := Lib.hid ((((plan_only HO2.out (.inr (Nat.le_refl _)) (iv mN) (iv oN) (.slice (some ⟨w2.heap.size + 1, 0, none⟩) P P) (.slice (some ⟨w2.heap.size, 0, none⟩) P P)).alloc (.cells CS 3)).alloc (.cells CS 3)).drew)
            have n1 := ((Box.new ((((w2.setCell ⟨w.heap.size, 0, none⟩ (iv mN)).setCell ⟨w.heap.size, 1, none⟩ (iv oN)).setCell ⟨w.heap.size, 2, none⟩ (.slice (some ⟨w2.heap.size + 1, 0, none⟩) P P)).setCell ⟨w.heap.size, 3, none⟩ (.slice (some ⟨w2.heap.size, 0, none⟩) P P)) 3 CS).alloc (.cells CS 3)).drew
            have n2 := (Box.new (((((w2.setCell ⟨w.heap.size, 0, none⟩ (iv mN)).setCell ⟨w.heap.size, 1, none⟩ (iv oN)).setCell ⟨w.heap.size, 2, none⟩ (.slice (some ⟨w2.heap.size + 1, 0, none⟩) P P)).setCell ⟨w.heap.size, 3, none⟩ (.slice (some ⟨w2.heap.size, 0, none⟩) P P)).alloc (.cells CS 3)) 3 CS).drew
            rw [World.size_alloc] at n2
            rw [show ((((w2.setCell ⟨w.heap.size, 0, none⟩ (iv mN)).setCell ⟨w.heap.size, 1, none⟩ (iv oN)).setCell ⟨w.heap.size, 2, none⟩ (.slice (some ⟨w2.heap.size + 1, 0, none⟩) P P)).setCell ⟨w.heap.size, 3, none⟩ (.slice (some ⟨w2.heap.size, 0, none⟩) P P)).heap.size = w2.heap.size from by simp [World.setCell]] at n1 n2
            have N1 := Lib.hid n1
            have N2 := Lib.hid n2
            clear y n1 n2
            go_wp2
            refine bodyPost_ret (v := .tuple #[planV mN oN (.slice (some ⟨w2.heap.size + 1, 0, none⟩) P P) (.slice (some ⟨w2.heap.size, 0, none⟩) P P), iv 0]) ?_ rfl ?_
            · simp [results, Try.f68, go_sem, y0, y1, y2, y3]
            refine .inr ⟨mN, oN, w2.heap.size + 1, w2.heap.size, by rw [hP.out], ⟨HE2.out, HmN.out.symm, by omega, by rw [Ha2.out]; exact HE4.out, by rw [Ha2.out]; exact HoN.out.symm, Hck.out⟩, by omega, by omega, by omega, ?_, ?_, ?_, Z2.out⟩
            · rw [hP.out, hCS]; exact N2.out
            · rw [hP.out, hCS]; exact N1.out
            · rw [show a + 6 = a6 from by rw [← Ha6.out, ← Ha2.out]]; exact Z1.out
        · have h12 : ckP oN b s = 12 := by
            unfold ckP at hck ⊢
            split
            · rfl
            · rename_i hh; rw [if_neg hh] at hck; exact absurd rfl hck
          have Hck := Lib.hid hck
          rw [h12] at HCp
          clear hck h12
          go_enter Try.func68, Try.ntmps68
          go_wp2_with fail
          refine (HT2.out).mono ?_
          rintro e w1 ⟨rfl, hR1, ho1⟩
          have B1 := Lib.hid (B0.out.only ho1 (fun e => hnr e))
          have HR1 := Lib.hid hR1
          have HO1 := Lib.hid ((HA0.out.nix (F := Just r)).trans ho1)
          have HT4b := Lib.hid (HT4.out w1 hR1)
          clear hR1 ho1
          go_wp2_with fail
          refine (HT4b.out).mono ?_
          rintro e w2 ⟨rfl, hR2, ho2⟩
          have B2 := Lib.hid (B1.out.only ho2 (fun e => hnr e))
          have HR2 := Lib.hid hR2
          have HO2 := Lib.hid (HO1.out.trans ho2)
          have HC2 := HCp w2
          clear hR2 ho2 HCp
          go_wp2_with fail
          refine (HC2.out).mono ?_
          rintro e w3 ⟨rfl, rfl⟩
          have d0 := B2.out.cell 0
          have d1 := B2.out.cell 1
          have d2 := B2.out.cell 2
          have d3 := B2.out.cell 3
          simp only [List.getElem?_toArray, List.getElem?_cons_zero, List.getElem?_cons_succ] at d0 d1 d2 d3
          have f0 := B2.out.frozen 0
          have f1 := B2.out.frozen 1
          have f2 := B2.out.frozen 2
          have f3 := B2.out.frozen 3
          have y := plan_put B2.out (iv 0) (iv 0) (.slice none 0 0) (.slice none 0 0)
          have y0 := y.cell 0
          have y1 := y.cell 1
          have y2 := y.cell 2
          have y3 := y.cell 3
          simp only [List.getElem?_toArray, List.getElem?_cons_zero, List.getElem?_cons_succ] at y0 y1 y2 y3
          have Z1 := Lib.hid (plan_rd B2.out HR2.out hnr (iv 0) (iv 0) (.slice none 0 0) (.slice none 0 0))
          have Z2 := Lib.hid (plan_only HO2.out (.inr (Nat.le_refl _)) (iv 0) (iv 0) (.slice none 0 0) (.slice none 0 0))
          clear y
          go_wp2
          refine bodyPost_ret (v := .tuple #[plan0, iv 12]) ?_ rfl ?_
          · simp [results, Try.f68, go_sem, y0, y1, y2, y3]
          refine .inl ⟨12, _, rfl, by decide, Z1.out, Z2.out, ?_⟩
          rintro m' o' ⟨h1, h2, h3, h4, h5, h6⟩
          rw [Ha2.out, HoN.out] at h5
          rw [h5] at h6
          exact Hck.out h6
      · have hb4 : (E4 != 0) = true := by simpa using h4
        have e11 : E4 = 11 := by
          rcases H4c.out with h | h
          · exact absurd h h4
          · exact h
        subst e11
        go_enter Try.func68, Try.ntmps68
        go_wp2_with fail
        refine (HT2.out).mono ?_
        rintro e w1 ⟨rfl, hR1, ho1⟩
        have B1 := Lib.hid (B0.out.only ho1 (fun e => hnr e))
        have HR1 := Lib.hid hR1
        have HO1 := Lib.hid ((HA0.out.nix (F := Just r)).trans ho1)
        have HT4b := Lib.hid (HT4.out w1 hR1)
        clear hR1 ho1
        go_wp2_with fail
        refine (HT4b.out).mono ?_
        rintro e w2 ⟨rfl, hR2, ho2⟩
        have B2 := Lib.hid (B1.out.only ho2 (fun e => hnr e))
        have HR2 := Lib.hid hR2
        have HO2 := Lib.hid (HO1.out.trans ho2)
        clear hR2 ho2
        have d0 := B2.out.cell 0
        have d1 := B2.out.cell 1
        have d2 := B2.out.cell 2
        have d3 := B2.out.cell 3
        simp only [List.getElem?_toArray, List.getElem?_cons_zero, List.getElem?_cons_succ] at d0 d1 d2 d3
        have f0 := B2.out.frozen 0
        have f1 := B2.out.frozen 1
        have f2 := B2.out.frozen 2
        have f3 := B2.out.frozen 3
        have y := plan_put B2.out (iv 0) (iv 0) (.slice none 0 0) (.slice none 0 0)
        have y0 := y.cell 0
        have y1 := y.cell 1
        have y2 := y.cell 2
        have y3 := y.cell 3
        simp only [List.getElem?_toArray, List.getElem?_cons_zero, List.getElem?_cons_succ] at y0 y1 y2 y3
        have Z1 := Lib.hid (plan_rd B2.out HR2.out hnr (iv 0) (iv 0) (.slice none 0 0) (.slice none 0 0))
        have Z2 := Lib.hid (plan_only HO2.out (.inr (Nat.le_refl _)) (iv 0) (iv 0) (.slice none 0 0) (.slice none 0 0))
        clear y
        go_wp2
        refine bodyPost_ret (v := .tuple #[plan0, iv 11]) ?_ rfl ?_
        · simp [results, Try.f68, go_sem, y0, y1, y2, y3]
        refine .inl ⟨11, _, rfl, by decide, Z1.out, Z2.out, ?_⟩
        rintro m' o' ⟨h1, h2, h3, h4, h5, h6⟩
        rw [Ha2.out, HE4.out] at h4
        omega
  · have hb2 : (E2 != 0) = true := by simpa using h2
    have e11 : E2 = 11 := by
      rcases H2c.out with h | h
      · exact absurd h h2
      · exact h
    subst e11
    go_enter Try.func68, Try.ntmps68
    go_wp2_with fail
    refine (HT2.out).mono ?_
    rintro e w1 ⟨rfl, hR1, ho1⟩
    have B1 := Lib.hid (B0.out.only ho1 (fun e => hnr e))
    have HR1 := Lib.hid hR1
    have HO1 := Lib.hid ((HA0.out.nix (F := Just r)).trans ho1)
    clear hR1 ho1
    have d0 := B1.out.cell 0
    have d1 := B1.out.cell 1
    have d2 := B1.out.cell 2
    have d3 := B1.out.cell 3
    simp only [List.getElem?_toArray, List.getElem?_cons_zero, List.getElem?_cons_succ] at d0 d1 d2 d3
    have f0 := B1.out.frozen 0
    have f1 := B1.out.frozen 1
    have f2 := B1.out.frozen 2
    have f3 := B1.out.frozen 3
    have y := plan_put B1.out (iv 0) (iv 0) (.slice none 0 0) (.slice none 0 0)
    have y0 := y.cell 0
    have y1 := y.cell 1
    have y2 := y.cell 2
    have y3 := y.cell 3
    simp only [List.getElem?_toArray, List.getElem?_cons_zero, List.getElem?_cons_succ] at y0 y1 y2 y3
    have Z1 := Lib.hid (plan_rd B1.out HR1.out hnr (iv 0) (iv 0) (.slice none 0 0) (.slice none 0 0))
    have Z2 := Lib.hid (plan_only HO1.out (.inr (Nat.le_refl _)) (iv 0) (iv 0) (.slice none 0 0) (.slice none 0 0))
    clear y
    go_wp2
    refine bodyPost_ret (v := .tuple #[plan0, iv 11]) ?_ rfl ?_
    · simp [results, Try.f68, go_sem, y0, y1, y2, y3]
    refine .inl ⟨11, _, rfl, by decide, Z1.out, Z2.out, ?_⟩
    rintro m' o' ⟨h1, h2, h3, h4, h5, h6⟩
    rw [HE2.out] at h1
    omega
end Go.Proofs.Ytliemhadgbjjiaa
