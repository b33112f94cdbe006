/-
  Package subframe: what a plan begins with, read.
-/
import Derived.Test.YteklfkpeaadinaaGreatDoorPBSH
namespace Go.Proofs.YteklfkpeaadinaaGreatDoor.S
open Go.RowKit
open K (linV)
/-- which Kind and Order a code has -/
def kOf (c : Nat) : Option (Nat × Nat) := if c = 0 then some (0, 0) else if c = 1 then some (1, 0) else if 8 ≤ c ∧ c ≤ 12 then some (2, c - 8) else if 32 ≤ c ∧ c ≤ 63 then some (3, c - 31) else none
/-- a code can be read -/
def CdOk (bs : List Nat) (a k o : Nat) : Prop := takeE bs a 1 = 0 ∧ numAt bs a 1 = 0 ∧ takeE bs (a + 1) 6 = 0 ∧ kOf (numAt bs (a + 1) 6) = some (k, o)
/-- what code answers -/
def CdR (w : World) (r : Nat) (v : Value) (bs : List Nat) (a : Nat) (e : Ending) (w' : World) : Prop :=
  (∃ (E : Int) (a' : Nat), e = .returned (.tuple #[zP, iv E]) ∧ (E = 11 ∨ E = 12 ∨ E = 13) ∧ Rd w' r v bs a' ∧ Only (Just r) w w' ∧ ∀ k o, ¬ CdOk bs a k o) ∨
  (∃ k o : Nat, e = .returned (.tuple #[spV k o 0 0 0 (.slice none 0 0) 0 0 (.slice none 0 0) (.slice none 0 0), iv 0]) ∧ CdOk bs a k o ∧ Rd w' r v bs (a + 7) ∧ Only (Just r) w w')
theorem kOf_no {c : Nat} (hc : c < 64) (h : ∀ j : Nat, j < 4 → ¬ (kL j ≤ (c : Int) - kC j ∧ (c : Int) - kC j ≤ kM j)) : kOf c = none := by
  have h0 : ¬ ((0 : Int) ≤ (c : Int) - 0 ∧ (c : Int) - 0 ≤ 0) := h 0 (by decide)
  have h1 : ¬ ((0 : Int) ≤ (c : Int) - 1 ∧ (c : Int) - 1 ≤ 0) := h 1 (by decide)
  have h2 : ¬ ((0 : Int) ≤ (c : Int) - 8 ∧ (c : Int) - 8 ≤ 4) := h 2 (by decide)
  have h3 : ¬ ((1 : Int) ≤ (c : Int) - 31 ∧ (c : Int) - 31 ≤ 32) := h 3 (by decide)
  unfold kOf
  rw [if_neg (by omega), if_neg (by omega), if_neg (by omega), if_neg (by omega)]
theorem kOf_yes {c j : Nat} (hj : j < 4) (h : kL j ≤ (c : Int) - kC j ∧ (c : Int) - kC j ≤ kM j) : ∃ o : Nat, (c : Int) - kC j = (o : Int) ∧ kOf c = some (j, o) := by
  unfold kOf
  obtain rfl | rfl | rfl | rfl : j = 0 ∨ j = 1 ∨ j = 2 ∨ j = 3 := by omega
  · have h' : (0 : Int) ≤ (c : Int) - 0 ∧ (c : Int) - 0 ≤ 0 := h
    exact ⟨0, by show (c : Int) - 0 = 0; omega, by rw [if_pos (by omega)]⟩
  · have h' : (0 : Int) ≤ (c : Int) - 1 ∧ (c : Int) - 1 ≤ 0 := h
    exact ⟨0, by show (c : Int) - 1 = 0; omega, by rw [if_neg (by omega), if_pos (by omega)]⟩
  · have h' : (0 : Int) ≤ (c : Int) - 8 ∧ (c : Int) - 8 ≤ 4 := h
    exact ⟨c - 8, by show (c : Int) - 8 = _; omega, by rw [if_neg (by omega), if_neg (by omega), if_pos (by omega)]⟩
  · have h' : (1 : Int) ≤ (c : Int) - 31 ∧ (c : Int) - 31 ≤ 32 := h
    exact ⟨c - 31, by show (c : Int) - 31 = _; omega, by rw [if_neg (by omega), if_neg (by omega), if_neg (by omega), if_pos (by omega)]⟩
def CodeP (w2 : World) (c : Nat) (s34 : Value) (wr : World) : Prop := ∃ j : Nat, j ≤ 4 ∧ s34 = iv j ∧ (∀ i, i < j → ¬ (kL i ≤ (c : Int) - kC i ∧ (c : Int) - kC i ≤ kM i)) ∧ Only Nix w2 wr
set_option maxRecDepth 100000 in
set_option maxHeartbeats 4000000 in
theorem code_any {w : World} {r : Nat} {v : Value} {bs : List Nat} {a : Nat} (hR : Rd w r v bs a) (hLd : ∀ u, Only (Just r) w u → Laid u) :
    Calls Tryz.prog 79 #[rdV r] w fun e w' => CdR w r v bs a e w' := by
  have hrw := hR.mem
  obtain ⟨Wa, hWa⟩ : ∃ Wa, (w.alloc (.cells #[.pointer (some ⟨r, 0, none⟩)] 89)).alloc (.cells zC 28) = Wa := ⟨_, rfl⟩
  have a0 := ((Only.refl Nix w).alloc (.cells #[.pointer (some ⟨r, 0, none⟩)] 89)).alloc (.cells zC 28)
  have br := (Box.new w 89 #[.pointer (some ⟨r, 0, none⟩)]).alloc (.cells zC 28)
  have bp := Box.new (w.alloc (.cells #[.pointer (some ⟨r, 0, none⟩)] 89)) 28 zC
  rw [World.size_alloc] at bp
  rw [hWa] at a0 br bp
  have hnr : w.heap.size ≠ r := by omega
  have hnp : w.heap.size + 1 ≠ r := by omega
  have HT1 := Lib.hid (take_any (hR.nix a0) (1 : Int))
  have H1c := Lib.hid (takeE_cases bs a 1 (by omega))
  have H1p : Hid (takeE bs a 1 = 0 → takeR bs a 1 = (numAt bs a 1 : Int) ∧ takeA bs a 1 = a + 1) := Lib.hid (takeR_ok (n := 1))
  have HT6 : Hid (∀ u, Rd u r v bs (a + 1) → Calls Tryz.prog 103 #[.pointer (some ⟨r, 0, none⟩), iv 6] u fun e w' => e = two (takeR bs (a + 1) 6) (takeE bs (a + 1) 6) ∧ Rd w' r v bs (takeA bs (a + 1) 6) ∧ Only (Just r) u w') := Lib.hid (fun u hu => take_any hu 6)
  have H6c := Lib.hid (takeE_cases bs (a + 1) 6 (by omega))
  have H6p : Hid (takeE bs (a + 1) 6 = 0 → takeR bs (a + 1) 6 = (numAt bs (a + 1) 6 : Int) ∧ takeA bs (a + 1) 6 = a + 1 + 6) := Lib.hid (takeR_ok (n := 6))
  have HOk : Hid (∀ k o, CdOk bs a k o ↔ (takeE bs a 1 = 0 ∧ numAt bs a 1 = 0 ∧ takeE bs (a + 1) 6 = 0 ∧ kOf (numAt bs (a + 1) 6) = some (k, o))) := Lib.hid (fun _ _ => Iff.rfl)
  have hN6 := numAt_lt bs (a + 1) 6
  generalize takeE bs a 1 = E1 at *
  generalize takeR bs a 1 = R1 at *
  generalize takeA bs a 1 = A1 at *
  generalize takeE bs (a + 1) 6 = E6 at *
  generalize takeR bs (a + 1) 6 = R6 at *
  generalize takeA bs (a + 1) 6 = A6 at *
  generalize numAt bs a 1 = n1 at *
  generalize numAt bs (a + 1) 6 = n6 at *
  have hn64 : n6 < 64 := hN6
  have HA := Lib.hid a0
  have HBr := Lib.hid br
  have HBp := Lib.hid bp
  have HLd := Lib.hid hLd
  have d0 := br.cell 0
  simp only [List.getElem?_toArray, List.getElem?_cons_zero, List.getElem?_cons_succ] at d0
  clear a0 br bp hR hLd hN6
  go_enter Tryz.func79, Tryz.ntmps79
  go_wp2_with fail
  refine (HT1.out).mono ?_
  rintro e w1 ⟨rfl, hR1, o1⟩
  have HBr1 := Lib.hid (HBr.out.only o1 (fun e => hnr e))
  have HBp1 := Lib.hid (HBp.out.only o1 (fun e => hnp e))
  have HR1 := Lib.hid hR1
  have HO1 := Lib.hid ((HA.out.nix (F := Just r)).trans o1)
  clear hR1 o1 HT1 d0
  by_cases h1 : E1 = 0
  · subst h1
    obtain ⟨e1, e2⟩ := H1p.out rfl
    subst e1 e2
    clear H1p H1c
    by_cases h2 : n1 = 0
    · subst h2
      have HT6b := Lib.hid (HT6.out w1 HR1.out)
      have d0 := HBr1.out.cell 0
      simp only [List.getElem?_toArray, List.getElem?_cons_zero, List.getElem?_cons_succ] at d0
      clear HT6
      go_wp2_with fail
      refine (HT6b.out).mono ?_
      rintro e w2 ⟨rfl, hR2, o2⟩
      have HBp2 := Lib.hid (HBp1.out.only o2 (fun e => hnp e))
      have HR2 := Lib.hid hR2
      have HO2 := Lib.hid (HO1.out.trans o2)
      clear hR2 o2 HT6b d0
      by_cases h3 : E6 = 0
      · subst h3
        obtain ⟨e1, e2⟩ := H6p.out rfl
        subst e1 e2
        clear H6p H6c
        have hld := HLd.out w2 HO2.out
        have g0 := hld.code 0 (by decide)
        have g1 := hld.least 0 (by decide)
        have g2 := hld.most 0 (by decide)
        have g3 := hld.code 1 (by decide)
        have g4 := hld.least 1 (by decide)
        have g5 := hld.most 1 (by decide)
        have g6 := hld.code 2 (by decide)
        have g7 := hld.least 2 (by decide)
        have g8 := hld.most 2 (by decide)
        have g9 := hld.code 3 (by decide)
        have g10 := hld.least 3 (by decide)
        have g11 := hld.most 3 (by decide)
        simp only [kC, kL, kM, List.getD_cons_zero, List.getD_cons_succ, Nat.reduceMul, Nat.reduceAdd, Nat.zero_mul, Nat.zero_add, Nat.one_mul] at g0 g1 g2 g3 g4 g5 g6 g7 g8 g9 g10 g11
        clear hld
        go_wp2
        go_loopw [34] (fun s wr => CodeP w2 n6 s wr) (fun s _ => 4 - (intOf s).toNat)
        case atStart => exact ⟨0, by decide, rfl, fun i hi => by omega, Only.refl _ _⟩
        case round =>
          obtain ⟨j, hj, rfl, hno, hO⟩ := hrel
          have HNo := Lib.hid hno
          have HOw := Lib.hid hO
          have HBpw := Lib.hid (HBp2.out.only hO (fun e => e))
          have hszw := HBpw.out.lt
          have hnw : ¬ w.heap.size + 1 = wr.heap.size := by omega
          clear hno hO
          by_cases hlt : j < 4
          · obtain rfl | rfl | rfl | rfl : j = 0 ∨ j = 1 ∨ j = 2 ∨ j = 3 := by omega
            · clear hlt hj
              have hix := fun u => run_index_row (P := Tryz.prog) (k := 3) (cs := #[iv 0, iv 0, iv 0, iv 1, iv 0, iv 0, iv 8, iv 0, iv 4, iv 31, iv 1, iv 32]) (ys := #[iv 0, iv 0, iv 0]) Tryz.underlying115 Tryz.underlying114 rfl (by kernel_rfl) 0 (i := 0) rfl (by decide) (by simp) u
              by_cases hc : n6 = 0
              · subst hc
                have HK : Hid (kOf 0 = some (0, 0)) := Lib.hid rfl
                go_wp2_with (refine wpList_store_row rfl 28 (.tmp 2) (.tmp 54) rfl rfl (w.heap.size + 1) 28 zC (spC 0 0 0 0 0 (.slice none 0 0) 0 0 (.slice none 0 0) (.slice none 0 0)) rfl rfl (HBpw.out.alloc _) Tryz.size_plan rfl (spC_one _ _ _ _ _ _ _ _ _ _ _ _ _ _ _ _) ?st)
                case st =>
                  intro w9 hb9 ho9
                  have Z1 := Lib.hid (rd_just ((HR2.out.nix HOw.out).alloc _) (HBpw.out.alloc _) (by decide) hnp ho9)
                  have Z2 := Lib.hid (only_just ((HO2.out.trans HOw.out.nix).alloc _) ho9 (by omega))
                  have y0 := hb9.cell 0
                  have y1 := hb9.cell 1
                  have y2 := hb9.cell 2
                  have y3 := hb9.cell 3
                  have y4 := hb9.cell 4
                  have y5 := hb9.cell 5
                  have y6 := hb9.cell 6
                  have y7 := hb9.cell 7
                  have y8 := hb9.cell 8
                  have y9 := hb9.cell 9
                  simp only [List.getElem?_toArray, List.getElem?_cons_zero, List.getElem?_cons_succ] at y0 y1 y2 y3 y4 y5 y6 y7 y8 y9
                  clear hb9 ho9
                  go_wp2
                  refine bodyPost_ret (v := .tuple #[spV 0 0 0 0 0 (.slice none 0 0) 0 0 (.slice none 0 0) (.slice none 0 0), iv 0]) ?_ rfl ?_
                  · simp [results, Tryz.f79, go_sem, y0, y1, y2, y3, y4, y5, y6, y7, y8, y9]
                  exact .inr ⟨0, 0, rfl, (HOk.out 0 0).2 (by simpa using HK.out), Z1.out, Z2.out⟩
              · have c2 : ¬ (n6 : Int) ≤ 0 := by omega
                have c1 : (0 : Int) ≤ (n6 : Int) := by omega
                have HN : Hid (¬ (kL 0 ≤ (n6 : Int) - kC 0 ∧ (n6 : Int) - kC 0 ≤ kM 0)) := Lib.hid (fun h => hc (by have h2 : (n6 : Int) - 0 ≤ 0 := h.2; omega))
                clear hc
                go_wp2
                go_roundw
                case rel => exact ⟨1, by decide, by go_num, fun i hi => by
                              rcases Nat.lt_succ_iff_lt_or_eq.1 hi with h | h
                              · exact HNo.out i h
                              · subst h; exact HN.out, HOw.out.alloc _⟩
                case measure => simp [intOf]
            · clear hlt hj
              have hix := fun u => run_index_row (P := Tryz.prog) (k := 3) (cs := #[iv 0, iv 0, iv 0, iv 1, iv 0, iv 0, iv 8, iv 0, iv 4, iv 31, iv 1, iv 32]) (ys := #[iv 1, iv 0, iv 0]) Tryz.underlying115 Tryz.underlying114 rfl (by kernel_rfl) 1 (i := 1) rfl (by decide) (by simp) u
              by_cases hc : n6 = 1
              · subst hc
                have HK : Hid (kOf 1 = some (1, 0)) := Lib.hid rfl
                go_wp2_with (refine wpList_store_row rfl 28 (.tmp 2) (.tmp 54) rfl rfl (w.heap.size + 1) 28 zC (spC 1 0 0 0 0 (.slice none 0 0) 0 0 (.slice none 0 0) (.slice none 0 0)) rfl rfl (HBpw.out.alloc _) Tryz.size_plan rfl (spC_one _ _ _ _ _ _ _ _ _ _ _ _ _ _ _ _) ?st)
                case st =>
                  intro w9 hb9 ho9
                  have Z1 := Lib.hid (rd_just ((HR2.out.nix HOw.out).alloc _) (HBpw.out.alloc _) (by decide) hnp ho9)
                  have Z2 := Lib.hid (only_just ((HO2.out.trans HOw.out.nix).alloc _) ho9 (by omega))
                  have y0 := hb9.cell 0
                  have y1 := hb9.cell 1
                  have y2 := hb9.cell 2
                  have y3 := hb9.cell 3
                  have y4 := hb9.cell 4
                  have y5 := hb9.cell 5
                  have y6 := hb9.cell 6
                  have y7 := hb9.cell 7
                  have y8 := hb9.cell 8
                  have y9 := hb9.cell 9
                  simp only [List.getElem?_toArray, List.getElem?_cons_zero, List.getElem?_cons_succ] at y0 y1 y2 y3 y4 y5 y6 y7 y8 y9
                  clear hb9 ho9
                  go_wp2
                  refine bodyPost_ret (v := .tuple #[spV 1 0 0 0 0 (.slice none 0 0) 0 0 (.slice none 0 0) (.slice none 0 0), iv 0]) ?_ rfl ?_
                  · simp [results, Tryz.f79, go_sem, y0, y1, y2, y3, y4, y5, y6, y7, y8, y9]
                  exact .inr ⟨1, 0, rfl, (HOk.out 1 0).2 (by simpa using HK.out), Z1.out, Z2.out⟩
              · have HN : Hid (¬ (kL 1 ≤ (n6 : Int) - kC 1 ∧ (n6 : Int) - kC 1 ≤ kM 1)) := Lib.hid (fun h => hc (by have h1 : (0 : Int) ≤ (n6 : Int) - 1 := h.1; have h2 : (n6 : Int) - 1 ≤ 0 := h.2; omega))
                by_cases c1 : (0 : Int) ≤ (n6 : Int) - 1
                · have c2 : ¬ (n6 : Int) - 1 ≤ 0 := by omega
                  clear hc
                  go_wp2
                  go_roundw
                  case rel => exact ⟨2, by decide, by go_num, fun i hi => by
                                rcases Nat.lt_succ_iff_lt_or_eq.1 hi with h | h
                                · exact HNo.out i h
                                · subst h; exact HN.out, HOw.out.alloc _⟩
                  case measure => simp [intOf]
                · clear hc
                  go_wp2
                  go_roundw
                  case rel => exact ⟨2, by decide, by go_num, fun i hi => by
                                rcases Nat.lt_succ_iff_lt_or_eq.1 hi with h | h
                                · exact HNo.out i h
                                · subst h; exact HN.out, HOw.out.alloc _⟩
                  case measure => simp [intOf]
            · clear hlt hj
              have hix := fun u => run_index_row (P := Tryz.prog) (k := 3) (cs := #[iv 0, iv 0, iv 0, iv 1, iv 0, iv 0, iv 8, iv 0, iv 4, iv 31, iv 1, iv 32]) (ys := #[iv 8, iv 0, iv 4]) Tryz.underlying115 Tryz.underlying114 rfl (by kernel_rfl) 2 (i := 2) rfl (by decide) (by simp) u
              have HN0 : Hid ((0 : Int) ≤ (n6 : Int) - 8 ∧ (n6 : Int) - 8 ≤ 4 ↔ (kL 2 ≤ (n6 : Int) - kC 2 ∧ (n6 : Int) - kC 2 ≤ kM 2)) := Lib.hid Iff.rfl
              by_cases hc : (0 : Int) ≤ (n6 : Int) - 8 ∧ (n6 : Int) - 8 ≤ 4
              · obtain ⟨o, ho, hk⟩ := kOf_yes (j := 2) (by decide) hc
                have ho' : (n6 : Int) - 8 = (o : Int) := ho
                rw [ho'] at hc
                obtain ⟨c1, c2⟩ := hc
                have HK := Lib.hid hk
                clear ho hk HN0
                go_wp2_with (refine wpList_store_row rfl 28 (.tmp 2) (.tmp 54) rfl rfl (w.heap.size + 1) 28 zC (spC 2 o 0 0 0 (.slice none 0 0) 0 0 (.slice none 0 0) (.slice none 0 0)) rfl rfl (HBpw.out.alloc _) Tryz.size_plan rfl (spC_one _ _ _ _ _ _ _ _ _ _ _ _ _ _ _ _) ?st)
                case st =>
                  intro w9 hb9 ho9
                  have Z1 := Lib.hid (rd_just ((HR2.out.nix HOw.out).alloc _) (HBpw.out.alloc _) (by decide) hnp ho9)
                  have Z2 := Lib.hid (only_just ((HO2.out.trans HOw.out.nix).alloc _) ho9 (by omega))
                  have y0 := hb9.cell 0
                  have y1 := hb9.cell 1
                  have y2 := hb9.cell 2
                  have y3 := hb9.cell 3
                  have y4 := hb9.cell 4
                  have y5 := hb9.cell 5
                  have y6 := hb9.cell 6
                  have y7 := hb9.cell 7
                  have y8 := hb9.cell 8
                  have y9 := hb9.cell 9
                  simp only [List.getElem?_toArray, List.getElem?_cons_zero, List.getElem?_cons_succ] at y0 y1 y2 y3 y4 y5 y6 y7 y8 y9
                  clear hb9 ho9
                  go_wp2
                  refine bodyPost_ret (v := .tuple #[spV 2 o 0 0 0 (.slice none 0 0) 0 0 (.slice none 0 0) (.slice none 0 0), iv 0]) ?_ rfl ?_
                  · simp [results, Tryz.f79, go_sem, y0, y1, y2, y3, y4, y5, y6, y7, y8, y9]
                  exact .inr ⟨2, o, rfl, (HOk.out 2 o).2 (by simpa using HK.out), Z1.out, Z2.out⟩
              · have HN : Hid (¬ (kL 2 ≤ (n6 : Int) - kC 2 ∧ (n6 : Int) - kC 2 ≤ kM 2)) := Lib.hid (fun h => hc (HN0.out.2 h))
                clear HN0
                by_cases c1 : (0 : Int) ≤ (n6 : Int) - 8
                · have c2 : ¬ (n6 : Int) - 8 ≤ 4 := fun h => hc ⟨c1, h⟩
                  clear hc
                  go_wp2
                  go_roundw
                  case rel => exact ⟨3, by decide, by go_num, fun i hi => by
                                rcases Nat.lt_succ_iff_lt_or_eq.1 hi with h | h
                                · exact HNo.out i h
                                · subst h; exact HN.out, HOw.out.alloc _⟩
                  case measure => simp [intOf]
                · clear hc
                  go_wp2
                  go_roundw
                  case rel => exact ⟨3, by decide, by go_num, fun i hi => by
                                rcases Nat.lt_succ_iff_lt_or_eq.1 hi with h | h
                                · exact HNo.out i h
                                · subst h; exact HN.out, HOw.out.alloc _⟩
                  case measure => simp [intOf]
            · clear hlt hj
              have hix := fun u => run_index_row (P := Tryz.prog) (k := 3) (cs := #[iv 0, iv 0, iv 0, iv 1, iv 0, iv 0, iv 8, iv 0, iv 4, iv 31, iv 1, iv 32]) (ys := #[iv 31, iv 1, iv 32]) Tryz.underlying115 Tryz.underlying114 rfl (by kernel_rfl) 3 (i := 3) rfl (by decide) (by simp) u
              have HN0 : Hid ((1 : Int) ≤ (n6 : Int) - 31 ∧ (n6 : Int) - 31 ≤ 32 ↔ (kL 3 ≤ (n6 : Int) - kC 3 ∧ (n6 : Int) - kC 3 ≤ kM 3)) := Lib.hid Iff.rfl
              by_cases hc : (1 : Int) ≤ (n6 : Int) - 31 ∧ (n6 : Int) - 31 ≤ 32
              · obtain ⟨o, ho, hk⟩ := kOf_yes (j := 3) (by decide) hc
                have ho' : (n6 : Int) - 31 = (o : Int) := ho
                rw [ho'] at hc
                obtain ⟨c1, c2⟩ := hc
                have HK := Lib.hid hk
                clear ho hk HN0
                go_wp2_with (refine wpList_store_row rfl 28 (.tmp 2) (.tmp 54) rfl rfl (w.heap.size + 1) 28 zC (spC 3 o 0 0 0 (.slice none 0 0) 0 0 (.slice none 0 0) (.slice none 0 0)) rfl rfl (HBpw.out.alloc _) Tryz.size_plan rfl (spC_one _ _ _ _ _ _ _ _ _ _ _ _ _ _ _ _) ?st)
                case st =>
                  intro w9 hb9 ho9
                  have Z1 := Lib.hid (rd_just ((HR2.out.nix HOw.out).alloc _) (HBpw.out.alloc _) (by decide) hnp ho9)
                  have Z2 := Lib.hid (only_just ((HO2.out.trans HOw.out.nix).alloc _) ho9 (by omega))
                  have y0 := hb9.cell 0
                  have y1 := hb9.cell 1
                  have y2 := hb9.cell 2
                  have y3 := hb9.cell 3
                  have y4 := hb9.cell 4
                  have y5 := hb9.cell 5
                  have y6 := hb9.cell 6
                  have y7 := hb9.cell 7
                  have y8 := hb9.cell 8
                  have y9 := hb9.cell 9
                  simp only [List.getElem?_toArray, List.getElem?_cons_zero, List.getElem?_cons_succ] at y0 y1 y2 y3 y4 y5 y6 y7 y8 y9
                  clear hb9 ho9
                  go_wp2
                  refine bodyPost_ret (v := .tuple #[spV 3 o 0 0 0 (.slice none 0 0) 0 0 (.slice none 0 0) (.slice none 0 0), iv 0]) ?_ rfl ?_
                  · simp [results, Tryz.f79, go_sem, y0, y1, y2, y3, y4, y5, y6, y7, y8, y9]
                  exact .inr ⟨3, o, rfl, (HOk.out 3 o).2 (by simpa using HK.out), Z1.out, Z2.out⟩
              · have HN : Hid (¬ (kL 3 ≤ (n6 : Int) - kC 3 ∧ (n6 : Int) - kC 3 ≤ kM 3)) := Lib.hid (fun h => hc (HN0.out.2 h))
                clear HN0
                by_cases c1 : (1 : Int) ≤ (n6 : Int) - 31
                · have c2 : ¬ (n6 : Int) - 31 ≤ 32 := fun h => hc ⟨c1, h⟩
                  exact absurd (by omega) c2
                · clear hc
                  go_wp2
                  go_roundw
                  case rel => exact ⟨4, by decide, by go_num, fun i hi => by
                                rcases Nat.lt_succ_iff_lt_or_eq.1 hi with h | h
                                · exact HNo.out i h
                                · subst h; exact HN.out, HOw.out.alloc _⟩
                  case measure => simp [intOf]
          · obtain rfl : j = 4 := by omega
            have HNone := Lib.hid (kOf_no hn64 (fun i hi => HNo.out i hi))
            clear HNo
            go_wp2_with (refine wpList_store_row rfl 28 (.tmp 2) (.tmp 56) rfl rfl (w.heap.size + 1) 28 zC zC rfl rfl HBpw.out Tryz.size_plan rfl (spC_one _ _ _ _ _ _ _ _ _ _ _ _ _ _ _ _) ?st)
            case st =>
              intro w9 hb9 ho9
              have Z1 := Lib.hid (rd_just (HR2.out.nix HOw.out) HBpw.out (by decide) hnp ho9)
              have Z2 := Lib.hid (only_just (HO2.out.trans HOw.out.nix) ho9 (by omega))
              have y0 := hb9.cell 0
              have y1 := hb9.cell 1
              have y2 := hb9.cell 2
              have y3 := hb9.cell 3
              have y4 := hb9.cell 4
              have y5 := hb9.cell 5
              have y6 := hb9.cell 6
              have y7 := hb9.cell 7
              have y8 := hb9.cell 8
              have y9 := hb9.cell 9
              simp only [List.getElem?_toArray, List.getElem?_cons_zero, List.getElem?_cons_succ] at y0 y1 y2 y3 y4 y5 y6 y7 y8 y9
              clear hb9 ho9
              go_wp2
              refine bodyPost_ret (v := .tuple #[zP, iv 13]) ?_ rfl ?_
              · simp [results, Tryz.f79, go_sem, y0, y1, y2, y3, y4, y5, y6, y7, y8, y9]
              refine .inl ⟨13, _, rfl, by decide, Z1.out, Z2.out, ?_⟩
              intro k o h
              have h2 := (HOk.out k o).1 h
              rw [HNone.out] at h2
              cases h2.2.2.2
      · obtain rfl : E6 = 11 := by rcases H6c.out with h | h; exact absurd h h3; exact h
        clear h3 H6c H6p
        go_wp2_with (refine wpList_store_row rfl 28 (.tmp 2) (.tmp 31) rfl rfl (w.heap.size + 1) 28 zC zC rfl rfl HBp2.out Tryz.size_plan rfl (spC_one _ _ _ _ _ _ _ _ _ _ _ _ _ _ _ _) ?st)
        case st =>
          intro w9 hb9 ho9
          have Z1 := Lib.hid (rd_just HR2.out HBp2.out (by decide) hnp ho9)
          have Z2 := Lib.hid (only_just HO2.out ho9 (by omega))
          have y0 := hb9.cell 0
          have y1 := hb9.cell 1
          have y2 := hb9.cell 2
          have y3 := hb9.cell 3
          have y4 := hb9.cell 4
          have y5 := hb9.cell 5
          have y6 := hb9.cell 6
          have y7 := hb9.cell 7
          have y8 := hb9.cell 8
          have y9 := hb9.cell 9
          simp only [List.getElem?_toArray, List.getElem?_cons_zero, List.getElem?_cons_succ] at y0 y1 y2 y3 y4 y5 y6 y7 y8 y9
          clear hb9 ho9
          go_wp2
          refine bodyPost_ret (v := .tuple #[zP, iv 11]) ?_ rfl ?_
          · simp [results, Tryz.f79, go_sem, y0, y1, y2, y3, y4, y5, y6, y7, y8, y9]
          refine .inl ⟨11, _, rfl, by decide, Z1.out, Z2.out, ?_⟩
          intro k o h
          have := (HOk.out k o).1 h
          omega
    · have h2b : ((n1 : Int) != 0) = true := by simp; omega
      have H2 := Lib.hid h2
      clear h2
      go_wp2_with (refine wpList_store_row rfl 28 (.tmp 2) (.tmp 22) rfl rfl (w.heap.size + 1) 28 zC zC rfl rfl HBp1.out Tryz.size_plan rfl (spC_one _ _ _ _ _ _ _ _ _ _ _ _ _ _ _ _) ?st)
      case st =>
        intro w9 hb9 ho9
        have Z1 := Lib.hid (rd_just HR1.out HBp1.out (by decide) hnp ho9)
        have Z2 := Lib.hid (only_just HO1.out ho9 (by omega))
        have y0 := hb9.cell 0
        have y1 := hb9.cell 1
        have y2 := hb9.cell 2
        have y3 := hb9.cell 3
        have y4 := hb9.cell 4
        have y5 := hb9.cell 5
        have y6 := hb9.cell 6
        have y7 := hb9.cell 7
        have y8 := hb9.cell 8
        have y9 := hb9.cell 9
        simp only [List.getElem?_toArray, List.getElem?_cons_zero, List.getElem?_cons_succ] at y0 y1 y2 y3 y4 y5 y6 y7 y8 y9
        clear hb9 ho9
        go_wp2
        refine bodyPost_ret (v := .tuple #[zP, iv 12]) ?_ rfl ?_
        · simp [results, Tryz.f79, go_sem, y0, y1, y2, y3, y4, y5, y6, y7, y8, y9]
        refine .inl ⟨12, _, rfl, by decide, Z1.out, Z2.out, ?_⟩
        intro k o h
        have := (HOk.out k o).1 h
        exact H2.out this.2.1
  · obtain rfl : E1 = 11 := by rcases H1c.out with h | h; exact absurd h h1; exact h
    clear h1 H1c H1p
    go_wp2_with (refine wpList_store_row rfl 28 (.tmp 2) (.tmp 18) rfl rfl (w.heap.size + 1) 28 zC zC rfl rfl HBp1.out Tryz.size_plan rfl (spC_one _ _ _ _ _ _ _ _ _ _ _ _ _ _ _ _) ?st)
    case st =>
      intro w9 hb9 ho9
      have Z1 := Lib.hid (rd_just HR1.out HBp1.out (by decide) hnp ho9)
      have Z2 := Lib.hid (only_just HO1.out ho9 (by omega))
      have y0 := hb9.cell 0
      have y1 := hb9.cell 1
      have y2 := hb9.cell 2
      have y3 := hb9.cell 3
      have y4 := hb9.cell 4
      have y5 := hb9.cell 5
      have y6 := hb9.cell 6
      have y7 := hb9.cell 7
      have y8 := hb9.cell 8
      have y9 := hb9.cell 9
      simp only [List.getElem?_toArray, List.getElem?_cons_zero, List.getElem?_cons_succ] at y0 y1 y2 y3 y4 y5 y6 y7 y8 y9
      clear hb9 ho9
      go_wp2
      refine bodyPost_ret (v := .tuple #[zP, iv 11]) ?_ rfl ?_
      · simp [results, Tryz.f79, go_sem, y0, y1, y2, y3, y4, y5, y6, y7, y8, y9]
      refine .inl ⟨11, _, rfl, by decide, Z1.out, Z2.out, ?_⟩
      intro k o h
      have := (HOk.out k o).1 h
      omega
end Go.Proofs.YteklfkpeaadinaaGreatDoor.S
