/-
  Package subframe: a prediction, read.
-/
import Derived.Test.YteklfkpeaadinaaGreatDoorPBS12
namespace Go.Proofs.YteklfkpeaadinaaGreatDoor.S
open Go.RowKit
open K (linV)
theorem Tryz.size_lin : (Tryz.prog.info? 24).map (·.size) = some 3 := by kernel_rfl
/-- a prediction can be read -/
def LnOk (bs : List Nat) (a o P : Nat) (S : Int) (cs : List Int) (a' : Nat) : Prop :=
  takeE bs a 4 = 0 ∧ numAt bs a 4 ≠ 15 ∧ P = numAt bs a 4 + 1 ∧ takeE bs (a + 4) 5 = 0 ∧ S = signR bs (a + 4) 5 ∧ 0 ≤ S ∧ a + 9 + o * P ≤ 8 * bs.length ∧ cs = smV bs (a + 9) o P ∧ a' = a + 9 + o * P
/-- what linear answers -/
def LnR (w : World) (r : Nat) (v : Value) (bs : List Nat) (a o : Nat) (e : Ending) (w' : World) : Prop :=
  (∃ (x y E : Int) (a' : Nat), e = .returned (.tuple #[linV x y (.slice none 0 0), iv E]) ∧ (E = 10 ∨ E = 11 ∨ E = 13) ∧ Rd w' r v bs a' ∧ Only (Just r) w w' ∧ ∀ P S cs a', ¬ LnOk bs a o P S cs a') ∨
  (∃ (P : Nat) (S : Int) (cs : List Int) (a' g : Nat), e = .returned (.tuple #[linV P S (.slice (some ⟨g, 0, none⟩) o o), iv 0]) ∧ LnOk bs a o P S cs a' ∧ Box w' g 3 (cs.map iv).toArray ∧ w.heap.size ≤ g ∧ Rd w' r v bs a' ∧ Only (Just r) w w')
set_option maxRecDepth 100000 in
set_option maxHeartbeats 4000000 in
theorem linear_any {w : World} {r : Nat} {v : Value} {bs : List Nat} {a : Nat} (hR : Rd w r v bs a) (o : Nat) (ho : o ≤ 32) :
    Calls Tryz.prog 82 #[rdV r, iv o] w fun e w' => LnR w r v bs a o e w' := by
  have hrw := hR.mem
  obtain ⟨Wa, hWa⟩ : ∃ Wa, (w.alloc (.cells #[.pointer (some ⟨r, 0, none⟩)] 89)).alloc (.cells #[iv 0, iv 0, .slice none 0 0] 24) = Wa := ⟨_, rfl⟩
  have a0 := ((Only.refl Nix w).alloc (.cells #[.pointer (some ⟨r, 0, none⟩)] 89)).alloc (.cells #[iv 0, iv 0, .slice none 0 0] 24)
  have br := (Box.new w 89 #[.pointer (some ⟨r, 0, none⟩)]).alloc (.cells #[iv 0, iv 0, .slice none 0 0] 24)
  have bp := Box.new (w.alloc (.cells #[.pointer (some ⟨r, 0, none⟩)] 89)) 24 #[iv 0, iv 0, .slice none 0 0]
  rw [World.size_alloc] at bp
  rw [hWa] at a0 br bp
  have hnr : w.heap.size ≠ r := by omega
  have hnp : w.heap.size + 1 ≠ r := by omega
  have HT4 := Lib.hid (take_any (hR.nix a0) (4 : Int))
  have H4c := Lib.hid (takeE_cases bs a 4 (by omega))
  have H4p : Hid (takeE bs a 4 = 0 → takeR bs a 4 = (numAt bs a 4 : Int) ∧ takeA bs a 4 = a + 4) := Lib.hid (takeR_ok (n := 4))
  have HT5 : Hid (∀ u, Rd u r v bs (a + 4) → Calls Tryz.prog 106 #[.pointer (some ⟨r, 0, none⟩), iv 5] u fun e w' => e = two (signR bs (a + 4) 5) (takeE bs (a + 4) 5) ∧ Rd w' r v bs (takeA bs (a + 4) 5) ∧ Only (Just r) u w') := Lib.hid (fun u hu => signed_any hu 5)
  have H5c := Lib.hid (takeE_cases bs (a + 4) 5 (by omega))
  have H5p : Hid (takeE bs (a + 4) 5 = 0 → takeA bs (a + 4) 5 = a + 4 + 5) := Lib.hid (fun h => (takeR_ok (n := 5) h).2)
  have hSb := signR_bound bs (a + 4) 5 (by decide)
  have HOk : Hid (∀ P S cs a', LnOk bs a o P S cs a' ↔ (takeE bs a 4 = 0 ∧ numAt bs a 4 ≠ 15 ∧ P = numAt bs a 4 + 1 ∧ takeE bs (a + 4) 5 = 0 ∧ S = signR bs (a + 4) 5 ∧ 0 ≤ S ∧ a + 9 + o * P ≤ 8 * bs.length ∧ cs = smV bs (a + 9) o P ∧ a' = a + 9 + o * P)) := Lib.hid (fun _ _ _ _ => Iff.rfl)
  have hn4 := numAt_lt bs a 4
  rw [show ((5 : Nat) : Int) = 5 from rfl] at hSb
  generalize takeE bs a 4 = E4 at *
  generalize takeR bs a 4 = R4 at *
  generalize takeA bs a 4 = A4 at *
  generalize takeE bs (a + 4) 5 = E5 at *
  generalize signR bs (a + 4) 5 = S5 at *
  generalize takeA bs (a + 4) 5 = A5 at *
  generalize numAt bs a 4 = n4 at *
  have hn16 : n4 < 16 := hn4
  have HA := Lib.hid a0
  have HBr := Lib.hid br
  have HBp := Lib.hid bp
  have d0 := br.cell 0
  simp only [List.getElem?_toArray, List.getElem?_cons_zero, List.getElem?_cons_succ] at d0
  clear a0 br bp hR hn4
  go_enter Tryz.func82, Tryz.ntmps82
  go_wp2_with fail
  refine (HT4.out).mono ?_
  rintro e w1 ⟨rfl, hR1, o1⟩
  have HBr1 := Lib.hid (HBr.out.only o1 (fun e => hnr e))
  have HBp1 := Lib.hid (HBp.out.only o1 (fun e => hnp e))
  have HR1 := Lib.hid hR1
  have HO1 := Lib.hid ((HA.out.nix (F := Just r)).trans o1)
  clear hR1 o1 HT4 d0
  by_cases h1 : E4 = 0
  · subst h1
    obtain ⟨e1, e2⟩ := H4p.out rfl
    subst e1 e2
    clear H4p H4c
    by_cases h2 : n4 = 15
    · subst h2
      go_wp2_with (refine wpList_store_row rfl 24 (.tmp 4) (.tmp 22) rfl rfl (w.heap.size + 1) 24 #[iv 0, iv 0, .slice none 0 0] #[iv 0, iv 0, .slice none 0 0] rfl rfl HBp1.out Tryz.size_lin rfl (by simp [Value.oneCell']) ?st)
      case st =>
        intro w9 hb9 ho9
        have Z1 := Lib.hid (rd_just HR1.out HBp1.out (by decide) hnp ho9)
        have Z2 := Lib.hid (only_just HO1.out ho9 (by omega))
        have y0 := hb9.cell 0
        have y1 := hb9.cell 1
        have y2 := hb9.cell 2
        simp only [List.getElem?_toArray, List.getElem?_cons_zero, List.getElem?_cons_succ] at y0 y1 y2
        clear hb9 ho9
        go_wp2
        refine bodyPost_ret (v := .tuple #[linV 0 0 (.slice none 0 0), iv 13]) ?_ rfl ?_
        · simp [results, Tryz.f82, go_sem, y0, y1, y2]
        refine .inl ⟨_, _, 13, _, rfl, by decide, Z1.out, Z2.out, fun P S cs a' h => ?_⟩
        have h1 := (HOk.out _ _ _ _).1 h
        exact absurd rfl h1.2.1
    · have h2b : ((n4 : Int) == 15) = false := by simp; omega
      have H2 := Lib.hid h2
      have HT5b := Lib.hid (HT5.out w1 HR1.out)
      have d0 := HBr1.out.cell 0
      simp only [List.getElem?_toArray, List.getElem?_cons_zero, List.getElem?_cons_succ] at d0
      clear HT5 h2
      go_wp2_with fail
      refine (HT5b.out).mono ?_
      rintro e w2 ⟨rfl, hR2, o2⟩
      have HBr2 := Lib.hid (HBr1.out.only o2 (fun e => hnr e))
      have HBp2 := Lib.hid (HBp1.out.only o2 (fun e => hnp e))
      have HR2 := Lib.hid hR2
      have HO2 := Lib.hid (HO1.out.trans o2)
      clear hR2 o2 HT5b d0
      by_cases h3 : E5 = 0
      · subst h3
        have e2 := H5p.out rfl
        subst e2
        clear H5p H5c
        by_cases h4 : S5 < 0
        · go_wp2_with (refine wpList_store_row rfl 24 (.tmp 4) (.tmp 35) rfl rfl (w.heap.size + 1) 24 #[iv 0, iv 0, .slice none 0 0] #[iv 0, iv 0, .slice none 0 0] rfl rfl HBp2.out Tryz.size_lin rfl (by simp [Value.oneCell']) ?st)
          case st =>
            intro w9 hb9 ho9
            have Z1 := Lib.hid (rd_just HR2.out HBp2.out (by decide) hnp ho9)
            have Z2 := Lib.hid (only_just HO2.out ho9 (by omega))
            have y0 := hb9.cell 0
            have y1 := hb9.cell 1
            have y2 := hb9.cell 2
            simp only [List.getElem?_toArray, List.getElem?_cons_zero, List.getElem?_cons_succ] at y0 y1 y2
            clear hb9 ho9
            go_wp2
            refine bodyPost_ret (v := .tuple #[linV 0 0 (.slice none 0 0), iv 10]) ?_ rfl ?_
            · simp [results, Tryz.f82, go_sem, y0, y1, y2]
            refine .inl ⟨_, _, 10, _, rfl, by decide, Z1.out, Z2.out, fun P S cs a' h => ?_⟩
            have h1 := (HOk.out _ _ _ _).1 h
            omega
        · have hP1 : (n4 : Int) + 1 = ((n4 + 1 : Nat) : Int) := by omega
          obtain ⟨P, hP⟩ : ∃ P, n4 + 1 = P := ⟨_, rfl⟩
          rw [hP] at hP1
          have HP := Lib.hid hP
          have hR2' := HR2.out
          rw [show a + 4 + 5 = a + 9 by omega] at hR2'
          have HSm := Lib.hid (samples_any hR2' o P (by omega) (by omega))
          have d0 := HBr2.out.cell 0
          simp only [List.getElem?_toArray, List.getElem?_cons_zero, List.getElem?_cons_succ] at d0
          have H4 : Hid (0 ≤ S5) := Lib.hid (by omega)
          have hs2 := HO2.out.size
          clear hR2' hP
          go_wp2_with fail
          refine (HSm.out).mono ?_
          rintro e w3 (⟨hlt, rfl, hR3, o3⟩ | ⟨hle, g, rfl, hb3, hg, hR3, o3⟩)
          · have HBp3 := Lib.hid (HBp2.out.only o3 (fun e => hnp e))
            have HR3 := Lib.hid hR3
            have HO3 := Lib.hid (HO2.out.trans o3)
            have HLt := Lib.hid hlt
            clear hR3 o3 HSm d0 hlt
            go_wp2_with (refine wpList_store_row rfl 24 (.tmp 4) (.tmp 48) rfl rfl (w.heap.size + 1) 24 #[iv 0, iv 0, .slice none 0 0] #[iv P, iv S5, .slice none 0 0] rfl rfl HBp3.out Tryz.size_lin rfl (by simp [Value.oneCell']) ?st)
            case st =>
              intro w9 hb9 ho9
              have Z1 := Lib.hid (rd_just HR3.out HBp3.out (by decide) hnp ho9)
              have Z2 := Lib.hid (only_just HO3.out ho9 (by omega))
              have y0 := hb9.cell 0
              have y1 := hb9.cell 1
              have y2 := hb9.cell 2
              simp only [List.getElem?_toArray, List.getElem?_cons_zero, List.getElem?_cons_succ] at y0 y1 y2
              clear hb9 ho9
              go_wp2
              refine bodyPost_ret (v := .tuple #[linV P S5 (.slice none 0 0), iv 11]) ?_ rfl ?_
              · simp [results, Tryz.f82, go_sem, y0, y1, y2]
              refine .inl ⟨_, _, 11, _, rfl, by decide, Z1.out, Z2.out, fun P S cs a' h => ?_⟩
              have h1 := (HOk.out _ _ _ _).1 h
              have h2 := h1.2.2.1
              rw [HP.out] at h2
              subst h2
              have := h1.2.2.2.2.2.2.1
              have := HLt.out
              omega
          · have HBp3 := Lib.hid (HBp2.out.only o3 (fun e => hnp e))
            have HR3 := Lib.hid hR3
            have HO3 := Lib.hid (HO2.out.trans o3)
            have HLe := Lib.hid hle
            have HB3 := Lib.hid hb3
            have HG := Lib.hid (Nat.le_trans hs2 hg)
            have hgN : g ≠ w.heap.size + 1 := Box.type_ne hb3 HBp3.out (by decide)
            clear hR3 o3 HSm d0 hle hb3 hg
            go_wp2_with (refine wpList_store_row rfl 24 (.tmp 4) (.tmp 48) rfl rfl (w.heap.size + 1) 24 #[iv 0, iv 0, .slice none 0 0] #[iv P, iv S5, .slice (some ⟨g, 0, none⟩) o o] rfl rfl HBp3.out Tryz.size_lin rfl (by simp [Value.oneCell']) ?st)
            case st =>
              intro w9 hb9 ho9
              have Z1 := Lib.hid (rd_just HR3.out HBp3.out (by decide) hnp ho9)
              have Z2 := Lib.hid (only_just HO3.out ho9 (by omega))
              have HB9 := Lib.hid (HB3.out.only ho9 (fun e => hgN e))
              have y0 := hb9.cell 0
              have y1 := hb9.cell 1
              have y2 := hb9.cell 2
              simp only [List.getElem?_toArray, List.getElem?_cons_zero, List.getElem?_cons_succ] at y0 y1 y2
              clear hb9 ho9
              go_wp2
              refine bodyPost_ret (v := .tuple #[linV P S5 (.slice (some ⟨g, 0, none⟩) o o), iv 0]) ?_ rfl ?_
              · simp [results, Tryz.f82, go_sem, y0, y1, y2]
              exact .inr ⟨P, S5, _, _, g, rfl, (HOk.out _ _ _ _).2 (by first | exact ⟨rfl, H2.out, HP.out.symm, rfl, rfl, H4.out, HLe.out, rfl, rfl⟩ | exact ⟨trivial, H2.out, HP.out.symm, trivial, rfl, H4.out, HLe.out, rfl, rfl⟩ | exact ⟨rfl, H2.out, HP.out.symm, trivial, rfl, H4.out, HLe.out, rfl, rfl⟩ | exact ⟨trivial, H2.out, HP.out.symm, rfl, rfl, H4.out, HLe.out, rfl, rfl⟩), HB9.out, HG.out, Z1.out, Z2.out⟩
      · obtain rfl : E5 = 11 := by rcases H5c.out with h | h; exact absurd h h3; exact h
        clear h3 H5c H5p
        go_wp2_with (refine wpList_store_row rfl 24 (.tmp 4) (.tmp 31) rfl rfl (w.heap.size + 1) 24 #[iv 0, iv 0, .slice none 0 0] #[iv 0, iv 0, .slice none 0 0] rfl rfl HBp2.out Tryz.size_lin rfl (by simp [Value.oneCell']) ?st)
        case st =>
          intro w9 hb9 ho9
          have Z1 := Lib.hid (rd_just HR2.out HBp2.out (by decide) hnp ho9)
          have Z2 := Lib.hid (only_just HO2.out ho9 (by omega))
          have y0 := hb9.cell 0
          have y1 := hb9.cell 1
          have y2 := hb9.cell 2
          simp only [List.getElem?_toArray, List.getElem?_cons_zero, List.getElem?_cons_succ] at y0 y1 y2
          clear hb9 ho9
          go_wp2
          refine bodyPost_ret (v := .tuple #[linV 0 0 (.slice none 0 0), iv 11]) ?_ rfl ?_
          · simp [results, Tryz.f82, go_sem, y0, y1, y2]
          refine .inl ⟨_, _, 11, _, rfl, by decide, Z1.out, Z2.out, fun P S cs a' h => ?_⟩
          have h1 := (HOk.out _ _ _ _).1 h
          omega
  · obtain rfl : E4 = 11 := by rcases H4c.out with h | h; exact absurd h h1; exact h
    clear h1 H4c H4p
    go_wp2_with (refine wpList_store_row rfl 24 (.tmp 4) (.tmp 18) rfl rfl (w.heap.size + 1) 24 #[iv 0, iv 0, .slice none 0 0] #[iv 0, iv 0, .slice none 0 0] rfl rfl HBp1.out Tryz.size_lin rfl (by simp [Value.oneCell']) ?st)
    case st =>
      intro w9 hb9 ho9
      have Z1 := Lib.hid (rd_just HR1.out HBp1.out (by decide) hnp ho9)
      have Z2 := Lib.hid (only_just HO1.out ho9 (by omega))
      have y0 := hb9.cell 0
      have y1 := hb9.cell 1
      have y2 := hb9.cell 2
      simp only [List.getElem?_toArray, List.getElem?_cons_zero, List.getElem?_cons_succ] at y0 y1 y2
      clear hb9 ho9
      go_wp2
      refine bodyPost_ret (v := .tuple #[linV 0 0 (.slice none 0 0), iv 11]) ?_ rfl ?_
      · simp [results, Tryz.f82, go_sem, y0, y1, y2]
      refine .inl ⟨_, _, 11, _, rfl, by decide, Z1.out, Z2.out, fun P S cs a' h => ?_⟩
      have h1 := (HOk.out _ _ _ _).1 h
      omega
end Go.Proofs.YteklfkpeaadinaaGreatDoor.S
