/-
  SubframeBack's own: long.
-/
import Derived.Test.YteklfkpeaadinaaGreatDoorPAS24
import Derived.Test.YteklfkpeaadinaaGreatDoorPAG19
namespace Go.Proofs.YteklfkpeaadinaaGreatDoor.S
open Go.RowKit Go.Shelf
open K (linV fx)

theorem Tryz.size_rlin : (Tryz.prog.info? 53).map (·.size) = some 3 := by kernel_rfl
theorem _root_.Go.Proofs.YteklfkpeaadinaaGreatDoor.K.ResR.only' {w w' : World} {P S : Int} {cs xs : List Int} {e : Ending} (h : K.ResR w P S cs xs e w') : Only Nix w w' := h.2
theorem _root_.Go.Proofs.YteklfkpeaadinaaGreatDoor.K.ResR.form' {w w' : World} {P S : Int} {cs xs : List Int} {e : Ending} (h : K.ResR w P S cs xs e w') : ∃ (E : Int) (A : Option Addr) (n c : Nat) (zs : List Int), e = .returned (.tuple #[.slice A n c, iv E]) ∧ ISrc w' (.slice A n c) zs := by
  obtain ⟨⟨A, c, he, hs⟩, _⟩ := h
  exact ⟨_, A, _, c, _, he, hs⟩
/-- what long answers -/
def LongR (w : World) (e : Ending) (w' : World) : Prop := ∃ b : Bool, e = .returned (.bool b) ∧ Only Nix w w'
set_option maxRecDepth 100000 in
set_option maxHeartbeats 4000000 in
theorem long_any {w : World} (k o wd lp ls : Int) (Ac : Option Addr) (nc cc : Nat) (m ro : Int) (Ap Ab : Option Addr) (np cp nb cb : Nat) (d : Int) (A : Option Addr) (n c : Nat) (cs xs : List Int) (hcs : ISrc w (.slice Ac nc cc) cs) (hx : ISrc w (.slice A n c) xs) (hn : n ≤ 1000) :
    Calls Tryz.prog 7 #[spV k o wd lp ls (.slice Ac nc cc) m ro (.slice Ap np cp) (.slice Ab nb cb), iv d, .slice A n c] w fun e w' => LongR w e w' := by
  have a0 := (Only.refl Nix w).alloc (.cells (spC k o wd lp ls (.slice Ac nc cc) m ro (.slice Ap np cp) (.slice Ab nb cb)) 28)
  have B0 := Box.new w 28 (spC k o wd lp ls (.slice Ac nc cc) m ro (.slice Ap np cp) (.slice Ab nb cb))
  obtain ⟨Wa, hWa⟩ : ∃ Wa, w.alloc (.cells (spC k o wd lp ls (.slice Ac nc cc) m ro (.slice Ap np cp) (.slice Ab nb cb)) 28) = Wa := ⟨_, rfl⟩
  rw [hWa] at a0 B0
  have d0 := B0.cell 0
  have d1 := B0.cell 1
  have d2 := B0.cell 2
  have d3 := B0.cell 3
  have d4 := B0.cell 4
  have d5 := B0.cell 5
  have d6 := B0.cell 6
  have d7 := B0.cell 7
  have d8 := B0.cell 8
  have d9 := B0.cell 9
  simp only [List.getElem?_toArray, List.getElem?_cons_zero, List.getElem?_cons_succ] at d0 d1 d2 d3 d4 d5 d6 d7 d8 d9
  have HX := Lib.hid hx
  have HCs := Lib.hid hcs
  have HA := Lib.hid a0
  have HB0 := Lib.hid B0
  have HPl := Lib.hid (K.plain_any (w := Wa) lp ls Ac nc cc)
  have HFg : Hid (∀ u, Only Nix w u → ∀ b, LongR w (.returned (.bool b)) u) := Lib.hid (fun u hu b => ⟨b, rfl, hu⟩)
  have HF := Lib.hid (HFg.out Wa a0)
  clear a0 B0 hx hcs
  by_cases h1 : k < 2
  · go_enter Tryz.func7, Tryz.ntmps7
    go_wp2
    go_ret
    exact HF.out false
  by_cases h2 : np = 0
  · subst h2
    go_enter Tryz.func7, Tryz.ntmps7
    go_wp2
    go_ret
    exact HF.out false
  have h2i : ((np : Int) == 0) = false := by simp; omega
  by_cases h3 : wd < 0
  · go_enter Tryz.func7, Tryz.ntmps7
    go_wp2
    go_ret
    exact HF.out false
  by_cases h4 : 33 < wd
  · go_enter Tryz.func7, Tryz.ntmps7
    go_wp2
    go_ret
    exact HF.out false
  obtain ⟨wn, hwn⟩ := Int.eq_ofNat_of_zero_le (show 0 ≤ wd by omega)
  have hwn : wd = (wn : Int) := hwn
  subst hwn
  by_cases h5 : k = 2
  · subst h5
    by_cases h6 : o < 0
    · go_enter Tryz.func7, Tryz.ntmps7
      go_wp2_with fail
      refine (HPl.out).mono ?_
      rintro e w1 ⟨rfl, o1⟩
      have oA := (HA.out.trans o1).alloc (.cells #[iv lp, iv ls, .slice Ac nc cc] 53)
      have bq := (HB0.out.only o1 (fun e => e)).alloc (.cells #[iv lp, iv ls, .slice Ac nc cc] 53)
      have bh := Box.new w1 53 #[iv lp, iv ls, .slice Ac nc cc]
      obtain ⟨V, hV⟩ : ∃ V, w1.alloc (.cells #[iv lp, iv ls, .slice Ac nc cc] 53) = V := ⟨_, rfl⟩
      have HWS := Lib.hid ((HA.out.trans o1).size)
      have HWL := Lib.hid (HB0.out.only o1 (fun e => e)).lt
      rw [hV] at oA bq bh
      have HO1 := Lib.hid oA
      have HBq := Lib.hid bq
      have HBh := Lib.hid bh
      have c0 := bq.cell 0
      have c1 := bq.cell 1
      have c2 := bq.cell 2
      have c3 := bq.cell 3
      have c4 := bq.cell 4
      have c5 := bq.cell 5
      have c6 := bq.cell 6
      have c7 := bq.cell 7
      have c8 := bq.cell 8
      have c9 := bq.cell 9
      simp only [List.getElem?_toArray, List.getElem?_cons_zero, List.getElem?_cons_succ] at c0 c1 c2 c3 c4 c5 c6 c7 c8 c9
      have y0 := bh.cell 0
      have y1 := bh.cell 1
      have y2 := bh.cell 2
      simp only [List.getElem?_toArray, List.getElem?_cons_zero, List.getElem?_cons_succ] at y0 y1 y2
      clear o1 oA bq bh
      have HF1 := Lib.hid (HFg.out _ HO1.out)
      go_wp2
      go_ret
      exact HF1.out false
    · by_cases h7 : 4 < o
      · go_enter Tryz.func7, Tryz.ntmps7
        go_wp2_with fail
        refine (HPl.out).mono ?_
        rintro e w1 ⟨rfl, o1⟩
        have oA := (HA.out.trans o1).alloc (.cells #[iv lp, iv ls, .slice Ac nc cc] 53)
        have bq := (HB0.out.only o1 (fun e => e)).alloc (.cells #[iv lp, iv ls, .slice Ac nc cc] 53)
        have bh := Box.new w1 53 #[iv lp, iv ls, .slice Ac nc cc]
        obtain ⟨V, hV⟩ : ∃ V, w1.alloc (.cells #[iv lp, iv ls, .slice Ac nc cc] 53) = V := ⟨_, rfl⟩
        have HWS := Lib.hid ((HA.out.trans o1).size)
        have HWL := Lib.hid (HB0.out.only o1 (fun e => e)).lt
        rw [hV] at oA bq bh
        have HO1 := Lib.hid oA
        have HBq := Lib.hid bq
        have HBh := Lib.hid bh
        have c0 := bq.cell 0
        have c1 := bq.cell 1
        have c2 := bq.cell 2
        have c3 := bq.cell 3
        have c4 := bq.cell 4
        have c5 := bq.cell 5
        have c6 := bq.cell 6
        have c7 := bq.cell 7
        have c8 := bq.cell 8
        have c9 := bq.cell 9
        simp only [List.getElem?_toArray, List.getElem?_cons_zero, List.getElem?_cons_succ] at c0 c1 c2 c3 c4 c5 c6 c7 c8 c9
        have y0 := bh.cell 0
        have y1 := bh.cell 1
        have y2 := bh.cell 2
        simp only [List.getElem?_toArray, List.getElem?_cons_zero, List.getElem?_cons_succ] at y0 y1 y2
        clear o1 oA bq bh
        have HF1 := Lib.hid (HFg.out _ HO1.out)
        go_wp2
        go_ret
        exact HF1.out false
      · obtain ⟨q, hq⟩ := Int.eq_ofNat_of_zero_le (show 0 ≤ o by omega)
        have hq : o = (q : Int) := hq
        subst hq
        have HCo : Hid (∀ u, Calls Tryz.prog 29 #[iv q] u fun e w' => CoR q u e w') := Lib.hid (fun u => coefs_any q (by omega))
        go_enter Tryz.func7, Tryz.ntmps7
        go_wp2_with fail
        refine (HPl.out).mono ?_
        rintro e w1 ⟨rfl, o1⟩
        have oA := (HA.out.trans o1).alloc (.cells #[iv lp, iv ls, .slice Ac nc cc] 53)
        have bq := (HB0.out.only o1 (fun e => e)).alloc (.cells #[iv lp, iv ls, .slice Ac nc cc] 53)
        have bh := Box.new w1 53 #[iv lp, iv ls, .slice Ac nc cc]
        obtain ⟨V, hV⟩ : ∃ V, w1.alloc (.cells #[iv lp, iv ls, .slice Ac nc cc] 53) = V := ⟨_, rfl⟩
        have HWS := Lib.hid ((HA.out.trans o1).size)
        have HWL := Lib.hid (HB0.out.only o1 (fun e => e)).lt
        rw [hV] at oA bq bh
        have HO1 := Lib.hid oA
        have HBq := Lib.hid bq
        have HBh := Lib.hid bh
        have c0 := bq.cell 0
        have c1 := bq.cell 1
        have c2 := bq.cell 2
        have c3 := bq.cell 3
        have c4 := bq.cell 4
        have c5 := bq.cell 5
        have c6 := bq.cell 6
        have c7 := bq.cell 7
        have c8 := bq.cell 8
        have c9 := bq.cell 9
        simp only [List.getElem?_toArray, List.getElem?_cons_zero, List.getElem?_cons_succ] at c0 c1 c2 c3 c4 c5 c6 c7 c8 c9
        have y0 := bh.cell 0
        have y1 := bh.cell 1
        have y2 := bh.cell 2
        simp only [List.getElem?_toArray, List.getElem?_cons_zero, List.getElem?_cons_succ] at y0 y1 y2
        clear o1 oA bq bh
        go_wp2_with fail
        refine ((HCo.out _)).mono ?_
        rintro e w2 ⟨A4, n4, c4', rfl, hs4, o2, hg4⟩
        have HBh2 := HBh.out.only o2 (fun e => e)
        have HBq2 := Lib.hid (HBq.out.only o2 (fun e => e))
        have HO2 := Lib.hid (HO1.out.trans o2)
        have hlt1 := HBh.out.lt
        have hsz2 := HO2.out.size
        have hwv : w.heap.size ≤ w1.heap.size := HWS.out
        have hne : w.heap.size ≠ w1.heap.size := fun e => by
          have := HWL.out
          omega
        have HG4 := Lib.hid hg4
        have HS4 := Lib.hid hs4
        have HBh2 := Lib.hid HBh2
        clear hs4 o2 hg4 c0 c1 c2 c3 c4 c5 c6 c7 c8 c9 y0 y1 y2
        go_wp2_with (refine wpList_store_row rfl 53 (.tmp 7) (.tmp 49) rfl rfl w1.heap.size 53 #[iv lp, iv ls, .slice Ac nc cc] #[iv 4, iv 0, .slice A4 n4 c4'] rfl rfl HBh2.out Tryz.size_rlin rfl (by simp [Value.oneCell']) ?st)
        case st =>
          intro w5 hb5 ho5
          have HB5 := Lib.hid hb5
          have HBq5 := Lib.hid (HBq2.out.only ho5 (fun e => hne e))
          have HO5 := Lib.hid (only_just HO2.out ho5 hwv)
          have HC5 : Hid (ISrc w5 (.slice A4 n4 c4') (fx q)) := Lib.hid (HS4.out.only ho5 (fun i _ hF ad n c e _ => by
            cases hF
            injection e with e1
            have := HG4.out ad e1
            omega))
          have c0 := HBq5.out.cell 0
          have c1 := HBq5.out.cell 1
          have c2 := HBq5.out.cell 2
          have c3 := HBq5.out.cell 3
          have c4 := HBq5.out.cell 4
          have c5 := HBq5.out.cell 5
          have c6 := HBq5.out.cell 6
          have c7 := HBq5.out.cell 7
          have c8 := HBq5.out.cell 8
          have c9 := HBq5.out.cell 9
          simp only [List.getElem?_toArray, List.getElem?_cons_zero, List.getElem?_cons_succ] at c0 c1 c2 c3 c4 c5 c6 c7 c8 c9
          have y0 := HB5.out.cell 0
          have y1 := HB5.out.cell 1
          have y2 := HB5.out.cell 2
          simp only [List.getElem?_toArray, List.getElem?_cons_zero, List.getElem?_cons_succ] at y0 y1 y2
          clear hb5 ho5
          have HLs := Lib.hid (less_any (w := w5) wn (by omega) A n c xs (HX.out.nix HO5.out) hn)
          go_wp2_with fail
          refine (HLs.out).mono ?_
          intro e w8 hls
          have HO8 := Lib.hid (HO5.out.trans hls.only)
          have HB8 := Lib.hid (HB5.out.only hls.only (fun e => e))
          have HC8 := Lib.hid (HC5.out.nix hls.only)
          have z0 := HB8.out.cell 0
          have z1 := HB8.out.cell 1
          have z2 := HB8.out.cell 2
          simp only [List.getElem?_toArray, List.getElem?_cons_zero, List.getElem?_cons_succ] at z0 z1 z2
          have hlv : ∃ (va : Value) (n2 c2 : Nat) (A2 : Option Addr) (ys : List Int) (b : Bool), va = .slice A2 n2 c2 ∧ e = .returned (.tuple #[va, .bool b]) ∧ ISrc w8 (.slice A2 n2 c2) ys ∧ n2 ≤ 1000 := by
            by_cases hd : dvA wn xs
            · obtain ⟨A2, c2, he, hs⟩ := hls.good hd
              exact ⟨_, _, c2, A2, _, true, rfl, he, hs, by rw [← HX.out.len]; exact hn⟩
            · exact ⟨_, 0, 0, none, [], false, rfl, hls.bad hd, K.isrc_nil _, by omega⟩
          obtain ⟨va, n2, c2, A2, ys, b, rfl, rfl, hs2, hn2⟩ := hlv
          have HRs := Lib.hid (K.residualRef_any 4 0 A4 n4 c4' (fx q) A2 n2 c2 ys HC8.out hs2 hn2)
          clear hls hs2 HLs
          go_wp2_with fail
          refine (HRs.out).mono ?_
          intro e w9 hrs
          have HO9 := Lib.hid (HO8.out.trans hrs.only')
          obtain ⟨E, A3, n3, c3, zs, rfl, hs3⟩ := hrs.form'
          have HD := Lib.hid hs3
          have HFa := Lib.hid (HFg.out w9 HO9.out)
          have h3l := hs3.len
          have hn3 : n3 ≤ 140737488355328 := by have := hs3.small; omega
          have H3l := Lib.hid h3l
          clear hrs hs3 HRs h3l
          cases b with
          | false =>
            go_wp2
            go_ret
            exact HFa.out false
          | true =>
            by_cases hE : E = 0
            · subst hE
              go_wp2
              go_loopw [12] (fun s wr => LoopP w9 n3 s wr) (fun s _ => n3 - (intOf s).toNat)
              case atStart => exact ⟨0, Nat.zero_le _, rfl, rfl⟩
              case round =>
                obtain ⟨j, hj, rfl, rfl⟩ := hrel
                by_cases hlt : j < n3
                · have hltx : j < zs.length := by rw [← H3l.out]; exact hlt
                  obtain ⟨ad, hA, hxj⟩ := HD.out.at_ hltx
                  subst hA
                  have hlt2 : (j : Int) < (n3 : Int) := by omega
                  generalize zs[j] = x at *
                  clear hltx
                  by_cases g1 : 2500 < x
                  · go_wp2
                    go_ret
                    exact HFa.out true
                  · by_cases g2 : x < -2500
                    · go_wp2
                      go_ret
                      exact HFa.out true
                    · go_wp2
                      go_roundw
                      case rel => exact ⟨j + 1, by omega, by go_num, rfl⟩
                      case measure => simp [intOf]; omega
                · have hlt2 : ¬ (j : Int) < (n3 : Int) := by omega
                  go_wp2
                  go_ret
                  exact HFa.out false
            · have hEb : (E != 0) = true := by simpa using hE
              go_wp2
              go_ret
              exact HFa.out false
  · have h5i : (k == 2) = false := by simpa using h5
    go_enter Tryz.func7, Tryz.ntmps7
    go_wp2_with fail
    refine (HPl.out).mono ?_
    rintro e w1 ⟨rfl, o1⟩
    have oA := (HA.out.trans o1).alloc (.cells #[iv lp, iv ls, .slice Ac nc cc] 53)
    have bq := (HB0.out.only o1 (fun e => e)).alloc (.cells #[iv lp, iv ls, .slice Ac nc cc] 53)
    have bh := Box.new w1 53 #[iv lp, iv ls, .slice Ac nc cc]
    obtain ⟨V, hV⟩ : ∃ V, w1.alloc (.cells #[iv lp, iv ls, .slice Ac nc cc] 53) = V := ⟨_, rfl⟩
    have HWS := Lib.hid ((HA.out.trans o1).size)
    have HWL := Lib.hid (HB0.out.only o1 (fun e => e)).lt
    rw [hV] at oA bq bh
    have HO1 := Lib.hid oA
    have HBq := Lib.hid bq
    have HBh := Lib.hid bh
    have c0 := bq.cell 0
    have c1 := bq.cell 1
    have c2 := bq.cell 2
    have c3 := bq.cell 3
    have c4 := bq.cell 4
    have c5 := bq.cell 5
    have c6 := bq.cell 6
    have c7 := bq.cell 7
    have c8 := bq.cell 8
    have c9 := bq.cell 9
    simp only [List.getElem?_toArray, List.getElem?_cons_zero, List.getElem?_cons_succ] at c0 c1 c2 c3 c4 c5 c6 c7 c8 c9
    have y0 := bh.cell 0
    have y1 := bh.cell 1
    have y2 := bh.cell 2
    simp only [List.getElem?_toArray, List.getElem?_cons_zero, List.getElem?_cons_succ] at y0 y1 y2
    clear o1 oA bq bh
    have HC1 := Lib.hid (HCs.out.nix HO1.out)
    have HLs := Lib.hid (less_any (w := V) wn (by omega) A n c xs (HX.out.nix HO1.out) hn)
    go_wp2_with fail
    refine (HLs.out).mono ?_
    intro e w8 hls
    have HO8 := Lib.hid (HO1.out.trans hls.only)
    have HB8 := Lib.hid (HBh.out.only hls.only (fun e => e))
    have HC8 := Lib.hid (HC1.out.nix hls.only)
    have z0 := HB8.out.cell 0
    have z1 := HB8.out.cell 1
    have z2 := HB8.out.cell 2
    simp only [List.getElem?_toArray, List.getElem?_cons_zero, List.getElem?_cons_succ] at z0 z1 z2
    have hlv : ∃ (va : Value) (n2 c2 : Nat) (A2 : Option Addr) (ys : List Int) (b : Bool), va = .slice A2 n2 c2 ∧ e = .returned (.tuple #[va, .bool b]) ∧ ISrc w8 (.slice A2 n2 c2) ys ∧ n2 ≤ 1000 := by
      by_cases hd : dvA wn xs
      · obtain ⟨A2, c2, he, hs⟩ := hls.good hd
        exact ⟨_, _, c2, A2, _, true, rfl, he, hs, by rw [← HX.out.len]; exact hn⟩
      · exact ⟨_, 0, 0, none, [], false, rfl, hls.bad hd, K.isrc_nil _, by omega⟩
    obtain ⟨va, n2, c2, A2, ys, b, rfl, rfl, hs2, hn2⟩ := hlv
    have HRs := Lib.hid (K.residualRef_any lp ls Ac nc cc cs A2 n2 c2 ys HC8.out hs2 hn2)
    clear hls hs2 HLs
    go_wp2_with fail
    refine (HRs.out).mono ?_
    intro e w9 hrs
    have HO9 := Lib.hid (HO8.out.trans hrs.only')
    obtain ⟨E, A3, n3, c3, zs, rfl, hs3⟩ := hrs.form'
    have HD := Lib.hid hs3
    have HFa := Lib.hid (HFg.out w9 HO9.out)
    have h3l := hs3.len
    have hn3 : n3 ≤ 140737488355328 := by have := hs3.small; omega
    have H3l := Lib.hid h3l
    clear hrs hs3 HRs h3l
    cases b with
    | false =>
      go_wp2
      go_ret
      exact HFa.out false
    | true =>
      by_cases hE : E = 0
      · subst hE
        go_wp2
        go_loopw [12] (fun s wr => LoopP w9 n3 s wr) (fun s _ => n3 - (intOf s).toNat)
        case atStart => exact ⟨0, Nat.zero_le _, rfl, rfl⟩
        case round =>
          obtain ⟨j, hj, rfl, rfl⟩ := hrel
          by_cases hlt : j < n3
          · have hltx : j < zs.length := by rw [← H3l.out]; exact hlt
            obtain ⟨ad, hA, hxj⟩ := HD.out.at_ hltx
            subst hA
            have hlt2 : (j : Int) < (n3 : Int) := by omega
            generalize zs[j] = x at *
            clear hltx
            by_cases g1 : 2500 < x
            · go_wp2
              go_ret
              exact HFa.out true
            · by_cases g2 : x < -2500
              · go_wp2
                go_ret
                exact HFa.out true
              · go_wp2
                go_roundw
                case rel => exact ⟨j + 1, by omega, by go_num, rfl⟩
                case measure => simp [intOf]; omega
          · have hlt2 : ¬ (j : Int) < (n3 : Int) := by omega
            go_wp2
            go_ret
            exact HFa.out false
      · have hEb : (E != 0) = true := by simpa using hE
        go_wp2
        go_ret
        exact HFa.out false
end Go.Proofs.YteklfkpeaadinaaGreatDoor.S
