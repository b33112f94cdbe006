/-
  Best.
-/
import Derived.Test.YtliemhadgbjjiaaRLeast
namespace Go.Proofs.Ytliemhadgbjjiaa
open Go.RowKit

/-- what is wrong -/
noncomputable def bestE (od s : Int) (l : List Int) : Int :=
  if od < 0 ∨ 15 < od then 10 else if ckB ((l.length : Int) + s) s ≠ 0 then ckB ((l.length : Int) + s) s else
  if ckP 0 (l.length + s.toNat) s.toNat ≠ 0 then ckP 0 (l.length + s.toNat) s.toNat else @ite _ (∀ x ∈ l, isR x) (Classical.propDecidable _) 0 10
/-- Best's answer -/
def BestR (w : World) (od s : Int) (l : List Int) (e : Ending) (w' : World) : Prop :=
  (bestE od s l ≠ 0 ∧ e = .returned (.tuple #[plan0, iv (bestE od s l)]) ∧ Only Nix w w') ∨
  (bestE od s l = 0 ∧ ∃ v, e = .returned (.tuple #[v, iv 0]) ∧ LeastR w od.toNat s.toNat (l.map fd) (.returned v) w')

set_option maxRecDepth 100000 in
set_option maxHeartbeats 2000000 in
theorem best_any {w : World} (od s : Int) (A : Option Addr) (n c : Nat) (l : List Int) (hs0 : -9223372036854775808 ≤ s) (hs1 : s ≤ 4611686018427387904) (hl : ISrc w (.slice A n c) l) :
    Calls Try.prog 30 #[iv od, iv s, .slice A n c] w fun e w' => BestR w od s l e w' := by
  obtain rfl := hl.len
  have hsm := hl.small
  obtain ⟨Wa, hWa⟩ : ∃ Wa, w.alloc (.cells #[Value.int .i64 0, Value.int .i64 0, .slice none 0 0, .slice none 0 0] 24) = Wa := ⟨_, rfl⟩
  have a0 := (Only.refl Nix w).alloc (.cells #[Value.int .i64 0, Value.int .i64 0, .slice none 0 0, .slice none 0 0] 24)
  have B0 := Lib.hid (Box.new w 24 #[Value.int .i64 0, Value.int .i64 0, .slice none 0 0, .slice none 0 0])
  rw [hWa] at a0 B0
  have HA := Lib.hid a0
  have d0 := B0.out.cell 0
  have d1 := B0.out.cell 1
  have d2 := B0.out.cell 2
  have d3 := B0.out.cell 3
  simp only [List.getElem?_toArray, List.getElem?_cons_zero, List.getElem?_cons_succ] at d0 d1 d2 d3
  have f0 := B0.out.frozen 0
  have f1 := B0.out.frozen 1
  have f2 := B0.out.frozen 2
  have f3 := B0.out.frozen 3
  have y := plan_put B0.out (iv 0) (iv 0) (.slice none 0 0) (.slice none 0 0)
  have y0 := y.cell 0
  have y1 := y.cell 1
  have y2 := y.cell 2
  have y3 := y.cell 3
  simp only [List.getElem?_toArray, List.getElem?_cons_zero, List.getElem?_cons_succ] at y0 y1 y2 y3
  have Z2 := Lib.hid (plan_only a0 (N := w.heap.size) (.inr (Nat.le_refl _)) (iv 0) (iv 0) (.slice none 0 0) (.slice none 0 0))
  clear y a0
  by_cases ho : od < 0
  · have HE : Hid (bestE od s l = 10) := Lib.hid (by unfold bestE; rw [if_pos (.inl ho)])
    have hod : decide (od < 0) = true := by simpa using ho
    go_enter Try.func30, Try.ntmps30
    go_wp2
    refine bodyPost_ret (v := .tuple #[plan0, iv 10]) ?_ rfl ?_
    · simp [results, Try.f30, go_sem, y0, y1, y2, y3]
    exact .inl ⟨by rw [HE.out]; decide, by rw [HE.out], Z2.out⟩
  · have hod : decide (od < 0) = false := by simpa using ho
    by_cases ho2 : 15 < od
    · have HE : Hid (bestE od s l = 10) := Lib.hid (by unfold bestE; rw [if_pos (.inr ho2)])
      have hod2 : decide (15 < od) = true := by simpa using ho2
      go_enter Try.func30, Try.ntmps30
      go_wp2
      refine bodyPost_ret (v := .tuple #[plan0, iv 10]) ?_ rfl ?_
      · simp [results, Try.f30, go_sem, y0, y1, y2, y3]
      exact .inl ⟨by rw [HE.out]; decide, by rw [HE.out], Z2.out⟩
    · have hod2 : decide (15 < od) = false := by simpa using ho2
      have HB := Lib.hid (checkBlock_any Wa ((l.length : Int) + s) s)
      by_cases hb : ckB ((l.length : Int) + s) s = 0
      · obtain ⟨b1, b2, b3, b4⟩ := ckB_zero hb
        obtain ⟨s, rfl⟩ := Int.eq_ofNat_of_zero_le b3
        obtain ⟨od, rfl⟩ := Int.eq_ofNat_of_zero_le (show 0 ≤ od by omega)
        rw [hb] at HB
        have HP := Lib.hid (checkParting_any Wa 0 (l.length + s) s (by omega) (by omega))
        rw [Int.natCast_add] at HP
        have HX := Lib.hid hl
        by_cases hp : ckP 0 (l.length + s) s = 0
        · rw [hp] at HP
          have HF := Lib.hid (foldAll_any (w := Wa) A c l (hl.nix HA.out) (by omega))
          have hn1 : 1 ≤ l.length := by
            have := (ckP_zero hp).2
            simp at this
            omega
          have HEv : Hid (bestE (od : Int) (s : Int) l = @ite _ (∀ x ∈ l, isR x) (Classical.propDecidable _) 0 10) := Lib.hid (by
            unfold bestE
            rw [if_neg (by omega), if_neg (by simpa using hb), Int.toNat_natCast, if_neg (by simpa using hp)])
          have hs32 : s ≤ 32 := by omega
          have hbl : l.length + s ≤ 65535 := by omega
          have hod15 : od ≤ 15 := by omega
          clear hb hp hl b1 b2 b3 b4
          generalize hNl : l.length = N at *
          have HN := Lib.hid hNl
          clear hNl
          go_enter Try.func30, Try.ntmps30
          go_wp2_with fail
          refine (HB.out).mono ?_
          rintro e w1 ⟨rfl, rfl⟩
          go_wp2_with fail
          refine (HP.out).mono ?_
          rintro e w1 ⟨rfl, rfl⟩
          go_wp2_with fail
          refine (HF.out).mono ?_
          rintro e w2 ⟨⟨hR, rfl, hBg⟩ | ⟨hR, rfl⟩, o2⟩
          · have B02 := Lib.hid (B0.out.only o2 (fun e => e))
            rw [fds_ivs] at hBg
            have hsrc : ISrc w2 (.slice (some ⟨Wa.heap.size, 0, none⟩) N N) (ivs (l.map fd)) := ISrc.of_box (t := 3) hBg (by rw [ivs_len, List.length_map, HN.out]) (Nat.le_refl _) (by rw [ivs_len, List.length_map, HN.out]; omega) (fun y hy => by
              unfold ivs at hy
              obtain ⟨z, hz, rfl⟩ := List.mem_map.1 hy
              obtain ⟨x, hx, rfl⟩ := List.mem_map.1 hz
              have := fd_lt (hR x hx)
              omega)
            have HLp := Lib.hid (leastPlan_walk od s ⟨Wa.heap.size, 0, none⟩ N N (l.map fd) hod15 hs32 (by rw [List.length_map, HN.out]; exact hn1) hsrc hbl (fun y hy => by
              obtain ⟨x, hx, rfl⟩ := List.mem_map.1 hy
              exact fd_lt (hR x hx)))
            have HE : Hid (bestE (od : Int) (s : Int) l = 0) := Lib.hid (by rw [HEv.out, if_pos hR])
            have Hsz := B02.out.lt
            have HO2 := Lib.hid (HA.out.trans o2)
            clear hsrc hBg o2
            go_wp2_with fail
            refine (HLp.out).mono ?_
            rintro e w3 ⟨bm, bo, bA, bA', bn, bn', bc, bc', bps, bbs, st1, st2, rfl, i1, i2, hno, hso, hbl2, hs1, hs2, o3⟩
            have B03 := Lib.hid (B02.out.only o3 (fun e => e))
            have g0 := B03.out.cell 0
            have g1 := B03.out.cell 1
            have g2 := B03.out.cell 2
            have g3 := B03.out.cell 3
            simp only [List.getElem?_toArray, List.getElem?_cons_zero, List.getElem?_cons_succ] at g0 g1 g2 g3
            have h0 := B03.out.frozen 0
            have h1 := B03.out.frozen 1
            have h2 := B03.out.frozen 2
            have h3 := B03.out.frozen 3
            have y := plan_put B03.out (iv bm) (iv bo) (.slice bA bn bc) (.slice bA' bn' bc')
            have oZ := plan_only (F := fun k => k = w.heap.size) (Only.refl _ w3) (N := w.heap.size) (.inl rfl) (iv bm) (iv bo) (.slice bA bn bc) (.slice bA' bn' bc')
            have oF := plan_only (HO2.out.trans o3) (N := w.heap.size) (.inr (Nat.le_refl _)) (iv bm) (iv bo) (.slice bA bn bc) (.slice bA' bn' bc')
            have j1 := i1.only oZ (fun i _ hF ad k c' e _ => by injection e with e _ _; have := hbl2 ad (.inl e); rw [hF]; omega)
            have j2 := i2.only oZ (fun i _ hF ad k c' e _ => by injection e with e _ _; have := hbl2 ad (.inr e); rw [hF]; omega)
            have HY := Lib.hid (And.intro y (And.intro oF (And.intro j1 j2)))
            have HR := Lib.hid (And.intro hno (And.intro hso (And.intro hbl2 (And.intro hs1 hs2))))
            clear y oZ oF j1 j2 i1 i2 hno hso hbl2 hs1 hs2 o3
            go_wp2
            have hsw := HO2.out.size
            have y := HY.out.1
            have y0 := y.cell 0
            have y1 := y.cell 1
            have y2 := y.cell 2
            have y3 := y.cell 3
            simp only [List.getElem?_toArray, List.getElem?_cons_zero, List.getElem?_cons_succ] at y0 y1 y2 y3
            refine bodyPost_ret (v := .tuple #[planV bm bo (.slice bA bn bc) (.slice bA' bn' bc'), iv 0]) ?_ rfl (.inr ⟨HE.out, planV bm bo (.slice bA bn bc) (.slice bA' bn' bc'), rfl, ?_⟩)
            · simp [results, Try.f30, go_sem, y0, y1, y2, y3]
            · rw [Int.toNat_natCast, Int.toNat_natCast]
              exact ⟨bm, bo, bA, bA', bn, bn', bc, bc', bps, bbs, st1, st2, rfl, HY.out.2.2.1, HY.out.2.2.2, HR.out.1, HR.out.2.1, (fun ad e => by have := HR.out.2.2.1 ad e; omega), HR.out.2.2.2.1, HR.out.2.2.2.2, HY.out.2.1⟩
          · have B02 := Lib.hid (B0.out.only o2 (fun e => e))
            have g0 := B02.out.cell 0
            have g1 := B02.out.cell 1
            have g2 := B02.out.cell 2
            have g3 := B02.out.cell 3
            simp only [List.getElem?_toArray, List.getElem?_cons_zero, List.getElem?_cons_succ] at g0 g1 g2 g3
            have h0 := B02.out.frozen 0
            have h1 := B02.out.frozen 1
            have h2 := B02.out.frozen 2
            have h3 := B02.out.frozen 3
            have HE : Hid (bestE (od : Int) (s : Int) l = 10) := Lib.hid (by rw [HEv.out, if_neg hR])
            have y := plan_put B02.out (iv 0) (iv 0) (.slice none 0 0) (.slice none 0 0)
            have Z3 := Lib.hid (plan_only (HA.out.trans o2) (N := w.heap.size) (.inr (Nat.le_refl _)) (iv 0) (iv 0) (.slice none 0 0) (.slice none 0 0))
            have y0' := y.cell 0
            have y1' := y.cell 1
            have y2' := y.cell 2
            have y3' := y.cell 3
            simp only [List.getElem?_toArray, List.getElem?_cons_zero, List.getElem?_cons_succ] at y0' y1' y2' y3'
            clear y o2
            go_wp2
            refine bodyPost_ret (v := .tuple #[plan0, iv 10]) ?_ rfl ?_
            · simp [results, Try.f30, go_sem, y0', y1', y2', y3']
            exact .inl ⟨by rw [HE.out]; decide, by rw [HE.out], Z3.out⟩
        · have HE : Hid (bestE (od : Int) (s : Int) l = ckP 0 (l.length + s) s) := Lib.hid (by
            unfold bestE
            rw [if_neg (by omega), if_neg (by simpa using hb), Int.toNat_natCast, if_pos hp])
          have Hb := Lib.hid hp
          have hbb : (ckP 0 (l.length + s) s != 0) = true := by simpa using hp
          clear hb hp hl b1 b2 b3 b4
          generalize ckP 0 (l.length + s) s = ce at *
          generalize l.length = n at *
          go_enter Try.func30, Try.ntmps30
          go_wp2_with fail
          refine (HB.out).mono ?_
          rintro e w1 ⟨rfl, rfl⟩
          go_wp2_with fail
          refine (HP.out).mono ?_
          rintro e w1 ⟨rfl, rfl⟩
          go_wp2
          refine bodyPost_ret (v := .tuple #[plan0, iv ce]) ?_ rfl ?_
          · simp [results, Try.f30, go_sem, y0, y1, y2, y3]
          exact .inl ⟨by rw [HE.out]; exact Hb.out, by rw [HE.out], Z2.out⟩
      · have HE : Hid (bestE od s l = ckB ((l.length : Int) + s) s) := Lib.hid (by unfold bestE; rw [if_neg (by omega), if_pos hb])
        have Hb := Lib.hid hb
        have hbb : (ckB ((l.length : Int) + s) s != 0) = true := by simpa using hb
        clear hb hl
        generalize ckB ((l.length : Int) + s) s = ce at *
        generalize l.length = n at *
        go_enter Try.func30, Try.ntmps30
        go_wp2_with fail
        refine (HB.out).mono ?_
        rintro e w1 ⟨rfl, rfl⟩
        go_wp2
        refine bodyPost_ret (v := .tuple #[plan0, iv ce]) ?_ rfl ?_
        · simp [results, Try.f30, go_sem, y0, y1, y2, y3]
        exact .inl ⟨by rw [HE.out]; exact Hb.out, by rw [HE.out], Z2.out⟩
end Go.Proofs.Ytliemhadgbjjiaa
