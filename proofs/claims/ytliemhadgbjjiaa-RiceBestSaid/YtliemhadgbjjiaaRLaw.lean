/-
  The statements' own functions: Bytes, Ints, Same, few, and the chapter's example.
-/
import Derived.Test.YtliemhadgbjjiaaRBack
namespace Go.Proofs.Ytliemhadgbjjiaa
open Go.RowKit

theorem Src.at_ {w : World} {v : Value} {bs : List Nat} (h : Src w v bs) {k : Nat} (hk : k < bs.length) : ∃ ad c, v = .slice (some ad) bs.length c ∧ w.cell? (ad.add k) = some (byt bs[k]) := by
  rcases h.form with ⟨_, rfl⟩ | ⟨ad, c, hv, hc⟩
  · simp at hk
  · exact ⟨ad, c, hv, hc k _ (by simp [hk])⟩
theorem Src.drewN {w : World} {v : Value} {bs : List Nat} (h : Src w v bs) (n : Nat) : Src (w.drewN n) v bs := ⟨h.form, h.small⟩
theorem Src.slice {w : World} {v : Value} {bs : List Nat} (h : Src w v bs) : ∃ A c, v = .slice A bs.length c := by
  rcases h.form with ⟨rfl, rfl⟩ | ⟨ad, c, hv, hc⟩
  · exact ⟨none, 0, rfl⟩
  · exact ⟨_, _, hv⟩
theorem Src.only {F : Nat → Prop} {w w' : World} {v : Value} {bs : List Nat} (h : Src w v bs) (ho : Only F w w') (hF : ∀ i, F i → ∀ ad n c, v = .slice (some ad) n c → ad.block ≠ i) : Src w' v bs := by
  refine ⟨?_, h.small⟩
  rcases h.form with hn | ⟨ad, c, hv, hc⟩
  · exact .inl hn
  · refine .inr ⟨ad, c, hv, fun j u hu => ?_⟩
    have h1 := hc j u hu
    have hb : (ad.add j).block = ad.block := by unfold Addr.add; split <;> rfl
    have hl := World.block_lt_of_cell? w _ h1
    rw [World.cell?_of_block (w := w) (ho.block (ad.add j).block hl (fun e => hF _ e ad _ c hv hb.symm))]
    exact h1
theorem Src.nix {w w' : World} {v : Value} {bs : List Nat} (h : Src w v bs) (ho : Only Nix w w') : Src w' v bs := h.only ho (fun _ e => e.elim)

def SameRel (w : World) (n : Nat) (s5 : Value) (wr : World) : Prop := ∃ k m : Nat, k ≤ n ∧ s5 = .int .i64 (k : Int) ∧ wr = w.drewN m

set_option maxHeartbeats 400000 in
theorem same_yes {w : World} {v1 v2 : Value} {bs : List Nat} (h1 : Src w v1 bs) (h2 : Src w v2 bs) :
    Calls Try.prog 18 #[v1, v2] w fun e w' => e = .returned (.bool true) ∧ ∃ m, w' = w.drewN m := by
  have hsm := h1.small
  obtain ⟨A1, c1, hv1⟩ := h1.slice
  obtain ⟨A2, c2, hv2⟩ := h2.slice
  subst hv1
  subst hv2
  go_enter Try.func18, Try.ntmps18
  go_wp2
  go_loopw [5] (fun s5 wr => SameRel w bs.length s5 wr) (fun s5 _ => bs.length - (intOf s5).toNat)
  case atStart => exact ⟨0, 0, Nat.zero_le _, rfl, rfl⟩
  case round =>
    obtain ⟨k, m, hk, rfl, hwr⟩ := hrel
    have g1 := h1.drewN m
    have g2 := h2.drewN m
    rw [← hwr] at g1 g2
    have Hw := Lib.hid hwr
    clear hwr
    by_cases hlt : k < bs.length
    · obtain ⟨ad1, d1, e1, hx1⟩ := g1.at_ hlt
      obtain ⟨ad2, d2, e2, hx2⟩ := g2.at_ hlt
      injection e1 with e1 _ e1'
      injection e2 with e2 _ e2'
      subst e1 e2 e1' e2'
      unfold byt at hx1 hx2
      have hlt2 : (k : Int) < (bs.length : Int) := by omega
      generalize bs[k] = y at *
      go_wp2_with fail
      go_quiet (fail)
      go_wp2
      go_roundw
      case rel => exact ⟨k + 1, m + nq, by omega, by go_num, by rw [Hw.out, World.drewN_drewN]⟩
      case measure => simp [intOf]; omega
    · go_wp2
      go_ret
      exact ⟨rfl, m, Hw.out⟩

theorem src_lit (w : World) (x : Nat) : Src (w.alloc (.cells #[.int .u8 (x : Int)] 5)) (.slice (some ⟨w.heap.size, 0, none⟩) 1 1) [x] :=
  Src.of_owns (World.ownsRow_lit (base := 0) (size := 1) w #[.int .u8 (x : Int)] 1 (Nat.zero_le _) (by unfold maxLen; omega) rfl) (by simp)


set_option maxHeartbeats 400000 in
theorem ints_yes {w : World} {v1 v2 : Value} {xs : List Int} (h1 : ISrc w v1 xs) (h2 : ISrc w v2 xs) :
    Calls Try.prog 24 #[v1, v2] w fun e w' => e = .returned (.bool true) ∧ ∃ m, w' = w.drewN m := by
  have hsm := h1.small
  obtain ⟨A1, c1, hv1⟩ := h1.slice
  obtain ⟨A2, c2, hv2⟩ := h2.slice
  subst hv1
  subst hv2
  go_enter Try.func24, Try.ntmps24
  go_wp2
  go_loopw [5] (fun s5 wr => SameRel w xs.length s5 wr) (fun s5 _ => xs.length - (intOf s5).toNat)
  case atStart => exact ⟨0, 0, Nat.zero_le _, rfl, rfl⟩
  case round =>
    obtain ⟨k, m, hk, rfl, hwr⟩ := hrel
    have g1 := h1.nix ((Only.refl Nix w).drewN m)
    have g2 := h2.nix ((Only.refl Nix w).drewN m)
    rw [← hwr] at g1 g2
    have Hw := Lib.hid hwr
    clear hwr
    by_cases hlt : k < xs.length
    · obtain ⟨ad1, e1, hx1⟩ := g1.at_ hlt
      obtain ⟨ad2, e2, hx2⟩ := g2.at_ hlt
      subst e1 e2
      have hlt2 : (k : Int) < (xs.length : Int) := by omega
      generalize xs[k] = y at *
      go_wp2_with fail
      go_quiet (fail)
      go_wp2
      go_roundw
      case rel => exact ⟨k + 1, m + nq, by omega, by go_num, by rw [Hw.out, World.drewN_drewN]⟩
      case measure => simp [intOf]; omega
    · go_wp2
      go_ret
      exact ⟨rfl, m, Hw.out⟩

set_option maxHeartbeats 1000000 in
theorem same_plan {w : World} (m o : Int) (A B A' B' : Option Addr) (n n' k k' c d c' d' : Nat) (ps bs : List Int) (h1 : ISrc w (.slice A n c) ps) (h2 : ISrc w (.slice B k d) bs) (h3 : ISrc w (.slice A' n' c') ps) (h4 : ISrc w (.slice B' k' d') bs) :
    Calls Try.prog 25 #[planV m o (.slice A n c) (.slice B k d), planV m o (.slice A' n' c') (.slice B' k' d')] w fun e w' => e = .returned (.bool true) ∧ Only Nix w w' := by
  have a0 := ((Only.refl Nix w).alloc (.cells #[iv m, iv o, .slice A n c, .slice B k d] 24)).alloc (.cells #[iv m, iv o, .slice A' n' c', .slice B' k' d'] 24)
  have B0 := (Box.new w 24 #[iv m, iv o, .slice A n c, .slice B k d]).alloc (.cells #[iv m, iv o, .slice A' n' c', .slice B' k' d'] 24)
  have B1 := Box.new (w.alloc (.cells #[iv m, iv o, .slice A n c, .slice B k d] 24)) 24 #[iv m, iv o, .slice A' n' c', .slice B' k' d']
  rw [World.size_alloc] at B1
  obtain ⟨Wa, hWa⟩ : ∃ Wa, (w.alloc (.cells #[iv m, iv o, .slice A n c, .slice B k d] 24)).alloc (.cells #[iv m, iv o, .slice A' n' c', .slice B' k' d'] 24) = Wa := ⟨_, rfl⟩
  rw [hWa] at a0 B0 B1
  have HI1 := Lib.hid (ints_yes (h1.nix a0) (h3.nix a0))
  have HI2 : ∀ q, Hid (Calls Try.prog 24 #[.slice B k d, .slice B' k' d'] (Wa.drewN q) fun e w' => e = .returned (.bool true) ∧ ∃ m, w' = (Wa.drewN q).drewN m) := fun q => Lib.hid (ints_yes ((h2.nix a0).nix ((Only.refl Nix _).drewN q)) ((h4.nix a0).nix ((Only.refl Nix _).drewN q)))
  have d0 := B0.cell 0
  have d1 := B0.cell 1
  have d2 := B0.cell 2
  have d3 := B0.cell 3
  have e0 := B1.cell 0
  have e1 := B1.cell 1
  have e2 := B1.cell 2
  have e3 := B1.cell 3
  simp only [List.getElem?_toArray, List.getElem?_cons_zero, List.getElem?_cons_succ] at d0 d1 d2 d3 e0 e1 e2 e3
  have HA := Lib.hid a0
  clear a0 B0 B1 h1 h2 h3 h4
  go_enter Try.func25, Try.ntmps25
  go_wp2_with fail
  refine (HI1.out).mono ?_
  rintro e w1 ⟨rfl, q, rfl⟩
  have HI := HI2 q
  clear HI2 HI1
  go_wp2_with fail
  refine (HI.out).mono ?_
  rintro e w1 ⟨rfl, q2, rfl⟩
  go_wp2
  go_ret
  exact ⟨rfl, by first | exact (HA.out.drewN q).drewN q2 | exact HA.out.drewN (q + q2)⟩

def FewP (w1 : World) (n : Nat) (s5 s6 : Value) (wr : World) : Prop := ∃ (j : Nat) (q : Int), j ≤ n ∧ s6 = iv j ∧ s5 = iv q ∧ 0 ≤ q ∧ q ≤ 31 ∧ w1 = wr
def FewR (w : World) (n np nb : Nat) (e : Ending) (w' : World) : Prop := ∃ r, e = .returned (.bool r) ∧ (r = true → n ≤ 200 ∧ np ≤ 300 ∧ nb ≤ 300) ∧ Only Nix w w'
def FewQ (w1 : World) (n : Nat) (s7 : Value) (wr : World) : Prop := ∃ (j : Nat), j ≤ n ∧ s7 = iv j ∧ w1 = wr
set_option maxHeartbeats 2000000 in
theorem few_any {w : World} (m o : Int) (A Ap Ab : Option Addr) (n np nb c cp cb : Nat) (ps bs l : List Int) (hl : ISrc w (.slice A n c) l) (hp : ISrc w (.slice Ap np cp) ps) (hb : ISrc w (.slice Ab nb cb) bs) :
    Calls Try.prog 8 #[planV m o (.slice Ap np cp) (.slice Ab nb cb), .slice A n c] w fun e w' => FewR w n np nb e w' := by
  have hn := hl.len
  have hnp := hp.len
  have hnb := hb.len
  have s1 := hl.small
  have s2 := hp.small
  have s3 := hb.small
  rw [← hn] at s1
  rw [← hnp] at s2
  rw [← hnb] at s3
  have a0 := (Only.refl Nix w).alloc (.cells #[iv m, iv o, .slice Ap np cp, .slice Ab nb cb] 24)
  have B0 := Box.new w 24 #[iv m, iv o, .slice Ap np cp, .slice Ab nb cb]
  obtain ⟨Wa, hWa⟩ : ∃ Wa, w.alloc (.cells #[iv m, iv o, .slice Ap np cp, .slice Ab nb cb] 24) = Wa := ⟨_, rfl⟩
  rw [hWa] at a0 B0
  have HL := Lib.hid (hl.nix a0)
  have HP := Lib.hid (hp.nix a0)
  have HA := Lib.hid a0
  have d2 := B0.cell 2
  have d3 := B0.cell 3
  simp only [List.getElem?_toArray, List.getElem?_cons_zero, List.getElem?_cons_succ] at d2 d3
  have Hn := Lib.hid hn
  have Hnp := Lib.hid hnp
  clear hl hp hb a0 B0 hn hnp hnb
  by_cases g1 : 200 < n
  · have g1i : (200 : Int) < (n : Int) := by omega
    go_enter Try.func8, Try.ntmps8
    go_wp2
    go_ret
    exact ⟨false, rfl, (fun e => by cases e), HA.out⟩
  · have g1i : ¬ ((200 : Int) < (n : Int)) := by omega
    by_cases g2 : 300 < np
    · have g2i : (300 : Int) < (np : Int) := by omega
      go_enter Try.func8, Try.ntmps8
      go_wp2
      go_ret
      exact ⟨false, rfl, (fun e => by cases e), HA.out⟩
    · have g2i : ¬ ((300 : Int) < (np : Int)) := by omega
      by_cases g3 : 300 < nb
      · have g3i : (300 : Int) < (nb : Int) := by omega
        go_enter Try.func8, Try.ntmps8
        go_wp2
        go_ret
        exact ⟨false, rfl, (fun e => by cases e), HA.out⟩
      · have g3i : ¬ ((300 : Int) < (nb : Int)) := by omega
        have HQ : Hid (n ≤ 200 ∧ np ≤ 300 ∧ nb ≤ 300) := Lib.hid ⟨by omega, by omega, by omega⟩
        go_enter Try.func8, Try.ntmps8
        go_wp2
        go_loopw [5, 6] (fun s5 s6 wr => FewP Wa np s5 s6 wr) (fun _ s6 _ => np - (intOf s6).toNat)
        case atStart => exact ⟨0, 31, Nat.zero_le _, rfl, rfl, by decide, by decide, rfl⟩
        case round =>
          obtain ⟨j, q, hj, rfl, rfl, hq0, hq, rfl⟩ := hrel
          by_cases hlt : j < np
          · have hltx : j < ps.length := by rw [← Hnp.out]; exact hlt
            obtain ⟨ad, rfl, hxj⟩ := HP.out.at_ hltx
            have hft := HP.out.fits _ (List.getElem_mem hltx)
            have hlt2 : (j : Int) < (np : Int) := by omega
            generalize ps[j] = x at *
            clear hltx
            go_wp2
            all_goals go_roundw
            all_goals first
              | (case measure => simp [intOf]; omega)
              | (case rel => refine ⟨j + 1, _, by omega, by go_num, rfl, ?_, ?_, rfl⟩ <;> (repeat' split) <;> omega)
          · obtain rfl : j = np := by omega
            have hlt2 : decide (j < j) = false := by simp
            obtain ⟨q, rfl⟩ := Int.eq_ofNat_of_zero_le hq0
            go_wp2
            go_loopw [7] (fun s7 wr => FewQ Wa n s7 wr) (fun s7 _ => n - (intOf s7).toNat)
            case atStart => exact ⟨0, Nat.zero_le _, rfl, rfl⟩
            case round =>
              obtain ⟨i, hi, rfl, rfl⟩ := hrel
              by_cases hlti : i < n
              · have hltx : i < l.length := by rw [← Hn.out]; exact hlti
                obtain ⟨ad, rfl, hxj⟩ := HL.out.at_ hltx
                have hft := HL.out.fits _ (List.getElem_mem hltx)
                have hlti2 : (i : Int) < (n : Int) := by omega
                generalize l[i] = x at *
                clear hltx
                go_wp2
                all_goals first
                  | (go_ret; exact ⟨false, rfl, (fun e => by cases e), HA.out⟩)
                  | (go_roundw
                     case rel => exact ⟨i + 1, by omega, by go_num, rfl⟩
                     case measure => simp [intOf]; omega)
              · obtain rfl : i = n := by omega
                have hlti2 : decide (i < i) = false := by simp
                go_wp2
                go_ret
                exact ⟨true, rfl, fun _ => HQ.out, HA.out⟩
end Go.Proofs.Ytliemhadgbjjiaa
