/-
  The document's Make: the walk.
-/
import Derived.Test.YteahiigfclabfaaDoorHU3
namespace Go.Proofs.YteahiigfclabfaaDoor.H
open Go.RowKit

def rmE (blk mo rate ch dep : Int) : Int :=
  if blk < 1 ∨ 65535 < blk ∨ rate < 0 ∨ 1048575 < rate ∨ dep < 4 ∨ 32 < dep then 10 else if mo < 0 ∨ 10 < mo then 13 else if ch ≠ (if mo < 8 then mo + 1 else 2) then 22 else 0
def rmH (V : Bool) (num blk mo rate dep : Int) : Hd := ⟨V, rbC blk, (rrC rate).1, mo, (rdF dep 7).1, num, blk, (rrC rate).2, (rdF dep 7).2⟩
def rmA (V : Bool) (num blk mo rate ch dep : Int) : Hd := if rmE blk mo rate ch dep = 0 then rmH V num blk mo rate dep else hd0
/-- the three blocks -/
structure MkS (w : World) (P : Array Value) (X : Array Value) (wr : World) : Prop where
  bx : Box wr (w.heap.size + 2) 26 X
  b9 : Box wr w.heap.size 42 P
  b10 : Box wr (w.heap.size + 1) 26 (hc hd0)
  on : Only Nix w wr
def rrS (n : Int) (k : Nat) : Nat × Int := if 0 < n then rrF n k else (0, 0)
structure MkP (w : World) (P : Array Value) (X : Nat → Array Value) (m : Nat) (s : Value) (wr : World) : Prop where
  ex : ∃ k : Nat, k ≤ m ∧ s = iv (k + 1 : Nat) ∧ Box wr (w.heap.size + 2) 26 (X k)
  b9 : Box wr w.heap.size 42 P
  b10 : Box wr (w.heap.size + 1) 26 (hc hd0)
  on : Only Nix w wr
theorem rU_nat (c : Int) : ∃ u : Nat, rU c = u ∧ 1 ≤ u ∧ u ≤ 1000 := by
  unfold rU
  split
  · exact ⟨1000, rfl, by decide, by decide⟩
  · split
    · exact ⟨10, rfl, by decide, by decide⟩
    · exact ⟨1, rfl, by decide, by decide⟩
set_option maxRecDepth 100000 in
set_option maxHeartbeats 16000000 in
theorem rmake_any (V : Bool) (num blk mo rate ch dep : Int) (w : World) :
    Calls Tryd.prog 17 #[.bool V, iv num, iv blk, iv mo, .agg #[iv rate, iv ch, iv dep]] w fun x w' => x = .returned (.tuple #[hv (rmA V num blk mo rate ch dep), iv (rmE blk mo rate ch dep)]) ∧ Only Nix w w' := by
  have HA : Hid (rmA V num blk mo rate ch dep = if rmE blk mo rate ch dep = 0 then rmH V num blk mo rate dep else hd0) := Lib.hid rfl
  have HE : Hid (rmE blk mo rate ch dep = if blk < 1 ∨ 65535 < blk ∨ rate < 0 ∨ 1048575 < rate ∨ dep < 4 ∨ 32 < dep then 10 else if mo < 0 ∨ 10 < mo then 13 else if ch ≠ (if mo < 8 then mo + 1 else 2) then 22 else 0) := Lib.hid rfl
  have HH : Hid (rmH V num blk mo rate dep = ⟨V, rbC blk, (rrC rate).1, mo, (rdF dep 7).1, num, blk, (rrC rate).2, (rdF dep 7).2⟩) := Lib.hid rfl
  generalize rmA V num blk mo rate ch dep = AA at *
  generalize rmE blk mo rate ch dep = E at *
  generalize rmH V num blk mo rate dep = HH0 at *
  have CB : Hid (∀ (c : Nat) x, Calls Tryd.prog 19 #[iv (c : Nat)] x fun e w' => e = .returned (iv (rB (c : Nat))) ∧ Only Nix x w') := Lib.hid (fun c x => rB_any _ x)
  have CR : Hid (∀ (c : Nat) x, Calls Tryd.prog 20 #[iv (c : Nat)] x fun e w' => e = .returned (iv (rR (c : Nat))) ∧ Only Nix x w') := Lib.hid (fun c x => rR_any _ x)
  have CD : Hid (∀ (c : Nat) x, Calls Tryd.prog 21 #[iv (c : Nat)] x fun e w' => e = .returned (iv (rD (c : Nat))) ∧ Only Nix x w') := Lib.hid (fun c x => rD_any _ x)
  have CU : Hid (∀ (c : Int) x, Calls Tryd.prog 23 #[iv c] x fun e w' => e = .returned (iv (rU c)) ∧ x = w') := Lib.hid (fun c x => unit_any _ x)
  have hOa := (Only.refl Nix w).alloc (.cells #[iv rate, iv ch, iv dep] 42)
  have hPa := Box.new w 42 #[iv rate, iv ch, iv dep]
  have hsa : (w.alloc (.cells #[iv rate, iv ch, iv dep] 42)).heap.size = w.heap.size + 1 := by simp
  generalize hWa : w.alloc (.cells #[iv rate, iv ch, iv dep] 42) = Wa at *
  have hOb := (Only.refl Nix Wa).alloc (.cells (hc hd0) 26)
  have hRb := Box.new Wa 26 (hc hd0)
  have hPb := hPa.alloc (.cells (hc hd0) 26)
  have hsb : (Wa.alloc (.cells (hc hd0) 26)).heap.size = w.heap.size + 2 := by simp [hsa]
  rw [hsa] at hRb
  generalize hWb : Wa.alloc (.cells (hc hd0) 26) = W0 at *
  have O0 := Lib.hid (hOa.trans hOb)
  have P0 := Lib.hid hPb
  have R0 := Lib.hid hRb
  have HSB := Lib.hid hsb
  have q0 : W0.cell? ⟨w.heap.size, 0, none⟩ = some (iv rate) := hPb.cell 0
  have q1 : W0.cell? ⟨w.heap.size, 1, none⟩ = some (iv ch) := hPb.cell 1
  have q2 : W0.cell? ⟨w.heap.size, 2, none⟩ = some (iv dep) := hPb.cell 2
  simp only [hc, hd0] at hWb
  clear hOa hPa hOb hRb hPb hsb
  go_enter Tryd.func17, Tryd.ntmps17
  by_cases a1 : blk < 1
  · have hE : E = 10 := by rw [HE.out]; rw [if_pos (.inl a1)]
    have hA : AA = hd0 := by rw [HA.out, if_neg (by rw [hE]; decide)]
    subst hE hA
    go_wp2_with (refine wpList_store_row rfl 26 (.tmp 10) (.tmp 44) rfl rfl (w.heap.size + 1) 26 (hc hd0) (hc hd0) rfl rfl R0.out Tryd.size_ref rfl (hc_one _) ?st)
    case st =>
      intro wz hbz hoz
      have OW : Hid (Only Nix w wz) := Lib.hid (O0.out.then hoz (fun i e => .inr (by rw [show i = w.heap.size + 1 from e]; omega)))
      have HLd := Lib.hid hbz
      clear hbz hoz
      go_wp2
      refine bodyPost_ret (v := .tuple #[hv hd0, iv 10]) ?_ rfl ?_
      · have hb := HLd.out
        have k0 := hb.cell 0
        have k1 := hb.cell 1
        have k2 := hb.cell 2
        have k3 := hb.cell 3
        have k4 := hb.cell 4
        have k5 := hb.cell 5
        have k6 := hb.cell 6
        have k7 := hb.cell 7
        have k8 := hb.cell 8
        simp only [hc, hd0, List.getElem?_toArray, List.getElem?_cons_zero, List.getElem?_cons_succ] at k0 k1 k2 k3 k4 k5 k6 k7 k8
        simp [results, Tryd.f17, go_sem, k0, k1, k2, k3, k4, k5, k6, k7, k8, hv, hc, hd0]
      · exact ⟨rfl, OW.out⟩
  · skip
    by_cases a2 : 65535 < blk
    · have hE : E = 10 := by rw [HE.out]; rw [if_pos (.inr (.inl a2))]
      have hA : AA = hd0 := by rw [HA.out, if_neg (by rw [hE]; decide)]
      subst hE hA
      go_wp2_with (refine wpList_store_row rfl 26 (.tmp 10) (.tmp 44) rfl rfl (w.heap.size + 1) 26 (hc hd0) (hc hd0) rfl rfl R0.out Tryd.size_ref rfl (hc_one _) ?st)
      case st =>
        intro wz hbz hoz
        have OW : Hid (Only Nix w wz) := Lib.hid (O0.out.then hoz (fun i e => .inr (by rw [show i = w.heap.size + 1 from e]; omega)))
        have HLd := Lib.hid hbz
        clear hbz hoz
        go_wp2
        refine bodyPost_ret (v := .tuple #[hv hd0, iv 10]) ?_ rfl ?_
        · have hb := HLd.out
          have k0 := hb.cell 0
          have k1 := hb.cell 1
          have k2 := hb.cell 2
          have k3 := hb.cell 3
          have k4 := hb.cell 4
          have k5 := hb.cell 5
          have k6 := hb.cell 6
          have k7 := hb.cell 7
          have k8 := hb.cell 8
          simp only [hc, hd0, List.getElem?_toArray, List.getElem?_cons_zero, List.getElem?_cons_succ] at k0 k1 k2 k3 k4 k5 k6 k7 k8
          simp [results, Tryd.f17, go_sem, k0, k1, k2, k3, k4, k5, k6, k7, k8, hv, hc, hd0]
        · exact ⟨rfl, OW.out⟩
    · skip
      by_cases a3 : rate < 0
      · have hE : E = 10 := by rw [HE.out]; rw [if_pos (.inr (.inr (.inl a3)))]
        have hA : AA = hd0 := by rw [HA.out, if_neg (by rw [hE]; decide)]
        subst hE hA
        go_wp2_with (refine wpList_store_row rfl 26 (.tmp 10) (.tmp 44) rfl rfl (w.heap.size + 1) 26 (hc hd0) (hc hd0) rfl rfl R0.out Tryd.size_ref rfl (hc_one _) ?st)
        case st =>
          intro wz hbz hoz
          have OW : Hid (Only Nix w wz) := Lib.hid (O0.out.then hoz (fun i e => .inr (by rw [show i = w.heap.size + 1 from e]; omega)))
          have HLd := Lib.hid hbz
          clear hbz hoz
          go_wp2
          refine bodyPost_ret (v := .tuple #[hv hd0, iv 10]) ?_ rfl ?_
          · have hb := HLd.out
            have k0 := hb.cell 0
            have k1 := hb.cell 1
            have k2 := hb.cell 2
            have k3 := hb.cell 3
            have k4 := hb.cell 4
            have k5 := hb.cell 5
            have k6 := hb.cell 6
            have k7 := hb.cell 7
            have k8 := hb.cell 8
            simp only [hc, hd0, List.getElem?_toArray, List.getElem?_cons_zero, List.getElem?_cons_succ] at k0 k1 k2 k3 k4 k5 k6 k7 k8
            simp [results, Tryd.f17, go_sem, k0, k1, k2, k3, k4, k5, k6, k7, k8, hv, hc, hd0]
          · exact ⟨rfl, OW.out⟩
      · skip
        by_cases a4 : 1048575 < rate
        · have hE : E = 10 := by rw [HE.out]; rw [if_pos (.inr (.inr (.inr (.inl a4))))]
          have hA : AA = hd0 := by rw [HA.out, if_neg (by rw [hE]; decide)]
          subst hE hA
          go_wp2_with (refine wpList_store_row rfl 26 (.tmp 10) (.tmp 44) rfl rfl (w.heap.size + 1) 26 (hc hd0) (hc hd0) rfl rfl R0.out Tryd.size_ref rfl (hc_one _) ?st)
          case st =>
            intro wz hbz hoz
            have OW : Hid (Only Nix w wz) := Lib.hid (O0.out.then hoz (fun i e => .inr (by rw [show i = w.heap.size + 1 from e]; omega)))
            have HLd := Lib.hid hbz
            clear hbz hoz
            go_wp2
            refine bodyPost_ret (v := .tuple #[hv hd0, iv 10]) ?_ rfl ?_
            · have hb := HLd.out
              have k0 := hb.cell 0
              have k1 := hb.cell 1
              have k2 := hb.cell 2
              have k3 := hb.cell 3
              have k4 := hb.cell 4
              have k5 := hb.cell 5
              have k6 := hb.cell 6
              have k7 := hb.cell 7
              have k8 := hb.cell 8
              simp only [hc, hd0, List.getElem?_toArray, List.getElem?_cons_zero, List.getElem?_cons_succ] at k0 k1 k2 k3 k4 k5 k6 k7 k8
              simp [results, Tryd.f17, go_sem, k0, k1, k2, k3, k4, k5, k6, k7, k8, hv, hc, hd0]
            · exact ⟨rfl, OW.out⟩
        · skip
          by_cases a5 : dep < 4
          · have hE : E = 10 := by rw [HE.out]; rw [if_pos (.inr (.inr (.inr (.inr (.inl a5)))))]
            have hA : AA = hd0 := by rw [HA.out, if_neg (by rw [hE]; decide)]
            subst hE hA
            go_wp2_with (refine wpList_store_row rfl 26 (.tmp 10) (.tmp 44) rfl rfl (w.heap.size + 1) 26 (hc hd0) (hc hd0) rfl rfl R0.out Tryd.size_ref rfl (hc_one _) ?st)
            case st =>
              intro wz hbz hoz
              have OW : Hid (Only Nix w wz) := Lib.hid (O0.out.then hoz (fun i e => .inr (by rw [show i = w.heap.size + 1 from e]; omega)))
              have HLd := Lib.hid hbz
              clear hbz hoz
              go_wp2
              refine bodyPost_ret (v := .tuple #[hv hd0, iv 10]) ?_ rfl ?_
              · have hb := HLd.out
                have k0 := hb.cell 0
                have k1 := hb.cell 1
                have k2 := hb.cell 2
                have k3 := hb.cell 3
                have k4 := hb.cell 4
                have k5 := hb.cell 5
                have k6 := hb.cell 6
                have k7 := hb.cell 7
                have k8 := hb.cell 8
                simp only [hc, hd0, List.getElem?_toArray, List.getElem?_cons_zero, List.getElem?_cons_succ] at k0 k1 k2 k3 k4 k5 k6 k7 k8
                simp [results, Tryd.f17, go_sem, k0, k1, k2, k3, k4, k5, k6, k7, k8, hv, hc, hd0]
              · exact ⟨rfl, OW.out⟩
          · skip
            by_cases a6 : 32 < dep
            · have hE : E = 10 := by rw [HE.out]; rw [if_pos (.inr (.inr (.inr (.inr (.inr a6)))))]
              have hA : AA = hd0 := by rw [HA.out, if_neg (by rw [hE]; decide)]
              subst hE hA
              go_wp2_with (refine wpList_store_row rfl 26 (.tmp 10) (.tmp 44) rfl rfl (w.heap.size + 1) 26 (hc hd0) (hc hd0) rfl rfl R0.out Tryd.size_ref rfl (hc_one _) ?st)
              case st =>
                intro wz hbz hoz
                have OW : Hid (Only Nix w wz) := Lib.hid (O0.out.then hoz (fun i e => .inr (by rw [show i = w.heap.size + 1 from e]; omega)))
                have HLd := Lib.hid hbz
                clear hbz hoz
                go_wp2
                refine bodyPost_ret (v := .tuple #[hv hd0, iv 10]) ?_ rfl ?_
                · have hb := HLd.out
                  have k0 := hb.cell 0
                  have k1 := hb.cell 1
                  have k2 := hb.cell 2
                  have k3 := hb.cell 3
                  have k4 := hb.cell 4
                  have k5 := hb.cell 5
                  have k6 := hb.cell 6
                  have k7 := hb.cell 7
                  have k8 := hb.cell 8
                  simp only [hc, hd0, List.getElem?_toArray, List.getElem?_cons_zero, List.getElem?_cons_succ] at k0 k1 k2 k3 k4 k5 k6 k7 k8
                  simp [results, Tryd.f17, go_sem, k0, k1, k2, k3, k4, k5, k6, k7, k8, hv, hc, hd0]
                · exact ⟨rfl, OW.out⟩
            · skip
              have HE2 := Lib.hid (HE.out.trans (if_neg (by omega)))
              clear HE
              have HE := HE2
              clear HE2
              by_cases b1 : mo < 0
              · have hE : E = 13 := by rw [HE.out]; rw [if_pos (.inl b1)]
                have hA : AA = hd0 := by rw [HA.out, if_neg (by rw [hE]; decide)]
                subst hE hA
                go_wp2_with (refine wpList_store_row rfl 26 (.tmp 10) (.tmp 51) rfl rfl (w.heap.size + 1) 26 (hc hd0) (hc hd0) rfl rfl R0.out Tryd.size_ref rfl (hc_one _) ?st)
                case st =>
                  intro wz hbz hoz
                  have OW : Hid (Only Nix w wz) := Lib.hid (O0.out.then hoz (fun i e => .inr (by rw [show i = w.heap.size + 1 from e]; omega)))
                  have HLd := Lib.hid hbz
                  clear hbz hoz
                  go_wp2
                  refine bodyPost_ret (v := .tuple #[hv hd0, iv 13]) ?_ rfl ?_
                  · have hb := HLd.out
                    have k0 := hb.cell 0
                    have k1 := hb.cell 1
                    have k2 := hb.cell 2
                    have k3 := hb.cell 3
                    have k4 := hb.cell 4
                    have k5 := hb.cell 5
                    have k6 := hb.cell 6
                    have k7 := hb.cell 7
                    have k8 := hb.cell 8
                    simp only [hc, hd0, List.getElem?_toArray, List.getElem?_cons_zero, List.getElem?_cons_succ] at k0 k1 k2 k3 k4 k5 k6 k7 k8
                    simp [results, Tryd.f17, go_sem, k0, k1, k2, k3, k4, k5, k6, k7, k8, hv, hc, hd0]
                  · exact ⟨rfl, OW.out⟩
              · skip
                by_cases b2 : 10 < mo
                · have hE : E = 13 := by rw [HE.out]; rw [if_pos (.inr b2)]
                  have hA : AA = hd0 := by rw [HA.out, if_neg (by rw [hE]; decide)]
                  subst hE hA
                  go_wp2_with (refine wpList_store_row rfl 26 (.tmp 10) (.tmp 51) rfl rfl (w.heap.size + 1) 26 (hc hd0) (hc hd0) rfl rfl R0.out Tryd.size_ref rfl (hc_one _) ?st)
                  case st =>
                    intro wz hbz hoz
                    have OW : Hid (Only Nix w wz) := Lib.hid (O0.out.then hoz (fun i e => .inr (by rw [show i = w.heap.size + 1 from e]; omega)))
                    have HLd := Lib.hid hbz
                    clear hbz hoz
                    go_wp2
                    refine bodyPost_ret (v := .tuple #[hv hd0, iv 13]) ?_ rfl ?_
                    · have hb := HLd.out
                      have k0 := hb.cell 0
                      have k1 := hb.cell 1
                      have k2 := hb.cell 2
                      have k3 := hb.cell 3
                      have k4 := hb.cell 4
                      have k5 := hb.cell 5
                      have k6 := hb.cell 6
                      have k7 := hb.cell 7
                      have k8 := hb.cell 8
                      simp only [hc, hd0, List.getElem?_toArray, List.getElem?_cons_zero, List.getElem?_cons_succ] at k0 k1 k2 k3 k4 k5 k6 k7 k8
                      simp [results, Tryd.f17, go_sem, k0, k1, k2, k3, k4, k5, k6, k7, k8, hv, hc, hd0]
                    · exact ⟨rfl, OW.out⟩
                · skip
                  have HE2 := Lib.hid (HE.out.trans (if_neg (by omega)))
                  clear HE
                  have HE := HE2
                  clear HE2
                  obtain ⟨CH, hCH⟩ : ∃ c, (if mo < 8 then mo + 1 else 2) = c := ⟨_, rfl⟩
                  rw [hCH] at HE
                  have HCH := Lib.hid hCH
                  clear hCH
                  go_upto_if 53 with fail
                  go_cut [12] from 53 to 55 (fun s12 wx => s12 = iv CH ∧ wx = W0)
                  case first =>
                    by_cases g : mo < 8
                    · have hc : CH = mo + 1 := by rw [← HCH.out, if_pos g]
                      subst hc
                      go_wp2
                      go_meet
                      exact ⟨rfl, rfl⟩
                    · have hc : CH = 2 := by rw [← HCH.out, if_neg g]
                      subst hc
                      go_wp2
                      go_meet
                      exact ⟨rfl, rfl⟩
                  case rest =>
                  obtain ⟨rfl, rfl⟩ := hcut
                  generalize wc = W0 at *
                  by_cases c1 : ch = CH
                  · have hE : E = 0 := by rw [HE.out, if_neg (by simpa using c1)]
                    have hA : AA = HH0 := by rw [HA.out, if_pos hE]
                    have hA2 := hA.trans HH.out
                    subst hE
                    have HAA := Lib.hid hA2
                    clear hA hA2 HE HA HCH
                    subst c1
                    have h13 := Lib.hid (Box.new W0 26 (hc hd0))
                    rw [HSB.out] at h13
                    have hP9 := Lib.hid (P0.out.alloc (.cells (hc hd0) 26))
                    have hR9 := Lib.hid (R0.out.alloc (.cells (hc hd0) 26))
                    have hO9 := Lib.hid (O0.out.alloc (.cells (hc hd0) 26))
                    have hsb2 := HSB.out
                    go_wp2_with (refine wpList_store_row rfl 26 (.tmp 13) (.tmp 65) rfl rfl (w.heap.size + 2) 26 (hc hd0) (hc ⟨V, 0, 0, mo, 0, num, blk, 0, 0⟩) rfl rfl h13.out Tryd.size_ref rfl (hc_one _) ?st)
                    case st =>
                      intro u1 hbz hoz
                      have HB13 := Lib.hid hbz
                      have P1 := Lib.hid (hP9.out.only hoz (fun e => by have e2 : w.heap.size = w.heap.size + 2 := e; omega))
                      have R1 := Lib.hid (hR9.out.only hoz (fun e => by have e2 : w.heap.size + 1 = w.heap.size + 2 := e; omega))
                      have O1 : Hid (Only Nix w u1) := Lib.hid (hO9.out.then hoz (fun i e => .inr (by rw [show i = w.heap.size + 2 from e]; omega)))
                      have HS1 : Hid (w.heap.size + 3 ≤ u1.heap.size) := Lib.hid (by have := hbz.lt; omega)
                      clear hbz hoz h13 hP9 hR9 hO9 q0 q1 q2 hsb2 P0 R0 O0
                      go_wp2
                      go_loopw [14] (fun s14 wr => MkP w #[iv rate, iv ch, iv dep] (fun k => hc ⟨V, (rbF blk k : Nat), 0, mo, 0, num, blk, 0, 0⟩) 15 s14 wr) (fun s14 _ => 16 - (intOf s14).toNat)
                      case atStart => exact ⟨⟨0, by omega, rfl, HB13.out⟩, P1.out, R1.out, O1.out⟩
                      case round =>
                        obtain ⟨⟨k, hk, rfl, hbx⟩, hb9, hb10, hon⟩ := hrel
                        have HB := Lib.hid hbx
                        have P2 := Lib.hid hb9
                        have R2 := Lib.hid hb10
                        have O2 := Lib.hid hon
                        clear hbx hb9 hb10 hon HB13 P1 R1 O1
                        by_cases hlt : k < 15
                        · have hki : ((k + 1 : Nat) : Int) ≤ 15 := by omega
                          have CBk := Lib.hid (CB.out (k + 1) wr)
                          have hstep : rbF blk (k + 1) = if rB (k + 1 : Nat) = blk ∧ rbF blk k = 0 then k + 1 else rbF blk k := rfl
                          have HSt := Lib.hid hstep
                          clear hstep
                          generalize hcb : rbF blk k = cb at *
                          generalize hrb : rB (k + 1 : Nat) = rb at *
                          have HCb := Lib.hid hcb
                          clear hcb hrb
                          have hkn : ((k + 1 : Nat) : Int) = (k : Int) + 1 := by omega
                          obtain ⟨K, hK⟩ : ∃ K : Nat, k + 1 = K := ⟨_, rfl⟩
                          rw [hK] at CBk hki HSt ⊢
                          have HK := Lib.hid hK
                          clear hK hkn
                          go_wp2_with fail
                          refine (CBk.out).mono ?_
                          rintro _ v1 ⟨rfl, ho⟩
                          have HB1 := Lib.hid (HB.out.only ho (fun e => e))
                          have P3 := Lib.hid (P2.out.only ho (fun e => e))
                          have R3 := Lib.hid (R2.out.only ho (fun e => e))
                          have O3 := Lib.hid (O2.out.trans ho)
                          have hc1 : v1.cell? ⟨w.heap.size + 2, 1, none⟩ = some (iv (cb : Nat)) := HB1.out.cell 1
                          have hf1 := HB1.out.frozen 1
                          clear ho HB P2 R2 O2
                          by_cases g1 : rb = blk
                          · by_cases g2 : cb = 0
                            · have hn : rbF blk K = K := by rw [HSt.out, if_pos ⟨g1, g2⟩]
                              have HNx := Lib.hid hn
                              subst g1 g2
                              clear hn
                              go_wp2
                              go_roundw
                              case rel => exact ⟨⟨K, by omega, by go_num, by rw [HNx.out]; exact HB1.out.put 1 (iv (K : Nat))⟩, P3.out.off (by show w.heap.size ≠ w.heap.size + 2; omega) _, R3.out.off (by show w.heap.size + 1 ≠ w.heap.size + 2; omega) _, O3.out.setCell (.inr (by show w.heap.size ≤ w.heap.size + 2; omega)) _⟩
                              case measure => simp [intOf]; omega
                            · have hn : rbF blk K = cb := by rw [HSt.out, if_neg (fun e => g2 e.2)]
                              have HNx := Lib.hid hn
                              subst g1
                              have g2b : ((cb : Int) == 0) = false := by simpa using g2
                              clear hn
                              go_wp2
                              go_roundw
                              case rel => exact ⟨⟨K, by omega, by go_num, by rw [HNx.out]; exact HB1.out⟩, P3.out, R3.out, O3.out⟩
                              case measure => simp [intOf]; omega
                          · have hn : rbF blk K = cb := by rw [HSt.out, if_neg (fun e => g1 e.1)]
                            have HNx := Lib.hid hn
                            have g1b : (rb == blk) = false := by simpa using g1
                            clear hn
                            go_wp2
                            go_roundw
                            case rel => exact ⟨⟨K, by omega, by go_num, by rw [HNx.out]; exact HB1.out⟩, P3.out, R3.out, O3.out⟩
                            case measure => simp [intOf]; omega
                        · obtain rfl : k = 15 := by omega
                          obtain ⟨K16, hK16⟩ : ∃ K : Nat, 15 + 1 = K := ⟨_, rfl⟩
                          rw [hK16]
                          have hge : 15 < (K16 : Int) := by omega
                          clear hK16
                          have hC : rbC blk = if rbF blk 15 = 0 then (if blk ≤ 256 then 6 else 7) else rbF blk 15 := rfl
                          have HC := Lib.hid hC
                          clear hC
                          generalize rbF blk 15 = cb at *
                          have h1c : wr.cell? ⟨w.heap.size + 2, 1, none⟩ = some (iv (cb : Nat)) := HB.out.cell 1
                          have h1f := HB.out.frozen 1
                          obtain ⟨c1, hc1⟩ : ∃ c, (if cb = 0 ∧ blk ≤ 256 then 6 else cb) = c := ⟨_, rfl⟩
                          have HC1 := Lib.hid hc1
                          clear hc1
                          obtain ⟨GB, hGB⟩ : ∃ b, decide (cb = 0 ∧ blk ≤ 256) = b := ⟨_, rfl⟩
                          have HGB := Lib.hid hGB
                          clear hGB
                          go_upto_region 16 with fail
                          go_cut [87] from 81 to 87 (fun s87 wx => s87 = .bool GB ∧ wx = wr)
                          case first =>
                            by_cases g1 : cb = 0
                            · by_cases g2 : blk ≤ 256
                              · have hk : GB = true := by rw [← HGB.out]; exact decide_eq_true ⟨g1, g2⟩
                                subst hk g1
                                go_wp2
                                go_meet
                                exact ⟨rfl, rfl⟩
                              · have hk : GB = false := by rw [← HGB.out]; exact decide_eq_false (fun e => g2 e.2)
                                subst hk g1
                                go_wp2
                                go_meet
                                exact ⟨rfl, rfl⟩
                            · have hk : GB = false := by rw [← HGB.out]; exact decide_eq_false (fun e => g1 e.1)
                              have g1b : ((cb : Int) == 0) = false := by simpa using g1
                              subst hk
                              go_wp2
                              go_meet
                              exact ⟨rfl, rfl⟩
                          case rest =>
                          obtain ⟨rfl, rfl⟩ := hcut
                          go_upto_if 87 with fail
                          go_cut [] from 88 to 88 (fun wx => MkS w #[iv rate, iv ch, iv dep] (hc ⟨V, (c1 : Nat), 0, mo, 0, num, blk, 0, 0⟩) wx)
                          case first =>
                            cases GB
                            · have hk : c1 = cb := by rw [← HC1.out, if_neg (of_decide_eq_false HGB.out)]
                              subst hk
                              go_wp2
                              go_meet
                              exact ⟨HB.out, P2.out, R2.out, O2.out⟩
                            · have hk : c1 = 6 := by rw [← HC1.out, if_pos (of_decide_eq_true HGB.out)]
                              subst hk
                              go_wp2
                              go_meet
                              exact ⟨HB.out.put 1 (iv 6), P2.out.off (by show w.heap.size ≠ w.heap.size + 2; omega) _, R2.out.off (by show w.heap.size + 1 ≠ w.heap.size + 2; omega) _, O2.out.setCell (.inr (by show w.heap.size ≤ w.heap.size + 2; omega)) _⟩
                          case rest =>
                          obtain ⟨hbx, hb9, hb10, hon⟩ := hcut
                          clear h1c h1f HB P2 R2 O2 hge HGB
                          generalize wc = wc1 at *
                          have HB := Lib.hid hbx
                          have P2 := Lib.hid hb9
                          have R2 := Lib.hid hb10
                          have O2 := Lib.hid hon
                          clear hbx hb9 hb10 hon
                          have h1c : wc1.cell? ⟨w.heap.size + 2, 1, none⟩ = some (iv (c1 : Nat)) := HB.out.cell 1
                          have h1f := HB.out.frozen 1
                          have hc2 : rbC blk = if c1 = 0 then 7 else c1 := by
                            rw [HC.out, ← HC1.out]
                            by_cases g1 : cb = 0
                            · by_cases g2 : blk ≤ 256
                              · rw [if_pos g1, if_pos g2, if_pos (show cb = 0 ∧ blk ≤ 256 from ⟨g1, g2⟩), if_neg (by decide)]
                              · rw [if_pos g1, if_neg g2, if_neg (fun e : cb = 0 ∧ blk ≤ 256 => g2 e.2), if_pos g1]
                            · rw [if_neg g1, if_neg (fun e : cb = 0 ∧ blk ≤ 256 => g1 e.1), if_neg g1]
                          have HC2 := Lib.hid hc2
                          clear hc2 HC HC1
                          generalize rbC blk = c2 at *
                          go_upto_if 91 with fail
                          go_cut [] from 91 to 92 (fun wx => MkS w #[iv rate, iv ch, iv dep] (hc ⟨V, (c2 : Nat), 0, mo, 0, num, blk, 0, 0⟩) wx)
                          case first =>
                            by_cases g1 : c1 = 0
                            · have hk : c2 = 7 := by rw [HC2.out, if_pos g1]
                              subst hk g1
                              go_wp2
                              go_meet
                              exact ⟨HB.out.put 1 (iv 7), P2.out.off (by show w.heap.size ≠ w.heap.size + 2; omega) _, R2.out.off (by show w.heap.size + 1 ≠ w.heap.size + 2; omega) _, O2.out.setCell (.inr (by show w.heap.size ≤ w.heap.size + 2; omega)) _⟩
                            · have hk : c2 = c1 := by rw [HC2.out, if_neg g1]
                              have g1b : ((c1 : Int) == 0) = false := by simpa using g1
                              subst hk
                              go_wp2
                              go_meet
                              exact ⟨HB.out, P2.out, R2.out, O2.out⟩
                          case rest =>
                          obtain ⟨hbx, hb9, hb10, hon⟩ := hcut
                          clear h1c h1f HB P2 R2 O2 HC2
                          have HB := Lib.hid hbx
                          have P2 := Lib.hid hb9
                          have R2 := Lib.hid hb10
                          have O2 := Lib.hid hon
                          clear hbx hb9 hb10 hon
                          generalize wc = w5 at *
                          have HRR : Hid (rrC rate = rrS rate 14) := Lib.hid rfl
                          generalize rrC rate = RC at *
                          obtain ⟨PB, hPB⟩ : ∃ b, decide (0 < rate) = b := ⟨_, rfl⟩
                          go_wp2
                          go_loopw [15] (fun s15 wr => MkP w #[iv rate, iv ch, iv dep] (fun k => hc ⟨V, (c2 : Nat), ((rrS rate k).1 : Nat), mo, 0, num, blk, (rrS rate k).2, 0⟩) 14 s15 wr) (fun s15 _ => 15 - (intOf s15).toNat)
                          case atStart => exact ⟨⟨0, by omega, rfl, by unfold rrS; split <;> exact HB.out⟩, P2.out, R2.out, O2.out⟩
                          case round =>
                            clear HB P2 R2 O2
                            obtain ⟨⟨k, hk, rfl, hbx⟩, hb9, hb10, hon⟩ := hrel
                            have HB := Lib.hid hbx
                            have P2 := Lib.hid hb9
                            have R2 := Lib.hid hb10
                            have O2 := Lib.hid hon
                            have q0 : wr.cell? ⟨w.heap.size, 0, none⟩ = some (iv rate) := hb9.cell 0
                            clear hbx hb9 hb10 hon
                            by_cases hgo : k < 14 ∧ PB = true
                            · obtain ⟨hlt, rfl⟩ := hgo
                              have hp : 0 < rate := of_decide_eq_true hPB
                              have hstep : rrS rate (k + 1) = if (rrS rate k).1 = 0 ∧ telR (k + 1) rate then (k + 1, rate) else rrS rate k := by
                                unfold rrS
                                rw [if_pos hp, if_pos hp]
                                rfl
                              have HSt := Lib.hid hstep
                              have HTel : Hid (telR (k + 1) rate ↔ rR (k + 1 : Nat) = rate ∨ (12 ≤ k + 1 ∧ rate.tmod (rU (k + 1 : Nat)) = 0 ∧ rate.tdiv (rU (k + 1 : Nat)) ≤ rTop (k + 1 : Nat))) := Lib.hid Iff.rfl
                              have HPos := Lib.hid hp
                              have hI : I64 rate := ⟨by omega, by omega⟩
                              have HI := Lib.hid hI
                              clear hstep hp hI
                              have hkn : ((k + 1 : Nat) : Int) = (k : Int) + 1 := by omega
                              obtain ⟨K, hK⟩ : ∃ K : Nat, k + 1 = K := ⟨_, rfl⟩
                              rw [hK] at HTel HSt ⊢
                              have hki : (K : Int) ≤ 14 := by omega
                              have hK1 : 1 ≤ K := by omega
                              have CRk := Lib.hid (CR.out K)
                              obtain ⟨Un, hUn, hU1, hU2⟩ := rU_nat (K : Nat)
                              have CUk := Lib.hid (CU.out (K : Nat))
                              rw [hUn] at CUk HTel
                              have hTp : Hid (rTop (K : Nat) = if (K : Int) = 12 then 255 else 65535) := Lib.hid rfl
                              generalize rTop (K : Nat) = Tp at *
                              clear hUn
                              have hu1 : ¬ ((Un : Int) = 0) := by omega
                              have hu2 : ¬ (Un = 0) := by omega
                              have hw1 := tdiv_wrap HI.out Un (by omega)
                              obtain ⟨Rm, hRm⟩ : ∃ x, rate.tmod (Un : Int) = x := ⟨_, rfl⟩
                              obtain ⟨Qt, hQt⟩ : ∃ x, rate.tdiv (Un : Int) = x := ⟨_, rfl⟩
                              rw [hRm, hQt] at HTel
                              rw [hQt] at hw1
                              have HRm := Lib.hid hRm
                              have HQt := Lib.hid hQt
                              have HW1 := Lib.hid hw1
                              clear hRm hQt hw1 hU1 hU2
                              generalize hcs : rrS rate k = cs at *
                              obtain ⟨cr, ct⟩ := cs
                              generalize hrr : rR (K : Nat) = rr at *
                              have HCs := Lib.hid hcs
                              have HK := Lib.hid hK
                              have ha2 : wr.cell? ⟨w.heap.size + 2, 2, none⟩ = some (iv (cr : Nat)) := HB.out.cell 2
                              have ha7 : wr.cell? ⟨w.heap.size + 2, 7, none⟩ = some (iv ct) := HB.out.cell 7
                              have hf2 := HB.out.frozen 2
                              have hf7 := HB.out.frozen 7
                              clear hcs hK hkn hrr
                              go_upto_if 103 with fail
                              go_cut [16] from 103 to 103 (fun s16 wx => s16 = iv Tp ∧ wx = wr)
                              case first =>
                                by_cases g : K = 12
                                · have hk : Tp = 255 := by rw [hTp.out, if_pos (by omega)]
                                  have gb : (((K : Nat) : Int) == 12) = true := beq_iff_eq.2 (by omega)
                                  obtain ⟨KB, hKB⟩ : ∃ b, (((K : Nat) : Int) == 12) = b := ⟨_, rfl⟩
                                  rw [hKB] at gb
                                  subst gb
                                  subst hk
                                  clear g
                                  go_wp2
                                  go_meet
                                  exact ⟨rfl, rfl⟩
                                · have hk : Tp = 65535 := by rw [hTp.out, if_neg (by omega)]
                                  have gb : ((K : Int) == 12) = false := by simp; omega
                                  subst hk
                                  go_wp2
                                  go_meet
                                  exact ⟨rfl, rfl⟩
                              case rest =>
                              obtain ⟨rfl, rfl⟩ := hcut
                              clear hTp
                              generalize wc = wr at *
                              by_cases g1 : cr = 0
                              rotate_left
                              · have HNx : Hid (rrS rate K = (cr, ct)) := Lib.hid (by rw [HSt.out, if_neg]; rintro ⟨h1, h2⟩; exact g1 h1)
                                have g1b : ((cr : Int) == 0) = false := by simpa using g1
                                clear g1
                                go_wp2
                                have fr_L1 : ∀ j s, j < 31 → (([some 104, some 105, some 106, some 107, some 108, some 109, some 110, some 111, some 112, some 113, some 114, some 115, some 116, some 117, some 118, some 119, some 120, some 121, some 122, some 123, some 124, some 125, some 126, some 127, some 128, some 129, some 130, some 131, some 132, some 133, some 134] : List (Option Nat)).all fun d => d != some s) = true → ([some 104, some 105, some 106, some 107, some 108, some 109, some 110, some 111, some 112, some 113, some 114, some 115, some 116, some 117, some 118, some 119, some 120, some 121, some 122, some 123, some 124, some 125, some 126, some 127, some 128, some 129, some 130, some 131, some 132, some 133, some 134] : List (Option Nat)).getD j none ≠ some s := by
                                  intro j s hj ha e
                                  rw [List.getD_eq_getElem?_getD, List.getElem?_eq_getElem (by exact hj), Option.getD_some] at e
                                  have := List.all_eq_true.1 ha _ (List.getElem_mem (by exact hj))
                                  rw [e] at this
                                  simp at this
                                refine region_tel (by kernel_rfl) (fun k0 => ([some 104, some 105, some 106, some 107, some 108, some 109, some 110, some 111, some 112, some 113, some 114, some 115, some 116, some 117, some 118, some 119, some 120, some 121, some 122, some 123, some 124, some 125, some 126, some 127, some 128, some 129, some 130, some 131, some 132, some 133, some 134] : List (Option Nat)).getD k0 none) (PL [eqP (.pointer (some ⟨w.heap.size + 2, 2, none⟩)), eqP (iv (cr : Nat)), eqP (.bool false), eqP (.bool false), eqP (undef), eqP (undef), eqP (undef), eqP (undef), eqP (undef), eqP (undef), eqP (undef), eqP (undef), eqP (undef), eqP (undef), eqP (undef), eqP (undef), eqP (undef), eqP (undef), eqP (undef), eqP (undef), eqP (undef), eqP (undef), eqP (undef), eqP (undef), eqP (undef), eqP (undef), eqP (undef), eqP (undef), eqP (undef), eqP (undef), eqP (.bool false)]) (fun u u' => Only Nix u u') (fun _ u => Only Nix (wr) u) 155 31 rfl (by kernel_rfl) (by kernel_rfl) rfl (by kernel_rfl) (by kernel_rfl) (stab_all ⟨fun _ _ _ h _ => h, fun _ _ _ h _ => h, fun _ _ _ h _ => h, fun _ _ _ h _ => h, fun _ _ _ h _ => h, fun _ _ _ h _ => h, fun _ _ _ h _ => h, fun _ _ _ h _ => h, fun _ _ _ h _ => h, fun _ _ _ h _ => h, fun _ _ _ h _ => h, fun _ _ _ h _ => h, fun _ _ _ h _ => h, fun _ _ _ h _ => h, fun _ _ _ h _ => h, fun _ _ _ h _ => h, fun _ _ _ h _ => h, fun _ _ _ h _ => h, fun _ _ _ h _ => h, fun _ _ _ h _ => h, fun _ _ _ h _ => h, fun _ _ _ h _ => h, fun _ _ _ h _ => h, fun _ _ _ h _ => h, fun _ _ _ h _ => h, fun _ _ _ h _ => h, fun _ _ _ h _ => h, fun _ _ _ h _ => h, fun _ _ _ h _ => h, fun _ _ _ h _ => h, fun _ _ _ h _ => h, trivial⟩) ((Only.refl _ _).drew) ?stepsL1 (fun vs => [(104, vs 0), (105, vs 1), (106, vs 2), (107, vs 3), (108, vs 4), (109, vs 5), (110, vs 6), (111, vs 7), (112, vs 8), (113, vs 9), (114, vs 10), (115, vs 11), (116, vs 12), (117, vs 13), (118, vs 14), (119, vs 15), (120, vs 16), (121, vs 17), (122, vs 18), (123, vs 19), (124, vs 20), (125, vs 21), (126, vs 22), (127, vs 23), (128, vs 24), (129, vs 25), (130, vs 26), (131, vs 27), (132, vs 28), (133, vs 29), (134, vs 30)]) (fun vs => rfl) ?doneL1
                                case stepsL1 =>
                                  refine ⟨?_, ?_, ?_, ?_, ?_, ?_, ?_, ?_, ?_, ?_, ?_, ?_, ?_, ?_, ?_, ?_, ?_, ?_, ?_, ?_, ?_, ?_, ?_, ?_, ?_, ?_, ?_, ?_, ?_, ?_, ?_, trivial⟩
                                  · intro L vs A' u hW hL0 hnd K' hK
                                    have hS := hW.wi.s
                                    have r13 : A'.tmps[13]? = some (.pointer (some ⟨w.heap.size + 2, 0, none⟩)) := (hW.out 13 (fun j hj => fr_L1 j 13 hj (by kernel_rfl))).trans rfl
                                    go_simp
                                    exact hK _ _ (by first | rfl | (show _ = _; simp)) (Only.refl _ _) hS
                                  · intro L vs A' u hW hL0 hnd K' hK
                                    have hS := hW.wi.s
                                    have r104 : A'.tmps[104]? = some (.pointer (some ⟨w.heap.size + 2, 2, none⟩)) := by
                                      obtain ⟨x, e, h⟩ := hW.tel 0 104 (by decide) (hnd 0 (by kernel_rfl)) rfl
                                      rw [e]; exact congrArg some h
                                    have hc := U.cell_keep hS ha2
                                    go_simp
                                    exact hK _ _ (rfl) (Only.refl _ _) hS
                                  · intro L vs A' u hW hL0 hnd K' hK
                                    have hS := hW.wi.s
                                    have r105 : A'.tmps[105]? = some (iv (cr : Nat)) := by
                                      obtain ⟨x, e, h⟩ := hW.tel 1 105 (by decide) (hnd 1 (by kernel_rfl)) rfl
                                      rw [e]; exact congrArg some h
                                    go_simp
                                    exact hK _ _ ((by first | rfl | (show _ = _; simp; omega) | (show _ = _; simp))) (Only.refl _ _) hS
                                  · intro L vs A' u hW hL0 hnd K' hK
                                    have hS := hW.wi.s
                                    have r106 : A'.tmps[106]? = some (.bool false) := by
                                      obtain ⟨x, e, h⟩ := hW.tel 2 106 (by decide) (hnd 2 (by kernel_rfl)) rfl
                                      rw [e]; exact congrArg some h
                                    go_simp
                                    exact hK _ _ (by first | rfl | (show _ = _; simp)) (Only.refl _ _) hS
                                  · intro L vs A' u hW hL0 hnd K' hK
                                    have hS := hW.wi.s
                                    have r107 : A'.tmps[107]? = some (.bool false) := by
                                      obtain ⟨x, e, h⟩ := hW.tel 3 107 (by decide) (hnd 3 (by kernel_rfl)) rfl
                                      rw [e]; exact congrArg some h
                                    rw [if_neg (wanted_no (j := 3) (s := 107) (b := true) rfl (by kernel_rfl) r107)]
                                    exact hK _ _ rfl (Only.refl _ _) hS
                                  · intro L vs A' u hW hL0 hnd K' hK
                                    have hS := hW.wi.s
                                    have r107 : A'.tmps[107]? = some (.bool false) := by
                                      obtain ⟨x, e, h⟩ := hW.tel 3 107 (by decide) (hnd 3 (by kernel_rfl)) rfl
                                      rw [e]; exact congrArg some h
                                    rw [if_neg (wanted_no (j := 3) (s := 107) (b := true) rfl (by kernel_rfl) r107)]
                                    exact hK _ _ rfl (Only.refl _ _) hS
                                  · intro L vs A' u hW hL0 hnd K' hK
                                    have hS := hW.wi.s
                                    have r107 : A'.tmps[107]? = some (.bool false) := by
                                      obtain ⟨x, e, h⟩ := hW.tel 3 107 (by decide) (hnd 3 (by kernel_rfl)) rfl
                                      rw [e]; exact congrArg some h
                                    rw [if_neg (wanted_no (j := 3) (s := 107) (b := true) rfl (by kernel_rfl) r107)]
                                    exact hK _ _ rfl (Only.refl _ _) hS
                                  · intro L vs A' u hW hL0 hnd K' hK
                                    have hS := hW.wi.s
                                    have r107 : A'.tmps[107]? = some (.bool false) := by
                                      obtain ⟨x, e, h⟩ := hW.tel 3 107 (by decide) (hnd 3 (by kernel_rfl)) rfl
                                      rw [e]; exact congrArg some h
                                    rw [if_neg (wanted_no (j := 3) (s := 107) (b := true) rfl (by kernel_rfl) r107)]
                                    exact hK _ _ rfl (Only.refl _ _) hS
                                  · intro L vs A' u hW hL0 hnd K' hK
                                    have hS := hW.wi.s
                                    have r107 : A'.tmps[107]? = some (.bool false) := by
                                      obtain ⟨x, e, h⟩ := hW.tel 3 107 (by decide) (hnd 3 (by kernel_rfl)) rfl
                                      rw [e]; exact congrArg some h
                                    rw [if_neg (wanted_no (j := 3) (s := 107) (b := true) rfl (by kernel_rfl) r107)]
                                    exact hK _ _ rfl (Only.refl _ _) hS
                                  · intro L vs A' u hW hL0 hnd K' hK
                                    have hS := hW.wi.s
                                    have r107 : A'.tmps[107]? = some (.bool false) := by
                                      obtain ⟨x, e, h⟩ := hW.tel 3 107 (by decide) (hnd 3 (by kernel_rfl)) rfl
                                      rw [e]; exact congrArg some h
                                    rw [if_neg (wanted_no (j := 3) (s := 107) (b := true) rfl (by kernel_rfl) r107)]
                                    exact hK _ _ rfl (Only.refl _ _) hS
                                  · intro L vs A' u hW hL0 hnd K' hK
                                    have hS := hW.wi.s
                                    have r113 : A'.tmps[113]? = some (undef) := by
                                      obtain ⟨x, e, h⟩ := hW.tel 9 113 (by decide) (hnd 9 (by kernel_rfl)) rfl
                                      rw [e]; exact congrArg some h
                                    rw [if_neg (wanted_no2 (j := 9) (s := 113) (b := false) rfl (by kernel_rfl) r113)]
                                    exact hK _ _ rfl (Only.refl _ _) hS
                                  · intro L vs A' u hW hL0 hnd K' hK
                                    have hS := hW.wi.s
                                    have r113 : A'.tmps[113]? = some (undef) := by
                                      obtain ⟨x, e, h⟩ := hW.tel 9 113 (by decide) (hnd 9 (by kernel_rfl)) rfl
                                      rw [e]; exact congrArg some h
                                    rw [if_neg (wanted_no2 (j := 9) (s := 113) (b := false) rfl (by kernel_rfl) r113)]
                                    exact hK _ _ rfl (Only.refl _ _) hS
                                  · intro L vs A' u hW hL0 hnd K' hK
                                    have hS := hW.wi.s
                                    have r113 : A'.tmps[113]? = some (undef) := by
                                      obtain ⟨x, e, h⟩ := hW.tel 9 113 (by decide) (hnd 9 (by kernel_rfl)) rfl
                                      rw [e]; exact congrArg some h
                                    rw [if_neg (wanted_no2 (j := 9) (s := 113) (b := false) rfl (by kernel_rfl) r113)]
                                    exact hK _ _ rfl (Only.refl _ _) hS
                                  · intro L vs A' u hW hL0 hnd K' hK
                                    have hS := hW.wi.s
                                    have r116 : A'.tmps[116]? = some (undef) := by
                                      obtain ⟨x, e, h⟩ := hW.tel 12 116 (by decide) (hnd 12 (by kernel_rfl)) rfl
                                      rw [e]; exact congrArg some h
                                    rw [if_neg (wanted_no2 (j := 12) (s := 116) (b := true) rfl (by kernel_rfl) r116)]
                                    exact hK _ _ rfl (Only.refl _ _) hS
                                  · intro L vs A' u hW hL0 hnd K' hK
                                    have hS := hW.wi.s
                                    have r116 : A'.tmps[116]? = some (undef) := by
                                      obtain ⟨x, e, h⟩ := hW.tel 12 116 (by decide) (hnd 12 (by kernel_rfl)) rfl
                                      rw [e]; exact congrArg some h
                                    rw [if_neg (wanted_no2 (j := 12) (s := 116) (b := true) rfl (by kernel_rfl) r116)]
                                    exact hK _ _ rfl (Only.refl _ _) hS
                                  · intro L vs A' u hW hL0 hnd K' hK
                                    have hS := hW.wi.s
                                    have r116 : A'.tmps[116]? = some (undef) := by
                                      obtain ⟨x, e, h⟩ := hW.tel 12 116 (by decide) (hnd 12 (by kernel_rfl)) rfl
                                      rw [e]; exact congrArg some h
                                    rw [if_neg (wanted_no2 (j := 12) (s := 116) (b := true) rfl (by kernel_rfl) r116)]
                                    exact hK _ _ rfl (Only.refl _ _) hS
                                  · intro L vs A' u hW hL0 hnd K' hK
                                    have hS := hW.wi.s
                                    have r116 : A'.tmps[116]? = some (undef) := by
                                      obtain ⟨x, e, h⟩ := hW.tel 12 116 (by decide) (hnd 12 (by kernel_rfl)) rfl
                                      rw [e]; exact congrArg some h
                                    rw [if_neg (wanted_no2 (j := 12) (s := 116) (b := true) rfl (by kernel_rfl) r116)]
                                    exact hK _ _ rfl (Only.refl _ _) hS
                                  · intro L vs A' u hW hL0 hnd K' hK
                                    have hS := hW.wi.s
                                    have r116 : A'.tmps[116]? = some (undef) := by
                                      obtain ⟨x, e, h⟩ := hW.tel 12 116 (by decide) (hnd 12 (by kernel_rfl)) rfl
                                      rw [e]; exact congrArg some h
                                    rw [if_neg (wanted_no2 (j := 12) (s := 116) (b := true) rfl (by kernel_rfl) r116)]
                                    exact hK _ _ rfl (Only.refl _ _) hS
                                  · intro L vs A' u hW hL0 hnd K' hK
                                    have hS := hW.wi.s
                                    have r116 : A'.tmps[116]? = some (undef) := by
                                      obtain ⟨x, e, h⟩ := hW.tel 12 116 (by decide) (hnd 12 (by kernel_rfl)) rfl
                                      rw [e]; exact congrArg some h
                                    rw [if_neg (wanted_no2 (j := 12) (s := 116) (b := true) rfl (by kernel_rfl) r116)]
                                    exact hK _ _ rfl (Only.refl _ _) hS
                                  · intro L vs A' u hW hL0 hnd K' hK
                                    have hS := hW.wi.s
                                    have r113 : A'.tmps[113]? = some (undef) := by
                                      obtain ⟨x, e, h⟩ := hW.tel 9 113 (by decide) (hnd 9 (by kernel_rfl)) rfl
                                      rw [e]; exact congrArg some h
                                    rw [if_neg (wanted_no2 (j := 9) (s := 113) (b := false) rfl (by kernel_rfl) r113)]
                                    exact hK _ _ rfl (Only.refl _ _) hS
                                  · intro L vs A' u hW hL0 hnd K' hK
                                    have hS := hW.wi.s
                                    have r113 : A'.tmps[113]? = some (undef) := by
                                      obtain ⟨x, e, h⟩ := hW.tel 9 113 (by decide) (hnd 9 (by kernel_rfl)) rfl
                                      rw [e]; exact congrArg some h
                                    rw [if_neg (wanted_no2 (j := 9) (s := 113) (b := false) rfl (by kernel_rfl) r113)]
                                    exact hK _ _ rfl (Only.refl _ _) hS
                                  · intro L vs A' u hW hL0 hnd K' hK
                                    have hS := hW.wi.s
                                    have r124 : A'.tmps[124]? = some (undef) := by
                                      obtain ⟨x, e, h⟩ := hW.tel 20 124 (by decide) (hnd 20 (by kernel_rfl)) rfl
                                      rw [e]; exact congrArg some h
                                    rw [if_neg (wanted_no2 (j := 20) (s := 124) (b := true) rfl (by kernel_rfl) r124)]
                                    exact hK _ _ rfl (Only.refl _ _) hS
                                  · intro L vs A' u hW hL0 hnd K' hK
                                    have hS := hW.wi.s
                                    have r124 : A'.tmps[124]? = some (undef) := by
                                      obtain ⟨x, e, h⟩ := hW.tel 20 124 (by decide) (hnd 20 (by kernel_rfl)) rfl
                                      rw [e]; exact congrArg some h
                                    rw [if_neg (wanted_no2 (j := 20) (s := 124) (b := true) rfl (by kernel_rfl) r124)]
                                    exact hK _ _ rfl (Only.refl _ _) hS
                                  · intro L vs A' u hW hL0 hnd K' hK
                                    have hS := hW.wi.s
                                    have r124 : A'.tmps[124]? = some (undef) := by
                                      obtain ⟨x, e, h⟩ := hW.tel 20 124 (by decide) (hnd 20 (by kernel_rfl)) rfl
                                      rw [e]; exact congrArg some h
                                    rw [if_neg (wanted_no2 (j := 20) (s := 124) (b := true) rfl (by kernel_rfl) r124)]
                                    exact hK _ _ rfl (Only.refl _ _) hS
                                  · intro L vs A' u hW hL0 hnd K' hK
                                    have hS := hW.wi.s
                                    have r124 : A'.tmps[124]? = some (undef) := by
                                      obtain ⟨x, e, h⟩ := hW.tel 20 124 (by decide) (hnd 20 (by kernel_rfl)) rfl
                                      rw [e]; exact congrArg some h
                                    rw [if_neg (wanted_no2 (j := 20) (s := 124) (b := true) rfl (by kernel_rfl) r124)]
                                    exact hK _ _ rfl (Only.refl _ _) hS
                                  · intro L vs A' u hW hL0 hnd K' hK
                                    have hS := hW.wi.s
                                    have r124 : A'.tmps[124]? = some (undef) := by
                                      obtain ⟨x, e, h⟩ := hW.tel 20 124 (by decide) (hnd 20 (by kernel_rfl)) rfl
                                      rw [e]; exact congrArg some h
                                    rw [if_neg (wanted_no2 (j := 20) (s := 124) (b := true) rfl (by kernel_rfl) r124)]
                                    exact hK _ _ rfl (Only.refl _ _) hS
                                  · intro L vs A' u hW hL0 hnd K' hK
                                    have hS := hW.wi.s
                                    have r124 : A'.tmps[124]? = some (undef) := by
                                      obtain ⟨x, e, h⟩ := hW.tel 20 124 (by decide) (hnd 20 (by kernel_rfl)) rfl
                                      rw [e]; exact congrArg some h
                                    rw [if_neg (wanted_no2 (j := 20) (s := 124) (b := true) rfl (by kernel_rfl) r124)]
                                    exact hK _ _ rfl (Only.refl _ _) hS
                                  · intro L vs A' u hW hL0 hnd K' hK
                                    have hS := hW.wi.s
                                    have r124 : A'.tmps[124]? = some (undef) := by
                                      obtain ⟨x, e, h⟩ := hW.tel 20 124 (by decide) (hnd 20 (by kernel_rfl)) rfl
                                      rw [e]; exact congrArg some h
                                    rw [if_neg (wanted_no2 (j := 20) (s := 124) (b := true) rfl (by kernel_rfl) r124)]
                                    exact hK _ _ rfl (Only.refl _ _) hS
                                  · intro L vs A' u hW hL0 hnd K' hK
                                    have hS := hW.wi.s
                                    have r113 : A'.tmps[113]? = some (undef) := by
                                      obtain ⟨x, e, h⟩ := hW.tel 9 113 (by decide) (hnd 9 (by kernel_rfl)) rfl
                                      rw [e]; exact congrArg some h
                                    rw [if_neg (wanted_no2 (j := 9) (s := 113) (b := false) rfl (by kernel_rfl) r113)]
                                    exact hK _ _ rfl (Only.refl _ _) hS
                                  · intro L vs A' u hW hL0 hnd K' hK
                                    have hS := hW.wi.s
                                    have r107 : A'.tmps[107]? = some (.bool false) := by
                                      obtain ⟨x, e, h⟩ := hW.tel 3 107 (by decide) (hnd 3 (by kernel_rfl)) rfl
                                      rw [e]; exact congrArg some h
                                    rw [if_neg (wanted_no (j := 3) (s := 107) (b := true) rfl (by kernel_rfl) r107)]
                                    exact hK _ _ rfl (Only.refl _ _) hS
                                  · intro L vs A' u hW hL0 hnd K' hK
                                    have hS := hW.wi.s
                                    have r107 : A'.tmps[107]? = some (.bool false) := by
                                      obtain ⟨x, e, h⟩ := hW.tel 3 107 (by decide) (hnd 3 (by kernel_rfl)) rfl
                                      rw [e]; exact congrArg some h
                                    have r133 : A'.tmps[133]? = some (undef) := by
                                      obtain ⟨x, e, h⟩ := hW.tel 29 133 (by decide) (hnd 29 (by kernel_rfl)) rfl
                                      rw [e]; exact congrArg some h
                                    go_simp
                                    exact hK _ _ (by first | rfl | (show _ = _; simp)) (Only.refl _ _) hS
                                case doneL1 =>
                                  intro L vs v1 hS hP hall
                                  have e30 : vs 30 = .bool false := hP 30 (by decide)
                                  have hbx := HB.out.only hS (fun e => e)
                                  have P3 := Lib.hid (P2.out.only hS (fun e => e))
                                  have R3 := Lib.hid (R2.out.only hS (fun e => e))
                                  have O3 := Lib.hid (O2.out.trans hS)
                                  have HB1 := Lib.hid hbx
                                  have hd2 : v1.cell? ⟨w.heap.size + 2, 2, none⟩ = some (iv (cr : Nat)) := hbx.cell 2
                                  have hd7 : v1.cell? ⟨w.heap.size + 2, 7, none⟩ = some (iv ct) := hbx.cell 7
                                  have hg2 := hbx.frozen 2
                                  have hg7 := hbx.frozen 7
                                  have r0 : v1.cell? ⟨w.heap.size, 0, none⟩ = some (iv rate) := P3.out.cell 0
                                  clear hS hP hall fr_L1 ha2 ha7 hf2 hf7 q0 hbx
                                  simp only [putV, List.foldl_cons, List.foldl_nil, List.setIfInBounds_toArray, List.set_cons_zero, List.set_cons_succ]
                                  rw [e30]
                                  clear e30
                                  generalize vs 0 = y0, vs 1 = y1, vs 2 = y2, vs 3 = y3, vs 4 = y4, vs 5 = y5, vs 6 = y6, vs 7 = y7, vs 8 = y8, vs 9 = y9, vs 10 = y10, vs 11 = y11, vs 12 = y12, vs 13 = y13, vs 14 = y14, vs 15 = y15, vs 16 = y16, vs 17 = y17, vs 18 = y18, vs 19 = y19, vs 20 = y20, vs 21 = y21, vs 22 = y22, vs 23 = y23, vs 24 = y24, vs 25 = y25, vs 26 = y26, vs 27 = y27, vs 28 = y28, vs 29 = y29
                                  go_wp2
                                  go_roundw
                                  case rel => exact ⟨⟨K, by omega, by go_num, by rw [HNx.out]; exact HB1.out⟩, P3.out, R3.out, O3.out⟩
                                  case measure => simp [intOf]; omega
                              have g1b : ((cr : Int) == 0) = true := by simpa using g1
                              by_cases g2 : rr = rate
                              · have HNx : Hid (rrS rate K = (K, rate)) := Lib.hid (by rw [HSt.out, if_pos ⟨g1, HTel.out.2 (.inl g2)⟩])
                                have g2b : (rr == rate) = true := by simpa using g2
                                clear g1 g2
                                go_wp2
                                have fr_L2 : ∀ j s, j < 31 → (([some 104, some 105, some 106, some 107, some 108, some 109, some 110, some 111, some 112, some 113, some 114, some 115, some 116, some 117, some 118, some 119, some 120, some 121, some 122, some 123, some 124, some 125, some 126, some 127, some 128, some 129, some 130, some 131, some 132, some 133, some 134] : List (Option Nat)).all fun d => d != some s) = true → ([some 104, some 105, some 106, some 107, some 108, some 109, some 110, some 111, some 112, some 113, some 114, some 115, some 116, some 117, some 118, some 119, some 120, some 121, some 122, some 123, some 124, some 125, some 126, some 127, some 128, some 129, some 130, some 131, some 132, some 133, some 134] : List (Option Nat)).getD j none ≠ some s := by
                                  intro j s hj ha e
                                  rw [List.getD_eq_getElem?_getD, List.getElem?_eq_getElem (by exact hj), Option.getD_some] at e
                                  have := List.all_eq_true.1 ha _ (List.getElem_mem (by exact hj))
                                  rw [e] at this
                                  simp at this
                                refine region_tel (by kernel_rfl) (fun k0 => ([some 104, some 105, some 106, some 107, some 108, some 109, some 110, some 111, some 112, some 113, some 114, some 115, some 116, some 117, some 118, some 119, some 120, some 121, some 122, some 123, some 124, some 125, some 126, some 127, some 128, some 129, some 130, some 131, some 132, some 133, some 134] : List (Option Nat)).getD k0 none) (PL [eqP (.pointer (some ⟨w.heap.size + 2, 2, none⟩)), eqP (iv (cr : Nat)), eqP (.bool true), eqP (.bool true), eqP (iv (K : Nat)), eqP (iv rr), eqP (.pointer (some ⟨w.heap.size, 0, none⟩)), eqP (iv rate), eqP (.bool true), eqP (.bool true), eqP (undef), eqP (undef), eqP (undef), eqP (undef), eqP (undef), eqP (undef), eqP (undef), eqP (undef), eqP (undef), eqP (undef), eqP (undef), eqP (undef), eqP (undef), eqP (undef), eqP (undef), eqP (undef), eqP (undef), eqP (undef), eqP (undef), eqP (.bool true), eqP (.bool true)]) (fun u u' => Only Nix u u') (fun _ u => Only Nix (wr) u) 155 31 rfl (by kernel_rfl) (by kernel_rfl) rfl (by kernel_rfl) (by kernel_rfl) (stab_all ⟨fun _ _ _ h _ => h, fun _ _ _ h _ => h, fun _ _ _ h _ => h, fun _ _ _ h _ => h, fun _ _ _ h _ => h, fun _ _ _ h _ => h, fun _ _ _ h _ => h, fun _ _ _ h _ => h, fun _ _ _ h _ => h, fun _ _ _ h _ => h, fun _ _ _ h _ => h, fun _ _ _ h _ => h, fun _ _ _ h _ => h, fun _ _ _ h _ => h, fun _ _ _ h _ => h, fun _ _ _ h _ => h, fun _ _ _ h _ => h, fun _ _ _ h _ => h, fun _ _ _ h _ => h, fun _ _ _ h _ => h, fun _ _ _ h _ => h, fun _ _ _ h _ => h, fun _ _ _ h _ => h, fun _ _ _ h _ => h, fun _ _ _ h _ => h, fun _ _ _ h _ => h, fun _ _ _ h _ => h, fun _ _ _ h _ => h, fun _ _ _ h _ => h, fun _ _ _ h _ => h, fun _ _ _ h _ => h, trivial⟩) ((Only.refl _ _).drew) ?stepsL2 (fun vs => [(104, vs 0), (105, vs 1), (106, vs 2), (107, vs 3), (108, vs 4), (109, vs 5), (110, vs 6), (111, vs 7), (112, vs 8), (113, vs 9), (114, vs 10), (115, vs 11), (116, vs 12), (117, vs 13), (118, vs 14), (119, vs 15), (120, vs 16), (121, vs 17), (122, vs 18), (123, vs 19), (124, vs 20), (125, vs 21), (126, vs 22), (127, vs 23), (128, vs 24), (129, vs 25), (130, vs 26), (131, vs 27), (132, vs 28), (133, vs 29), (134, vs 30)]) (fun vs => rfl) ?doneL2
                                case stepsL2 =>
                                  refine ⟨?_, ?_, ?_, ?_, ?_, ?_, ?_, ?_, ?_, ?_, ?_, ?_, ?_, ?_, ?_, ?_, ?_, ?_, ?_, ?_, ?_, ?_, ?_, ?_, ?_, ?_, ?_, ?_, ?_, ?_, ?_, trivial⟩
                                  · intro L vs A' u hW hL0 hnd K' hK
                                    have hS := hW.wi.s
                                    have r13 : A'.tmps[13]? = some (.pointer (some ⟨w.heap.size + 2, 0, none⟩)) := (hW.out 13 (fun j hj => fr_L2 j 13 hj (by kernel_rfl))).trans rfl
                                    go_simp
                                    exact hK _ _ (by first | rfl | (show _ = _; simp)) (Only.refl _ _) hS
                                  · intro L vs A' u hW hL0 hnd K' hK
                                    have hS := hW.wi.s
                                    have r104 : A'.tmps[104]? = some (.pointer (some ⟨w.heap.size + 2, 2, none⟩)) := by
                                      obtain ⟨x, e, h⟩ := hW.tel 0 104 (by decide) (hnd 0 (by kernel_rfl)) rfl
                                      rw [e]; exact congrArg some h
                                    have hc := U.cell_keep hS ha2
                                    go_simp
                                    exact hK _ _ (rfl) (Only.refl _ _) hS
                                  · intro L vs A' u hW hL0 hnd K' hK
                                    have hS := hW.wi.s
                                    have r105 : A'.tmps[105]? = some (iv (cr : Nat)) := by
                                      obtain ⟨x, e, h⟩ := hW.tel 1 105 (by decide) (hnd 1 (by kernel_rfl)) rfl
                                      rw [e]; exact congrArg some h
                                    go_simp
                                    exact hK _ _ ((by first | rfl | (show _ = _; simp; omega) | (show _ = _; simp))) (Only.refl _ _) hS
                                  · intro L vs A' u hW hL0 hnd K' hK
                                    have hS := hW.wi.s
                                    have r106 : A'.tmps[106]? = some (.bool true) := by
                                      obtain ⟨x, e, h⟩ := hW.tel 2 106 (by decide) (hnd 2 (by kernel_rfl)) rfl
                                      rw [e]; exact congrArg some h
                                    go_simp
                                    exact hK _ _ (by first | rfl | (show _ = _; simp)) (Only.refl _ _) hS
                                  · intro L vs A' u hW hL0 hnd K' hK
                                    have hS := hW.wi.s
                                    have r15 : A'.tmps[15]? = some (iv (K : Nat)) := (hW.out 15 (fun j hj => fr_L2 j 15 hj (by kernel_rfl))).trans rfl
                                    have r107 : A'.tmps[107]? = some (.bool true) := by
                                      obtain ⟨x, e, h⟩ := hW.tel 3 107 (by decide) (hnd 3 (by kernel_rfl)) rfl
                                      rw [e]; exact congrArg some h
                                    rw [if_pos (wanted_yes (j := 3) (s := 107) (b := true) rfl (by kernel_rfl) r107)]
                                    go_simp
                                    exact hK _ _ (by first | rfl | (show _ = _; simp)) (Only.refl _ _) hS
                                  · intro L vs A' u hW hL0 hnd K' hK
                                    have hS := hW.wi.s
                                    have r108 : A'.tmps[108]? = some (iv (K : Nat)) := by
                                      obtain ⟨x, e, h⟩ := hW.tel 4 108 (by decide) (hnd 4 (by kernel_rfl)) rfl
                                      rw [e]; exact congrArg some h
                                    have r107 : A'.tmps[107]? = some (.bool true) := by
                                      obtain ⟨x, e, h⟩ := hW.tel 3 107 (by decide) (hnd 3 (by kernel_rfl)) rfl
                                      rw [e]; exact congrArg some h
                                    rw [if_pos (wanted_yes (j := 3) (s := 107) (b := true) rfl (by kernel_rfl) r107)]
                                    have HCL := Lib.hid (CRk.out u)
                                    go_simp
                                    refine (HCL.out).mono ?_
                                    rintro _ u' ⟨rfl, ho'⟩
                                    exact hK _ _ (rfl) ho' (hS.trans ho')
                                  · intro L vs A' u hW hL0 hnd K' hK
                                    have hS := hW.wi.s
                                    have r9 : A'.tmps[9]? = some (.pointer (some ⟨w.heap.size, 0, none⟩)) := (hW.out 9 (fun j hj => fr_L2 j 9 hj (by kernel_rfl))).trans rfl
                                    have r107 : A'.tmps[107]? = some (.bool true) := by
                                      obtain ⟨x, e, h⟩ := hW.tel 3 107 (by decide) (hnd 3 (by kernel_rfl)) rfl
                                      rw [e]; exact congrArg some h
                                    rw [if_pos (wanted_yes (j := 3) (s := 107) (b := true) rfl (by kernel_rfl) r107)]
                                    go_simp
                                    exact hK _ _ (by first | rfl | (show _ = _; simp)) (Only.refl _ _) hS
                                  · intro L vs A' u hW hL0 hnd K' hK
                                    have hS := hW.wi.s
                                    have r110 : A'.tmps[110]? = some (.pointer (some ⟨w.heap.size, 0, none⟩)) := by
                                      obtain ⟨x, e, h⟩ := hW.tel 6 110 (by decide) (hnd 6 (by kernel_rfl)) rfl
                                      rw [e]; exact congrArg some h
                                    have r107 : A'.tmps[107]? = some (.bool true) := by
                                      obtain ⟨x, e, h⟩ := hW.tel 3 107 (by decide) (hnd 3 (by kernel_rfl)) rfl
                                      rw [e]; exact congrArg some h
                                    rw [if_pos (wanted_yes (j := 3) (s := 107) (b := true) rfl (by kernel_rfl) r107)]
                                    have hc := U.cell_keep hS q0
                                    go_simp
                                    exact hK _ _ (rfl) (Only.refl _ _) hS
                                  · intro L vs A' u hW hL0 hnd K' hK
                                    have hS := hW.wi.s
                                    have r109 : A'.tmps[109]? = some (iv rr) := by
                                      obtain ⟨x, e, h⟩ := hW.tel 5 109 (by decide) (hnd 5 (by kernel_rfl)) rfl
                                      rw [e]; exact congrArg some h
                                    have r111 : A'.tmps[111]? = some (iv rate) := by
                                      obtain ⟨x, e, h⟩ := hW.tel 7 111 (by decide) (hnd 7 (by kernel_rfl)) rfl
                                      rw [e]; exact congrArg some h
                                    have r107 : A'.tmps[107]? = some (.bool true) := by
                                      obtain ⟨x, e, h⟩ := hW.tel 3 107 (by decide) (hnd 3 (by kernel_rfl)) rfl
                                      rw [e]; exact congrArg some h
                                    rw [if_pos (wanted_yes (j := 3) (s := 107) (b := true) rfl (by kernel_rfl) r107)]
                                    go_simp
                                    exact hK _ _ ((by first | rfl | (show _ = _; simp; omega) | (show _ = _; simp))) (Only.refl _ _) hS
                                  · intro L vs A' u hW hL0 hnd K' hK
                                    have hS := hW.wi.s
                                    have r112 : A'.tmps[112]? = some (.bool true) := by
                                      obtain ⟨x, e, h⟩ := hW.tel 8 112 (by decide) (hnd 8 (by kernel_rfl)) rfl
                                      rw [e]; exact congrArg some h
                                    have r107 : A'.tmps[107]? = some (.bool true) := by
                                      obtain ⟨x, e, h⟩ := hW.tel 3 107 (by decide) (hnd 3 (by kernel_rfl)) rfl
                                      rw [e]; exact congrArg some h
                                    rw [if_pos (wanted_yes (j := 3) (s := 107) (b := true) rfl (by kernel_rfl) r107)]
                                    go_simp
                                    exact hK _ _ (by first | rfl | (show _ = _; simp)) (Only.refl _ _) hS
                                  · intro L vs A' u hW hL0 hnd K' hK
                                    have hS := hW.wi.s
                                    have r113 : A'.tmps[113]? = some (.bool true) := by
                                      obtain ⟨x, e, h⟩ := hW.tel 9 113 (by decide) (hnd 9 (by kernel_rfl)) rfl
                                      rw [e]; exact congrArg some h
                                    rw [if_neg (wanted_no (j := 9) (s := 113) (b := false) rfl (by kernel_rfl) r113)]
                                    exact hK _ _ rfl (Only.refl _ _) hS
                                  · intro L vs A' u hW hL0 hnd K' hK
                                    have hS := hW.wi.s
                                    have r113 : A'.tmps[113]? = some (.bool true) := by
                                      obtain ⟨x, e, h⟩ := hW.tel 9 113 (by decide) (hnd 9 (by kernel_rfl)) rfl
                                      rw [e]; exact congrArg some h
                                    rw [if_neg (wanted_no (j := 9) (s := 113) (b := false) rfl (by kernel_rfl) r113)]
                                    exact hK _ _ rfl (Only.refl _ _) hS
                                  · intro L vs A' u hW hL0 hnd K' hK
                                    have hS := hW.wi.s
                                    have r113 : A'.tmps[113]? = some (.bool true) := by
                                      obtain ⟨x, e, h⟩ := hW.tel 9 113 (by decide) (hnd 9 (by kernel_rfl)) rfl
                                      rw [e]; exact congrArg some h
                                    rw [if_neg (wanted_no (j := 9) (s := 113) (b := false) rfl (by kernel_rfl) r113)]
                                    exact hK _ _ rfl (Only.refl _ _) hS
                                  · intro L vs A' u hW hL0 hnd K' hK
                                    have hS := hW.wi.s
                                    have r116 : A'.tmps[116]? = some (undef) := by
                                      obtain ⟨x, e, h⟩ := hW.tel 12 116 (by decide) (hnd 12 (by kernel_rfl)) rfl
                                      rw [e]; exact congrArg some h
                                    rw [if_neg (wanted_no2 (j := 12) (s := 116) (b := true) rfl (by kernel_rfl) r116)]
                                    exact hK _ _ rfl (Only.refl _ _) hS
                                  · intro L vs A' u hW hL0 hnd K' hK
                                    have hS := hW.wi.s
                                    have r116 : A'.tmps[116]? = some (undef) := by
                                      obtain ⟨x, e, h⟩ := hW.tel 12 116 (by decide) (hnd 12 (by kernel_rfl)) rfl
                                      rw [e]; exact congrArg some h
                                    rw [if_neg (wanted_no2 (j := 12) (s := 116) (b := true) rfl (by kernel_rfl) r116)]
                                    exact hK _ _ rfl (Only.refl _ _) hS
                                  · intro L vs A' u hW hL0 hnd K' hK
                                    have hS := hW.wi.s
                                    have r116 : A'.tmps[116]? = some (undef) := by
                                      obtain ⟨x, e, h⟩ := hW.tel 12 116 (by decide) (hnd 12 (by kernel_rfl)) rfl
                                      rw [e]; exact congrArg some h
                                    rw [if_neg (wanted_no2 (j := 12) (s := 116) (b := true) rfl (by kernel_rfl) r116)]
                                    exact hK _ _ rfl (Only.refl _ _) hS
                                  · intro L vs A' u hW hL0 hnd K' hK
                                    have hS := hW.wi.s
                                    have r116 : A'.tmps[116]? = some (undef) := by
                                      obtain ⟨x, e, h⟩ := hW.tel 12 116 (by decide) (hnd 12 (by kernel_rfl)) rfl
                                      rw [e]; exact congrArg some h
                                    rw [if_neg (wanted_no2 (j := 12) (s := 116) (b := true) rfl (by kernel_rfl) r116)]
                                    exact hK _ _ rfl (Only.refl _ _) hS
                                  · intro L vs A' u hW hL0 hnd K' hK
                                    have hS := hW.wi.s
                                    have r116 : A'.tmps[116]? = some (undef) := by
                                      obtain ⟨x, e, h⟩ := hW.tel 12 116 (by decide) (hnd 12 (by kernel_rfl)) rfl
                                      rw [e]; exact congrArg some h
                                    rw [if_neg (wanted_no2 (j := 12) (s := 116) (b := true) rfl (by kernel_rfl) r116)]
                                    exact hK _ _ rfl (Only.refl _ _) hS
                                  · intro L vs A' u hW hL0 hnd K' hK
                                    have hS := hW.wi.s
                                    have r116 : A'.tmps[116]? = some (undef) := by
                                      obtain ⟨x, e, h⟩ := hW.tel 12 116 (by decide) (hnd 12 (by kernel_rfl)) rfl
                                      rw [e]; exact congrArg some h
                                    rw [if_neg (wanted_no2 (j := 12) (s := 116) (b := true) rfl (by kernel_rfl) r116)]
                                    exact hK _ _ rfl (Only.refl _ _) hS
                                  · intro L vs A' u hW hL0 hnd K' hK
                                    have hS := hW.wi.s
                                    have r113 : A'.tmps[113]? = some (.bool true) := by
                                      obtain ⟨x, e, h⟩ := hW.tel 9 113 (by decide) (hnd 9 (by kernel_rfl)) rfl
                                      rw [e]; exact congrArg some h
                                    rw [if_neg (wanted_no (j := 9) (s := 113) (b := false) rfl (by kernel_rfl) r113)]
                                    exact hK _ _ rfl (Only.refl _ _) hS
                                  · intro L vs A' u hW hL0 hnd K' hK
                                    have hS := hW.wi.s
                                    have r113 : A'.tmps[113]? = some (.bool true) := by
                                      obtain ⟨x, e, h⟩ := hW.tel 9 113 (by decide) (hnd 9 (by kernel_rfl)) rfl
                                      rw [e]; exact congrArg some h
                                    rw [if_neg (wanted_no (j := 9) (s := 113) (b := false) rfl (by kernel_rfl) r113)]
                                    exact hK _ _ rfl (Only.refl _ _) hS
                                  · intro L vs A' u hW hL0 hnd K' hK
                                    have hS := hW.wi.s
                                    have r124 : A'.tmps[124]? = some (undef) := by
                                      obtain ⟨x, e, h⟩ := hW.tel 20 124 (by decide) (hnd 20 (by kernel_rfl)) rfl
                                      rw [e]; exact congrArg some h
                                    rw [if_neg (wanted_no2 (j := 20) (s := 124) (b := true) rfl (by kernel_rfl) r124)]
                                    exact hK _ _ rfl (Only.refl _ _) hS
                                  · intro L vs A' u hW hL0 hnd K' hK
                                    have hS := hW.wi.s
                                    have r124 : A'.tmps[124]? = some (undef) := by
                                      obtain ⟨x, e, h⟩ := hW.tel 20 124 (by decide) (hnd 20 (by kernel_rfl)) rfl
                                      rw [e]; exact congrArg some h
                                    rw [if_neg (wanted_no2 (j := 20) (s := 124) (b := true) rfl (by kernel_rfl) r124)]
                                    exact hK _ _ rfl (Only.refl _ _) hS
                                  · intro L vs A' u hW hL0 hnd K' hK
                                    have hS := hW.wi.s
                                    have r124 : A'.tmps[124]? = some (undef) := by
                                      obtain ⟨x, e, h⟩ := hW.tel 20 124 (by decide) (hnd 20 (by kernel_rfl)) rfl
                                      rw [e]; exact congrArg some h
                                    rw [if_neg (wanted_no2 (j := 20) (s := 124) (b := true) rfl (by kernel_rfl) r124)]
                                    exact hK _ _ rfl (Only.refl _ _) hS
                                  · intro L vs A' u hW hL0 hnd K' hK
                                    have hS := hW.wi.s
                                    have r124 : A'.tmps[124]? = some (undef) := by
                                      obtain ⟨x, e, h⟩ := hW.tel 20 124 (by decide) (hnd 20 (by kernel_rfl)) rfl
                                      rw [e]; exact congrArg some h
                                    rw [if_neg (wanted_no2 (j := 20) (s := 124) (b := true) rfl (by kernel_rfl) r124)]
                                    exact hK _ _ rfl (Only.refl _ _) hS
                                  · intro L vs A' u hW hL0 hnd K' hK
                                    have hS := hW.wi.s
                                    have r124 : A'.tmps[124]? = some (undef) := by
                                      obtain ⟨x, e, h⟩ := hW.tel 20 124 (by decide) (hnd 20 (by kernel_rfl)) rfl
                                      rw [e]; exact congrArg some h
                                    rw [if_neg (wanted_no2 (j := 20) (s := 124) (b := true) rfl (by kernel_rfl) r124)]
                                    exact hK _ _ rfl (Only.refl _ _) hS
                                  · intro L vs A' u hW hL0 hnd K' hK
                                    have hS := hW.wi.s
                                    have r124 : A'.tmps[124]? = some (undef) := by
                                      obtain ⟨x, e, h⟩ := hW.tel 20 124 (by decide) (hnd 20 (by kernel_rfl)) rfl
                                      rw [e]; exact congrArg some h
                                    rw [if_neg (wanted_no2 (j := 20) (s := 124) (b := true) rfl (by kernel_rfl) r124)]
                                    exact hK _ _ rfl (Only.refl _ _) hS
                                  · intro L vs A' u hW hL0 hnd K' hK
                                    have hS := hW.wi.s
                                    have r124 : A'.tmps[124]? = some (undef) := by
                                      obtain ⟨x, e, h⟩ := hW.tel 20 124 (by decide) (hnd 20 (by kernel_rfl)) rfl
                                      rw [e]; exact congrArg some h
                                    rw [if_neg (wanted_no2 (j := 20) (s := 124) (b := true) rfl (by kernel_rfl) r124)]
                                    exact hK _ _ rfl (Only.refl _ _) hS
                                  · intro L vs A' u hW hL0 hnd K' hK
                                    have hS := hW.wi.s
                                    have r113 : A'.tmps[113]? = some (.bool true) := by
                                      obtain ⟨x, e, h⟩ := hW.tel 9 113 (by decide) (hnd 9 (by kernel_rfl)) rfl
                                      rw [e]; exact congrArg some h
                                    rw [if_neg (wanted_no (j := 9) (s := 113) (b := false) rfl (by kernel_rfl) r113)]
                                    exact hK _ _ rfl (Only.refl _ _) hS
                                  · intro L vs A' u hW hL0 hnd K' hK
                                    have hS := hW.wi.s
                                    have r113 : A'.tmps[113]? = some (.bool true) := by
                                      obtain ⟨x, e, h⟩ := hW.tel 9 113 (by decide) (hnd 9 (by kernel_rfl)) rfl
                                      rw [e]; exact congrArg some h
                                    have r132 : A'.tmps[132]? = some (undef) := by
                                      obtain ⟨x, e, h⟩ := hW.tel 28 132 (by decide) (hnd 28 (by kernel_rfl)) rfl
                                      rw [e]; exact congrArg some h
                                    have r107 : A'.tmps[107]? = some (.bool true) := by
                                      obtain ⟨x, e, h⟩ := hW.tel 3 107 (by decide) (hnd 3 (by kernel_rfl)) rfl
                                      rw [e]; exact congrArg some h
                                    rw [if_pos (wanted_yes (j := 3) (s := 107) (b := true) rfl (by kernel_rfl) r107)]
                                    go_simp
                                    exact hK _ _ (by first | rfl | (show _ = _; simp)) (Only.refl _ _) hS
                                  · intro L vs A' u hW hL0 hnd K' hK
                                    have hS := hW.wi.s
                                    have r107 : A'.tmps[107]? = some (.bool true) := by
                                      obtain ⟨x, e, h⟩ := hW.tel 3 107 (by decide) (hnd 3 (by kernel_rfl)) rfl
                                      rw [e]; exact congrArg some h
                                    have r133 : A'.tmps[133]? = some (.bool true) := by
                                      obtain ⟨x, e, h⟩ := hW.tel 29 133 (by decide) (hnd 29 (by kernel_rfl)) rfl
                                      rw [e]; exact congrArg some h
                                    go_simp
                                    exact hK _ _ (by first | rfl | (show _ = _; simp)) (Only.refl _ _) hS
                                case doneL2 =>
                                  intro L vs v1 hS hP hall
                                  have e30 : vs 30 = .bool true := hP 30 (by decide)
                                  have hbx := HB.out.only hS (fun e => e)
                                  have P3 := Lib.hid (P2.out.only hS (fun e => e))
                                  have R3 := Lib.hid (R2.out.only hS (fun e => e))
                                  have O3 := Lib.hid (O2.out.trans hS)
                                  have HB1 := Lib.hid hbx
                                  have hd2 : v1.cell? ⟨w.heap.size + 2, 2, none⟩ = some (iv (cr : Nat)) := hbx.cell 2
                                  have hd7 : v1.cell? ⟨w.heap.size + 2, 7, none⟩ = some (iv ct) := hbx.cell 7
                                  have hg2 := hbx.frozen 2
                                  have hg7 := hbx.frozen 7
                                  have r0 : v1.cell? ⟨w.heap.size, 0, none⟩ = some (iv rate) := P3.out.cell 0
                                  clear hS hP hall fr_L2 ha2 ha7 hf2 hf7 q0 hbx
                                  simp only [putV, List.foldl_cons, List.foldl_nil, List.setIfInBounds_toArray, List.set_cons_zero, List.set_cons_succ]
                                  rw [e30]
                                  clear e30
                                  generalize vs 0 = y0, vs 1 = y1, vs 2 = y2, vs 3 = y3, vs 4 = y4, vs 5 = y5, vs 6 = y6, vs 7 = y7, vs 8 = y8, vs 9 = y9, vs 10 = y10, vs 11 = y11, vs 12 = y12, vs 13 = y13, vs 14 = y14, vs 15 = y15, vs 16 = y16, vs 17 = y17, vs 18 = y18, vs 19 = y19, vs 20 = y20, vs 21 = y21, vs 22 = y22, vs 23 = y23, vs 24 = y24, vs 25 = y25, vs 26 = y26, vs 27 = y27, vs 28 = y28, vs 29 = y29
                                  go_wp2
                                  go_roundw
                                  case rel => exact ⟨⟨K, by omega, by go_num, by rw [HNx.out]; exact (HB1.out.put 2 (iv (K : Nat))).put 7 (iv rate)⟩, (P3.out.off (by show w.heap.size ≠ w.heap.size + 2; omega) _).off (by show w.heap.size ≠ w.heap.size + 2; omega) _, (R3.out.off (by show w.heap.size + 1 ≠ w.heap.size + 2; omega) _).off (by show w.heap.size + 1 ≠ w.heap.size + 2; omega) _, (O3.out.setCell (.inr (by show w.heap.size ≤ w.heap.size + 2; omega)) _).setCell (.inr (by show w.heap.size ≤ w.heap.size + 2; omega)) _⟩
                                  case measure => simp [intOf]; omega
                              have g2b : (rr == rate) = false := by simpa using g2
                              by_cases g3 : 12 ≤ K
                              rotate_left
                              · have HNx : Hid (rrS rate K = (cr, ct)) := Lib.hid (by rw [HSt.out, if_neg]; rintro ⟨h1, h2⟩; rcases HTel.out.1 h2 with h | ⟨h, _⟩; exact g2 h; exact g3 h)
                                have g3b : ((K : Nat) : Int) < 12 := by omega
                                clear g1 g2 g3
                                go_wp2
                                have fr_L3 : ∀ j s, j < 31 → (([some 104, some 105, some 106, some 107, some 108, some 109, some 110, some 111, some 112, some 113, some 114, some 115, some 116, some 117, some 118, some 119, some 120, some 121, some 122, some 123, some 124, some 125, some 126, some 127, some 128, some 129, some 130, some 131, some 132, some 133, some 134] : List (Option Nat)).all fun d => d != some s) = true → ([some 104, some 105, some 106, some 107, some 108, some 109, some 110, some 111, some 112, some 113, some 114, some 115, some 116, some 117, some 118, some 119, some 120, some 121, some 122, some 123, some 124, some 125, some 126, some 127, some 128, some 129, some 130, some 131, some 132, some 133, some 134] : List (Option Nat)).getD j none ≠ some s := by
                                  intro j s hj ha e
                                  rw [List.getD_eq_getElem?_getD, List.getElem?_eq_getElem (by exact hj), Option.getD_some] at e
                                  have := List.all_eq_true.1 ha _ (List.getElem_mem (by exact hj))
                                  rw [e] at this
                                  simp at this
                                refine region_tel (by kernel_rfl) (fun k0 => ([some 104, some 105, some 106, some 107, some 108, some 109, some 110, some 111, some 112, some 113, some 114, some 115, some 116, some 117, some 118, some 119, some 120, some 121, some 122, some 123, some 124, some 125, some 126, some 127, some 128, some 129, some 130, some 131, some 132, some 133, some 134] : List (Option Nat)).getD k0 none) (PL [eqP (.pointer (some ⟨w.heap.size + 2, 2, none⟩)), eqP (iv (cr : Nat)), eqP (.bool true), eqP (.bool true), eqP (iv (K : Nat)), eqP (iv rr), eqP (.pointer (some ⟨w.heap.size, 0, none⟩)), eqP (iv rate), eqP (.bool false), eqP (.bool false), eqP (iv (K : Nat)), eqP (.bool false), eqP (.bool false), eqP (undef), eqP (undef), eqP (undef), eqP (undef), eqP (undef), eqP (undef), eqP (.bool false), eqP (.bool false), eqP (undef), eqP (undef), eqP (undef), eqP (undef), eqP (undef), eqP (undef), eqP (undef), eqP (.bool false), eqP (.bool false), eqP (.bool false)]) (fun u u' => Only Nix u u') (fun _ u => Only Nix (wr) u) 155 31 rfl (by kernel_rfl) (by kernel_rfl) rfl (by kernel_rfl) (by kernel_rfl) (stab_all ⟨fun _ _ _ h _ => h, fun _ _ _ h _ => h, fun _ _ _ h _ => h, fun _ _ _ h _ => h, fun _ _ _ h _ => h, fun _ _ _ h _ => h, fun _ _ _ h _ => h, fun _ _ _ h _ => h, fun _ _ _ h _ => h, fun _ _ _ h _ => h, fun _ _ _ h _ => h, fun _ _ _ h _ => h, fun _ _ _ h _ => h, fun _ _ _ h _ => h, fun _ _ _ h _ => h, fun _ _ _ h _ => h, fun _ _ _ h _ => h, fun _ _ _ h _ => h, fun _ _ _ h _ => h, fun _ _ _ h _ => h, fun _ _ _ h _ => h, fun _ _ _ h _ => h, fun _ _ _ h _ => h, fun _ _ _ h _ => h, fun _ _ _ h _ => h, fun _ _ _ h _ => h, fun _ _ _ h _ => h, fun _ _ _ h _ => h, fun _ _ _ h _ => h, fun _ _ _ h _ => h, fun _ _ _ h _ => h, trivial⟩) ((Only.refl _ _).drew) ?stepsL3 (fun vs => [(104, vs 0), (105, vs 1), (106, vs 2), (107, vs 3), (108, vs 4), (109, vs 5), (110, vs 6), (111, vs 7), (112, vs 8), (113, vs 9), (114, vs 10), (115, vs 11), (116, vs 12), (117, vs 13), (118, vs 14), (119, vs 15), (120, vs 16), (121, vs 17), (122, vs 18), (123, vs 19), (124, vs 20), (125, vs 21), (126, vs 22), (127, vs 23), (128, vs 24), (129, vs 25), (130, vs 26), (131, vs 27), (132, vs 28), (133, vs 29), (134, vs 30)]) (fun vs => rfl) ?doneL3
                                case stepsL3 =>
                                  refine ⟨?_, ?_, ?_, ?_, ?_, ?_, ?_, ?_, ?_, ?_, ?_, ?_, ?_, ?_, ?_, ?_, ?_, ?_, ?_, ?_, ?_, ?_, ?_, ?_, ?_, ?_, ?_, ?_, ?_, ?_, ?_, trivial⟩
                                  · intro L vs A' u hW hL0 hnd K' hK
                                    have hS := hW.wi.s
                                    have r13 : A'.tmps[13]? = some (.pointer (some ⟨w.heap.size + 2, 0, none⟩)) := (hW.out 13 (fun j hj => fr_L3 j 13 hj (by kernel_rfl))).trans rfl
                                    go_simp
                                    exact hK _ _ (by first | rfl | (show _ = _; simp)) (Only.refl _ _) hS
                                  · intro L vs A' u hW hL0 hnd K' hK
                                    have hS := hW.wi.s
                                    have r104 : A'.tmps[104]? = some (.pointer (some ⟨w.heap.size + 2, 2, none⟩)) := by
                                      obtain ⟨x, e, h⟩ := hW.tel 0 104 (by decide) (hnd 0 (by kernel_rfl)) rfl
                                      rw [e]; exact congrArg some h
                                    have hc := U.cell_keep hS ha2
                                    go_simp
                                    exact hK _ _ (rfl) (Only.refl _ _) hS
                                  · intro L vs A' u hW hL0 hnd K' hK
                                    have hS := hW.wi.s
                                    have r105 : A'.tmps[105]? = some (iv (cr : Nat)) := by
                                      obtain ⟨x, e, h⟩ := hW.tel 1 105 (by decide) (hnd 1 (by kernel_rfl)) rfl
                                      rw [e]; exact congrArg some h
                                    go_simp
                                    exact hK _ _ ((by first | rfl | (show _ = _; simp; omega) | (show _ = _; simp))) (Only.refl _ _) hS
                                  · intro L vs A' u hW hL0 hnd K' hK
                                    have hS := hW.wi.s
                                    have r106 : A'.tmps[106]? = some (.bool true) := by
                                      obtain ⟨x, e, h⟩ := hW.tel 2 106 (by decide) (hnd 2 (by kernel_rfl)) rfl
                                      rw [e]; exact congrArg some h
                                    go_simp
                                    exact hK _ _ (by first | rfl | (show _ = _; simp)) (Only.refl _ _) hS
                                  · intro L vs A' u hW hL0 hnd K' hK
                                    have hS := hW.wi.s
                                    have r15 : A'.tmps[15]? = some (iv (K : Nat)) := (hW.out 15 (fun j hj => fr_L3 j 15 hj (by kernel_rfl))).trans rfl
                                    have r107 : A'.tmps[107]? = some (.bool true) := by
                                      obtain ⟨x, e, h⟩ := hW.tel 3 107 (by decide) (hnd 3 (by kernel_rfl)) rfl
                                      rw [e]; exact congrArg some h
                                    rw [if_pos (wanted_yes (j := 3) (s := 107) (b := true) rfl (by kernel_rfl) r107)]
                                    go_simp
                                    exact hK _ _ (by first | rfl | (show _ = _; simp)) (Only.refl _ _) hS
                                  · intro L vs A' u hW hL0 hnd K' hK
                                    have hS := hW.wi.s
                                    have r108 : A'.tmps[108]? = some (iv (K : Nat)) := by
                                      obtain ⟨x, e, h⟩ := hW.tel 4 108 (by decide) (hnd 4 (by kernel_rfl)) rfl
                                      rw [e]; exact congrArg some h
                                    have r107 : A'.tmps[107]? = some (.bool true) := by
                                      obtain ⟨x, e, h⟩ := hW.tel 3 107 (by decide) (hnd 3 (by kernel_rfl)) rfl
                                      rw [e]; exact congrArg some h
                                    rw [if_pos (wanted_yes (j := 3) (s := 107) (b := true) rfl (by kernel_rfl) r107)]
                                    have HCL := Lib.hid (CRk.out u)
                                    go_simp
                                    refine (HCL.out).mono ?_
                                    rintro _ u' ⟨rfl, ho'⟩
                                    exact hK _ _ (rfl) ho' (hS.trans ho')
                                  · intro L vs A' u hW hL0 hnd K' hK
                                    have hS := hW.wi.s
                                    have r9 : A'.tmps[9]? = some (.pointer (some ⟨w.heap.size, 0, none⟩)) := (hW.out 9 (fun j hj => fr_L3 j 9 hj (by kernel_rfl))).trans rfl
                                    have r107 : A'.tmps[107]? = some (.bool true) := by
                                      obtain ⟨x, e, h⟩ := hW.tel 3 107 (by decide) (hnd 3 (by kernel_rfl)) rfl
                                      rw [e]; exact congrArg some h
                                    rw [if_pos (wanted_yes (j := 3) (s := 107) (b := true) rfl (by kernel_rfl) r107)]
                                    go_simp
                                    exact hK _ _ (by first | rfl | (show _ = _; simp)) (Only.refl _ _) hS
                                  · intro L vs A' u hW hL0 hnd K' hK
                                    have hS := hW.wi.s
                                    have r110 : A'.tmps[110]? = some (.pointer (some ⟨w.heap.size, 0, none⟩)) := by
                                      obtain ⟨x, e, h⟩ := hW.tel 6 110 (by decide) (hnd 6 (by kernel_rfl)) rfl
                                      rw [e]; exact congrArg some h
                                    have r107 : A'.tmps[107]? = some (.bool true) := by
                                      obtain ⟨x, e, h⟩ := hW.tel 3 107 (by decide) (hnd 3 (by kernel_rfl)) rfl
                                      rw [e]; exact congrArg some h
                                    rw [if_pos (wanted_yes (j := 3) (s := 107) (b := true) rfl (by kernel_rfl) r107)]
                                    have hc := U.cell_keep hS q0
                                    go_simp
                                    exact hK _ _ (rfl) (Only.refl _ _) hS
                                  · intro L vs A' u hW hL0 hnd K' hK
                                    have hS := hW.wi.s
                                    have r109 : A'.tmps[109]? = some (iv rr) := by
                                      obtain ⟨x, e, h⟩ := hW.tel 5 109 (by decide) (hnd 5 (by kernel_rfl)) rfl
                                      rw [e]; exact congrArg some h
                                    have r111 : A'.tmps[111]? = some (iv rate) := by
                                      obtain ⟨x, e, h⟩ := hW.tel 7 111 (by decide) (hnd 7 (by kernel_rfl)) rfl
                                      rw [e]; exact congrArg some h
                                    have r107 : A'.tmps[107]? = some (.bool true) := by
                                      obtain ⟨x, e, h⟩ := hW.tel 3 107 (by decide) (hnd 3 (by kernel_rfl)) rfl
                                      rw [e]; exact congrArg some h
                                    rw [if_pos (wanted_yes (j := 3) (s := 107) (b := true) rfl (by kernel_rfl) r107)]
                                    go_simp
                                    exact hK _ _ ((by first | rfl | (show _ = _; simp; omega) | (show _ = _; simp))) (Only.refl _ _) hS
                                  · intro L vs A' u hW hL0 hnd K' hK
                                    have hS := hW.wi.s
                                    have r112 : A'.tmps[112]? = some (.bool false) := by
                                      obtain ⟨x, e, h⟩ := hW.tel 8 112 (by decide) (hnd 8 (by kernel_rfl)) rfl
                                      rw [e]; exact congrArg some h
                                    have r107 : A'.tmps[107]? = some (.bool true) := by
                                      obtain ⟨x, e, h⟩ := hW.tel 3 107 (by decide) (hnd 3 (by kernel_rfl)) rfl
                                      rw [e]; exact congrArg some h
                                    rw [if_pos (wanted_yes (j := 3) (s := 107) (b := true) rfl (by kernel_rfl) r107)]
                                    go_simp
                                    exact hK _ _ (by first | rfl | (show _ = _; simp)) (Only.refl _ _) hS
                                  · intro L vs A' u hW hL0 hnd K' hK
                                    have hS := hW.wi.s
                                    have r15 : A'.tmps[15]? = some (iv (K : Nat)) := (hW.out 15 (fun j hj => fr_L3 j 15 hj (by kernel_rfl))).trans rfl
                                    have r113 : A'.tmps[113]? = some (.bool false) := by
                                      obtain ⟨x, e, h⟩ := hW.tel 9 113 (by decide) (hnd 9 (by kernel_rfl)) rfl
                                      rw [e]; exact congrArg some h
                                    rw [if_pos (wanted_yes (j := 9) (s := 113) (b := false) rfl (by kernel_rfl) r113)]
                                    go_simp
                                    exact hK _ _ (by first | rfl | (show _ = _; simp)) (Only.refl _ _) hS
                                  · intro L vs A' u hW hL0 hnd K' hK
                                    have hS := hW.wi.s
                                    have r114 : A'.tmps[114]? = some (iv (K : Nat)) := by
                                      obtain ⟨x, e, h⟩ := hW.tel 10 114 (by decide) (hnd 10 (by kernel_rfl)) rfl
                                      rw [e]; exact congrArg some h
                                    have r113 : A'.tmps[113]? = some (.bool false) := by
                                      obtain ⟨x, e, h⟩ := hW.tel 9 113 (by decide) (hnd 9 (by kernel_rfl)) rfl
                                      rw [e]; exact congrArg some h
                                    rw [if_pos (wanted_yes (j := 9) (s := 113) (b := false) rfl (by kernel_rfl) r113)]
                                    go_simp
                                    exact hK _ _ ((by first | rfl | (show _ = _; simp; omega) | (show _ = _; simp))) (Only.refl _ _) hS
                                  · intro L vs A' u hW hL0 hnd K' hK
                                    have hS := hW.wi.s
                                    have r115 : A'.tmps[115]? = some (.bool false) := by
                                      obtain ⟨x, e, h⟩ := hW.tel 11 115 (by decide) (hnd 11 (by kernel_rfl)) rfl
                                      rw [e]; exact congrArg some h
                                    have r113 : A'.tmps[113]? = some (.bool false) := by
                                      obtain ⟨x, e, h⟩ := hW.tel 9 113 (by decide) (hnd 9 (by kernel_rfl)) rfl
                                      rw [e]; exact congrArg some h
                                    rw [if_pos (wanted_yes (j := 9) (s := 113) (b := false) rfl (by kernel_rfl) r113)]
                                    go_simp
                                    exact hK _ _ (by first | rfl | (show _ = _; simp)) (Only.refl _ _) hS
                                  · intro L vs A' u hW hL0 hnd K' hK
                                    have hS := hW.wi.s
                                    have r116 : A'.tmps[116]? = some (.bool false) := by
                                      obtain ⟨x, e, h⟩ := hW.tel 12 116 (by decide) (hnd 12 (by kernel_rfl)) rfl
                                      rw [e]; exact congrArg some h
                                    rw [if_neg (wanted_no (j := 12) (s := 116) (b := true) rfl (by kernel_rfl) r116)]
                                    exact hK _ _ rfl (Only.refl _ _) hS
                                  · intro L vs A' u hW hL0 hnd K' hK
                                    have hS := hW.wi.s
                                    have r116 : A'.tmps[116]? = some (.bool false) := by
                                      obtain ⟨x, e, h⟩ := hW.tel 12 116 (by decide) (hnd 12 (by kernel_rfl)) rfl
                                      rw [e]; exact congrArg some h
                                    rw [if_neg (wanted_no (j := 12) (s := 116) (b := true) rfl (by kernel_rfl) r116)]
                                    exact hK _ _ rfl (Only.refl _ _) hS
                                  · intro L vs A' u hW hL0 hnd K' hK
                                    have hS := hW.wi.s
                                    have r116 : A'.tmps[116]? = some (.bool false) := by
                                      obtain ⟨x, e, h⟩ := hW.tel 12 116 (by decide) (hnd 12 (by kernel_rfl)) rfl
                                      rw [e]; exact congrArg some h
                                    rw [if_neg (wanted_no (j := 12) (s := 116) (b := true) rfl (by kernel_rfl) r116)]
                                    exact hK _ _ rfl (Only.refl _ _) hS
                                  · intro L vs A' u hW hL0 hnd K' hK
                                    have hS := hW.wi.s
                                    have r116 : A'.tmps[116]? = some (.bool false) := by
                                      obtain ⟨x, e, h⟩ := hW.tel 12 116 (by decide) (hnd 12 (by kernel_rfl)) rfl
                                      rw [e]; exact congrArg some h
                                    rw [if_neg (wanted_no (j := 12) (s := 116) (b := true) rfl (by kernel_rfl) r116)]
                                    exact hK _ _ rfl (Only.refl _ _) hS
                                  · intro L vs A' u hW hL0 hnd K' hK
                                    have hS := hW.wi.s
                                    have r116 : A'.tmps[116]? = some (.bool false) := by
                                      obtain ⟨x, e, h⟩ := hW.tel 12 116 (by decide) (hnd 12 (by kernel_rfl)) rfl
                                      rw [e]; exact congrArg some h
                                    rw [if_neg (wanted_no (j := 12) (s := 116) (b := true) rfl (by kernel_rfl) r116)]
                                    exact hK _ _ rfl (Only.refl _ _) hS
                                  · intro L vs A' u hW hL0 hnd K' hK
                                    have hS := hW.wi.s
                                    have r116 : A'.tmps[116]? = some (.bool false) := by
                                      obtain ⟨x, e, h⟩ := hW.tel 12 116 (by decide) (hnd 12 (by kernel_rfl)) rfl
                                      rw [e]; exact congrArg some h
                                    rw [if_neg (wanted_no (j := 12) (s := 116) (b := true) rfl (by kernel_rfl) r116)]
                                    exact hK _ _ rfl (Only.refl _ _) hS
                                  · intro L vs A' u hW hL0 hnd K' hK
                                    have hS := hW.wi.s
                                    have r116 : A'.tmps[116]? = some (.bool false) := by
                                      obtain ⟨x, e, h⟩ := hW.tel 12 116 (by decide) (hnd 12 (by kernel_rfl)) rfl
                                      rw [e]; exact congrArg some h
                                    have r122 : A'.tmps[122]? = some (undef) := by
                                      obtain ⟨x, e, h⟩ := hW.tel 18 122 (by decide) (hnd 18 (by kernel_rfl)) rfl
                                      rw [e]; exact congrArg some h
                                    have r113 : A'.tmps[113]? = some (.bool false) := by
                                      obtain ⟨x, e, h⟩ := hW.tel 9 113 (by decide) (hnd 9 (by kernel_rfl)) rfl
                                      rw [e]; exact congrArg some h
                                    rw [if_pos (wanted_yes (j := 9) (s := 113) (b := false) rfl (by kernel_rfl) r113)]
                                    go_simp
                                    exact hK _ _ (by first | rfl | (show _ = _; simp)) (Only.refl _ _) hS
                                  · intro L vs A' u hW hL0 hnd K' hK
                                    have hS := hW.wi.s
                                    have r123 : A'.tmps[123]? = some (.bool false) := by
                                      obtain ⟨x, e, h⟩ := hW.tel 19 123 (by decide) (hnd 19 (by kernel_rfl)) rfl
                                      rw [e]; exact congrArg some h
                                    have r113 : A'.tmps[113]? = some (.bool false) := by
                                      obtain ⟨x, e, h⟩ := hW.tel 9 113 (by decide) (hnd 9 (by kernel_rfl)) rfl
                                      rw [e]; exact congrArg some h
                                    rw [if_pos (wanted_yes (j := 9) (s := 113) (b := false) rfl (by kernel_rfl) r113)]
                                    go_simp
                                    exact hK _ _ (by first | rfl | (show _ = _; simp)) (Only.refl _ _) hS
                                  · intro L vs A' u hW hL0 hnd K' hK
                                    have hS := hW.wi.s
                                    have r124 : A'.tmps[124]? = some (.bool false) := by
                                      obtain ⟨x, e, h⟩ := hW.tel 20 124 (by decide) (hnd 20 (by kernel_rfl)) rfl
                                      rw [e]; exact congrArg some h
                                    rw [if_neg (wanted_no (j := 20) (s := 124) (b := true) rfl (by kernel_rfl) r124)]
                                    exact hK _ _ rfl (Only.refl _ _) hS
                                  · intro L vs A' u hW hL0 hnd K' hK
                                    have hS := hW.wi.s
                                    have r124 : A'.tmps[124]? = some (.bool false) := by
                                      obtain ⟨x, e, h⟩ := hW.tel 20 124 (by decide) (hnd 20 (by kernel_rfl)) rfl
                                      rw [e]; exact congrArg some h
                                    rw [if_neg (wanted_no (j := 20) (s := 124) (b := true) rfl (by kernel_rfl) r124)]
                                    exact hK _ _ rfl (Only.refl _ _) hS
                                  · intro L vs A' u hW hL0 hnd K' hK
                                    have hS := hW.wi.s
                                    have r124 : A'.tmps[124]? = some (.bool false) := by
                                      obtain ⟨x, e, h⟩ := hW.tel 20 124 (by decide) (hnd 20 (by kernel_rfl)) rfl
                                      rw [e]; exact congrArg some h
                                    rw [if_neg (wanted_no (j := 20) (s := 124) (b := true) rfl (by kernel_rfl) r124)]
                                    exact hK _ _ rfl (Only.refl _ _) hS
                                  · intro L vs A' u hW hL0 hnd K' hK
                                    have hS := hW.wi.s
                                    have r124 : A'.tmps[124]? = some (.bool false) := by
                                      obtain ⟨x, e, h⟩ := hW.tel 20 124 (by decide) (hnd 20 (by kernel_rfl)) rfl
                                      rw [e]; exact congrArg some h
                                    rw [if_neg (wanted_no (j := 20) (s := 124) (b := true) rfl (by kernel_rfl) r124)]
                                    exact hK _ _ rfl (Only.refl _ _) hS
                                  · intro L vs A' u hW hL0 hnd K' hK
                                    have hS := hW.wi.s
                                    have r124 : A'.tmps[124]? = some (.bool false) := by
                                      obtain ⟨x, e, h⟩ := hW.tel 20 124 (by decide) (hnd 20 (by kernel_rfl)) rfl
                                      rw [e]; exact congrArg some h
                                    rw [if_neg (wanted_no (j := 20) (s := 124) (b := true) rfl (by kernel_rfl) r124)]
                                    exact hK _ _ rfl (Only.refl _ _) hS
                                  · intro L vs A' u hW hL0 hnd K' hK
                                    have hS := hW.wi.s
                                    have r124 : A'.tmps[124]? = some (.bool false) := by
                                      obtain ⟨x, e, h⟩ := hW.tel 20 124 (by decide) (hnd 20 (by kernel_rfl)) rfl
                                      rw [e]; exact congrArg some h
                                    rw [if_neg (wanted_no (j := 20) (s := 124) (b := true) rfl (by kernel_rfl) r124)]
                                    exact hK _ _ rfl (Only.refl _ _) hS
                                  · intro L vs A' u hW hL0 hnd K' hK
                                    have hS := hW.wi.s
                                    have r124 : A'.tmps[124]? = some (.bool false) := by
                                      obtain ⟨x, e, h⟩ := hW.tel 20 124 (by decide) (hnd 20 (by kernel_rfl)) rfl
                                      rw [e]; exact congrArg some h
                                    rw [if_neg (wanted_no (j := 20) (s := 124) (b := true) rfl (by kernel_rfl) r124)]
                                    exact hK _ _ rfl (Only.refl _ _) hS
                                  · intro L vs A' u hW hL0 hnd K' hK
                                    have hS := hW.wi.s
                                    have r124 : A'.tmps[124]? = some (.bool false) := by
                                      obtain ⟨x, e, h⟩ := hW.tel 20 124 (by decide) (hnd 20 (by kernel_rfl)) rfl
                                      rw [e]; exact congrArg some h
                                    have r131 : A'.tmps[131]? = some (undef) := by
                                      obtain ⟨x, e, h⟩ := hW.tel 27 131 (by decide) (hnd 27 (by kernel_rfl)) rfl
                                      rw [e]; exact congrArg some h
                                    have r113 : A'.tmps[113]? = some (.bool false) := by
                                      obtain ⟨x, e, h⟩ := hW.tel 9 113 (by decide) (hnd 9 (by kernel_rfl)) rfl
                                      rw [e]; exact congrArg some h
                                    rw [if_pos (wanted_yes (j := 9) (s := 113) (b := false) rfl (by kernel_rfl) r113)]
                                    go_simp
                                    exact hK _ _ (by first | rfl | (show _ = _; simp)) (Only.refl _ _) hS
                                  · intro L vs A' u hW hL0 hnd K' hK
                                    have hS := hW.wi.s
                                    have r113 : A'.tmps[113]? = some (.bool false) := by
                                      obtain ⟨x, e, h⟩ := hW.tel 9 113 (by decide) (hnd 9 (by kernel_rfl)) rfl
                                      rw [e]; exact congrArg some h
                                    have r132 : A'.tmps[132]? = some (.bool false) := by
                                      obtain ⟨x, e, h⟩ := hW.tel 28 132 (by decide) (hnd 28 (by kernel_rfl)) rfl
                                      rw [e]; exact congrArg some h
                                    have r107 : A'.tmps[107]? = some (.bool true) := by
                                      obtain ⟨x, e, h⟩ := hW.tel 3 107 (by decide) (hnd 3 (by kernel_rfl)) rfl
                                      rw [e]; exact congrArg some h
                                    rw [if_pos (wanted_yes (j := 3) (s := 107) (b := true) rfl (by kernel_rfl) r107)]
                                    go_simp
                                    exact hK _ _ (by first | rfl | (show _ = _; simp)) (Only.refl _ _) hS
                                  · intro L vs A' u hW hL0 hnd K' hK
                                    have hS := hW.wi.s
                                    have r107 : A'.tmps[107]? = some (.bool true) := by
                                      obtain ⟨x, e, h⟩ := hW.tel 3 107 (by decide) (hnd 3 (by kernel_rfl)) rfl
                                      rw [e]; exact congrArg some h
                                    have r133 : A'.tmps[133]? = some (.bool false) := by
                                      obtain ⟨x, e, h⟩ := hW.tel 29 133 (by decide) (hnd 29 (by kernel_rfl)) rfl
                                      rw [e]; exact congrArg some h
                                    go_simp
                                    exact hK _ _ (by first | rfl | (show _ = _; simp)) (Only.refl _ _) hS
                                case doneL3 =>
                                  intro L vs v1 hS hP hall
                                  have e30 : vs 30 = .bool false := hP 30 (by decide)
                                  have hbx := HB.out.only hS (fun e => e)
                                  have P3 := Lib.hid (P2.out.only hS (fun e => e))
                                  have R3 := Lib.hid (R2.out.only hS (fun e => e))
                                  have O3 := Lib.hid (O2.out.trans hS)
                                  have HB1 := Lib.hid hbx
                                  have hd2 : v1.cell? ⟨w.heap.size + 2, 2, none⟩ = some (iv (cr : Nat)) := hbx.cell 2
                                  have hd7 : v1.cell? ⟨w.heap.size + 2, 7, none⟩ = some (iv ct) := hbx.cell 7
                                  have hg2 := hbx.frozen 2
                                  have hg7 := hbx.frozen 7
                                  have r0 : v1.cell? ⟨w.heap.size, 0, none⟩ = some (iv rate) := P3.out.cell 0
                                  clear hS hP hall fr_L3 ha2 ha7 hf2 hf7 q0 hbx
                                  simp only [putV, List.foldl_cons, List.foldl_nil, List.setIfInBounds_toArray, List.set_cons_zero, List.set_cons_succ]
                                  rw [e30]
                                  clear e30
                                  generalize vs 0 = y0, vs 1 = y1, vs 2 = y2, vs 3 = y3, vs 4 = y4, vs 5 = y5, vs 6 = y6, vs 7 = y7, vs 8 = y8, vs 9 = y9, vs 10 = y10, vs 11 = y11, vs 12 = y12, vs 13 = y13, vs 14 = y14, vs 15 = y15, vs 16 = y16, vs 17 = y17, vs 18 = y18, vs 19 = y19, vs 20 = y20, vs 21 = y21, vs 22 = y22, vs 23 = y23, vs 24 = y24, vs 25 = y25, vs 26 = y26, vs 27 = y27, vs 28 = y28, vs 29 = y29
                                  go_wp2
                                  go_roundw
                                  case rel => exact ⟨⟨K, by omega, by go_num, by rw [HNx.out]; exact HB1.out⟩, P3.out, R3.out, O3.out⟩
                                  case measure => simp [intOf]; omega
                              have g3b : 12 ≤ ((K : Nat) : Int) := by omega
                              have hRm2 := HRm.out
                              by_cases g4 : Rm = 0
                              rotate_left
                              · have HNx : Hid (rrS rate K = (cr, ct)) := Lib.hid (by rw [HSt.out, if_neg]; rintro ⟨h1, h2⟩; rcases HTel.out.1 h2 with h | ⟨_, h, _⟩; exact g2 h; exact g4 h)
                                have g4b : (Rm == 0) = false := by simpa using g4
                                clear g1 g2 g4
                                go_wp2
                                have fr_L4 : ∀ j s, j < 31 → (([some 104, some 105, some 106, some 107, some 108, some 109, some 110, some 111, some 112, some 113, some 114, some 115, some 116, some 117, some 118, some 119, some 120, some 121, some 122, some 123, some 124, some 125, some 126, some 127, some 128, some 129, some 130, some 131, some 132, some 133, some 134] : List (Option Nat)).all fun d => d != some s) = true → ([some 104, some 105, some 106, some 107, some 108, some 109, some 110, some 111, some 112, some 113, some 114, some 115, some 116, some 117, some 118, some 119, some 120, some 121, some 122, some 123, some 124, some 125, some 126, some 127, some 128, some 129, some 130, some 131, some 132, some 133, some 134] : List (Option Nat)).getD j none ≠ some s := by
                                  intro j s hj ha e
                                  rw [List.getD_eq_getElem?_getD, List.getElem?_eq_getElem (by exact hj), Option.getD_some] at e
                                  have := List.all_eq_true.1 ha _ (List.getElem_mem (by exact hj))
                                  rw [e] at this
                                  simp at this
                                refine region_tel (by kernel_rfl) (fun k0 => ([some 104, some 105, some 106, some 107, some 108, some 109, some 110, some 111, some 112, some 113, some 114, some 115, some 116, some 117, some 118, some 119, some 120, some 121, some 122, some 123, some 124, some 125, some 126, some 127, some 128, some 129, some 130, some 131, some 132, some 133, some 134] : List (Option Nat)).getD k0 none) (PL [eqP (.pointer (some ⟨w.heap.size + 2, 2, none⟩)), eqP (iv (cr : Nat)), eqP (.bool true), eqP (.bool true), eqP (iv (K : Nat)), eqP (iv rr), eqP (.pointer (some ⟨w.heap.size, 0, none⟩)), eqP (iv rate), eqP (.bool false), eqP (.bool false), eqP (iv (K : Nat)), eqP (.bool true), eqP (.bool true), eqP (.pointer (some ⟨w.heap.size, 0, none⟩)), eqP (iv rate), eqP (iv (K : Nat)), eqP (iv Un), eqP (iv Rm), eqP (.bool false), eqP (.bool false), eqP (.bool false), eqP (undef), eqP (undef), eqP (undef), eqP (undef), eqP (undef), eqP (undef), eqP (undef), eqP (.bool false), eqP (.bool false), eqP (.bool false)]) (fun u u' => Only Nix u u') (fun _ u => Only Nix (wr) u) 155 31 rfl (by kernel_rfl) (by kernel_rfl) rfl (by kernel_rfl) (by kernel_rfl) (stab_all ⟨fun _ _ _ h _ => h, fun _ _ _ h _ => h, fun _ _ _ h _ => h, fun _ _ _ h _ => h, fun _ _ _ h _ => h, fun _ _ _ h _ => h, fun _ _ _ h _ => h, fun _ _ _ h _ => h, fun _ _ _ h _ => h, fun _ _ _ h _ => h, fun _ _ _ h _ => h, fun _ _ _ h _ => h, fun _ _ _ h _ => h, fun _ _ _ h _ => h, fun _ _ _ h _ => h, fun _ _ _ h _ => h, fun _ _ _ h _ => h, fun _ _ _ h _ => h, fun _ _ _ h _ => h, fun _ _ _ h _ => h, fun _ _ _ h _ => h, fun _ _ _ h _ => h, fun _ _ _ h _ => h, fun _ _ _ h _ => h, fun _ _ _ h _ => h, fun _ _ _ h _ => h, fun _ _ _ h _ => h, fun _ _ _ h _ => h, fun _ _ _ h _ => h, fun _ _ _ h _ => h, fun _ _ _ h _ => h, trivial⟩) ((Only.refl _ _).drew) ?stepsL4 (fun vs => [(104, vs 0), (105, vs 1), (106, vs 2), (107, vs 3), (108, vs 4), (109, vs 5), (110, vs 6), (111, vs 7), (112, vs 8), (113, vs 9), (114, vs 10), (115, vs 11), (116, vs 12), (117, vs 13), (118, vs 14), (119, vs 15), (120, vs 16), (121, vs 17), (122, vs 18), (123, vs 19), (124, vs 20), (125, vs 21), (126, vs 22), (127, vs 23), (128, vs 24), (129, vs 25), (130, vs 26), (131, vs 27), (132, vs 28), (133, vs 29), (134, vs 30)]) (fun vs => rfl) ?doneL4
                                case stepsL4 =>
                                  refine ⟨?_, ?_, ?_, ?_, ?_, ?_, ?_, ?_, ?_, ?_, ?_, ?_, ?_, ?_, ?_, ?_, ?_, ?_, ?_, ?_, ?_, ?_, ?_, ?_, ?_, ?_, ?_, ?_, ?_, ?_, ?_, trivial⟩
                                  · intro L vs A' u hW hL0 hnd K' hK
                                    have hS := hW.wi.s
                                    have r13 : A'.tmps[13]? = some (.pointer (some ⟨w.heap.size + 2, 0, none⟩)) := (hW.out 13 (fun j hj => fr_L4 j 13 hj (by kernel_rfl))).trans rfl
                                    go_simp
                                    exact hK _ _ (by first | rfl | (show _ = _; simp)) (Only.refl _ _) hS
                                  · intro L vs A' u hW hL0 hnd K' hK
                                    have hS := hW.wi.s
                                    have r104 : A'.tmps[104]? = some (.pointer (some ⟨w.heap.size + 2, 2, none⟩)) := by
                                      obtain ⟨x, e, h⟩ := hW.tel 0 104 (by decide) (hnd 0 (by kernel_rfl)) rfl
                                      rw [e]; exact congrArg some h
                                    have hc := U.cell_keep hS ha2
                                    go_simp
                                    exact hK _ _ (rfl) (Only.refl _ _) hS
                                  · intro L vs A' u hW hL0 hnd K' hK
                                    have hS := hW.wi.s
                                    have r105 : A'.tmps[105]? = some (iv (cr : Nat)) := by
                                      obtain ⟨x, e, h⟩ := hW.tel 1 105 (by decide) (hnd 1 (by kernel_rfl)) rfl
                                      rw [e]; exact congrArg some h
                                    go_simp
                                    exact hK _ _ ((by first | rfl | (show _ = _; simp; omega) | (show _ = _; simp))) (Only.refl _ _) hS
                                  · intro L vs A' u hW hL0 hnd K' hK
                                    have hS := hW.wi.s
                                    have r106 : A'.tmps[106]? = some (.bool true) := by
                                      obtain ⟨x, e, h⟩ := hW.tel 2 106 (by decide) (hnd 2 (by kernel_rfl)) rfl
                                      rw [e]; exact congrArg some h
                                    go_simp
                                    exact hK _ _ (by first | rfl | (show _ = _; simp)) (Only.refl _ _) hS
                                  · intro L vs A' u hW hL0 hnd K' hK
                                    have hS := hW.wi.s
                                    have r15 : A'.tmps[15]? = some (iv (K : Nat)) := (hW.out 15 (fun j hj => fr_L4 j 15 hj (by kernel_rfl))).trans rfl
                                    have r107 : A'.tmps[107]? = some (.bool true) := by
                                      obtain ⟨x, e, h⟩ := hW.tel 3 107 (by decide) (hnd 3 (by kernel_rfl)) rfl
                                      rw [e]; exact congrArg some h
                                    rw [if_pos (wanted_yes (j := 3) (s := 107) (b := true) rfl (by kernel_rfl) r107)]
                                    go_simp
                                    exact hK _ _ (by first | rfl | (show _ = _; simp)) (Only.refl _ _) hS
                                  · intro L vs A' u hW hL0 hnd K' hK
                                    have hS := hW.wi.s
                                    have r108 : A'.tmps[108]? = some (iv (K : Nat)) := by
                                      obtain ⟨x, e, h⟩ := hW.tel 4 108 (by decide) (hnd 4 (by kernel_rfl)) rfl
                                      rw [e]; exact congrArg some h
                                    have r107 : A'.tmps[107]? = some (.bool true) := by
                                      obtain ⟨x, e, h⟩ := hW.tel 3 107 (by decide) (hnd 3 (by kernel_rfl)) rfl
                                      rw [e]; exact congrArg some h
                                    rw [if_pos (wanted_yes (j := 3) (s := 107) (b := true) rfl (by kernel_rfl) r107)]
                                    have HCL := Lib.hid (CRk.out u)
                                    go_simp
                                    refine (HCL.out).mono ?_
                                    rintro _ u' ⟨rfl, ho'⟩
                                    exact hK _ _ (rfl) ho' (hS.trans ho')
                                  · intro L vs A' u hW hL0 hnd K' hK
                                    have hS := hW.wi.s
                                    have r9 : A'.tmps[9]? = some (.pointer (some ⟨w.heap.size, 0, none⟩)) := (hW.out 9 (fun j hj => fr_L4 j 9 hj (by kernel_rfl))).trans rfl
                                    have r107 : A'.tmps[107]? = some (.bool true) := by
                                      obtain ⟨x, e, h⟩ := hW.tel 3 107 (by decide) (hnd 3 (by kernel_rfl)) rfl
                                      rw [e]; exact congrArg some h
                                    rw [if_pos (wanted_yes (j := 3) (s := 107) (b := true) rfl (by kernel_rfl) r107)]
                                    go_simp
                                    exact hK _ _ (by first | rfl | (show _ = _; simp)) (Only.refl _ _) hS
                                  · intro L vs A' u hW hL0 hnd K' hK
                                    have hS := hW.wi.s
                                    have r110 : A'.tmps[110]? = some (.pointer (some ⟨w.heap.size, 0, none⟩)) := by
                                      obtain ⟨x, e, h⟩ := hW.tel 6 110 (by decide) (hnd 6 (by kernel_rfl)) rfl
                                      rw [e]; exact congrArg some h
                                    have r107 : A'.tmps[107]? = some (.bool true) := by
                                      obtain ⟨x, e, h⟩ := hW.tel 3 107 (by decide) (hnd 3 (by kernel_rfl)) rfl
                                      rw [e]; exact congrArg some h
                                    rw [if_pos (wanted_yes (j := 3) (s := 107) (b := true) rfl (by kernel_rfl) r107)]
                                    have hc := U.cell_keep hS q0
                                    go_simp
                                    exact hK _ _ (rfl) (Only.refl _ _) hS
                                  · intro L vs A' u hW hL0 hnd K' hK
                                    have hS := hW.wi.s
                                    have r109 : A'.tmps[109]? = some (iv rr) := by
                                      obtain ⟨x, e, h⟩ := hW.tel 5 109 (by decide) (hnd 5 (by kernel_rfl)) rfl
                                      rw [e]; exact congrArg some h
                                    have r111 : A'.tmps[111]? = some (iv rate) := by
                                      obtain ⟨x, e, h⟩ := hW.tel 7 111 (by decide) (hnd 7 (by kernel_rfl)) rfl
                                      rw [e]; exact congrArg some h
                                    have r107 : A'.tmps[107]? = some (.bool true) := by
                                      obtain ⟨x, e, h⟩ := hW.tel 3 107 (by decide) (hnd 3 (by kernel_rfl)) rfl
                                      rw [e]; exact congrArg some h
                                    rw [if_pos (wanted_yes (j := 3) (s := 107) (b := true) rfl (by kernel_rfl) r107)]
                                    go_simp
                                    exact hK _ _ ((by first | rfl | (show _ = _; simp; omega) | (show _ = _; simp))) (Only.refl _ _) hS
                                  · intro L vs A' u hW hL0 hnd K' hK
                                    have hS := hW.wi.s
                                    have r112 : A'.tmps[112]? = some (.bool false) := by
                                      obtain ⟨x, e, h⟩ := hW.tel 8 112 (by decide) (hnd 8 (by kernel_rfl)) rfl
                                      rw [e]; exact congrArg some h
                                    have r107 : A'.tmps[107]? = some (.bool true) := by
                                      obtain ⟨x, e, h⟩ := hW.tel 3 107 (by decide) (hnd 3 (by kernel_rfl)) rfl
                                      rw [e]; exact congrArg some h
                                    rw [if_pos (wanted_yes (j := 3) (s := 107) (b := true) rfl (by kernel_rfl) r107)]
                                    go_simp
                                    exact hK _ _ (by first | rfl | (show _ = _; simp)) (Only.refl _ _) hS
                                  · intro L vs A' u hW hL0 hnd K' hK
                                    have hS := hW.wi.s
                                    have r15 : A'.tmps[15]? = some (iv (K : Nat)) := (hW.out 15 (fun j hj => fr_L4 j 15 hj (by kernel_rfl))).trans rfl
                                    have r113 : A'.tmps[113]? = some (.bool false) := by
                                      obtain ⟨x, e, h⟩ := hW.tel 9 113 (by decide) (hnd 9 (by kernel_rfl)) rfl
                                      rw [e]; exact congrArg some h
                                    rw [if_pos (wanted_yes (j := 9) (s := 113) (b := false) rfl (by kernel_rfl) r113)]
                                    go_simp
                                    exact hK _ _ (by first | rfl | (show _ = _; simp)) (Only.refl _ _) hS
                                  · intro L vs A' u hW hL0 hnd K' hK
                                    have hS := hW.wi.s
                                    have r114 : A'.tmps[114]? = some (iv (K : Nat)) := by
                                      obtain ⟨x, e, h⟩ := hW.tel 10 114 (by decide) (hnd 10 (by kernel_rfl)) rfl
                                      rw [e]; exact congrArg some h
                                    have r113 : A'.tmps[113]? = some (.bool false) := by
                                      obtain ⟨x, e, h⟩ := hW.tel 9 113 (by decide) (hnd 9 (by kernel_rfl)) rfl
                                      rw [e]; exact congrArg some h
                                    rw [if_pos (wanted_yes (j := 9) (s := 113) (b := false) rfl (by kernel_rfl) r113)]
                                    go_simp
                                    exact hK _ _ ((by first | rfl | (show _ = _; simp; omega) | (show _ = _; simp))) (Only.refl _ _) hS
                                  · intro L vs A' u hW hL0 hnd K' hK
                                    have hS := hW.wi.s
                                    have r115 : A'.tmps[115]? = some (.bool true) := by
                                      obtain ⟨x, e, h⟩ := hW.tel 11 115 (by decide) (hnd 11 (by kernel_rfl)) rfl
                                      rw [e]; exact congrArg some h
                                    have r113 : A'.tmps[113]? = some (.bool false) := by
                                      obtain ⟨x, e, h⟩ := hW.tel 9 113 (by decide) (hnd 9 (by kernel_rfl)) rfl
                                      rw [e]; exact congrArg some h
                                    rw [if_pos (wanted_yes (j := 9) (s := 113) (b := false) rfl (by kernel_rfl) r113)]
                                    go_simp
                                    exact hK _ _ (by first | rfl | (show _ = _; simp)) (Only.refl _ _) hS
                                  · intro L vs A' u hW hL0 hnd K' hK
                                    have hS := hW.wi.s
                                    have r9 : A'.tmps[9]? = some (.pointer (some ⟨w.heap.size, 0, none⟩)) := (hW.out 9 (fun j hj => fr_L4 j 9 hj (by kernel_rfl))).trans rfl
                                    have r116 : A'.tmps[116]? = some (.bool true) := by
                                      obtain ⟨x, e, h⟩ := hW.tel 12 116 (by decide) (hnd 12 (by kernel_rfl)) rfl
                                      rw [e]; exact congrArg some h
                                    rw [if_pos (wanted_yes (j := 12) (s := 116) (b := true) rfl (by kernel_rfl) r116)]
                                    go_simp
                                    exact hK _ _ (by first | rfl | (show _ = _; simp)) (Only.refl _ _) hS
                                  · intro L vs A' u hW hL0 hnd K' hK
                                    have hS := hW.wi.s
                                    have r117 : A'.tmps[117]? = some (.pointer (some ⟨w.heap.size, 0, none⟩)) := by
                                      obtain ⟨x, e, h⟩ := hW.tel 13 117 (by decide) (hnd 13 (by kernel_rfl)) rfl
                                      rw [e]; exact congrArg some h
                                    have r116 : A'.tmps[116]? = some (.bool true) := by
                                      obtain ⟨x, e, h⟩ := hW.tel 12 116 (by decide) (hnd 12 (by kernel_rfl)) rfl
                                      rw [e]; exact congrArg some h
                                    rw [if_pos (wanted_yes (j := 12) (s := 116) (b := true) rfl (by kernel_rfl) r116)]
                                    have hc := U.cell_keep hS q0
                                    go_simp
                                    exact hK _ _ (rfl) (Only.refl _ _) hS
                                  · intro L vs A' u hW hL0 hnd K' hK
                                    have hS := hW.wi.s
                                    have r15 : A'.tmps[15]? = some (iv (K : Nat)) := (hW.out 15 (fun j hj => fr_L4 j 15 hj (by kernel_rfl))).trans rfl
                                    have r116 : A'.tmps[116]? = some (.bool true) := by
                                      obtain ⟨x, e, h⟩ := hW.tel 12 116 (by decide) (hnd 12 (by kernel_rfl)) rfl
                                      rw [e]; exact congrArg some h
                                    rw [if_pos (wanted_yes (j := 12) (s := 116) (b := true) rfl (by kernel_rfl) r116)]
                                    go_simp
                                    exact hK _ _ (by first | rfl | (show _ = _; simp)) (Only.refl _ _) hS
                                  · intro L vs A' u hW hL0 hnd K' hK
                                    have hS := hW.wi.s
                                    have r119 : A'.tmps[119]? = some (iv (K : Nat)) := by
                                      obtain ⟨x, e, h⟩ := hW.tel 15 119 (by decide) (hnd 15 (by kernel_rfl)) rfl
                                      rw [e]; exact congrArg some h
                                    have r116 : A'.tmps[116]? = some (.bool true) := by
                                      obtain ⟨x, e, h⟩ := hW.tel 12 116 (by decide) (hnd 12 (by kernel_rfl)) rfl
                                      rw [e]; exact congrArg some h
                                    rw [if_pos (wanted_yes (j := 12) (s := 116) (b := true) rfl (by kernel_rfl) r116)]
                                    have HCL := Lib.hid (CUk.out u)
                                    go_simp
                                    refine (HCL.out).mono ?_
                                    rintro _ u' ⟨rfl, rfl⟩
                                    exact hK _ _ (rfl) (Only.refl _ _) hS
                                  · intro L vs A' u hW hL0 hnd K' hK
                                    have hS := hW.wi.s
                                    have r118 : A'.tmps[118]? = some (iv rate) := by
                                      obtain ⟨x, e, h⟩ := hW.tel 14 118 (by decide) (hnd 14 (by kernel_rfl)) rfl
                                      rw [e]; exact congrArg some h
                                    have r120 : A'.tmps[120]? = some (iv Un) := by
                                      obtain ⟨x, e, h⟩ := hW.tel 16 120 (by decide) (hnd 16 (by kernel_rfl)) rfl
                                      rw [e]; exact congrArg some h
                                    have r116 : A'.tmps[116]? = some (.bool true) := by
                                      obtain ⟨x, e, h⟩ := hW.tel 12 116 (by decide) (hnd 12 (by kernel_rfl)) rfl
                                      rw [e]; exact congrArg some h
                                    rw [if_pos (wanted_yes (j := 12) (s := 116) (b := true) rfl (by kernel_rfl) r116)]
                                    go_simp
                                    exact hK _ _ ((by first | rfl | (show _ = _; simp; omega) | (show _ = _; simp))) (Only.refl _ _) hS
                                  · intro L vs A' u hW hL0 hnd K' hK
                                    have hS := hW.wi.s
                                    have r121 : A'.tmps[121]? = some (iv Rm) := by
                                      obtain ⟨x, e, h⟩ := hW.tel 17 121 (by decide) (hnd 17 (by kernel_rfl)) rfl
                                      rw [e]; exact congrArg some h
                                    have r116 : A'.tmps[116]? = some (.bool true) := by
                                      obtain ⟨x, e, h⟩ := hW.tel 12 116 (by decide) (hnd 12 (by kernel_rfl)) rfl
                                      rw [e]; exact congrArg some h
                                    rw [if_pos (wanted_yes (j := 12) (s := 116) (b := true) rfl (by kernel_rfl) r116)]
                                    go_simp
                                    exact hK _ _ ((by first | rfl | (show _ = _; simp; omega) | (show _ = _; simp))) (Only.refl _ _) hS
                                  · intro L vs A' u hW hL0 hnd K' hK
                                    have hS := hW.wi.s
                                    have r116 : A'.tmps[116]? = some (.bool true) := by
                                      obtain ⟨x, e, h⟩ := hW.tel 12 116 (by decide) (hnd 12 (by kernel_rfl)) rfl
                                      rw [e]; exact congrArg some h
                                    have r122 : A'.tmps[122]? = some (.bool false) := by
                                      obtain ⟨x, e, h⟩ := hW.tel 18 122 (by decide) (hnd 18 (by kernel_rfl)) rfl
                                      rw [e]; exact congrArg some h
                                    have r113 : A'.tmps[113]? = some (.bool false) := by
                                      obtain ⟨x, e, h⟩ := hW.tel 9 113 (by decide) (hnd 9 (by kernel_rfl)) rfl
                                      rw [e]; exact congrArg some h
                                    rw [if_pos (wanted_yes (j := 9) (s := 113) (b := false) rfl (by kernel_rfl) r113)]
                                    go_simp
                                    exact hK _ _ (by first | rfl | (show _ = _; simp)) (Only.refl _ _) hS
                                  · intro L vs A' u hW hL0 hnd K' hK
                                    have hS := hW.wi.s
                                    have r123 : A'.tmps[123]? = some (.bool false) := by
                                      obtain ⟨x, e, h⟩ := hW.tel 19 123 (by decide) (hnd 19 (by kernel_rfl)) rfl
                                      rw [e]; exact congrArg some h
                                    have r113 : A'.tmps[113]? = some (.bool false) := by
                                      obtain ⟨x, e, h⟩ := hW.tel 9 113 (by decide) (hnd 9 (by kernel_rfl)) rfl
                                      rw [e]; exact congrArg some h
                                    rw [if_pos (wanted_yes (j := 9) (s := 113) (b := false) rfl (by kernel_rfl) r113)]
                                    go_simp
                                    exact hK _ _ (by first | rfl | (show _ = _; simp)) (Only.refl _ _) hS
                                  · intro L vs A' u hW hL0 hnd K' hK
                                    have hS := hW.wi.s
                                    have r124 : A'.tmps[124]? = some (.bool false) := by
                                      obtain ⟨x, e, h⟩ := hW.tel 20 124 (by decide) (hnd 20 (by kernel_rfl)) rfl
                                      rw [e]; exact congrArg some h
                                    rw [if_neg (wanted_no (j := 20) (s := 124) (b := true) rfl (by kernel_rfl) r124)]
                                    exact hK _ _ rfl (Only.refl _ _) hS
                                  · intro L vs A' u hW hL0 hnd K' hK
                                    have hS := hW.wi.s
                                    have r124 : A'.tmps[124]? = some (.bool false) := by
                                      obtain ⟨x, e, h⟩ := hW.tel 20 124 (by decide) (hnd 20 (by kernel_rfl)) rfl
                                      rw [e]; exact congrArg some h
                                    rw [if_neg (wanted_no (j := 20) (s := 124) (b := true) rfl (by kernel_rfl) r124)]
                                    exact hK _ _ rfl (Only.refl _ _) hS
                                  · intro L vs A' u hW hL0 hnd K' hK
                                    have hS := hW.wi.s
                                    have r124 : A'.tmps[124]? = some (.bool false) := by
                                      obtain ⟨x, e, h⟩ := hW.tel 20 124 (by decide) (hnd 20 (by kernel_rfl)) rfl
                                      rw [e]; exact congrArg some h
                                    rw [if_neg (wanted_no (j := 20) (s := 124) (b := true) rfl (by kernel_rfl) r124)]
                                    exact hK _ _ rfl (Only.refl _ _) hS
                                  · intro L vs A' u hW hL0 hnd K' hK
                                    have hS := hW.wi.s
                                    have r124 : A'.tmps[124]? = some (.bool false) := by
                                      obtain ⟨x, e, h⟩ := hW.tel 20 124 (by decide) (hnd 20 (by kernel_rfl)) rfl
                                      rw [e]; exact congrArg some h
                                    rw [if_neg (wanted_no (j := 20) (s := 124) (b := true) rfl (by kernel_rfl) r124)]
                                    exact hK _ _ rfl (Only.refl _ _) hS
                                  · intro L vs A' u hW hL0 hnd K' hK
                                    have hS := hW.wi.s
                                    have r124 : A'.tmps[124]? = some (.bool false) := by
                                      obtain ⟨x, e, h⟩ := hW.tel 20 124 (by decide) (hnd 20 (by kernel_rfl)) rfl
                                      rw [e]; exact congrArg some h
                                    rw [if_neg (wanted_no (j := 20) (s := 124) (b := true) rfl (by kernel_rfl) r124)]
                                    exact hK _ _ rfl (Only.refl _ _) hS
                                  · intro L vs A' u hW hL0 hnd K' hK
                                    have hS := hW.wi.s
                                    have r124 : A'.tmps[124]? = some (.bool false) := by
                                      obtain ⟨x, e, h⟩ := hW.tel 20 124 (by decide) (hnd 20 (by kernel_rfl)) rfl
                                      rw [e]; exact congrArg some h
                                    rw [if_neg (wanted_no (j := 20) (s := 124) (b := true) rfl (by kernel_rfl) r124)]
                                    exact hK _ _ rfl (Only.refl _ _) hS
                                  · intro L vs A' u hW hL0 hnd K' hK
                                    have hS := hW.wi.s
                                    have r124 : A'.tmps[124]? = some (.bool false) := by
                                      obtain ⟨x, e, h⟩ := hW.tel 20 124 (by decide) (hnd 20 (by kernel_rfl)) rfl
                                      rw [e]; exact congrArg some h
                                    rw [if_neg (wanted_no (j := 20) (s := 124) (b := true) rfl (by kernel_rfl) r124)]
                                    exact hK _ _ rfl (Only.refl _ _) hS
                                  · intro L vs A' u hW hL0 hnd K' hK
                                    have hS := hW.wi.s
                                    have r124 : A'.tmps[124]? = some (.bool false) := by
                                      obtain ⟨x, e, h⟩ := hW.tel 20 124 (by decide) (hnd 20 (by kernel_rfl)) rfl
                                      rw [e]; exact congrArg some h
                                    have r131 : A'.tmps[131]? = some (undef) := by
                                      obtain ⟨x, e, h⟩ := hW.tel 27 131 (by decide) (hnd 27 (by kernel_rfl)) rfl
                                      rw [e]; exact congrArg some h
                                    have r113 : A'.tmps[113]? = some (.bool false) := by
                                      obtain ⟨x, e, h⟩ := hW.tel 9 113 (by decide) (hnd 9 (by kernel_rfl)) rfl
                                      rw [e]; exact congrArg some h
                                    rw [if_pos (wanted_yes (j := 9) (s := 113) (b := false) rfl (by kernel_rfl) r113)]
                                    go_simp
                                    exact hK _ _ (by first | rfl | (show _ = _; simp)) (Only.refl _ _) hS
                                  · intro L vs A' u hW hL0 hnd K' hK
                                    have hS := hW.wi.s
                                    have r113 : A'.tmps[113]? = some (.bool false) := by
                                      obtain ⟨x, e, h⟩ := hW.tel 9 113 (by decide) (hnd 9 (by kernel_rfl)) rfl
                                      rw [e]; exact congrArg some h
                                    have r132 : A'.tmps[132]? = some (.bool false) := by
                                      obtain ⟨x, e, h⟩ := hW.tel 28 132 (by decide) (hnd 28 (by kernel_rfl)) rfl
                                      rw [e]; exact congrArg some h
                                    have r107 : A'.tmps[107]? = some (.bool true) := by
                                      obtain ⟨x, e, h⟩ := hW.tel 3 107 (by decide) (hnd 3 (by kernel_rfl)) rfl
                                      rw [e]; exact congrArg some h
                                    rw [if_pos (wanted_yes (j := 3) (s := 107) (b := true) rfl (by kernel_rfl) r107)]
                                    go_simp
                                    exact hK _ _ (by first | rfl | (show _ = _; simp)) (Only.refl _ _) hS
                                  · intro L vs A' u hW hL0 hnd K' hK
                                    have hS := hW.wi.s
                                    have r107 : A'.tmps[107]? = some (.bool true) := by
                                      obtain ⟨x, e, h⟩ := hW.tel 3 107 (by decide) (hnd 3 (by kernel_rfl)) rfl
                                      rw [e]; exact congrArg some h
                                    have r133 : A'.tmps[133]? = some (.bool false) := by
                                      obtain ⟨x, e, h⟩ := hW.tel 29 133 (by decide) (hnd 29 (by kernel_rfl)) rfl
                                      rw [e]; exact congrArg some h
                                    go_simp
                                    exact hK _ _ (by first | rfl | (show _ = _; simp)) (Only.refl _ _) hS
                                case doneL4 =>
                                  intro L vs v1 hS hP hall
                                  have e30 : vs 30 = .bool false := hP 30 (by decide)
                                  have hbx := HB.out.only hS (fun e => e)
                                  have P3 := Lib.hid (P2.out.only hS (fun e => e))
                                  have R3 := Lib.hid (R2.out.only hS (fun e => e))
                                  have O3 := Lib.hid (O2.out.trans hS)
                                  have HB1 := Lib.hid hbx
                                  have hd2 : v1.cell? ⟨w.heap.size + 2, 2, none⟩ = some (iv (cr : Nat)) := hbx.cell 2
                                  have hd7 : v1.cell? ⟨w.heap.size + 2, 7, none⟩ = some (iv ct) := hbx.cell 7
                                  have hg2 := hbx.frozen 2
                                  have hg7 := hbx.frozen 7
                                  have r0 : v1.cell? ⟨w.heap.size, 0, none⟩ = some (iv rate) := P3.out.cell 0
                                  clear hS hP hall fr_L4 ha2 ha7 hf2 hf7 q0 hbx
                                  simp only [putV, List.foldl_cons, List.foldl_nil, List.setIfInBounds_toArray, List.set_cons_zero, List.set_cons_succ]
                                  rw [e30]
                                  clear e30
                                  generalize vs 0 = y0, vs 1 = y1, vs 2 = y2, vs 3 = y3, vs 4 = y4, vs 5 = y5, vs 6 = y6, vs 7 = y7, vs 8 = y8, vs 9 = y9, vs 10 = y10, vs 11 = y11, vs 12 = y12, vs 13 = y13, vs 14 = y14, vs 15 = y15, vs 16 = y16, vs 17 = y17, vs 18 = y18, vs 19 = y19, vs 20 = y20, vs 21 = y21, vs 22 = y22, vs 23 = y23, vs 24 = y24, vs 25 = y25, vs 26 = y26, vs 27 = y27, vs 28 = y28, vs 29 = y29
                                  go_wp2
                                  go_roundw
                                  case rel => exact ⟨⟨K, by omega, by go_num, by rw [HNx.out]; exact HB1.out⟩, P3.out, R3.out, O3.out⟩
                                  case measure => simp [intOf]; omega
                              have g4b : (Rm == 0) = true := by simpa using g4
                              have hQt2 := HQt.out
                              have hw2 := HW1.out
                              by_cases g5 : Qt ≤ Tp
                              · have HNx : Hid (rrS rate K = (K, rate)) := Lib.hid (by rw [HSt.out, if_pos ⟨g1, HTel.out.2 (.inr ⟨g3, g4, g5⟩)⟩])
                                have g5b : decide (Qt ≤ Tp) = true := decide_eq_true g5
                                clear g1 g2 g3 g4 g5
                                go_wp2
                                have fr_L5 : ∀ j s, j < 31 → (([some 104, some 105, some 106, some 107, some 108, some 109, some 110, some 111, some 112, some 113, some 114, some 115, some 116, some 117, some 118, some 119, some 120, some 121, some 122, some 123, some 124, some 125, some 126, some 127, some 128, some 129, some 130, some 131, some 132, some 133, some 134] : List (Option Nat)).all fun d => d != some s) = true → ([some 104, some 105, some 106, some 107, some 108, some 109, some 110, some 111, some 112, some 113, some 114, some 115, some 116, some 117, some 118, some 119, some 120, some 121, some 122, some 123, some 124, some 125, some 126, some 127, some 128, some 129, some 130, some 131, some 132, some 133, some 134] : List (Option Nat)).getD j none ≠ some s := by
                                  intro j s hj ha e
                                  rw [List.getD_eq_getElem?_getD, List.getElem?_eq_getElem (by exact hj), Option.getD_some] at e
                                  have := List.all_eq_true.1 ha _ (List.getElem_mem (by exact hj))
                                  rw [e] at this
                                  simp at this
                                refine region_tel (by kernel_rfl) (fun k0 => ([some 104, some 105, some 106, some 107, some 108, some 109, some 110, some 111, some 112, some 113, some 114, some 115, some 116, some 117, some 118, some 119, some 120, some 121, some 122, some 123, some 124, some 125, some 126, some 127, some 128, some 129, some 130, some 131, some 132, some 133, some 134] : List (Option Nat)).getD k0 none) (PL [eqP (.pointer (some ⟨w.heap.size + 2, 2, none⟩)), eqP (iv (cr : Nat)), eqP (.bool true), eqP (.bool true), eqP (iv (K : Nat)), eqP (iv rr), eqP (.pointer (some ⟨w.heap.size, 0, none⟩)), eqP (iv rate), eqP (.bool false), eqP (.bool false), eqP (iv (K : Nat)), eqP (.bool true), eqP (.bool true), eqP (.pointer (some ⟨w.heap.size, 0, none⟩)), eqP (iv rate), eqP (iv (K : Nat)), eqP (iv Un), eqP (iv Rm), eqP (.bool true), eqP (.bool true), eqP (.bool true), eqP (.pointer (some ⟨w.heap.size, 0, none⟩)), eqP (iv rate), eqP (iv (K : Nat)), eqP (iv Un), eqP (iv Qt), eqP (iv Tp), eqP (.bool true), eqP (.bool true), eqP (.bool true), eqP (.bool true)]) (fun u u' => Only Nix u u') (fun _ u => Only Nix (wr) u) 155 31 rfl (by kernel_rfl) (by kernel_rfl) rfl (by kernel_rfl) (by kernel_rfl) (stab_all ⟨fun _ _ _ h _ => h, fun _ _ _ h _ => h, fun _ _ _ h _ => h, fun _ _ _ h _ => h, fun _ _ _ h _ => h, fun _ _ _ h _ => h, fun _ _ _ h _ => h, fun _ _ _ h _ => h, fun _ _ _ h _ => h, fun _ _ _ h _ => h, fun _ _ _ h _ => h, fun _ _ _ h _ => h, fun _ _ _ h _ => h, fun _ _ _ h _ => h, fun _ _ _ h _ => h, fun _ _ _ h _ => h, fun _ _ _ h _ => h, fun _ _ _ h _ => h, fun _ _ _ h _ => h, fun _ _ _ h _ => h, fun _ _ _ h _ => h, fun _ _ _ h _ => h, fun _ _ _ h _ => h, fun _ _ _ h _ => h, fun _ _ _ h _ => h, fun _ _ _ h _ => h, fun _ _ _ h _ => h, fun _ _ _ h _ => h, fun _ _ _ h _ => h, fun _ _ _ h _ => h, fun _ _ _ h _ => h, trivial⟩) ((Only.refl _ _).drew) ?stepsL5 (fun vs => [(104, vs 0), (105, vs 1), (106, vs 2), (107, vs 3), (108, vs 4), (109, vs 5), (110, vs 6), (111, vs 7), (112, vs 8), (113, vs 9), (114, vs 10), (115, vs 11), (116, vs 12), (117, vs 13), (118, vs 14), (119, vs 15), (120, vs 16), (121, vs 17), (122, vs 18), (123, vs 19), (124, vs 20), (125, vs 21), (126, vs 22), (127, vs 23), (128, vs 24), (129, vs 25), (130, vs 26), (131, vs 27), (132, vs 28), (133, vs 29), (134, vs 30)]) (fun vs => rfl) ?doneL5
                                case stepsL5 =>
                                  refine ⟨?_, ?_, ?_, ?_, ?_, ?_, ?_, ?_, ?_, ?_, ?_, ?_, ?_, ?_, ?_, ?_, ?_, ?_, ?_, ?_, ?_, ?_, ?_, ?_, ?_, ?_, ?_, ?_, ?_, ?_, ?_, trivial⟩
                                  · intro L vs A' u hW hL0 hnd K' hK
                                    have hS := hW.wi.s
                                    have r13 : A'.tmps[13]? = some (.pointer (some ⟨w.heap.size + 2, 0, none⟩)) := (hW.out 13 (fun j hj => fr_L5 j 13 hj (by kernel_rfl))).trans rfl
                                    go_simp
                                    exact hK _ _ (by first | rfl | (show _ = _; simp)) (Only.refl _ _) hS
                                  · intro L vs A' u hW hL0 hnd K' hK
                                    have hS := hW.wi.s
                                    have r104 : A'.tmps[104]? = some (.pointer (some ⟨w.heap.size + 2, 2, none⟩)) := by
                                      obtain ⟨x, e, h⟩ := hW.tel 0 104 (by decide) (hnd 0 (by kernel_rfl)) rfl
                                      rw [e]; exact congrArg some h
                                    have hc := U.cell_keep hS ha2
                                    go_simp
                                    exact hK _ _ (rfl) (Only.refl _ _) hS
                                  · intro L vs A' u hW hL0 hnd K' hK
                                    have hS := hW.wi.s
                                    have r105 : A'.tmps[105]? = some (iv (cr : Nat)) := by
                                      obtain ⟨x, e, h⟩ := hW.tel 1 105 (by decide) (hnd 1 (by kernel_rfl)) rfl
                                      rw [e]; exact congrArg some h
                                    go_simp
                                    exact hK _ _ ((by first | rfl | (show _ = _; simp; omega) | (show _ = _; simp))) (Only.refl _ _) hS
                                  · intro L vs A' u hW hL0 hnd K' hK
                                    have hS := hW.wi.s
                                    have r106 : A'.tmps[106]? = some (.bool true) := by
                                      obtain ⟨x, e, h⟩ := hW.tel 2 106 (by decide) (hnd 2 (by kernel_rfl)) rfl
                                      rw [e]; exact congrArg some h
                                    go_simp
                                    exact hK _ _ (by first | rfl | (show _ = _; simp)) (Only.refl _ _) hS
                                  · intro L vs A' u hW hL0 hnd K' hK
                                    have hS := hW.wi.s
                                    have r15 : A'.tmps[15]? = some (iv (K : Nat)) := (hW.out 15 (fun j hj => fr_L5 j 15 hj (by kernel_rfl))).trans rfl
                                    have r107 : A'.tmps[107]? = some (.bool true) := by
                                      obtain ⟨x, e, h⟩ := hW.tel 3 107 (by decide) (hnd 3 (by kernel_rfl)) rfl
                                      rw [e]; exact congrArg some h
                                    rw [if_pos (wanted_yes (j := 3) (s := 107) (b := true) rfl (by kernel_rfl) r107)]
                                    go_simp
                                    exact hK _ _ (by first | rfl | (show _ = _; simp)) (Only.refl _ _) hS
                                  · intro L vs A' u hW hL0 hnd K' hK
                                    have hS := hW.wi.s
                                    have r108 : A'.tmps[108]? = some (iv (K : Nat)) := by
                                      obtain ⟨x, e, h⟩ := hW.tel 4 108 (by decide) (hnd 4 (by kernel_rfl)) rfl
                                      rw [e]; exact congrArg some h
                                    have r107 : A'.tmps[107]? = some (.bool true) := by
                                      obtain ⟨x, e, h⟩ := hW.tel 3 107 (by decide) (hnd 3 (by kernel_rfl)) rfl
                                      rw [e]; exact congrArg some h
                                    rw [if_pos (wanted_yes (j := 3) (s := 107) (b := true) rfl (by kernel_rfl) r107)]
                                    have HCL := Lib.hid (CRk.out u)
                                    go_simp
                                    refine (HCL.out).mono ?_
                                    rintro _ u' ⟨rfl, ho'⟩
                                    exact hK _ _ (rfl) ho' (hS.trans ho')
                                  · intro L vs A' u hW hL0 hnd K' hK
                                    have hS := hW.wi.s
                                    have r9 : A'.tmps[9]? = some (.pointer (some ⟨w.heap.size, 0, none⟩)) := (hW.out 9 (fun j hj => fr_L5 j 9 hj (by kernel_rfl))).trans rfl
                                    have r107 : A'.tmps[107]? = some (.bool true) := by
                                      obtain ⟨x, e, h⟩ := hW.tel 3 107 (by decide) (hnd 3 (by kernel_rfl)) rfl
                                      rw [e]; exact congrArg some h
                                    rw [if_pos (wanted_yes (j := 3) (s := 107) (b := true) rfl (by kernel_rfl) r107)]
                                    go_simp
                                    exact hK _ _ (by first | rfl | (show _ = _; simp)) (Only.refl _ _) hS
                                  · intro L vs A' u hW hL0 hnd K' hK
                                    have hS := hW.wi.s
                                    have r110 : A'.tmps[110]? = some (.pointer (some ⟨w.heap.size, 0, none⟩)) := by
                                      obtain ⟨x, e, h⟩ := hW.tel 6 110 (by decide) (hnd 6 (by kernel_rfl)) rfl
                                      rw [e]; exact congrArg some h
                                    have r107 : A'.tmps[107]? = some (.bool true) := by
                                      obtain ⟨x, e, h⟩ := hW.tel 3 107 (by decide) (hnd 3 (by kernel_rfl)) rfl
                                      rw [e]; exact congrArg some h
                                    rw [if_pos (wanted_yes (j := 3) (s := 107) (b := true) rfl (by kernel_rfl) r107)]
                                    have hc := U.cell_keep hS q0
                                    go_simp
                                    exact hK _ _ (rfl) (Only.refl _ _) hS
                                  · intro L vs A' u hW hL0 hnd K' hK
                                    have hS := hW.wi.s
                                    have r109 : A'.tmps[109]? = some (iv rr) := by
                                      obtain ⟨x, e, h⟩ := hW.tel 5 109 (by decide) (hnd 5 (by kernel_rfl)) rfl
                                      rw [e]; exact congrArg some h
                                    have r111 : A'.tmps[111]? = some (iv rate) := by
                                      obtain ⟨x, e, h⟩ := hW.tel 7 111 (by decide) (hnd 7 (by kernel_rfl)) rfl
                                      rw [e]; exact congrArg some h
                                    have r107 : A'.tmps[107]? = some (.bool true) := by
                                      obtain ⟨x, e, h⟩ := hW.tel 3 107 (by decide) (hnd 3 (by kernel_rfl)) rfl
                                      rw [e]; exact congrArg some h
                                    rw [if_pos (wanted_yes (j := 3) (s := 107) (b := true) rfl (by kernel_rfl) r107)]
                                    go_simp
                                    exact hK _ _ ((by first | rfl | (show _ = _; simp; omega) | (show _ = _; simp))) (Only.refl _ _) hS
                                  · intro L vs A' u hW hL0 hnd K' hK
                                    have hS := hW.wi.s
                                    have r112 : A'.tmps[112]? = some (.bool false) := by
                                      obtain ⟨x, e, h⟩ := hW.tel 8 112 (by decide) (hnd 8 (by kernel_rfl)) rfl
                                      rw [e]; exact congrArg some h
                                    have r107 : A'.tmps[107]? = some (.bool true) := by
                                      obtain ⟨x, e, h⟩ := hW.tel 3 107 (by decide) (hnd 3 (by kernel_rfl)) rfl
                                      rw [e]; exact congrArg some h
                                    rw [if_pos (wanted_yes (j := 3) (s := 107) (b := true) rfl (by kernel_rfl) r107)]
                                    go_simp
                                    exact hK _ _ (by first | rfl | (show _ = _; simp)) (Only.refl _ _) hS
                                  · intro L vs A' u hW hL0 hnd K' hK
                                    have hS := hW.wi.s
                                    have r15 : A'.tmps[15]? = some (iv (K : Nat)) := (hW.out 15 (fun j hj => fr_L5 j 15 hj (by kernel_rfl))).trans rfl
                                    have r113 : A'.tmps[113]? = some (.bool false) := by
                                      obtain ⟨x, e, h⟩ := hW.tel 9 113 (by decide) (hnd 9 (by kernel_rfl)) rfl
                                      rw [e]; exact congrArg some h
                                    rw [if_pos (wanted_yes (j := 9) (s := 113) (b := false) rfl (by kernel_rfl) r113)]
                                    go_simp
                                    exact hK _ _ (by first | rfl | (show _ = _; simp)) (Only.refl _ _) hS
                                  · intro L vs A' u hW hL0 hnd K' hK
                                    have hS := hW.wi.s
                                    have r114 : A'.tmps[114]? = some (iv (K : Nat)) := by
                                      obtain ⟨x, e, h⟩ := hW.tel 10 114 (by decide) (hnd 10 (by kernel_rfl)) rfl
                                      rw [e]; exact congrArg some h
                                    have r113 : A'.tmps[113]? = some (.bool false) := by
                                      obtain ⟨x, e, h⟩ := hW.tel 9 113 (by decide) (hnd 9 (by kernel_rfl)) rfl
                                      rw [e]; exact congrArg some h
                                    rw [if_pos (wanted_yes (j := 9) (s := 113) (b := false) rfl (by kernel_rfl) r113)]
                                    go_simp
                                    exact hK _ _ ((by first | rfl | (show _ = _; simp; omega) | (show _ = _; simp))) (Only.refl _ _) hS
                                  · intro L vs A' u hW hL0 hnd K' hK
                                    have hS := hW.wi.s
                                    have r115 : A'.tmps[115]? = some (.bool true) := by
                                      obtain ⟨x, e, h⟩ := hW.tel 11 115 (by decide) (hnd 11 (by kernel_rfl)) rfl
                                      rw [e]; exact congrArg some h
                                    have r113 : A'.tmps[113]? = some (.bool false) := by
                                      obtain ⟨x, e, h⟩ := hW.tel 9 113 (by decide) (hnd 9 (by kernel_rfl)) rfl
                                      rw [e]; exact congrArg some h
                                    rw [if_pos (wanted_yes (j := 9) (s := 113) (b := false) rfl (by kernel_rfl) r113)]
                                    go_simp
                                    exact hK _ _ (by first | rfl | (show _ = _; simp)) (Only.refl _ _) hS
                                  · intro L vs A' u hW hL0 hnd K' hK
                                    have hS := hW.wi.s
                                    have r9 : A'.tmps[9]? = some (.pointer (some ⟨w.heap.size, 0, none⟩)) := (hW.out 9 (fun j hj => fr_L5 j 9 hj (by kernel_rfl))).trans rfl
                                    have r116 : A'.tmps[116]? = some (.bool true) := by
                                      obtain ⟨x, e, h⟩ := hW.tel 12 116 (by decide) (hnd 12 (by kernel_rfl)) rfl
                                      rw [e]; exact congrArg some h
                                    rw [if_pos (wanted_yes (j := 12) (s := 116) (b := true) rfl (by kernel_rfl) r116)]
                                    go_simp
                                    exact hK _ _ (by first | rfl | (show _ = _; simp)) (Only.refl _ _) hS
                                  · intro L vs A' u hW hL0 hnd K' hK
                                    have hS := hW.wi.s
                                    have r117 : A'.tmps[117]? = some (.pointer (some ⟨w.heap.size, 0, none⟩)) := by
                                      obtain ⟨x, e, h⟩ := hW.tel 13 117 (by decide) (hnd 13 (by kernel_rfl)) rfl
                                      rw [e]; exact congrArg some h
                                    have r116 : A'.tmps[116]? = some (.bool true) := by
                                      obtain ⟨x, e, h⟩ := hW.tel 12 116 (by decide) (hnd 12 (by kernel_rfl)) rfl
                                      rw [e]; exact congrArg some h
                                    rw [if_pos (wanted_yes (j := 12) (s := 116) (b := true) rfl (by kernel_rfl) r116)]
                                    have hc := U.cell_keep hS q0
                                    go_simp
                                    exact hK _ _ (rfl) (Only.refl _ _) hS
                                  · intro L vs A' u hW hL0 hnd K' hK
                                    have hS := hW.wi.s
                                    have r15 : A'.tmps[15]? = some (iv (K : Nat)) := (hW.out 15 (fun j hj => fr_L5 j 15 hj (by kernel_rfl))).trans rfl
                                    have r116 : A'.tmps[116]? = some (.bool true) := by
                                      obtain ⟨x, e, h⟩ := hW.tel 12 116 (by decide) (hnd 12 (by kernel_rfl)) rfl
                                      rw [e]; exact congrArg some h
                                    rw [if_pos (wanted_yes (j := 12) (s := 116) (b := true) rfl (by kernel_rfl) r116)]
                                    go_simp
                                    exact hK _ _ (by first | rfl | (show _ = _; simp)) (Only.refl _ _) hS
                                  · intro L vs A' u hW hL0 hnd K' hK
                                    have hS := hW.wi.s
                                    have r119 : A'.tmps[119]? = some (iv (K : Nat)) := by
                                      obtain ⟨x, e, h⟩ := hW.tel 15 119 (by decide) (hnd 15 (by kernel_rfl)) rfl
                                      rw [e]; exact congrArg some h
                                    have r116 : A'.tmps[116]? = some (.bool true) := by
                                      obtain ⟨x, e, h⟩ := hW.tel 12 116 (by decide) (hnd 12 (by kernel_rfl)) rfl
                                      rw [e]; exact congrArg some h
                                    rw [if_pos (wanted_yes (j := 12) (s := 116) (b := true) rfl (by kernel_rfl) r116)]
                                    have HCL := Lib.hid (CUk.out u)
                                    go_simp
                                    refine (HCL.out).mono ?_
                                    rintro _ u' ⟨rfl, rfl⟩
                                    exact hK _ _ (rfl) (Only.refl _ _) hS
                                  · intro L vs A' u hW hL0 hnd K' hK
                                    have hS := hW.wi.s
                                    have r118 : A'.tmps[118]? = some (iv rate) := by
                                      obtain ⟨x, e, h⟩ := hW.tel 14 118 (by decide) (hnd 14 (by kernel_rfl)) rfl
                                      rw [e]; exact congrArg some h
                                    have r120 : A'.tmps[120]? = some (iv Un) := by
                                      obtain ⟨x, e, h⟩ := hW.tel 16 120 (by decide) (hnd 16 (by kernel_rfl)) rfl
                                      rw [e]; exact congrArg some h
                                    have r116 : A'.tmps[116]? = some (.bool true) := by
                                      obtain ⟨x, e, h⟩ := hW.tel 12 116 (by decide) (hnd 12 (by kernel_rfl)) rfl
                                      rw [e]; exact congrArg some h
                                    rw [if_pos (wanted_yes (j := 12) (s := 116) (b := true) rfl (by kernel_rfl) r116)]
                                    go_simp
                                    exact hK _ _ ((by first | rfl | (show _ = _; simp; omega) | (show _ = _; simp))) (Only.refl _ _) hS
                                  · intro L vs A' u hW hL0 hnd K' hK
                                    have hS := hW.wi.s
                                    have r121 : A'.tmps[121]? = some (iv Rm) := by
                                      obtain ⟨x, e, h⟩ := hW.tel 17 121 (by decide) (hnd 17 (by kernel_rfl)) rfl
                                      rw [e]; exact congrArg some h
                                    have r116 : A'.tmps[116]? = some (.bool true) := by
                                      obtain ⟨x, e, h⟩ := hW.tel 12 116 (by decide) (hnd 12 (by kernel_rfl)) rfl
                                      rw [e]; exact congrArg some h
                                    rw [if_pos (wanted_yes (j := 12) (s := 116) (b := true) rfl (by kernel_rfl) r116)]
                                    go_simp
                                    exact hK _ _ ((by first | rfl | (show _ = _; simp; omega) | (show _ = _; simp))) (Only.refl _ _) hS
                                  · intro L vs A' u hW hL0 hnd K' hK
                                    have hS := hW.wi.s
                                    have r116 : A'.tmps[116]? = some (.bool true) := by
                                      obtain ⟨x, e, h⟩ := hW.tel 12 116 (by decide) (hnd 12 (by kernel_rfl)) rfl
                                      rw [e]; exact congrArg some h
                                    have r122 : A'.tmps[122]? = some (.bool true) := by
                                      obtain ⟨x, e, h⟩ := hW.tel 18 122 (by decide) (hnd 18 (by kernel_rfl)) rfl
                                      rw [e]; exact congrArg some h
                                    have r113 : A'.tmps[113]? = some (.bool false) := by
                                      obtain ⟨x, e, h⟩ := hW.tel 9 113 (by decide) (hnd 9 (by kernel_rfl)) rfl
                                      rw [e]; exact congrArg some h
                                    rw [if_pos (wanted_yes (j := 9) (s := 113) (b := false) rfl (by kernel_rfl) r113)]
                                    go_simp
                                    exact hK _ _ (by first | rfl | (show _ = _; simp)) (Only.refl _ _) hS
                                  · intro L vs A' u hW hL0 hnd K' hK
                                    have hS := hW.wi.s
                                    have r123 : A'.tmps[123]? = some (.bool true) := by
                                      obtain ⟨x, e, h⟩ := hW.tel 19 123 (by decide) (hnd 19 (by kernel_rfl)) rfl
                                      rw [e]; exact congrArg some h
                                    have r113 : A'.tmps[113]? = some (.bool false) := by
                                      obtain ⟨x, e, h⟩ := hW.tel 9 113 (by decide) (hnd 9 (by kernel_rfl)) rfl
                                      rw [e]; exact congrArg some h
                                    rw [if_pos (wanted_yes (j := 9) (s := 113) (b := false) rfl (by kernel_rfl) r113)]
                                    go_simp
                                    exact hK _ _ (by first | rfl | (show _ = _; simp)) (Only.refl _ _) hS
                                  · intro L vs A' u hW hL0 hnd K' hK
                                    have hS := hW.wi.s
                                    have r9 : A'.tmps[9]? = some (.pointer (some ⟨w.heap.size, 0, none⟩)) := (hW.out 9 (fun j hj => fr_L5 j 9 hj (by kernel_rfl))).trans rfl
                                    have r124 : A'.tmps[124]? = some (.bool true) := by
                                      obtain ⟨x, e, h⟩ := hW.tel 20 124 (by decide) (hnd 20 (by kernel_rfl)) rfl
                                      rw [e]; exact congrArg some h
                                    rw [if_pos (wanted_yes (j := 20) (s := 124) (b := true) rfl (by kernel_rfl) r124)]
                                    go_simp
                                    exact hK _ _ (by first | rfl | (show _ = _; simp)) (Only.refl _ _) hS
                                  · intro L vs A' u hW hL0 hnd K' hK
                                    have hS := hW.wi.s
                                    have r125 : A'.tmps[125]? = some (.pointer (some ⟨w.heap.size, 0, none⟩)) := by
                                      obtain ⟨x, e, h⟩ := hW.tel 21 125 (by decide) (hnd 21 (by kernel_rfl)) rfl
                                      rw [e]; exact congrArg some h
                                    have r124 : A'.tmps[124]? = some (.bool true) := by
                                      obtain ⟨x, e, h⟩ := hW.tel 20 124 (by decide) (hnd 20 (by kernel_rfl)) rfl
                                      rw [e]; exact congrArg some h
                                    rw [if_pos (wanted_yes (j := 20) (s := 124) (b := true) rfl (by kernel_rfl) r124)]
                                    have hc := U.cell_keep hS q0
                                    go_simp
                                    exact hK _ _ (rfl) (Only.refl _ _) hS
                                  · intro L vs A' u hW hL0 hnd K' hK
                                    have hS := hW.wi.s
                                    have r15 : A'.tmps[15]? = some (iv (K : Nat)) := (hW.out 15 (fun j hj => fr_L5 j 15 hj (by kernel_rfl))).trans rfl
                                    have r124 : A'.tmps[124]? = some (.bool true) := by
                                      obtain ⟨x, e, h⟩ := hW.tel 20 124 (by decide) (hnd 20 (by kernel_rfl)) rfl
                                      rw [e]; exact congrArg some h
                                    rw [if_pos (wanted_yes (j := 20) (s := 124) (b := true) rfl (by kernel_rfl) r124)]
                                    go_simp
                                    exact hK _ _ (by first | rfl | (show _ = _; simp)) (Only.refl _ _) hS
                                  · intro L vs A' u hW hL0 hnd K' hK
                                    have hS := hW.wi.s
                                    have r127 : A'.tmps[127]? = some (iv (K : Nat)) := by
                                      obtain ⟨x, e, h⟩ := hW.tel 23 127 (by decide) (hnd 23 (by kernel_rfl)) rfl
                                      rw [e]; exact congrArg some h
                                    have r124 : A'.tmps[124]? = some (.bool true) := by
                                      obtain ⟨x, e, h⟩ := hW.tel 20 124 (by decide) (hnd 20 (by kernel_rfl)) rfl
                                      rw [e]; exact congrArg some h
                                    rw [if_pos (wanted_yes (j := 20) (s := 124) (b := true) rfl (by kernel_rfl) r124)]
                                    have HCL := Lib.hid (CUk.out u)
                                    go_simp
                                    refine (HCL.out).mono ?_
                                    rintro _ u' ⟨rfl, rfl⟩
                                    exact hK _ _ (rfl) (Only.refl _ _) hS
                                  · intro L vs A' u hW hL0 hnd K' hK
                                    have hS := hW.wi.s
                                    have r126 : A'.tmps[126]? = some (iv rate) := by
                                      obtain ⟨x, e, h⟩ := hW.tel 22 126 (by decide) (hnd 22 (by kernel_rfl)) rfl
                                      rw [e]; exact congrArg some h
                                    have r128 : A'.tmps[128]? = some (iv Un) := by
                                      obtain ⟨x, e, h⟩ := hW.tel 24 128 (by decide) (hnd 24 (by kernel_rfl)) rfl
                                      rw [e]; exact congrArg some h
                                    have r124 : A'.tmps[124]? = some (.bool true) := by
                                      obtain ⟨x, e, h⟩ := hW.tel 20 124 (by decide) (hnd 20 (by kernel_rfl)) rfl
                                      rw [e]; exact congrArg some h
                                    rw [if_pos (wanted_yes (j := 20) (s := 124) (b := true) rfl (by kernel_rfl) r124)]
                                    go_simp
                                    exact hK _ _ ((by first | rfl | (show _ = _; simp; omega) | (show _ = _; simp))) (Only.refl _ _) hS
                                  · intro L vs A' u hW hL0 hnd K' hK
                                    have hS := hW.wi.s
                                    have r16 : A'.tmps[16]? = some (iv Tp) := (hW.out 16 (fun j hj => fr_L5 j 16 hj (by kernel_rfl))).trans rfl
                                    have r124 : A'.tmps[124]? = some (.bool true) := by
                                      obtain ⟨x, e, h⟩ := hW.tel 20 124 (by decide) (hnd 20 (by kernel_rfl)) rfl
                                      rw [e]; exact congrArg some h
                                    rw [if_pos (wanted_yes (j := 20) (s := 124) (b := true) rfl (by kernel_rfl) r124)]
                                    go_simp
                                    exact hK _ _ (by first | rfl | (show _ = _; simp)) (Only.refl _ _) hS
                                  · intro L vs A' u hW hL0 hnd K' hK
                                    have hS := hW.wi.s
                                    have r129 : A'.tmps[129]? = some (iv Qt) := by
                                      obtain ⟨x, e, h⟩ := hW.tel 25 129 (by decide) (hnd 25 (by kernel_rfl)) rfl
                                      rw [e]; exact congrArg some h
                                    have r130 : A'.tmps[130]? = some (iv Tp) := by
                                      obtain ⟨x, e, h⟩ := hW.tel 26 130 (by decide) (hnd 26 (by kernel_rfl)) rfl
                                      rw [e]; exact congrArg some h
                                    have r124 : A'.tmps[124]? = some (.bool true) := by
                                      obtain ⟨x, e, h⟩ := hW.tel 20 124 (by decide) (hnd 20 (by kernel_rfl)) rfl
                                      rw [e]; exact congrArg some h
                                    rw [if_pos (wanted_yes (j := 20) (s := 124) (b := true) rfl (by kernel_rfl) r124)]
                                    go_simp
                                    exact hK _ _ ((by first | rfl | (show _ = _; simp; omega) | (show _ = _; simp))) (Only.refl _ _) hS
                                  · intro L vs A' u hW hL0 hnd K' hK
                                    have hS := hW.wi.s
                                    have r124 : A'.tmps[124]? = some (.bool true) := by
                                      obtain ⟨x, e, h⟩ := hW.tel 20 124 (by decide) (hnd 20 (by kernel_rfl)) rfl
                                      rw [e]; exact congrArg some h
                                    have r131 : A'.tmps[131]? = some (.bool true) := by
                                      obtain ⟨x, e, h⟩ := hW.tel 27 131 (by decide) (hnd 27 (by kernel_rfl)) rfl
                                      rw [e]; exact congrArg some h
                                    have r113 : A'.tmps[113]? = some (.bool false) := by
                                      obtain ⟨x, e, h⟩ := hW.tel 9 113 (by decide) (hnd 9 (by kernel_rfl)) rfl
                                      rw [e]; exact congrArg some h
                                    rw [if_pos (wanted_yes (j := 9) (s := 113) (b := false) rfl (by kernel_rfl) r113)]
                                    go_simp
                                    exact hK _ _ (by first | rfl | (show _ = _; simp)) (Only.refl _ _) hS
                                  · intro L vs A' u hW hL0 hnd K' hK
                                    have hS := hW.wi.s
                                    have r113 : A'.tmps[113]? = some (.bool false) := by
                                      obtain ⟨x, e, h⟩ := hW.tel 9 113 (by decide) (hnd 9 (by kernel_rfl)) rfl
                                      rw [e]; exact congrArg some h
                                    have r132 : A'.tmps[132]? = some (.bool true) := by
                                      obtain ⟨x, e, h⟩ := hW.tel 28 132 (by decide) (hnd 28 (by kernel_rfl)) rfl
                                      rw [e]; exact congrArg some h
                                    have r107 : A'.tmps[107]? = some (.bool true) := by
                                      obtain ⟨x, e, h⟩ := hW.tel 3 107 (by decide) (hnd 3 (by kernel_rfl)) rfl
                                      rw [e]; exact congrArg some h
                                    rw [if_pos (wanted_yes (j := 3) (s := 107) (b := true) rfl (by kernel_rfl) r107)]
                                    go_simp
                                    exact hK _ _ (by first | rfl | (show _ = _; simp)) (Only.refl _ _) hS
                                  · intro L vs A' u hW hL0 hnd K' hK
                                    have hS := hW.wi.s
                                    have r107 : A'.tmps[107]? = some (.bool true) := by
                                      obtain ⟨x, e, h⟩ := hW.tel 3 107 (by decide) (hnd 3 (by kernel_rfl)) rfl
                                      rw [e]; exact congrArg some h
                                    have r133 : A'.tmps[133]? = some (.bool true) := by
                                      obtain ⟨x, e, h⟩ := hW.tel 29 133 (by decide) (hnd 29 (by kernel_rfl)) rfl
                                      rw [e]; exact congrArg some h
                                    go_simp
                                    exact hK _ _ (by first | rfl | (show _ = _; simp)) (Only.refl _ _) hS
                                case doneL5 =>
                                  intro L vs v1 hS hP hall
                                  have e30 : vs 30 = .bool true := hP 30 (by decide)
                                  have hbx := HB.out.only hS (fun e => e)
                                  have P3 := Lib.hid (P2.out.only hS (fun e => e))
                                  have R3 := Lib.hid (R2.out.only hS (fun e => e))
                                  have O3 := Lib.hid (O2.out.trans hS)
                                  have HB1 := Lib.hid hbx
                                  have hd2 : v1.cell? ⟨w.heap.size + 2, 2, none⟩ = some (iv (cr : Nat)) := hbx.cell 2
                                  have hd7 : v1.cell? ⟨w.heap.size + 2, 7, none⟩ = some (iv ct) := hbx.cell 7
                                  have hg2 := hbx.frozen 2
                                  have hg7 := hbx.frozen 7
                                  have r0 : v1.cell? ⟨w.heap.size, 0, none⟩ = some (iv rate) := P3.out.cell 0
                                  clear hS hP hall fr_L5 ha2 ha7 hf2 hf7 q0 hbx
                                  simp only [putV, List.foldl_cons, List.foldl_nil, List.setIfInBounds_toArray, List.set_cons_zero, List.set_cons_succ]
                                  rw [e30]
                                  clear e30
                                  generalize vs 0 = y0, vs 1 = y1, vs 2 = y2, vs 3 = y3, vs 4 = y4, vs 5 = y5, vs 6 = y6, vs 7 = y7, vs 8 = y8, vs 9 = y9, vs 10 = y10, vs 11 = y11, vs 12 = y12, vs 13 = y13, vs 14 = y14, vs 15 = y15, vs 16 = y16, vs 17 = y17, vs 18 = y18, vs 19 = y19, vs 20 = y20, vs 21 = y21, vs 22 = y22, vs 23 = y23, vs 24 = y24, vs 25 = y25, vs 26 = y26, vs 27 = y27, vs 28 = y28, vs 29 = y29
                                  go_wp2
                                  go_roundw
                                  case rel => exact ⟨⟨K, by omega, by go_num, by rw [HNx.out]; exact (HB1.out.put 2 (iv (K : Nat))).put 7 (iv rate)⟩, (P3.out.off (by show w.heap.size ≠ w.heap.size + 2; omega) _).off (by show w.heap.size ≠ w.heap.size + 2; omega) _, (R3.out.off (by show w.heap.size + 1 ≠ w.heap.size + 2; omega) _).off (by show w.heap.size + 1 ≠ w.heap.size + 2; omega) _, (O3.out.setCell (.inr (by show w.heap.size ≤ w.heap.size + 2; omega)) _).setCell (.inr (by show w.heap.size ≤ w.heap.size + 2; omega)) _⟩
                                  case measure => simp [intOf]; omega
                              · have HNx : Hid (rrS rate K = (cr, ct)) := Lib.hid (by rw [HSt.out, if_neg]; rintro ⟨h1, h2⟩; rcases HTel.out.1 h2 with h | ⟨_, _, h⟩; exact g2 h; exact g5 h)
                                have g5b : decide (Qt ≤ Tp) = false := decide_eq_false g5
                                clear g1 g2 g3 g4 g5
                                go_wp2
                                have fr_L6 : ∀ j s, j < 31 → (([some 104, some 105, some 106, some 107, some 108, some 109, some 110, some 111, some 112, some 113, some 114, some 115, some 116, some 117, some 118, some 119, some 120, some 121, some 122, some 123, some 124, some 125, some 126, some 127, some 128, some 129, some 130, some 131, some 132, some 133, some 134] : List (Option Nat)).all fun d => d != some s) = true → ([some 104, some 105, some 106, some 107, some 108, some 109, some 110, some 111, some 112, some 113, some 114, some 115, some 116, some 117, some 118, some 119, some 120, some 121, some 122, some 123, some 124, some 125, some 126, some 127, some 128, some 129, some 130, some 131, some 132, some 133, some 134] : List (Option Nat)).getD j none ≠ some s := by
                                  intro j s hj ha e
                                  rw [List.getD_eq_getElem?_getD, List.getElem?_eq_getElem (by exact hj), Option.getD_some] at e
                                  have := List.all_eq_true.1 ha _ (List.getElem_mem (by exact hj))
                                  rw [e] at this
                                  simp at this
                                refine region_tel (by kernel_rfl) (fun k0 => ([some 104, some 105, some 106, some 107, some 108, some 109, some 110, some 111, some 112, some 113, some 114, some 115, some 116, some 117, some 118, some 119, some 120, some 121, some 122, some 123, some 124, some 125, some 126, some 127, some 128, some 129, some 130, some 131, some 132, some 133, some 134] : List (Option Nat)).getD k0 none) (PL [eqP (.pointer (some ⟨w.heap.size + 2, 2, none⟩)), eqP (iv (cr : Nat)), eqP (.bool true), eqP (.bool true), eqP (iv (K : Nat)), eqP (iv rr), eqP (.pointer (some ⟨w.heap.size, 0, none⟩)), eqP (iv rate), eqP (.bool false), eqP (.bool false), eqP (iv (K : Nat)), eqP (.bool true), eqP (.bool true), eqP (.pointer (some ⟨w.heap.size, 0, none⟩)), eqP (iv rate), eqP (iv (K : Nat)), eqP (iv Un), eqP (iv Rm), eqP (.bool true), eqP (.bool true), eqP (.bool true), eqP (.pointer (some ⟨w.heap.size, 0, none⟩)), eqP (iv rate), eqP (iv (K : Nat)), eqP (iv Un), eqP (iv Qt), eqP (iv Tp), eqP (.bool false), eqP (.bool false), eqP (.bool false), eqP (.bool false)]) (fun u u' => Only Nix u u') (fun _ u => Only Nix (wr) u) 155 31 rfl (by kernel_rfl) (by kernel_rfl) rfl (by kernel_rfl) (by kernel_rfl) (stab_all ⟨fun _ _ _ h _ => h, fun _ _ _ h _ => h, fun _ _ _ h _ => h, fun _ _ _ h _ => h, fun _ _ _ h _ => h, fun _ _ _ h _ => h, fun _ _ _ h _ => h, fun _ _ _ h _ => h, fun _ _ _ h _ => h, fun _ _ _ h _ => h, fun _ _ _ h _ => h, fun _ _ _ h _ => h, fun _ _ _ h _ => h, fun _ _ _ h _ => h, fun _ _ _ h _ => h, fun _ _ _ h _ => h, fun _ _ _ h _ => h, fun _ _ _ h _ => h, fun _ _ _ h _ => h, fun _ _ _ h _ => h, fun _ _ _ h _ => h, fun _ _ _ h _ => h, fun _ _ _ h _ => h, fun _ _ _ h _ => h, fun _ _ _ h _ => h, fun _ _ _ h _ => h, fun _ _ _ h _ => h, fun _ _ _ h _ => h, fun _ _ _ h _ => h, fun _ _ _ h _ => h, fun _ _ _ h _ => h, trivial⟩) ((Only.refl _ _).drew) ?stepsL6 (fun vs => [(104, vs 0), (105, vs 1), (106, vs 2), (107, vs 3), (108, vs 4), (109, vs 5), (110, vs 6), (111, vs 7), (112, vs 8), (113, vs 9), (114, vs 10), (115, vs 11), (116, vs 12), (117, vs 13), (118, vs 14), (119, vs 15), (120, vs 16), (121, vs 17), (122, vs 18), (123, vs 19), (124, vs 20), (125, vs 21), (126, vs 22), (127, vs 23), (128, vs 24), (129, vs 25), (130, vs 26), (131, vs 27), (132, vs 28), (133, vs 29), (134, vs 30)]) (fun vs => rfl) ?doneL6
                                case stepsL6 =>
                                  refine ⟨?_, ?_, ?_, ?_, ?_, ?_, ?_, ?_, ?_, ?_, ?_, ?_, ?_, ?_, ?_, ?_, ?_, ?_, ?_, ?_, ?_, ?_, ?_, ?_, ?_, ?_, ?_, ?_, ?_, ?_, ?_, trivial⟩
                                  · intro L vs A' u hW hL0 hnd K' hK
                                    have hS := hW.wi.s
                                    have r13 : A'.tmps[13]? = some (.pointer (some ⟨w.heap.size + 2, 0, none⟩)) := (hW.out 13 (fun j hj => fr_L6 j 13 hj (by kernel_rfl))).trans rfl
                                    go_simp
                                    exact hK _ _ (by first | rfl | (show _ = _; simp)) (Only.refl _ _) hS
                                  · intro L vs A' u hW hL0 hnd K' hK
                                    have hS := hW.wi.s
                                    have r104 : A'.tmps[104]? = some (.pointer (some ⟨w.heap.size + 2, 2, none⟩)) := by
                                      obtain ⟨x, e, h⟩ := hW.tel 0 104 (by decide) (hnd 0 (by kernel_rfl)) rfl
                                      rw [e]; exact congrArg some h
                                    have hc := U.cell_keep hS ha2
                                    go_simp
                                    exact hK _ _ (rfl) (Only.refl _ _) hS
                                  · intro L vs A' u hW hL0 hnd K' hK
                                    have hS := hW.wi.s
                                    have r105 : A'.tmps[105]? = some (iv (cr : Nat)) := by
                                      obtain ⟨x, e, h⟩ := hW.tel 1 105 (by decide) (hnd 1 (by kernel_rfl)) rfl
                                      rw [e]; exact congrArg some h
                                    go_simp
                                    exact hK _ _ ((by first | rfl | (show _ = _; simp; omega) | (show _ = _; simp))) (Only.refl _ _) hS
                                  · intro L vs A' u hW hL0 hnd K' hK
                                    have hS := hW.wi.s
                                    have r106 : A'.tmps[106]? = some (.bool true) := by
                                      obtain ⟨x, e, h⟩ := hW.tel 2 106 (by decide) (hnd 2 (by kernel_rfl)) rfl
                                      rw [e]; exact congrArg some h
                                    go_simp
                                    exact hK _ _ (by first | rfl | (show _ = _; simp)) (Only.refl _ _) hS
                                  · intro L vs A' u hW hL0 hnd K' hK
                                    have hS := hW.wi.s
                                    have r15 : A'.tmps[15]? = some (iv (K : Nat)) := (hW.out 15 (fun j hj => fr_L6 j 15 hj (by kernel_rfl))).trans rfl
                                    have r107 : A'.tmps[107]? = some (.bool true) := by
                                      obtain ⟨x, e, h⟩ := hW.tel 3 107 (by decide) (hnd 3 (by kernel_rfl)) rfl
                                      rw [e]; exact congrArg some h
                                    rw [if_pos (wanted_yes (j := 3) (s := 107) (b := true) rfl (by kernel_rfl) r107)]
                                    go_simp
                                    exact hK _ _ (by first | rfl | (show _ = _; simp)) (Only.refl _ _) hS
                                  · intro L vs A' u hW hL0 hnd K' hK
                                    have hS := hW.wi.s
                                    have r108 : A'.tmps[108]? = some (iv (K : Nat)) := by
                                      obtain ⟨x, e, h⟩ := hW.tel 4 108 (by decide) (hnd 4 (by kernel_rfl)) rfl
                                      rw [e]; exact congrArg some h
                                    have r107 : A'.tmps[107]? = some (.bool true) := by
                                      obtain ⟨x, e, h⟩ := hW.tel 3 107 (by decide) (hnd 3 (by kernel_rfl)) rfl
                                      rw [e]; exact congrArg some h
                                    rw [if_pos (wanted_yes (j := 3) (s := 107) (b := true) rfl (by kernel_rfl) r107)]
                                    have HCL := Lib.hid (CRk.out u)
                                    go_simp
                                    refine (HCL.out).mono ?_
                                    rintro _ u' ⟨rfl, ho'⟩
                                    exact hK _ _ (rfl) ho' (hS.trans ho')
                                  · intro L vs A' u hW hL0 hnd K' hK
                                    have hS := hW.wi.s
                                    have r9 : A'.tmps[9]? = some (.pointer (some ⟨w.heap.size, 0, none⟩)) := (hW.out 9 (fun j hj => fr_L6 j 9 hj (by kernel_rfl))).trans rfl
                                    have r107 : A'.tmps[107]? = some (.bool true) := by
                                      obtain ⟨x, e, h⟩ := hW.tel 3 107 (by decide) (hnd 3 (by kernel_rfl)) rfl
                                      rw [e]; exact congrArg some h
                                    rw [if_pos (wanted_yes (j := 3) (s := 107) (b := true) rfl (by kernel_rfl) r107)]
                                    go_simp
                                    exact hK _ _ (by first | rfl | (show _ = _; simp)) (Only.refl _ _) hS
                                  · intro L vs A' u hW hL0 hnd K' hK
                                    have hS := hW.wi.s
                                    have r110 : A'.tmps[110]? = some (.pointer (some ⟨w.heap.size, 0, none⟩)) := by
                                      obtain ⟨x, e, h⟩ := hW.tel 6 110 (by decide) (hnd 6 (by kernel_rfl)) rfl
                                      rw [e]; exact congrArg some h
                                    have r107 : A'.tmps[107]? = some (.bool true) := by
                                      obtain ⟨x, e, h⟩ := hW.tel 3 107 (by decide) (hnd 3 (by kernel_rfl)) rfl
                                      rw [e]; exact congrArg some h
                                    rw [if_pos (wanted_yes (j := 3) (s := 107) (b := true) rfl (by kernel_rfl) r107)]
                                    have hc := U.cell_keep hS q0
                                    go_simp
                                    exact hK _ _ (rfl) (Only.refl _ _) hS
                                  · intro L vs A' u hW hL0 hnd K' hK
                                    have hS := hW.wi.s
                                    have r109 : A'.tmps[109]? = some (iv rr) := by
                                      obtain ⟨x, e, h⟩ := hW.tel 5 109 (by decide) (hnd 5 (by kernel_rfl)) rfl
                                      rw [e]; exact congrArg some h
                                    have r111 : A'.tmps[111]? = some (iv rate) := by
                                      obtain ⟨x, e, h⟩ := hW.tel 7 111 (by decide) (hnd 7 (by kernel_rfl)) rfl
                                      rw [e]; exact congrArg some h
                                    have r107 : A'.tmps[107]? = some (.bool true) := by
                                      obtain ⟨x, e, h⟩ := hW.tel 3 107 (by decide) (hnd 3 (by kernel_rfl)) rfl
                                      rw [e]; exact congrArg some h
                                    rw [if_pos (wanted_yes (j := 3) (s := 107) (b := true) rfl (by kernel_rfl) r107)]
                                    go_simp
                                    exact hK _ _ ((by first | rfl | (show _ = _; simp; omega) | (show _ = _; simp))) (Only.refl _ _) hS
                                  · intro L vs A' u hW hL0 hnd K' hK
                                    have hS := hW.wi.s
                                    have r112 : A'.tmps[112]? = some (.bool false) := by
                                      obtain ⟨x, e, h⟩ := hW.tel 8 112 (by decide) (hnd 8 (by kernel_rfl)) rfl
                                      rw [e]; exact congrArg some h
                                    have r107 : A'.tmps[107]? = some (.bool true) := by
                                      obtain ⟨x, e, h⟩ := hW.tel 3 107 (by decide) (hnd 3 (by kernel_rfl)) rfl
                                      rw [e]; exact congrArg some h
                                    rw [if_pos (wanted_yes (j := 3) (s := 107) (b := true) rfl (by kernel_rfl) r107)]
                                    go_simp
                                    exact hK _ _ (by first | rfl | (show _ = _; simp)) (Only.refl _ _) hS
                                  · intro L vs A' u hW hL0 hnd K' hK
                                    have hS := hW.wi.s
                                    have r15 : A'.tmps[15]? = some (iv (K : Nat)) := (hW.out 15 (fun j hj => fr_L6 j 15 hj (by kernel_rfl))).trans rfl
                                    have r113 : A'.tmps[113]? = some (.bool false) := by
                                      obtain ⟨x, e, h⟩ := hW.tel 9 113 (by decide) (hnd 9 (by kernel_rfl)) rfl
                                      rw [e]; exact congrArg some h
                                    rw [if_pos (wanted_yes (j := 9) (s := 113) (b := false) rfl (by kernel_rfl) r113)]
                                    go_simp
                                    exact hK _ _ (by first | rfl | (show _ = _; simp)) (Only.refl _ _) hS
                                  · intro L vs A' u hW hL0 hnd K' hK
                                    have hS := hW.wi.s
                                    have r114 : A'.tmps[114]? = some (iv (K : Nat)) := by
                                      obtain ⟨x, e, h⟩ := hW.tel 10 114 (by decide) (hnd 10 (by kernel_rfl)) rfl
                                      rw [e]; exact congrArg some h
                                    have r113 : A'.tmps[113]? = some (.bool false) := by
                                      obtain ⟨x, e, h⟩ := hW.tel 9 113 (by decide) (hnd 9 (by kernel_rfl)) rfl
                                      rw [e]; exact congrArg some h
                                    rw [if_pos (wanted_yes (j := 9) (s := 113) (b := false) rfl (by kernel_rfl) r113)]
                                    go_simp
                                    exact hK _ _ ((by first | rfl | (show _ = _; simp; omega) | (show _ = _; simp))) (Only.refl _ _) hS
                                  · intro L vs A' u hW hL0 hnd K' hK
                                    have hS := hW.wi.s
                                    have r115 : A'.tmps[115]? = some (.bool true) := by
                                      obtain ⟨x, e, h⟩ := hW.tel 11 115 (by decide) (hnd 11 (by kernel_rfl)) rfl
                                      rw [e]; exact congrArg some h
                                    have r113 : A'.tmps[113]? = some (.bool false) := by
                                      obtain ⟨x, e, h⟩ := hW.tel 9 113 (by decide) (hnd 9 (by kernel_rfl)) rfl
                                      rw [e]; exact congrArg some h
                                    rw [if_pos (wanted_yes (j := 9) (s := 113) (b := false) rfl (by kernel_rfl) r113)]
                                    go_simp
                                    exact hK _ _ (by first | rfl | (show _ = _; simp)) (Only.refl _ _) hS
                                  · intro L vs A' u hW hL0 hnd K' hK
                                    have hS := hW.wi.s
                                    have r9 : A'.tmps[9]? = some (.pointer (some ⟨w.heap.size, 0, none⟩)) := (hW.out 9 (fun j hj => fr_L6 j 9 hj (by kernel_rfl))).trans rfl
                                    have r116 : A'.tmps[116]? = some (.bool true) := by
                                      obtain ⟨x, e, h⟩ := hW.tel 12 116 (by decide) (hnd 12 (by kernel_rfl)) rfl
                                      rw [e]; exact congrArg some h
                                    rw [if_pos (wanted_yes (j := 12) (s := 116) (b := true) rfl (by kernel_rfl) r116)]
                                    go_simp
                                    exact hK _ _ (by first | rfl | (show _ = _; simp)) (Only.refl _ _) hS
                                  · intro L vs A' u hW hL0 hnd K' hK
                                    have hS := hW.wi.s
                                    have r117 : A'.tmps[117]? = some (.pointer (some ⟨w.heap.size, 0, none⟩)) := by
                                      obtain ⟨x, e, h⟩ := hW.tel 13 117 (by decide) (hnd 13 (by kernel_rfl)) rfl
                                      rw [e]; exact congrArg some h
                                    have r116 : A'.tmps[116]? = some (.bool true) := by
                                      obtain ⟨x, e, h⟩ := hW.tel 12 116 (by decide) (hnd 12 (by kernel_rfl)) rfl
                                      rw [e]; exact congrArg some h
                                    rw [if_pos (wanted_yes (j := 12) (s := 116) (b := true) rfl (by kernel_rfl) r116)]
                                    have hc := U.cell_keep hS q0
                                    go_simp
                                    exact hK _ _ (rfl) (Only.refl _ _) hS
                                  · intro L vs A' u hW hL0 hnd K' hK
                                    have hS := hW.wi.s
                                    have r15 : A'.tmps[15]? = some (iv (K : Nat)) := (hW.out 15 (fun j hj => fr_L6 j 15 hj (by kernel_rfl))).trans rfl
                                    have r116 : A'.tmps[116]? = some (.bool true) := by
                                      obtain ⟨x, e, h⟩ := hW.tel 12 116 (by decide) (hnd 12 (by kernel_rfl)) rfl
                                      rw [e]; exact congrArg some h
                                    rw [if_pos (wanted_yes (j := 12) (s := 116) (b := true) rfl (by kernel_rfl) r116)]
                                    go_simp
                                    exact hK _ _ (by first | rfl | (show _ = _; simp)) (Only.refl _ _) hS
                                  · intro L vs A' u hW hL0 hnd K' hK
                                    have hS := hW.wi.s
                                    have r119 : A'.tmps[119]? = some (iv (K : Nat)) := by
                                      obtain ⟨x, e, h⟩ := hW.tel 15 119 (by decide) (hnd 15 (by kernel_rfl)) rfl
                                      rw [e]; exact congrArg some h
                                    have r116 : A'.tmps[116]? = some (.bool true) := by
                                      obtain ⟨x, e, h⟩ := hW.tel 12 116 (by decide) (hnd 12 (by kernel_rfl)) rfl
                                      rw [e]; exact congrArg some h
                                    rw [if_pos (wanted_yes (j := 12) (s := 116) (b := true) rfl (by kernel_rfl) r116)]
                                    have HCL := Lib.hid (CUk.out u)
                                    go_simp
                                    refine (HCL.out).mono ?_
                                    rintro _ u' ⟨rfl, rfl⟩
                                    exact hK _ _ (rfl) (Only.refl _ _) hS
                                  · intro L vs A' u hW hL0 hnd K' hK
                                    have hS := hW.wi.s
                                    have r118 : A'.tmps[118]? = some (iv rate) := by
                                      obtain ⟨x, e, h⟩ := hW.tel 14 118 (by decide) (hnd 14 (by kernel_rfl)) rfl
                                      rw [e]; exact congrArg some h
                                    have r120 : A'.tmps[120]? = some (iv Un) := by
                                      obtain ⟨x, e, h⟩ := hW.tel 16 120 (by decide) (hnd 16 (by kernel_rfl)) rfl
                                      rw [e]; exact congrArg some h
                                    have r116 : A'.tmps[116]? = some (.bool true) := by
                                      obtain ⟨x, e, h⟩ := hW.tel 12 116 (by decide) (hnd 12 (by kernel_rfl)) rfl
                                      rw [e]; exact congrArg some h
                                    rw [if_pos (wanted_yes (j := 12) (s := 116) (b := true) rfl (by kernel_rfl) r116)]
                                    go_simp
                                    exact hK _ _ ((by first | rfl | (show _ = _; simp; omega) | (show _ = _; simp))) (Only.refl _ _) hS
                                  · intro L vs A' u hW hL0 hnd K' hK
                                    have hS := hW.wi.s
                                    have r121 : A'.tmps[121]? = some (iv Rm) := by
                                      obtain ⟨x, e, h⟩ := hW.tel 17 121 (by decide) (hnd 17 (by kernel_rfl)) rfl
                                      rw [e]; exact congrArg some h
                                    have r116 : A'.tmps[116]? = some (.bool true) := by
                                      obtain ⟨x, e, h⟩ := hW.tel 12 116 (by decide) (hnd 12 (by kernel_rfl)) rfl
                                      rw [e]; exact congrArg some h
                                    rw [if_pos (wanted_yes (j := 12) (s := 116) (b := true) rfl (by kernel_rfl) r116)]
                                    go_simp
                                    exact hK _ _ ((by first | rfl | (show _ = _; simp; omega) | (show _ = _; simp))) (Only.refl _ _) hS
                                  · intro L vs A' u hW hL0 hnd K' hK
                                    have hS := hW.wi.s
                                    have r116 : A'.tmps[116]? = some (.bool true) := by
                                      obtain ⟨x, e, h⟩ := hW.tel 12 116 (by decide) (hnd 12 (by kernel_rfl)) rfl
                                      rw [e]; exact congrArg some h
                                    have r122 : A'.tmps[122]? = some (.bool true) := by
                                      obtain ⟨x, e, h⟩ := hW.tel 18 122 (by decide) (hnd 18 (by kernel_rfl)) rfl
                                      rw [e]; exact congrArg some h
                                    have r113 : A'.tmps[113]? = some (.bool false) := by
                                      obtain ⟨x, e, h⟩ := hW.tel 9 113 (by decide) (hnd 9 (by kernel_rfl)) rfl
                                      rw [e]; exact congrArg some h
                                    rw [if_pos (wanted_yes (j := 9) (s := 113) (b := false) rfl (by kernel_rfl) r113)]
                                    go_simp
                                    exact hK _ _ (by first | rfl | (show _ = _; simp)) (Only.refl _ _) hS
                                  · intro L vs A' u hW hL0 hnd K' hK
                                    have hS := hW.wi.s
                                    have r123 : A'.tmps[123]? = some (.bool true) := by
                                      obtain ⟨x, e, h⟩ := hW.tel 19 123 (by decide) (hnd 19 (by kernel_rfl)) rfl
                                      rw [e]; exact congrArg some h
                                    have r113 : A'.tmps[113]? = some (.bool false) := by
                                      obtain ⟨x, e, h⟩ := hW.tel 9 113 (by decide) (hnd 9 (by kernel_rfl)) rfl
                                      rw [e]; exact congrArg some h
                                    rw [if_pos (wanted_yes (j := 9) (s := 113) (b := false) rfl (by kernel_rfl) r113)]
                                    go_simp
                                    exact hK _ _ (by first | rfl | (show _ = _; simp)) (Only.refl _ _) hS
                                  · intro L vs A' u hW hL0 hnd K' hK
                                    have hS := hW.wi.s
                                    have r9 : A'.tmps[9]? = some (.pointer (some ⟨w.heap.size, 0, none⟩)) := (hW.out 9 (fun j hj => fr_L6 j 9 hj (by kernel_rfl))).trans rfl
                                    have r124 : A'.tmps[124]? = some (.bool true) := by
                                      obtain ⟨x, e, h⟩ := hW.tel 20 124 (by decide) (hnd 20 (by kernel_rfl)) rfl
                                      rw [e]; exact congrArg some h
                                    rw [if_pos (wanted_yes (j := 20) (s := 124) (b := true) rfl (by kernel_rfl) r124)]
                                    go_simp
                                    exact hK _ _ (by first | rfl | (show _ = _; simp)) (Only.refl _ _) hS
                                  · intro L vs A' u hW hL0 hnd K' hK
                                    have hS := hW.wi.s
                                    have r125 : A'.tmps[125]? = some (.pointer (some ⟨w.heap.size, 0, none⟩)) := by
                                      obtain ⟨x, e, h⟩ := hW.tel 21 125 (by decide) (hnd 21 (by kernel_rfl)) rfl
                                      rw [e]; exact congrArg some h
                                    have r124 : A'.tmps[124]? = some (.bool true) := by
                                      obtain ⟨x, e, h⟩ := hW.tel 20 124 (by decide) (hnd 20 (by kernel_rfl)) rfl
                                      rw [e]; exact congrArg some h
                                    rw [if_pos (wanted_yes (j := 20) (s := 124) (b := true) rfl (by kernel_rfl) r124)]
                                    have hc := U.cell_keep hS q0
                                    go_simp
                                    exact hK _ _ (rfl) (Only.refl _ _) hS
                                  · intro L vs A' u hW hL0 hnd K' hK
                                    have hS := hW.wi.s
                                    have r15 : A'.tmps[15]? = some (iv (K : Nat)) := (hW.out 15 (fun j hj => fr_L6 j 15 hj (by kernel_rfl))).trans rfl
                                    have r124 : A'.tmps[124]? = some (.bool true) := by
                                      obtain ⟨x, e, h⟩ := hW.tel 20 124 (by decide) (hnd 20 (by kernel_rfl)) rfl
                                      rw [e]; exact congrArg some h
                                    rw [if_pos (wanted_yes (j := 20) (s := 124) (b := true) rfl (by kernel_rfl) r124)]
                                    go_simp
                                    exact hK _ _ (by first | rfl | (show _ = _; simp)) (Only.refl _ _) hS
                                  · intro L vs A' u hW hL0 hnd K' hK
                                    have hS := hW.wi.s
                                    have r127 : A'.tmps[127]? = some (iv (K : Nat)) := by
                                      obtain ⟨x, e, h⟩ := hW.tel 23 127 (by decide) (hnd 23 (by kernel_rfl)) rfl
                                      rw [e]; exact congrArg some h
                                    have r124 : A'.tmps[124]? = some (.bool true) := by
                                      obtain ⟨x, e, h⟩ := hW.tel 20 124 (by decide) (hnd 20 (by kernel_rfl)) rfl
                                      rw [e]; exact congrArg some h
                                    rw [if_pos (wanted_yes (j := 20) (s := 124) (b := true) rfl (by kernel_rfl) r124)]
                                    have HCL := Lib.hid (CUk.out u)
                                    go_simp
                                    refine (HCL.out).mono ?_
                                    rintro _ u' ⟨rfl, rfl⟩
                                    exact hK _ _ (rfl) (Only.refl _ _) hS
                                  · intro L vs A' u hW hL0 hnd K' hK
                                    have hS := hW.wi.s
                                    have r126 : A'.tmps[126]? = some (iv rate) := by
                                      obtain ⟨x, e, h⟩ := hW.tel 22 126 (by decide) (hnd 22 (by kernel_rfl)) rfl
                                      rw [e]; exact congrArg some h
                                    have r128 : A'.tmps[128]? = some (iv Un) := by
                                      obtain ⟨x, e, h⟩ := hW.tel 24 128 (by decide) (hnd 24 (by kernel_rfl)) rfl
                                      rw [e]; exact congrArg some h
                                    have r124 : A'.tmps[124]? = some (.bool true) := by
                                      obtain ⟨x, e, h⟩ := hW.tel 20 124 (by decide) (hnd 20 (by kernel_rfl)) rfl
                                      rw [e]; exact congrArg some h
                                    rw [if_pos (wanted_yes (j := 20) (s := 124) (b := true) rfl (by kernel_rfl) r124)]
                                    go_simp
                                    exact hK _ _ ((by first | rfl | (show _ = _; simp; omega) | (show _ = _; simp))) (Only.refl _ _) hS
                                  · intro L vs A' u hW hL0 hnd K' hK
                                    have hS := hW.wi.s
                                    have r16 : A'.tmps[16]? = some (iv Tp) := (hW.out 16 (fun j hj => fr_L6 j 16 hj (by kernel_rfl))).trans rfl
                                    have r124 : A'.tmps[124]? = some (.bool true) := by
                                      obtain ⟨x, e, h⟩ := hW.tel 20 124 (by decide) (hnd 20 (by kernel_rfl)) rfl
                                      rw [e]; exact congrArg some h
                                    rw [if_pos (wanted_yes (j := 20) (s := 124) (b := true) rfl (by kernel_rfl) r124)]
                                    go_simp
                                    exact hK _ _ (by first | rfl | (show _ = _; simp)) (Only.refl _ _) hS
                                  · intro L vs A' u hW hL0 hnd K' hK
                                    have hS := hW.wi.s
                                    have r129 : A'.tmps[129]? = some (iv Qt) := by
                                      obtain ⟨x, e, h⟩ := hW.tel 25 129 (by decide) (hnd 25 (by kernel_rfl)) rfl
                                      rw [e]; exact congrArg some h
                                    have r130 : A'.tmps[130]? = some (iv Tp) := by
                                      obtain ⟨x, e, h⟩ := hW.tel 26 130 (by decide) (hnd 26 (by kernel_rfl)) rfl
                                      rw [e]; exact congrArg some h
                                    have r124 : A'.tmps[124]? = some (.bool true) := by
                                      obtain ⟨x, e, h⟩ := hW.tel 20 124 (by decide) (hnd 20 (by kernel_rfl)) rfl
                                      rw [e]; exact congrArg some h
                                    rw [if_pos (wanted_yes (j := 20) (s := 124) (b := true) rfl (by kernel_rfl) r124)]
                                    go_simp
                                    exact hK _ _ ((by first | rfl | (show _ = _; simp; omega) | (show _ = _; simp))) (Only.refl _ _) hS
                                  · intro L vs A' u hW hL0 hnd K' hK
                                    have hS := hW.wi.s
                                    have r124 : A'.tmps[124]? = some (.bool true) := by
                                      obtain ⟨x, e, h⟩ := hW.tel 20 124 (by decide) (hnd 20 (by kernel_rfl)) rfl
                                      rw [e]; exact congrArg some h
                                    have r131 : A'.tmps[131]? = some (.bool false) := by
                                      obtain ⟨x, e, h⟩ := hW.tel 27 131 (by decide) (hnd 27 (by kernel_rfl)) rfl
                                      rw [e]; exact congrArg some h
                                    have r113 : A'.tmps[113]? = some (.bool false) := by
                                      obtain ⟨x, e, h⟩ := hW.tel 9 113 (by decide) (hnd 9 (by kernel_rfl)) rfl
                                      rw [e]; exact congrArg some h
                                    rw [if_pos (wanted_yes (j := 9) (s := 113) (b := false) rfl (by kernel_rfl) r113)]
                                    go_simp
                                    exact hK _ _ (by first | rfl | (show _ = _; simp)) (Only.refl _ _) hS
                                  · intro L vs A' u hW hL0 hnd K' hK
                                    have hS := hW.wi.s
                                    have r113 : A'.tmps[113]? = some (.bool false) := by
                                      obtain ⟨x, e, h⟩ := hW.tel 9 113 (by decide) (hnd 9 (by kernel_rfl)) rfl
                                      rw [e]; exact congrArg some h
                                    have r132 : A'.tmps[132]? = some (.bool false) := by
                                      obtain ⟨x, e, h⟩ := hW.tel 28 132 (by decide) (hnd 28 (by kernel_rfl)) rfl
                                      rw [e]; exact congrArg some h
                                    have r107 : A'.tmps[107]? = some (.bool true) := by
                                      obtain ⟨x, e, h⟩ := hW.tel 3 107 (by decide) (hnd 3 (by kernel_rfl)) rfl
                                      rw [e]; exact congrArg some h
                                    rw [if_pos (wanted_yes (j := 3) (s := 107) (b := true) rfl (by kernel_rfl) r107)]
                                    go_simp
                                    exact hK _ _ (by first | rfl | (show _ = _; simp)) (Only.refl _ _) hS
                                  · intro L vs A' u hW hL0 hnd K' hK
                                    have hS := hW.wi.s
                                    have r107 : A'.tmps[107]? = some (.bool true) := by
                                      obtain ⟨x, e, h⟩ := hW.tel 3 107 (by decide) (hnd 3 (by kernel_rfl)) rfl
                                      rw [e]; exact congrArg some h
                                    have r133 : A'.tmps[133]? = some (.bool false) := by
                                      obtain ⟨x, e, h⟩ := hW.tel 29 133 (by decide) (hnd 29 (by kernel_rfl)) rfl
                                      rw [e]; exact congrArg some h
                                    go_simp
                                    exact hK _ _ (by first | rfl | (show _ = _; simp)) (Only.refl _ _) hS
                                case doneL6 =>
                                  intro L vs v1 hS hP hall
                                  have e30 : vs 30 = .bool false := hP 30 (by decide)
                                  have hbx := HB.out.only hS (fun e => e)
                                  have P3 := Lib.hid (P2.out.only hS (fun e => e))
                                  have R3 := Lib.hid (R2.out.only hS (fun e => e))
                                  have O3 := Lib.hid (O2.out.trans hS)
                                  have HB1 := Lib.hid hbx
                                  have hd2 : v1.cell? ⟨w.heap.size + 2, 2, none⟩ = some (iv (cr : Nat)) := hbx.cell 2
                                  have hd7 : v1.cell? ⟨w.heap.size + 2, 7, none⟩ = some (iv ct) := hbx.cell 7
                                  have hg2 := hbx.frozen 2
                                  have hg7 := hbx.frozen 7
                                  have r0 : v1.cell? ⟨w.heap.size, 0, none⟩ = some (iv rate) := P3.out.cell 0
                                  clear hS hP hall fr_L6 ha2 ha7 hf2 hf7 q0 hbx
                                  simp only [putV, List.foldl_cons, List.foldl_nil, List.setIfInBounds_toArray, List.set_cons_zero, List.set_cons_succ]
                                  rw [e30]
                                  clear e30
                                  generalize vs 0 = y0, vs 1 = y1, vs 2 = y2, vs 3 = y3, vs 4 = y4, vs 5 = y5, vs 6 = y6, vs 7 = y7, vs 8 = y8, vs 9 = y9, vs 10 = y10, vs 11 = y11, vs 12 = y12, vs 13 = y13, vs 14 = y14, vs 15 = y15, vs 16 = y16, vs 17 = y17, vs 18 = y18, vs 19 = y19, vs 20 = y20, vs 21 = y21, vs 22 = y22, vs 23 = y23, vs 24 = y24, vs 25 = y25, vs 26 = y26, vs 27 = y27, vs 28 = y28, vs 29 = y29
                                  go_wp2
                                  go_roundw
                                  case rel => exact ⟨⟨K, by omega, by go_num, by rw [HNx.out]; exact HB1.out⟩, P3.out, R3.out, O3.out⟩
                                  case measure => simp [intOf]; omega
                            · have HEnd : Hid (rrS rate k = RC) := Lib.hid (by
                                  rw [HRR.out]
                                  by_cases hp : 0 < rate
                                  · have : k = 14 := by
                                      have h2 : PB = true := by rw [← hPB]; exact decide_eq_true hp
                                      have h3 : ¬ k < 14 := fun h => hgo ⟨h, h2⟩
                                      omega
                                    rw [this]
                                  · unfold rrS
                                    rw [if_neg hp, if_neg hp])
                              rw [HEnd.out] at HB
                              obtain ⟨K15, hK15⟩ : ∃ K : Nat, k + 1 = K := ⟨_, rfl⟩
                              rw [hK15]
                              clear HEnd HRR
                              by_cases hk14 : k < 14
                              · have hP0 : PB = false := by cases PB; rfl; exact absurd ⟨hk14, rfl⟩ hgo
                                have hki : (K15 : Int) ≤ 14 := by omega
                                subst hP0
                                clear hgo hk14 hK15 hk
                                go_wp2
                                go_loopw [17] (fun s17 wr => MkP w #[iv rate, iv ch, iv dep] (fun k => hc ⟨V, (c2 : Nat), (RC.1 : Nat), mo, ((rdF dep k).1 : Nat), num, blk, RC.2, (rdF dep k).2⟩) 7 s17 wr) (fun s17 _ => 8 - (intOf s17).toNat)
                                case atStart => exact ⟨⟨0, by omega, rfl, HB.out⟩, P2.out, R2.out, O2.out⟩
                                case round =>
                                  clear HB P2 R2 O2 q0 hPB
                                  obtain ⟨⟨j, hj, rfl, hbx⟩, hb9, hb10, hon⟩ := hrel
                                  have HB := Lib.hid hbx
                                  have P2 := Lib.hid hb9
                                  have R2 := Lib.hid hb10
                                  have O2 := Lib.hid hon
                                  have q2 : wr.cell? ⟨w.heap.size, 2, none⟩ = some (iv dep) := hb9.cell 2
                                  clear hbx hb9 hb10 hon
                                  by_cases hlt : j < 7
                                  · have hstep : rdF dep (j + 1) = if rD (j + 1 : Nat) = dep then (j + 1, dep) else rdF dep j := rfl
                                    have HSt := Lib.hid hstep
                                    clear hstep
                                    obtain ⟨K, hK⟩ : ∃ K : Nat, j + 1 = K := ⟨_, rfl⟩
                                    rw [hK] at HSt ⊢
                                    have hki : (K : Int) ≤ 7 := by omega
                                    have CDk := Lib.hid (CD.out K)
                                    generalize hcs : rdF dep j = cs at *
                                    obtain ⟨cd, ct⟩ := cs
                                    generalize hrd : rD (K : Nat) = rd at *
                                    have hK2 := Lib.hid hK
                                    clear hcs hrd hK
                                    obtain ⟨EQ, hEQ⟩ : ∃ b, (rd == dep) = b := ⟨_, rfl⟩
                                    go_wp2
                                    have fr_D1 : ∀ j s, j < 5 → (([some 144, some 145, some 146, some 147, some 148] : List (Option Nat)).all fun d => d != some s) = true → ([some 144, some 145, some 146, some 147, some 148] : List (Option Nat)).getD j none ≠ some s := by
                                      intro j s hj ha e
                                      rw [List.getD_eq_getElem?_getD, List.getElem?_eq_getElem (by exact hj), Option.getD_some] at e
                                      have := List.all_eq_true.1 ha _ (List.getElem_mem (by exact hj))
                                      rw [e] at this
                                      simp at this
                                    refine region_tel (by kernel_rfl) (fun k0 => ([some 144, some 145, some 146, some 147, some 148] : List (Option Nat)).getD k0 none) (PL [eqP (iv (K : Nat)), eqP (iv rd), eqP (.pointer (some ⟨w.heap.size, 2, none⟩)), eqP (iv dep), eqP (.bool EQ)]) (fun u u' => Only Nix u u') (fun _ u => Only Nix (wr) u) 155 5 rfl (by kernel_rfl) (by kernel_rfl) rfl (by kernel_rfl) (by kernel_rfl) (stab_all ⟨fun _ _ _ h _ => h, fun _ _ _ h _ => h, fun _ _ _ h _ => h, fun _ _ _ h _ => h, fun _ _ _ h _ => h, trivial⟩) ((Only.refl _ _).drew) ?stepsD1 (fun vs => [(144, vs 0), (145, vs 1), (146, vs 2), (147, vs 3), (148, vs 4)]) (fun vs => rfl) ?doneD1
                                    case stepsD1 =>
                                      refine ⟨?_, ?_, ?_, ?_, ?_, trivial⟩
                                      · intro L vs A' u hW hL0 hnd K' hK
                                        have hS := hW.wi.s
                                        have r17 : A'.tmps[17]? = some (iv (K : Nat)) := (hW.out 17 (fun j hj => fr_D1 j 17 hj (by kernel_rfl))).trans rfl
                                        go_simp
                                        exact hK _ _ (by first | rfl | (show _ = _; simp)) (Only.refl _ _) hS
                                      · intro L vs A' u hW hL0 hnd K' hK
                                        have hS := hW.wi.s
                                        have r144 : A'.tmps[144]? = some (iv (K : Nat)) := by
                                          obtain ⟨x, e, h⟩ := hW.tel 0 144 (by decide) (hnd 0 (by kernel_rfl)) rfl
                                          rw [e]; exact congrArg some h
                                        have HCL := Lib.hid (CDk.out u)
                                        go_simp
                                        refine (HCL.out).mono ?_
                                        rintro _ u' ⟨rfl, ho'⟩
                                        exact hK _ _ (rfl) ho' (hS.trans ho')
                                      · intro L vs A' u hW hL0 hnd K' hK
                                        have hS := hW.wi.s
                                        have r9 : A'.tmps[9]? = some (.pointer (some ⟨w.heap.size, 0, none⟩)) := (hW.out 9 (fun j hj => fr_D1 j 9 hj (by kernel_rfl))).trans rfl
                                        go_simp
                                        exact hK _ _ (by first | rfl | (show _ = _; simp)) (Only.refl _ _) hS
                                      · intro L vs A' u hW hL0 hnd K' hK
                                        have hS := hW.wi.s
                                        have r146 : A'.tmps[146]? = some (.pointer (some ⟨w.heap.size, 2, none⟩)) := by
                                          obtain ⟨x, e, h⟩ := hW.tel 2 146 (by decide) (hnd 2 (by kernel_rfl)) rfl
                                          rw [e]; exact congrArg some h
                                        have hc := U.cell_keep hS q2
                                        go_simp
                                        exact hK _ _ (rfl) (Only.refl _ _) hS
                                      · intro L vs A' u hW hL0 hnd K' hK
                                        have hS := hW.wi.s
                                        have r145 : A'.tmps[145]? = some (iv rd) := by
                                          obtain ⟨x, e, h⟩ := hW.tel 1 145 (by decide) (hnd 1 (by kernel_rfl)) rfl
                                          rw [e]; exact congrArg some h
                                        have r147 : A'.tmps[147]? = some (iv dep) := by
                                          obtain ⟨x, e, h⟩ := hW.tel 3 147 (by decide) (hnd 3 (by kernel_rfl)) rfl
                                          rw [e]; exact congrArg some h
                                        go_simp
                                        exact hK _ _ (by first | rfl | (show _ = _; simp)) (Only.refl _ _) hS
                                    case doneD1 =>
                                      intro L vs v1 hS hP hall
                                      have e4 : vs 4 = .bool EQ := hP 4 (by decide)
                                      have hbx := HB.out.only hS (fun e => e)
                                      have P3 := Lib.hid (P2.out.only hS (fun e => e))
                                      have R3 := Lib.hid (R2.out.only hS (fun e => e))
                                      have O3 := Lib.hid (O2.out.trans hS)
                                      have HB1 := Lib.hid hbx
                                      have hd2 : v1.cell? ⟨w.heap.size + 2, 4, none⟩ = some (iv (cd : Nat)) := hbx.cell 4
                                      have hd7 : v1.cell? ⟨w.heap.size + 2, 8, none⟩ = some (iv ct) := hbx.cell 8
                                      have hg2 := hbx.frozen 4
                                      have hg7 := hbx.frozen 8
                                      have r0 : v1.cell? ⟨w.heap.size, 2, none⟩ = some (iv dep) := P3.out.cell 2
                                      have HEQ := Lib.hid hEQ
                                      clear hS hP hall fr_D1 q2 hbx hEQ
                                      simp only [putV, List.foldl_cons, List.foldl_nil, List.setIfInBounds_toArray, List.set_cons_zero, List.set_cons_succ]
                                      rw [e4]
                                      clear e4
                                      generalize vs 0 = y0, vs 1 = y1, vs 2 = y2, vs 3 = y3
                                      cases EQ
                                      · have HNx : Hid (rdF dep K = (cd, ct)) := Lib.hid (by rw [HSt.out, if_neg (fun e => by have h := HEQ.out; rw [e] at h; simp at h)])
                                        go_wp2
                                        go_roundw
                                        case rel => exact ⟨⟨K, by have := hK2.out; omega, by go_num, by rw [HNx.out]; exact HB1.out⟩, P3.out, R3.out, O3.out⟩
                                        case measure => simp [intOf] <;> have := hK2.out <;> omega
                                      · have HNx : Hid (rdF dep K = (K, dep)) := Lib.hid (by rw [HSt.out, if_pos (by simpa using HEQ.out)])
                                        go_wp2
                                        go_roundw
                                        case rel => exact ⟨⟨K, by have := hK2.out; omega, by go_num, by rw [HNx.out]; exact (HB1.out.put 4 (iv (K : Nat))).put 8 (iv dep)⟩, (P3.out.off (by show w.heap.size ≠ w.heap.size + 2; omega) _).off (by show w.heap.size ≠ w.heap.size + 2; omega) _, (R3.out.off (by show w.heap.size + 1 ≠ w.heap.size + 2; omega) _).off (by show w.heap.size + 1 ≠ w.heap.size + 2; omega) _, (O3.out.setCell (.inr (by show w.heap.size ≤ w.heap.size + 2; omega)) _).setCell (.inr (by show w.heap.size ≤ w.heap.size + 2; omega)) _⟩
                                        case measure => simp [intOf] <;> have := hK2.out <;> omega
                                  · obtain rfl : j = 7 := by omega
                                    obtain ⟨K8, hK8⟩ : ∃ K : Nat, 7 + 1 = K := ⟨_, rfl⟩
                                    rw [hK8]
                                    have hge : 7 < (K8 : Int) := by omega
                                    clear hK8
                                    obtain ⟨Xf, hXf⟩ : ∃ X : Hd, (⟨V, (c2 : Nat), (RC.1 : Nat), mo, ((rdF dep 7).1 : Nat), num, blk, RC.2, (rdF dep 7).2⟩ : Hd) = X := ⟨_, rfl⟩
                                    rw [hXf] at HB
                                    have hAX := HAA.out.trans hXf
                                    have HAX := Lib.hid hAX
                                    clear hAX HAA hXf
                                    go_wp2_with (first
                                      | refine wpList_load_row rfl 26 (.tmp 13) rfl (w.heap.size + 2) rfl 26 (hc Xf) (0, 0) _ HB.out Tryd.underlying26 rfl Tryd.size_ref ?_
                                      | refine wpList_store_row rfl 26 (.tmp 10) (.tmp 154) rfl rfl (w.heap.size + 1) 26 (hc hd0) (hc Xf) rfl rfl R2.out Tryd.size_ref rfl (hc_one _) ?st)
                                    case st =>
                                      intro wz hbz hoz
                                      have OW : Hid (Only Nix w wz) := Lib.hid (O2.out.then hoz (fun i e => .inr (by rw [show i = w.heap.size + 1 from e]; omega)))
                                      have HLd := Lib.hid hbz
                                      clear hbz hoz
                                      go_wp2
                                      rw [HAX.out]
                                      refine bodyPost_ret (v := .tuple #[hv Xf, iv 0]) ?_ rfl ?_
                                      · have hb := HLd.out
                                        have k0 := hb.cell 0
                                        have k1 := hb.cell 1
                                        have k2 := hb.cell 2
                                        have k3 := hb.cell 3
                                        have k4 := hb.cell 4
                                        have k5 := hb.cell 5
                                        have k6 := hb.cell 6
                                        have k7 := hb.cell 7
                                        have k8 := hb.cell 8
                                        simp only [hc, List.getElem?_toArray, List.getElem?_cons_zero, List.getElem?_cons_succ] at k0 k1 k2 k3 k4 k5 k6 k7 k8
                                        simp [results, Tryd.f17, go_sem, k0, k1, k2, k3, k4, k5, k6, k7, k8, hv, hc]
                                      · exact ⟨rfl, OW.out⟩
                              · have hki : 14 < (K15 : Int) := by omega
                                clear hgo hk14 hK15 hk
                                go_wp2
                                go_loopw [17] (fun s17 wr => MkP w #[iv rate, iv ch, iv dep] (fun k => hc ⟨V, (c2 : Nat), (RC.1 : Nat), mo, ((rdF dep k).1 : Nat), num, blk, RC.2, (rdF dep k).2⟩) 7 s17 wr) (fun s17 _ => 8 - (intOf s17).toNat)
                                case atStart => exact ⟨⟨0, by omega, rfl, HB.out⟩, P2.out, R2.out, O2.out⟩
                                case round =>
                                  clear HB P2 R2 O2 q0 hPB
                                  obtain ⟨⟨j, hj, rfl, hbx⟩, hb9, hb10, hon⟩ := hrel
                                  have HB := Lib.hid hbx
                                  have P2 := Lib.hid hb9
                                  have R2 := Lib.hid hb10
                                  have O2 := Lib.hid hon
                                  have q2 : wr.cell? ⟨w.heap.size, 2, none⟩ = some (iv dep) := hb9.cell 2
                                  clear hbx hb9 hb10 hon
                                  by_cases hlt : j < 7
                                  · have hstep : rdF dep (j + 1) = if rD (j + 1 : Nat) = dep then (j + 1, dep) else rdF dep j := rfl
                                    have HSt := Lib.hid hstep
                                    clear hstep
                                    obtain ⟨K, hK⟩ : ∃ K : Nat, j + 1 = K := ⟨_, rfl⟩
                                    rw [hK] at HSt ⊢
                                    have hki : (K : Int) ≤ 7 := by omega
                                    have CDk := Lib.hid (CD.out K)
                                    generalize hcs : rdF dep j = cs at *
                                    obtain ⟨cd, ct⟩ := cs
                                    generalize hrd : rD (K : Nat) = rd at *
                                    have hK2 := Lib.hid hK
                                    clear hcs hrd hK
                                    obtain ⟨EQ, hEQ⟩ : ∃ b, (rd == dep) = b := ⟨_, rfl⟩
                                    go_wp2
                                    have fr_D2 : ∀ j s, j < 5 → (([some 144, some 145, some 146, some 147, some 148] : List (Option Nat)).all fun d => d != some s) = true → ([some 144, some 145, some 146, some 147, some 148] : List (Option Nat)).getD j none ≠ some s := by
                                      intro j s hj ha e
                                      rw [List.getD_eq_getElem?_getD, List.getElem?_eq_getElem (by exact hj), Option.getD_some] at e
                                      have := List.all_eq_true.1 ha _ (List.getElem_mem (by exact hj))
                                      rw [e] at this
                                      simp at this
                                    refine region_tel (by kernel_rfl) (fun k0 => ([some 144, some 145, some 146, some 147, some 148] : List (Option Nat)).getD k0 none) (PL [eqP (iv (K : Nat)), eqP (iv rd), eqP (.pointer (some ⟨w.heap.size, 2, none⟩)), eqP (iv dep), eqP (.bool EQ)]) (fun u u' => Only Nix u u') (fun _ u => Only Nix (wr) u) 155 5 rfl (by kernel_rfl) (by kernel_rfl) rfl (by kernel_rfl) (by kernel_rfl) (stab_all ⟨fun _ _ _ h _ => h, fun _ _ _ h _ => h, fun _ _ _ h _ => h, fun _ _ _ h _ => h, fun _ _ _ h _ => h, trivial⟩) ((Only.refl _ _).drew) ?stepsD2 (fun vs => [(144, vs 0), (145, vs 1), (146, vs 2), (147, vs 3), (148, vs 4)]) (fun vs => rfl) ?doneD2
                                    case stepsD2 =>
                                      refine ⟨?_, ?_, ?_, ?_, ?_, trivial⟩
                                      · intro L vs A' u hW hL0 hnd K' hK
                                        have hS := hW.wi.s
                                        have r17 : A'.tmps[17]? = some (iv (K : Nat)) := (hW.out 17 (fun j hj => fr_D2 j 17 hj (by kernel_rfl))).trans rfl
                                        go_simp
                                        exact hK _ _ (by first | rfl | (show _ = _; simp)) (Only.refl _ _) hS
                                      · intro L vs A' u hW hL0 hnd K' hK
                                        have hS := hW.wi.s
                                        have r144 : A'.tmps[144]? = some (iv (K : Nat)) := by
                                          obtain ⟨x, e, h⟩ := hW.tel 0 144 (by decide) (hnd 0 (by kernel_rfl)) rfl
                                          rw [e]; exact congrArg some h
                                        have HCL := Lib.hid (CDk.out u)
                                        go_simp
                                        refine (HCL.out).mono ?_
                                        rintro _ u' ⟨rfl, ho'⟩
                                        exact hK _ _ (rfl) ho' (hS.trans ho')
                                      · intro L vs A' u hW hL0 hnd K' hK
                                        have hS := hW.wi.s
                                        have r9 : A'.tmps[9]? = some (.pointer (some ⟨w.heap.size, 0, none⟩)) := (hW.out 9 (fun j hj => fr_D2 j 9 hj (by kernel_rfl))).trans rfl
                                        go_simp
                                        exact hK _ _ (by first | rfl | (show _ = _; simp)) (Only.refl _ _) hS
                                      · intro L vs A' u hW hL0 hnd K' hK
                                        have hS := hW.wi.s
                                        have r146 : A'.tmps[146]? = some (.pointer (some ⟨w.heap.size, 2, none⟩)) := by
                                          obtain ⟨x, e, h⟩ := hW.tel 2 146 (by decide) (hnd 2 (by kernel_rfl)) rfl
                                          rw [e]; exact congrArg some h
                                        have hc := U.cell_keep hS q2
                                        go_simp
                                        exact hK _ _ (rfl) (Only.refl _ _) hS
                                      · intro L vs A' u hW hL0 hnd K' hK
                                        have hS := hW.wi.s
                                        have r145 : A'.tmps[145]? = some (iv rd) := by
                                          obtain ⟨x, e, h⟩ := hW.tel 1 145 (by decide) (hnd 1 (by kernel_rfl)) rfl
                                          rw [e]; exact congrArg some h
                                        have r147 : A'.tmps[147]? = some (iv dep) := by
                                          obtain ⟨x, e, h⟩ := hW.tel 3 147 (by decide) (hnd 3 (by kernel_rfl)) rfl
                                          rw [e]; exact congrArg some h
                                        go_simp
                                        exact hK _ _ (by first | rfl | (show _ = _; simp)) (Only.refl _ _) hS
                                    case doneD2 =>
                                      intro L vs v1 hS hP hall
                                      have e4 : vs 4 = .bool EQ := hP 4 (by decide)
                                      have hbx := HB.out.only hS (fun e => e)
                                      have P3 := Lib.hid (P2.out.only hS (fun e => e))
                                      have R3 := Lib.hid (R2.out.only hS (fun e => e))
                                      have O3 := Lib.hid (O2.out.trans hS)
                                      have HB1 := Lib.hid hbx
                                      have hd2 : v1.cell? ⟨w.heap.size + 2, 4, none⟩ = some (iv (cd : Nat)) := hbx.cell 4
                                      have hd7 : v1.cell? ⟨w.heap.size + 2, 8, none⟩ = some (iv ct) := hbx.cell 8
                                      have hg2 := hbx.frozen 4
                                      have hg7 := hbx.frozen 8
                                      have r0 : v1.cell? ⟨w.heap.size, 2, none⟩ = some (iv dep) := P3.out.cell 2
                                      have HEQ := Lib.hid hEQ
                                      clear hS hP hall fr_D2 q2 hbx hEQ
                                      simp only [putV, List.foldl_cons, List.foldl_nil, List.setIfInBounds_toArray, List.set_cons_zero, List.set_cons_succ]
                                      rw [e4]
                                      clear e4
                                      generalize vs 0 = y0, vs 1 = y1, vs 2 = y2, vs 3 = y3
                                      cases EQ
                                      · have HNx : Hid (rdF dep K = (cd, ct)) := Lib.hid (by rw [HSt.out, if_neg (fun e => by have h := HEQ.out; rw [e] at h; simp at h)])
                                        go_wp2
                                        go_roundw
                                        case rel => exact ⟨⟨K, by have := hK2.out; omega, by go_num, by rw [HNx.out]; exact HB1.out⟩, P3.out, R3.out, O3.out⟩
                                        case measure => simp [intOf] <;> have := hK2.out <;> omega
                                      · have HNx : Hid (rdF dep K = (K, dep)) := Lib.hid (by rw [HSt.out, if_pos (by simpa using HEQ.out)])
                                        go_wp2
                                        go_roundw
                                        case rel => exact ⟨⟨K, by have := hK2.out; omega, by go_num, by rw [HNx.out]; exact (HB1.out.put 4 (iv (K : Nat))).put 8 (iv dep)⟩, (P3.out.off (by show w.heap.size ≠ w.heap.size + 2; omega) _).off (by show w.heap.size ≠ w.heap.size + 2; omega) _, (R3.out.off (by show w.heap.size + 1 ≠ w.heap.size + 2; omega) _).off (by show w.heap.size + 1 ≠ w.heap.size + 2; omega) _, (O3.out.setCell (.inr (by show w.heap.size ≤ w.heap.size + 2; omega)) _).setCell (.inr (by show w.heap.size ≤ w.heap.size + 2; omega)) _⟩
                                        case measure => simp [intOf] <;> have := hK2.out <;> omega
                                  · obtain rfl : j = 7 := by omega
                                    obtain ⟨K8, hK8⟩ : ∃ K : Nat, 7 + 1 = K := ⟨_, rfl⟩
                                    rw [hK8]
                                    have hge : 7 < (K8 : Int) := by omega
                                    clear hK8
                                    obtain ⟨Xf, hXf⟩ : ∃ X : Hd, (⟨V, (c2 : Nat), (RC.1 : Nat), mo, ((rdF dep 7).1 : Nat), num, blk, RC.2, (rdF dep 7).2⟩ : Hd) = X := ⟨_, rfl⟩
                                    rw [hXf] at HB
                                    have hAX := HAA.out.trans hXf
                                    have HAX := Lib.hid hAX
                                    clear hAX HAA hXf
                                    go_wp2_with (first
                                      | refine wpList_load_row rfl 26 (.tmp 13) rfl (w.heap.size + 2) rfl 26 (hc Xf) (0, 0) _ HB.out Tryd.underlying26 rfl Tryd.size_ref ?_
                                      | refine wpList_store_row rfl 26 (.tmp 10) (.tmp 154) rfl rfl (w.heap.size + 1) 26 (hc hd0) (hc Xf) rfl rfl R2.out Tryd.size_ref rfl (hc_one _) ?st)
                                    case st =>
                                      intro wz hbz hoz
                                      have OW : Hid (Only Nix w wz) := Lib.hid (O2.out.then hoz (fun i e => .inr (by rw [show i = w.heap.size + 1 from e]; omega)))
                                      have HLd := Lib.hid hbz
                                      clear hbz hoz
                                      go_wp2
                                      rw [HAX.out]
                                      refine bodyPost_ret (v := .tuple #[hv Xf, iv 0]) ?_ rfl ?_
                                      · have hb := HLd.out
                                        have k0 := hb.cell 0
                                        have k1 := hb.cell 1
                                        have k2 := hb.cell 2
                                        have k3 := hb.cell 3
                                        have k4 := hb.cell 4
                                        have k5 := hb.cell 5
                                        have k6 := hb.cell 6
                                        have k7 := hb.cell 7
                                        have k8 := hb.cell 8
                                        simp only [hc, List.getElem?_toArray, List.getElem?_cons_zero, List.getElem?_cons_succ] at k0 k1 k2 k3 k4 k5 k6 k7 k8
                                        simp [results, Tryd.f17, go_sem, k0, k1, k2, k3, k4, k5, k6, k7, k8, hv, hc]
                                      · exact ⟨rfl, OW.out⟩
                  · have c1b : (ch != CH) = true := by rw [bne_iff_ne]; exact c1
                    have hE : E = 22 := by rw [HE.out]; rw [if_pos c1]
                    have hA : AA = hd0 := by rw [HA.out, if_neg (by rw [hE]; decide)]
                    subst hE hA
                    go_wp2_with (refine wpList_store_row rfl 26 (.tmp 10) (.tmp 60) rfl rfl (w.heap.size + 1) 26 (hc hd0) (hc hd0) rfl rfl R0.out Tryd.size_ref rfl (hc_one _) ?st)
                    case st =>
                      intro wz hbz hoz
                      have OW : Hid (Only Nix w wz) := Lib.hid (O0.out.then hoz (fun i e => .inr (by rw [show i = w.heap.size + 1 from e]; omega)))
                      have HLd := Lib.hid hbz
                      clear hbz hoz
                      go_wp2
                      refine bodyPost_ret (v := .tuple #[hv hd0, iv 22]) ?_ rfl ?_
                      · have hb := HLd.out
                        have k0 := hb.cell 0
                        have k1 := hb.cell 1
                        have k2 := hb.cell 2
                        have k3 := hb.cell 3
                        have k4 := hb.cell 4
                        have k5 := hb.cell 5
                        have k6 := hb.cell 6
                        have k7 := hb.cell 7
                        have k8 := hb.cell 8
                        simp only [hc, hd0, List.getElem?_toArray, List.getElem?_cons_zero, List.getElem?_cons_succ] at k0 k1 k2 k3 k4 k5 k6 k7 k8
                        simp [results, Tryd.f17, go_sem, k0, k1, k2, k3, k4, k5, k6, k7, k8, hv, hc, hd0]
                      · exact ⟨rfl, OW.out⟩
end Go.Proofs.YteahiigfclabfaaDoor.H
