/-
  foldAll.
-/
import Derived.Test.YtliemhadgbjjiaaRSrc
import Derived.Deep.OwnRows
namespace Go.Proofs.Ytliemhadgbjjiaa
open Go.RowKit

theorem Try.info_int : (Try.prog.info? 3).map (fun i => (i.zero, i.size, i.bytes)) = some (some (.int .i64 0), 1, 8) := by kernel_rfl
/-- noughts in a new block -/
theorem made_ints (n : Nat) : madeCells #[.int .i64 0] n = (List.replicate n (iv 0)).toArray := by
  apply Array.ext
  · simp [madeCells]
  · intro i h1 h2
    simp [madeCells, Nat.mod_one]
/-- folded numbers -/
def fds (xs : List Int) : List Int := xs.map fun x => (fd x : Int)
/-- foldAll's cells on the way -/
def fdC (xs : List Int) (j : Nat) : List Value := (xs.take j).map (fun x => iv (fd x : Nat)) ++ List.replicate (xs.length - j) (iv 0)
theorem fdC_zero (xs : List Int) : fdC xs 0 = List.replicate xs.length (iv 0) := by simp [fdC]
theorem fdC_all (xs : List Int) : fdC xs xs.length = (fds xs).map iv := by simp [fdC, fds]
theorem fdC_step (xs : List Int) (j : Nat) (h : j < xs.length) : (fdC xs j).toArray.setIfInBounds j (iv (fd xs[j] : Nat)) = (fdC xs (j + 1)).toArray := by
  unfold fdC
  rw [List.setIfInBounds_toArray, List.set_append_right _ _ (by simp; omega)]
  congr 1
  have e1 : j - (List.map (fun x => iv (fd x : Nat)) (xs.take j)).length = 0 := by simp; omega
  have e2 : xs.length - j = (xs.length - (j + 1)) + 1 := by omega
  rw [e1, e2, List.replicate_succ, List.set_cons_zero, List.take_succ_eq_append_getElem h, List.map_append, List.append_assoc]
  rfl

def FoldP (w : World) (xs : List Int) (s12 : Value) (wr : World) : Prop := ∃ j : Nat, j ≤ xs.length ∧ s12 = iv j ∧ (∀ x ∈ xs.take j, isR x) ∧ Box wr w.heap.size 3 (fdC xs j).toArray ∧ Only Nix w wr
set_option maxHeartbeats 1000000 in
theorem foldAll_any {w : World} (A : Option Addr) (c : Nat) (xs : List Int) (hx : ISrc w (.slice A xs.length c) xs) (h6 : xs.length ≤ 65535) :
    Calls Try.prog 35 #[.slice A xs.length c] w fun e w' =>
      (((∀ x ∈ xs, isR x) ∧ e = .returned (.tuple #[.slice (some ⟨w.heap.size, 0, none⟩) xs.length xs.length, iv 0]) ∧ Box w' w.heap.size 3 ((fds xs).map iv).toArray) ∨
       (¬ (∀ x ∈ xs, isR x) ∧ e = .returned (.tuple #[.slice none 0 0, iv 10]))) ∧ Only Nix w w' := by
  have hmk := fun (u : World) => run_make_row' (P := Try.prog) 22 3 (.int .i64 0) 8 Try.underlying22 Try.info_int rfl .i64 .i64 xs.length (by omega) (by omega) u
  simp only [made_ints] at hmk
  have HX := Lib.hid hx
  clear hx
  have HB := Lib.hid (Box.new w 3 (List.replicate xs.length (iv 0)).toArray)
  have HO := Lib.hid ((Only.refl Nix w).alloc (.cells (List.replicate xs.length (iv 0)).toArray 3))
  rw [← fdC_zero] at HB HO
  simp only [← fdC_zero] at hmk
  have HZ : Hid (fdC xs xs.length = (fds xs).map iv) := Lib.hid (fdC_all xs)
  have HT : Hid (xs.take xs.length = xs) := Lib.hid List.take_length
  generalize hN : xs.length = N at *
  have HN := Lib.hid hN
  clear hN
  generalize hC : fdC xs 0 = C0 at *
  have HC := Lib.hid hC
  clear hC
  go_enter Try.func35, Try.ntmps35
  go_wp2
  go_loopw [12] (fun s12 wr => FoldP w xs s12 wr) (fun s12 _ => N - (intOf s12).toNat)
  case atStart => exact ⟨0, Nat.zero_le _, rfl, by simp, by rw [HC.out]; exact HB.out, HO.out⟩
  case round =>
    obtain ⟨j, hj, rfl, hal, hB, hO⟩ := hrel
    rw [HN.out] at hj
    have Hal := Lib.hid hal
    clear hal
    by_cases hlt : j < N
    · have hltx : j < xs.length := by rw [HN.out]; exact hlt
      obtain ⟨ad, rfl, hxj0⟩ := HX.out.at_ hltx
      have hxj := cell_keep hO hxj0
      clear hxj0
      have hft := HX.out.fits _ (List.getElem_mem hltx)
      have HM := Lib.hid (List.getElem_mem hltx)
      have HS := Lib.hid (fdC_step xs j hltx)
      have HE := Lib.hid (List.take_succ_eq_append_getElem hltx)
      have hlt2 : (j : Int) < (N : Int) := by omega
      have hcj : wr.cell? ⟨w.heap.size, j, none⟩ = some (iv 0) := by
        rw [hB.cell]
        unfold fdC
        rw [List.getElem?_toArray, List.getElem?_append_right (by simp; omega), List.getElem?_replicate]
        simp
        omega
      have hfj := hB.frozen j
      generalize xs[j] = x at *
      clear hltx
      have HI := Lib.hid (isResidual_any wr x)
      by_cases hR : isR x
      · rw [decide_eq_true hR] at HI
        have HF := Lib.hid (fold_any wr x hR)
        have hfl := fd_lt hR
        have HR := Lib.hid hR
        clear hR
        generalize hF : fd x = f at *
        have HF2 := Lib.hid hF
        clear hF
        go_wp2_with fail
        refine (HI.out).mono ?_
        rintro e w1 ⟨rfl, rfl⟩
        go_wp2_with fail
        refine (HF.out).mono ?_
        rintro e w1 ⟨rfl, rfl⟩
        go_wp2
        go_roundw
        case rel =>
          refine ⟨j + 1, by rw [HN.out]; omega, by go_num, fun y hy => ?_, ?_, hO.setCell (p := ⟨w.heap.size, j, none⟩) (.inr (Nat.le_refl _)) _⟩
          · rw [HE.out] at hy
            rcases List.mem_append.1 hy with hy | hy
            · exact Hal.out y hy
            · simp at hy; subst hy; exact HR.out
          · have := hB.put j (iv (f : Nat))
            rw [HS.out] at this
            exact this
        case measure => simp [intOf]; omega
      · rw [decide_eq_false hR] at HI
        have HR := Lib.hid hR
        clear hR
        go_wp2_with fail
        refine (HI.out).mono ?_
        rintro e w1 ⟨rfl, rfl⟩
        go_wp2
        go_ret2
        exact ⟨.inr ⟨fun h => HR.out (h x HM.out), rfl⟩, hO⟩
    · obtain rfl : j = N := by omega
      rw [HT.out] at Hal
      rw [HZ.out] at hB
      have hlt2 : decide (j < j) = false := by simp
      go_wp2
      go_ret2
      exact ⟨.inl ⟨Hal.out, rfl, hB⟩, hO⟩
end Go.Proofs.Ytliemhadgbjjiaa
