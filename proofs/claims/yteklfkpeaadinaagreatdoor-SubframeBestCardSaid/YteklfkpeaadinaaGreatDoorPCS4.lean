/-
  Package subframe: divided; a loop that turns each number of a row.
-/
import Derived.Test.YteklfkpeaadinaaGreatDoorPCS3
namespace Go.Proofs.YteklfkpeaadinaaGreatDoor.S
open Go.RowKit
open K (linV)
theorem RowI.stored {w : World} {base g n c : Nat} {xs : List Int} (h : RowI w base (.slice (some ⟨g, 0, none⟩) n c) xs) (j : Nat) (u : Int) (hu : -9223372036854775808 ≤ u ∧ u ≤ 9223372036854775807) :
    RowI (w.setCell ⟨g, j, none⟩ (iv u)) base (.slice (some ⟨g, 0, none⟩) n c) (xs.set j u) := by
  obtain ⟨A, c', e⟩ := h.form
  injection e with _ en _
  have h1 := h.own
  rw [← en] at h1
  refine ⟨?_, fun x hx => ?_⟩
  · have := (h1.stored j (iv u)).1
    rw [List.length_set, ← en, List.map_set]
    exact this
  · rcases List.mem_or_eq_of_mem_set hx with hx | rfl
    · exact h.fits x hx
    · exact hu
theorem RowI.at_ {w : World} {base g n c : Nat} {xs : List Int} (h : RowI w base (.slice (some ⟨g, 0, none⟩) n c) xs) {j : Nat} (hj : j < xs.length) : w.cell? ⟨g, j, none⟩ = some (iv xs[j]) ∧ w.frozen? ⟨g, j, none⟩ = false := by
  obtain ⟨A, c', e⟩ := h.form
  injection e with _ en _
  have h1 := h.own
  rw [← en] at h1
  refine ⟨?_, h1.frozenAt j⟩
  rw [h1.cellAt j (by omega), List.getElem?_map, List.getElem?_eq_getElem hj]
  rfl
theorem RowI.some_ {w : World} {base n c : Nat} {A : Option Addr} {xs : List Int} (h : RowI w base (.slice A n c) xs) (hn : 0 < n) : ∃ g, A = some ⟨g, 0, none⟩ ∧ base ≤ g ∧ n ≤ c := by
  obtain ⟨A', c', e⟩ := h.form
  injection e with _ en _
  rcases h.own.2 with ⟨e, h0⟩ | ⟨g, cap, cur, e, hb, _, hc, _⟩
  · omega
  · injection e with e1 e2 e3
    exact ⟨g, e1, hb, by omega⟩
/-- the first numbers of a row, turned -/
def upTo (f : Int → Int) (xs : List Int) (j : Nat) : List Int := (xs.take j).map f ++ xs.drop j
theorem upTo_len (f : Int → Int) (xs : List Int) (j : Nat) : (upTo f xs j).length = xs.length := by simp [upTo]; omega
theorem upTo_zero (f : Int → Int) (xs : List Int) : upTo f xs 0 = xs := by simp [upTo]
theorem upTo_all (f : Int → Int) (xs : List Int) (j : Nat) (h : xs.length ≤ j) : upTo f xs j = xs.map f := by simp [upTo, List.take_of_length_le h, List.drop_eq_nil_of_le h]
theorem upTo_at (f : Int → Int) (xs : List Int) (j : Nat) (h : j < xs.length) : (upTo f xs j)[j]'(by rw [upTo_len]; exact h) = xs[j] := by
  unfold upTo
  rw [List.getElem_append_right (by simp; omega)]
  simp [Nat.min_eq_left (Nat.le_of_lt h)]
theorem upTo_set (f : Int → Int) (xs : List Int) (j : Nat) (h : j < xs.length) : (upTo f xs j).set j (f xs[j]) = upTo f xs (j + 1) := by
  unfold upTo
  have hl : ((xs.take j).map f).length = j := by simp; omega
  rw [List.set_append_right _ _ (by omega), hl, Nat.sub_self, List.drop_eq_getElem_cons h, List.set_cons_zero, List.take_succ_eq_append_getElem h, List.map_append]
  simp
/-- a number that is divided -/
def dvd (wd : Nat) (x : Int) : Int := x / 2 ^ wd
theorem dvd_fits (wd : Nat) (x : Int) (h : -9223372036854775808 ≤ x ∧ x ≤ 9223372036854775807) : -9223372036854775808 ≤ dvd wd x ∧ dvd wd x ≤ 9223372036854775807 := by
  unfold dvd
  have hp : (0 : Int) < 2 ^ wd := Int.pow_pos (by decide)
  have h1 : (1 : Int) ≤ 2 ^ wd := hp
  generalize (2 : Int) ^ wd = P at *
  refine ⟨?_, ?_⟩
  · rw [Int.le_ediv_iff_mul_le hp]
    omega
  · rcases Int.lt_or_le x 0 with hx | hx
    · have := Int.ediv_neg_of_neg_of_pos hx hp
      omega
    · have := Int.ediv_le_self P hx
      omega
def DivP (w : World) (f : Int → Int) (xs : List Int) (v : Value) (s : Value) (wr : World) : Prop := ∃ j : Nat, j ≤ xs.length ∧ s = iv j ∧ RowI wr w.heap.size v (upTo f xs j) ∧ Only Nix w wr
set_option maxHeartbeats 2000000 in
theorem divided_any {w : World} (A : Option Addr) (n c wd : Nat) (xs : List Int) (hx : ISrc w (.slice A n c) xs) (hn : n ≤ 65535) (hwd : wd ≤ 62) :
    Calls Tryz.prog 58 #[.slice A n c, iv wd] w fun e w' => ∃ v, e = .returned v ∧ RowI w' w.heap.size v (xs.map (dvd wd)) ∧ Only Nix w w' := by
  have hl := hx.len
  have HC := Lib.hid (clone_ints A n c xs hx (by omega))
  have HU : Hid (upTo (dvd wd) xs n = xs.map (dvd wd)) := Lib.hid (upTo_all _ _ _ (by omega))
  have Hl := Lib.hid hl
  have HF := Lib.hid hx.fits
  have hwi : (wd : Int) ≤ 62 := by omega
  have Hwd := Lib.hid hwd
  clear hx hl hwd
  go_enter Tryz.func58, Tryz.ntmps58
  go_wp2_with fail
  refine (HC.out).mono ?_
  rintro e w1 ⟨v, rfl, hrow, ho⟩
  obtain ⟨A1, c1, rfl⟩ := hrow.form
  rw [← Hl.out] at hrow ⊢
  have Hrow := Lib.hid hrow
  have HO := Lib.hid ho
  clear hrow ho HC
  go_wp2
  go_loopw [10] (fun s wr => DivP w (dvd wd) xs (.slice A1 n c1) s wr) (fun s _ => n - (intOf s).toNat)
  case atStart => exact ⟨0, Nat.zero_le _, rfl, by rw [upTo_zero]; exact Hrow.out, HO.out⟩
  case round =>
    obtain ⟨j, hj, rfl, hr, hO⟩ := hrel
    rw [← Hl.out] at hj
    by_cases hlt : j < n
    · have hltx : j < xs.length := by rw [← Hl.out]; exact hlt
      obtain ⟨g, rfl, hg, hnc⟩ := hr.some_ (by omega)
      have hlt2 : (j : Int) < (n : Int) := by omega
      have hu : j < (upTo (dvd wd) xs j).length := by rw [upTo_len]; exact hltx
      obtain ⟨hc, hf⟩ := hr.at_ hu
      rw [upTo_at _ _ _ hltx] at hc
      have hft := HF.out _ (List.getElem_mem hltx)
      have HS : Hid (RowI (wr.setCell ⟨g, j, none⟩ (iv (dvd wd xs[j]))) w.heap.size (.slice (some ⟨g, 0, none⟩) n c1) (upTo (dvd wd) xs (j + 1))) := Lib.hid (by
        rw [← upTo_set _ _ _ hltx]
        exact hr.stored j _ (dvd_fits wd _ hft))
      have HO2 := Lib.hid (hO.setCell (p := ⟨g, j, none⟩) (.inr hg) (iv (dvd wd xs[j])))
      generalize hxj : xs[j] = x at *
      have hdv : ∃ y, dvd wd x = y := ⟨_, rfl⟩
      obtain ⟨y, hy⟩ := hdv
      have hy2 := hy
      unfold dvd at hy2
      rw [hy] at HS HO2
      clear hr hO hu hltx hxj
      go_wp2
      go_roundw
      case rel => exact ⟨j + 1, by rw [← Hl.out]; omega, by go_num, HS.out, HO2.out⟩
      case measure => simp [intOf]; omega
    · obtain rfl : j = n := by omega
      rw [HU.out] at hr
      have HR := Lib.hid hr
      have HO2 := Lib.hid hO
      clear hr hO
      go_wp2
      go_ret
      exact ⟨_, rfl, HR.out, HO2.out⟩
end Go.Proofs.YteklfkpeaadinaaGreatDoor.S
