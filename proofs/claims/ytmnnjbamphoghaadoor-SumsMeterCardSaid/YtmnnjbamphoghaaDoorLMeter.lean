/-
  SumsMeter, walked.
-/
import Derived.Test.YtmnnjbamphoghaaDoorMSum
namespace Go.Proofs.YtmnnjbamphoghaaDoor
open Go.RowKit

/-- a slice of slices of bytes that came in -/
structure ListsIn (w : World) (A : Option Addr) (bss : List (List Nat)) : Prop where
  each : ∀ j, (hj : j < bss.length) → ∃ ad A' c', A = some ad ∧ w.cell? (ad.add j) = some (.slice A' bss[j].length c') ∧ bss[j].length ≤ maxLen ∧ (bss[j].length ≤ 140737488355328 → Src w (.slice A' bss[j].length c') bss[j])
def MLens (bss : List (List Nat)) (s5 s6 : Value) : Prop := ∃ i : Nat, i ≤ bss.length ∧ s6 = iv i ∧ s5 = iv (total (bss.take i) : Nat) ∧ ∀ j, (hj : j < bss.length) → j < i → bss[j].length ≤ 200
def MAsks (w : World) (b : Nat) (T m : Nat) (s9 : Value) (wr : World) : Prop :=
  ∃ (i : Nat) (cs : Array Value) (dn : Int), i ≤ m ∧ s9 = iv i ∧ (dn = 0 ∨ dn = 1) ∧ Mt wr b cs dn (T * i) i ∧ Only Nix w wr
theorem total_lens (bss : List (List Nat)) (i : Nat) (h : ∀ j, (hj : j < bss.length) → j < i → bss[j].length ≤ 200) : total (bss.take i) ≤ 200 * i := by
  induction i with
  | zero => simp [total]
  | succ i ih =>
    have := ih (fun j hj hl => h j hj (by omega))
    by_cases hi : i < bss.length
    · rw [total_take bss i hi]
      have := h i hi (by omega)
      omega
    · rw [List.take_of_length_le (by omega)] at *
      omega

set_option maxRecDepth 100000 in
set_option maxHeartbeats 1000000 in
theorem meter_go (A : Option Addr) (c : Nat) (bss : List (List Nat)) (m : Nat) (w : World) (hL : Laid w) (h : ListsIn w A bss) (h20 : bss.length ≤ 20) (hm : m ≤ 8) :
    Calls Tryd.prog 7 #[.slice A bss.length c, iv (m : Int)] w fun e w' => e = .returned (.bool true) ∧ Only Nix w w' := by
  have d1 : decide (20 < (bss.length : Int)) = false := by simp; omega
  have d2 : decide ((m : Int) < 0) = false := by simp
  have d3 : decide (8 < (m : Int)) = false := by simp; omega
  have h6 : 5 < w.heap.size := World.block_lt_of_cell? w _ (hL.l16 0 (by decide))
  go_enter Tryd.func7, Tryd.ntmps7
  go_wp2
  clear d1 d2 d3
  go_loop [5, 6] (fun s5 s6 => MLens bss s5 s6) (fun _ s6 => bss.length - (intOf s6).toNat)
  case atStart => exact ⟨0, Nat.zero_le _, rfl, rfl, (fun j _ hl => by omega)⟩
  case round =>
    obtain ⟨i, hi, rfl, rfl, hlens⟩ := hrel
    have hb := total_lens bss i hlens
    have HLs := Lib.hid hlens
    clear hlens
    by_cases hlt : i < bss.length
    · obtain ⟨ad, A', c', e1, hx, hml, _⟩ := h.each i hlt
      subst e1
      have hlt2 : (i : Int) < (bss.length : Int) := by omega
      have hst : Hid (total (bss.take (i + 1)) = total (bss.take i) + bss[i].length) := total_take bss i hlt
      have hnew : Hid (bss[i].length ≤ 200 → ∀ j, (hj : j < bss.length) → j < i + 1 → bss[j].length ≤ 200) := by
        show _ → _
        intro h2 j hj hl
        by_cases hji : j = i
        · subst hji; exact h2
        · exact HLs.out j hj (by omega)
      unfold maxLen at hml
      generalize bss[i].length = n at *
      generalize total (bss.take i) = T at *
      by_cases hn : 200 < n
      · have hn2 : 200 < (n : Int) := by omega
        go_wp2_with fail
        refine (awake_any hL).mono ?_
        rintro e w1 ⟨rfl, ho1⟩
        go_wp2
        go_ret
        exact ⟨rfl, ho1⟩
      · have hn2 : ¬ 200 < (n : Int) := by omega
        go_wp2
        go_round
        case rel => exact ⟨i + 1, by omega, by go_num, by rw [hst.out]; go_num, hnew.out (by omega)⟩
        case measure => simp [intOf]; omega
    · obtain rfl : i = bss.length := by omega
      rw [List.take_length] at *
      have h200 : Hid (∀ bs ∈ bss, bs.length ≤ 200) := by
        show ∀ _, _
        intro bs hbs
        obtain ⟨j, hj, rfl⟩ := List.mem_iff_getElem.1 hbs
        exact HLs.out j hj hj
      have hlist : Lists w (.slice A bss.length c) bss := by
        refine ⟨⟨A, c, rfl, fun j hj => ?_⟩, by omega⟩
        obtain ⟨ad, A', c', e1, hx, _, hs⟩ := h.each j hj
        have := HLs.out j hj hj
        exact ⟨ad, _, e1, hx, hs (by omega)⟩
      have hge : ¬ ((bss.length : Nat) : Int) < (bss.length : Int) := by omega
      clear HLs hlt
      go_wp2_with fail
      refine (newMeter_any w).mono ?_
      rintro e w1 ⟨rfl, m1, o1⟩
      generalize hT : total bss = T at *
      have HT := Lib.hid hT
      clear hT
      go_wp2_with fail
      go_loopw [9] (fun s9 wr => MAsks w w.heap.size T m s9 wr) (fun s9 _ => m - (intOf s9).toNat)
      case atStart => exact ⟨0, mz, 0, Nat.zero_le _, rfl, .inl rfl, by rw [Nat.mul_zero]; exact m1, o1⟩
      case round =>
        clear m1 o1
        obtain ⟨i, cs, dn, hi, rfl, hd, mt, ho⟩ := hrel
        have hTi : T * i ≤ 4000 * 8 := Nat.mul_le_mul (by omega) (by omega)
        by_cases hlt : i < m
        · have hlt2 : (i : Int) < (m : Int) := by omega
          have hbl := mt.box.lt
          have MS := Lib.hid (msum_any (hL.nix ho) (Nat.le_refl _) hbl h6 hd mt hlist ho h20 h200.out (by omega) (by omega))
          clear mt
          have hne : (((sm 16 32773 bss.flatten : Nat) : Int) != ((sm 16 32773 bss.flatten : Nat) : Int)) = false := by simp
          have HS := Lib.hid (fun (u : World) (hu : Only Nix w u) => (Sum16_any (hL.nix hu) (hlist.nix hu)).mono fun _ _ hh => (⟨hh.1, hu.trans hh.2, hh.2⟩ : _ ∧ Only Nix w _ ∧ Only Nix u _))
          generalize sm 16 32773 bss.flatten = X at *
          go_wp2_with fail
          refine (MS.out).mono ?_
          rintro e w2 ⟨rfl, cs2, m2, o2⟩
          have n2 : Only Nix w w2 := ho.then o2 (fun i e => .inr (by have e' : i = w.heap.size := e; omega))
          have M2 := Lib.hid m2
          clear m2
          go_wp2_with fail
          refine (HS.out _ n2).mono ?_
          rintro e w3 ⟨rfl, o3, o23⟩
          have Fin : Hid (Mt w3 w.heap.size cs2 1 (T * (i + 1)) (i + 1)) := by
            have m2 := M2.out
            rw [HT.out, show T * i + T = T * (i + 1) from (Nat.mul_succ T i).symm] at m2
            exact m2.only o23 (fun e => e)
          go_wp2
          go_roundw
          case rel => exact ⟨i + 1, cs2, 1, by omega, by go_num, .inr rfl, Fin.out, o3⟩
          case measure => simp [intOf]; omega
        · obtain rfl : i = m := by omega
          have hge2 : ¬ (i : Int) < (i : Int) := by omega
          have hq : (((T * i : Nat) : Int) == (T : Int) * (i : Int)) = true := by rw [beq_iff_eq, Int.natCast_mul]
          have hTi2 : (T : Int) * (i : Int) ≤ 32000 := by
            have : ((T * i : Nat) : Int) ≤ 32000 := by omega
            rwa [Int.natCast_mul] at this
          have hTi3 : 0 ≤ (T : Int) * (i : Int) := by
            have : (0 : Int) ≤ ((T * i : Nat) : Int) := Int.natCast_nonneg _
            rwa [Int.natCast_mul] at this
          have M := Lib.hid (many_any mt)
          clear mt
          go_wp2_with fail
          refine (M.out).mono ?_
          rintro e w2 ⟨rfl, rfl⟩
          go_wp2_with fail
          refine (many_nil _).mono ?_
          rintro e w2 ⟨rfl, rfl⟩
          go_wp2_with fail
          refine (msum_nil _ _).mono ?_
          rintro e w2 ⟨rfl, o2⟩
          have n2 := ho.trans o2
          go_wp2_with fail
          refine (aw n2 (hL.nix n2)).mono ?_
          rintro e w3 ⟨rfl, o3⟩
          go_wp2
          go_ret
          exact ⟨rfl, o3⟩

set_option maxHeartbeats 400000 in
theorem sumsMeter_walk (A : Option Addr) (c : Nat) (bss : List (List Nat)) (x : Int) (w : World) (hL : Laid w) (h : ListsIn w A bss) (hml : bss.length ≤ maxLen) :
    Calls Tryd.prog 7 #[.slice A bss.length c, iv x] w fun e w' => e = .returned (.bool true) ∧ Only Nix w w' := by
  unfold maxLen at hml
  by_cases t0 : 20 < (bss.length : Int)
  · have b0 : decide (20 < (bss.length : Int)) = true := by simpa using t0
    go_enter Tryd.func7, Tryd.ntmps7
    go_wp2_with fail
    refine (awake_any hL).mono ?_
    rintro e w1 ⟨rfl, ho1⟩
    go_wp2
    go_ret
    exact ⟨rfl, ho1⟩
  have b0 : decide (20 < (bss.length : Int)) = false := by simpa using t0
  by_cases t1 : x < 0
  · have b1 : decide (x < 0) = true := by simpa using t1
    go_enter Tryd.func7, Tryd.ntmps7
    go_wp2_with fail
    refine (awake_any hL).mono ?_
    rintro e w1 ⟨rfl, ho1⟩
    go_wp2
    go_ret
    exact ⟨rfl, ho1⟩
  have b1 : decide (x < 0) = false := by simpa using t1
  by_cases t2 : 8 < x
  · have b2 : decide (8 < x) = true := by simpa using t2
    go_enter Tryd.func7, Tryd.ntmps7
    go_wp2_with fail
    refine (awake_any hL).mono ?_
    rintro e w1 ⟨rfl, ho1⟩
    go_wp2
    go_ret
    exact ⟨rfl, ho1⟩
  have b2 : decide (8 < x) = false := by simpa using t2
  obtain ⟨m, rfl⟩ := Int.eq_ofNat_of_zero_le (show 0 ≤ x by omega)
  exact meter_go A c bss m w hL h (by omega) (by omega)
end Go.Proofs.YtmnnjbamphoghaaDoor
