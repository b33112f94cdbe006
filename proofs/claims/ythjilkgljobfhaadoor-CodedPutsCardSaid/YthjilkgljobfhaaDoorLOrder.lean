/-
  CodedOrder, walked.
-/
import Derived.Test.YthjilkgljobfhaaDoorCAwake
import Derived.StillTailTactics
namespace Go.Proofs.YthjilkgljobfhaaDoor
open Go.RowKit

theorem aw {w u : World} (hw : Only Nix w u) (hL : Laid u) : Calls Tryd.prog 9 #[] u fun e w' => e = .returned (.bool true) ∧ Only Nix w w' :=
  (awake_any hL).mono fun _ _ hh => ⟨hh.1, hw.trans hh.2⟩
/-- a number, in the range or outside -/
def Out (z : Int) : Prop := z < 0 ∨ 68719476735 < z
theorem out_or (z : Int) : Out z ∨ ∃ n : Nat, z = (n : Int) ∧ n < 68719476736 := by
  unfold Out
  by_cases h : z < 0
  · exact .inl (.inl h)
  · by_cases h2 : 68719476735 < z
    · exact .inl (.inr h2)
    · exact .inr ⟨z.toNat, by omega, by omega⟩
/-- Put of any number: the error, and (if there is none) the code -/
theorem put_src {u : World} (hL : Laid u) (n : Nat) (hn : n < 68719476736) :
    Calls Tryd.prog 7 #[iv (n : Int)] u fun e w' => ∃ g, e = .returned (.tuple #[.slice (some ⟨g, 0, none⟩) (cd n).length (cd n).length, iv 0]) ∧ Src w' (.slice (some ⟨g, 0, none⟩) (cd n).length (cd n).length) (cd n) ∧ Only Nix u w' :=
  put_at hL n _ _ _ rfl hn (cd_len n).symm rfl

def OrdP (w : World) (n m : Nat) (s9 : Value) (wr : World) : Prop :=
  ∃ j : Nat, j ≤ (cd n).length ∧ j ≤ (cd m).length ∧ s9 = iv j ∧ (∀ i, i < j → (cd n)[i]? = (cd m)[i]?) ∧ Only Nix w wr

set_option maxHeartbeats 1000000 in
theorem order_in {w : World} (hL : Laid w) (n m : Nat) (hn : n < 68719476736) (hm : m < 68719476736) :
    Calls Tryd.prog 5 #[iv n, iv m] w fun e w' => e = .returned (.bool true) ∧ Only Nix w w' := by
  have HL : Hid (∀ u, Only Nix w u → Laid u) := fun u o => hL.nix o
  have hl7 : (cd n).length ≤ 7 := by rw [cd_len]; exact (szOf_bd n).2
  have hm7 : (cd m).length ≤ 7 := by rw [cd_len]; exact (szOf_bd m).2
  clear hL
  go_enter Tryd.func5, Tryd.ntmps5
  go_wp2_with fail
  refine (put_src (HL.out _ (Only.refl _ _)) n hn).mono ?_
  rintro e w1 ⟨g1, rfl, s1, o1⟩
  have S1 := Lib.hid s1
  clear s1
  go_wp2_with fail
  refine (put_src (HL.out _ o1) m hm).mono ?_
  rintro e w2 ⟨g2, rfl, s2, o2⟩
  have S2 := Lib.hid s2
  clear s2
  go_wp2
  go_loopw [9] (fun s9 wr => OrdP w2 n m s9 wr) (fun s9 _ => (cd n).length - (intOf s9).toNat)
  case atStart => exact ⟨0, Nat.zero_le _, Nat.zero_le _, rfl, fun i hi => by omega, Only.refl _ _⟩
  case round =>
    obtain ⟨j, hj1, hj2, rfl, heq, ho⟩ := hrel
    have Heq := Lib.hid heq
    clear heq
    by_cases h1 : j < (cd n).length ∧ j < (cd m).length
    · obtain ⟨h1, h2⟩ := h1
      obtain ⟨ad, ead, hx⟩ := ((S1.out.nix o2).nix ho).at_ h1
      obtain ⟨bd, ebd, hy⟩ := (S2.out.nix ho).at_ h2
      injection ead with ead
      injection ebd with ebd
      subst ead ebd
      rw [Addr.add_lit, Nat.zero_add] at hx hy
      have hx2 : (cd n)[j]? = some (cd n)[j] := List.getElem?_eq_getElem h1
      have hy2 : (cd m)[j]? = some (cd m)[j] := List.getElem?_eq_getElem h2
      have hx256 := cd_lt n hn _ (List.getElem_mem h1)
      have hy256 := cd_lt m hm _ (List.getElem_mem h2)
      generalize (cd n)[j] = x at *
      generalize (cd m)[j] = y at *
      unfold byt at hx hy
      have HX := Lib.hid hx2
      have HY := Lib.hid hy2
      clear hx2 hy2
      have d1 : (j : Int) < ((cd n).length : Int) := by omega
      have d2 : (j : Int) < ((cd m).length : Int) := by omega
      by_cases hxy : x = y
      · subst hxy
        go_wp2
        go_quiet (fail)
        go_wp2
        go_roundw
        case rel =>
          refine ⟨j + 1, by omega, by omega, by go_num, fun i hi => ?_, ho.drewN _⟩
          by_cases hij : i = j
          · subst hij; rw [HX.out, HY.out]
          · exact Heq.out i (by omega)
        case measure => simp [intOf]; omega
      · have hlt : decide ((x : Int) < (y : Int)) = decide ((n : Int) < (m : Int)) := by
          by_cases hc : x < y
          · have := cd_order n m j hn hm Heq.out x y HX.out HY.out hc
            rw [decide_eq_true (by omega : (x : Int) < y), decide_eq_true (by omega : (n : Int) < m)]
          · have := cd_order m n j hm hn (fun i hi => (Heq.out i hi).symm) y x HY.out HX.out (by omega)
            rw [decide_eq_false (by omega : ¬ (x : Int) < y), decide_eq_false (by omega : ¬ (n : Int) < m)]
        have hnm : n ≠ m := by
          intro e
          subst e
          have := HX.out.symm.trans HY.out
          exact hxy (Option.some.inj this)
        have Hlt := Lib.hid hlt
        have hne : ((x : Int) != (y : Int)) = true := by simp; omega
        have hne2 : ((n : Int) != (m : Int)) = true := by simp; omega
        clear hlt
        go_wp2
        go_quiet (fail)
        go_wp2
        refine wp_region_still_tail 19 (by kernel_rfl) (by kernel_rfl) ?_
        simp only [List.take_succ_cons, List.take_zero, List.drop_succ_cons, List.drop_zero]
        change wpStill _ _ (wr.drewN nq).drew (fun a' => wpList _ _ _ _ a' (wr.drewN nq).drew) _ _
        have hx4 : (wr.drewN nq).drew.cell? ⟨g1, j, none⟩ = some (.int .u8 (x : Int)) := hx
        have hy4 : (wr.drewN nq).drew.cell? ⟨g2, j, none⟩ = some (.int .u8 (y : Int)) := hy
        have ho4 : Only Nix w2 (wr.drewN nq).drew := (ho.drewN _).drew
        generalize (wr.drewN nq).drew = wq at *
        clear hx hy ho
        have hbb : (decide (x < y) == decide (n < m)) = true := by
          have := Hlt.out
          simp only [Int.ofNat_lt] at this
          simp [this]
        repeat still_step
        refine wpStill_nil ?_
        go_wp2_with fail
        refine (aw (w := w) ((o1.trans o2).trans ho4) (HL.out _ ((o1.trans o2).trans ho4))).mono ?_
        rintro e w5 ⟨rfl, o5⟩
        go_wp2
        go_ret
        exact ⟨rfl, o5⟩
    · obtain rfl : n = m := cd_begin n m hn hm (fun i hi1 hi2 => Heq.out i (by omega))
      have d1 : decide (j < (cd n).length) = false := by simp; omega
      go_wp2_with fail
      refine (aw (w := w) ((o1.trans o2).trans ho) (HL.out _ ((o1.trans o2).trans ho))).mono ?_
      rintro e w5 ⟨rfl, o5⟩
      go_wp2
      go_ret
      exact ⟨rfl, o5⟩

set_option maxHeartbeats 1000000 in
theorem codedOrder_walk (z y : Int) (w : World) (hL : Laid w) :
    Calls Tryd.prog 5 #[iv z, iv y] w fun e w' => e = .returned (.bool true) ∧ Only Nix w w' := by
  have HL : Hid (∀ u, Only Nix w u → Laid u) := fun u o => hL.nix o
  rcases out_or z with hz | ⟨n, rfl, hn⟩
  · rcases out_or y with hy | ⟨m, rfl, hm⟩
    · clear hL
      have Hz := Lib.hid hz
      have Hy := Lib.hid hy
      clear hz hy
      go_enter Tryd.func5, Tryd.ntmps5
      go_wp2_with fail
      refine (put_no z Hz.out).mono ?_
      rintro e w1 ⟨rfl, rfl⟩
      go_wp2_with fail
      refine (put_no y Hy.out).mono ?_
      rintro e w1 ⟨rfl, rfl⟩
      go_wp2_with fail
      refine (aw (Only.refl _ _) (HL.out _ (Only.refl _ _))).mono ?_
      rintro e w5 ⟨rfl, o5⟩
      go_wp2
      go_ret
      exact ⟨rfl, o5⟩
    · clear hL
      have Hz := Lib.hid hz
      clear hz
      go_enter Tryd.func5, Tryd.ntmps5
      go_wp2_with fail
      refine (put_no z Hz.out).mono ?_
      rintro e w1 ⟨rfl, rfl⟩
      go_wp2_with fail
      refine (put_src (HL.out _ (Only.refl _ _)) m hm).mono ?_
      rintro e w1 ⟨g1, rfl, s1, o1⟩
      clear s1
      go_wp2_with fail
      refine (aw o1 (HL.out _ o1)).mono ?_
      rintro e w5 ⟨rfl, o5⟩
      go_wp2
      go_ret
      exact ⟨rfl, o5⟩
  · rcases out_or y with hy | ⟨m, rfl, hm⟩
    · clear hL
      have Hy := Lib.hid hy
      clear hy
      go_enter Tryd.func5, Tryd.ntmps5
      go_wp2_with fail
      refine (put_src (HL.out _ (Only.refl _ _)) n hn).mono ?_
      rintro e w1 ⟨g1, rfl, s1, o1⟩
      clear s1
      go_wp2_with fail
      refine (put_no y Hy.out).mono ?_
      rintro e w2 ⟨rfl, rfl⟩
      go_wp2_with fail
      refine (aw o1 (HL.out _ o1)).mono ?_
      rintro e w5 ⟨rfl, o5⟩
      go_wp2
      go_ret
      exact ⟨rfl, o5⟩
    · exact order_in hL n m hn hm
end Go.Proofs.YthjilkgljobfhaaDoor
