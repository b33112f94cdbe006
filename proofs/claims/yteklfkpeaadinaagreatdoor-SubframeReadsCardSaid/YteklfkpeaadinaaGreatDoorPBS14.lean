/-
  Package subframe: restored; slices.Repeat of one number.
-/
import Derived.Test.YteklfkpeaadinaaGreatDoorPBS6
import Derived.Test.YteklfkpeaadinaaGreatDoorPBSH
namespace Go.Proofs.YteklfkpeaadinaaGreatDoor.S
open Go.RowKit
open K (linV rstE rstV)
/-- may residuals be restored -/
def RsOk (P S : Int) (C : List Int) (d : Nat) (fs ds : List Int) : Prop := rstE P S C fs ds = 0 ∧ fitsD d (rstV P S C fs ds)
/-- what restored answers -/
structure RsdR (P S : Int) (C : List Int) (d : Nat) (fs ds : List Int) (w : World) (e : Ending) (w' : World) : Prop where
  only : Only Nix w w'
  bad : ¬ RsOk P S C d fs ds → e = .returned (.tuple #[.slice none 0 0, iv 10])
  good : RsOk P S C d fs ds → ∃ g, e = .returned (.tuple #[.slice (some ⟨g, 0, none⟩) (rstV P S C fs ds).length (rstV P S C fs ds).length, iv 0]) ∧ Box w' g 3 ((rstV P S C fs ds).map iv).toArray ∧ w.heap.size ≤ g
set_option maxHeartbeats 4000000 in
theorem restored_any {w : World} (k o wd lp ls : Int) (Ac : Option Addr) (nc cc : Nat) (m ro : Int) (Ap Ab : Option Addr) (np cp nb cb : Nat) (P S : Int) (C : List Int) (d : Nat) (hd1 : 1 ≤ d) (hd2 : d ≤ 33) (Af : Option Addr) (nf cf : Nat) (fs : List Int) (A : Option Addr) (n c : Nat) (ds : List Int)
    (hP : ∀ u, Only Nix w u → Calls Tryz.prog 91 #[spV k o wd lp ls (.slice Ac nc cc) m ro (.slice Ap np cp) (.slice Ab nb cb)] u fun e w' => PreR P S C u e w')
    (hfs : ISrc w (.slice Af nf cf) fs) (hds : ISrc w (.slice A n c) ds) (hn : n ≤ 1000) (hfl : fs.length = C.length) :
    Calls Tryz.prog 84 #[spV k o wd lp ls (.slice Ac nc cc) m ro (.slice Ap np cp) (.slice Ab nb cb), iv d, .slice Af nf cf, .slice A n c] w fun e w' => RsdR P S C d fs ds w e w' := by
  have a0 := (Only.refl Nix w).alloc (.cells (spC k o wd lp ls (.slice Ac nc cc) m ro (.slice Ap np cp) (.slice Ab nb cb)) 28)
  have B0 := Box.new w 28 (spC k o wd lp ls (.slice Ac nc cc) m ro (.slice Ap np cp) (.slice Ab nb cb))
  obtain ⟨Wa, hWa⟩ : ∃ Wa, w.alloc (.cells (spC k o wd lp ls (.slice Ac nc cc) m ro (.slice Ap np cp) (.slice Ab nb cb)) 28) = Wa := ⟨_, rfl⟩
  rw [hWa] at a0 B0
  have HP := Lib.hid (hP Wa a0)
  have HA := Lib.hid a0
  have HFs := Lib.hid hfs
  have HDs := Lib.hid hds
  have Hfl := Lib.hid hfl
  have d0 := (B0).cell 0
  have d1 := (B0).cell 1
  have d2 := (B0).cell 2
  have d3 := (B0).cell 3
  have d4 := (B0).cell 4
  have d5 := (B0).cell 5
  have d6 := (B0).cell 6
  have d7 := (B0).cell 7
  have d8 := (B0).cell 8
  have d9 := (B0).cell 9
  simp only [List.getElem?_toArray, List.getElem?_cons_zero, List.getElem?_cons_succ] at d0 d1 d2 d3 d4 d5 d6 d7 d8 d9
  clear hP hfs hds hfl a0 B0
  go_enter Tryz.func84, Tryz.ntmps84
  go_wp2_with fail
  refine (HP.out).mono ?_
  rintro e w1 ⟨A1, n1, c1, rfl, hC, o1⟩
  have HO1 := Lib.hid (HA.out.trans o1)
  have HRs := Lib.hid (K.restore_new (w := w1) P S A1 n1 c1 C Af nf cf fs A n c ds hC (HFs.out.nix HO1.out) (HDs.out.nix HO1.out) hn)
  clear hC o1 HP d0 d1 d2 d3 d4 d5 d6 d7 d8 d9
  go_wp2_with fail
  refine (HRs.out).mono ?_
  rintro e w2 ⟨⟨⟨A2, c2, rfl, hV⟩, o2⟩, hB⟩
  have HO2 := Lib.hid (HO1.out.trans o2)
  by_cases h1 : rstE P S C fs ds = 0
  · obtain ⟨g, he, hb, hg⟩ := hB h1
    injection he with he
    injection he with he
    simp only [Array.mk.injEq, List.cons.injEq, Value.slice.injEq, true_and, and_true] at he
    obtain ⟨⟨rfl, rfl⟩, _⟩ := he
    rw [h1]
    obtain ⟨N, hN⟩ : ∃ N, (rstV P S C fs ds).length = N := ⟨_, rfl⟩
    rw [hN] at hV ⊢
    have HN := Lib.hid hN
    have HB := Lib.hid hb
    have HG := Lib.hid (Nat.le_trans HO1.out.size hg)
    have HSa := Lib.hid (areSamples_any d hd1 hd2 (some ⟨g, 0, none⟩) N N (rstV P S C fs ds) hV)
    have HE := Lib.hid h1
    clear h1 hB hb hg hV o2 HRs hN
    by_cases h2 : fitsD d (rstV P S C fs ds)
    · rw [decide_eq_true h2] at HSa
      have HF : Hid (RsdR P S C d fs ds w (.returned (.tuple #[.slice (some ⟨g, 0, none⟩) N N, iv 0])) w2) := Lib.hid ⟨HO2.out, fun h => absurd ⟨HE.out, h2⟩ h, fun _ => ⟨g, by rw [HN.out], HB.out, HG.out⟩⟩
      clear h2
      go_wp2_with fail
      refine (HSa.out).mono ?_
      rintro e w3 ⟨rfl, rfl⟩
      go_wp2
      go_ret2
      exact HF.out
    · rw [decide_eq_false h2] at HSa
      have HF : Hid (RsdR P S C d fs ds w (.returned (.tuple #[.slice none 0 0, iv 10])) w2) := Lib.hid ⟨HO2.out, fun _ => rfl, fun h => absurd h.2 h2⟩
      clear h2
      go_wp2_with fail
      refine (HSa.out).mono ?_
      rintro e w3 ⟨rfl, rfl⟩
      go_wp2
      go_ret2
      exact HF.out
  · have h10 : rstE P S C fs ds = 10 := by
      unfold K.rstE at h1 ⊢
      split
      · rename_i hk
        rw [if_pos hk] at h1
        rw [if_neg (by rw [Hfl.out]; simp)] at h1 ⊢
        split
        · rename_i h2; rw [if_pos h2] at h1; exact absurd rfl h1
        · rfl
      · rfl
    have HF : Hid (RsdR P S C d fs ds w (.returned (.tuple #[.slice none 0 0, iv 10])) w2) := Lib.hid ⟨HO2.out, fun _ => rfl, fun h => absurd h.1 h1⟩
    rw [h10]
    generalize (rstV P S C fs ds).length = N at *
    clear h1 hB o2 HRs h10
    go_wp2
    go_ret2
    exact HF.out
set_option maxHeartbeats 2000000 in
theorem mul64_one (w : World) (y : Nat) (hy : y ≤ 65535) :
    Calls Tryz.prog 130 #[.int .u64 1, .int .u64 (y : Int)] w fun e w' => e = .returned (.tuple #[.int .u64 0, .int .u64 (y : Int)]) ∧ w = w' := by
  have h1 : bits .and .u64 1 4294967295 = 1 := by decide
  have h2n : y &&& 4294967295 = y := by
    have h32 : (2 : Nat) ^ 32 = 4294967296 := by decide
    rw [show (4294967295 : Nat) = 2 ^ 32 - 1 by decide, Nat.and_two_pow_sub_one_eq_mod, Nat.mod_eq_of_lt (by omega)]
  have h2 : bits .and .u64 (y : Int) 4294967295 = (y : Int) := by
    have h6 := u64_and_nat y 4294967295 (by omega) (by decide)
    rw [h2n] at h6
    exact h6
  have h3 : bits .and .u64 0 4294967295 = 0 := by decide
  have hyi : (y : Int) ≤ 65535 := by omega
  have h4 : (y : Int) / 4294967296 = 0 := by omega
  have h5 : y / 4294967296 = 0 := by omega
  clear hy
  go_enter Tryz.func130, Tryz.ntmps130
  go_wp2
  trace_state
  go_ret2
  exact ⟨rfl, rfl⟩
end Go.Proofs.YteklfkpeaadinaaGreatDoor.S
