/-
  Texts, comments, names: isText, isOf, parts, check.
-/
import Derived.Test.YtphpciglpnbblaaDoorTM
import Derived.Test.YtphpciglpnbblaaDoorTW
import Derived.OwnWalk
namespace Go.Proofs.YtphpciglpnbblaaDoor
open Go.RowKit Go.Shelf

/-- the two tables of unicode/utf8 are what start-up lays -/
abbrev Tabs (w : World) : Prop := Lib.Utf8Tabs 0 1 w
theorem Tabs.nix {w w' : World} (h : Tabs w) (ho : Only Nix w w') : Tabs w' := Utf8Tabs_below h (ho.below (Nat.le_refl _) (fun _ e => e.elim))
theorem isText_any {w : World} (s : ByteArray) (hs : s.size ≤ 1000000) (hT : Tabs w) : Calls Tryd.prog 48 #[.string s] w fun e w' => e = .returned (.bool (isT s)) ∧ Only Nix w w' := by
  have hV := Lib.hid ((Tryd.utf8_ValidString s w (by omega) hT).mono (fun e w' h => (⟨h.1, Only.ofBelow h.2 (Nat.le_refl _)⟩ : e = .returned (.bool (isT s)) ∧ Only Nix w w')))
  generalize isT s = B at *
  clear hT
  go_enter Tryd.func48, Tryd.ntmps48
  go_wp2_with fail
  refine (hV.out).mono ?_
  rintro e w1 ⟨rfl, ho⟩
  go_wp2
  go_ret
  exact ⟨rfl, ho⟩
theorem isPrinted_any {w : World} (r : Nat) : Calls Tryd.prog 53 #[.int .i32 (r : Int)] w fun e w' => e = .returned (.bool (prB r)) ∧ Only Nix w w' := by
  by_cases h1 : 32 ≤ r
  · have h1i : (32 : Int) ≤ (r : Int) := by omega
    by_cases h2 : r ≤ 126
    · have h2i : (r : Int) ≤ 126 := by omega
      have HB : Hid (prB r = true) := Lib.hid (by simp [prB, h1, h2])
      go_enter Tryd.func53, Tryd.ntmps53
      go_wp2
      go_ret
      exact ⟨by rw [HB.out]; rfl, Only.refl _ _⟩
    · have h2i : decide ((r : Int) ≤ 126) = false := by simp; omega
      have h2j : decide (r ≤ 126) = false := by simp; omega
      have HB : Hid (prB r = false) := Lib.hid (by simp [prB, h2])
      go_enter Tryd.func53, Tryd.ntmps53
      go_wp2
      go_ret
      exact ⟨by rw [HB.out]; rfl, Only.refl _ _⟩
  · have h1i : decide ((32 : Int) ≤ (r : Int)) = false := by simp; omega
    have h1j : decide (32 ≤ r) = false := by simp; omega
    have HB : Hid (prB r = false) := Lib.hid (by simp [prB, h1])
    go_enter Tryd.func53, Tryd.ntmps53
    go_wp2
    go_ret
    exact ⟨by rw [HB.out]; rfl, Only.refl _ _⟩
theorem isOfName_any {w : World} (r : Nat) : Calls Tryd.prog 60 #[.int .i32 (r : Int)] w fun e w' => e = .returned (.bool (nmB r)) ∧ Only Nix w w' := by
  have hP := Lib.hid (isPrinted_any (w := w) r)
  obtain ⟨B, hB⟩ : ∃ B, prB r = B := ⟨_, rfl⟩
  rw [hB] at hP
  have HN : Hid (nmB r = (B && decide (r ≠ 126))) := Lib.hid (by rw [← hB]; unfold nmB prB; by_cases h : 32 ≤ r <;> by_cases h2 : r ≤ 125 <;> by_cases h3 : r = 126 <;> simp [h, h2, h3] <;> omega)
  clear hB
  go_enter Tryd.func60, Tryd.ntmps60
  go_wp2_with fail
  refine (hP.out).mono ?_
  rintro e w1 ⟨rfl, ho⟩
  cases B with
  | true =>
    go_wp2
    go_ret
    refine ⟨?_, ho⟩
    rw [HN.out]
    by_cases h3 : r = 126
    · subst h3; rfl
    · have h3i : ¬ (r : Int) = 126 := by omega
      simp [h3, h3i]
  | false =>
    go_wp2
    go_ret
    exact ⟨by rw [HN.out]; rfl, ho⟩
/-- isOf's own function of a letter: not what the captured one tells -/
theorem isNot_any {u : World} {b k : Nat} {r : Nat} {B : Bool} (hc : u.cell? ⟨b, 0, none⟩ = some (.func (.func k) #[] #[])) (hen : ∀ args w, (callFunc k args).run Tryd.prog w = .ok (.enter k args) w)
    (hk : Calls Tryd.prog k #[.int .i32 (r : Int)] u fun e w' => e = .returned (.bool B) ∧ Only Nix u w') :
    Calls Tryd.prog 64 #[.int .i32 (r : Int), .pointer (some ⟨b, 0, none⟩)] u fun e w' => e = .returned (.bool (!B)) ∧ Only Nix u w' := by
  have HK := Lib.hid hk
  clear hk
  go_enter Tryd.func64, Tryd.ntmps64
  go_wp2_with fail
  refine (HK.out).mono ?_
  rintro e w1 ⟨rfl, ho⟩
  go_wp2
  go_ret
  exact ⟨rfl, ho⟩
/-- are all letters such ones? -/
theorem isOf_any {w : World} (s : ByteArray) (k : Nat) (p : Nat → Bool) (hp : ∀ r, 128 ≤ r → p r = false) (hen : ∀ args w, (callFunc k args).run Tryd.prog w = .ok (.enter k args) w)
    (hk : ∀ (u : World) (r : Nat), Calls Tryd.prog k #[.int .i32 (r : Int)] u fun e w' => e = .returned (.bool (p r)) ∧ Only Nix u w') :
    Calls Tryd.prog 52 #[.string s, .func (.func k) #[] #[]] w fun e w' => e = .returned (.bool ((nb s).all p)) ∧ Only Nix w w' := by
  obtain ⟨W1, hW1⟩ : ∃ W1, w.alloc (.cells #[.func (.func k) #[] #[]] 81) = W1 := ⟨_, rfl⟩
  have b1 := Box.new w 81 #[.func (.func k) #[] #[]]
  have a1 := Lib.hid ((Only.refl Nix w).alloc (.cells #[.func (.func k) #[] #[]] 81))
  rw [hW1] at b1 a1
  have hC := Lib.hid (Tryd.strings_ContainsFunc_grows 64 #[.pointer (some ⟨w.heap.size, 0, none⟩)] (enters_of Tryd.func64 (by kernel_rfl) rfl) (fun r => !p r) s W1 (fun W x _ hb => by
    have hc : W.cell? ⟨w.heap.size, 0, none⟩ = some (.func (.func k) #[] #[]) := by
      have := (b1.only (Only.ofBelow hb (Nat.le_refl _)) (fun e => e)).cell 0
      simpa using this
    exact (isNot_any hc hen (hk W x)).mono (fun e w' h => ⟨h.1, h.2.below (Nat.le_refl _) (fun _ e => e.elim)⟩)))
  rw [idx_any (fun r => !p r) (fun r hr => by rw [hp r hr]; rfl) s] at hC
  have HB : Hid ((!((nb s).any fun r => !p r)) = (nb s).all p) := Lib.hid (by rw [List.all_eq_not_any_not])
  obtain ⟨B, hB⟩ : ∃ B, ((nb s).any fun r => !p r) = B := ⟨_, rfl⟩
  rw [hB] at hC HB
  clear b1 hB hk hen
  go_enter Tryd.func52, Tryd.ntmps52
  go_wp2_with fail
  refine (hC.out).mono ?_
  rintro e w1 ⟨rfl, ho⟩
  have HO := Lib.hid (a1.out.trans (Only.ofBelow ho (Nat.le_refl _)))
  clear ho
  go_wp2
  go_ret
  exact ⟨by rw [← HB.out]; rfl, HO.out⟩
end Go.Proofs.YtphpciglpnbblaaDoor
