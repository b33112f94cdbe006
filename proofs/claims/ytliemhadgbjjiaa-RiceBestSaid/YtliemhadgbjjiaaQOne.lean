/-
  The document's answer: one residual's bits.
-/
import Derived.Test.YtliemhadgbjjiaaQMath
namespace Go.Proofs.Ytliemhadgbjjiaa
open Go.RowKit

theorem RowTo.nil (w : World) : Bitrow w w.heap.size (.slice none 0 0) [] := World.ownsRow_nil _ _ _ _
theorem RowTo.new {w w' : World} {v' : Value} {l : List Nat} (h : RowTo w w.heap.size (.slice none 0 0) v' l w') : Bitrow w' w.heap.size v' l ∧ Only Nix w w' :=
  ⟨h.1, h.2.1.mono fun i e => by unfold RF at e; simp [Value.ownBlock] at e⟩
theorem RowTo.then {w w1 w2 : World} {v1 v2 : Value} {l m : List Nat} (hr : Bitrow w1 w.heap.size v1 l) (ho : Only Nix w w1) (h : RowTo w1 w.heap.size v1 v2 m w2) : Bitrow w2 w.heap.size v2 m ∧ Only Nix w w2 :=
  ⟨h.1, ho.then h.2.1 fun i e => .inr (hr.lt i e).1⟩

def OneR (w : World) (p wd x : Int) (e : Ending) (w' : World) : Prop :=
  ∃ v r, e = .returned (.tuple #[v, .bool r]) ∧ Only Nix w w' ∧ (r = true → okR p wd x ∧ Bitrow w' w.heap.size v (resB p wd x)) ∧ (r = false → ¬ okR p wd x)

set_option maxHeartbeats 1000000 in
theorem oneRef_any (w : World) (x p wd : Int) (hp : (p = -1 ∧ 0 ≤ wd ∧ wd ≤ 31) ∨ (0 ≤ p ∧ p ≤ 30)) :
    Calls Try.prog 34 #[iv x, iv p, iv wd] w (OneR w p wd x) := by
  by_cases h1 : x ≤ -2147483648
  · have hno : Hid (¬ okR p wd x) := Lib.hid (fun h => by have := h.1; unfold isR at this; omega)
    have hd : decide (x ≤ (-2147483648 : Int)) = true := by simpa using h1
    go_enter Try.func34, Try.ntmps34
    go_wp2
    go_ret2
    exact ⟨_, false, rfl, Only.refl _ _, fun h => (by cases h), fun _ => hno.out⟩
  · have hd : decide (x ≤ (-2147483648 : Int)) = false := by simpa using h1
    by_cases h2 : 2147483648 ≤ x
    · have hno : Hid (¬ okR p wd x) := Lib.hid (fun h => by have := h.1; unfold isR at this; omega)
      have hd2 : decide ((2147483648 : Int) ≤ x) = true := by simpa using h2
      go_enter Try.func34, Try.ntmps34
      go_wp2
      go_ret2
      exact ⟨_, false, rfl, Only.refl _ _, fun h => (by cases h), fun _ => hno.out⟩
    · have hd2 : decide ((2147483648 : Int) ≤ x) = false := by simpa using h2
      have hR : isR x := ⟨by omega, by omega⟩
      rcases hp with ⟨rfl, w1, w2⟩ | ⟨p1, p2⟩
      · obtain ⟨wd, rfl⟩ := Int.eq_ofNat_of_zero_le w1
        have HP := Lib.hid (putRefW_any true (RowTo.nil w) (Nat.le_refl _) (by simp) (wd : Int) x)
        have HK : Hid ((okR (-1) (wd : Int) x ↔ isS wd x) ∧ resB (-1) (wd : Int) x = bitsN wd (x % 2 ^ wd).toNat) := Lib.hid (by
          constructor
          · unfold okR
            rw [if_pos rfl, Int.toNat_natCast, isS_fd]
            exact ⟨fun h => h.2, fun h => ⟨hR, h⟩⟩
          · unfold resB
            rw [if_pos rfl, Int.toNat_natCast])
        go_enter Try.func34, Try.ntmps34
        go_wp2_with fail
        refine (HP.out).mono ?_
        rintro e w2 ⟨v', rfl, hrow⟩
        by_cases hS : isS wd x
        · obtain ⟨e1, e2⟩ := ref_ok true [] wd x (by omega) ((refNum_sgn wd x).2 hS)
          rw [e1]
          rw [e2] at hrow
          have HR := Lib.hid (RowTo.new hrow)
          obtain ⟨A4, c4, hv4⟩ := owns_slice hrow.1
          subst hv4
          clear hrow
          go_wp2
          go_ret2
          exact ⟨_, true, rfl, HR.out.2, fun _ => ⟨HK.out.1.2 hS, by rw [HK.out.2]; simpa using HR.out.1⟩, fun h => by cases h⟩
        · obtain ⟨e1, e2⟩ := ref_no true [] wd x (by omega) (fun h => hS ((refNum_sgn wd x).1 h))
          rw [e1]
          rw [e2] at hrow
          have HR := Lib.hid (RowTo.new hrow)
          obtain ⟨A4, c4, hv4⟩ := owns_slice hrow.1
          subst hv4
          clear hrow
          go_wp2
          go_ret2
          exact ⟨_, false, rfl, HR.out.2, fun h => (by cases h), fun _ h => hS (HK.out.1.1 h)⟩
      · obtain ⟨p, rfl⟩ := Int.eq_ofNat_of_zero_le p1
        have hp30 : p ≤ 30 := by omega
        have hpd : decide ((p : Int) < 0) = false := by simp
        obtain ⟨P, hP⟩ : ∃ P : Nat, Hid (2 ^ p = P) := ⟨_, Lib.hid rfl⟩
        have hP2 : P ≤ 1073741824 := by rw [← hP.out]; exact Nat.pow_le_pow_right (by decide) hp30
        have hP0 : 0 < P := by rw [← hP.out]; exact Nat.two_pow_pos p
        have hpw : (2 : Int) ^ p = (P : Int) := by rw [pow_cast, hP.out]
        have hPz : ¬ (P : Int) = 0 := by omega
        have hPz2 : ¬ P = 0 := by omega
        have hfl := fd_lt hR
        have hfx : (x < 0 → -2 * x - 1 = (fd x : Int)) ∧ (¬ x < 0 → 2 * x = (fd x : Int)) := by unfold fd; constructor <;> intro h <;> simp [h] <;> omega
        have HK : Hid ((okR (p : Int) wd x ↔ fd x / P ≤ 65536) ∧ resB (p : Int) wd x = (List.replicate (fd x / P) 0 ++ [1]) ++ bitsN p (fd x % P)) := Lib.hid (by
          constructor
          · unfold okR
            rw [if_neg (by omega), Int.toNat_natCast, hP.out]
            exact ⟨fun h => h.2, fun h => ⟨hR, h⟩⟩
          · unfold resB
            rw [if_neg (by omega), Int.toNat_natCast, hP.out])
        generalize fd x = f at *
        have hd9 : (f : Int) / (P : Int) = ((f / P : Nat) : Int) := by rw [← Int.natCast_ediv]
        have hm9 : Int.tmod (f : Int) (P : Int) = ((f % P : Nat) : Int) := by rw [Int.tmod_eq_emod_of_nonneg (by omega), Int.natCast_emod]
        have hm8 : (f : Int) % (P : Int) = ((f % P : Nat) : Int) := by rw [Int.natCast_emod]
        have hml : f % P < P := Nat.mod_lt _ hP0
        have hdl : f / P ≤ f := Nat.div_le_self _ _
        generalize f / P = D at *
        generalize f % P = R at *
        have HU := Lib.hid (unaryRefW_any (RowTo.nil w) (Nat.le_refl _) (by simp) (D : Int))
        have tail : Hid (∀ (w1 : World) (v1 : Value), Bitrow w1 w.heap.size v1 (List.replicate D 0 ++ [1]) → Only Nix w w1 → D ≤ 65536 → Calls Try.prog 32 #[v1, iv p, iv R, .bool false] w1 fun e w' => ∃ v', e = .returned (.tuple #[v', .int .i64 0]) ∧ (Bitrow w' w.heap.size v' ((List.replicate D 0 ++ [1]) ++ bitsN p R) ∧ Only Nix w w')) := Lib.hid (by
          intro w1 v1 hr ho hD
          refine (putRefW_any false hr ho.size (by simp; omega) (p : Int) (R : Int)).mono ?_
          rintro e w2 ⟨v', rfl, hrow⟩
          obtain ⟨e1, e2⟩ := ref_ok false (List.replicate D 0 ++ [1]) p (R : Int) (by omega) ((refNum_put p (R : Int)).2 ⟨by omega, by rw [hpw]; omega⟩)
          rw [e1]
          rw [e2, Int.emod_eq_of_lt (by omega) (by rw [hpw]; omega), Int.toNat_natCast] at hrow
          exact ⟨v', rfl, hrow.then hr ho⟩)
        by_cases hD : D ≤ 65536
        · have hD2 : decide ((65536 : Int) < (D : Int)) = false := by simp; omega
          have e1 : unE (D : Int) = 0 := by unfold unE; rw [if_neg (by omega)]
          have e2 : unL [] (D : Int) = List.replicate D 0 ++ [1] := by unfold unL; rw [e1, if_pos rfl, Int.toNat_natCast]; simp
          rw [e1, e2] at HU
          clear e1 e2
          generalize List.replicate D 0 ++ [1] = T at *
          by_cases hx0 : x < 0
          · have hxd : decide (x < 0) = true := by simpa using hx0
            have hfx1 := hfx.1 hx0
            clear hfx
            have hx2 : Hid (x < 0) := Lib.hid hx0
            go_enter Try.func34, Try.ntmps34
            go_wp2_with fail
            refine (HU.out).mono ?_
            rintro e w2 ⟨v', rfl, hrow⟩
            have HR := Lib.hid (RowTo.new hrow)
            obtain ⟨A4, c4, hv4⟩ := owns_slice hrow.1
            subst hv4
            clear hrow
            go_wp2_with fail
            refine (tail.out _ _ HR.out.1 HR.out.2 hD).mono ?_
            rintro e w3 ⟨v3, rfl, hr3⟩
            have HR3 := Lib.hid hr3
            obtain ⟨A5, c5, hv5⟩ := owns_slice hr3.1
            subst hv5
            clear hr3
            go_wp2
            go_ret2
            exact ⟨_, true, rfl, HR3.out.2, fun _ => ⟨HK.out.1.2 hD, by rw [HK.out.2]; have h9 := HR3.out.1; rw [List.length_append] at h9; exact h9⟩, fun h => by cases h⟩
          · have hxd : decide (x < 0) = false := by simpa using hx0
            have hfx1 := hfx.2 hx0
            clear hfx
            go_enter Try.func34, Try.ntmps34
            go_wp2_with fail
            refine (HU.out).mono ?_
            rintro e w2 ⟨v', rfl, hrow⟩
            have HR := Lib.hid (RowTo.new hrow)
            obtain ⟨A4, c4, hv4⟩ := owns_slice hrow.1
            subst hv4
            clear hrow
            go_wp2_with fail
            refine (tail.out _ _ HR.out.1 HR.out.2 hD).mono ?_
            rintro e w3 ⟨v3, rfl, hr3⟩
            have HR3 := Lib.hid hr3
            obtain ⟨A5, c5, hv5⟩ := owns_slice hr3.1
            subst hv5
            clear hr3
            go_wp2
            go_ret2
            exact ⟨_, true, rfl, HR3.out.2, fun _ => ⟨HK.out.1.2 hD, by rw [HK.out.2]; have h9 := HR3.out.1; rw [List.length_append] at h9; exact h9⟩, fun h => by cases h⟩
        · have hD2 : decide ((65536 : Int) < (D : Int)) = true := by simp; omega
          clear HU tail
          by_cases hx0 : x < 0
          · have hxd : decide (x < 0) = true := by simpa using hx0
            have hfx1 := hfx.1 hx0
            clear hfx
            go_enter Try.func34, Try.ntmps34
            go_wp2
            go_ret2
            exact ⟨_, false, rfl, Only.refl _ _, fun h => (by cases h), fun _ h => hD (HK.out.1.1 h)⟩
          · have hxd : decide (x < 0) = false := by simpa using hx0
            have hfx1 := hfx.2 hx0
            clear hfx
            go_enter Try.func34, Try.ntmps34
            go_wp2
            go_ret2
            exact ⟨_, false, rfl, Only.refl _ _, fun h => (by cases h), fun _ h => hD (HK.out.1.1 h)⟩
end Go.Proofs.Ytliemhadgbjjiaa
