/-
  Get, walked.
-/
import Derived.Test.YthjilkgljobfhaaDoorGather
namespace Go.Proofs.YthjilkgljobfhaaDoor
open Go.RowKit

theorem begun_cases (x : Nat) (hb : begunOf x ≠ 0) : (x < 128 ∧ begunOf x = 1) ∨ (192 ≤ x ∧ x < 224 ∧ begunOf x = 2) ∨ (224 ≤ x ∧ x < 240 ∧ begunOf x = 3) ∨ (240 ≤ x ∧ x < 248 ∧ begunOf x = 4) ∨ (248 ≤ x ∧ x < 252 ∧ begunOf x = 5) ∨ (252 ≤ x ∧ x < 254 ∧ begunOf x = 6) ∨ (x = 254 ∧ begunOf x = 7) := by
  revert hb
  unfold begunOf
  (repeat' split) <;> omega
theorem gat_lt (x : Nat) (hb : begunOf x ≠ 0) (r : List Nat) (hg : (gat (x - mrk.getD (begunOf x - 1) 0) (begunOf x - 1) r).2 = 0) : (gat (x - mrk.getD (begunOf x - 1) 0) (begunOf x - 1) r).1 < 68719476736 := by
  obtain ⟨_, b, _⟩ := gat_back _ _ _ hg
  generalize (gat (x - mrk.getD (begunOf x - 1) 0) (begunOf x - 1) r).1 = m at *
  rcases begun_cases x hb with ⟨h, e⟩ | ⟨h, g, e⟩ | ⟨h, g, e⟩ | ⟨h, g, e⟩ | ⟨h, g, e⟩ | ⟨h, g, e⟩ | ⟨h, e⟩ <;> rw [e] at b <;> simp [mrk] at b <;> omega
theorem ret3 {a b c a' b' c' : Int} (h : a = a') (h' : b = b') (h'' : c = c') : Ending.returned (.tuple #[iv a, iv b, iv c]) = .returned (.tuple #[iv a', iv b', iv c']) := by rw [h, h', h'']
/-- what Get answers -/
def gotten (bs : List Nat) : Ending := .returned (.tuple #[iv ((getOf bs).1 : Nat), iv ((getOf bs).2.1 : Nat), iv ((getOf bs).2.2 : Nat)])

set_option maxHeartbeats 1000000 in
theorem get_any {w : World} (hL : Laid w) (A : Option Addr) (c : Nat) (bs : List Nat) (h : Src w (.slice A bs.length c) bs) :
    Calls Tryd.prog 12 #[.slice A bs.length c] w fun e w' => e = gotten bs ∧ Only Nix w w' := by
  have HL := Lib.hid hL
  have Hs := Lib.hid h
  cases bs with
  | nil =>
    clear hL h
    go_enter Tryd.func12, Tryd.ntmps12
    go_wp2
    go_ret3
    exact ⟨rfl, Only.refl _ _⟩
  | cons x r =>
    obtain ⟨ad, rfl, hc0⟩ := h.at_ (k := 0) (by simp)
    rw [Addr.add_zero', List.getElem_cons_zero] at hc0
    unfold byt at hc0
    have hx := h.lt x (List.mem_cons_self ..)
    have hg0 : getOf (x :: r) = if begunOf x = 0 then (0, 0, 12)
      else if (gat (x - mrk.getD (begunOf x - 1) 0) (begunOf x - 1) r).2 = 0 then
        (if szOf (gat (x - mrk.getD (begunOf x - 1) 0) (begunOf x - 1) r).1 < begunOf x then (0, 0, 12) else ((gat (x - mrk.getD (begunOf x - 1) 0) (begunOf x - 1) r).1, begunOf x, 0))
      else (0, 0, (gat (x - mrk.getD (begunOf x - 1) 0) (begunOf x - 1) r).2) := rfl
    have hlen : ((r.length + 1 : Nat) : Int) ≠ 0 := by omega
    have hsm := h.small
    rw [List.length_cons] at hsm
    clear hL h
    have HB := Lib.hid (begun_any HL.out x hx)
    by_cases hb : begunOf x = 0
    · rw [hb] at HB
      rw [if_pos hb] at hg0
      have Hg := Lib.hid hg0
      clear hg0 hb
      go_enter Tryd.func12, Tryd.ntmps12
      go_wp2_with fail
      refine (HB.out).mono ?_
      rintro e w1 ⟨rfl, o1⟩
      go_wp2
      go_ret3
      exact ⟨by unfold gotten; rw [Hg.out]; rfl, o1⟩
    · rw [if_neg hb] at hg0
      have hb7 := begun_le x
      have HG : Hid (∀ u, Only Nix w u → Calls Tryd.prog 17 #[.slice (some ad) (r.length + 1) c, iv (begunOf x : Nat)] u
          fun e w' => e = .returned (.tuple #[iv ((gat (x - mrk.getD (begunOf x - 1) 0) (begunOf x - 1) r).1 : Nat), iv ((gat (x - mrk.getD (begunOf x - 1) 0) (begunOf x - 1) r).2 : Nat)]) ∧ Only Nix u w') :=
        fun u o => gather_any (HL.out.nix o) (some ad) c (x :: r) x (Hs.out.nix o) rfl hb
      have hlt := gat_lt x hb r
      have herr := gat_err (x - mrk.getD (begunOf x - 1) 0) (begunOf x - 1) r
      generalize gat (x - mrk.getD (begunOf x - 1) 0) (begunOf x - 1) r = G at *
      obtain ⟨N, E⟩ := G
      simp only at hg0 HG hlt herr
      generalize begunOf x = S at *
      have hS0 : ((S : Int) == 0) = false := by simp; omega
      by_cases hE : E = 0
      · subst hE
        have hN := hlt rfl
        rw [if_pos rfl] at hg0
        clear hlt herr
        have HN : Hid (∀ u, Only Nix w u → Calls Tryd.prog 8 #[iv (N : Int)] u fun e w' => e = .returned (.tuple #[iv (szOf N : Nat), iv 0]) ∧ u = w') := fun u o => len_yes (HL.out.nix o) N _ rfl hN
        have hz := szOf_bd N
        by_cases hs : szOf N < S
        · rw [if_pos hs] at hg0
          have Hg := Lib.hid hg0
          clear hg0
          generalize szOf N = Z at *
          have hs2 : (Z : Int) < (S : Int) := by omega
          go_enter Tryd.func12, Tryd.ntmps12
          go_wp2_with fail
          refine (HB.out).mono ?_
          rintro e w1 ⟨rfl, o1⟩
          go_wp2_with fail
          refine (HG.out _ o1).mono ?_
          rintro e w2 ⟨rfl, o2⟩
          go_wp2_with fail
          refine (HN.out _ (o1.trans o2)).mono ?_
          rintro e w3 ⟨rfl, rfl⟩
          go_wp2
          go_ret3
          exact ⟨by unfold gotten; rw [Hg.out]; rfl, o1.trans o2⟩
        · rw [if_neg hs] at hg0
          have Hg := Lib.hid hg0
          clear hg0
          generalize szOf N = Z at *
          have hs2 : decide (Z < S) = false := by simp; omega
          go_enter Tryd.func12, Tryd.ntmps12
          go_wp2_with fail
          refine (HB.out).mono ?_
          rintro e w1 ⟨rfl, o1⟩
          go_wp2_with fail
          refine (HG.out _ o1).mono ?_
          rintro e w2 ⟨rfl, o2⟩
          go_wp2_with fail
          refine (HN.out _ (o1.trans o2)).mono ?_
          rintro e w3 ⟨rfl, rfl⟩
          go_wp2
          go_ret3
          exact ⟨by unfold gotten; rw [Hg.out]; rfl, o1.trans o2⟩
      · rw [if_neg hE] at hg0
        have Hg := Lib.hid hg0
        have hE2 : ((E : Int) != 0) = true := by simp; omega
        clear hg0 hlt
        go_enter Tryd.func12, Tryd.ntmps12
        go_wp2_with fail
        refine (HB.out).mono ?_
        rintro e w1 ⟨rfl, o1⟩
        go_wp2_with fail
        refine (HG.out _ o1).mono ?_
        rintro e w2 ⟨rfl, o2⟩
        go_wp2
        go_ret3
        exact ⟨by unfold gotten; rw [Hg.out]; rfl, o1.trans o2⟩
end Go.Proofs.YthjilkgljobfhaaDoor
