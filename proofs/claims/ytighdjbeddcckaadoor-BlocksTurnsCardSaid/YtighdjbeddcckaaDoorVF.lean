/-
  Points, one by one and one behind another.
-/
import Derived.Test.YtighdjbeddcckaaDoorVC
namespace Go.Proofs.YtighdjbeddcckaaDoor
open Go.RowKit Go.Shelf

/-- three numbers as a point -/
abbrev p3 (p : Pt) : Value := .agg #[iv p.1, iv p.2.1, iv p.2.2]
def isK (p : Pt) : Prop := p.1 = -1
instance (p : Pt) : Decidable (isK p) := by unfold isK; infer_instance
def mayT (p : Pt) : Prop := -1 ≤ p.1 ∧ 0 ≤ p.2.1 ∧ 0 ≤ p.2.2 ∧ p.2.2 ≤ 65535
instance (p : Pt) : Decidable (mayT p) := by unfold mayT; infer_instance
def folT (p a : Pt) : Prop := isK p ∨ (¬ isK a ∧ a.1 < p.1)
instance (p a : Pt) : Decidable (folT p a) := by unfold folT; infer_instance
set_option maxHeartbeats 1000000 in
theorem isKept_any {w : World} (p : Pt) (hp : F3 p) : Calls Tryd.prog 34 #[p3 p] w fun e w' => e = .returned (.bool (decide (isK p))) ∧ Only Nix w w' := by
  obtain ⟨s, o, c⟩ := p
  obtain ⟨⟨h1, h2⟩, _⟩ := hp
  simp only at h1 h2
  by_cases h : s = -1
  · subst h
    have hd : decide (isK (-1, o, c)) = true := decide_eq_true rfl
    rw [hd]
    go_enter Tryd.func34, Tryd.ntmps34
    go_wp2
    go_ret
    exact ⟨rfl, (Only.refl _ _).alloc _⟩
  · have hd : decide (isK (s, o, c)) = false := decide_eq_false h
    have hb : (s == -1) = false := by simpa using h
    rw [hd]
    clear hd
    go_enter Tryd.func34, Tryd.ntmps34
    go_wp2
    go_ret
    exact ⟨rfl, (Only.refl _ _).alloc _⟩
set_option maxHeartbeats 2000000 in
theorem mayBe_any {w : World} (p : Pt) (hp : F3 p) : Calls Tryd.prog 25 #[p3 p] w fun e w' => e = .returned (.bool (decide (mayT p))) ∧ Only Nix w w' := by
  obtain ⟨s, o, c⟩ := p
  obtain ⟨⟨h1, h2⟩, ⟨h3, h4⟩, ⟨h5, h6⟩⟩ := hp
  simp only at h1 h2 h3 h4 h5 h6
  by_cases a1 : -1 ≤ s
  · by_cases a2 : 0 ≤ o
    · by_cases a3 : 0 ≤ c
      · by_cases a4 : c ≤ 65535
        · have hd : decide (mayT (s, o, c)) = true := decide_eq_true ⟨a1, a2, a3, a4⟩
          rw [hd]
          go_enter Tryd.func25, Tryd.ntmps25
          go_wp2
          go_ret
          exact ⟨rfl, (Only.refl _ _).alloc _⟩
        · have hd : decide (mayT (s, o, c)) = false := decide_eq_false (fun h => a4 h.2.2.2)
          rw [hd]
          go_enter Tryd.func25, Tryd.ntmps25
          go_wp2
          go_ret
          exact ⟨rfl, (Only.refl _ _).alloc _⟩
      · have hd : decide (mayT (s, o, c)) = false := decide_eq_false (fun h => a3 h.2.2.1)
        rw [hd]
        go_enter Tryd.func25, Tryd.ntmps25
        go_wp2
        go_ret
        exact ⟨rfl, (Only.refl _ _).alloc _⟩
    · have hd : decide (mayT (s, o, c)) = false := decide_eq_false (fun h => a2 h.2.1)
      rw [hd]
      go_enter Tryd.func25, Tryd.ntmps25
      go_wp2
      go_ret
      exact ⟨rfl, (Only.refl _ _).alloc _⟩
  · have hd : decide (mayT (s, o, c)) = false := decide_eq_false (fun h => a1 h.1)
    rw [hd]
    go_enter Tryd.func25, Tryd.ntmps25
    go_wp2
    go_ret
    exact ⟨rfl, (Only.refl _ _).alloc _⟩
set_option maxHeartbeats 2000000 in
theorem follows_any {w : World} (p q : Pt) (hp : F3 p) (hq : F3 q) : Calls Tryd.prog 26 #[p3 p, p3 q] w fun e w' => e = .returned (.bool (decide (folT p q))) ∧ Only Nix w w' := by
  have HKp : Hid (∀ u, Calls Tryd.prog 34 #[p3 p] u fun e w' => e = .returned (.bool (decide (isK p))) ∧ Only Nix u w') := Lib.hid (fun u => isKept_any p hp)
  have HKq : Hid (∀ u, Calls Tryd.prog 34 #[p3 q] u fun e w' => e = .returned (.bool (decide (isK q))) ∧ Only Nix u w') := Lib.hid (fun u => isKept_any q hq)
  have HO := Lib.hid ((((Only.refl Nix w).alloc (.cells #[iv p.1, iv p.2.1, iv p.2.2] 46)).alloc (.cells #[iv q.1, iv q.2.1, iv q.2.2] 46)))
  have hBp := (Box.new w 46 #[iv p.1, iv p.2.1, iv p.2.2]).alloc (.cells #[iv q.1, iv q.2.1, iv q.2.2] 46)
  have hBq := Box.new (w.alloc (.cells #[iv p.1, iv p.2.1, iv p.2.2] 46)) 46 #[iv q.1, iv q.2.1, iv q.2.2]
  have hsz : (w.alloc (.cells #[iv p.1, iv p.2.1, iv p.2.2] 46)).heap.size = w.heap.size + 1 := by simp
  rw [hsz] at hBq
  obtain ⟨W, hW⟩ : ∃ W, (w.alloc (.cells #[iv p.1, iv p.2.1, iv p.2.2] 46)).alloc (.cells #[iv q.1, iv q.2.1, iv q.2.2] 46) = W := ⟨_, rfl⟩
  rw [hW] at HO hBp hBq
  have HBp := Lib.hid hBp
  have HBq := Lib.hid hBq
  obtain ⟨s, o, c⟩ := p
  obtain ⟨s', o', c'⟩ := q
  obtain ⟨⟨h1, h2⟩, _⟩ := hp
  obtain ⟨⟨h3, h4⟩, _⟩ := hq
  simp only at h1 h2 h3 h4 HBp HBq hBp hBq hW
  have p0 := hBp.cell 0
  have p1 := hBp.cell 1
  have p2 := hBp.cell 2
  simp only [List.getElem?_toArray, List.getElem?_cons_zero, List.getElem?_cons_succ] at p0 p1 p2
  have HA1 := Lib.hid (HKp.out W)
  clear hBp hBq hsz
  by_cases e1 : s = -1
  · have hd : decide (folT (s, o, c) (s', o', c')) = true := decide_eq_true (.inl e1)
    have hd1 : decide (isK (s, o, c)) = true := decide_eq_true e1
    rw [hd]
    rw [hd1] at HA1
    clear hd hd1 e1 HKp
    go_enter Tryd.func26, Tryd.ntmps26
    go_wp2_with fail
    refine (HA1.out).mono ?_
    rintro e w2 ⟨rfl, o2⟩
    have HO2 := Lib.hid (HO.out.trans o2)
    clear o2 p0 p1 p2
    go_wp2
    go_ret
    exact ⟨rfl, HO2.out⟩
  · have hd1 : decide (isK (s, o, c)) = false := decide_eq_false e1
    rw [hd1] at HA1
    by_cases e2 : s' = -1
    · have hd : decide (folT (s, o, c) (s', o', c')) = false := decide_eq_false (fun h => h.elim e1 (fun hh => hh.1 e2))
      have hd2 : decide (isK (s', o', c')) = true := decide_eq_true e2
      rw [hd]
      rw [hd2] at HKq
      clear hd hd1 e1 HKp e2 hd2
      go_enter Tryd.func26, Tryd.ntmps26
      go_wp2_with fail
      refine (HA1.out).mono ?_
      rintro e w2 ⟨rfl, o2⟩
      have HO2 := Lib.hid (HO.out.trans o2)
      have hBq := HBq.out.only o2 (fun e => e)
      have q0 := hBq.cell 0
      have q1 := hBq.cell 1
      have q2 := hBq.cell 2
      simp only [List.getElem?_toArray, List.getElem?_cons_zero, List.getElem?_cons_succ] at q0 q1 q2
      have HA2 := Lib.hid (HKq.out w2)
      clear o2 p0 p1 p2 hBq
      go_wp2_with fail
      refine (HA2.out).mono ?_
      rintro e w3 ⟨rfl, o3⟩
      have HO3 := Lib.hid (HO2.out.trans o3)
      clear o3 q0 q1 q2
      go_wp2
      go_ret
      exact ⟨rfl, HO3.out⟩
    · have hd2 : decide (isK (s', o', c')) = false := decide_eq_false e2
      have hd : decide (folT (s, o, c) (s', o', c')) = decide (s' < s) := decide_eq_decide.2 ⟨fun h => h.elim (fun hh => absurd hh e1) (fun hh => hh.2), fun h => .inr ⟨e2, h⟩⟩
      rw [hd]
      rw [hd2] at HKq
      clear hd hd1 e1 HKp e2 hd2
      go_enter Tryd.func26, Tryd.ntmps26
      go_wp2_with fail
      refine (HA1.out).mono ?_
      rintro e w2 ⟨rfl, o2⟩
      have HO2 := Lib.hid (HO.out.trans o2)
      have HBp2 := Lib.hid (HBp.out.only o2 (fun e => e))
      have hBq := HBq.out.only o2 (fun e => e)
      have HBq2 := Lib.hid hBq
      have q0 := hBq.cell 0
      have q1 := hBq.cell 1
      have q2 := hBq.cell 2
      simp only [List.getElem?_toArray, List.getElem?_cons_zero, List.getElem?_cons_succ] at q0 q1 q2
      have HA2 := Lib.hid (HKq.out w2)
      clear o2 p0 p1 p2 hBq
      go_wp2_with fail
      refine (HA2.out).mono ?_
      rintro e w3 ⟨rfl, o3⟩
      have HO3 := Lib.hid (HO2.out.trans o3)
      have x0 := (HBp2.out.only o3 (fun e => e)).cell 0
      have y0 := (HBq2.out.only o3 (fun e => e)).cell 0
      simp only [List.getElem?_toArray, List.getElem?_cons_zero] at x0 y0
      clear o3 q0 q1 q2
      go_wp2
      go_ret
      exact ⟨rfl, HO3.out⟩
end Go.Proofs.YtighdjbeddcckaaDoor
