/-
  SumsTell, walked.
-/
import Derived.Test.YtmnnjbamphoghaaDoorRefSums
import Derived.Deep.RegionHeld3
namespace Go.Proofs.YtmnnjbamphoghaaDoor
open Go.RowKit

theorem add_add (ad : Addr) (i j : Nat) : (ad.add i).add j = ad.add (i + j) := by
  by_cases hi : i = 0
  · subst hi; simp [Addr.add]
  · by_cases hj : j = 0
    · subst hj; simp [Addr.add]
    · simp [Addr.add, hi, hj, Nat.add_assoc]
theorem Src.take {w : World} {A : Option Addr} {n c : Nat} {bs : List Nat} (h : Src w (.slice A n c) bs) (k : Nat) (hk : k ≤ bs.length) (c' : Nat) : Src w (.slice A k c') (bs.take k) := by
  have hl : (bs.take k).length = k := by rw [List.length_take]; omega
  refine ⟨⟨A, c', by rw [hl], fun j hj => ?_⟩, by have := h.small; omega, fun x hx => h.lt x (List.mem_of_mem_take hx)⟩
  rw [hl] at hj
  obtain ⟨ad, hA, hc⟩ := h.at_ (show j < bs.length by omega)
  exact ⟨ad, hA, by rw [hc, List.getElem_take]⟩
theorem Src.drop {w : World} {ad : Addr} {n c : Nat} {bs : List Nat} (h : Src w (.slice (some ad) n c) bs) (k : Nat) (hk : k ≤ bs.length) (c' : Nat) : Src w (.slice (some (ad.add k)) (bs.length - k) c') (bs.drop k) := by
  have hl : (bs.drop k).length = bs.length - k := List.length_drop ..
  refine ⟨⟨_, c', by rw [hl], fun j hj => ?_⟩, by have := h.small; omega, fun x hx => h.lt x (List.mem_of_mem_drop hx)⟩
  rw [hl] at hj
  obtain ⟨ad', hA, hx⟩ := h.at_ (show k + j < bs.length by omega)
  injection hA with hA
  subst hA
  exact ⟨ad.add k, rfl, by rw [add_add, hx, List.getElem_drop]⟩

section
variable {w : World} {va vb v0 : Value} {bs : List Nat} {k : Nat}
/-- the worlds on the way -/
structure TellIn (w : World) (va vb v0 : Value) (bs : List Nat) (k : Nat) : Prop where
  laid : Laid w
  a : Src w va (bs.take k)
  b : Src w vb (bs.drop k)
  v : Src w v0 bs
  le : bs.length ≤ 400
theorem TellIn.nix {w' : World} (h : TellIn w va vb v0 bs k) (ho : Only Nix w w') : TellIn w' va vb v0 bs k := ⟨h.laid.nix ho, h.a.nix ho, h.b.nix ho, h.v.nix ho, h.le⟩
abbrev C2 (va vb : Value) : Obj := .cells #[va, vb] 22
abbrev C3 (va vb : Value) : Obj := .cells #[va, .slice none 0 0, vb] 22
theorem t10 (h : TellIn w va vb v0 bs k) {u u' : World} (hu : Only Nix w u) (hu' : Only Nix (u.alloc (C2 va vb)) u') :
    Calls Tryd.prog 10 #[.slice (some ⟨u.heap.size, 0, none⟩) 2 2] u' fun e w' => e = .returned (iv (sm 8 7 bs : Nat)) ∧ Only Nix w w' := by
  have g := h.nix hu
  have o := (hu.alloc (C2 va vb)).trans hu'
  have c := Sum8_any (h.nix o).laid ((lists2 g.a g.b 22).nix hu')
  rw [show [bs.take k, bs.drop k].flatten = bs from by simp] at c
  exact c.mono fun _ _ hh => ⟨hh.1, o.trans hh.2⟩
theorem t12 (h : TellIn w va vb v0 bs k) {u u' : World} (hu : Only Nix w u) (hu' : Only Nix (u.alloc (C3 va vb)) u') :
    Calls Tryd.prog 12 #[.slice (some ⟨u.heap.size, 0, none⟩) 3 3] u' fun e w' => e = .returned (iv (sm 16 32773 bs : Nat)) ∧ Only Nix w w' := by
  have g := h.nix hu
  have o := (hu.alloc (C3 va vb)).trans hu'
  have c := Sum16_any (h.nix o).laid ((lists3 g.a (Src.nil u) g.b 22).nix hu')
  rw [show [bs.take k, [], bs.drop k].flatten = bs from by simp] at c
  exact c.mono fun _ _ hh => ⟨hh.1, o.trans hh.2⟩
theorem t11 (h : TellIn w va vb v0 bs k) {u : World} (hu : Only Nix w u) :
    Calls Tryd.prog 11 #[v0] u fun e w' => e = .returned (iv (sm 8 7 bs : Nat)) ∧ Only Nix w w' ∧ Only Nix u w' :=
  (refSum_8 (h.nix hu).v h.le).mono fun _ _ hh => ⟨hh.1, hu.trans hh.2, hh.2⟩
theorem t13 (h : TellIn w va vb v0 bs k) {u : World} (hu : Only Nix w u) :
    Calls Tryd.prog 13 #[v0] u fun e w' => e = .returned (iv (sm 16 32773 bs : Nat)) ∧ Only Nix w w' ∧ Only Nix u w' :=
  (refSum_16 (h.nix hu).v h.le).mono fun _ _ hh => ⟨hh.1, hu.trans hh.2, hh.2⟩
theorem t9 (h : TellIn w va vb v0 bs k) {u : World} (hu : Only Nix w u) :
    Calls Tryd.prog 9 #[] u fun e w' => e = .returned (.bool true) ∧ Only Nix w w' :=
  (awake_any (h.nix hu).laid).mono fun _ _ hh => ⟨hh.1, hu.trans hh.2⟩
theorem t10a (h : TellIn w va vb v0 bs k) {u : World} (hu : Only Nix w u) :
    Calls Tryd.prog 10 #[.slice (some ⟨u.heap.size, 0, none⟩) 2 2] (u.alloc (C2 va vb)) fun e w' => e = .returned (iv (sm 8 7 bs : Nat)) ∧ Only Nix w w' := t10 h hu (Only.refl _ _)
theorem t10d (h : TellIn w va vb v0 bs k) :
    Calls Tryd.prog 10 #[.slice (some ⟨w.heap.size, 0, none⟩) 2 2] (w.alloc (C2 va vb)).drew fun e w' => e = .returned (iv (sm 8 7 bs : Nat)) ∧ Only Nix w w' := t10 h (Only.refl _ _) (Only.refl _ _).drew
theorem t12a (h : TellIn w va vb v0 bs k) {u : World} (hu : Only Nix w u) :
    Calls Tryd.prog 12 #[.slice (some ⟨u.heap.size, 0, none⟩) 3 3] (u.alloc (C3 va vb)) fun e w' => e = .returned (iv (sm 16 32773 bs : Nat)) ∧ Only Nix w w' := t12 h hu (Only.refl _ _)
theorem t11d (h : TellIn w va vb v0 bs k) :
    Calls Tryd.prog 11 #[v0] (w.alloc (C2 va vb)).drew fun e w' => e = .returned (iv (sm 8 7 bs : Nat)) ∧ Only Nix w w' ∧ Only Nix (w.alloc (C2 va vb)) w' :=
  (t11 h ((Only.refl _ _).alloc _).drew).mono fun _ _ hh => ⟨hh.1, hh.2.1, ⟨hh.2.2.os, hh.2.2.tape, hh.2.2.output, hh.2.2.size, hh.2.2.block⟩⟩
theorem t11e (h : TellIn w va vb v0 bs k) :
    Calls Tryd.prog 11 #[v0] w.drew fun e w' => e = .returned (iv (sm 8 7 bs : Nat)) ∧ Only Nix w w' ∧ Only Nix w.drew w' := t11 h (Only.refl _ _).drew
theorem t13a (h : TellIn w va vb v0 bs k) {u : World} (hu : Only Nix w u) :
    Calls Tryd.prog 13 #[v0] (u.alloc (C3 va vb)) fun e w' => e = .returned (iv (sm 16 32773 bs : Nat)) ∧ Only Nix w w' ∧ Only Nix (u.alloc (C3 va vb)) w' := t13 h (hu.alloc _)
end

set_option maxHeartbeats 800000 in
theorem tell_some (ad : Addr) (c : Nat) (bs : List Nat) (k : Nat) (w : World) (hL : Laid w) (h : Src w (.slice (some ad) bs.length c) bs) (hc : bs.length ≤ c) (hl : bs.length ≤ 400) (hk : k ≤ bs.length) (hne : ¬ c = k) :
    Calls Tryd.prog 3 #[.slice (some ad) bs.length c, iv (k : Int)] w fun e w' => e = .returned (.bool true) ∧ Only Nix w w' := by
  have d1 : decide (400 < (bs.length : Int)) = false := by simp; omega
  have d2 : decide ((k : Int) < 0) = false := by simp
  have d3 : decide ((bs.length : Int) < (k : Int)) = false := by simp; omega
  have i1 : (0 : Int) ≤ (k : Int) := by omega
  have i2 : (k : Int) ≤ (bs.length : Int) := by omega
  have i3 : (k : Int) ≤ (c : Int) := by omega
  have i4 : (bs.length : Int) ≤ (c : Int) := by omega
  have hT := TellIn.mk (va := .slice (some ad) k c) (vb := .slice (some (ad.add k)) (bs.length - k) (c - k)) (v0 := .slice (some ad) bs.length c) hL (h.take k hk c) (h.drop k hk (c - k)) h hl
  clear hL h
  go_enter Tryd.func3, Tryd.ntmps3
  go_wp2_with fail
  go_region_held3 (fun u => Only Nix w u) (first | assumption | exact (Only.refl _ _).drew | exact ((Only.refl _ _).alloc _).drew | (refine Only.alloc ?_ _; assumption)) (first
    | (go_at_call 10; (first | (with_reducible refine (t10d hT).mono ?_) | ((with_reducible refine (t10a hT ?_).mono ?_); any_goals (with_reducible assumption)) | ((with_reducible refine (t10 hT (Only.refl _ _) ?_).mono ?_); any_goals (with_reducible assumption)) | ((with_reducible refine (t10 hT ?_ ?_).mono ?_); any_goals (with_reducible assumption))); rintro e w1 ⟨rfl, ho1⟩)
    | (go_at_call 11; (first | (with_reducible refine (t11e hT).mono ?_) | (with_reducible refine (t11d hT).mono ?_) | ((with_reducible refine (t11 hT ?_).mono ?_); any_goals (with_reducible assumption))); rintro e w2 ⟨rfl, ho2, hp2⟩)
    | (go_at_call 12; (first | ((with_reducible refine (t12a hT ?_).mono ?_); any_goals (with_reducible assumption)) | ((with_reducible refine (t12 hT ?_ ?_).mono ?_); any_goals (with_reducible assumption))); rintro e w3 ⟨rfl, ho3⟩)
    | (go_at_call 13; (first | ((with_reducible refine (t13a hT ?_).mono ?_); any_goals (with_reducible assumption)) | ((with_reducible refine (t13 hT ?_).mono ?_); any_goals (with_reducible assumption))); rintro e w4 ⟨rfl, ho4, hp4⟩)
    | (go_at_call 9; ((with_reducible refine (t9 hT ?_).mono ?_); any_goals (with_reducible assumption)); rintro e w5 ⟨rfl, ho5⟩))
  go_wp2
  go_ret
  exact ⟨rfl, by assumption⟩

set_option maxHeartbeats 800000 in
theorem tell_full (ad : Addr) (n : Nat) (bs : List Nat) (w : World) (hL : Laid w) (h : Src w (.slice (some ad) n n) bs) (hn : bs.length = n) (hl : n ≤ 400) :
    Calls Tryd.prog 3 #[.slice (some ad) n n, iv (n : Int)] w fun e w' => e = .returned (.bool true) ∧ Only Nix w w' := by
  have d1 : decide (400 < (n : Int)) = false := by simp; omega
  have d2 : decide ((n : Int) < 0) = false := by simp
  have d3 : decide ((n : Int) < (n : Int)) = false := by simp
  have i1 : (0 : Int) ≤ (n : Int) := by omega
  have i2 : (n : Int) ≤ (n : Int) := by omega
  subst hn
  have hb : Src w (.slice (some ad) 0 0) (bs.drop bs.length) := by rw [List.drop_length]; exact ⟨⟨_, 0, rfl, fun j hj => by simp at hj⟩, by simp, by simp⟩
  have hT := TellIn.mk (va := .slice (some ad) bs.length bs.length) (vb := .slice (some ad) 0 0) (v0 := .slice (some ad) bs.length bs.length) hL (h.take bs.length (Nat.le_refl _) bs.length) hb h hl
  clear hL h
  go_enter Tryd.func3, Tryd.ntmps3
  go_wp2_with fail
  go_region_held3 (fun u => Only Nix w u) (first | assumption | exact (Only.refl _ _).drew | exact ((Only.refl _ _).alloc _).drew | (refine Only.alloc ?_ _; assumption)) (first
    | (go_at_call 10; (first | (with_reducible refine (t10d hT).mono ?_) | ((with_reducible refine (t10a hT ?_).mono ?_); any_goals (with_reducible assumption)) | ((with_reducible refine (t10 hT (Only.refl _ _) ?_).mono ?_); any_goals (with_reducible assumption)) | ((with_reducible refine (t10 hT ?_ ?_).mono ?_); any_goals (with_reducible assumption))); rintro e w1 ⟨rfl, ho1⟩)
    | (go_at_call 11; (first | (with_reducible refine (t11e hT).mono ?_) | (with_reducible refine (t11d hT).mono ?_) | ((with_reducible refine (t11 hT ?_).mono ?_); any_goals (with_reducible assumption))); rintro e w2 ⟨rfl, ho2, hp2⟩)
    | (go_at_call 12; (first | ((with_reducible refine (t12a hT ?_).mono ?_); any_goals (with_reducible assumption)) | ((with_reducible refine (t12 hT ?_ ?_).mono ?_); any_goals (with_reducible assumption))); rintro e w3 ⟨rfl, ho3⟩)
    | (go_at_call 13; (first | ((with_reducible refine (t13a hT ?_).mono ?_); any_goals (with_reducible assumption)) | ((with_reducible refine (t13 hT ?_).mono ?_); any_goals (with_reducible assumption))); rintro e w4 ⟨rfl, ho4, hp4⟩)
    | (go_at_call 9; ((with_reducible refine (t9 hT ?_).mono ?_); any_goals (with_reducible assumption)); rintro e w5 ⟨rfl, ho5⟩))
  go_wp2
  go_ret
  exact ⟨rfl, by assumption⟩

set_option maxHeartbeats 800000 in
theorem tell_nil (w : World) (hL : Laid w) :
    Calls Tryd.prog 3 #[.slice none 0 0, iv 0] w fun e w' => e = .returned (.bool true) ∧ Only Nix w w' := by
  have h : Src w (.slice none 0 0) [] := Src.nil w
  have hT := TellIn.mk (va := .slice none 0 0) (vb := .slice none 0 0) (v0 := .slice none 0 0) (k := 0) hL h h h (by simp)
  clear hL h
  go_enter Tryd.func3, Tryd.ntmps3
  go_wp2_with fail
  go_region_held3 (fun u => Only Nix w u) (first | assumption | exact (Only.refl _ _).drew | exact ((Only.refl _ _).alloc _).drew | (refine Only.alloc ?_ _; assumption)) (first
    | (go_at_call 10; (first | (with_reducible refine (t10d hT).mono ?_) | ((with_reducible refine (t10a hT ?_).mono ?_); any_goals (with_reducible assumption)) | ((with_reducible refine (t10 hT (Only.refl _ _) ?_).mono ?_); any_goals (with_reducible assumption)) | ((with_reducible refine (t10 hT ?_ ?_).mono ?_); any_goals (with_reducible assumption))); rintro e w1 ⟨rfl, ho1⟩)
    | (go_at_call 11; (first | (with_reducible refine (t11e hT).mono ?_) | (with_reducible refine (t11d hT).mono ?_) | ((with_reducible refine (t11 hT ?_).mono ?_); any_goals (with_reducible assumption))); rintro e w2 ⟨rfl, ho2, hp2⟩)
    | (go_at_call 12; (first | ((with_reducible refine (t12a hT ?_).mono ?_); any_goals (with_reducible assumption)) | ((with_reducible refine (t12 hT ?_ ?_).mono ?_); any_goals (with_reducible assumption))); rintro e w3 ⟨rfl, ho3⟩)
    | (go_at_call 13; (first | ((with_reducible refine (t13a hT ?_).mono ?_); any_goals (with_reducible assumption)) | ((with_reducible refine (t13 hT ?_).mono ?_); any_goals (with_reducible assumption))); rintro e w4 ⟨rfl, ho4, hp4⟩)
    | (go_at_call 9; ((with_reducible refine (t9 hT ?_).mono ?_); any_goals (with_reducible assumption)); rintro e w5 ⟨rfl, ho5⟩))
  go_wp2
  go_ret
  exact ⟨rfl, by assumption⟩


set_option maxHeartbeats 400000 in
theorem sumsTell_walk (A : Option Addr) (c : Nat) (bs : List Nat) (x : Int) (w : World) (hL : Laid w) (h : Src w (.slice A bs.length c) bs) (hc : bs.length ≤ c) (hA : A = none → c = 0) :
    Calls Tryd.prog 3 #[.slice A bs.length c, iv x] w fun e w' => e = .returned (.bool true) ∧ Only Nix w w' := by
  by_cases hl : 400 < bs.length
  · have d1 : decide (400 < (bs.length : Int)) = true := by simp; omega
    go_enter Tryd.func3, Tryd.ntmps3
    go_wp2_with fail
    refine (awake_any hL).mono ?_
    rintro e w1 ⟨rfl, ho1⟩
    go_wp2
    go_ret
    exact ⟨rfl, ho1⟩
  · have d1 : decide (400 < (bs.length : Int)) = false := by simp; omega
    by_cases h0 : x < 0
    · have d2 : decide (x < 0) = true := by simpa using h0
      go_enter Tryd.func3, Tryd.ntmps3
      go_wp2_with fail
      refine (awake_any hL).mono ?_
      rintro e w1 ⟨rfl, ho1⟩
      go_wp2
      go_ret
      exact ⟨rfl, ho1⟩
    · have d2 : decide (x < 0) = false := by simpa using h0
      by_cases h1 : (bs.length : Int) < x
      · have d3 : decide ((bs.length : Int) < x) = true := by simpa using h1
        go_enter Tryd.func3, Tryd.ntmps3
        go_wp2_with fail
        refine (awake_any hL).mono ?_
        rintro e w1 ⟨rfl, ho1⟩
        go_wp2
        go_ret
        exact ⟨rfl, ho1⟩
      · obtain ⟨k, rfl⟩ := Int.eq_ofNat_of_zero_le (show 0 ≤ x by omega)
        cases A with
        | none =>
          have hc0 := hA rfl
          have hb : bs = [] := List.eq_nil_of_length_eq_zero (by omega)
          obtain rfl : k = 0 := by omega
          subst hb hc0
          exact tell_nil w hL
        | some ad =>
          by_cases hck : c = k
          · have e1 : bs.length = c := by omega
            have e2 : k = c := by omega
            rw [e1] at h ⊢
            rw [e2]
            exact tell_full ad c bs w hL h e1 (by omega)
          · exact tell_some ad c bs k w hL h hc (by omega) (by omega) hck
end Go.Proofs.YtmnnjbamphoghaaDoor
