/-
  DigestSizes, walked.
-/
import Derived.Test.YtekmebbioalpdaaDoorDLParts
import Derived.Deep.RegionWith
namespace Go.Proofs.YtekmebbioalpdaaDoor
open Go.RowKit

theorem isrc_take {w : World} {A : Option Addr} {n c : Nat} {xs : List Int} (h : ISrc w (.slice A n c) xs) (k d : Nat) (hk : k ≤ xs.length) : ISrc w (.slice A k d) (xs.take k) := by
  have hl : (xs.take k).length = k := by rw [List.length_take]; omega
  refine ⟨⟨A, d, by rw [hl], fun j hj => ?_⟩, by have := h.small; omega, fun x hx => h.fits x (List.mem_of_mem_take hx)⟩
  obtain ⟨ad, h1, h2⟩ := h.at_ (k := j) (by omega)
  exact ⟨ad, h1, by rw [h2, List.getElem_take]⟩
theorem isrc_cut {w : World} {ad : Addr} {n c : Nat} {xs : List Int} (h : ISrc w (.slice (some ad) n c) xs) (x m d : Nat) (hm : n - x = m) (hx : x ≤ n) (hn : n ≤ c) : ISrc w (.slice (some (if c = x then ad else ad.add x)) m d) (xs.drop x) := by
  have hl := h.len
  have hl2 : (xs.drop x).length = m := by rw [List.length_drop]; omega
  refine ⟨⟨_, d, by rw [hl2], fun j hj => ⟨_, rfl, ?_⟩⟩, by have := h.small; omega, fun y hy => h.fits y (List.mem_of_mem_drop hy)⟩
  obtain ⟨ad', e, hc⟩ := h.at_ (k := x + j) (by omega)
  injection e with e
  subst e
  rw [if_neg (by omega), Addr.add_add, hc, List.getElem_drop]
/-- what Bytes answers of two channels -/
def twoC (l r : List Int) : List (List Int) := [l, r]
theorem okC_two (l r : List Int) (h : l.length = r.length) : okC (twoC l r) := by
  refine ⟨by simp [twoC], by simp [twoC], fun j hj => ?_⟩
  match j, hj with
  | 0, _ => rfl
  | 1, _ => exact h.symm
theorem inD_two (k : Nat) (l r : List Int) : (∀ j, (hj : j < (twoC l r).length) → inD k (twoC l r)[j]) ↔ inD k l ∧ inD k r := by
  constructor
  · intro h
    exact ⟨h 0 (by simp [twoC]), h 1 (by simp [twoC])⟩
  · rintro ⟨h1, h2⟩ j hj
    match j, hj with
    | 0, _ => exact h1
    | 1, _ => exact h2
/-- is it answered -/
def goodT (d : Int) (l r : List Int) : Prop := okD d ∧ inD (d - 1).toNat l ∧ inD (d - 1).toNat r
def sizeD (d : Int) : Nat := ((d - 1).toNat + 8) / 8
theorem bytes_two_no {u : World} (d : Int) (A : Option Addr) (l r : List Int) (hlr : l.length = r.length) (hx : Rws u (.slice A 2 2) (twoC l r)) (h : ¬ goodT d l r) :
    Calls Tryd.prog 15 #[iv d, .slice A 2 2] u fun e w' => ∃ z : Int, z ≠ 0 ∧ e = .returned (.tuple #[.slice none 0 0, iv z]) ∧ Only Nix u w' := by
  by_cases hd : okD d
  · obtain ⟨d4, d32⟩ := hd
    have hbad : ¬ ∀ j, (hj : j < (twoC l r).length) → inD (d - 1).toNat (twoC l r)[j] := fun hh => h ⟨⟨d4, d32⟩, ((inD_two _ l r).1 hh).1, ((inD_two _ l r).1 hh).2⟩
    refine (bytes_range d (d - 1).toNat (by omega) A 2 2 (twoC l r) hx ⟨⟨d4, d32⟩, okC_two l r hlr⟩ hbad).mono fun _ _ hh => ⟨10, by decide, hh.1, by rw [← hh.2]; exact Only.refl _ _⟩
  · exact (bytes_arg d A 2 2 (twoC l r) hx (fun hh => hd hh.1)).mono fun _ _ hh => ⟨1, by decide, hh.1, by rw [← hh.2]; exact Only.refl _ _⟩
theorem bytes_two_yes {u : World} (d : Int) (A : Option Addr) (l r : List Int) (hlr : l.length = r.length) (hl : l.length ≤ 40) (hx : Rws u (.slice A 2 2) (twoC l r)) (h : goodT d l r) :
    Calls Tryd.prog 15 #[iv d, .slice A 2 2] u fun e w' => ∃ v', e = .returned (.tuple #[v', iv 0]) ∧ w'.ownsRow u.heap.size 5 1 v' (byTo (sizeD d) (twoC l r) l.length).length ((byTo (sizeD d) (twoC l r) l.length).map byt) ∧ Only Nix u w' := by
  obtain ⟨⟨d4, d32⟩, h1, h2⟩ := h
  refine bytes_yes d (d - 1).toNat (by omega) (sizeD d) rfl A 2 2 (twoC l r) hx ⟨⟨d4, d32⟩, okC_two l r hlr⟩ ((inD_two _ l r).2 ⟨h1, h2⟩) l.length rfl ?_
  rw [byTo_len]
  have hs : sizeD d ≤ 4 := by unfold sizeD; omega
  have h3 : (twoC l r).length * sizeD d ≤ 2 * 4 := Nat.mul_le_mul (by simp [twoC]) hs
  have h4 := Nat.mul_le_mul hl h3
  omega
theorem good_cut (d : Int) (l r : List Int) (k : Nat) : goodT d l r ↔ goodT d (l.take k) (r.take k) ∧ goodT d (l.drop k) (r.drop k) := by
  have key : ∀ (n : Nat) (xs : List Int), inD n xs ↔ inD n (xs.take k) ∧ inD n (xs.drop k) := by
    intro n xs
    constructor
    · intro h
      exact ⟨fun x hx => h x (List.mem_of_mem_take hx), fun x hx => h x (List.mem_of_mem_drop hx)⟩
    · rintro ⟨h1, h2⟩ x hx
      rw [← List.take_append_drop k xs] at hx
      rcases List.mem_append.1 hx with hx | hx
      · exact h1 x hx
      · exact h2 x hx
  unfold goodT
  rw [key _ l, key _ r]
  constructor
  · rintro ⟨a, ⟨b, c⟩, e, f⟩; exact ⟨⟨a, b, e⟩, a, c, f⟩
  · rintro ⟨⟨a, b, e⟩, _, c, f⟩; exact ⟨a, ⟨b, c⟩, e, f⟩
theorem frB_two (s : Nat) (l r : List Int) (i : Nat) : frB s (twoC l r) i 2 = lf (u64 (l.getD i 0)) s ++ lf (u64 (r.getD i 0)) s := by
  simp [frB, twoC]
theorem byTo_two (s : Nat) (l r : List Int) (n : Nat) : byTo s (twoC l r) (n + 1) = byTo s (twoC l r) n ++ (lf (u64 (l.getD n 0)) s ++ lf (u64 (r.getD n 0)) s) := by
  rw [byTo, ← frB_two]; rfl
theorem byTo_take (s : Nat) (l r : List Int) (k : Nat) : ∀ n, n ≤ k → byTo s (twoC (l.take k) (r.take k)) n = byTo s (twoC l r) n
  | 0, _ => rfl
  | n + 1, h => by
    have e : ∀ xs : List Int, (xs.take k).getD n 0 = xs.getD n 0 := fun xs => by
      rw [List.getD_eq_getElem?_getD, List.getD_eq_getElem?_getD, List.getElem?_take, if_pos (by omega)]
    rw [byTo_two, byTo_two, byTo_take s l r k n (by omega), e l, e r]
theorem byTo_drop (s : Nat) (l r : List Int) (k : Nat) : ∀ n, byTo s (twoC l r) k ++ byTo s (twoC (l.drop k) (r.drop k)) n = byTo s (twoC l r) (k + n)
  | 0 => by simp [byTo]
  | n + 1 => by
    have e : ∀ xs : List Int, (xs.drop k).getD n 0 = xs.getD (k + n) 0 := fun xs => by
      rw [List.getD_eq_getElem?_getD, List.getD_eq_getElem?_getD, List.getElem?_drop]
    rw [byTo_two, ← List.append_assoc, byTo_drop s l r k n, ← Nat.add_assoc, byTo_two, e l, e r]
theorem byTo_cut (s : Nat) (l r : List Int) (k : Nat) (hk : k ≤ l.length) : byTo s (twoC (l.take k) (r.take k)) (l.take k).length ++ byTo s (twoC (l.drop k) (r.drop k)) (l.drop k).length = byTo s (twoC l r) l.length := by
  rw [List.length_take, List.length_drop, Nat.min_eq_left hk, byTo_take _ _ _ _ _ (Nat.le_refl _), byTo_drop, Nat.add_sub_cancel' hk]
theorem byTo_lt (s : Nat) (xss : List (List Int)) : ∀ n, ∀ x ∈ byTo s xss n, x < 256
  | 0, x, h => by simp [byTo] at h
  | n + 1, x, h => by
    rw [byTo] at h
    rcases List.mem_append.1 h with h | h
    · exact byTo_lt s xss n x h
    · unfold frB at h
      obtain ⟨bs, hb, hx⟩ := List.mem_flatten.1 h
      obtain ⟨xs, _, rfl⟩ := List.mem_map.1 hb
      exact lf_lt _ _ x hx

/-- what Bytes answers of two channels, or that it does not -/
def Ans (u : World) (d : Int) (l r : List Int) (v : Value) (z : Int) (w' : World) : Prop :=
  (¬ goodT d l r ∧ z ≠ 0 ∧ v = .slice none 0 0) ∨ (goodT d l r ∧ z = 0 ∧ w'.ownsRow u.heap.size 5 1 v (byTo (sizeD d) (twoC l r) l.length).length ((byTo (sizeD d) (twoC l r) l.length).map byt))
theorem bytes_two {u : World} (d : Int) (A : Option Addr) (l r : List Int) (hlr : l.length = r.length) (hl : l.length ≤ 40) (hx : Rws u (.slice A 2 2) (twoC l r)) :
    Calls Tryd.prog 15 #[iv d, .slice A 2 2] u fun e w' => ∃ (v : Value) (z : Int), e = .returned (.tuple #[v, iv z]) ∧ Ans u d l r v z w' ∧ Only Nix u w' := by
  by_cases h : goodT d l r
  · exact (bytes_two_yes d A l r hlr hl hx h).mono fun _ _ ⟨v, h1, h2, h3⟩ => ⟨v, 0, h1, .inr ⟨h, rfl, h2⟩, h3⟩
  · exact (bytes_two_no d A l r hlr hx h).mono fun _ _ ⟨z, h0, h1, h2⟩ => ⟨_, z, h1, .inl ⟨h, h0, rfl⟩, h2⟩
/-- a literal of two slices -/
theorem bytes_lit {w u : World} (hw : Only Nix w u) (N : Nat) (hN : u.heap.size = N) (d : Int) {A1 A2 : Option Addr} {n1 n2 c1 c2 : Nat} {l r : List Int} (h1 : ISrc w (.slice A1 n1 c1) l) (h2 : ISrc w (.slice A2 n2 c2) r) (hlr : l.length = r.length) (hl : l.length ≤ 40) :
    Calls Tryd.prog 15 #[iv d, .slice (some ⟨N, 0, none⟩) 2 2] (u.alloc (.cells #[.slice A1 n1 c1, .slice A2 n2 c2] 39)) fun e w' => ∃ (v : Value) (z : Int), e = .returned (.tuple #[v, iv z]) ∧ Ans (u.alloc (.cells #[.slice A1 n1 c1, .slice A2 n2 c2] 39)) d l r v z w' ∧ Only Nix u w' ∧ u.heap.size + 1 ≤ w'.heap.size := by
  subst hN
  exact (bytes_two d _ l r hlr hl (rws2 (h1.nix hw) (h2.nix hw) 39)).mono fun _ _ ⟨v, z, a, b, c⟩ => ⟨v, z, a, b, ((Only.refl Nix u).alloc _).trans c, by have := c.size; simpa using this⟩

theorem isrc_cutO {w : World} {A : Option Addr} {n c : Nat} {xs : List Int} (h : ISrc w (.slice A n c) xs) (k m d : Nat) (hm : n - k = m) (hk : k ≤ n) (hn : n ≤ c) (hc : ¬ c = k) : ISrc w (.slice (A.map (·.add k)) m d) (xs.drop k) := by
  cases A with
  | some ad =>
    have := isrc_cut h k m d hm hk hn
    rw [if_neg hc] at this
    exact this
  | none =>
    have hl := h.len
    have h0 : xs.length = 0 := by
      rcases Nat.eq_zero_or_pos xs.length with e | e
      · exact e
      · obtain ⟨ad, e2, _⟩ := h.at_ (k := 0) e
        cases e2
    obtain rfl : xs = [] := List.eq_nil_of_length_eq_zero h0
    obtain rfl : m = 0 := by simp at h0; simp at hl; omega
    exact ⟨⟨none, d, by simp, fun j hj => by simp at hj⟩, by simp, by simp⟩
theorem isrc_cutE {w : World} {A : Option Addr} {n c : Nat} {xs : List Int} (h : ISrc w (.slice A n c) xs) (k d : Nat) (hk : n ≤ k) : ISrc w (.slice A 0 d) (xs.drop k) := by
  have hl := h.len
  have e : xs.drop k = [] := List.drop_of_length_le (by omega)
  rw [e]
  exact ⟨⟨A, d, by simp, fun j hj => by simp at hj⟩, by simp, by simp⟩


set_option maxHeartbeats 2000000 in
theorem sizes_gg (d : Int) (A1 A2 : Option Addr) (n c1 c2 k : Nat) (l r : List Int) (w : World) (hL : Laid w) (h1 : ISrc w (.slice A1 n c1) l) (h2 : ISrc w (.slice A2 n c2) r) (h40 : n ≤ 40) (hk : k ≤ n) (hc1 : n ≤ c1) (hq1 : ¬ c1 = k) (hc2 : n ≤ c2) (hq2 : ¬ c2 = k) :
    Calls Tryd.prog 6 #[iv d, .agg #[.slice A1 n c1, .slice A2 n c2], iv (k : Int)] w fun e w' => e = .returned (.bool true) ∧ Only Nix w w' := by
  have HL : Hid (∀ u, Only Nix w u → Laid u) := fun u o => hL.nix o
  have hl1 := h1.len
  have hl2 := h2.len
  have HB1 : Hid (∀ u N, Only Nix w u → u.heap.size = N → _) := Lib.hid (fun u N (o : Only Nix w u) (hN : u.heap.size = N) => bytes_lit o N hN d h1 h2 (by omega) (by omega))
  have HB2 : Hid (∀ u N, Only Nix w u → u.heap.size = N → _) := Lib.hid (fun u N (o : Only Nix w u) (hN : u.heap.size = N) => bytes_lit o N hN d (isrc_take h1 k c1 (by omega)) (isrc_take h2 k c2 (by omega)) (by rw [List.length_take, List.length_take]; omega) (by rw [List.length_take]; omega))
  have HB3 : Hid (∀ u N, Only Nix w u → u.heap.size = N → _) := Lib.hid (fun u N (o : Only Nix w u) (hN : u.heap.size = N) => bytes_lit o N hN d (isrc_cutO h1 k (n - k) (c1 - k) (by omega) (by omega) (by omega) hq1) (isrc_cutO h2 k (n - k) (c2 - k) (by omega) (by omega) (by omega) hq2) (by rw [List.length_drop, List.length_drop]; omega) (by rw [List.length_drop]; omega))
  have Hk : Hid (k ≤ l.length) := Lib.hid (by omega)
  have Hl1 := Lib.hid hl1
  have Hl40 : Hid (l.length ≤ 40) := Lib.hid (by omega)
  clear hL h1 h2 hl1 hl2
  have g40 : ¬ (40 : Int) < (n : Int) := by omega
  have gk0 : ¬ (k : Int) < 0 := by omega
  have gkn : ¬ (n : Int) < (k : Int) := by omega
  have i1 : (0 : Int) ≤ (k : Int) := by omega
  have i2 : (k : Int) ≤ (n : Int) := by omega
  have i3 : (k : Int) ≤ (c1 : Int) := by omega
  have i4 : (k : Int) ≤ (c2 : Int) := by omega
  have i5 : (n : Int) ≤ (c1 : Int) := by omega
  have i6 : (n : Int) ≤ (c2 : Int) := by omega
  have a0 := (Only.refl Nix w).alloc (.cells #[.slice A1 n c1, .slice A2 n c2] 44)
  go_enter Tryd.func6, Tryd.ntmps6
  go_wp2_with fail
  refine (HB1.out _ (w.heap.size + 1) a0 (by simp)).mono ?_
  rintro e w1 ⟨v1, z1, rfl, hA1, o1, _⟩
  have oa := a0.trans o1
  have HA1 := Lib.hid hA1
  clear hA1
  go_wp2_with fail
  go_region_with (go_at_call 15; refine (HB2.out _ w1.heap.size oa.drew rfl).mono ?_; rintro e w2 ⟨v2, z2, rfl, hA2, o2, hsw2⟩)
  have ob := oa.drew.trans o2
  have HA2 := Lib.hid hA2
  clear hA2
  go_wp2_with fail
  go_region_with (go_at_call 15; refine (HB3.out _ w2.heap.size ob.drew rfl).mono ?_; rintro e w3 ⟨v3, z3, rfl, hA3, o3, _⟩)
  have oc := ob.drew.trans o3
  have HA3 := Lib.hid hA3
  clear hA3 HB1 HB2 HB3
  have hgc := Lib.hid (good_cut d l r k)
  rcases HA1.out with ⟨ng, hz1, rfl⟩ | ⟨hg, rfl, hO1⟩
  · have hz1b : (z1 != 0) = true := by simpa using hz1
    have hz1c : ¬ z1 = 0 := hz1
    by_cases hz2 : z2 = 0
    · have hz3 : z3 ≠ 0 := by
        rcases HA2.out with ⟨n2, q2, _⟩ | ⟨g2, _, _⟩
        · exact absurd hz2 q2
        · rcases HA3.out with ⟨n3, q3, _⟩ | ⟨g3, _, _⟩
          · exact q3
          · exact absurd (hgc.out.2 ⟨g2, g3⟩) ng
      have hz3b : (z3 != 0) = true := by simpa using hz3
      clear hz3 hz1
      subst hz2
      go_wp2_with fail
      refine (aw (w := w) oc (HL.out _ oc)).mono ?_
      rintro e w5 ⟨rfl, o5⟩
      go_wp2
      go_ret
      exact ⟨rfl, o5⟩
    · have hz2b : (z2 != 0) = true := by simpa using hz2
      clear hz1
      go_wp2_with fail
      refine (aw (w := w) oc (HL.out _ oc)).mono ?_
      rintro e w5 ⟨rfl, o5⟩
      go_wp2
      go_ret
      exact ⟨rfl, o5⟩
  · obtain ⟨g2, g3⟩ := hgc.out.1 hg
    rcases HA2.out with ⟨n2, _, _⟩ | ⟨_, rfl, hO2⟩
    · exact absurd g2 n2
    · rcases HA3.out with ⟨n3, _, _⟩ | ⟨_, rfl, hO3⟩
      · exact absurd g3 n3
      · obtain ⟨⟨d4, d32⟩, _, _⟩ := hg
        have hcut := Lib.hid (byTo_cut (sizeD d) l r k Hk.out)
        obtain ⟨S, hS⟩ : ∃ S, Hid (sizeD d = S) := ⟨_, Lib.hid rfl⟩
        rw [hS.out] at hO1 hO2 hO3 hcut
        have hS4 : S ≤ 4 := by rw [← hS.out]; unfold sizeD; omega
        have hd7 : (d + 7) / 8 = (S : Int) := by rw [← hS.out]; unfold sizeD; omega
        have hla : (byTo S (twoC l r) l.length).length = l.length * (2 * S) := byTo_len _ _ _
        have hlb : (byTo S (twoC (l.take k) (r.take k)) (l.take k).length).length = (l.take k).length * (2 * S) := byTo_len _ _ _
        have hlc : (byTo S (twoC (l.drop k) (r.drop k)) (l.drop k).length).length = (l.drop k).length * (2 * S) := byTo_len _ _ _
        have t1 := byTo_lt S (twoC l r) l.length
        have t2 := byTo_lt S (twoC (l.take k) (r.take k)) (l.take k).length
        have t3 := byTo_lt S (twoC (l.drop k) (r.drop k)) (l.drop k).length
        have b1 : l.length * (2 * S) ≤ 40 * 8 := Nat.mul_le_mul Hl40.out (by omega)
        have b2 : (l.take k).length * (2 * S) ≤ 40 * 8 := Nat.mul_le_mul (by rw [List.length_take]; have := Hl40.out; omega) (by omega)
        have b3 : (l.drop k).length * (2 * S) ≤ 40 * 8 := Nat.mul_le_mul (by rw [List.length_drop]; have := Hl40.out; omega) (by omega)
        rw [← hla] at b1
        rw [← hlb] at b2
        rw [← hlc] at b3
        have hprod : (2 : Int) * (n : Int) * (S : Int) = ((byTo S (twoC l r) l.length).length : Int) := by
          rw [hla, ← Hl1.out]
          have : n * (2 * S) = 2 * n * S := by rw [← Nat.mul_assoc, Nat.mul_comm n 2]
          rw [this]
          simp
        generalize byTo S (twoC l r) l.length = Y1 at *
        generalize byTo S (twoC (l.take k) (r.take k)) (l.take k).length = Y2 at *
        generalize byTo S (twoC (l.drop k) (r.drop k)) (l.drop k).length = Y3 at *
        obtain ⟨B1, e1, rfl⟩ := owns_slice hO1
        obtain ⟨B2, e2, rfl⟩ := owns_slice hO2
        obtain ⟨B3, e3, rfl⟩ := owns_slice hO3
        have HY1 := Lib.hid ((owns_src hO1 (by omega) t1).nix ((((Only.refl Nix w1).drew.trans o2).drew).trans o3))
        have HY3 := Lib.hid (owns_src hO3 (by omega) t3)
        have HY2 := Lib.hid (owns_only hO2 ((Only.refl Nix w2).drew.trans o3) (fun _ _ e => e))
        have hbs : w.heap.size ≤ (w1.drew.alloc (.cells #[.slice A1 k c1, .slice A2 k c2] 39)).heap.size := by have := oa.size; simp; omega
        have hbs2 := ((Only.refl Nix w2).drew.trans o3).size
        have hbs3 : (w1.drew.alloc (.cells #[.slice A1 k c1, .slice A2 k c2] 39)).heap.size ≤ w2.heap.size := by
          simp only [World.size_alloc]
          exact hsw2
        have hbs4 : w1.heap.size < (w1.drew.alloc (.cells #[.slice A1 k c1, .slice A2 k c2] 39)).heap.size := by simp only [World.size_alloc]; exact Nat.lt_succ_self _
        have HY1o := Lib.hid (owns_src hO1 (by omega) t1)
        have o13 : Only Nix w1 w3 := (((Only.refl Nix w1).drew.trans o2).drew).trans o3
        have Hd7 := Lib.hid hd7
        clear hO1 hO2 hO3 hla hlb hlc HA1 HA2 HA3
        generalize (w1.drew.alloc (.cells #[.slice A1 k c1, .slice A2 k c2] 39)).heap.size = bb at *
        go_wp2_with (at_builtin; refine wpList_append_bytes rfl (.tmp 88) (.tmp 89) rfl bb (.slice B2 Y2.length e2) Y2.length (Y2.map byt) rfl HY2.out B3 Y3.length e3 Y3 rfl HY3.out (by omega) (by omega) ?rest)
        case rest =>
          intro v4 w4 hO4 hg4 _
          rw [← List.map_append, hcut.out, ← List.length_append, hcut.out] at hO4
          have o4 : Only Nix w w4 := oc.grown hg4 (fun k e => .inr (by have := (HY2.out.lt k e).1; omega))
          obtain ⟨B4, e4, rfl⟩ := owns_slice hO4
          have HY4 := Lib.hid (owns_src hO4 (by omega) t1)
          have o14 : Only (From bb) w1 w4 := (o13.nix).grown hg4 (fun k e => .inl (HY2.out.lt k e).1)
          have HY5 := Lib.hid (HY1o.out.only o14 (fun i hi e => by unfold From at e; omega))
          have HEq := Lib.hid (equal_at (Only.refl Nix w4) _ _ _ _ _ _ Y1 HY5.out HY4.out)
          clear hO4 hg4
          go_wp2_with fail
          refine (HEq.out).mono ?_
          rintro e w5 ⟨rfl, o5⟩
          go_wp2_with fail
          refine (aw (w := w) (o4.trans o5) (HL.out _ (o4.trans o5))).mono ?_
          rintro e w6 ⟨rfl, o6⟩
          go_wp2
          go_ret
          exact ⟨rfl, o6⟩
end Go.Proofs.YtekmebbioalpdaaDoor
