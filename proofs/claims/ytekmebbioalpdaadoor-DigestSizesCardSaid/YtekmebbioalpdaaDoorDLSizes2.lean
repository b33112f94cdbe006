/-
  DigestSizes, walked: where a slice is cut at its end.
-/
import Derived.Test.YtekmebbioalpdaaDoorDLSizes
namespace Go.Proofs.YtekmebbioalpdaaDoor
open Go.RowKit

set_option maxHeartbeats 2000000 in
theorem sizes_ee (d : Int) (A1 A2 : Option Addr) (k : Nat) (l r : List Int) (w : World) (hL : Laid w) (h1 : ISrc w (.slice A1 k k) l) (h2 : ISrc w (.slice A2 k k) r) (h40 : k ≤ 40) :
    Calls Tryd.prog 6 #[iv d, .agg #[.slice A1 k k, .slice A2 k k], iv (k : Int)] w fun e w' => e = .returned (.bool true) ∧ Only Nix w w' := by
  have HL : Hid (∀ u, Only Nix w u → Laid u) := fun u o => hL.nix o
  have hl1 := h1.len
  have hl2 := h2.len
  have HB1 : Hid (∀ u N, Only Nix w u → u.heap.size = N → _) := Lib.hid (fun u N (o : Only Nix w u) (hN : u.heap.size = N) => bytes_lit o N hN d h1 h2 (by omega) (by omega))
  have HB2 : Hid (∀ u N, Only Nix w u → u.heap.size = N → _) := Lib.hid (fun u N (o : Only Nix w u) (hN : u.heap.size = N) => bytes_lit o N hN d (isrc_take h1 k k (by omega)) (isrc_take h2 k k (by omega)) (by rw [List.length_take, List.length_take]; omega) (by rw [List.length_take]; omega))
  have HB3 : Hid (∀ u N, Only Nix w u → u.heap.size = N → _) := Lib.hid (fun u N (o : Only Nix w u) (hN : u.heap.size = N) => bytes_lit o N hN d (isrc_cutE h1 k 0 (Nat.le_refl _)) (isrc_cutE h2 k 0 (Nat.le_refl _)) (by rw [List.length_drop, List.length_drop]; omega) (by rw [List.length_drop]; omega))
  have Hk : Hid (k ≤ l.length) := Lib.hid (by omega)
  have Hl1 := Lib.hid hl1
  have Hl40 : Hid (l.length ≤ 40) := Lib.hid (by omega)
  clear hL h1 h2 hl1 hl2
  have g40 : ¬ (40 : Int) < (k : Int) := by omega
  have gk0 : ¬ (k : Int) < 0 := by omega
  have gkn : ¬ (k : Int) < (k : Int) := by omega
  have i1 : (0 : Int) ≤ (k : Int) := by omega
  have i2 : (k : Int) ≤ (k : Int) := by omega
  have i3 : (k : Int) ≤ (k : Int) := by omega
  have i4 : (k : Int) ≤ (k : Int) := by omega
  have i5 : (k : Int) ≤ (k : Int) := by omega
  have i6 : (k : Int) ≤ (k : Int) := by omega
  have a0 := (Only.refl Nix w).alloc (.cells #[.slice A1 k k, .slice A2 k k] 44)
  go_enter Tryd.func6, Tryd.ntmps6
  go_wp2_with fail
  refine (HB1.out _ (w.heap.size + 1) a0 (by simp)).mono ?_
  rintro e w1 ⟨v1, z1, rfl, hA1, o1, _⟩
  have oa := a0.trans o1
  have HA1 := Lib.hid hA1
  clear hA1
  go_wp2_with fail
  go_region_with (go_at_call 15; refine (HB2.out _ w1.heap.size oa.drew rfl).mono ?_; rintro e w2 ⟨v2, z2, rfl, hA2, o2, hsw2⟩)
  have ob := oa.drew.trans o2
  have HA2 := Lib.hid hA2
  clear hA2
  go_wp2_with fail
  go_region_with (go_at_call 15; refine (HB3.out _ w2.heap.size ob.drew rfl).mono ?_; rintro e w3 ⟨v3, z3, rfl, hA3, o3, _⟩)
  have oc := ob.drew.trans o3
  have HA3 := Lib.hid hA3
  clear hA3 HB1 HB2 HB3
  have hgc := Lib.hid (good_cut d l r k)
  rcases HA1.out with ⟨ng, hz1, rfl⟩ | ⟨hg, rfl, hO1⟩
  · have hz1b : (z1 != 0) = true := by simpa using hz1
    have hz1c : ¬ z1 = 0 := hz1
    by_cases hz2 : z2 = 0
    · have hz3 : z3 ≠ 0 := by
        rcases HA2.out with ⟨n2, q2, _⟩ | ⟨g2, _, _⟩
        · exact absurd hz2 q2
        · rcases HA3.out with ⟨n3, q3, _⟩ | ⟨g3, _, _⟩
          · exact q3
          · exact absurd (hgc.out.2 ⟨g2, g3⟩) ng
      have hz3b : (z3 != 0) = true := by simpa using hz3
      clear hz3 hz1
      subst hz2
      go_wp2_with fail
      refine (aw (w := w) oc (HL.out _ oc)).mono ?_
      rintro e w5 ⟨rfl, o5⟩
      go_wp2
      go_ret
      exact ⟨rfl, o5⟩
    · have hz2b : (z2 != 0) = true := by simpa using hz2
      clear hz1
      go_wp2_with fail
      refine (aw (w := w) oc (HL.out _ oc)).mono ?_
      rintro e w5 ⟨rfl, o5⟩
      go_wp2
      go_ret
      exact ⟨rfl, o5⟩
  · obtain ⟨g2, g3⟩ := hgc.out.1 hg
    rcases HA2.out with ⟨n2, _, _⟩ | ⟨_, rfl, hO2⟩
    · exact absurd g2 n2
    · rcases HA3.out with ⟨n3, _, _⟩ | ⟨_, rfl, hO3⟩
      · exact absurd g3 n3
      · obtain ⟨⟨d4, d32⟩, _, _⟩ := hg
        have hcut := Lib.hid (byTo_cut (sizeD d) l r k Hk.out)
        obtain ⟨S, hS⟩ : ∃ S, Hid (sizeD d = S) := ⟨_, Lib.hid rfl⟩
        rw [hS.out] at hO1 hO2 hO3 hcut
        have hS4 : S ≤ 4 := by rw [← hS.out]; unfold sizeD; omega
        have hd7 : (d + 7) / 8 = (S : Int) := by rw [← hS.out]; unfold sizeD; omega
        have hla : (byTo S (twoC l r) l.length).length = l.length * (2 * S) := byTo_len _ _ _
        have hlb : (byTo S (twoC (l.take k) (r.take k)) (l.take k).length).length = (l.take k).length * (2 * S) := byTo_len _ _ _
        have hlc : (byTo S (twoC (l.drop k) (r.drop k)) (l.drop k).length).length = (l.drop k).length * (2 * S) := byTo_len _ _ _
        have t1 := byTo_lt S (twoC l r) l.length
        have t2 := byTo_lt S (twoC (l.take k) (r.take k)) (l.take k).length
        have t3 := byTo_lt S (twoC (l.drop k) (r.drop k)) (l.drop k).length
        have b1 : l.length * (2 * S) ≤ 40 * 8 := Nat.mul_le_mul Hl40.out (by omega)
        have b2 : (l.take k).length * (2 * S) ≤ 40 * 8 := Nat.mul_le_mul (by rw [List.length_take]; have := Hl40.out; omega) (by omega)
        have b3 : (l.drop k).length * (2 * S) ≤ 40 * 8 := Nat.mul_le_mul (by rw [List.length_drop]; have := Hl40.out; omega) (by omega)
        rw [← hla] at b1
        rw [← hlb] at b2
        rw [← hlc] at b3
        have hprod : (2 : Int) * (k : Int) * (S : Int) = ((byTo S (twoC l r) l.length).length : Int) := by
          rw [hla, ← Hl1.out]
          have : k * (2 * S) = 2 * k * S := by rw [← Nat.mul_assoc, Nat.mul_comm k 2]
          rw [this]
          simp
        generalize byTo S (twoC l r) l.length = Y1 at *
        generalize byTo S (twoC (l.take k) (r.take k)) (l.take k).length = Y2 at *
        generalize byTo S (twoC (l.drop k) (r.drop k)) (l.drop k).length = Y3 at *
        obtain ⟨B1, e1, rfl⟩ := owns_slice hO1
        obtain ⟨B2, e2, rfl⟩ := owns_slice hO2
        obtain ⟨B3, e3, rfl⟩ := owns_slice hO3
        have HY1 := Lib.hid ((owns_src hO1 (by omega) t1).nix ((((Only.refl Nix w1).drew.trans o2).drew).trans o3))
        have HY3 := Lib.hid (owns_src hO3 (by omega) t3)
        have HY2 := Lib.hid (owns_only hO2 ((Only.refl Nix w2).drew.trans o3) (fun _ _ e => e))
        have hbs : w.heap.size ≤ (w1.drew.alloc (.cells #[.slice A1 k k, .slice A2 k k] 39)).heap.size := by have := oa.size; simp; omega
        have hbs2 := ((Only.refl Nix w2).drew.trans o3).size
        have hbs3 : (w1.drew.alloc (.cells #[.slice A1 k k, .slice A2 k k] 39)).heap.size ≤ w2.heap.size := by
          simp only [World.size_alloc]
          exact hsw2
        have hbs4 : w1.heap.size < (w1.drew.alloc (.cells #[.slice A1 k k, .slice A2 k k] 39)).heap.size := by simp only [World.size_alloc]; exact Nat.lt_succ_self _
        have HY1o := Lib.hid (owns_src hO1 (by omega) t1)
        have o13 : Only Nix w1 w3 := (((Only.refl Nix w1).drew.trans o2).drew).trans o3
        have Hd7 := Lib.hid hd7
        clear hO1 hO2 hO3 hla hlb hlc HA1 HA2 HA3
        generalize (w1.drew.alloc (.cells #[.slice A1 k k, .slice A2 k k] 39)).heap.size = bb at *
        go_wp2_with (at_builtin; refine wpList_append_bytes rfl (.tmp 88) (.tmp 89) rfl bb (.slice B2 Y2.length e2) Y2.length (Y2.map byt) rfl HY2.out B3 Y3.length e3 Y3 rfl HY3.out (by omega) (by omega) ?rest)
        case rest =>
          intro v4 w4 hO4 hg4 _
          rw [← List.map_append, hcut.out, ← List.length_append, hcut.out] at hO4
          have o4 : Only Nix w w4 := oc.grown hg4 (fun k e => .inr (by have := (HY2.out.lt k e).1; omega))
          obtain ⟨B4, e4, rfl⟩ := owns_slice hO4
          have HY4 := Lib.hid (owns_src hO4 (by omega) t1)
          have o14 : Only (From bb) w1 w4 := (o13.nix).grown hg4 (fun k e => .inl (HY2.out.lt k e).1)
          have HY5 := Lib.hid (HY1o.out.only o14 (fun i hi e => by unfold From at e; omega))
          have HEq := Lib.hid (equal_at (Only.refl Nix w4) _ _ _ _ _ _ Y1 HY5.out HY4.out)
          clear hO4 hg4
          go_wp2_with fail
          refine (HEq.out).mono ?_
          rintro e w5 ⟨rfl, o5⟩
          go_wp2_with fail
          refine (aw (w := w) (o4.trans o5) (HL.out _ (o4.trans o5))).mono ?_
          rintro e w6 ⟨rfl, o6⟩
          go_wp2
          go_ret
          exact ⟨rfl, o6⟩

set_option maxHeartbeats 2000000 in
theorem sizes_eg (d : Int) (A1 A2 : Option Addr) (c2 k : Nat) (l r : List Int) (w : World) (hL : Laid w) (h1 : ISrc w (.slice A1 k k) l) (h2 : ISrc w (.slice A2 k c2) r) (h40 : k ≤ 40) (hc2 : k ≤ c2) (hq2 : ¬ c2 = k) :
    Calls Tryd.prog 6 #[iv d, .agg #[.slice A1 k k, .slice A2 k c2], iv (k : Int)] w fun e w' => e = .returned (.bool true) ∧ Only Nix w w' := by
  have HL : Hid (∀ u, Only Nix w u → Laid u) := fun u o => hL.nix o
  have hl1 := h1.len
  have hl2 := h2.len
  have HB1 : Hid (∀ u N, Only Nix w u → u.heap.size = N → _) := Lib.hid (fun u N (o : Only Nix w u) (hN : u.heap.size = N) => bytes_lit o N hN d h1 h2 (by omega) (by omega))
  have HB2 : Hid (∀ u N, Only Nix w u → u.heap.size = N → _) := Lib.hid (fun u N (o : Only Nix w u) (hN : u.heap.size = N) => bytes_lit o N hN d (isrc_take h1 k k (by omega)) (isrc_take h2 k c2 (by omega)) (by rw [List.length_take, List.length_take]; omega) (by rw [List.length_take]; omega))
  have HB3 : Hid (∀ u N, Only Nix w u → u.heap.size = N → _) := Lib.hid (fun u N (o : Only Nix w u) (hN : u.heap.size = N) => bytes_lit o N hN d (isrc_cutE h1 k 0 (Nat.le_refl _)) (isrc_cutO h2 k 0 (c2 - k) (by omega) (by omega) (by omega) hq2) (by rw [List.length_drop, List.length_drop]; omega) (by rw [List.length_drop]; omega))
  have Hk : Hid (k ≤ l.length) := Lib.hid (by omega)
  have Hl1 := Lib.hid hl1
  have Hl40 : Hid (l.length ≤ 40) := Lib.hid (by omega)
  clear hL h1 h2 hl1 hl2
  have g40 : ¬ (40 : Int) < (k : Int) := by omega
  have gk0 : ¬ (k : Int) < 0 := by omega
  have gkn : ¬ (k : Int) < (k : Int) := by omega
  have i1 : (0 : Int) ≤ (k : Int) := by omega
  have i2 : (k : Int) ≤ (k : Int) := by omega
  have i3 : (k : Int) ≤ (k : Int) := by omega
  have i4 : (k : Int) ≤ (c2 : Int) := by omega
  have i5 : (k : Int) ≤ (k : Int) := by omega
  have i6 : (k : Int) ≤ (c2 : Int) := by omega
  have a0 := (Only.refl Nix w).alloc (.cells #[.slice A1 k k, .slice A2 k c2] 44)
  go_enter Tryd.func6, Tryd.ntmps6
  go_wp2_with fail
  refine (HB1.out _ (w.heap.size + 1) a0 (by simp)).mono ?_
  rintro e w1 ⟨v1, z1, rfl, hA1, o1, _⟩
  have oa := a0.trans o1
  have HA1 := Lib.hid hA1
  clear hA1
  go_wp2_with fail
  go_region_with (go_at_call 15; refine (HB2.out _ w1.heap.size oa.drew rfl).mono ?_; rintro e w2 ⟨v2, z2, rfl, hA2, o2, hsw2⟩)
  have ob := oa.drew.trans o2
  have HA2 := Lib.hid hA2
  clear hA2
  go_wp2_with fail
  go_region_with (go_at_call 15; refine (HB3.out _ w2.heap.size ob.drew rfl).mono ?_; rintro e w3 ⟨v3, z3, rfl, hA3, o3, _⟩)
  have oc := ob.drew.trans o3
  have HA3 := Lib.hid hA3
  clear hA3 HB1 HB2 HB3
  have hgc := Lib.hid (good_cut d l r k)
  rcases HA1.out with ⟨ng, hz1, rfl⟩ | ⟨hg, rfl, hO1⟩
  · have hz1b : (z1 != 0) = true := by simpa using hz1
    have hz1c : ¬ z1 = 0 := hz1
    by_cases hz2 : z2 = 0
    · have hz3 : z3 ≠ 0 := by
        rcases HA2.out with ⟨n2, q2, _⟩ | ⟨g2, _, _⟩
        · exact absurd hz2 q2
        · rcases HA3.out with ⟨n3, q3, _⟩ | ⟨g3, _, _⟩
          · exact q3
          · exact absurd (hgc.out.2 ⟨g2, g3⟩) ng
      have hz3b : (z3 != 0) = true := by simpa using hz3
      clear hz3 hz1
      subst hz2
      go_wp2_with fail
      refine (aw (w := w) oc (HL.out _ oc)).mono ?_
      rintro e w5 ⟨rfl, o5⟩
      go_wp2
      go_ret
      exact ⟨rfl, o5⟩
    · have hz2b : (z2 != 0) = true := by simpa using hz2
      clear hz1
      go_wp2_with fail
      refine (aw (w := w) oc (HL.out _ oc)).mono ?_
      rintro e w5 ⟨rfl, o5⟩
      go_wp2
      go_ret
      exact ⟨rfl, o5⟩
  · obtain ⟨g2, g3⟩ := hgc.out.1 hg
    rcases HA2.out with ⟨n2, _, _⟩ | ⟨_, rfl, hO2⟩
    · exact absurd g2 n2
    · rcases HA3.out with ⟨n3, _, _⟩ | ⟨_, rfl, hO3⟩
      · exact absurd g3 n3
      · obtain ⟨⟨d4, d32⟩, _, _⟩ := hg
        have hcut := Lib.hid (byTo_cut (sizeD d) l r k Hk.out)
        obtain ⟨S, hS⟩ : ∃ S, Hid (sizeD d = S) := ⟨_, Lib.hid rfl⟩
        rw [hS.out] at hO1 hO2 hO3 hcut
        have hS4 : S ≤ 4 := by rw [← hS.out]; unfold sizeD; omega
        have hd7 : (d + 7) / 8 = (S : Int) := by rw [← hS.out]; unfold sizeD; omega
        have hla : (byTo S (twoC l r) l.length).length = l.length * (2 * S) := byTo_len _ _ _
        have hlb : (byTo S (twoC (l.take k) (r.take k)) (l.take k).length).length = (l.take k).length * (2 * S) := byTo_len _ _ _
        have hlc : (byTo S (twoC (l.drop k) (r.drop k)) (l.drop k).length).length = (l.drop k).length * (2 * S) := byTo_len _ _ _
        have t1 := byTo_lt S (twoC l r) l.length
        have t2 := byTo_lt S (twoC (l.take k) (r.take k)) (l.take k).length
        have t3 := byTo_lt S (twoC (l.drop k) (r.drop k)) (l.drop k).length
        have b1 : l.length * (2 * S) ≤ 40 * 8 := Nat.mul_le_mul Hl40.out (by omega)
        have b2 : (l.take k).length * (2 * S) ≤ 40 * 8 := Nat.mul_le_mul (by rw [List.length_take]; have := Hl40.out; omega) (by omega)
        have b3 : (l.drop k).length * (2 * S) ≤ 40 * 8 := Nat.mul_le_mul (by rw [List.length_drop]; have := Hl40.out; omega) (by omega)
        rw [← hla] at b1
        rw [← hlb] at b2
        rw [← hlc] at b3
        have hprod : (2 : Int) * (k : Int) * (S : Int) = ((byTo S (twoC l r) l.length).length : Int) := by
          rw [hla, ← Hl1.out]
          have : k * (2 * S) = 2 * k * S := by rw [← Nat.mul_assoc, Nat.mul_comm k 2]
          rw [this]
          simp
        generalize byTo S (twoC l r) l.length = Y1 at *
        generalize byTo S (twoC (l.take k) (r.take k)) (l.take k).length = Y2 at *
        generalize byTo S (twoC (l.drop k) (r.drop k)) (l.drop k).length = Y3 at *
        obtain ⟨B1, e1, rfl⟩ := owns_slice hO1
        obtain ⟨B2, e2, rfl⟩ := owns_slice hO2
        obtain ⟨B3, e3, rfl⟩ := owns_slice hO3
        have HY1 := Lib.hid ((owns_src hO1 (by omega) t1).nix ((((Only.refl Nix w1).drew.trans o2).drew).trans o3))
        have HY3 := Lib.hid (owns_src hO3 (by omega) t3)
        have HY2 := Lib.hid (owns_only hO2 ((Only.refl Nix w2).drew.trans o3) (fun _ _ e => e))
        have hbs : w.heap.size ≤ (w1.drew.alloc (.cells #[.slice A1 k k, .slice A2 k c2] 39)).heap.size := by have := oa.size; simp; omega
        have hbs2 := ((Only.refl Nix w2).drew.trans o3).size
        have hbs3 : (w1.drew.alloc (.cells #[.slice A1 k k, .slice A2 k c2] 39)).heap.size ≤ w2.heap.size := by
          simp only [World.size_alloc]
          exact hsw2
        have hbs4 : w1.heap.size < (w1.drew.alloc (.cells #[.slice A1 k k, .slice A2 k c2] 39)).heap.size := by simp only [World.size_alloc]; exact Nat.lt_succ_self _
        have HY1o := Lib.hid (owns_src hO1 (by omega) t1)
        have o13 : Only Nix w1 w3 := (((Only.refl Nix w1).drew.trans o2).drew).trans o3
        have Hd7 := Lib.hid hd7
        clear hO1 hO2 hO3 hla hlb hlc HA1 HA2 HA3
        generalize (w1.drew.alloc (.cells #[.slice A1 k k, .slice A2 k c2] 39)).heap.size = bb at *
        go_wp2_with (at_builtin; refine wpList_append_bytes rfl (.tmp 88) (.tmp 89) rfl bb (.slice B2 Y2.length e2) Y2.length (Y2.map byt) rfl HY2.out B3 Y3.length e3 Y3 rfl HY3.out (by omega) (by omega) ?rest)
        case rest =>
          intro v4 w4 hO4 hg4 _
          rw [← List.map_append, hcut.out, ← List.length_append, hcut.out] at hO4
          have o4 : Only Nix w w4 := oc.grown hg4 (fun k e => .inr (by have := (HY2.out.lt k e).1; omega))
          obtain ⟨B4, e4, rfl⟩ := owns_slice hO4
          have HY4 := Lib.hid (owns_src hO4 (by omega) t1)
          have o14 : Only (From bb) w1 w4 := (o13.nix).grown hg4 (fun k e => .inl (HY2.out.lt k e).1)
          have HY5 := Lib.hid (HY1o.out.only o14 (fun i hi e => by unfold From at e; omega))
          have HEq := Lib.hid (equal_at (Only.refl Nix w4) _ _ _ _ _ _ Y1 HY5.out HY4.out)
          clear hO4 hg4
          go_wp2_with fail
          refine (HEq.out).mono ?_
          rintro e w5 ⟨rfl, o5⟩
          go_wp2_with fail
          refine (aw (w := w) (o4.trans o5) (HL.out _ (o4.trans o5))).mono ?_
          rintro e w6 ⟨rfl, o6⟩
          go_wp2
          go_ret
          exact ⟨rfl, o6⟩

set_option maxHeartbeats 2000000 in
theorem sizes_ge (d : Int) (A1 A2 : Option Addr) (c1 k : Nat) (l r : List Int) (w : World) (hL : Laid w) (h1 : ISrc w (.slice A1 k c1) l) (h2 : ISrc w (.slice A2 k k) r) (h40 : k ≤ 40) (hc1 : k ≤ c1) (hq1 : ¬ c1 = k) :
    Calls Tryd.prog 6 #[iv d, .agg #[.slice A1 k c1, .slice A2 k k], iv (k : Int)] w fun e w' => e = .returned (.bool true) ∧ Only Nix w w' := by
  have HL : Hid (∀ u, Only Nix w u → Laid u) := fun u o => hL.nix o
  have hl1 := h1.len
  have hl2 := h2.len
  have HB1 : Hid (∀ u N, Only Nix w u → u.heap.size = N → _) := Lib.hid (fun u N (o : Only Nix w u) (hN : u.heap.size = N) => bytes_lit o N hN d h1 h2 (by omega) (by omega))
  have HB2 : Hid (∀ u N, Only Nix w u → u.heap.size = N → _) := Lib.hid (fun u N (o : Only Nix w u) (hN : u.heap.size = N) => bytes_lit o N hN d (isrc_take h1 k c1 (by omega)) (isrc_take h2 k k (by omega)) (by rw [List.length_take, List.length_take]; omega) (by rw [List.length_take]; omega))
  have HB3 : Hid (∀ u N, Only Nix w u → u.heap.size = N → _) := Lib.hid (fun u N (o : Only Nix w u) (hN : u.heap.size = N) => bytes_lit o N hN d (isrc_cutO h1 k 0 (c1 - k) (by omega) (by omega) (by omega) hq1) (isrc_cutE h2 k 0 (Nat.le_refl _)) (by rw [List.length_drop, List.length_drop]; omega) (by rw [List.length_drop]; omega))
  have Hk : Hid (k ≤ l.length) := Lib.hid (by omega)
  have Hl1 := Lib.hid hl1
  have Hl40 : Hid (l.length ≤ 40) := Lib.hid (by omega)
  clear hL h1 h2 hl1 hl2
  have g40 : ¬ (40 : Int) < (k : Int) := by omega
  have gk0 : ¬ (k : Int) < 0 := by omega
  have gkn : ¬ (k : Int) < (k : Int) := by omega
  have i1 : (0 : Int) ≤ (k : Int) := by omega
  have i2 : (k : Int) ≤ (k : Int) := by omega
  have i3 : (k : Int) ≤ (c1 : Int) := by omega
  have i4 : (k : Int) ≤ (k : Int) := by omega
  have i5 : (k : Int) ≤ (c1 : Int) := by omega
  have i6 : (k : Int) ≤ (k : Int) := by omega
  have a0 := (Only.refl Nix w).alloc (.cells #[.slice A1 k c1, .slice A2 k k] 44)
  go_enter Tryd.func6, Tryd.ntmps6
  go_wp2_with fail
  refine (HB1.out _ (w.heap.size + 1) a0 (by simp)).mono ?_
  rintro e w1 ⟨v1, z1, rfl, hA1, o1, _⟩
  have oa := a0.trans o1
  have HA1 := Lib.hid hA1
  clear hA1
  go_wp2_with fail
  go_region_with (go_at_call 15; refine (HB2.out _ w1.heap.size oa.drew rfl).mono ?_; rintro e w2 ⟨v2, z2, rfl, hA2, o2, hsw2⟩)
  have ob := oa.drew.trans o2
  have HA2 := Lib.hid hA2
  clear hA2
  go_wp2_with fail
  go_region_with (go_at_call 15; refine (HB3.out _ w2.heap.size ob.drew rfl).mono ?_; rintro e w3 ⟨v3, z3, rfl, hA3, o3, _⟩)
  have oc := ob.drew.trans o3
  have HA3 := Lib.hid hA3
  clear hA3 HB1 HB2 HB3
  have hgc := Lib.hid (good_cut d l r k)
  rcases HA1.out with ⟨ng, hz1, rfl⟩ | ⟨hg, rfl, hO1⟩
  · have hz1b : (z1 != 0) = true := by simpa using hz1
    have hz1c : ¬ z1 = 0 := hz1
    by_cases hz2 : z2 = 0
    · have hz3 : z3 ≠ 0 := by
        rcases HA2.out with ⟨n2, q2, _⟩ | ⟨g2, _, _⟩
        · exact absurd hz2 q2
        · rcases HA3.out with ⟨n3, q3, _⟩ | ⟨g3, _, _⟩
          · exact q3
          · exact absurd (hgc.out.2 ⟨g2, g3⟩) ng
      have hz3b : (z3 != 0) = true := by simpa using hz3
      clear hz3 hz1
      subst hz2
      go_wp2_with fail
      refine (aw (w := w) oc (HL.out _ oc)).mono ?_
      rintro e w5 ⟨rfl, o5⟩
      go_wp2
      go_ret
      exact ⟨rfl, o5⟩
    · have hz2b : (z2 != 0) = true := by simpa using hz2
      clear hz1
      go_wp2_with fail
      refine (aw (w := w) oc (HL.out _ oc)).mono ?_
      rintro e w5 ⟨rfl, o5⟩
      go_wp2
      go_ret
      exact ⟨rfl, o5⟩
  · obtain ⟨g2, g3⟩ := hgc.out.1 hg
    rcases HA2.out with ⟨n2, _, _⟩ | ⟨_, rfl, hO2⟩
    · exact absurd g2 n2
    · rcases HA3.out with ⟨n3, _, _⟩ | ⟨_, rfl, hO3⟩
      · exact absurd g3 n3
      · obtain ⟨⟨d4, d32⟩, _, _⟩ := hg
        have hcut := Lib.hid (byTo_cut (sizeD d) l r k Hk.out)
        obtain ⟨S, hS⟩ : ∃ S, Hid (sizeD d = S) := ⟨_, Lib.hid rfl⟩
        rw [hS.out] at hO1 hO2 hO3 hcut
        have hS4 : S ≤ 4 := by rw [← hS.out]; unfold sizeD; omega
        have hd7 : (d + 7) / 8 = (S : Int) := by rw [← hS.out]; unfold sizeD; omega
        have hla : (byTo S (twoC l r) l.length).length = l.length * (2 * S) := byTo_len _ _ _
        have hlb : (byTo S (twoC (l.take k) (r.take k)) (l.take k).length).length = (l.take k).length * (2 * S) := byTo_len _ _ _
        have hlc : (byTo S (twoC (l.drop k) (r.drop k)) (l.drop k).length).length = (l.drop k).length * (2 * S) := byTo_len _ _ _
        have t1 := byTo_lt S (twoC l r) l.length
        have t2 := byTo_lt S (twoC (l.take k) (r.take k)) (l.take k).length
        have t3 := byTo_lt S (twoC (l.drop k) (r.drop k)) (l.drop k).length
        have b1 : l.length * (2 * S) ≤ 40 * 8 := Nat.mul_le_mul Hl40.out (by omega)
        have b2 : (l.take k).length * (2 * S) ≤ 40 * 8 := Nat.mul_le_mul (by rw [List.length_take]; have := Hl40.out; omega) (by omega)
        have b3 : (l.drop k).length * (2 * S) ≤ 40 * 8 := Nat.mul_le_mul (by rw [List.length_drop]; have := Hl40.out; omega) (by omega)
        rw [← hla] at b1
        rw [← hlb] at b2
        rw [← hlc] at b3
        have hprod : (2 : Int) * (k : Int) * (S : Int) = ((byTo S (twoC l r) l.length).length : Int) := by
          rw [hla, ← Hl1.out]
          have : k * (2 * S) = 2 * k * S := by rw [← Nat.mul_assoc, Nat.mul_comm k 2]
          rw [this]
          simp
        generalize byTo S (twoC l r) l.length = Y1 at *
        generalize byTo S (twoC (l.take k) (r.take k)) (l.take k).length = Y2 at *
        generalize byTo S (twoC (l.drop k) (r.drop k)) (l.drop k).length = Y3 at *
        obtain ⟨B1, e1, rfl⟩ := owns_slice hO1
        obtain ⟨B2, e2, rfl⟩ := owns_slice hO2
        obtain ⟨B3, e3, rfl⟩ := owns_slice hO3
        have HY1 := Lib.hid ((owns_src hO1 (by omega) t1).nix ((((Only.refl Nix w1).drew.trans o2).drew).trans o3))
        have HY3 := Lib.hid (owns_src hO3 (by omega) t3)
        have HY2 := Lib.hid (owns_only hO2 ((Only.refl Nix w2).drew.trans o3) (fun _ _ e => e))
        have hbs : w.heap.size ≤ (w1.drew.alloc (.cells #[.slice A1 k c1, .slice A2 k k] 39)).heap.size := by have := oa.size; simp; omega
        have hbs2 := ((Only.refl Nix w2).drew.trans o3).size
        have hbs3 : (w1.drew.alloc (.cells #[.slice A1 k c1, .slice A2 k k] 39)).heap.size ≤ w2.heap.size := by
          simp only [World.size_alloc]
          exact hsw2
        have hbs4 : w1.heap.size < (w1.drew.alloc (.cells #[.slice A1 k c1, .slice A2 k k] 39)).heap.size := by simp only [World.size_alloc]; exact Nat.lt_succ_self _
        have HY1o := Lib.hid (owns_src hO1 (by omega) t1)
        have o13 : Only Nix w1 w3 := (((Only.refl Nix w1).drew.trans o2).drew).trans o3
        have Hd7 := Lib.hid hd7
        clear hO1 hO2 hO3 hla hlb hlc HA1 HA2 HA3
        generalize (w1.drew.alloc (.cells #[.slice A1 k c1, .slice A2 k k] 39)).heap.size = bb at *
        go_wp2_with (at_builtin; refine wpList_append_bytes rfl (.tmp 88) (.tmp 89) rfl bb (.slice B2 Y2.length e2) Y2.length (Y2.map byt) rfl HY2.out B3 Y3.length e3 Y3 rfl HY3.out (by omega) (by omega) ?rest)
        case rest =>
          intro v4 w4 hO4 hg4 _
          rw [← List.map_append, hcut.out, ← List.length_append, hcut.out] at hO4
          have o4 : Only Nix w w4 := oc.grown hg4 (fun k e => .inr (by have := (HY2.out.lt k e).1; omega))
          obtain ⟨B4, e4, rfl⟩ := owns_slice hO4
          have HY4 := Lib.hid (owns_src hO4 (by omega) t1)
          have o14 : Only (From bb) w1 w4 := (o13.nix).grown hg4 (fun k e => .inl (HY2.out.lt k e).1)
          have HY5 := Lib.hid (HY1o.out.only o14 (fun i hi e => by unfold From at e; omega))
          have HEq := Lib.hid (equal_at (Only.refl Nix w4) _ _ _ _ _ _ Y1 HY5.out HY4.out)
          clear hO4 hg4
          go_wp2_with fail
          refine (HEq.out).mono ?_
          rintro e w5 ⟨rfl, o5⟩
          go_wp2_with fail
          refine (aw (w := w) (o4.trans o5) (HL.out _ (o4.trans o5))).mono ?_
          rintro e w6 ⟨rfl, o6⟩
          go_wp2
          go_ret
          exact ⟨rfl, o6⟩

set_option maxHeartbeats 2000000 in
theorem digestSizes_walk (d : Int) (A1 A2 : Option Addr) (n1 n2 c1 c2 : Nat) (x : Int) (l r : List Int) (w : World) (hL : Laid w) (h1 : ISrc w (.slice A1 n1 c1) l) (h2 : ISrc w (.slice A2 n2 c2) r) (hc1 : n1 ≤ c1) (hc2 : n2 ≤ c2) :
    Calls Tryd.prog 6 #[iv d, .agg #[.slice A1 n1 c1, .slice A2 n2 c2], iv x] w fun e w' => e = .returned (.bool true) ∧ Only Nix w w' := by
  by_cases hok : n1 ≤ 40 ∧ n1 = n2 ∧ 0 ≤ x ∧ x ≤ (n1 : Int)
  · obtain ⟨h40, rfl, hx0, hx1⟩ := hok
    obtain ⟨k, rfl⟩ : ∃ k : Nat, x = (k : Int) := ⟨x.toNat, by omega⟩
    have hk : k ≤ n1 := by omega
    by_cases e1 : c1 = k
    · obtain rfl : n1 = k := by omega
      subst e1
      by_cases e2 : c2 = c1
      · subst e2
        exact sizes_ee d A1 A2 c2 l r w hL h1 h2 h40
      · exact sizes_eg d A1 A2 c2 c1 l r w hL h1 h2 h40 hc2 e2
    · by_cases e2 : c2 = k
      · obtain rfl : n1 = k := by omega
        subst e2
        exact sizes_ge d A1 A2 c1 c2 l r w hL h1 h2 h40 hc1 e1
      · exact sizes_gg d A1 A2 n1 c1 c2 k l r w hL h1 h2 h40 hk hc1 e1 hc2 e2
  · have HL : Hid (∀ u, Only Nix w u → Laid u) := fun u o => hL.nix o
    have s1 := h1.small
    have s2 := h2.small
    have l1 := h1.len
    have l2 := h2.len
    have s1' : n1 ≤ 140737488355328 := by omega
    have s2' : n2 ≤ 140737488355328 := by omega
    clear hL h1 h2 s1 s2 l1 l2
    have a0 := (Only.refl Nix w).alloc (.cells #[.slice A1 n1 c1, .slice A2 n2 c2] 44)
    by_cases g1 : 40 < n1
    · have g1i : (40 : Int) < (n1 : Int) := by omega
      clear hok
      go_enter Tryd.func6, Tryd.ntmps6
      go_wp2_with fail
      refine (aw (w := w) a0 (HL.out _ a0)).mono ?_
      rintro e w5 ⟨rfl, o5⟩
      go_wp2
      go_ret
      exact ⟨rfl, o5⟩
    · have g1i : ¬ (40 : Int) < (n1 : Int) := by omega
      by_cases g2 : n1 = n2
      · subst g2
        by_cases g3 : x < 0
        · clear hok
          go_enter Tryd.func6, Tryd.ntmps6
          go_wp2_with fail
          refine (aw (w := w) a0 (HL.out _ a0)).mono ?_
          rintro e w5 ⟨rfl, o5⟩
          go_wp2
          go_ret
          exact ⟨rfl, o5⟩
        · have g4 : (n1 : Int) < x := by
            rcases Int.lt_or_le (n1 : Int) x with h | h
            · exact h
            · exact absurd ⟨by omega, rfl, by omega, h⟩ hok
          clear hok
          go_enter Tryd.func6, Tryd.ntmps6
          go_wp2_with fail
          refine (aw (w := w) a0 (HL.out _ a0)).mono ?_
          rintro e w5 ⟨rfl, o5⟩
          go_wp2
          go_ret
          exact ⟨rfl, o5⟩
      · have g2i : ((n1 : Int) != (n2 : Int)) = true := by simp; omega
        have g2j : ¬ (n1 : Int) = (n2 : Int) := by omega
        clear hok
        go_enter Tryd.func6, Tryd.ntmps6
        go_wp2_with fail
        refine (aw (w := w) a0 (HL.out _ a0)).mono ?_
        rintro e w5 ⟨rfl, o5⟩
        go_wp2
        go_ret
        exact ⟨rfl, o5⟩
end Go.Proofs.YtekmebbioalpdaaDoor
