/-
  take, walked.
-/
import Derived.Test.YtekmebbioalpdaaDoorDState
import Derived.Deep.RegionLaw
namespace Go.Proofs.YtekmebbioalpdaaDoor
open Go.RowKit

def TakeP (w : World) (b : Nat) (t : TypeId) (L cs : List Nat) (s1 : Value) (wr : World) : Prop :=
  ∃ (k : Nat) (A : Option Addr) (c : Nat), k ≤ cs.length ∧ s1 = .slice A (cs.length - k) c ∧ cs.length - k ≤ c ∧ Src wr (.slice A (cs.length - k) c) (cs.drop k) ∧ (∀ ad, A = some ad → k < cs.length → ad.block ≠ b) ∧ St wr b t (L ++ cs.take k) ∧ Only (Just b) w wr

theorem src_dropA {w : World} {ad : Addr} {n c : Nat} {bs : List Nat} (h : Src w (.slice (some ad) n c) bs) (x m d : Nat) (hm : n - x = m) : Src w (.slice (some (ad.add x)) m d) (bs.drop x) := by
  have hl := h.len
  refine ⟨⟨some (ad.add x), d, by rw [List.length_drop, ← hm, hl], fun j hj => ⟨_, rfl, ?_⟩⟩, by have := h.small; rw [List.length_drop]; omega, fun y hy => h.lt y (List.mem_of_mem_drop hy)⟩
  rw [List.length_drop] at hj
  obtain ⟨ad', e, hc⟩ := h.at_ (k := x + j) (by omega)
  injection e with e
  subst e
  rw [Addr.add_add, hc, List.getElem_drop]
theorem src_empty (w : World) (A : Option Addr) (d : Nat) {bs : List Nat} (h : bs = []) : Src w (.slice A 0 d) bs := by
  subst h
  exact ⟨⟨A, d, rfl, fun j hj => by simp at hj⟩, by simp, by simp⟩
theorem src_cut {w : World} {ad : Addr} {n c : Nat} {bs : List Nat} (h : Src w (.slice (some ad) n c) bs) (x m d : Nat) (hm : n - x = m) (hx : x ≤ n) (hn : n ≤ c) : Src w (.slice (some (if c = x then ad else ad.add x)) m d) (bs.drop x) := by
  by_cases e : c = x
  · rw [if_pos e]
    have hl := h.len
    obtain rfl : m = 0 := by omega
    exact src_empty w _ _ (List.drop_of_length_le (by omega))
  · rw [if_neg e]
    exact src_dropA h x m d hm
theorem block_cut (ad : Addr) (c x b : Nat) (h : ad.block ≠ b) : ∀ a, some (if c = x then ad else ad.add x) = some a → a.block ≠ b := by
  intro a e
  injection e with e
  subst e
  split
  · exact h
  · rw [add_block]; exact h
/-- the state behind a part of the bytes -/
theorem take_next {w : World} {b : Nat} {t : TypeId} {L cs L1 X : List Nat} {k x : Nat} (h1 : L ++ cs.take k = L1) (h2 : (cs.drop k).take x = X) (h : St w b t (L1 ++ X)) : St w b t (L ++ cs.take (k + x)) := by
  rw [List.take_add, ← List.append_assoc, h1, h2]
  exact h

set_option maxHeartbeats 2000000 in
theorem take_any {w : World} (hL : Laid w) (b : Nat) (t : TypeId) (hb : 2 ≤ b) (L : List Nat) (hS : St w b t L) (A : Option Addr) (m c : Nat) (cs : List Nat) (hv : Src w (.slice A m c) cs) (hmc : m ≤ c) (hne : ∀ ad, A = some ad → 0 < cs.length → ad.block ≠ b) (hlen : L.length + cs.length < 100000000000) :
    Calls Tryd.prog 23 #[.pointer (some ⟨b, 0, none⟩), .slice A m c] w fun e w' => e = .returned (.tuple #[]) ∧ St w' b t (L ++ cs) ∧ Only (Just b) w w' := by
  have HL : Hid (∀ u, Only (Just b) w u → Laid u) := Lib.hid (fun u o => hL.only o (fun e => by cases e; omega) (fun e => by cases e; omega))
  obtain rfl := hv.len
  clear hL
  go_enter Tryd.func23, Tryd.ntmps23
  go_wp2
  go_loopw [1] (fun s1 wr => TakeP w b t L cs s1 wr) (fun s1 _ => lenOf s1)
  case atStart =>
    refine ⟨0, A, c, Nat.zero_le _, rfl, hmc, by simpa using hv, hne, ?_, Only.refl _ _⟩
    rw [List.take_zero, List.append_nil]
    exact hS
  case round =>
    clear hv hmc hne hS
    obtain ⟨k, A', c', hk, rfl, hc', hv, hne, hS, ho⟩ := hrel
    by_cases hlt : k < cs.length
    · obtain ⟨pt, hB, hP⟩ := hS
      have hLk : (L ++ cs.take k).length = L.length + k := by rw [List.length_append, List.length_take]; omega
      generalize hL1 : L ++ cs.take k = L1 at *
      have HL1 := Lib.hid hL1
      clear hL1
      obtain ⟨ad, rfl, _⟩ := hv.at_ (k := 0) (by rw [List.length_drop]; omega)
      obtain ⟨r, hr⟩ : ∃ r, Hid (L1.length % 64 = r) := ⟨_, Lib.hid rfl⟩
      have hr64 : r < 64 := by rw [← hr.out]; exact Nat.mod_lt _ (by decide)
      obtain ⟨n, hn⟩ : ∃ n, Hid (L1.length = n) := ⟨_, Lib.hid rfl⟩
      have hn2 : n < 100000000000 := by rw [← hn.out]; omega
      have hm64 : (n : Int).tmod 64 = (r : Int) := by
        rw [Int.tmod_eq_emod_of_nonneg (by omega), ← hn.out, ← hr.out]; omega
      have hcm := hB.cell 68
      rw [stc_many _ _ _ hP.len, hn.out] at hcm
      have HB := Lib.hid hB
      have HP := Lib.hid hP
      have HV := Lib.hid hv
      -- how many are copied
      obtain ⟨x, hx⟩ : ∃ x, Hid (min (cs.length - k) (64 - r) = x) := ⟨_, Lib.hid rfl⟩
      have hx1 : 0 < x := by rw [← hx.out]; omega
      have hx2 : x ≤ cs.length - k := by rw [← hx.out]; omega
      have hx3 : r + x ≤ 64 := by rw [← hx.out]; omega
      obtain ⟨X, hX⟩ : ∃ X, Hid ((cs.drop k).take x = X) := ⟨_, Lib.hid rfl⟩
      have hXl : X.length = x := by rw [← hX.out, List.length_take, List.length_drop]; omega
      have HXs : Hid (∀ j v, (X.map byt)[j]? = some v → wr.drew.cell? (ad.add j) = some v) := by
        refine Lib.hid (fun j v hj => ?_)
        rw [List.getElem?_map, ← hX.out] at hj
        obtain ⟨y, hy, rfl⟩ := Option.map_eq_some_iff.1 hj
        rw [List.getElem?_take] at hy
        split at hy
        · obtain ⟨hj2, rfl⟩ := List.getElem?_eq_some_iff.1 hy
          obtain ⟨ad', e, hc⟩ := hv.at_ hj2
          injection e with e
          subst e
          exact hc
        · cases hy
      obtain ⟨M, hM⟩ : ∃ M, Hid (cs.length - k = M) := ⟨_, Lib.hid rfl⟩
      have hXn : Hid ((X.map byt).length = Nat.min M (64 - r)) := Lib.hid (by rw [List.length_map, hXl, ← hx.out, hM.out])
      have hX1 := Lib.hid (map_byt_one X)
      have hXf : Hid (4 + r + (X.map byt).length ≤ (stc (hs (L1.length / 64) L1) pt (L1.length : Int)).length) := Lib.hid (by rw [List.length_map, hXl, stc_len, hP.len]; omega)
      have hSp := Lib.hid (splice_stc (hs (L1.length / 64) L1) pt X (L1.length : Int) r (by rw [hXl, hP.len]; omega))
      rw [hM.out] at hx2 hc' HV ⊢
      have hXL : Hid ((X.map byt).length = x) := Lib.hid (by rw [List.length_map, hXl])
      have hM0 : 0 < M := by rw [← hM.out]; omega
      have hM1 : M < 100000000000 := by rw [← hM.out]; omega
      have hM2 : (0 : Int) < (M : Int) := by omega
      have hMd : decide (0 < M) = true := by simp; omega
      have hr0 : (0 : Int) ≤ (r : Int) := by omega
      have h64 : ¬ 64 = r := by omega
      have hr1 : (r : Int) ≤ 64 := by omega
      clear hB hP hv hLk
      generalize hsS : stc (hs (L1.length / 64) L1) pt (L1.length : Int) = S at *
      generalize hsX : X.map byt = XB at *
      go_wp2_with fail
      go_region_law (refine step_copy_row rfl (.tmp 16) (.tmp 17) 22 22 rfl 5 Tryd.underlying22 Tryd.size_byte ad (64 - r) (64 - r) M c' b (4 + r) (by simp [Act.eval, Act.put, h64]) (by simp [Act.eval, Act.put]) S t HB.out.drew XB hXn.out HXs.out hXf.out hX1.out ?_; intro w4 hB4 ho4)
      obtain ⟨y, hy⟩ : ∃ y, Hid (n + x = y) := ⟨_, Lib.hid rfl⟩
      have hSt : Hid (∀ u, Box u b t (stc (hs (L1.length / 64) L1) (splice pt r X) (y : Int)).toArray → r + x < 64 → St u b t (L ++ cs.take (k + x))) := by
        refine Lib.hid (fun u hu hrx => take_next HL1.out hX.out ?_)
        obtain ⟨p1, p2⟩ := stp_more (X := X) HP.out (fun y hy => by rw [← hX.out] at hy; exact HV.out.lt y (List.mem_of_mem_take hy)) (by rw [hr.out, hXl]; omega)
        rw [hr.out] at p1
        refine ⟨_, ?_, p1⟩
        rw [p2, List.length_append, hXl, hn.out, hy.out]
        rw [hn.out] at hu
        exact hu
      have hSf : Hid (∀ u, Box u b t (stc (mx (wds (splice pt r X)) (hs (L1.length / 64) L1)) (splice pt r X) (y : Int)).toArray → r + x = 64 → St u b t (L ++ cs.take (k + x))) := by
        refine Lib.hid (fun u hu hrx => take_next HL1.out hX.out ?_)
        obtain ⟨p1, p2⟩ := stp_full (X := X) HP.out (fun y hy => by rw [← hX.out] at hy; exact HV.out.lt y (List.mem_of_mem_take hy)) (by rw [hr.out, hXl]; omega)
        rw [hr.out] at p1 p2
        refine ⟨_, ?_, p1⟩
        rw [p2, List.length_append, hXl, hn.out, hy.out]
        rw [hn.out] at hu
        exact hu
      have hpl : Hid ((splice pt r X).length = 64 ∧ ∀ y ∈ splice pt r X, y < 256) := by
        refine Lib.hid ⟨?_, splice_lt _ HP.out.lt (fun y hy => by rw [← hX.out] at hy; exact HV.out.lt y (List.mem_of_mem_take hy))⟩
        rw [length_splice _ _ _ (by rw [hXl, HP.out.len]; omega), HP.out.len]
      have hB5 : Box w4 b t (stc (hs (L1.length / 64) L1) (splice pt r X) (L1.length : Int)).toArray := by
        rw [← hSp.out]; exact hB4.out
      have hc5 := hB5.cell 68
      rw [stc_many _ _ _ hpl.out.1, hn.out] at hc5
      have hf5 := hB5.frozen 68
      have HB6 := Lib.hid (hB5.put 68 (iv (y : Int)))
      rw [put_many _ _ _ _ hpl.out.1] at HB6
      have o4 : Only (Just b) w w4 := ho.drew.trans ho4
      have HV4 : Hid (Src w4 (.slice (some ad) M c') (cs.drop k)) := Lib.hid (HV.out.only ((Only.refl _ _).drew.trans ho4) (fun i _ e ad' n' c'' e2 => by
        cases e
        injection e2 with e2
        injection e2 with e2
        subst e2
        exact hne _ rfl hlt))
      have hadb : ad.block ≠ b := hne _ rfl hlt
      have hMx : Hid (M - x = cs.length - (k + x)) := Lib.hid (by rw [← hM.out]; omega)
      have hkx : Hid (k + x ≤ cs.length) := Lib.hid (by have := hM.out; omega)
      have hzx : Hid (c' = x → cs.length - (k + x) = 0 ∧ M - x = 0) := Lib.hid (fun e => by have := hM.out; omega)
      have HR1 : Hid (∀ u, Only (Just b) w4 u → c' = x → Src u (.slice (some ad) (M - x) 0) (cs.drop (k + x))) := by
        refine Lib.hid (fun u o e => ?_)
        have hvu := HV4.out.only o (fun i _ e ad' n' c'' e2 => by
          cases e
          injection e2 with e2
          injection e2 with e2
          subst e2
          exact hadb)
        have := src_cut hvu x (M - x) 0 rfl hx2 hc'
        rw [if_pos e, List.drop_drop] at this
        exact this
      have HR2 : Hid (∀ u, Only (Just b) w4 u → ¬ c' = x → Src u (.slice (some (ad.add x)) (M - x) (c' - x)) (cs.drop (k + x))) := by
        refine Lib.hid (fun u o e => ?_)
        have hvu := HV4.out.only o (fun i _ e ad' n' c'' e2 => by
          cases e
          injection e2 with e2
          injection e2 with e2
          subst e2
          exact hadb)
        have := src_cut hvu x (M - x) (c' - x) rfl hx2 hc'
        rw [if_neg e, List.drop_drop] at this
        exact this
      have hnx : (n : Int) + (x : Int) = (y : Int) := by rw [← hy.out]; omega
      have hy2 : y < 200000000000 := by rw [← hy.out]; omega
      rw [hXL.out]
      clear hB5 hB4 ho4 ho hcm hSp hXf hXn
      generalize hq0 : hs (L1.length / 64) L1 = q0 at *
      have hq : q0.ok := by rw [← hq0]; exact hs_ok _ _
      generalize splice pt r X = pt2 at *
      clear hq0
      by_cases hfull : r + x = 64
      · have hmod : (y : Int).tmod 64 = 0 := by
          rw [Int.tmod_eq_emod_of_nonneg (by omega), ← hy.out, ← hn.out]
          have := hr.out
          omega
        have HMx := Lib.hid (mix_any (w := w4.setCell ⟨b, 68, none⟩ (.int .i64 (y : Int))) (HL.out _ (o4.setCell (p := ⟨b, 68, none⟩) (.inl rfl) _)) b t q0 pt2 (y : Int) hq hpl.out.1 hpl.out.2 HB6.out)
        by_cases hcx : c' = x
        · have hR := Lib.hid (fun u o => HR1.out u o hcx)
          have hZ := Lib.hid (hzx.out hcx)
          rw [hZ.out.2] at hR
          clear HR1 HR2 hzx
          subst hcx
          go_wp2_with fail
          refine (HMx.out).mono ?_
          rintro e w5 ⟨rfl, hB7, o5⟩
          go_wp2
          have o45 : Only (Just b) w4 w5 := ((Only.refl (Just b) w4).setCell (p := ⟨b, 68, none⟩) (.inl rfl) _).trans o5
          refine ⟨⟨k + c', some ad, 0, hkx.out, by rw [hZ.out.1], by rw [hZ.out.1]; omega, ?_, fun a e _ => by cases e; exact hadb, hSf.out _ hB7 hfull, o4.trans o45⟩, by simp [lenOf]; omega⟩
          rw [hZ.out.1]
          exact hR.out _ o45
        · have hR := Lib.hid (fun u o => HR2.out u o hcx)
          clear HR1 HR2
          go_wp2_with fail
          refine (HMx.out).mono ?_
          rintro e w5 ⟨rfl, hB7, o5⟩
          go_wp2
          have o45 : Only (Just b) w4 w5 := ((Only.refl (Just b) w4).setCell (p := ⟨b, 68, none⟩) (.inl rfl) _).trans o5
          refine ⟨⟨k + x, some (ad.add x), c' - x, hkx.out, by rw [← hMx.out], by rw [← hMx.out]; omega, ?_, fun a e _ => by cases e; rw [add_block]; exact hadb, hSf.out _ hB7 hfull, o4.trans o45⟩, by simp [lenOf]; omega⟩
          rw [← hMx.out]
          exact hR.out _ o45
      · obtain ⟨s, hs⟩ : ∃ s, Hid (r + x = s) := ⟨_, Lib.hid rfl⟩
        have hs0 : ¬ s = 0 := by rw [← hs.out]; omega
        have hs1 : ((s : Int) == 0) = false := by simp; omega
        have hmod : (y : Int).tmod 64 = (s : Int) := by
          rw [Int.tmod_eq_emod_of_nonneg (by omega), ← hy.out, ← hn.out, ← hs.out]
          have := hr.out
          omega
        by_cases hcx : c' = x
        · have hR := Lib.hid (fun u o => HR1.out u o hcx)
          have hZ := Lib.hid (hzx.out hcx)
          rw [hZ.out.2] at hR
          clear HR1 HR2 hzx
          subst hcx
          go_wp2
          have o45 : Only (Just b) w4 (w4.setCell ⟨b, 68, none⟩ (.int .i64 (y : Int))) := (Only.refl (Just b) w4).setCell (p := ⟨b, 68, none⟩) (.inl rfl) _
          refine ⟨⟨k + c', some ad, 0, hkx.out, by rw [hZ.out.1], by rw [hZ.out.1]; omega, ?_, fun a e _ => by cases e; exact hadb, hSt.out _ HB6.out (by omega), o4.trans o45⟩, by simp [lenOf]; omega⟩
          rw [hZ.out.1]
          exact hR.out _ o45
        · have hR := Lib.hid (fun u o => HR2.out u o hcx)
          clear HR1 HR2
          go_wp2
          have o45 : Only (Just b) w4 (w4.setCell ⟨b, 68, none⟩ (.int .i64 (y : Int))) := (Only.refl (Just b) w4).setCell (p := ⟨b, 68, none⟩) (.inl rfl) _
          refine ⟨⟨k + x, some (ad.add x), c' - x, hkx.out, by rw [← hMx.out], by rw [← hMx.out]; omega, ?_, fun a e _ => by cases e; rw [add_block]; exact hadb, hSt.out _ HB6.out (by omega), o4.trans o45⟩, by simp [lenOf]; omega⟩
          rw [← hMx.out]
          exact hR.out _ o45
    · obtain rfl : k = cs.length := by omega
      rw [List.take_length] at hS
      rw [Nat.sub_self]
      go_wp2
      go_end0
      exact ⟨rfl, hS, ho⟩
end Go.Proofs.YtekmebbioalpdaaDoor
