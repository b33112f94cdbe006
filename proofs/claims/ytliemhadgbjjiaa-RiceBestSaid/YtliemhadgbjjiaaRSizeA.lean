/-
  Check and Size, whatever the arguments.
-/
import Derived.Test.YtliemhadgbjjiaaRWr
namespace Go.Proofs.Ytliemhadgbjjiaa
open Go.RowKit Go.Shelf
attribute [local go_sem] Oper.semAt_some

theorem ckB_zero {b s : Int} (h : ckB b s = 0) : 1 ≤ b ∧ b ≤ 65535 ∧ 0 ≤ s ∧ s ≤ 32 := by
  unfold ckB at h
  split at h
  · cases h
  · omega
theorem ckH_zero {m o b s : Int} (h : ckH m o b s = 0) : ∃ m' o' b' s' : Nat, m = (m' : Int) ∧ o = (o' : Int) ∧ b = (b' : Int) ∧ s = (s' : Int) ∧ m' ≤ 1 ∧ o' ≤ 15 ∧ 1 ≤ b' ∧ b' ≤ 65535 ∧ s' ≤ 32 ∧ ckB b s = 0 ∧ ckP o' b' s' = 0 := by
  unfold ckH at h
  by_cases h1 : ckB b s = 0
  · rw [if_neg (by simpa using h1)] at h
    obtain ⟨k1, k2, k3, k4⟩ := ckB_zero h1
    split at h
    · cases h
    · rename_i hh
      obtain ⟨m, rfl⟩ := Int.eq_ofNat_of_zero_le (show 0 ≤ m by omega)
      obtain ⟨o, rfl⟩ := Int.eq_ofNat_of_zero_le (show 0 ≤ o by omega)
      obtain ⟨b, rfl⟩ := Int.eq_ofNat_of_zero_le (show 0 ≤ b by omega)
      obtain ⟨s, rfl⟩ := Int.eq_ofNat_of_zero_le (show 0 ≤ s by omega)
      exact ⟨m, o, b, s, rfl, rfl, rfl, rfl, by omega, by omega, by omega, by omega, by omega, h1, by simpa using h⟩
  · rw [if_pos h1] at h
    cases h
theorem ckP_zero {o b s : Nat} (h : ckP o b s = 0) : 2 ^ o * (b / 2 ^ o) = b ∧ s < b / 2 ^ o := by
  unfold ckP at h
  split at h
  · cases h
  · rename_i hh
    have h1 : b % 2 ^ o = 0 := Classical.byContradiction fun hc => hh (.inl hc)
    have h2 := Nat.div_add_mod b (2 ^ o)
    rw [h1] at h2
    exact ⟨by omega, Classical.byContradiction fun hc => hh (.inr (by omega))⟩

theorem check_any {w : World} (m o b s : Int) (A A' : Option Addr) (n n' c c' : Nat) (ps bs : List Int) (hx : ISrc w (.slice A n c) ps) (hy : ISrc w (.slice A' n' c') bs) :
    Calls Try.prog 15 #[planV m o (.slice A n c) (.slice A' n' c'), iv b, iv s] w fun e w' => e = .returned (iv (ckC m o ps bs b s)) ∧ Only Nix w w' := by
  obtain rfl := hx.len
  obtain rfl := hy.len
  by_cases h : ckH m o b s = 0
  · obtain ⟨m, o, b, s, rfl, rfl, rfl, rfl, h1, h2, h3, h4, h5, h6, h7⟩ := ckH_zero h
    refine check_parts m o b s (by omega) h2 h4 h6 h7 A A' c c' ps bs hx hy _ ?_
    unfold ckC
    rw [if_neg (by simpa using h), Int.toNat_natCast]
  · have : ckC m o ps bs b s = ckH m o b s := by unfold ckC; rw [if_pos h]
    rw [this]
    exact check_head m o b s _ _ rfl rfl h

/-- may residuals be written by a plan: Size's error -/
noncomputable def sizeE (m o : Int) (ps bs : List Int) (s : Int) (l : List Int) : Int :=
  if ckC m o ps bs ((l.length : Int) + s) s ≠ 0 then ckC m o ps bs ((l.length : Int) + s) s else
    @ite _ ((∀ x ∈ l, isR x) ∧ mayAll ((l.length + s.toNat) / 2 ^ o.toNat) s.toNat (2 ^ o.toNat) ps bs (l.map fd)) (Classical.propDecidable _) 0 10
/-- Size's number -/
noncomputable def sizeN (m o : Int) (ps bs : List Int) (s : Int) (l : List Int) : Nat :=
  if sizeE m o ps bs s l = 0 then 6 + szL ((l.length + s.toNat) / 2 ^ o.toNat) s.toNat m.toNat ps bs (l.map fd) (List.range (2 ^ o.toNat)) else 0

/-- all that is so where residuals may be written -/
structure Fine (m o s P S : Nat) (ps bs l : List Int) : Prop where
  m1 : m ≤ 1
  o15 : o ≤ 15
  s32 : s ≤ 32
  pw : 2 ^ o = P
  eq : P * S = l.length + s
  lt : s < S
  big : l.length + s ≤ 65535
  np : ps.length = P
  nb : bs.length = P
  all : allP m ps bs
  res : ∀ x ∈ l, isR x
  may : mayAll S s P ps bs (l.map fd)
theorem ckC_zero {m o : Int} {ps bs : List Int} {b s : Int} (h : ckC m o ps bs b s = 0) : ckH m o b s = 0 ∧ ps.length = 2 ^ o.toNat ∧ bs.length = 2 ^ o.toNat ∧ allP m ps bs := by
  unfold ckC at h
  by_cases h1 : ckH m o b s = 0
  · rw [if_neg (by simpa using h1)] at h
    split at h
    · cases h
    · rename_i hh
      split at h
      · exact ⟨h1, by omega, by omega, by assumption⟩
      · cases h
  · rw [if_pos h1] at h
    exact absurd h h1
theorem sizeE_zero {m o : Int} {ps bs : List Int} {s : Int} {l : List Int} (h : sizeE m o ps bs s l = 0) : ∃ m' o' s' : Nat, m = (m' : Int) ∧ o = (o' : Int) ∧ s = (s' : Int) ∧ Fine m' o' s' (2 ^ o') ((l.length + s') / 2 ^ o') ps bs l := by
  unfold sizeE at h
  by_cases h1 : ckC m o ps bs ((l.length : Int) + s) s = 0
  · rw [if_neg (by simpa using h1)] at h
    obtain ⟨k1, k2, k3, k4⟩ := ckC_zero h1
    obtain ⟨m, o, b, s, rfl, rfl, e, rfl, j1, j2, j3, j4, j5, j6, j7⟩ := ckH_zero k1
    obtain rfl : b = l.length + s := by omega
    obtain ⟨i1, i2⟩ := ckP_zero j7
    split at h
    · rename_i hh
      simp only [Int.toNat_natCast] at hh k2 k3
      exact ⟨m, o, s, rfl, rfl, rfl, j1, j2, j5, rfl, i1, i2, j4, k2, k3, k4, hh.1, hh.2⟩
    · cases h
  · rw [if_pos h1] at h
    exact absurd h h1
theorem Fine.sizeE {m o s P S : Nat} {ps bs l : List Int} (h : Fine m o s P S ps bs l) : sizeE m o ps bs s l = 0 := by
  obtain ⟨m1, o15, s32, rfl, eq, lt, big, np, nb, all, res, may⟩ := h
  have hp := Nat.two_pow_pos o
  have hS : (l.length + s) / 2 ^ o = S := by rw [← eq]; exact Nat.mul_div_cancel_left _ hp
  have hl : 1 ≤ l.length + s := by
    have := Nat.le_mul_of_pos_left S hp
    omega
  have hB : ckB ((l.length : Int) + s) s = 0 := by unfold ckB; rw [if_neg (by omega)]
  have hH : ckH m o ((l.length : Int) + s) s = 0 := by
    unfold ckH
    rw [if_neg (by simpa using hB), if_neg (by omega)]
    simp only [Int.toNat_natCast]
    rw [show ((l.length : Int) + (s : Int)).toNat = l.length + s from by omega]
    unfold ckP
    rw [if_neg]
    rw [hS, ← eq]
    simp
    omega
  have hC : ckC m o ps bs ((l.length : Int) + s) s = 0 := by
    unfold ckC
    rw [if_neg (by simpa using hH), Int.toNat_natCast, if_neg (by omega), if_pos all]
  unfold Go.Proofs.Ytliemhadgbjjiaa.sizeE
  rw [if_neg (by simpa using hC)]
  refine if_pos ⟨res, ?_⟩
  simp only [Int.toNat_natCast]
  rw [hS]
  exact may

set_option maxRecDepth 100000 in
set_option maxHeartbeats 2000000 in
theorem size_err {w : World} (m o s E : Int) (n c : Nat) (A Ap Ab : Option Addr) (np nb cp cb : Nat) (hs0 : -9223372036854775808 ≤ s) (hs1 : s ≤ 4611686018427387904) (hn : n ≤ 140737488355328) (hE : E ≠ 0)
    (HCk : ∀ u, Only Nix w u → Calls Try.prog 15 #[planV m o (.slice Ap np cp) (.slice Ab nb cb), iv ((n : Int) + s), iv s] u fun e w' => e = .returned (iv E) ∧ Only Nix u w') :
    Calls Try.prog 13 #[planV m o (.slice Ap np cp) (.slice Ab nb cb), iv s, .slice A n c] w fun e w' => e = two 0 E ∧ Only Nix w w' := by
  have a0 := (((Only.refl Nix w).alloc (.cells #[iv m, iv o, .slice Ap np cp, .slice Ab nb cb] 24)).alloc (.cells #[Value.int .i64 0] 3)).alloc (.cells #[Value.int .i64 0] 29)
  have B1 := Lib.hid ((Box.new (w.alloc (.cells #[iv m, iv o, .slice Ap np cp, .slice Ab nb cb] 24)) 3 #[Value.int .i64 0]).alloc (.cells #[Value.int .i64 0] 29))
  have B2 := Lib.hid (Box.new ((w.alloc (.cells #[iv m, iv o, .slice Ap np cp, .slice Ab nb cb] 24)).alloc (.cells #[Value.int .i64 0] 3)) 29 #[Value.int .i64 0])
  rw [World.size_alloc] at B1
  rw [World.size_alloc, World.size_alloc] at B2
  have HC1 := Lib.hid (HCk _ a0)
  have hE2 : (E != 0) = true := by simpa using hE
  clear HCk
  refine (callsIn_wide (n := 4)).1 ?_
  refine callsIn_of_wp_marks Try.func13 rfl trivial ?_ rfl
  simp only [Try.ntmps13, List.size_toArray, List.length_cons, List.length_nil, Nat.reduceAdd, Nat.reduceSub, Array.replicate_succ, Array.replicate_zero, List.push_toArray, List.append_toArray, List.nil_append, List.cons_append]
  gi_wp2_with fail
  refine ⟨trivial, (callsIn_wide.2 HC1.out).mono ?_⟩
  rintro e w1 ⟨rfl, o1⟩
  have B11 := Lib.hid (B1.out.only o1 (fun e => e))
  have B21 := Lib.hid (B2.out.only o1 (fun e => e))
  have oA := a0.trans o1
  clear o1 HC1 B1 B2 a0
  have f6 := B11.out.frozen 0
  have f7 := B21.out.frozen 0
  have c6 := B11.out.cell 0
  have c7 := B21.out.cell 0
  simp only [List.getElem?_toArray, List.getElem?_cons_zero] at c6 c7
  gi_wp2
  have y6 := ((B11.out.put 0 (Value.int .i64 0)).off (p := ⟨w.heap.size + 1 + 1, 0, none⟩) (by show w.heap.size + 1 ≠ w.heap.size + 1 + 1; omega) (iv E)).cell 0
  have y7 := ((B21.out.off (p := ⟨w.heap.size + 1, 0, none⟩) (by show w.heap.size + 1 + 1 ≠ w.heap.size + 1; omega) (Value.int .i64 0)).put 0 (iv E)).cell 0
  simp at y6 y7
  refine ⟨.tuple #[iv 0, iv E], ?_, rfl, (oA.setCell (p := ⟨w.heap.size + 1, 0, none⟩) (.inr (by show w.heap.size ≤ w.heap.size + 1; omega)) _).setCell (p := ⟨w.heap.size + 1 + 1, 0, none⟩) (.inr (by show w.heap.size ≤ w.heap.size + 1 + 1; omega)) _⟩
  simp [results, Try.f13, go_sem, y6, y7]

theorem sizeR_any {w : World} (m o s : Int) (n c : Nat) (A Ap Ab : Option Addr) (np nb cp cb : Nat) (ps bs l : List Int) (hs0 : -9223372036854775808 ≤ s) (hs1 : s ≤ 4611686018427387904)
    (hl : ISrc w (.slice A n c) l) (hps : ISrc w (.slice Ap np cp) ps) (hbs : ISrc w (.slice Ab nb cb) bs) :
    Calls Try.prog 13 #[planV m o (.slice Ap np cp) (.slice Ab nb cb), iv s, .slice A n c] w fun e w' => e = two (sizeN m o ps bs s l) (sizeE m o ps bs s l) ∧ Only Nix w w' := by
  have hn := hl.len
  have HCk : ∀ u, Only Nix w u → Calls Try.prog 15 #[planV m o (.slice Ap np cp) (.slice Ab nb cb), iv ((n : Int) + s), iv s] u fun e w' => e = .returned (iv (ckC m o ps bs ((n : Int) + s) s)) ∧ Only Nix u w' :=
    fun u hu => check_any m o ((n : Int) + s) s Ap Ab np nb cp cb ps bs (hps.nix hu) (hbs.nix hu)
  by_cases h1 : ckC m o ps bs ((n : Int) + s) s = 0
  · rw [h1] at HCk
    obtain ⟨k1, k2, k3, k4⟩ := ckC_zero h1
    obtain ⟨m, o, b, s, rfl, rfl, e, rfl, j1, j2, j3, j4, j5, j6, j7⟩ := ckH_zero k1
    obtain rfl : b = n + s := by omega
    obtain ⟨i1, i2⟩ := ckP_zero j7
    simp only [Int.toNat_natCast] at k2 k3
    refine (size_walk m o s (2 ^ o) ((n + s) / 2 ^ o) c n j1 j2 rfl l hn.symm i1 i2 j4 A Ap Ab np nb cp cb ps bs k2 k3 k4 hl hps hbs HCk).mono ?_
    subst hn
    rintro e w' ⟨⟨hg, rfl⟩ | ⟨hg, rfl⟩, ho⟩
    · have hE : sizeE m o ps bs s l = 0 := by unfold sizeE; rw [if_neg (by simpa using h1)]; simp only [Int.toNat_natCast]; rw [if_pos hg]
      have hN : sizeN m o ps bs s l = 6 + szL ((l.length + s) / 2 ^ o) s m ps bs (l.map fd) (List.range (2 ^ o)) := by unfold sizeN; rw [if_pos hE]; simp only [Int.toNat_natCast]
      rw [hE, hN]
      exact ⟨rfl, ho⟩
    · have hE : sizeE m o ps bs s l = 10 := by unfold sizeE; rw [if_neg (by simpa using h1)]; simp only [Int.toNat_natCast]; rw [if_neg hg]
      have hN : sizeN m o ps bs s l = 0 := by unfold sizeN; rw [hE]; rfl
      rw [hE, hN]
      exact ⟨rfl, ho⟩
  · have hE : sizeE m o ps bs s l = ckC m o ps bs ((n : Int) + s) s := by unfold sizeE; rw [← hn, if_pos h1]
    have hN : sizeN m o ps bs s l = 0 := by unfold sizeN; rw [hE, if_neg h1]
    rw [hE, hN]
    exact size_err m o s _ n c A Ap Ab np nb cp cb hs0 hs1 (by have := hl.small; omega) h1 HCk
end Go.Proofs.Ytliemhadgbjjiaa
