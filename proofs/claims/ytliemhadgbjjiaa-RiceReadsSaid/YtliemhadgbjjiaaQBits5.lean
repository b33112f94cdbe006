/-
  The document's answer Bits, and Write, whatever is handed in; Plain.
-/
import Derived.Test.YtliemhadgbjjiaaQBlock
namespace Go.Proofs.Ytliemhadgbjjiaa
open Go.RowKit Go.Joins

/-- the bits of a block; none, where it may not be written -/
noncomputable def outL (m o : Int) (ps bs : List Int) (s : Int) (l : List Int) : List Nat :=
  if sizeE m o ps bs s l = 0 then blockB ((l.length + s.toNat) / 2 ^ o.toNat) s.toNat (2 ^ o.toNat) m.toNat o.toNat ps bs l else []
theorem outL_len (m o : Int) (ps bs : List Int) (s : Int) (l : List Int) : (outL m o ps bs s l).length = sizeN m o ps bs s l := by
  unfold outL
  split
  · rename_i h
    obtain ⟨m, o, s, rfl, rfl, rfl, hF⟩ := sizeE_zero h
    simpa using blockB_len hF
  · rename_i h
    unfold sizeN
    rw [if_neg h]
    rfl
theorem qb_len4 {a k f : Nat} (h : a ≤ 6 + 10 * k + 65600 * f) (hk : k ≤ 300) (hf : f ≤ 200) : a ≤ 100000000 :=
  Nat.le_trans h (Nat.le_trans (Nat.add_le_add (Nat.add_le_add_left (Nat.mul_le_mul_left 10 hk) 6) (Nat.mul_le_mul_left 65600 hf)) (by decide))

theorem bitsRef5_any {w : World} (m o s : Int) (A Ap Ab : Option Addr) (n np nb c cp cb : Nat) (ps bs l : List Int) (hs0 : -9223372036854775808 ≤ s) (hs1 : s ≤ 4611686018427387904)
    (hl : ISrc w (.slice A n c) l) (hp : ISrc w (.slice Ap np cp) ps) (hb : ISrc w (.slice Ab nb cb) bs) (hn2 : n ≤ 200) (hp3 : np ≤ 300) :
    Calls Try.prog 11 #[planV m o (.slice Ap np cp) (.slice Ab nb cb), iv s, .slice A n c] w fun e w' => ∃ v, e = .returned (.tuple #[v, iv (sizeE m o ps bs s l)]) ∧ Only Nix w w' ∧
      Bitrow w' w.heap.size v (outL m o ps bs s l) ∧ (outL m o ps bs s l).length ≤ 100000000 := by
  by_cases hE : ckC m o ps bs ((l.length : Int) + s) s = 0
  · obtain ⟨k1, k2, k3, k4⟩ := ckC_zero hE
    obtain ⟨m, o, b, s, rfl, rfl, e, rfl, j1, j2, j3, j4, j5, j6, j7⟩ := ckH_zero k1
    obtain rfl : b = l.length + s := by omega
    obtain ⟨i1, i2⟩ := ckP_zero j7
    rw [Int.toNat_natCast] at k2 k3
    have hpp : 0 < 2 ^ o := Nat.two_pow_pos o
    have hq : 2 ^ o * ((l.length + s) / 2 ^ o) = l.length + s := i1
    have hnl := hl.len
    have hpl := hp.len
    have hfl : frm ((l.length + s) / 2 ^ o) s (2 ^ o) ≤ 200 := by
      have := frm_le ((l.length + s) / 2 ^ o) s (2 ^ o) (2 ^ o) l.length (Nat.le_refl _) hq
      omega
    have hok := ok_all ((l.length + s) / 2 ^ o) s (2 ^ o) ps bs l (by omega) hq
    refine (bitsRef5_ok m o s (2 ^ o) ((l.length + s) / 2 ^ o) A Ap Ab n np nb c cp cb ps bs l hl hp hb hE (by omega) (by omega) (by omega) rfl hq (by omega) (by omega) (by omega) k2 k3 k4).mono ?_
    rintro e w' ⟨v, E, rfl, ho, h⟩
    rcases h with ⟨rfl, rfl, h⟩ | ⟨rfl, h, hr, hlen⟩
    · have hz : sizeE (m : Int) (o : Int) ps bs (s : Int) l = 10 := by
        unfold sizeE
        rw [if_neg (by simpa using hE), Int.toNat_natCast, Int.toNat_natCast, if_neg (fun g => h (hok.1 g))]
      have hz2 : outL (m : Int) (o : Int) ps bs (s : Int) l = [] := by
        unfold outL
        rw [hz, if_neg (by decide)]
      rw [hz, hz2]
      exact ⟨_, rfl, ho, World.ownsRow_nil _ _ _ _, by simp⟩
    · have hz : sizeE (m : Int) (o : Int) ps bs (s : Int) l = 0 := by
        unfold sizeE
        rw [if_neg (by simpa using hE), Int.toNat_natCast, Int.toNat_natCast, if_pos (hok.2 h)]
      have hz2 : outL (m : Int) (o : Int) ps bs (s : Int) l = blockB ((l.length + s) / 2 ^ o) s (2 ^ o) m o ps bs l := by
        unfold outL
        rw [if_pos hz]
        simp
      rw [hz, hz2]
      exact ⟨_, rfl, ho, hr, qb_len4 hlen (by omega) hfl⟩
  · have hz : sizeE m o ps bs s l = ckC m o ps bs ((l.length : Int) + s) s := by
      unfold sizeE
      rw [if_pos hE]
    have hz2 : outL m o ps bs s l = [] := by
      unfold outL
      rw [hz, if_neg hE]
    refine (bitsRef5_err m o s _ A Ap Ab n np nb c cp cb ps bs l hs0 hs1 hl hp hb rfl hE).mono ?_
    rintro e w' ⟨rfl, ho⟩
    rw [hz, hz2]
    exact ⟨_, rfl, ho, World.ownsRow_nil _ _ _ _, by simp⟩

/-- Write into a new Writer -/
theorem write_any {w : World} {b : Nat} (hW : Wr w b (.slice none 0 0) [] []) (m o s : Int) (n c : Nat) (A Ap Ab : Option Addr) (np nb cp cb : Nat) (ps bs l : List Int) (hs0 : -9223372036854775808 ≤ s) (hs1 : s ≤ 4611686018427387904)
    (hl : ISrc w (.slice A n c) l) (hps : ISrc w (.slice Ap np cp) ps) (hbs : ISrc w (.slice Ab nb cb) bs) (al : Apart (.slice A n c) b (.slice none 0 0)) (ap : Apart (.slice Ap np cp) b (.slice none 0 0)) (ab : Apart (.slice Ab nb cb) b (.slice none 0 0)) :
    Calls Try.prog 14 #[.pointer (some ⟨b, 0, none⟩), planV m o (.slice Ap np cp) (.slice Ab nb cb), iv s, .slice A n c] w fun e w' => e = .returned (iv (sizeE m o ps bs s l)) ∧ WrTo w b (.slice none 0 0) (outL m o ps bs s l) w' := by
  by_cases hE : sizeE m o ps bs s l = 0
  · have h2 : outL m o ps bs s l = blockB ((l.length + s.toNat) / 2 ^ o.toNat) s.toNat (2 ^ o.toNat) m.toNat o.toNat ps bs l := by
      unfold outL
      rw [if_pos hE]
    rw [hE, h2]
    obtain ⟨m, o, s, rfl, rfl, rfl, hF⟩ := sizeE_zero hE
    have := write_ok hW m o s (2 ^ o) ((l.length + s) / 2 ^ o) c n l A Ap Ab np nb cp cb ps bs hF hl hps hbs al ap ab (by simp)
    simpa using this
  · have h2 : outL m o ps bs s l = [] := by
      unfold outL
      rw [if_neg hE]
    rw [h2]
    refine (write_err (w := w) b m o s _ n c A Ap Ab np nb cp cb ps bs l hs0 hs1 hl hps hbs rfl hE).mono ?_
    rintro e w' ⟨rfl, ho⟩
    exact ⟨rfl, _, _, hW.nix ho, ho.nix, Moves.refl _ _⟩

set_option maxHeartbeats 1000000 in
theorem plain_any (w : World) (m o : Int) (Ap Ab : Option Addr) (np cp nb cb : Nat) :
    Calls Try.prog 12 #[planV m o (.slice Ap np cp) (.slice Ab nb cb)] w fun e w' => e = .returned (planV m o (.slice Ap np cp) (.slice Ab nb cb)) ∧ Only Nix w w' := by
  have HO := Lib.hid ((Only.refl Nix w).alloc (.cells #[iv m, iv o, .slice Ap np cp, .slice Ab nb cb] 24))
  have B0 := Box.new w 24 #[iv m, iv o, .slice Ap np cp, .slice Ab nb cb]
  have d0 := B0.cell 0
  have d1 := B0.cell 1
  have d2 := B0.cell 2
  have d3 := B0.cell 3
  simp only [List.getElem?_toArray, List.getElem?_cons_zero, List.getElem?_cons_succ] at d0 d1 d2 d3
  clear B0
  go_enter Try.func12, Try.ntmps12
  have HO2 := Lib.hid (HO.out.alloc (.cells #[iv m, iv o, .slice Ap np cp, .slice Ab nb cb] 32))
  go_wp2
  have B2 := Box.new (w.alloc (.cells #[iv m, iv o, .slice Ap np cp, .slice Ab nb cb] 24)) 32 #[iv m, iv o, .slice Ap np cp, .slice Ab nb cb]
  rw [World.size_alloc] at B2
  refine bodyPost_ret ?_ rfl ⟨rfl, HO2.out⟩
  have y0 := B2.cell 0
  have y1 := B2.cell 1
  have y2 := B2.cell 2
  have y3 := B2.cell 3
  simp only [List.getElem?_toArray, List.getElem?_cons_zero, List.getElem?_cons_succ] at y0 y1 y2 y3
  generalize (w.alloc (.cells #[iv m, iv o, .slice Ap np cp, .slice Ab nb cb] 24)).alloc (.cells #[iv m, iv o, .slice Ap np cp, .slice Ab nb cb] 32) = W2 at y0 y1 y2 y3 ⊢
  simp [results, Try.f12, go_sem, y0, y1, y2, y3]
end Go.Proofs.Ytliemhadgbjjiaa
