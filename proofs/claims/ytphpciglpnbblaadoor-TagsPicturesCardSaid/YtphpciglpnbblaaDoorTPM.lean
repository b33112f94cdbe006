/-
  Pictures: what is written is read, and what is read is written; the statements' picture.
-/
import Derived.Test.YtphpciglpnbblaaDoorTPR
import Derived.Test.YtphpciglpnbblaaDoorTPW
import Derived.Test.YtphpciglpnbblaaDoorTAM
namespace Go.Proofs.YtphpciglpnbblaaDoor
open Go.RowKit Go.Shelf

theorem wrP_len (p : Pc) (bs : List Nat) : (wrP p bs).length = 32 + p.m.size + p.t.size + bs.length := by
  unfold wrP
  simp only [List.length_append, be_len, nb_len]
  omega
theorem wrP_lt (p : Pc) {bs : List Nat} (hb : ∀ x ∈ bs, x < 256) : ∀ x ∈ wrP p bs, x < 256 := fun x hx => by
  unfold wrP at hx
  simp only [List.mem_append] at hx
  rcases hx with h | h | h | h | h | h | h | h | h | h | h
  · exact be_lt _ _ x h
  · exact be_lt _ _ x h
  · exact nb_lt _ x h
  · exact be_lt _ _ x h
  · exact nb_lt _ x h
  · exact be_lt _ _ x h
  · exact be_lt _ _ x h
  · exact be_lt _ _ x h
  · exact be_lt _ _ x h
  · exact be_lt _ _ x h
  · exact hb x h
theorem rp_wr (p : Pc) (bs : List Nat) (hm : p.m.size ≤ 20000) (ht : p.t.size ≤ 20000) (hb : bs.length ≤ 20000) (he : pcE p = 0) : rpP (wrP p bs) = p ∧ rpD (wrP p bs) = bs ∧ rpE (wrP p bs) = 0 := by
  obtain ⟨_, _, g0, g3, g4, g5, g6⟩ := pcE_nat he
  obtain ⟨R7, r7⟩ : ∃ R, be 4 bs.length ++ (bs ++ []) = R := ⟨_, rfl⟩
  obtain ⟨R6, r6⟩ : ∃ R, be 4 p.c.toNat ++ R7 = R := ⟨_, rfl⟩
  obtain ⟨R5, r5⟩ : ∃ R, be 4 p.b.toNat ++ R6 = R := ⟨_, rfl⟩
  obtain ⟨R4, r4⟩ : ∃ R, be 4 p.h.toNat ++ R5 = R := ⟨_, rfl⟩
  obtain ⟨R3, r3⟩ : ∃ R, be 4 p.w.toNat ++ R4 = R := ⟨_, rfl⟩
  obtain ⟨R2, r2⟩ : ∃ R, be 4 (nb p.t).length ++ (nb p.t ++ R3) = R := ⟨_, rfl⟩
  obtain ⟨R1, r1⟩ : ∃ R, be 4 (nb p.m).length ++ (nb p.m ++ R2) = R := ⟨_, rfl⟩
  have e0 : wrP p bs = be 4 p.k.toNat ++ R1 := by
    rw [← r1, ← r2, ← r3, ← r4, ← r5, ← r6, ← r7]
    unfold wrP
    rw [nb_len, nb_len, List.append_nil]
  obtain ⟨a1, a2, a3⟩ := nm_app num_high p.k.toNat R1 (by omega)
  obtain ⟨b1, b2, b3⟩ := tx_app num_high (nb p.m) R2 (by rw [nb_len]; omega)
  obtain ⟨c1, c2, c3⟩ := tx_app num_high (nb p.t) R3 (by rw [nb_len]; omega)
  obtain ⟨d1, d2, d3⟩ := nm_app num_high p.w.toNat R4 (by omega)
  obtain ⟨f1, f2, f3⟩ := nm_app num_high p.h.toNat R5 (by omega)
  obtain ⟨i1, i2, i3⟩ := nm_app num_high p.b.toNat R6 (by omega)
  obtain ⟨j1, j2, j3⟩ := nm_app num_high p.c.toNat R7 (by omega)
  obtain ⟨k1, k2, k3⟩ := tx_app num_high bs [] (by omega)
  rw [r1] at b1 b2 b3
  rw [r2] at c1 c2 c3
  rw [r3] at d1 d2 d3
  rw [r4] at f1 f2 f3
  rw [r5] at i1 i2 i3
  rw [r6] at j1 j2 j3
  rw [r7] at k1 k2 k3
  have s1 : q1 (wrP p bs) = R1 := by rw [e0]; exact a2
  have s2 : q2 (wrP p bs) = R2 := by unfold q2; rw [s1]; exact b2
  have s3 : q3 (wrP p bs) = R3 := by unfold q3; rw [s2]; exact c2
  have s4 : q4 (wrP p bs) = R4 := by unfold q4; rw [s3]; exact d2
  have s5 : q5 (wrP p bs) = R5 := by unfold q5; rw [s4]; exact f2
  have s6 : q6 (wrP p bs) = R6 := by unfold q6; rw [s5]; exact i2
  have s7 : q7 (wrP p bs) = R7 := by unfold q7; rw [s6]; exact j2
  have s8 : q8 (wrP p bs) = [] := by unfold q8; rw [s7]; exact k2
  have hz : z8 (wrP p bs) = false := by
    unfold z8 z7 z6 z5 z4 z3 z2 z1
    rw [s1, s2, s3, s4, s5, s6, s7, b3, c3, d3, f3, i3, j3, k3, e0, a3]
    rfl
  have hP : rpP (wrP p bs) = p := by
    unfold rpP
    rw [s1, s2, s3, s4, s5, s6, b1, c1, d1, f1, i1, j1, strN_nb, strN_nb, e0, a1, Int.toNat_of_nonneg g0.1, Int.toNat_of_nonneg g3.1, Int.toNat_of_nonneg g4.1, Int.toNat_of_nonneg g5.1, Int.toNat_of_nonneg g6.1]
  have hD : rpD (wrP p bs) = bs := by unfold rpD; rw [s7]; exact k1
  refine ⟨hP, hD, ?_⟩
  unfold rpE
  rw [hz, if_neg (by decide), s8, if_neg (by simp), hP]
  exact he
theorem wr_rp (bs : List Nat) (hb : ∀ x ∈ bs, x < 256) (h : rpE bs = 0) : wrP (rpP bs) (rpD bs) = bs ∧ pcE (rpP bs) = 0 := by
  unfold rpE at h
  by_cases h1 : z8 bs = true
  · rw [if_pos h1] at h; omega
  · rw [if_neg h1] at h
    by_cases h2 : 0 < (q8 bs).length
    · rw [if_pos h2] at h; omega
    · rw [if_neg h2] at h
      refine ⟨?_, h⟩
      have hz : z8 bs = false := by simpa using h1
      unfold z8 at hz
      rw [Bool.or_eq_false_iff] at hz
      obtain ⟨hz, x8⟩ := hz
      unfold z7 at hz
      rw [Bool.or_eq_false_iff] at hz
      obtain ⟨hz, x7⟩ := hz
      unfold z6 at hz
      rw [Bool.or_eq_false_iff] at hz
      obtain ⟨hz, x6⟩ := hz
      unfold z5 at hz
      rw [Bool.or_eq_false_iff] at hz
      obtain ⟨hz, x5⟩ := hz
      unfold z4 at hz
      rw [Bool.or_eq_false_iff] at hz
      obtain ⟨hz, x4⟩ := hz
      unfold z3 at hz
      rw [Bool.or_eq_false_iff] at hz
      obtain ⟨hz, x3⟩ := hz
      unfold z2 at hz
      rw [Bool.or_eq_false_iff] at hz
      obtain ⟨x1, x2⟩ := hz
      have l1 : ∀ x ∈ q1 bs, x < 256 := tkR_lt 4 bs hb
      have l2 : ∀ x ∈ q2 bs, x < 256 := (txB_lt vl _ l1).2
      have l3 : ∀ x ∈ q3 bs, x < 256 := (txB_lt vl _ l2).2
      have l4 : ∀ x ∈ q4 bs, x < 256 := tkR_lt 4 _ l3
      have l5 : ∀ x ∈ q5 bs, x < 256 := tkR_lt 4 _ l4
      have l6 : ∀ x ∈ q6 bs, x < 256 := tkR_lt 4 _ l5
      have l7 : ∀ x ∈ q7 bs, x < 256 := tkR_lt 4 _ l6
      have e1 : bs = be 4 (vl (tkB 4 bs)) ++ q1 bs := nm_out num_high bs hb x1
      have e2 : q1 bs = be 4 (txB vl (q1 bs)).length ++ (txB vl (q1 bs) ++ q2 bs) := tx_out num_high _ l1 x2
      have e3 : q2 bs = be 4 (txB vl (q2 bs)).length ++ (txB vl (q2 bs) ++ q3 bs) := tx_out num_high _ l2 x3
      have e4 : q3 bs = be 4 (vl (tkB 4 (q3 bs))) ++ q4 bs := nm_out num_high _ l3 x4
      have e5 : q4 bs = be 4 (vl (tkB 4 (q4 bs))) ++ q5 bs := nm_out num_high _ l4 x5
      have e6 : q5 bs = be 4 (vl (tkB 4 (q5 bs))) ++ q6 bs := nm_out num_high _ l5 x6
      have e7 : q6 bs = be 4 (vl (tkB 4 (q6 bs))) ++ q7 bs := nm_out num_high _ l6 x7
      have e8 : q7 bs = be 4 (rpD bs).length ++ (rpD bs ++ q8 bs) := tx_out num_high _ l7 x8
      have hnil : q8 bs = [] := List.eq_nil_of_length_eq_zero (by omega)
      rw [hnil, List.append_nil] at e8
      have t1 : nb (rpP bs).m = txB vl (q1 bs) := nb_strN _ (txB_lt vl _ l1).1
      have t2 : nb (rpP bs).t = txB vl (q2 bs) := nb_strN _ (txB_lt vl _ l2).1
      have u1 : (rpP bs).m.size = (txB vl (q1 bs)).length := strN_size _
      have u2 : (rpP bs).t.size = (txB vl (q2 bs)).length := strN_size _
      unfold wrP
      rw [t1, t2, u1, u2, ← e8, show (rpP bs).c.toNat = vl (tkB 4 (q6 bs)) from rfl, show (rpP bs).b.toNat = vl (tkB 4 (q5 bs)) from rfl, show (rpP bs).h.toNat = vl (tkB 4 (q4 bs)) from rfl, show (rpP bs).w.toNat = vl (tkB 4 (q3 bs)) from rfl, show (rpP bs).k.toNat = vl (tkB 4 bs) from rfl, ← e7, ← e6, ← e5, ← e4, ← e3, ← e2, ← e1]
set_option maxRecDepth 100000 in
set_option maxHeartbeats 8000000 in
theorem picture_at {w : World} {p : Pc} {x y : Value} {bs : List Nat} (hx : CSrc w x bs) (hy : CSrc w y bs) :
    Calls Tryd.prog 17 #[pcV p x, pcV p y] w fun e w' => e = .returned (.bool true) ∧ Only Nix w w' := by
  obtain ⟨W1, hW1⟩ : ∃ W1, w.alloc (.cells (pcc p x) 40) = W1 := ⟨_, rfl⟩
  have b1 := Box.new w 40 (pcc p x)
  have o1 := (Only.refl Nix w).alloc (.cells (pcc p x) 40)
  rw [hW1] at b1 o1
  obtain ⟨W2, hW2⟩ : ∃ W2, W1.alloc (.cells (pcc p y) 40) = W2 := ⟨_, rfl⟩
  have b2 := Box.new W1 40 (pcc p y)
  have b3 := b1.alloc (.cells (pcc p y) 40)
  have o2 := o1.alloc (.cells (pcc p y) 40)
  rw [hW2] at b2 b3 o2
  have c0 := pc0 b3
  have c1 := pc1 b3
  have c2 := pc2 b3
  have c3 := pc3 b3
  have c4 := pc4 b3
  have c5 := pc5 b3
  have c6 := pc6 b3
  have c7 := pc7 b3
  have d0 := pc0 b2
  have d1 := pc1 b2
  have d2 := pc2 b2
  have d3 := pc3 b2
  have d4 := pc4 b2
  have d5 := pc5 b2
  have d6 := pc6 b2
  have d7 := pc7 b2
  have HO := Lib.hid o2
  have HBy := Lib.hid (equal_at (hx.nix o2).src (hy.nix o2).src)
  obtain ⟨A, c, rfl, _⟩ := hx.form
  obtain ⟨B, d, rfl, _⟩ := hy.form
  clear b1 b2 b3 o1 o2 hx hy
  go_enter Tryd.func17, Tryd.ntmps17
  go_wp2_with fail
  refine (HBy.out).mono ?_
  rintro e w1 ⟨rfl, ho⟩
  have HO1 := Lib.hid (HO.out.trans ho)
  clear ho
  go_wp2
  go_ret
  exact ⟨rfl, HO1.out⟩
end Go.Proofs.YtphpciglpnbblaaDoor
