/-
  Package header, mathematics: Write of Read is the bytes that were read, and Read of Write the header.
-/
import Derived.Test.YteahiigfclabfaaDoorHJ
namespace Go.Proofs.YteahiigfclabfaaDoor.H

theorem dep_s (c : Int) : (rowOf dT c).s = 0 := by
  unfold rowOf
  split
  · rfl
  · rename_i h
    have h2 : ∀ k, k < 16 → (dT.getD k z0).s = 0 := by decide
    exact h2 _ (by omega)
theorem num_of {cs : List Nat} {a k : Nat} (h : takeE cs a (k : Nat) = 0) (hk : k ≤ 48) : ∃ v, v < 2 ^ k ∧ takeR cs a (k : Nat) = (v : Nat) ∧ numAt cs a k = v ∧ a + k ≤ 8 * cs.length :=
  ⟨numAt cs a k, numAt_lt cs a k, takeR_is h, rfl, (takeE_iff cs a k hk).1 h⟩
theorem told_tdiv {R : Rw} (hu : R.u ≠ 0) (t : Nat) : ((R.u : Int) * (R.l + (t : Nat))).tdiv R.u = R.l + (t : Nat) := Int.mul_tdiv_cancel_left _ (by omega)
theorem told_telP {R : Rw} (hu : R.u ≠ 0) {t : Nat} (h : (R.l : Int) + (t : Nat) ≤ R.m) : telP R ((R.u : Int) * (R.l + (t : Nat))) := by
  have := mul_telP (r := R) hu (q := R.l + t) (by omega) (by omega)
  rwa [Int.natCast_mul, Int.natCast_add] at this
theorem told_tdL {R : Rw} (hu : R.u ≠ 0) (t : Nat) : tdL R ((R.u : Int) * (R.l + (t : Nat))) = bitsN R.s t := by
  unfold tdL
  rw [told_tdiv hu]
  congr 1
  omega
theorem telP_i64 {R : Rw} (hb : R.u ≤ 1000000 ∧ R.l ≤ 1 ∧ R.m ≤ 65535 ∧ R.s ≤ 16) {n : Int} (h : telP R n) : I64 n := by
  obtain ⟨h1, h2⟩ := telP_bd h
  have := Nat.mul_le_mul hb.1 hb.2.2.1
  constructor <;> omega
/-- what was read may be, and is written as the bytes that were read -/
structure HdBack (cs : List Nat) (n : Nat) : Prop where
  ok : HOk (hdX cs)
  int : HdI (hdX cs)
  wr : wrB (hdX cs) = cs.take n
  n6 : 6 ≤ n
  n16 : n ≤ 16
  le : n ≤ cs.length
  p3 : rP3 cs + 8 = 8 * n
theorem hd_back {cs : List Nat} (h : HdOk cs) (hlt : ∀ x ∈ cs, x < 256) : ∃ n, HdBack cs n := by
  obtain ⟨⟨a1, a2, a3, a4, a5⟩, ⟨b1, b2, b3, b4⟩, ⟨c1, c2, c3, c4, c5, c6⟩, ⟨d1, d2⟩, ⟨e1, e2⟩, ⟨f1, f2⟩, ⟨g1, g2⟩, ⟨s1, s2⟩⟩ := h
  obtain ⟨v0, w0, r0, m0, l0⟩ := num_of (k := 8) a1 (by decide)
  obtain ⟨v8, w8, r8, m8, l8⟩ := num_of (k := 7) a3 (by decide)
  obtain ⟨v15, w15, r15, m15, l15⟩ := num_of (k := 1) a5 (by decide)
  obtain ⟨v16, w16, r16, m16, l16⟩ := num_of (k := 4) b1 (by decide)
  obtain ⟨v20, w20, r20, m20, l20⟩ := num_of (k := 4) b2 (by decide)
  obtain ⟨v24, w24, r24, m24, l24⟩ := num_of (k := 4) c1 (by decide)
  obtain ⟨v28, w28, r28, m28, l28⟩ := num_of (k := 3) c2 (by decide)
  obtain ⟨v31, w31, r31, m31, l31⟩ := num_of (k := 1) c5 (by decide)
  obtain ⟨t1, x1, y1, z1, l1⟩ := num_of e1 (sizes_le bT bOk _)
  obtain ⟨t2, x2, y2, z2, l2⟩ := num_of f1 (sizes_le rT rOk _)
  obtain ⟨t3, x3, y3, z3, l3⟩ := num_of g1 (sizes_le dT dOk _)
  obtain ⟨t4, x4, y4, z4, l4⟩ := num_of (k := 8) s1 (by decide)
  rw [y1] at e2
  rw [y2] at f2
  rw [y3] at g2
  have k0 : v0 = 255 := by have := a2.symm.trans r0; omega
  have k8 : v8 = 124 := by have := a4.symm.trans r8; omega
  have k31 : v31 = 0 := by have := c6.symm.trans r31; omega
  subst k0 k8 k31
  have hX : hdX cs = ⟨rV cs, (v16 : Nat), (v20 : Nat), (v24 : Nat), (v28 : Nat), gN cs, (rR1 cs).u * ((rR1 cs).l + (t1 : Nat)), (rR2 cs).u * ((rR2 cs).l + (t2 : Nat)), (rR3 cs).u * ((rR3 cs).l + (t3 : Nat))⟩ := by
    unfold hdX toV
    rw [show takeR cs 16 4 = _ from r16, show takeR cs 20 4 = _ from r20, show takeR cs 24 4 = _ from r24, show takeR cs 28 3 = _ from r28, y1, y2, y3]
  have q1 : rR1 cs = rowOf bT (v16 : Nat) := congrArg (rowOf bT) r16
  have q2 : rR2 cs = rowOf rT (v20 : Nat) := congrArg (rowOf rT) r20
  have q3 : rR3 cs = rowOf dT (v28 : Nat) := congrArg (rowOf dT) r28
  have p1 : rP1 cs = rP0 cs + (rR1 cs).s := rfl
  have p2 : rP2 cs = rP1 cs + (rR2 cs).s := rfl
  have p3 : rP3 cs = rP2 cs + (rR3 cs).s := rfl
  have p0 : rP0 cs = 32 + 8 * gS cs := rfl
  have hs3 : (rR3 cs).s = 0 := dep_s _
  obtain ⟨hg1, hg2, hg3⟩ := g_bd cs
  obtain ⟨hg4, hg5, hg6⟩ := hg3 d1
  have hsz1 := row_sizes sizes_b bOk (v16 : Nat)
  have hsz2 := row_sizes sizes_r rOk (v20 : Nat)
  have hsg : sg (rV cs) = v15 := by
    unfold sg rV
    have r15' : takeR cs 15 1 = (v15 : Nat) := r15
    rw [r15']
    by_cases e : v15 = 1
    · rw [e]; rfl
    · rw [if_neg (by simp; omega)]; omega
  have ok : HOk (hdX cs) := by
    rw [hX]
    have c3' : 0 ≤ ((v24 : Nat) : Int) ∧ ((v24 : Nat) : Int) ≤ 10 := by
      have r24' : takeR cs 24 4 = (v24 : Nat) := r24
      rw [r24'] at c3; exact c3
    refine ⟨c3', ?_, ?_, ?_, d2, ?_, ?_, ?_⟩
    · show (rowOf bT (v16 : Nat)).u ≠ 0; rw [← q1]; exact b3
    · show (rowOf rT (v20 : Nat)).u ≠ 0; rw [← q2]; exact b4
    · show (rowOf dT (v28 : Nat)).u ≠ 0; rw [← q3]; exact c4
    · show telP (rowOf bT (v16 : Nat)) _; rw [← q1]; exact told_telP b3 e2
    · show telP (rowOf rT (v20 : Nat)) _; rw [← q2]; exact told_telP b4 f2
    · show telP (rowOf dT (v28 : Nat)) _; rw [← q3]; exact told_telP c4 g2
  have T8 : (bitsOf cs).take 8 = bitsN 8 255 := by
    have := take_more (bs := cs) (a := 0) (k := 8) l0
    rw [m0] at this
    simpa using this
  have T15 : (bitsOf cs).take 15 = bitsN 15 32764 := by
    have := take_more (bs := cs) (a := 8) (k := 7) l8
    rw [m8, T8] at this
    exact this.trans (by decide)
  have T16 : (bitsOf cs).take 16 = bitsN 15 32764 ++ bitsN 1 (sg (rV cs)) := by
    have := take_more (bs := cs) (a := 15) (k := 1) l15
    rw [m15, T15, ← hsg] at this
    exact this
  have T20 : (bitsOf cs).take 20 = bitsN 15 32764 ++ bitsN 1 (sg (rV cs)) ++ bitsN 4 v16 := by
    have := take_more (bs := cs) (a := 16) (k := 4) l16
    rw [m16, T16] at this
    exact this
  have T24 : (bitsOf cs).take 24 = bitsN 15 32764 ++ bitsN 1 (sg (rV cs)) ++ bitsN 4 v16 ++ bitsN 4 v20 := by
    have := take_more (bs := cs) (a := 20) (k := 4) l20
    rw [m20, T20] at this
    exact this
  have T28 : (bitsOf cs).take 28 = bitsN 15 32764 ++ bitsN 1 (sg (rV cs)) ++ bitsN 4 v16 ++ bitsN 4 v20 ++ bitsN 4 v24 := by
    have := take_more (bs := cs) (a := 24) (k := 4) l24
    rw [m24, T24] at this
    exact this
  have T31 : (bitsOf cs).take 31 = bitsN 15 32764 ++ bitsN 1 (sg (rV cs)) ++ bitsN 4 v16 ++ bitsN 4 v20 ++ bitsN 4 v24 ++ bitsN 3 v28 := by
    have := take_more (bs := cs) (a := 28) (k := 3) l28
    rw [m28, T28] at this
    exact this
  have T32 : (bitsOf cs).take 32 = bitsN 15 32764 ++ bitsN 1 (sg (rV cs)) ++ bitsN 4 v16 ++ bitsN 4 v20 ++ bitsN 4 v24 ++ bitsN 3 v28 ++ bitsN 1 0 := by
    have := take_more (bs := cs) (a := 31) (k := 1) l31
    rw [m31, T31] at this
    exact this
  have TP0 : (bitsOf cs).take (rP0 cs) = bitsN 15 32764 ++ bitsN 1 (sg (rV cs)) ++ bitsN 4 v16 ++ bitsN 4 v20 ++ bitsN 4 v24 ++ bitsN 3 v28 ++ bitsN 1 0 ++ bitsOf (U.cd (gN cs)) := by
    rw [p0, List.take_add, T32, ← hg6, bitsOf_take, bitsOf_drop]
  have TP1 : (bitsOf cs).take (rP1 cs) = bitsN 15 32764 ++ bitsN 1 (sg (rV cs)) ++ bitsN 4 v16 ++ bitsN 4 v20 ++ bitsN 4 v24 ++ bitsN 3 v28 ++ bitsN 1 0 ++ bitsOf (U.cd (gN cs)) ++ bitsN (rR1 cs).s t1 := by
    rw [p1, take_more l1, z1, TP0]
  have TP2 : (bitsOf cs).take (rP2 cs) = bitsN 15 32764 ++ bitsN 1 (sg (rV cs)) ++ bitsN 4 v16 ++ bitsN 4 v20 ++ bitsN 4 v24 ++ bitsN 3 v28 ++ bitsN 1 0 ++ bitsOf (U.cd (gN cs)) ++ bitsN (rR1 cs).s t1 ++ bitsN (rR2 cs).s t2 := by
    rw [p2, take_more l2, z2, TP1]
  have bt : bitsOf (hbB (hdX cs)) = (bitsOf cs).take (rP3 cs) := by
    rw [hbB_bits ok, p3, hs3, Nat.add_zero, TP2, hX]
    unfold hL9
    simp only [List.nil_append, Int.toNat_natCast]
    rw [← q1, ← q2, told_tdL b3, told_tdL b4]
  rw [q1] at p1
  rw [q2] at p2
  rw [hs3] at p3
  obtain ⟨q, hq⟩ : ∃ q, rP3 cs = 8 * q := ⟨rP3 cs / 8, by omega⟩
  have hql : q < cs.length := by omega
  have hbl := @hbB_len (hdX cs)
  have he : hbB (hdX cs) = cs.take q := by
    refine bitsOf_inj _ _ (hbB_lt ok) (fun x hx => hlt x (List.mem_of_mem_take hx)) ?_
    rw [bt, bitsOf_take, hq]
  have hl : (cs.take q).length = q := by rw [List.length_take, Nat.min_eq_left (by omega)]
  rw [he, hl] at hbl
  have hsm : U.sm 8 7 (cs.take q) = cs[q] := by
    have e1 := numAt_byte cs q hql hlt
    have e2 : takeR cs (rP3 cs) 8 = (t4 : Nat) := y4
    rw [e2] at s2
    rw [hq, show 8 * q / 8 = q from by omega] at s2
    rw [hq] at z4
    omega
  refine ⟨q + 1, ok, ?_, ?_, by omega, by omega, by omega, by omega⟩
  · rw [hX]
    have hI1 := telP_i64 (rowOf_bd bOk _) (told_telP b3 e2 : telP (rowOf bT _) _)
    have hI2 := telP_i64 (rowOf_bd rOk _) (told_telP b4 f2 : telP (rowOf rT _) _)
    have hI3 := telP_i64 (rowOf_bd dOk _) (told_telP c4 g2 : telP (rowOf dT _) _)
    refine ⟨?_, ?_, ?_, ?_, ?_, hI1, hI2, hI3⟩
    · show I64 (v16 : Nat); constructor <;> omega
    · show I64 (v20 : Nat); constructor <;> omega
    · show I64 (v24 : Nat); constructor <;> omega
    · show I64 (v28 : Nat); constructor <;> omega
    · show I64 (gN cs : Nat); constructor <;> omega
  · unfold wrB
    rw [if_pos ((ck_ok _).2 ok), he, hsm, ← List.take_succ_eq_append_getElem hql]

theorem told_back {R : Rw} {n : Int} (h : telP R n) : (R.u : Int) * (R.l + (tdX R n : Nat)) = n ∧ (R.l : Int) + (tdX R n : Nat) ≤ R.m := by
  have h0 := h.1
  obtain ⟨q, rfl, h1, h2⟩ := telP_mul h
  have e : ((R.u * q : Nat) : Int).tdiv R.u = q := by rw [Int.natCast_mul]; exact Int.mul_tdiv_cancel_left _ (by omega)
  have e2 : tdX R ((R.u * q : Nat) : Int) = q - R.l := by unfold tdX; rw [e]; omega
  rw [e2]
  refine ⟨?_, by omega⟩
  rw [Int.natCast_mul]
  congr 1
  omega
/-- what is written is read as it was -/
theorem hd_forth {h : Hd} (k : HOk h) : HdOk (wrB h) ∧ hdX (wrB h) = h ∧ rP3 (wrB h) + 8 = 8 * (wrB h).length := by
  obtain ⟨n1, n2, n3, n4, n5⟩ := k.codes
  have n6 := k.mo
  obtain ⟨V, bc, rc, mo, dc, num, blk, rate, dep⟩ := h
  simp only at n1 n2 n3 n4 n5 n6
  obtain ⟨cb, rfl⟩ : ∃ x : Nat, bc = x := ⟨bc.toNat, by omega⟩
  obtain ⟨cr, rfl⟩ : ∃ x : Nat, rc = x := ⟨rc.toNat, by omega⟩
  obtain ⟨cm, rfl⟩ : ∃ x : Nat, mo = x := ⟨mo.toNat, by omega⟩
  obtain ⟨cD, rfl⟩ : ∃ x : Nat, dc = x := ⟨dc.toNat, by omega⟩
  obtain ⟨nn, rfl⟩ : ∃ x : Nat, num = x := ⟨num.toNat, by omega⟩
  generalize hh : (⟨V, (cb : Nat), (cr : Nat), (cm : Nat), (cD : Nat), (nn : Nat), blk, rate, dep⟩ : Hd) = h at *
  have hlt := hbB_lt k
  have hb := hbB_bits k
  have hbl := @hbB_len h
  have hw : wrB h = hbB h ++ [U.sm 8 7 (hbB h)] := by unfold wrB; rw [if_pos ((ck_ok _).2 k)]
  have hS := U.sm_lt (n := 8) (r := 7) (by decide) (Nat.le_refl _) (hbB h) hlt
  generalize hSe : U.sm 8 7 (hbB h) = S at *
  have hwl : (wrB h).length = (hbB h).length + 1 := by rw [hw]; simp
  have hsg : sg V ≤ 1 := by unfold sg; split <;> omega
  have hbits : bitsOf (wrB h) = bitsN 15 32764 ++ bitsN 1 (sg V) ++ bitsN 4 cb ++ bitsN 4 cr ++ bitsN 4 cm ++ bitsN 3 cD ++ bitsN 1 0 ++ bitsOf (U.cd nn) ++ tdL (rowOf bT (cb : Nat)) blk ++ tdL (rowOf rT (cr : Nat)) rate ++ bitsN 8 S := by
    rw [hw, bitsOf_append, hb, ← hh]
    unfold hL9
    simp only [List.nil_append, Int.toNat_natCast, bitsOf_cons, bitsOf_nil, List.append_nil]
  have kb : telP (rowOf bT (cb : Nat)) blk := by rw [← hh] at k; exact k.blk
  have kr : telP (rowOf rT (cr : Nat)) rate := by rw [← hh] at k; exact k.rate
  have kd : telP (rowOf dT (cD : Nat)) dep := by rw [← hh] at k; exact k.dep
  have km : mayN V (nn : Nat) := by rw [← hh] at k; exact k.num
  have kmo : 0 ≤ ((cm : Nat) : Int) ∧ ((cm : Nat) : Int) ≤ 10 := by rw [← hh] at k; exact k.mo
  have hx1 := tdX_lt (rowOf_ok rows_ok.1 bOk (cb : Nat)) kb
  have hx2 := tdX_lt (rowOf_ok rows_ok.2.1 rOk (cr : Nat)) kr
  have hx3 := tdX_lt (rowOf_ok rows_ok.2.2 dOk (cD : Nat)) kd
  have ht1 : tdL (rowOf bT (cb : Nat)) blk = bitsN (rowOf bT (cb : Nat)).s (tdX (rowOf bT (cb : Nat)) blk) := rfl
  have ht2 : tdL (rowOf rT (cr : Nat)) rate = bitsN (rowOf rT (cr : Nat)).s (tdX (rowOf rT (cr : Nat)) rate) := rfl
  rw [ht1, ht2] at hbits
  obtain ⟨u1, u2⟩ := told_back kb
  obtain ⟨u3, u4⟩ := told_back kr
  obtain ⟨u5, u6⟩ := told_back kd
  have hds : (rowOf dT (cD : Nat)).s = 0 := dep_s _
  have hs1 := sizes_le bT bOk (cb : Nat)
  have hs2 := sizes_le rT rOk (cr : Nat)
  have hdrop : (wrB h).drop 4 = U.cd nn ++ (tdB (rowOf bT (cb : Nat)) blk ++ tdB (rowOf rT (cr : Nat)) rate ++ [S]) := by
    rw [hw]
    have : hbB h = hd4 h ++ (U.cd nn ++ (tdB (rowOf bT (cb : Nat)) blk ++ tdB (rowOf rT (cr : Nat)) rate)) := by
      rw [← hh]
      unfold hbB
      simp only [Int.toNat_natCast, List.append_assoc]
    rw [this, List.append_assoc, List.drop_left' (by rfl)]
    simp only [List.append_assoc]
  have hget : U.getOf ((wrB h).drop 4) = (nn, U.szOf nn, 0) := by rw [hdrop]; exact U.get_put nn (by omega) _
  have gE0 : gE (wrB h) = 0 := by unfold gE; rw [hget]
  have gN0 : gN (wrB h) = nn := by unfold gN; rw [hget]
  have gS0 : gS (wrB h) = U.szOf nn := by unfold gS; rw [hget]
  have hcl : (bitsOf (U.cd nn)).length = 8 * U.szOf nn := by rw [bitsOf_len, U.cd_len]
  clear hb
  generalize wrB h = cs at *
  generalize hR1 : rowOf bT (cb : Nat) = R1 at *
  generalize hR2 : rowOf rT (cr : Nat) = R2 at *
  generalize hR3 : rowOf dT (cD : Nat) = R3 at *
  generalize tdX R1 blk = X1 at *
  generalize tdX R2 rate = X2 at *
  generalize tdX R3 dep = X3 at *
  have hX3 : X3 = 0 := by rw [hds] at hx3; simpa using hx3
  subst hX3
  have b15 : bitsN 15 32764 = bitsN 8 255 ++ bitsN 7 124 := by decide
  obtain ⟨a1, a2⟩ := take_at (bs := cs) (A := []) (a := 0) (k := 8) (v := 255) (B := bitsN 7 124 ++ (bitsN 1 (sg V) ++ (bitsN 4 cb ++ (bitsN 4 cr ++ (bitsN 4 cm ++ (bitsN 3 cD ++ (bitsN 1 0 ++ (bitsOf (U.cd nn) ++ (bitsN R1.s X1 ++ (bitsN R2.s X2 ++ bitsN 8 S)))))))))) (by rw [hbits, b15]; simp only [List.append_assoc, List.nil_append]) rfl (by decide) (by decide)
  obtain ⟨a3, a4⟩ := take_at (bs := cs) (A := bitsN 8 255) (a := 8) (k := 7) (v := 124) (B := bitsN 1 (sg V) ++ (bitsN 4 cb ++ (bitsN 4 cr ++ (bitsN 4 cm ++ (bitsN 3 cD ++ (bitsN 1 0 ++ (bitsOf (U.cd nn) ++ (bitsN R1.s X1 ++ (bitsN R2.s X2 ++ bitsN 8 S))))))))) (by rw [hbits, b15]; simp only [List.append_assoc]) (bitsN_len _ _) (by decide) (by decide)
  obtain ⟨a5, a6⟩ := take_at (bs := cs) (A := bitsN 15 32764) (a := 15) (k := 1) (v := sg V) (B := bitsN 4 cb ++ (bitsN 4 cr ++ (bitsN 4 cm ++ (bitsN 3 cD ++ (bitsN 1 0 ++ (bitsOf (U.cd nn) ++ (bitsN R1.s X1 ++ (bitsN R2.s X2 ++ bitsN 8 S)))))))) (by rw [hbits]; simp only [List.append_assoc]) (bitsN_len _ _) (by omega) (by decide)
  obtain ⟨b1, b2⟩ := take_at (bs := cs) (A := bitsN 15 32764 ++ bitsN 1 (sg V)) (a := 16) (k := 4) (v := cb) (B := bitsN 4 cr ++ (bitsN 4 cm ++ (bitsN 3 cD ++ (bitsN 1 0 ++ (bitsOf (U.cd nn) ++ (bitsN R1.s X1 ++ (bitsN R2.s X2 ++ bitsN 8 S))))))) (by rw [hbits]; simp only [List.append_assoc]) (by simp [bitsN_len]) (by omega) (by decide)
  obtain ⟨b3, b4⟩ := take_at (bs := cs) (A := bitsN 15 32764 ++ bitsN 1 (sg V) ++ bitsN 4 cb) (a := 20) (k := 4) (v := cr) (B := bitsN 4 cm ++ (bitsN 3 cD ++ (bitsN 1 0 ++ (bitsOf (U.cd nn) ++ (bitsN R1.s X1 ++ (bitsN R2.s X2 ++ bitsN 8 S)))))) (by rw [hbits]; simp only [List.append_assoc]) (by simp [bitsN_len]) (by omega) (by decide)
  obtain ⟨c1, c2⟩ := take_at (bs := cs) (A := bitsN 15 32764 ++ bitsN 1 (sg V) ++ bitsN 4 cb ++ bitsN 4 cr) (a := 24) (k := 4) (v := cm) (B := bitsN 3 cD ++ (bitsN 1 0 ++ (bitsOf (U.cd nn) ++ (bitsN R1.s X1 ++ (bitsN R2.s X2 ++ bitsN 8 S))))) (by rw [hbits]; simp only [List.append_assoc]) (by simp [bitsN_len]) (by omega) (by decide)
  obtain ⟨c3, c4⟩ := take_at (bs := cs) (A := bitsN 15 32764 ++ bitsN 1 (sg V) ++ bitsN 4 cb ++ bitsN 4 cr ++ bitsN 4 cm) (a := 28) (k := 3) (v := cD) (B := bitsN 1 0 ++ (bitsOf (U.cd nn) ++ (bitsN R1.s X1 ++ (bitsN R2.s X2 ++ bitsN 8 S)))) (by rw [hbits]; simp only [List.append_assoc]) (by simp [bitsN_len]) (by omega) (by decide)
  obtain ⟨c5, c6⟩ := take_at (bs := cs) (A := bitsN 15 32764 ++ bitsN 1 (sg V) ++ bitsN 4 cb ++ bitsN 4 cr ++ bitsN 4 cm ++ bitsN 3 cD) (a := 31) (k := 1) (v := 0) (B := bitsOf (U.cd nn) ++ (bitsN R1.s X1 ++ (bitsN R2.s X2 ++ bitsN 8 S))) (by rw [hbits]; simp only [List.append_assoc]) (by simp [bitsN_len]) (by decide) (by decide)
  obtain ⟨d1, d2⟩ := take_at (bs := cs) (A := bitsN 15 32764 ++ bitsN 1 (sg V) ++ bitsN 4 cb ++ bitsN 4 cr ++ bitsN 4 cm ++ bitsN 3 cD ++ bitsN 1 0 ++ bitsOf (U.cd nn)) (a := 32 + 8 * U.szOf nn) (k := R1.s) (v := X1) (B := bitsN R2.s X2 ++ bitsN 8 S) (by rw [hbits]; simp only [List.append_assoc]) (by simp only [List.length_append, bitsN_len, hcl]) hx1 hs1
  obtain ⟨e1, e2⟩ := take_at (bs := cs) (A := bitsN 15 32764 ++ bitsN 1 (sg V) ++ bitsN 4 cb ++ bitsN 4 cr ++ bitsN 4 cm ++ bitsN 3 cD ++ bitsN 1 0 ++ bitsOf (U.cd nn) ++ bitsN R1.s X1) (a := 32 + 8 * U.szOf nn + R1.s) (k := R2.s) (v := X2) (B := bitsN 8 S) (by rw [hbits]) (by simp only [List.length_append, bitsN_len, hcl]) hx2 hs2
  obtain ⟨f1, f2⟩ := take_at (bs := cs) (A := bitsN 15 32764 ++ bitsN 1 (sg V) ++ bitsN 4 cb ++ bitsN 4 cr ++ bitsN 4 cm ++ bitsN 3 cD ++ bitsN 1 0 ++ bitsOf (U.cd nn) ++ bitsN R1.s X1 ++ bitsN R2.s X2) (a := 32 + 8 * U.szOf nn + R1.s + R2.s) (k := 0) (v := 0) (B := bitsN 8 S) (by rw [hbits]; simp [bitsN]) (by simp only [List.length_append, bitsN_len, hcl]) (by decide) (by decide)
  obtain ⟨g1, g2⟩ := take_at (bs := cs) (A := bitsN 15 32764 ++ bitsN 1 (sg V) ++ bitsN 4 cb ++ bitsN 4 cr ++ bitsN 4 cm ++ bitsN 3 cD ++ bitsN 1 0 ++ bitsOf (U.cd nn) ++ bitsN R1.s X1 ++ bitsN R2.s X2) (a := 32 + 8 * U.szOf nn + R1.s + R2.s) (k := 8) (v := S) (B := []) (by rw [hbits]; simp) (by simp only [List.length_append, bitsN_len, hcl]) hS (by decide)
  have vV : rV cs = V := by
    unfold rV
    rw [show takeR cs 15 1 = (sg V : Nat) from a6]
    unfold sg
    cases V <;> decide
  have vR1 : rR1 cs = R1 := by rw [← hR1]; exact congrArg (rowOf bT) b2
  have vR2 : rR2 cs = R2 := by rw [← hR2]; exact congrArg (rowOf rT) b4
  have vR3 : rR3 cs = R3 := by rw [← hR3]; exact congrArg (rowOf dT) c4
  have vP0 : rP0 cs = 32 + 8 * U.szOf nn := by unfold rP0; rw [gS0]
  have vP1 : rP1 cs = 32 + 8 * U.szOf nn + R1.s := by unfold rP1; rw [vP0, vR1]
  have vP2 : rP2 cs = 32 + 8 * U.szOf nn + R1.s + R2.s := by unfold rP2; rw [vP1, vR2]
  have vP3 : rP3 cs = 32 + 8 * U.szOf nn + R1.s + R2.s := by unfold rP3; rw [vP2, vR3, hds]; rfl
  have hlen : 32 + 8 * U.szOf nn + R1.s + R2.s + 8 = 8 * cs.length := by
    have := congrArg List.length hbits
    simp only [List.length_append, bitsN_len, hcl, bitsOf_len] at this
    omega
  have htk : cs.take (rP3 cs / 8) = hbB h := by
    rw [vP3, show (32 + 8 * U.szOf nn + R1.s + R2.s) / 8 = (hbB h).length from by omega, hw, List.take_left' rfl]
  refine ⟨⟨⟨a1, a2, a3, a4, a5⟩, ⟨b1, b3, by rw [vR1]; exact kb.1, by rw [vR2]; exact kr.1⟩, ⟨c1, c3, by rw [show takeR cs 24 4 = _ from c2]; exact kmo, by rw [vR3]; exact kd.1, c5, c6⟩, ⟨gE0, by rw [vV, gN0]; exact km⟩, ?_, ?_, ?_, ?_⟩, ?_, by rw [vP3]; exact hlen⟩
  · rw [vP0, vR1]; exact ⟨d1, by rw [d2]; exact u2⟩
  · rw [vP1, vR2]; exact ⟨e1, by rw [e2]; exact u4⟩
  · rw [vP2, vR3, hds]; exact ⟨f1, by rw [f2]; exact u6⟩
  · refine ⟨by rw [vP3]; exact g1, ?_⟩
    rw [htk, hSe, vP3]
    exact g2
  · unfold hdX toV
    rw [vV, gN0, vP0, vP1, vP2, vR1, vR2, vR3, hds, show takeR cs 16 4 = _ from b2, show takeR cs 20 4 = _ from b4, show takeR cs 24 4 = _ from c2, show takeR cs 28 3 = _ from c4, d2, e2, f2, u1, u3, u5]
    exact hh
end Go.Proofs.YteahiigfclabfaaDoor.H
