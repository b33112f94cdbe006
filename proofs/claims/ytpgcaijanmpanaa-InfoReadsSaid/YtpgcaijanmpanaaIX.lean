/-
  Read: the info that bytes are: its walk.
-/
import Derived.Test.YtpgcaijanmpanaaIV
namespace Go.Proofs.Ytpgcaijanmpanaa
open Go.RowKit Go.Shelf

theorem step_copy_sum {w : World} {ops : Array Oper} {o : Oper} {a : Act} {Q : Exit → Act → World → Prop} {K : Act → World → Prop} {E : Prop} (hgd : o.guard = none) (d s : Operand)
    (ho : o.op = .call { callee := .builtin .copy, args := #[d, s], argTypes := #[27, 27] }) (ad : Addr) (sCap g : Nat) (i : Nf) (hi : SumOk i.s) (bs : List Nat) (hl : bs.length = 16)
    (hd : a.eval d = .slice (some ⟨g, 8, none⟩) 16 16) (hs : a.eval s = .slice (some ad) 16 sCap) (hg : Box w g 26 (nfc i)) (hsrc : Src w (.slice (some ad) 16 sCap) bs)
    (h : ∀ w', Hid (Box w' g 26 (nfc { i with s := bs })) → Only (Just g) w w' → K (a.put o.dst (goInt 16)) w') :
    if Region.wanted o (yielded ops a.tmps) = true then Oper.wp Try.prog o a w K Q else E := by
  rw [if_pos (by simp [Region.wanted, hgd])]
  have h24 := nfc_size hi
  have hrun := run_copy_row (P := Try.prog) w 27 27 o.type 5 g 8 16 16 ad 16 sCap (nfc i) 26 (bs.map byt) Try.underlying27 Try.size_byte' hg (by simpa using hl) (fun j v hv => by
    rw [List.getElem?_map] at hv
    obtain ⟨y, hy, rfl⟩ := Option.map_eq_some_iff.1 hv
    obtain ⟨hj, rfl⟩ := List.getElem?_eq_some_iff.1 hy
    obtain ⟨ad', e, hc⟩ := hsrc.at_ hj
    injection e with e
    subst e
    exact hc) (by rw [h24, List.length_map, hl]; decide) (byt_one bs)
  have hnew : ((nfc i).toList.take 8 ++ bs.map byt ++ (nfc i).toList.drop (8 + (bs.map byt).length)).toArray = nfc { i with s := bs } := by
    have e1 : (nfc i).toList = [iv i.r, iv i.c, iv i.d, iv i.mb, iv i.xb, iv i.mf, iv i.xf, iv i.t] ++ i.s.map byt := rfl
    have t8 : ([iv i.r, iv i.c, iv i.d, iv i.mb, iv i.xb, iv i.mf, iv i.xf, iv i.t] ++ i.s.map byt).take 8 = [iv i.r, iv i.c, iv i.d, iv i.mb, iv i.xb, iv i.mf, iv i.xf, iv i.t] := rfl
    rw [e1, t8, List.drop_of_length_le (by simp [hl, hi.1])]
    simp [nfc, nfL]
  rw [hnew, List.length_map, hl] at hrun
  unfold Oper.wp
  simp [execOp, ho, resolve, invoke, builtin, hd, hs, hrun, Result.andThen]
  exact h _ (Lib.hid (by
    have := setRow_heap w g (nfc i) (nfc { i with s := bs }) 26 (0, 0) hg
    exact this)) ⟨rfl, rfl, rfl, by simp [World.setRow], fun k _ hk => setRow_other w g k _ hk⟩
set_option maxRecDepth 100000 in
set_option maxHeartbeats 8000000 in
theorem taken_any {w : World} {c : Nat} {ad : Addr} {bs : List Nat} (hs : Src w (.slice (some ad) 34 c) bs) (hc : 34 ≤ c) :
    Calls Try.prog 26 #[.slice (some ad) 34 c] w fun e w' => OfR w (rdI bs) e w' := by
  have hlen := hs.len
  have hb : ∀ x ∈ bs, x < 256 := hs.lt
  have hv : ∀ (i m : Nat), i + m ≤ 34 → vl ((bs.drop i).take m) < 2 ^ (8 * m) := fun i m h => by
    have := vl_lt ((bs.drop i).take m) (fun x hx => hb x (List.mem_of_mem_drop (List.mem_of_mem_take hx)))
    rwa [show ((bs.drop i).take m).length = m by simp; omega] at this
  have v0 := hv 0 2 (by decide)
  have v1 := hv 2 2 (by decide)
  have v2 := hv 4 3 (by decide)
  have v3 := hv 7 3 (by decide)
  have v4 := hv 10 8 (by decide)
  rw [List.drop_zero] at v0
  rw [show (2 : Nat) ^ (8 * 2) = 65536 by decide] at v0 v1
  rw [show (2 : Nat) ^ (8 * 3) = 16777216 by decide] at v2 v3
  rw [show (2 : Nat) ^ (8 * 8) = 18446744073709551616 by decide] at v4
  have HF : Hid (rdI bs = ⟨((vl ((bs.drop 10).take 8) / 68719476736 / 32 / 8 : Nat) : Int), ((vl ((bs.drop 10).take 8) / 68719476736 / 32 % 8 : Nat) : Int) + 1, ((vl ((bs.drop 10).take 8) / 68719476736 % 32 : Nat) : Int) + 1, (vl (bs.take 2) : Nat), (vl ((bs.drop 2).take 2) : Nat), (vl ((bs.drop 4).take 3) : Nat), (vl ((bs.drop 7).take 3) : Nat), (vl ((bs.drop 10).take 8) % 68719476736 : Nat), bs.drop 18⟩) := Lib.hid (by
    unfold rdI
    rw [Nat.div_div_eq_div_mul, Nat.div_div_eq_div_mul]
    simp only [Nf.mk.injEq, and_true]
    refine ⟨?_, ?_, ?_⟩ <;> first | trivial | rfl | omega)
  have HDr : Hid ((bs.drop 2).drop 2 = bs.drop 4 ∧ (bs.drop 4).drop 3 = bs.drop 7 ∧ (bs.drop 7).drop 3 = bs.drop 10 ∧ (bs.drop 10).drop 8 = bs.drop 18) := Lib.hid (by simp [List.drop_drop])
  have H16 : Hid ((bs.drop 18).length = 16) := Lib.hid (by rw [List.length_drop, ← hlen])
  have HX : Hid (SumOk (rdI bs).s) := Lib.hid ⟨by show (bs.drop 18).length = 16; rw [List.length_drop, ← hlen], fun x hx => hb x (List.mem_of_mem_drop hx)⟩
  have hadb : ad.block < w.heap.size := by
    obtain ⟨ad', e, hx⟩ := hs.at_ (k := 0) (by omega)
    injection e with e
    subst e
    have := World.block_lt_of_cell? w _ hx
    rwa [add_block] at this
  obtain ⟨X, hX⟩ : ∃ X, rdI bs = X := ⟨_, rfl⟩
  rw [hX] at HF HX ⊢
  have a1 := (Only.refl Nix w).alloc (.cells #[.slice (some ad) 34 c] 27)
  have b1 := Box.new w 27 #[.slice (some ad) 34 c]
  obtain ⟨W1, hW1⟩ : ∃ W1, w.alloc (.cells #[.slice (some ad) 34 c] 27) = W1 := ⟨_, rfl⟩
  rw [hW1] at a1 b1
  have a2 := a1.alloc (.cells zC 26)
  have b1' := b1.alloc (.cells zC 26)
  have b2 := Box.new W1 26 zC
  obtain ⟨W2, hW2⟩ : ∃ W2, W1.alloc (.cells zC 26) = W2 := ⟨_, rfl⟩
  rw [hW2] at a2 b1' b2
  have hl1 := b1.lt
  have hg : w.heap.size ≠ W1.heap.size := by omega
  have hle : w.heap.size ≤ W1.heap.size := by omega
  have hne : ad.block ≠ w.heap.size := by omega
  have hne2 : ad.block ≠ W1.heap.size := by omega
  have hen : ∀ args w, (callFunc 38 args).run Try.prog w = .ok (.enter 38 args) w := enters_of Try.func38 (by kernel_rfl) rfl
  have hen2 : ∀ args w, (callFunc 39 args).run Try.prog w = .ok (.enter 39 args) w := enters_of Try.func39 (by kernel_rfl) rfl
  have HB := Lib.hid b1'
  have HC := Lib.hid (show Box W2 W1.heap.size 26 (nfc ⟨0, 0, 0, 0, 0, 0, 0, 0, zS⟩) from b2)
  have HO := Lib.hid a2
  have HP0 := Lib.hid (take_any 2 b1' (hs.nix a2) (by decide) (by decide) hc hne)
  have HG := Lib.hid hg
  have HLe := Lib.hid hle
  have HNe := Lib.hid hne
  have Hadb := Lib.hid hadb
  clear hs hlen hb hv hX a1 b1 a2 b1' b2 hl1 hg hle hne hne2 hadb
  go_enter Try.func26, Try.ntmps26
  go_wp2_with fail
  refine (HP0.out).mono ?_
  rintro e y0 ⟨ad1, rfl, hB0, hS0, hA0, k0⟩
  obtain ⟨c1, hc1⟩ : ∃ z, c - 2 = z := ⟨_, rfl⟩
  rw [hc1] at hB0 hS0
  have hcc1 : 32 ≤ c1 := by omega
  have hC0 := HC.out.only k0 (fun e => HG.out e.symm)
  have hO0 := HO.out.then k0 (fun i e => .inr (by rw [show i = _ from e]; exact Nat.le_refl _))
  obtain ⟨V0, hV0⟩ : ∃ z, vl (bs.take 2) = z := ⟨_, rfl⟩
  rw [hV0] at v0 HF ⊢
  have hc := (hC0.cell 3).trans (nfc_3 _)
  have hf := hC0.frozen 3
  have hC0' : Box (y0.setCell ⟨W1.heap.size, 3, none⟩ (iv (V0 : Int))) W1.heap.size 26 (nfc ⟨0, 0, 0, (V0 : Int), 0, 0, 0, 0, zS⟩) := hC0.put 3 (iv (V0 : Int))
  have hB0' := hB0.off (p := ⟨W1.heap.size, 3, none⟩) HG.out (iv (V0 : Int))
  have hO0' := hO0.setCell (p := ⟨W1.heap.size, 3, none⟩) (.inr HLe.out) (iv (V0 : Int))
  have hS0' := hS0.only ((Only.refl (Just W1.heap.size) y0).setCell (p := ⟨W1.heap.size, 3, none⟩) (.inl rfl) (iv (V0 : Int))) (fun i _ hi ad9 n9 c9 e9 => by injection e9 with e9 _ _; injection e9 with e9; rw [← e9, hA0, show i = _ from hi]; have := Hadb.out; have := HLe.out; omega)
  obtain ⟨Y0, hY0⟩ : ∃ Y, y0.setCell ⟨W1.heap.size, 3, none⟩ (iv (V0 : Int)) = Y := ⟨_, rfl⟩
  rw [hY0] at hC0' hB0' hO0' hS0'
  have HO0 := Lib.hid hO0'
  have HC0 := Lib.hid hC0'
  have HP1 := Lib.hid (take_any 2 hB0' hS0' (by decide) (by decide) (by omega) (by rw [hA0]; exact HNe.out))
  rw [hA0] at HP1
  have HA0 := Lib.hid hA0
  clear hB0 hS0 hA0 k0 hC0 hO0 hC0' hB0' hO0' hS0' hV0
  go_wp2_with fail
  clear hc hf hY0
  refine (HP1.out).mono ?_
  rintro e y1 ⟨ad2, rfl, hB1, hS1, hA1, k1⟩
  rw [HDr.out.1] at hS1
  obtain ⟨c2, hc2⟩ : ∃ z, c1 - 2 = z := ⟨_, rfl⟩
  rw [hc2] at hB1 hS1
  have hcc2 : 30 ≤ c2 := by omega
  have hC1 := HC0.out.only k1 (fun e => HG.out e.symm)
  have hO1 := HO0.out.then k1 (fun i e => .inr (by rw [show i = _ from e]; exact Nat.le_refl _))
  obtain ⟨V1, hV1⟩ : ∃ z, vl ((bs.drop 2).take 2) = z := ⟨_, rfl⟩
  rw [hV1] at v1 HF ⊢
  have hc := (hC1.cell 4).trans (nfc_4 _)
  have hf := hC1.frozen 4
  have hC1' : Box (y1.setCell ⟨W1.heap.size, 4, none⟩ (iv (V1 : Int))) W1.heap.size 26 (nfc ⟨0, 0, 0, (V0 : Int), (V1 : Int), 0, 0, 0, zS⟩) := hC1.put 4 (iv (V1 : Int))
  have hB1' := hB1.off (p := ⟨W1.heap.size, 4, none⟩) HG.out (iv (V1 : Int))
  have hO1' := hO1.setCell (p := ⟨W1.heap.size, 4, none⟩) (.inr HLe.out) (iv (V1 : Int))
  have hS1' := hS1.only ((Only.refl (Just W1.heap.size) y1).setCell (p := ⟨W1.heap.size, 4, none⟩) (.inl rfl) (iv (V1 : Int))) (fun i _ hi ad9 n9 c9 e9 => by injection e9 with e9 _ _; injection e9 with e9; rw [← e9, hA1, show i = _ from hi]; have := Hadb.out; have := HLe.out; omega)
  obtain ⟨Y1, hY1⟩ : ∃ Y, y1.setCell ⟨W1.heap.size, 4, none⟩ (iv (V1 : Int)) = Y := ⟨_, rfl⟩
  rw [hY1] at hC1' hB1' hO1' hS1'
  have HO1 := Lib.hid hO1'
  have HC1 := Lib.hid hC1'
  have HP2 := Lib.hid (take_any 3 hB1' hS1' (by decide) (by decide) (by omega) (by rw [hA1]; exact HNe.out))
  rw [hA1] at HP2
  have HA1 := Lib.hid hA1
  clear hB1 hS1 hA1 k1 hC1 hO1 hC1' hB1' hO1' hS1' hV1
  go_wp2_with fail
  clear hc hf hY1
  refine (HP2.out).mono ?_
  rintro e y2 ⟨ad3, rfl, hB2, hS2, hA2, k2⟩
  rw [HDr.out.2.1] at hS2
  obtain ⟨c3, hc3⟩ : ∃ z, c2 - 3 = z := ⟨_, rfl⟩
  rw [hc3] at hB2 hS2
  have hcc3 : 27 ≤ c3 := by omega
  have hC2 := HC1.out.only k2 (fun e => HG.out e.symm)
  have hO2 := HO1.out.then k2 (fun i e => .inr (by rw [show i = _ from e]; exact Nat.le_refl _))
  obtain ⟨V2, hV2⟩ : ∃ z, vl ((bs.drop 4).take 3) = z := ⟨_, rfl⟩
  rw [hV2] at v2 HF ⊢
  have hc := (hC2.cell 5).trans (nfc_5 _)
  have hf := hC2.frozen 5
  have hC2' : Box (y2.setCell ⟨W1.heap.size, 5, none⟩ (iv (V2 : Int))) W1.heap.size 26 (nfc ⟨0, 0, 0, (V0 : Int), (V1 : Int), (V2 : Int), 0, 0, zS⟩) := hC2.put 5 (iv (V2 : Int))
  have hB2' := hB2.off (p := ⟨W1.heap.size, 5, none⟩) HG.out (iv (V2 : Int))
  have hO2' := hO2.setCell (p := ⟨W1.heap.size, 5, none⟩) (.inr HLe.out) (iv (V2 : Int))
  have hS2' := hS2.only ((Only.refl (Just W1.heap.size) y2).setCell (p := ⟨W1.heap.size, 5, none⟩) (.inl rfl) (iv (V2 : Int))) (fun i _ hi ad9 n9 c9 e9 => by injection e9 with e9 _ _; injection e9 with e9; rw [← e9, hA2, show i = _ from hi]; have := Hadb.out; have := HLe.out; omega)
  obtain ⟨Y2, hY2⟩ : ∃ Y, y2.setCell ⟨W1.heap.size, 5, none⟩ (iv (V2 : Int)) = Y := ⟨_, rfl⟩
  rw [hY2] at hC2' hB2' hO2' hS2'
  have HO2 := Lib.hid hO2'
  have HC2 := Lib.hid hC2'
  have HP3 := Lib.hid (take_any 3 hB2' hS2' (by decide) (by decide) (by omega) (by rw [hA2]; exact HNe.out))
  rw [hA2] at HP3
  have HA2 := Lib.hid hA2
  clear hB2 hS2 hA2 k2 hC2 hO2 hC2' hB2' hO2' hS2' hV2
  go_wp2_with fail
  clear hc hf hY2
  refine (HP3.out).mono ?_
  rintro e y3 ⟨ad4, rfl, hB3, hS3, hA3, k3⟩
  rw [HDr.out.2.2.1] at hS3
  obtain ⟨c4, hc4⟩ : ∃ z, c3 - 3 = z := ⟨_, rfl⟩
  rw [hc4] at hB3 hS3
  have hcc4 : 24 ≤ c4 := by omega
  have hC3 := HC2.out.only k3 (fun e => HG.out e.symm)
  have hO3 := HO2.out.then k3 (fun i e => .inr (by rw [show i = _ from e]; exact Nat.le_refl _))
  obtain ⟨V3, hV3⟩ : ∃ z, vl ((bs.drop 7).take 3) = z := ⟨_, rfl⟩
  rw [hV3] at v3 HF ⊢
  have hc := (hC3.cell 6).trans (nfc_6 _)
  have hf := hC3.frozen 6
  have hC3' : Box (y3.setCell ⟨W1.heap.size, 6, none⟩ (iv (V3 : Int))) W1.heap.size 26 (nfc ⟨0, 0, 0, (V0 : Int), (V1 : Int), (V2 : Int), (V3 : Int), 0, zS⟩) := hC3.put 6 (iv (V3 : Int))
  have hB3' := hB3.off (p := ⟨W1.heap.size, 6, none⟩) HG.out (iv (V3 : Int))
  have hO3' := hO3.setCell (p := ⟨W1.heap.size, 6, none⟩) (.inr HLe.out) (iv (V3 : Int))
  have hS3' := hS3.only ((Only.refl (Just W1.heap.size) y3).setCell (p := ⟨W1.heap.size, 6, none⟩) (.inl rfl) (iv (V3 : Int))) (fun i _ hi ad9 n9 c9 e9 => by injection e9 with e9 _ _; injection e9 with e9; rw [← e9, hA3, show i = _ from hi]; have := Hadb.out; have := HLe.out; omega)
  obtain ⟨Y3, hY3⟩ : ∃ Y, y3.setCell ⟨W1.heap.size, 6, none⟩ (iv (V3 : Int)) = Y := ⟨_, rfl⟩
  rw [hY3] at hC3' hB3' hO3' hS3'
  have HO3 := Lib.hid hO3'
  have HC3 := Lib.hid hC3'
  have HP4 := Lib.hid (take_any 8 hB3' hS3' (by decide) (by decide) (by omega) (by rw [hA3]; exact HNe.out))
  rw [hA3] at HP4
  have HA3 := Lib.hid hA3
  clear hB3 hS3 hA3 k3 hC3 hO3 hC3' hB3' hO3' hS3' hV3
  go_wp2_with fail
  clear hc hf hY3
  refine (HP4.out).mono ?_
  rintro e y4 ⟨ad5, rfl, hB4, hS4, hA4, k4⟩
  rw [HDr.out.2.2.2] at hS4
  obtain ⟨c5, hc5⟩ : ∃ z, c4 - 8 = z := ⟨_, rfl⟩
  rw [hc5] at hB4 hS4
  have hcc5 : 16 ≤ c5 := by omega
  have hC4 := HC3.out.only k4 (fun e => HG.out e.symm)
  have hO4 := HO3.out.then k4 (fun i e => .inr (by rw [show i = _ from e]; exact Nat.le_refl _))
  obtain ⟨V4, hV4⟩ : ∃ z, vl ((bs.drop 10).take 8) = z := ⟨_, rfl⟩
  rw [hV4] at v4 HF ⊢
  have hC4' := hC4.alloc (.cells #[.int .u64 (V4 : Int)] 57)
  have hB4' := hB4.alloc (.cells #[.int .u64 (V4 : Int)] 57)
  have hO4' := hO4.alloc (.cells #[.int .u64 (V4 : Int)] 57)
  have hS4' := hS4.nix ((Only.refl Nix y4).alloc (.cells #[.int .u64 (V4 : Int)] 57))
  have hD4 := Box.new y4 57 #[.int .u64 (V4 : Int)]
  have hg4 : W1.heap.size < y4.heap.size := hC4.lt
  have hg5 : w.heap.size < y4.heap.size := hB4.lt
  obtain ⟨Y4, hY4⟩ : ∃ Y, y4.alloc (.cells #[.int .u64 (V4 : Int)] 57) = Y := ⟨_, rfl⟩
  rw [hY4] at hC4' hB4' hO4' hS4' hD4
  have HO4 := Lib.hid hO4'
  have HC4 := Lib.hid hC4'
  have HB4 := Lib.hid hB4'
  have HS4 := Lib.hid hS4'
  have HA4 := Lib.hid hA4
  have HQ0 := Lib.hid (last_36 V4 hD4 (by omega))
  clear hB4 hS4 hA4 k4 hC4 hO4 hC4' hB4' hO4' hS4' hD4 hV4
  go_wp2_with fail
  clear hY4
  refine (HQ0.out).mono ?_
  rintro e z0 ⟨rfl, d0, k0⟩
  obtain ⟨T0, hT0⟩ : ∃ z, V4 % 68719476736 = z := ⟨_, rfl⟩
  have hTb0 : T0 < 68719476736 := by rw [← hT0]; exact Nat.mod_lt _ (by decide)
  obtain ⟨S0, hS0⟩ : ∃ z, V4 / 68719476736 = z := ⟨_, rfl⟩
  have hSb0 : S0 ≤ 268435455 := by omega
  rw [hS0] at d0 HF
  rw [hT0] at HF ⊢
  have hC := HC4.out.only k0 (fun e => Nat.ne_of_lt hg4 e)
  have hB := HB4.out.only k0 (fun e => Nat.ne_of_lt hg5 e)
  have hO := HO4.out.then k0 (fun i e => .inr (by rw [show i = _ from e]; omega))
  have hS := HS4.out.only k0 (fun i _ hi ad9 n9 c9 e9 => by injection e9 with e9 _ _; injection e9 with e9; rw [← e9, HA4.out, show i = _ from hi]; have := Hadb.out; omega)
  have hc := (hC.cell 7).trans (nfc_7 _)
  have hf := hC.frozen 7
  have hC' : Box (z0.setCell ⟨W1.heap.size, 7, none⟩ (iv (T0 : Int))) W1.heap.size 26 (nfc ⟨0, 0, 0, (V0 : Int), (V1 : Int), (V2 : Int), (V3 : Int), (T0 : Int), zS⟩) := hC.put 7 (iv (T0 : Int))
  have hB' := hB.off (p := ⟨W1.heap.size, 7, none⟩) HG.out (iv (T0 : Int))
  have hO' := hO.setCell (p := ⟨W1.heap.size, 7, none⟩) (.inr HLe.out) (iv (T0 : Int))
  have hD' := d0.off (p := ⟨W1.heap.size, 7, none⟩) (Nat.ne_of_gt hg4) (iv (T0 : Int))
  have hS' := hS.only ((Only.refl (Just W1.heap.size) z0).setCell (p := ⟨W1.heap.size, 7, none⟩) (.inl rfl) (iv (T0 : Int))) (fun i _ hi ad9 n9 c9 e9 => by injection e9 with e9 _ _; injection e9 with e9; rw [← e9, HA4.out, show i = _ from hi]; have := Hadb.out; have := HLe.out; omega)
  obtain ⟨Z0, hZ0⟩ : ∃ Y, z0.setCell ⟨W1.heap.size, 7, none⟩ (iv (T0 : Int)) = Y := ⟨_, rfl⟩
  rw [hZ0] at hC' hB' hO' hD' hS'
  have HOz0 := Lib.hid hO'
  have HCz0 := Lib.hid hC'
  have HBz0 := Lib.hid hB'
  have HSz0 := Lib.hid hS'
  have HQ1 := Lib.hid (last_5 S0 hD' (by omega))
  clear hC hB hO hS hC' hB' hO' hD' hS' k0 d0 hT0 hS0 HQ0
  go_wp2_with fail
  clear hc hf hZ0
  refine (HQ1.out).mono ?_
  rintro e z1 ⟨rfl, d1, k1⟩
  obtain ⟨T1, hT1⟩ : ∃ z, S0 % 32 = z := ⟨_, rfl⟩
  have hTb1 : T1 < 32 := by rw [← hT1]; exact Nat.mod_lt _ (by decide)
  obtain ⟨S1, hS1⟩ : ∃ z, S0 / 32 = z := ⟨_, rfl⟩
  have hSb1 : S1 ≤ 8388607 := by omega
  rw [hS1] at d1 HF
  rw [hT1] at HF ⊢
  have hC := HCz0.out.only k1 (fun e => Nat.ne_of_lt hg4 e)
  have hB := HBz0.out.only k1 (fun e => Nat.ne_of_lt hg5 e)
  have hO := HOz0.out.then k1 (fun i e => .inr (by rw [show i = _ from e]; omega))
  have hS := HSz0.out.only k1 (fun i _ hi ad9 n9 c9 e9 => by injection e9 with e9 _ _; injection e9 with e9; rw [← e9, HA4.out, show i = _ from hi]; have := Hadb.out; omega)
  have hc := (hC.cell 2).trans (nfc_2 _)
  have hf := hC.frozen 2
  have hC' : Box (z1.setCell ⟨W1.heap.size, 2, none⟩ (iv ((T1 : Int) + 1))) W1.heap.size 26 (nfc ⟨0, 0, ((T1 : Int) + 1), (V0 : Int), (V1 : Int), (V2 : Int), (V3 : Int), (T0 : Int), zS⟩) := hC.put 2 (iv ((T1 : Int) + 1))
  have hB' := hB.off (p := ⟨W1.heap.size, 2, none⟩) HG.out (iv ((T1 : Int) + 1))
  have hO' := hO.setCell (p := ⟨W1.heap.size, 2, none⟩) (.inr HLe.out) (iv ((T1 : Int) + 1))
  have hD' := d1.off (p := ⟨W1.heap.size, 2, none⟩) (Nat.ne_of_gt hg4) (iv ((T1 : Int) + 1))
  have hS' := hS.only ((Only.refl (Just W1.heap.size) z1).setCell (p := ⟨W1.heap.size, 2, none⟩) (.inl rfl) (iv ((T1 : Int) + 1))) (fun i _ hi ad9 n9 c9 e9 => by injection e9 with e9 _ _; injection e9 with e9; rw [← e9, HA4.out, show i = _ from hi]; have := Hadb.out; have := HLe.out; omega)
  obtain ⟨Z1, hZ1⟩ : ∃ Y, z1.setCell ⟨W1.heap.size, 2, none⟩ (iv ((T1 : Int) + 1)) = Y := ⟨_, rfl⟩
  rw [hZ1] at hC' hB' hO' hD' hS'
  have HOz1 := Lib.hid hO'
  have HCz1 := Lib.hid hC'
  have HBz1 := Lib.hid hB'
  have HSz1 := Lib.hid hS'
  have HQ2 := Lib.hid (last_3 S1 hD' (by omega))
  clear hC hB hO hS hC' hB' hO' hD' hS' k1 d1 hT1 hS1 HQ1
  go_wp2_with fail
  clear hc hf hZ1
  refine (HQ2.out).mono ?_
  rintro e z2 ⟨rfl, d2, k2⟩
  obtain ⟨T2, hT2⟩ : ∃ z, S1 % 8 = z := ⟨_, rfl⟩
  have hTb2 : T2 < 8 := by rw [← hT2]; exact Nat.mod_lt _ (by decide)
  obtain ⟨S2, hS2⟩ : ∃ z, S1 / 8 = z := ⟨_, rfl⟩
  have hSb2 : S2 ≤ 1048575 := by omega
  rw [hS2] at d2 HF
  rw [hT2] at HF ⊢
  have hC := HCz1.out.only k2 (fun e => Nat.ne_of_lt hg4 e)
  have hB := HBz1.out.only k2 (fun e => Nat.ne_of_lt hg5 e)
  have hO := HOz1.out.then k2 (fun i e => .inr (by rw [show i = _ from e]; omega))
  have hS := HSz1.out.only k2 (fun i _ hi ad9 n9 c9 e9 => by injection e9 with e9 _ _; injection e9 with e9; rw [← e9, HA4.out, show i = _ from hi]; have := Hadb.out; omega)
  have hc := (hC.cell 1).trans (nfc_1 _)
  have hf := hC.frozen 1
  have hC' : Box (z2.setCell ⟨W1.heap.size, 1, none⟩ (iv ((T2 : Int) + 1))) W1.heap.size 26 (nfc ⟨0, ((T2 : Int) + 1), ((T1 : Int) + 1), (V0 : Int), (V1 : Int), (V2 : Int), (V3 : Int), (T0 : Int), zS⟩) := hC.put 1 (iv ((T2 : Int) + 1))
  have hB' := hB.off (p := ⟨W1.heap.size, 1, none⟩) HG.out (iv ((T2 : Int) + 1))
  have hO' := hO.setCell (p := ⟨W1.heap.size, 1, none⟩) (.inr HLe.out) (iv ((T2 : Int) + 1))
  have hD' := d2.off (p := ⟨W1.heap.size, 1, none⟩) (Nat.ne_of_gt hg4) (iv ((T2 : Int) + 1))
  have hS' := hS.only ((Only.refl (Just W1.heap.size) z2).setCell (p := ⟨W1.heap.size, 1, none⟩) (.inl rfl) (iv ((T2 : Int) + 1))) (fun i _ hi ad9 n9 c9 e9 => by injection e9 with e9 _ _; injection e9 with e9; rw [← e9, HA4.out, show i = _ from hi]; have := Hadb.out; have := HLe.out; omega)
  obtain ⟨Z2, hZ2⟩ : ∃ Y, z2.setCell ⟨W1.heap.size, 1, none⟩ (iv ((T2 : Int) + 1)) = Y := ⟨_, rfl⟩
  rw [hZ2] at hC' hB' hO' hD' hS'
  have HOz2 := Lib.hid hO'
  have HCz2 := Lib.hid hC'
  have HBz2 := Lib.hid hB'
  have HSz2 := Lib.hid hS'
  have hd0 := hD'.cell 0
  simp only [List.getElem?_toArray, List.getElem?_cons_zero] at hd0
  have hr := (hC'.cell 0).trans (nfc_0 _)
  have hrf := hC'.frozen 0
  have hC9 : Box (Z2.setCell ⟨W1.heap.size, 0, none⟩ (iv (S2 : Int))) W1.heap.size 26 (nfc ⟨(S2 : Int), ((T2 : Int) + 1), ((T1 : Int) + 1), (V0 : Int), (V1 : Int), (V2 : Int), (V3 : Int), (T0 : Int), zS⟩) := hC'.put 0 (iv (S2 : Int))
  have hB9 := hB'.off (p := ⟨W1.heap.size, 0, none⟩) HG.out (iv (S2 : Int))
  have hO9 := hO'.setCell (p := ⟨W1.heap.size, 0, none⟩) (.inr HLe.out) (iv (S2 : Int))
  have hS9 := hS'.only ((Only.refl (Just W1.heap.size) Z2).setCell (p := ⟨W1.heap.size, 0, none⟩) (.inl rfl) (iv (S2 : Int))) (fun i _ hi ad9 n9 c9 e9 => by injection e9 with e9 _ _; injection e9 with e9; rw [← e9, HA4.out, show i = _ from hi]; have := Hadb.out; have := HLe.out; omega)
  obtain ⟨Z9, hZ9⟩ : ∃ Y, Z2.setCell ⟨W1.heap.size, 0, none⟩ (iv (S2 : Int)) = Y := ⟨_, rfl⟩
  rw [hZ9] at hC9 hB9 hO9 hS9
  have HC9 := Lib.hid hC9
  have HB9 := Lib.hid hB9
  have HO9 := Lib.hid hO9
  have HS9 := Lib.hid hS9
  clear hC9 hB9 hO9 hS9
  clear hC hB hO hS hC' hB' hO' hD' hS' k2 d2 hT2 hS2 HQ2
  go_wp2_with fail
  clear hc hf hZ2
  have hbx := HB9.out.cell 0
  simp only [List.getElem?_toArray, List.getElem?_cons_zero] at hbx
  skip
  go_region_law (refine step_copy_sum rfl (.tmp 44) (.tmp 45) rfl ad5 c5 W1.heap.size ⟨(S2 : Int), ((T2 : Int) + 1), ((T1 : Int) + 1), (V0 : Int), (V1 : Int), (V2 : Int), (V3 : Int), (T0 : Int), zS⟩ sum0_ok (bs.drop 18) H16.out (by simp [Act.eval]) (by simp [Act.eval]) HC9.out.drew (HS9.out.nix ((Only.refl _ _).drew)) ?_; intro wf hBf hof)
  all_goals
    have HCf : Hid (Box wf W1.heap.size 26 (nfc X)) := Lib.hid (by rw [HF.out]; exact hBf.out)
    have HOf := Lib.hid (HO9.out.drew.then hof (fun i e => .inr (by rw [show i = _ from e]; exact HLe.out)))
    clear hBf hof hbx
    go_wp2_with (first
      | (refine wpList_load_info rfl (.tmp 2) rfl W1.heap.size X rfl HCf.out HX.out ?_)
      | (refine wpList_store_info rfl (.tmp 2) (.tmp 47) rfl rfl W1.heap.size X X rfl rfl HCf.out HX.out HX.out ?_)
      | fail)
    intro we hBe hoe
    have HCe := Lib.hid hBe
    have HOe := Lib.hid (HOf.out.then hoe (fun i e => .inr (by rw [show i = _ from e]; exact HLe.out)))
    clear hBe hoe
    go_wp2
    exact bodyPost_ret (v := .agg (nfc X)) (results_info rfl _ _ W1.heap.size X HX.out rfl HCe.out) rfl ⟨rfl, HOe.out⟩
/-- the info that is read -/
def rdA (bs : List Nat) : Nf := if bs.length = 34 ∧ mayI (rdI bs) then rdI bs else nf0
def rdE (bs : List Nat) : Int := if bs.length < 34 then 11 else if 34 < bs.length then 12 else if mayI (rdI bs) then 0 else 10
def RdR (w : World) (bs : List Nat) (e : Ending) (w' : World) : Prop := e = .returned (.tuple #[.agg (nfc (rdA bs)), iv (rdE bs)]) ∧ Only Nix w w'
theorem rd_sum {bs : List Nat} (hl : bs.length = 34) (hb : ∀ x ∈ bs, x < 256) : SumOk (rdI bs).s := ⟨by show (bs.drop 18).length = 16; rw [List.length_drop, hl], fun x hx => hb x (List.mem_of_mem_drop hx)⟩
theorem rdA_sum {bs : List Nat} (hb : ∀ x ∈ bs, x < 256) : SumOk (rdA bs).s := by
  unfold rdA
  split
  · rename_i h
    exact rd_sum h.1 hb
  · exact sum0_ok
theorem results_info2 {fn : Func} {p q : Tmp} (h : fn.results = #[.cell p 26, .tmp q]) (tmps : Array Value) (w : World) (g : Nat) (i : Nf) (hi : SumOk i.s) (v : Value) (hp : tmps.getD p undef = .pointer (some ⟨g, 0, none⟩)) (hq : tmps.getD q undef = v) (hg : Box w g 26 (nfc i)) :
    (results fn tmps).run Try.prog w = .ok (.tuple #[.agg (nfc i), v]) w := by
  have h1 := run_loadVar_row (P := Try.prog) w g 26 26 (nfc i) (0, 0) _ hg Try.underlying26 rfl (by rw [nfc_size hi]; exact Try.size_info)
  have hp' : tmps[p]?.getD undef = .pointer (some ⟨g, 0, none⟩) := by simpa using hp
  have hq' : tmps[q]?.getD undef = v := by simpa using hq
  simp [results, h, hp', hq', asAddr, h1]
set_option maxRecDepth 100000 in
set_option maxHeartbeats 8000000 in
theorem read_any {w : World} {v : Value} {bs : List Nat} (hs : Src w v bs) (hcap : ∀ A n c, v = .slice A n c → n ≤ c) : Calls Try.prog 17 #[v] w fun e w' => RdR w bs e w' := by
  obtain ⟨A, c, rfl⟩ := hs.slice
  have hsm := hs.small
  have hc := hcap _ _ _ rfl
  have a1 := (Only.refl Nix w).alloc (.cells zC 26)
  have b1 := Box.new w 26 zC
  obtain ⟨W1, hW1⟩ : ∃ W1, w.alloc (.cells zC 26) = W1 := ⟨_, rfl⟩
  rw [hW1] at a1 b1
  have HS := Lib.hid (hs.nix a1)
  have HB := Lib.hid (show Box W1 w.heap.size 26 (nfc nf0) from b1)
  have HO := Lib.hid a1
  have hlt := b1.lt
  have hbb : ∀ x ∈ bs, x < 256 := hs.lt
  clear a1 b1 hs hcap
  by_cases h1 : bs.length < 34
  · have e1 : rdE bs = 11 := if_pos h1
    have e2 : rdA bs = nf0 := if_neg (by omega)
    have HR : Hid (∀ w', Only Nix w w' → RdR w bs (.returned (.tuple #[.agg (nfc nf0), iv 11])) w') := Lib.hid (fun w' h => ⟨by rw [e1, e2], h⟩)
    have h1i : (bs.length : Int) < 34 := by omega
    clear e1 e2 hbb
    go_enter Try.func17, Try.ntmps17
    go_wp2_with (first
      | (refine wpList_build_is rfl _ _ rfl (nfc nf0) (by simp; exact built_zero) ?_)
      | (refine wpList_store_info rfl (.tmp 2) (.tmp 9) rfl rfl w.heap.size nf0 nf0 rfl rfl HB.out sum0_ok sum0_ok ?_)
      | fail)
    intro we hBe hoe
    have HCe := Lib.hid hBe
    have HOe := Lib.hid (HO.out.then hoe (fun i e => .inr (by rw [show i = _ from e]; exact Nat.le_refl _)))
    clear hBe hoe
    go_wp2
    exact bodyPost_ret (v := .tuple #[.agg (nfc nf0), iv 11]) (results_info2 rfl _ _ w.heap.size nf0 sum0_ok _ rfl rfl HCe.out) rfl (HR.out _ HOe.out)
  · have h1i : ¬ (bs.length : Int) < 34 := by omega
    by_cases h2 : 34 < bs.length
    · have e1 : rdE bs = 12 := by unfold rdE; rw [if_neg h1, if_pos h2]
      have e2 : rdA bs = nf0 := if_neg (by omega)
      have HR : Hid (∀ w', Only Nix w w' → RdR w bs (.returned (.tuple #[.agg (nfc nf0), iv 12])) w') := Lib.hid (fun w' h => ⟨by rw [e1, e2], h⟩)
      have h2i : (34 : Int) < (bs.length : Int) := by omega
      clear e1 e2 hbb
      go_enter Try.func17, Try.ntmps17
      go_wp2_with (first
        | (refine wpList_build_is rfl _ _ rfl (nfc nf0) (by simp; exact built_zero) ?_)
        | (refine wpList_store_info rfl (.tmp 2) (.tmp 13) rfl rfl w.heap.size nf0 nf0 rfl rfl HB.out sum0_ok sum0_ok ?_)
        | fail)
      intro we hBe hoe
      have HCe := Lib.hid hBe
      have HOe := Lib.hid (HO.out.then hoe (fun i e => .inr (by rw [show i = _ from e]; exact Nat.le_refl _)))
      clear hBe hoe
      go_wp2
      exact bodyPost_ret (v := .tuple #[.agg (nfc nf0), iv 12]) (results_info2 rfl _ _ w.heap.size nf0 sum0_ok _ rfl rfl HCe.out) rfl (HR.out _ HOe.out)
    · have h34 : bs.length = 34 := by omega
      have hE : rdE bs = ckI (rdI bs) := by unfold rdE ckI; rw [if_neg h1, if_neg h2]
      have hX := rd_sum h34 hbb
      have HX := Lib.hid hX
      have hpos : 0 < bs.length := by omega
      obtain ⟨ad, hA, _⟩ := HS.out.at_ hpos
      subst hA
      have HT := Lib.hid (taken_any (by rw [← h34]; exact HS.out) (by omega : 34 ≤ c))
      rw [h34]
      have HR : Hid (∀ w', Only Nix w w' → RdR w bs (.returned (.tuple #[.agg (nfc (rdA bs)), iv (ckI (rdI bs))])) w') := Lib.hid (fun w' h => ⟨by rw [hE], h⟩)
      have HA : Hid (rdA bs = if mayI (rdI bs) then rdI bs else nf0) := Lib.hid (by
        unfold rdA
        by_cases hm : mayI (rdI bs)
        · rw [if_pos ⟨h34, hm⟩, if_pos hm]
        · rw [if_neg (fun h => hm h.2), if_neg hm])
      have HCk : Hid (∀ u, Calls Try.prog 12 #[.agg (nfc (rdI bs))] u fun e w' => e = .returned (iv (ckI (rdI bs))) ∧ Only Nix u w') := Lib.hid (fun u => check_any (rdI bs))
      generalize rdA bs = Y at *
      clear hE hX h1i h1 h2
      by_cases hm : mayI (rdI bs)
      · have e0 : ckI (rdI bs) = 0 := if_pos hm
        have eY : Y = rdI bs := by rw [HA.out, if_pos hm]
        subst eY
        rw [e0] at HCk HR
        clear e0 hm HA
        generalize rdI bs = X at *
        go_enter Try.func17, Try.ntmps17
        go_wp2_with fail
        refine (HT.out).mono ?_
        rintro e w2 ⟨rfl, o2⟩
        have HO2 := Lib.hid (o2.alloc (.cells zC 26))
        have HB2 := Lib.hid ((HB.out.only o2 (fun e => e)).alloc (.cells zC 26))
        have hle2 : W1.heap.size ≤ w2.heap.size := o2.size
        clear o2
        go_wp2_with (first
          | (refine wpList_store_info rfl (.tmp 4) (.tmp 15) rfl rfl w2.heap.size X nf0 rfl rfl (Box.new w2 _ _) HX.out sum0_ok ?_)
          | fail)
        intro u3 hB3 ho3
        have HB3 := Lib.hid hB3
        have HO3 := Lib.hid (HO2.out.then ho3 (fun i e => .inr (by rw [show i = _ from e]; exact hle2)))
        have HR3 := Lib.hid (HB2.out.only ho3 (fun e => by rw [show w.heap.size = w2.heap.size from e] at hlt; omega))
        clear hB3 ho3
        go_wp2_with (first
          | (refine wpList_load_info rfl (.tmp 4) rfl w2.heap.size X rfl HB3.out HX.out ?_)
          | fail)
        refine (HCk.out u3).mono ?_
        rintro e u4 ⟨rfl, o4⟩
        have HB4 := Lib.hid (HB3.out.only o4 (fun e => e))
        have HR4 := Lib.hid (HR3.out.only o4 (fun e => e))
        have HO4 := Lib.hid (HO3.out.trans o4)
        clear o4
        go_wp2_with (first
          | (refine wpList_load_info rfl (.tmp 4) rfl w2.heap.size X rfl HB4.out HX.out ?_)
          | (refine wpList_store_info rfl (.tmp 2) (.tmp 22) rfl rfl w.heap.size X nf0 rfl rfl HR4.out HX.out sum0_ok ?_)
          | fail)
        intro we hBe hoe
        have HCe := Lib.hid hBe
        have HOe := Lib.hid ((HO.out.trans HO4.out).then hoe (fun i e => .inr (by rw [show i = _ from e]; exact Nat.le_refl _)))
        clear hBe hoe
        go_wp2
        exact bodyPost_ret (v := .tuple #[.agg (nfc X), iv 0]) (results_info2 rfl _ _ w.heap.size X HX.out _ rfl rfl HCe.out) rfl (HR.out _ HOe.out)
      · have e0 : ckI (rdI bs) = 10 := if_neg hm
        have eY : Y = nf0 := by rw [HA.out, if_neg hm]
        subst eY
        rw [e0] at HCk HR
        clear e0 hm HA
        generalize rdI bs = X at *
        go_enter Try.func17, Try.ntmps17
        go_wp2_with fail
        refine (HT.out).mono ?_
        rintro e w2 ⟨rfl, o2⟩
        have HO2 := Lib.hid (o2.alloc (.cells zC 26))
        have HB2 := Lib.hid ((HB.out.only o2 (fun e => e)).alloc (.cells zC 26))
        have hle2 : W1.heap.size ≤ w2.heap.size := o2.size
        clear o2
        go_wp2_with (first
          | (refine wpList_store_info rfl (.tmp 4) (.tmp 15) rfl rfl w2.heap.size X nf0 rfl rfl (Box.new w2 _ _) HX.out sum0_ok ?_)
          | fail)
        intro u3 hB3 ho3
        have HB3 := Lib.hid hB3
        have HO3 := Lib.hid (HO2.out.then ho3 (fun i e => .inr (by rw [show i = _ from e]; exact hle2)))
        have HR3 := Lib.hid (HB2.out.only ho3 (fun e => by rw [show w.heap.size = w2.heap.size from e] at hlt; omega))
        clear hB3 ho3
        go_wp2_with (first
          | (refine wpList_load_info rfl (.tmp 4) rfl w2.heap.size X rfl HB3.out HX.out ?_)
          | fail)
        refine (HCk.out u3).mono ?_
        rintro e u4 ⟨rfl, o4⟩
        have HR4 := Lib.hid (HR3.out.only o4 (fun e => e))
        have HO4 := Lib.hid (HO3.out.trans o4)
        clear o4
        go_wp2_with (first
          | (refine wpList_build_is rfl _ _ rfl (nfc nf0) (by simp; exact built_zero) ?_)
          | (refine wpList_store_info rfl (.tmp 2) (.tmp 20) rfl rfl w.heap.size nf0 nf0 rfl rfl HR4.out sum0_ok sum0_ok ?_)
          | fail)
        intro we hBe hoe
        have HCe := Lib.hid hBe
        have HOe := Lib.hid ((HO.out.trans HO4.out).then hoe (fun i e => .inr (by rw [show i = _ from e]; exact Nat.le_refl _)))
        clear hBe hoe
        go_wp2
        exact bodyPost_ret (v := .tuple #[.agg (nfc nf0), iv 10]) (results_info2 rfl _ _ w.heap.size nf0 sum0_ok _ rfl rfl HCe.out) rfl (HR.out _ HOe.out)
end Go.Proofs.Ytpgcaijanmpanaa
