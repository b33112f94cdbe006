/-
  The document's fields and Bytes.
-/
import Derived.Test.YtpgcaijanmpanaaIBB
import Derived.Test.YtpgcaijanmpanaaIU
namespace Go.Proofs.Ytpgcaijanmpanaa
open Go.RowKit Go.Shelf
def fC : Array Value := #[iv 3, iv 16, iv 0, iv 4, iv 16, iv 0, iv 5, iv 24, iv 0, iv 6, iv 24, iv 0, iv 0, iv 20, iv 0, iv 1, iv 3, iv 1, iv 2, iv 5, iv 1, iv 7, iv 36, iv 0]
theorem fC_w (k : Nat) (h : k < 8) : fC[k * 3]? = some (iv (fw k : Int)) ∧ fC[k * 3 + 1]? = some (iv (fb k : Int)) ∧ fC[k * 3 + 2]? = some (iv (fm k : Int)) := by
  rcases (show k = 0 ∨ k = 1 ∨ k = 2 ∨ k = 3 ∨ k = 4 ∨ k = 5 ∨ k = 6 ∨ k = 7 by omega) with rfl | rfl | rfl | rfl | rfl | rfl | rfl | rfl <;> exact ⟨rfl, rfl, rfl⟩
set_option maxRecDepth 100000 in
theorem fields_any {w : World} : Calls Try.prog 25 #[] w fun e w' => e = .returned (.slice (some ⟨w.heap.size, 0, none⟩) 8 8) ∧ w' = w.alloc (.cells fC 64) := by
  go_enter Try.func25, Try.ntmps25
  go_wp2
  go_ret
  exact ⟨rfl, rfl⟩
theorem tm_is (n K : Nat) : (((n : Int) / 2 ^ K).tmod 2 == 1) = decide (n / 2 ^ K % 2 = 1) := by
  have e : (n : Int) / 2 ^ K = ((n / 2 ^ K : Nat) : Int) := by rw [pow_cast, Int.natCast_ediv]
  rw [e]
  generalize n / 2 ^ K = y
  rw [Int.tmod_eq_emod_of_nonneg (by omega), Bool.eq_iff_iff, beq_iff_eq, decide_eq_true_iff]
  omega
theorem bval_take {l : List Bool} {b : Nat} (h : b < l.length) : bval (l.take (b + 1)) = 2 * bval (l.take b) + (l.getD b false).toNat := by
  rw [List.take_succ_eq_append_getElem h, bval_snoc, List.getD_eq_getElem?_getD, List.getElem?_eq_getElem h, Option.getD_some]
theorem bval_256 {l : List Bool} (h : l.length ≤ 8) : bval l < 256 := Nat.lt_of_lt_of_le (bval_lt l) (Nat.le_trans (Nat.pow_le_pow_right (by decide) h) (by decide))
theorem Owns.bits {w : World} {base g c n : Nat} {l : List Bool} (h : Owns w base 4 Value.bool (.slice (some ⟨g, 0, none⟩) n c) l) (j : Nat) (hj : j < l.length) : w.cell? ⟨g, j, none⟩ = some (.bool (l.getD j false)) := by
  obtain ⟨g', c', e, _, hc⟩ := h.cell hj
  injection e with e1 _ _
  injection e1 with e1
  injection e1 with e1 _ _
  rw [e1, hc, List.getD_eq_getElem?_getD, List.getElem?_eq_getElem hj, Option.getD_some]
def BitR (W : World) (i : Nf) (s3 s5 : Value) (wr : World) : Prop := ∃ k : Nat, k ≤ 8 ∧ s5 = iv k ∧ Owns wr W.heap.size 4 Value.bool s3 (pb i k) ∧ Only Nix W wr
def InR (W : World) (P : List Bool) (m n : Nat) (s3 s7 : Value) (wr : World) : Prop := ∃ j : Nat, j ≤ m ∧ s7 = iv ((m : Int) - 1 - (j : Int)) ∧ Owns wr W.heap.size 4 Value.bool s3 (P ++ (bl m n).take j) ∧ Only Nix W wr
def PackR (W : World) (bs : List Bool) (s8 s9 : Value) (wr : World) : Prop := ∃ q Q : Nat, q ≤ 18 ∧ Q = 8 * q ∧ s9 = iv Q ∧ Owns wr W.heap.size 5 byt s8 (pk q bs) ∧ Only Nix W wr
def EightR (W : World) (l : List Bool) (s10 s11 : Value) (wr : World) : Prop := ∃ b : Nat, b ≤ 8 ∧ s11 = iv b ∧ s10 = iv (bval (l.take b) : Int) ∧ Only Nix W wr
def SumR (W : World) (xs s : List Nat) (s8 s12 : Value) (wr : World) : Prop := ∃ k : Nat, k ≤ 16 ∧ s12 = iv k ∧ Owns wr W.heap.size 5 byt s8 (xs ++ s.take k) ∧ Only Nix W wr
set_option maxRecDepth 100000 in
set_option maxHeartbeats 8000000 in
theorem bytesRef_any {w : World} (i : Nf) (hi : SumOk i.s) (hm : mayI i) : Calls Try.prog 15 #[.agg (nfc i)] w fun e w' => (∃ v, e = .returned v ∧ Owns w' w.heap.size 5 byt v (wrB i)) ∧ Only Nix w w' := by
  have a1 := (Only.refl Nix w).alloc (.cells (nfc i) 33)
  have b1 := Box.new w 33 (nfc i)
  obtain ⟨W1, hW1⟩ : ∃ W1, w.alloc (.cells (nfc i) 33) = W1 := ⟨_, rfl⟩
  rw [hW1] at a1 b1
  have HF := Lib.hid (@fields_any W1)
  have a2 := a1.alloc (.cells fC 64)
  have b1 := b1.alloc (.cells fC 64)
  have b2 := Box.new W1 64 fC
  obtain ⟨W2, hW2⟩ : ∃ W2, W1.alloc (.cells fC 64) = W2 := ⟨_, rfl⟩
  rw [hW2] at a2 b1 b2 HF
  have HN : Hid (∀ k, k < 8 → W2.cell? ⟨w.heap.size, k, none⟩ = some (iv (nth i k))) := Lib.hid (fun k hk => nth_cell b1 k hk)
  have HS8 : Hid (∀ k (h : k < i.s.length), W2.cell? ⟨w.heap.size, 8 + k, none⟩ = some (byt i.s[k])) := Lib.hid (fun k h => by
    rw [b1.cell, nfc_8, List.getElem?_map, List.getElem?_eq_getElem h]; rfl)
  have HT3 : Hid (∀ k, k < 8 → W2.cell? ⟨W1.heap.size, k * 3, none⟩ = some (iv (fw k : Int)) ∧ W2.cell? ⟨W1.heap.size, k * 3 + 1, none⟩ = some (iv (fb k : Int)) ∧ W2.cell? ⟨W1.heap.size, k * 3 + 2, none⟩ = some (iv (fm k : Int))) := Lib.hid (fun k hk => ⟨(b2.cell _).trans (fC_w k hk).1, (b2.cell _).trans (fC_w k hk).2.1, (b2.cell _).trans (fC_w k hk).2.2⟩)
  have HO := Lib.hid a2
  have HI := Lib.hid hi
  have HM := Lib.hid hm
  obtain ⟨C, hC⟩ : ∃ C, nfc i = C := ⟨_, rfl⟩
  rw [hC] at hW1 ⊢
  clear a1 a2 b1 b2 hC hi hm hW2
  go_enter Try.func15, Try.ntmps15
  go_wp2_with fail
  refine (HF.out).mono ?_
  rintro e w2 ⟨rfl, hw⟩
  obtain rfl := hw.symm
  clear hw
  go_wp2
  go_loopw [3, 5, 6, 7] (fun s3 s5 _ _ wr => BitR W2 i s3 s5 wr) (fun _ s5 _ _ _ => 8 - (intOf s5).toNat)
  case atStart => exact ⟨0, by decide, rfl, Owns.nil _ _ _ _, Only.refl _ _⟩
  case round =>
    obtain ⟨k, hk, rfl, h3, ho⟩ := hrel
    have H3 := Lib.hid h3
    have HOr := Lib.hid ho
    by_cases hlt : k < 8
    · have hlti : (k : Int) < 8 := by omega
      obtain ⟨c1, c2, c3⟩ := HT3.out k hlt
      have hx := HN.out (fw k) (fw_lt k hlt)
      obtain ⟨hn, hn36⟩ := fn_is HM.out k hlt
      obtain ⟨hm1, hm36⟩ := fb_le k hlt
      have hfl := fw_lt k hlt
      have hfli : (fw k : Int) < 8 := by omega
      have hpl := pb_len i k hk
      have HPk := Lib.hid hpl
      have HPs := Lib.hid (pb_succ i k)
      have hb := cell_keep ho c2
      have HC1 := Lib.hid (cell_keep ho c1)
      have HC3 := Lib.hid (cell_keep ho c3)
      have HCx := Lib.hid (cell_keep ho hx)
      have HCb := Lib.hid hb
      generalize nth i (fw k) = x at *
      generalize fw k = a at *
      generalize fb k = m at *
      generalize fm k = d at *
      generalize fn i k = n at *
      have HNn := Lib.hid hn
      have hx1 : IntKind.i64.wrap (x - (d : Int)) = (n : Int) := by rw [hn, IntKind.wrap_i64]; omega
      clear c1 c2 c3 hx h3 ho hb hpl hn
      go_wp2_with fail
      have fr_R : ∀ j s, j < 15 → (([some 20, some 21, some 22, some 23, some 24, some 25, some 26, some 27, some 28, some 29, some 30, some 31, some 32, some 33, some 6] : List (Option Nat)).all fun d => d != some s) = true → ([some 20, some 21, some 22, some 23, some 24, some 25, some 26, some 27, some 28, some 29, some 30, some 31, some 32, some 33, some 6] : List (Option Nat)).getD j none ≠ some s := by
        intro j s hj ha e
        rw [List.getD_eq_getElem?_getD, List.getElem?_eq_getElem (by exact hj), Option.getD_some] at e
        have := List.all_eq_true.1 ha _ (List.getElem_mem (by exact hj))
        rw [e] at this
        simp at this
      refine region_tel (by kernel_rfl) (fun k0 => ([some 20, some 21, some 22, some 23, some 24, some 25, some 26, some 27, some 28, some 29, some 30, some 31, some 32, some 33, some 6] : List (Option Nat)).getD k0 none) (PL [eqP (.slice (some ⟨W1.heap.size, 0, none⟩) 8 8), eqP (iv k), eqP (.pointer (some ⟨W1.heap.size, k * 3, none⟩)), eqP (.pointer (some ⟨W1.heap.size, k * 3, none⟩)), eqP (iv (a : Int)), eqP (.pointer (some ⟨w.heap.size, 0, none⟩)), eqP (.pointer (some ⟨w.heap.size, a, none⟩)), eqP (iv x), eqP (.slice (some ⟨W1.heap.size, 0, none⟩) 8 8), eqP (iv k), eqP (.pointer (some ⟨W1.heap.size, k * 3, none⟩)), eqP (.pointer (some ⟨W1.heap.size, k * 3 + 2, none⟩)), eqP (iv (d : Int)), eqP (iv (n : Int)), eqP (iv (n : Int))]) (fun _ _ => True) (fun _ u => Only Nix wr u) 89 15 rfl (by kernel_rfl) (by kernel_rfl) rfl (by kernel_rfl) (by kernel_rfl) (stab_all ⟨fun _ _ _ h _ => h, fun _ _ _ h _ => h, fun _ _ _ h _ => h, fun _ _ _ h _ => h, fun _ _ _ h _ => h, fun _ _ _ h _ => h, fun _ _ _ h _ => h, fun _ _ _ h _ => h, fun _ _ _ h _ => h, fun _ _ _ h _ => h, fun _ _ _ h _ => h, fun _ _ _ h _ => h, fun _ _ _ h _ => h, fun _ _ _ h _ => h, fun _ _ _ h _ => h, trivial⟩) ((Only.refl _ _).drew) ?stepsR (fun vs => [(20, vs 0), (21, vs 1), (22, vs 2), (23, vs 3), (24, vs 4), (25, vs 5), (26, vs 6), (27, vs 7), (28, vs 8), (29, vs 9), (30, vs 10), (31, vs 11), (32, vs 12), (33, vs 13), (6, vs 14)]) (fun vs => rfl) ?doneR
      case stepsR =>
        refine ⟨?_, ?_, ?_, ?_, ?_, ?_, ?_, ?_, ?_, ?_, ?_, ?_, ?_, ?_, ?_, trivial⟩
        · intro L vs A' u hW hL0 hnd K' hK
          have hS := hW.wi.s
          have r4 : A'.tmps[4]? = some (.slice (some ⟨W1.heap.size, 0, none⟩) 8 8) := (hW.out 4 (fun j hj => fr_R j 4 hj (by kernel_rfl))).trans rfl
          go_simp
          exact hK _ _ (by first | rfl | (show _ = _; simp)) trivial (hS)
        · intro L vs A' u hW hL0 hnd K' hK
          have hS := hW.wi.s
          have r5 : A'.tmps[5]? = some (iv k) := (hW.out 5 (fun j hj => fr_R j 5 hj (by kernel_rfl))).trans rfl
          go_simp
          exact hK _ _ (by first | rfl | (show _ = _; simp)) trivial (hS)
        · intro L vs A' u hW hL0 hnd K' hK
          have hS := hW.wi.s
          have r20 : A'.tmps[20]? = some (.slice (some ⟨W1.heap.size, 0, none⟩) 8 8) := by
            obtain ⟨x, e, h⟩ := hW.tel 0 20 (by decide) (hnd 0 (by kernel_rfl)) rfl
            rw [e]; exact congrArg some h
          have r21 : A'.tmps[21]? = some (iv k) := by
            obtain ⟨x, e, h⟩ := hW.tel 1 21 (by decide) (hnd 1 (by kernel_rfl)) rfl
            rw [e]; exact congrArg some h
          go_simp
          exact hK _ _ (by first | rfl | (show _ = _; simp)) trivial (hS)
        · intro L vs A' u hW hL0 hnd K' hK
          have hS := hW.wi.s
          have r22 : A'.tmps[22]? = some (.pointer (some ⟨W1.heap.size, k * 3, none⟩)) := by
            obtain ⟨x, e, h⟩ := hW.tel 2 22 (by decide) (hnd 2 (by kernel_rfl)) rfl
            rw [e]; exact congrArg some h
          go_simp
          exact hK _ _ (by first | rfl | (show _ = _; simp)) trivial (hS)
        · intro L vs A' u hW hL0 hnd K' hK
          have hS := hW.wi.s
          have r23 : A'.tmps[23]? = some (.pointer (some ⟨W1.heap.size, k * 3, none⟩)) := by
            obtain ⟨x, e, h⟩ := hW.tel 3 23 (by decide) (hnd 3 (by kernel_rfl)) rfl
            rw [e]; exact congrArg some h
          have hc := cell_keep hS HC1.out
          go_simp
          exact hK _ _ (by first | rfl | (show _ = _; simp)) trivial (hS)
        · intro L vs A' u hW hL0 hnd K' hK
          have hS := hW.wi.s
          have r1 : A'.tmps[1]? = some (.pointer (some ⟨w.heap.size, 0, none⟩)) := (hW.out 1 (fun j hj => fr_R j 1 hj (by kernel_rfl))).trans rfl
          go_simp
          exact hK _ _ (by first | rfl | (show _ = _; simp)) trivial (hS)
        · intro L vs A' u hW hL0 hnd K' hK
          have hS := hW.wi.s
          have r25 : A'.tmps[25]? = some (.pointer (some ⟨w.heap.size, 0, none⟩)) := by
            obtain ⟨x, e, h⟩ := hW.tel 5 25 (by decide) (hnd 5 (by kernel_rfl)) rfl
            rw [e]; exact congrArg some h
          have r24 : A'.tmps[24]? = some (iv (a : Int)) := by
            obtain ⟨x, e, h⟩ := hW.tel 4 24 (by decide) (hnd 4 (by kernel_rfl)) rfl
            rw [e]; exact congrArg some h
          go_simp
          exact hK _ _ (by first | rfl | (show _ = _; simp)) trivial (hS)
        · intro L vs A' u hW hL0 hnd K' hK
          have hS := hW.wi.s
          have r26 : A'.tmps[26]? = some (.pointer (some ⟨w.heap.size, a, none⟩)) := by
            obtain ⟨x, e, h⟩ := hW.tel 6 26 (by decide) (hnd 6 (by kernel_rfl)) rfl
            rw [e]; exact congrArg some h
          have hc := cell_keep hS HCx.out
          go_simp
          exact hK _ _ (by first | rfl | (show _ = _; simp)) trivial (hS)
        · intro L vs A' u hW hL0 hnd K' hK
          have hS := hW.wi.s
          have r4 : A'.tmps[4]? = some (.slice (some ⟨W1.heap.size, 0, none⟩) 8 8) := (hW.out 4 (fun j hj => fr_R j 4 hj (by kernel_rfl))).trans rfl
          go_simp
          exact hK _ _ (by first | rfl | (show _ = _; simp)) trivial (hS)
        · intro L vs A' u hW hL0 hnd K' hK
          have hS := hW.wi.s
          have r5 : A'.tmps[5]? = some (iv k) := (hW.out 5 (fun j hj => fr_R j 5 hj (by kernel_rfl))).trans rfl
          go_simp
          exact hK _ _ (by first | rfl | (show _ = _; simp)) trivial (hS)
        · intro L vs A' u hW hL0 hnd K' hK
          have hS := hW.wi.s
          have r28 : A'.tmps[28]? = some (.slice (some ⟨W1.heap.size, 0, none⟩) 8 8) := by
            obtain ⟨x, e, h⟩ := hW.tel 8 28 (by decide) (hnd 8 (by kernel_rfl)) rfl
            rw [e]; exact congrArg some h
          have r29 : A'.tmps[29]? = some (iv k) := by
            obtain ⟨x, e, h⟩ := hW.tel 9 29 (by decide) (hnd 9 (by kernel_rfl)) rfl
            rw [e]; exact congrArg some h
          go_simp
          exact hK _ _ (by first | rfl | (show _ = _; simp)) trivial (hS)
        · intro L vs A' u hW hL0 hnd K' hK
          have hS := hW.wi.s
          have r30 : A'.tmps[30]? = some (.pointer (some ⟨W1.heap.size, k * 3, none⟩)) := by
            obtain ⟨x, e, h⟩ := hW.tel 10 30 (by decide) (hnd 10 (by kernel_rfl)) rfl
            rw [e]; exact congrArg some h
          go_simp
          exact hK _ _ (by first | rfl | (show _ = _; simp)) trivial (hS)
        · intro L vs A' u hW hL0 hnd K' hK
          have hS := hW.wi.s
          have r31 : A'.tmps[31]? = some (.pointer (some ⟨W1.heap.size, k * 3 + 2, none⟩)) := by
            obtain ⟨x, e, h⟩ := hW.tel 11 31 (by decide) (hnd 11 (by kernel_rfl)) rfl
            rw [e]; exact congrArg some h
          have hc := cell_keep hS HC3.out
          go_simp
          exact hK _ _ (by first | rfl | (show _ = _; simp)) trivial (hS)
        · intro L vs A' u hW hL0 hnd K' hK
          have hS := hW.wi.s
          have r27 : A'.tmps[27]? = some (iv x) := by
            obtain ⟨x, e, h⟩ := hW.tel 7 27 (by decide) (hnd 7 (by kernel_rfl)) rfl
            rw [e]; exact congrArg some h
          have r32 : A'.tmps[32]? = some (iv (d : Int)) := by
            obtain ⟨x, e, h⟩ := hW.tel 12 32 (by decide) (hnd 12 (by kernel_rfl)) rfl
            rw [e]; exact congrArg some h
          go_simp
          exact hK _ _ (by first | rfl | (show _ = _; simp)) trivial (hS)
        · intro L vs A' u hW hL0 hnd K' hK
          have hS := hW.wi.s
          have r33 : A'.tmps[33]? = some (iv (n : Int)) := by
            obtain ⟨x, e, h⟩ := hW.tel 13 33 (by decide) (hnd 13 (by kernel_rfl)) rfl
            rw [e]; exact congrArg some h
          go_simp
          exact hK _ _ (by first | rfl | (show _ = _; simp)) trivial (hS)
      case doneR =>
        intro L vs u9 hS hP hall
        have e0 : vs 0 = .slice (some ⟨W1.heap.size, 0, none⟩) 8 8 := hP 0 (by decide)
        have e1 : vs 1 = iv k := hP 1 (by decide)
        have e2 : vs 2 = .pointer (some ⟨W1.heap.size, k * 3, none⟩) := hP 2 (by decide)
        have e3 : vs 3 = .pointer (some ⟨W1.heap.size, k * 3, none⟩) := hP 3 (by decide)
        have e4 : vs 4 = iv (a : Int) := hP 4 (by decide)
        have e5 : vs 5 = .pointer (some ⟨w.heap.size, 0, none⟩) := hP 5 (by decide)
        have e6 : vs 6 = .pointer (some ⟨w.heap.size, a, none⟩) := hP 6 (by decide)
        have e7 : vs 7 = iv x := hP 7 (by decide)
        have e8 : vs 8 = .slice (some ⟨W1.heap.size, 0, none⟩) 8 8 := hP 8 (by decide)
        have e9 : vs 9 = iv k := hP 9 (by decide)
        have e10 : vs 10 = .pointer (some ⟨W1.heap.size, k * 3, none⟩) := hP 10 (by decide)
        have e11 : vs 11 = .pointer (some ⟨W1.heap.size, k * 3 + 2, none⟩) := hP 11 (by decide)
        have e12 : vs 12 = iv (d : Int) := hP 12 (by decide)
        have e13 : vs 13 = iv (n : Int) := hP 13 (by decide)
        have e14 : vs 14 = iv (n : Int) := hP 14 (by decide)
        simp only [putV, List.foldl_cons, List.foldl_nil, List.setIfInBounds_toArray, List.set_cons_zero, List.set_cons_succ, e0, e1, e2, e3, e4, e5, e6, e7, e8, e9, e10, e11, e12, e13, e14]
        have XO := Lib.hid hS
        clear e0 e1 e2 e3 e4 e5 e6 e7 e8 e9 e10 e11 e12 e13 e14 hP hall fr_R hS
        have hb := cell_keep XO.out HCb.out
        go_wp2
        go_loopw [3, 7] (fun s3 s7 wr => InR W2 (pb i k) m n s3 s7 wr) (fun _ s7 _ => (intOf s7 + 1).toNat)
        case atStart => exact ⟨0, Nat.zero_le _, by go_num, by simpa using H3.out.nix XO.out, HOr.out.trans XO.out⟩
        case round =>
          obtain ⟨j, hj, rfl, h3, ho⟩ := hrel
          have H3j := Lib.hid h3
          have HOj := Lib.hid ho
          have HSzj := Lib.hid ho.size
          clear h3 ho
          by_cases hjm : j < m
          · obtain ⟨K, hK⟩ : ∃ K : Nat, m - 1 - j = K := ⟨_, rfl⟩
            have hKi : (m : Int) - 1 - (j : Int) = (K : Int) := by omega
            have HT := Lib.hid (bl_take m n j hjm)
            rw [hK] at HT
            have hK7 : K ≤ 35 := by omega
            rw [hKi]
            have HK := Lib.hid hKi
            have HLn : Hid ((pb i k ++ (bl m n).take j).length ≤ 100000) := Lib.hid (by have := HPk.out; rw [List.length_append, List.length_take, bl_len]; omega)
            clear hK hKi
            go_wp2_with (at_builtin; refine app_bool rfl (.tmp 44) (.tmp 50) rfl W2.heap.size u3 (pb i k ++ (bl m n).take j) rfl ?own1 wr.heap.size (decide (n / 2 ^ K % 2 = 1)) rfl ?cell1 HLn.out ?base1 ?rest1)
            case own1 => exact World.ownsRow.alloc H3j.out _
            case base1 => have := HSzj.out; simp; omega
            case cell1 =>
              have e : (((n : Int) / 2 ^ K).tmod 2 == 1) = decide (n / 2 ^ K % 2 = 1) := tm_is n K
              rw [e]
              exact (Box.new wr 4 #[.bool (decide (n / 2 ^ K % 2 = 1))]).cell 0
            case rest1 =>
              intro v1 w1 r1 g1 m1
              have H31 := Lib.hid r1
              have HO1 : Hid (Only Nix W2 w1) := Lib.hid ((HOj.out.alloc _).grew g1 (fun g hg => (H3j.out.lt hg).1))
              clear r1 g1 m1
              go_wp2
              go_roundw
              case rel => exact ⟨j + 1, hjm, by rw [← HK.out]; go_num, by rw [HT.out, ← List.append_assoc]; simpa using H31.out, HO1.out⟩
              case measure => simp [intOf]
          · obtain rfl : j = m := by omega
            have hneg : (j : Int) - 1 - (j : Int) = -1 := by omega
            rw [hneg]
            have HE : Hid ((bl j n).take j = bl j n) := Lib.hid (List.take_of_length_le (by rw [bl_len]; exact Nat.le_refl _))
            clear hneg
            go_wp2
            go_roundw
            case rel => exact ⟨k + 1, hlt, by go_num, by rw [HPs.out, ← HE.out]; exact H3j.out, HOj.out⟩
            case measure => simp [intOf]; omega
    · obtain rfl : k = 8 := by omega
      have hl := pb_144 i
      obtain ⟨W3, rfl⟩ : ∃ W3, W3 = wr := ⟨_, rfl⟩
      obtain ⟨g, c, rfl, hc, hq0⟩ := h3.cell (j := 0) (by rw [hl]; decide)
      have hlt3 := (h3.lt (g := g) rfl).2
      have HBit : Hid (∀ j, j < 144 → W3.cell? ⟨g, j, none⟩ = some (.bool ((pb i 8).getD j false))) := Lib.hid (fun j hj => h3.bits j (by rw [hl]; exact hj))
      have HPW := Lib.hid (pk_wr HM.out)
      have HL := Lib.hid hl
      have HO3 := Lib.hid (HO.out.trans ho)
      have HS3 : Hid (∀ k (h : k < i.s.length), W3.cell? ⟨w.heap.size, 8 + k, none⟩ = some (byt i.s[k])) := Lib.hid (fun k h => cell_keep ho (HS8.out k h))
      rw [hl]
      clear hq0 h3 ho hl hc H3 HOr
      generalize pb i 8 = bs at *
      rw [show ((8 : Nat) : Int) = 8 from rfl]
      go_wp2
      go_loopw [8, 9, 10, 11] (fun s8 s9 _ _ wr => PackR W3 bs s8 s9 wr) (fun _ s9 _ _ _ => 144 - (intOf s9).toNat)
      case atStart => exact ⟨0, 0, by decide, rfl, rfl, Owns.nil _ _ _ _, Only.refl _ _⟩
      case round =>
        obtain ⟨q, Q, hq, hQ, rfl, h8, ho⟩ := hrel
        obtain ⟨U, rfl⟩ : ∃ U, U = wr := ⟨_, rfl⟩
        have H8 := Lib.hid h8
        have HOu := Lib.hid ho
        clear h8 ho
        by_cases hlt : q < 18
        · have hlti : (Q : Int) < 144 := by omega
          have HPk := Lib.hid (pk_succ q bs)
          rw [← hQ] at HPk
          have HQ := Lib.hid hQ
          have hQ136 : Q ≤ 136 := by omega
          clear hQ
          have HLl : Hid (((bs.drop Q).take 8).length = 8) := Lib.hid (by rw [List.length_take, List.length_drop, HL.out]; omega)
          have HLj : Hid (∀ b, b < 8 → ((bs.drop Q).take 8).getD b false = bs.getD (Q + b) false) := Lib.hid (fun b hb => by
            rw [List.getD_eq_getElem?_getD, List.getElem?_take_of_lt hb, List.getElem?_drop, List.getD_eq_getElem?_getD])
          generalize (bs.drop Q).take 8 = l at *
          go_wp2
          go_loopw [10, 11] (fun s10 s11 u => EightR U l s10 s11 u) (fun _ s11 _ => 8 - (intOf s11).toNat)
          case atStart => exact ⟨0, by decide, rfl, rfl, Only.refl _ _⟩
          case round =>
            obtain ⟨b, hb, rfl, rfl, ho⟩ := hrel
            obtain ⟨V, rfl⟩ : ∃ V, V = wr := ⟨_, rfl⟩
            have HOv := Lib.hid ho
            clear ho
            by_cases hb8 : b < 8
            · have hx := cell_keep (HOu.out.trans HOv.out) (HBit.out (Q + b) (by omega))
              rw [← HLj.out b hb8] at hx
              have HT := Lib.hid (bval_take (l := l) (b := b) (by rw [HLl.out]; exact hb8))
              have hN : bval (l.take b) < 256 := bval_256 (by rw [List.length_take]; omega)
              generalize l.getD b false = x at *
              generalize bval (l.take b) = N at *
              have hQb : Q + b < 144 := by omega
              have hQbi : (Q : Int) + (b : Int) < 144 := by omega
              have hbi : (b : Int) < 8 := by omega
              have hTN : ((Q : Int) + (b : Int)).toNat = Q + b := by omega
              cases x with
              | true =>
                go_wp2
                go_roundw
                case rel => exact ⟨b + 1, hb8, by go_num, by rw [HT.out]; go_num, HOv.out⟩
                case measure => simp [intOf]; omega
              | false =>
                go_wp2
                go_roundw
                case rel => exact ⟨b + 1, hb8, by go_num, by rw [HT.out]; go_num, HOv.out⟩
                case measure => simp [intOf]; omega
            · obtain rfl : b = 8 := by omega
              rw [List.take_of_length_le (by rw [HLl.out]; exact Nat.le_refl _)]
              have hN : bval l < 256 := bval_256 (by rw [HLl.out]; exact Nat.le_refl _)
              have HNN := Lib.hid hN
              generalize bval l = N at *
              have HLp : Hid ((pk q bs).length ≤ 100000) := Lib.hid (by rw [pk_len]; omega)
              have HSz := Lib.hid (HOu.out.trans HOv.out).size
              go_wp2_with (at_builtin; refine app_byte rfl (.tmp 72) (.tmp 75) rfl W3.heap.size u8 (pk q bs) rfl ?own2 V.heap.size N rfl ?cell2 HLp.out ?base2 ?rest2)
              case own2 => exact World.ownsRow.alloc (H8.out.nix HOv.out) _
              case base2 => have := HSz.out; simp; omega
              case cell2 =>
                exact (Box.new V 5 #[byt N]).cell 0
              case rest2 =>
                intro v1 w1 r1 g1 m1
                have H81 := Lib.hid r1
                have HO1 : Hid (Only Nix W3 w1) := Lib.hid (((HOu.out.trans HOv.out).alloc _).grew g1 (fun g hg => (H8.out.lt hg).1))
                clear r1 g1 m1
                go_wp2
                go_roundw
                case rel => exact ⟨q + 1, Q + 8, hlt, by have := HQ.out; omega, by go_num, by rw [HPk.out]; simpa using H81.out, HO1.out⟩
                case measure => simp [intOf]; omega
        · obtain rfl : q = 18 := by omega
          obtain rfl : Q = 144 := by omega
          rw [show ((144 : Nat) : Int) = 144 from rfl]
          clear hQ
          go_wp2
          go_loopw [8, 12] (fun s8 s12 wr => SumR W3 (pk 18 bs) i.s s8 s12 wr) (fun _ s12 _ => 16 - (intOf s12).toNat)
          case atStart => exact ⟨0, by decide, rfl, by simpa using H8.out, HOu.out⟩
          case round =>
            obtain ⟨k, hk, rfl, h8, ho⟩ := hrel
            obtain ⟨V, rfl⟩ : ∃ V, V = wr := ⟨_, rfl⟩
            have H8k := Lib.hid h8
            have HOv := Lib.hid ho
            have HSz := Lib.hid ho.size
            clear h8 ho
            by_cases hk16 : k < 16
            · have hks : k < i.s.length := by rw [HI.out.1]; exact hk16
              have hx : V.cell? ⟨w.heap.size, 8 + k, none⟩ = some (.int .u8 ((i.s[k] : Nat) : Int)) := cell_keep HOv.out (HS3.out k hks)
              have HT := Lib.hid (List.take_succ_eq_append_getElem hks)
              have hlti : (k : Int) < 16 := by omega
              generalize i.s[k] = x at *
              have HLp : Hid ((pk 18 bs ++ i.s.take k).length ≤ 100000) := Lib.hid (by rw [List.length_append, pk_len, List.length_take]; omega)
              clear hks
              go_wp2_with (at_builtin; refine app_byte rfl (.tmp 81) (.tmp 86) rfl W3.heap.size u8 (pk 18 bs ++ i.s.take k) rfl ?own3 V.heap.size x rfl ?cell3 HLp.out ?base3 ?rest3)
              case own3 => exact World.ownsRow.alloc H8k.out _
              case base3 => have := HSz.out; simp; omega
              case cell3 =>
                exact (Box.new V 5 #[byt x]).cell 0
              case rest3 =>
                intro v1 w1 r1 g1 m1
                have H81 := Lib.hid r1
                have HO1 : Hid (Only Nix W3 w1) := Lib.hid ((HOv.out.alloc _).grew g1 (fun g hg => (H8k.out.lt hg).1))
                clear r1 g1 m1
                go_wp2
                go_roundw
                case rel => exact ⟨k + 1, hk16, by go_num, by rw [HT.out, ← List.append_assoc]; simpa using H81.out, HO1.out⟩
                case measure => simp [intOf]; omega
            · obtain rfl : k = 16 := by omega
              have HE : Hid (pk 18 bs ++ i.s.take 16 = wrB i) := Lib.hid (by rw [List.take_of_length_le (by rw [HI.out.1]; exact Nat.le_refl _)]; exact HPW.out)
              go_wp2
              go_ret
              exact ⟨⟨_, rfl, by rw [← HE.out]; exact H8k.out.down HO3.out.size⟩, HO3.out.trans HOv.out⟩
end Go.Proofs.Ytpgcaijanmpanaa
